/-
  pinned: slices.Sorted(maps.Keys(b.pins)).
-/
import Derived.Test.YtbmohlkcmhhpgaaGreatBkThinH
import Derived.Test.YtbmohlkcmhhpgaaGreatShelf6
import Derived.Shelf.SlIterI.Nil
import Derived.Shelf.SortM.Plain
import Derived.Shelf.SortM.SortNone
namespace Go.Proofs.YtbmohlkcmhhpgaaGreat
open Go.RowKit Go.Sort Go.Maps Go.Shelf

/-- no element is read -/
abbrev R0 : Value → Option (DataW Unit × List MemPlace) := fun _ => some (.nil, [])
theorem ownsPins {w : World} {M : Nat} {es : List (Int × Value)} (h : MAt ei In64 w M es) (hl : es.length ≤ 1000) : ∃ D0 : DataW Unit, w.ownsMap Tryz.prog 3 R0 M es.length D0 ∧ (intKeys D0).Perm (es.map Prod.fst) ∧ Maps.size D0 = es.length := by
  obtain ⟨ms, clock, h1, h2, h3, h4⟩ := h.ex
  have hsz : ms.size = es.length := by have := congrArg List.length h2; simpa using this
  have hkey : ∀ x ∈ ms.toList, ∃ n, x.key = ei n ∧ In64 n := fun x hx => by
    have h5 : (x.key, x.val) ∈ es.map (fun e => (ei e.1, e.2)) := by rw [← h2]; exact List.mem_map.2 ⟨x, hx, rfl⟩
    obtain ⟨e, he, h6⟩ := List.mem_map.1 h5
    exact ⟨e.1, (Prod.mk.inj h6).1.symm, h.dm e he⟩
  have hrd : ∀ x ∈ ms.toList, WideElems.rd Tryz.prog 3 R0 x = some (.int .i64 (intOf x.key), .nil) := fun x hx => by
    obtain ⟨n, hn, hin⟩ := hkey x hx
    unfold WideElems.rd
    rw [hn, Maps.keyOf_int_mk Tryz.underlying3 (WalkArith.wf_i64 hin)]
    rfl
  have hkeys : ms.toList.map (fun x => x.key) = es.map (fun e => ei e.1) := by
    have := congrArg (List.map Prod.fst) h2
    simpa [List.map_map, Function.comp_def] using this
  have hkn : (ms.toList.map (fun x => x.key)).Nodup := by
    rw [hkeys]
    have h5 : es.map (fun e => ei e.1) = (es.map Prod.fst).map ei := by simp [List.map_map, Function.comp_def]
    rw [h5]
    exact List.Pairwise.map ei (fun a b hab e => hab (ei_inj e)) h.kn
  have hrg : ms.toList.map (WideElems.rg Tryz.prog 3 R0) = es.map (fun e => (Lit.int .i64 e.1, DataW.nil)) := by
    have h5 : ms.toList.map (WideElems.rg Tryz.prog 3 R0) = ms.toList.map (fun x => (Lit.int .i64 (intOf x.key), DataW.nil)) := List.map_congr_left (fun x hx => by unfold WideElems.rg; rw [hrd x hx]; rfl)
    rw [h5]
    have h6 := congrArg (List.map (fun k => (Lit.int .i64 (intOf k), (DataW.nil : DataW Unit)))) hkeys
    simp only [List.map_map, Function.comp_def] at h6
    rw [h6]
    rfl
  refine ⟨.map ((ms.toList.map (WideElems.rg Tryz.prog 3 R0)).foldr DataW.insert []), ⟨ms, clock, h1, ⟨by unfold maxLen; omega, ⟨h4, h3, hkn⟩, fun x hx => ⟨_, hrd x hx⟩⟩, by omega, rfl⟩, ?_, ?_⟩
  · refine (List.Perm.map _ (WideShapes.sorted_perm _)).trans ?_
    rw [hrg, List.map_map]
    exact List.Perm.of_eq rfl
  · have h5 := (WideShapes.sorted_perm (ms.toList.map (WideElems.rg Tryz.prog 3 R0))).length_eq
    exact h5.trans (by rw [List.length_map]; simpa using hsz)
theorem sortsP (m : Nat) : AnyZI.SortsIn Tryz.prog laysSorted_ren Fence.wide m :=
  ⟨fun blk off cap ss W hH hblk hsz => callsIn_wide.2 (AnyM.slices_Sort_int laysSortI blk off cap ss W hH hblk hsz),
   fun p cap W => callsIn_wide.2 (AnyM.slices_Sort_int_none laysSortI p cap W)⟩
/-- what pinned hands out -/
def PinnedPost (w : World) (pins : List (Int × Int)) (e : Ending) (w' : World) : Prop :=
  ∃ (v : Value) (d : List Int), e = .returned v ∧ d.Pairwise (· < ·) ∧ d.Perm (pins.map Prod.fst) ∧ w'.ownsRow w.heap.size 3 1 v d.length (d.map ei) ∧ Below w.heap.size w w'
theorem sorted_lt {l : List Int} (hn : l.Nodup) : (l.mergeSort (fun x y => decide (x ≤ y))).Pairwise (· < ·) := by
  have h1 : (l.mergeSort (fun x y => decide (x ≤ y))).Pairwise (fun x y => decide (x ≤ y) = true) := List.pairwise_mergeSort (fun a b c h1 h2 => by simp at *; omega) (fun a b => by simp; omega) l
  have h2 : (l.mergeSort (fun x y => decide (x ≤ y))).Nodup := (List.mergeSort_perm l _).nodup_iff.2 hn
  have h3 := List.Pairwise.and h1 h2
  exact h3.imp (fun {a b} h => by have h4 := h.1; have h5 := h.2; simp at h4; omega)
set_option maxHeartbeats 1000000 in
theorem pinned_any (w : World) (B Mp Mc Mn : Nat) (cap latest floor : Int) (pins : List (Int × Int)) (all : List V4) (nw : List K) (h : BA w B Mp Mc Mn cap latest floor pins all nw) :
    Calls Tryz.prog 45 #[ptr B] w fun e w' => PinnedPost w pins e w' := by
  obtain ⟨_, _, _, c3, _, _⟩ := h.cells
  have hMl := h.mp.lt
  obtain ⟨D0, hown, hper, hsz⟩ := ownsPins h.mp (by have := h.ps.1; simp; omega)
  have hmax : Maps.size D0 ≤ maxLen := by have := h.ps.1; rw [hsz, List.length_map]; unfold maxLen; omega
  have hbytes : Maps.size D0 * 8 ≤ 140737488355328 := by have := h.ps.1; rw [hsz, List.length_map]; omega
  have hkn : (pins.map Prod.fst).Nodup := by have := h.mp.kn; simpa [List.map_map, Function.comp_def] using this
  have hper' : (intKeys D0).Perm (pins.map Prod.fst) := by simpa [List.map_map, Function.comp_def] using hper
  clear h
  refine (callsIn_wide (n := 6)).1 ?_
  have hseq : SeqGives Fence.wide 2 Tryz.prog 77 #[.pointer (some ⟨w.heap.size, 0, none⟩)] encZ (fun ss => ss.Perm (intKeys D0)) (Maps.size D0) (w.alloc (.cells #[.map (some Mp)] 84)) :=
    AnyZI.keys_gives (ρ := laysKeys_ren) { laysKeys with } Fence.wide _ trivial rfl (by omega) w.heap.size Mp _ D0 _ (by simp) (by simp) (by
      obtain ⟨es, clock, hb, Ft, hs, hD⟩ := hown
      exact ⟨es, clock, (Below.heap_alloc _ _ Mp hMl).trans hb, Ft, hs, hD⟩)
  have cK : ∀ mb W, CallsIn Fence.wide 5 Tryz.prog 65 #[.map mb] W fun e w' => e = .returned (.func (.func 77) #[] #[.pointer (some ⟨W.heap.size, 0, none⟩)]) ∧ w' = W.alloc (.cells #[.map mb] 84) := fun mb W => AnyZI.keys_in laysKeys Fence.wide 5 trivial rfl mb W
  have cS := AnyZI.sorted_in laysSorted Fence.wide 5 trivial trivial trivial trivial rfl (by omega) (sortsP _) (enters_of Tryz.func76 (by kernel_rfl) rfl) 77 #[.pointer (some ⟨w.heap.size, 0, none⟩)] trivial (enters_of Tryz.func77 (by kernel_rfl) rfl) _ _ hmax hbytes _ hseq
  change CallsIn _ _ Tryz.prog 64 _ _ _ at cS
  have hfK : Fence.wide.fn 65 := trivial
  have hfS : Fence.wide.fn 64 := trivial
  clear hseq hown
  refine callsIn_of_wp Tryz.func45 rfl trivial ?_ rfl
  simp only [Tryz.ntmps45, List.size_toArray, List.length_cons, List.length_nil, Nat.reduceAdd, Nat.reduceSub, Array.replicate_succ, Array.replicate_zero, List.push_toArray, List.append_toArray, List.nil_append, List.cons_append]
  gi_wp2_with (first
    | (gi_at_call 65; refine (cK _ _).mono ?_; rintro e w' ⟨rfl, rfl⟩)
    | (gi_at_call 64; refine cS.mono ?_; rintro e w' ⟨v, ss, rfl, hS, hrow, hnil, hb⟩))
  go_ret
  have hpp : (ss.mergeSort (fun x y => decide (x ≤ y))).Perm (pins.map Prod.fst) := (List.mergeSort_perm _ _).trans (hS.trans hper')
  refine ⟨v, ss.mergeSort (fun x y => decide (x ≤ y)), rfl, sorted_lt ((hS.trans hper').nodup_iff.2 hkn), hpp, ?_, ((Below.refl _ w).alloc (Nat.le_refl _) _).trans (hb.mono (by simp))⟩
  have h9 := ownsRow_base_a hrow (by simp : w.heap.size ≤ (w.alloc (.cells #[.map (some Mp)] 84)).heap.size)
  rw [List.length_mergeSort]
  exact h9
end Go.Proofs.YtbmohlkcmhhpgaaGreat
