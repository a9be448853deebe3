/-
  watched AND Drops.
-/
import Derived.Test.YtmelbebjcdkbdaaWRefD
import Derived.Test.YtmelbebjcdkbdaaShelf8
namespace Go.Proofs.Ytmelbebjcdkbdaa
open Go.RowKit Go.Sort Go.Shelf

theorem WI.holds {w : World} {g : Nat} {L : List Int} (h : WI w g L) : Holds (Value.int .i64) w g 0 L.toArray := fun j hj => by
  have hj' : j < L.length := by simpa using hj
  refine ⟨?_, h.frozen _⟩
  rw [Nat.zero_add, h.cell (List.getElem?_eq_getElem hj')]
  simp [hj']
theorem sortI_anyW (w : World) (g n : Nat) (L : List Int) (h : WI w g L) (hn : n = L.length) (hm : n ≤ 140737488355328) :
    Calls Try.prog 12 #[.slice (some ⟨g, 0, none⟩) n n] w fun e w' => e = .returned (.tuple #[]) ∧ ∃ S, WI w' g S ∧ S.Pairwise (· ≤ ·) ∧ S.Perm L ∧ w.grownBy w' (some g) := by
  have hc := AnyM.slices_Sort_int laysSortI g 0 n L w h.holds h.lt (by omega)
  rw [← hn] at hc
  refine Calls.mono hc ?_
  rintro e w' ⟨rfl, q, os, rfl⟩
  obtain ⟨S, hS⟩ : ∃ S, S = L.mergeSort (fun x y => decide (x ≤ y)) := ⟨_, rfl⟩
  have hl : S.length = L.length := by rw [hS, List.length_mergeSort]
  have hp : S.Pairwise (fun x y => decide (x ≤ y) = true) := by rw [hS]; exact List.pairwise_mergeSort (fun a b c h1 h2 => by simp at *; omega) (fun a b => by simp; omega) L
  rw [← hS]
  have hgl := h.lt
  refine ⟨rfl, S, ?_, hp.imp (fun {a b} h => by simpa using h), by rw [hS]; exact List.mergeSort_perm _ _, ⟨rfl, rfl, rfl, ?_, fun k hk hne => ?_⟩⟩
  · unfold WI
    rw [heap_grow_old _ _ (by simpa [putRow, mapBlock, Sort.ahead] using hgl)]
    have h1 : (putRow (Value.int .i64) (Sort.ahead w q) g 0 S.toArray).heap[g]? = some (.cells (putCells (Value.int .i64) 0 S.toArray (intsW L)) 3 (0, 0)) := by
      simp [putRow, mapBlock, Sort.ahead, Array.getElem?_modify, show w.heap[g]? = _ from h, onCells]
    rw [h1]
    congr 2
    apply Array.ext
    · simp [putCells, intsW, i64s, hl]
    · intro i h1 h2
      have h3 : i < S.length := by simpa [intsW, i64s] using h2
      simp [putCells, intsW, i64s, h3]
  · simp [Sort.grow, putRow, mapBlock, Sort.ahead]
  · rw [heap_grow_old _ _ (by simpa [putRow, mapBlock, Sort.ahead] using hk)]
    have : ¬ g = k := fun e => hne (by rw [e])
    simp [putRow, mapBlock, Sort.ahead, Array.getElem?_modify, this]
theorem copy_intsW (w : World) (g m cp : Nat) (po : Option Addr) (ps : List Int) (hm : m = ps.length) (hp : WAt w po (i64s ps)) (h : WI w g (List.replicate (m + 1) 0)) :
    ∃ w2, (∀ ty, (Builtin.copy_ #[23, 23] ty #[.slice (some ⟨g, 0, none⟩) (m + 1) (m + 1), .slice po m cp]).run Try.prog w = .ok (.int .i64 (m : Int)) w2) ∧ WI w2 g (ps ++ [0]) ∧ w.grownBy w2 (some g) := by
  obtain ⟨i0, hi, hz0, hz1, hz2⟩ := info_parts infoWI
  have hs1 : (Try.prog.info? 3).map (·.size) = some 1 := by rw [hi]; simp [hz1]
  rcases Nat.eq_zero_or_pos m with h0 | h0
  · subst h0
    have e : ps = [] := List.eq_nil_of_length_eq_zero hm.symm
    subst e
    refine ⟨w, fun ty => ?_, by simpa using h, World.grownBy.refl _ _⟩
    exact run_copy_none (P := Try.prog) w 23 23 ty 3 _ po (0 + 1) (0 + 1) 0 cp Try.underlying23 hs1 (by simp)
  · obtain ⟨b, off, rfl, _⟩ := hp.int 0 (by omega)
    have hcs : (i64s ps).length = m := by simp [i64s, hm]
    refine ⟨w.setRow g (((intsW (List.replicate (m + 1) 0)).toList.take 0 ++ i64s ps ++ (intsW (List.replicate (m + 1) 0)).toList.drop (0 + (i64s ps).length)).toArray), fun ty => ?_, ?_, ?_⟩
    · have hr := run_copy_row (P := Try.prog) w 23 23 ty 3 g 0 (m + 1) (m + 1) ⟨b, off, none⟩ m cp (intsW (List.replicate (m + 1) 0)) 3 (i64s ps) Try.underlying23 hs1 h (by rw [hcs]; simp) (fun j u hu => by
        obtain ⟨b', off', e, h3⟩ := hp j u hu
        cases e
        rw [addW]
        exact h3) (by rw [hcs]; simp [intsW, i64s]) (i64s_one ps)
      rw [hr, hcs]
      rfl
    · unfold WI
      have hb : (w.setRow g (((intsW (List.replicate (m + 1) 0)).toList.take 0 ++ i64s ps ++ (intsW (List.replicate (m + 1) 0)).toList.drop (0 + (i64s ps).length)).toArray)).heap[g]? = some (.cells (((intsW (List.replicate (m + 1) 0)).toList.take 0 ++ i64s ps ++ (intsW (List.replicate (m + 1) 0)).toList.drop (0 + (i64s ps).length)).toArray) 3 (0, 0)) := by
        simp only [World.setRow, Array.getElem?_modify, show w.heap[g]? = _ from h]
        rfl
      rw [hb, hcs]
      congr 2
      simp [intsW, i64s]
    · refine ⟨rfl, rfl, rfl, by simp [World.setRow], fun k hk hne => ?_⟩
      have : ¬ g = k := fun e => hne (by rw [e])
      simp [World.setRow, Array.getElem?_modify, this]
/-- what watched hands out -/
def WatchPost (w : World) (fl : Int) (ps : List Int) (m : Nat) (e : Ending) (w' : World) : Prop :=
  ∃ g S, e = .returned (.slice (some ⟨g, 0, none⟩) (m + 1) (m + 1)) ∧ w.heap.size ≤ g ∧ WI w' g S ∧ S.Pairwise (· ≤ ·) ∧ S.Perm (ps ++ [fl]) ∧ Below w.heap.size w w'
theorem grown_belowW {w w1 : World} {row : Option Nat} {B : Nat} (h : w.grownBy w1 row) (hr : ∀ k, row = some k → B ≤ k) (hB : B ≤ w.heap.size) : Below B w w1 :=
  ⟨h.os, h.tape, h.output, h.size, fun k hk => h.block k (by omega) (fun e => by have := hr k e.symm; omega)⟩
set_option maxHeartbeats 1000000 in
theorem watched_anyW (w : World) (fl : Int) (po : Option Addr) (m cp : Nat) (ps : List Int) (hp : WAt w po (i64s ps)) (hm : m = ps.length) (hb : m ≤ 17592186044000) :
    Calls Try.prog 10 #[.int .i64 fl, .slice po m cp] w fun e w' => WatchPost w fl ps m e w' := by
  obtain ⟨N, hN⟩ : ∃ N, N = m + 1 := ⟨_, rfl⟩
  have hmk := fun u => make_intsW N ((m : Int) + 1) (by omega) (by omega) u
  obtain ⟨W, hW⟩ : ∃ W, W = w.alloc (.cells (intsW (List.replicate N 0)) 3) := ⟨_, rfl⟩
  have hB0 : Below w.heap.size w W := by rw [hW]; exact (Below.refl _ _).alloc (Nat.le_refl _) _
  have hR0 : WI W w.heap.size (List.replicate (m + 1) 0) := by rw [hW, ← hN]; exact heap_alloc_new _ _ rfl
  obtain ⟨W2, hcp, hR2, hg2⟩ := copy_intsW W w.heap.size m cp po ps hm (hp.below hB0) hR0
  rw [← hN] at hcp
  have hB2 : Below w.heap.size w W2 := hB0.trans (grown_belowW hg2 (fun k e => by cases e; exact Nat.le_refl _) hB0.size)
  have f0 := hR2.frozen m
  have c0 := hR2.cell (j := m) (x := 0) (by rw [List.getElem?_append_right (by omega), hm]; simp)
  have hlt : (m : Int) < (N : Int) := by omega
  have hN' := hidW hN
  have HR3 : Hid (WI (W2.setCell ⟨w.heap.size, m, none⟩ (.int .i64 fl)) w.heap.size (ps ++ [fl])) := by
    have := hR2.set m fl
    rw [List.set_append_right _ _ (by omega), show m - ps.length = 0 by omega] at this
    exact this
  have HB3 : Hid (Below w.heap.size w (W2.setCell ⟨w.heap.size, m, none⟩ (.int .i64 fl))) := ⟨hB2.os, hB2.tape, hB2.output, by simpa using hB2.size, fun k hk => (setW_block _ _ _ k (by simp; omega)).trans (hB2.block k hk)⟩
  have HM := hidW hm
  have hWs := hW.symm
  clear hp hm hR0 hg2 hR2 hB2 hB0 hN hW
  go_enter Try.func10, Try.ntmps10
  go_wp2_with fail
  generalize W2.setCell ⟨w.heap.size, m, none⟩ (.int .i64 fl) = W3 at *
  clear hmk hcp f0 c0
  refine (sortI_anyW W3 w.heap.size N _ HR3.out (by have := hN'.out; have := HM.out; simp; omega) (by have := hN'.out; omega)).mono ?_
  rintro e w4 ⟨rfl, S, h1, h2, h3, h4⟩
  have HS : Hid (WI w4 w.heap.size S ∧ S.Pairwise (· ≤ ·) ∧ S.Perm (ps ++ [fl]) ∧ Below w.heap.size w w4) := ⟨h1, h2, h3, HB3.out.trans (grown_belowW h4 (fun k e => by cases e; exact Nat.le_refl _) HB3.out.size)⟩
  clear h1 h2 h3 h4 HR3 HB3
  go_wp2
  go_ret
  exact ⟨w.heap.size, S, by rw [← hN'.out]; rfl, Nat.le_refl _, HS.out.1, HS.out.2.1, HS.out.2.2.1, HS.out.2.2.2⟩
end Go.Proofs.Ytmelbebjcdkbdaa
