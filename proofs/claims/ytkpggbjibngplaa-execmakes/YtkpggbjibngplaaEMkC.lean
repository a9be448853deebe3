/-
  cc.New AND ITS DOCUMENT'S LIKE.
-/
import Derived.Test.YtkpggbjibngplaaEMkN
import Derived.Test.YtkpggbjibngplaaLInts
namespace Go.Proofs.Ytkpggbjibngplaa
open Go.RowKit Go.Sort

/-- a row of so many cells -/
def TRw (W : World) (T ty k : Nat) : Prop := ∃ cur, W.heap[T]? = some (.cells cur ty (0, 0)) ∧ cur.size = k
theorem TRw.set {W : World} {T ty k : Nat} (h : TRw W T ty k) (i : Nat) (v : Value) : TRw (W.setCell ⟨T, i, none⟩ v) T ty k := by
  obtain ⟨cur, h1, h2⟩ := h
  exact ⟨_, heap_setCell_same W T i _ _ v h1, by simpa using h2⟩
theorem TRw.cell {W : World} {T ty k : Nat} (h : TRw W T ty k) (i : Nat) (hi : i < k) : ∃ v, W.cell? ⟨T, i, none⟩ = some v := by
  obtain ⟨cur, h1, h2⟩ := h
  refine ⟨cur[i]'(by omega), ?_⟩
  simp [World.cell?, h1, Array.getElem?_eq_getElem (show i < cur.size by omega)]
theorem TRw.frozen {W : World} {T ty k : Nat} (h : TRw W T ty k) (i : Nat) : W.frozen? ⟨T, i, none⟩ = false := by
  obtain ⟨cur, h1, h2⟩ := h
  exact frozen_of_row W T i _ _ h1
theorem belowD {B : Nat} {w W : World} (h : Below B w W) : Below B w W.drew := ⟨h.os, h.tape, h.output, h.size, h.block⟩
set_option maxRecDepth 100000 in
set_option maxHeartbeats 1000000 in
theorem ccNew (w : World) (S : Nat) (k a : Int) : Calls Try.prog 9 #[pt S, .int .i64 k, .int .i64 a, .int .i64 0] w fun e w' => NP w (ccE k a) e w' := by
  by_cases h1 : k < 1
  · have HX : Hid (NP w (ccE k a) (.returned (.tuple #[.pointer none, .int .i64 110])) w) := by unfold ccE; rw [if_pos (.inl h1)]; exact NP.bad (by decide) (Below.refl _ _)
    go_enter Try.func9, Try.ntmps9
    go_wp2
    go_ret2
    exact HX.out
  by_cases h2 : 64 < k
  · have HX : Hid (NP w (ccE k a) (.returned (.tuple #[.pointer none, .int .i64 110])) w) := by unfold ccE; rw [if_pos (.inr h2)]; exact NP.bad (by decide) (Below.refl _ _)
    go_enter Try.func9, Try.ntmps9
    go_wp2
    go_ret2
    exact HX.out
  have hst : ccE k a = if a < 1 ∨ 16 < a then 111 else 0 := by unfold ccE; rw [if_neg (by omega)]
  by_cases h3 : a < 1
  · have HX : Hid (NP w (ccE k a) (.returned (.tuple #[.pointer none, .int .i64 111])) w) := by rw [hst, if_pos (.inl h3)]; exact NP.bad (by decide) (Below.refl _ _)
    clear hst
    go_enter Try.func9, Try.ntmps9
    go_wp2
    go_ret2
    exact HX.out
  by_cases h4 : 16 < a
  · have HX : Hid (NP w (ccE k a) (.returned (.tuple #[.pointer none, .int .i64 111])) w) := by rw [hst, if_pos (.inr h4)]; exact NP.bad (by decide) (Below.refl _ _)
    clear hst
    go_enter Try.func9, Try.ntmps9
    go_wp2
    go_ret2
    exact HX.out
  have HE : Hid (ccE k a = 0) := by show _ = _; rw [hst, if_neg (by omega)]
  clear hst
  obtain ⟨n, rfl⟩ : ∃ n : Nat, k = n := ⟨k.toNat, by omega⟩
  have hmk : ∀ w : World, (Instr.makeMap 73 none).run Try.prog w = .ok (.map (some w.heap.size)) (w.alloc (.map #[] 0)) := fun w => by
    simp [Instr.makeMap, Result.andThen]
  have hml := fun u => make_intsN n (by omega) u
  obtain ⟨W1, hW1⟩ : ∃ W1, W1 = ((w.alloc (.map #[] 0)).alloc (.cells (madeCells #[.int .i64 0] n) 3)).alloc (.cells #[pt S, .int .i64 a, .int .i64 0, .int .i64 0, .int .i64 0, .int .i64 0, .map (some w.heap.size), .slice (some ⟨w.heap.size + 1, 0, none⟩) n n, .slice none 0 0] 76) := ⟨_, rfl⟩
  have HI : Hid (Below w.heap.size w W1 ∧ TRw W1 (w.heap.size + 1) 3 n ∧ W1.heap[w.heap.size + 2]? = some (.cells #[pt S, .int .i64 a, .int .i64 0, .int .i64 0, .int .i64 0, .int .i64 0, .map (some w.heap.size), .slice (some ⟨w.heap.size + 1, 0, none⟩) n n, .slice none 0 0] 76 (0, 0))) := by
    rw [hW1]
    refine ⟨(((Below.refl _ _).alloc (Nat.le_refl _) _).alloc (by simp) _).alloc (by simp; omega) _, ⟨_, (heap_alloc_old _ _ (by simp)).trans (heap_alloc_new _ _ (by simp)), by simp [size_madeCells]⟩, heap_alloc_new _ _ (by simp)⟩
  go_enter Try.func9, Try.ntmps9
  go_upto_region 8 with fail
  rw [show w.heap.size + 1 + 1 = w.heap.size + 2 from rfl] at *
  rw [← hW1]
  clear hW1 hmk hml
  generalize hT : w.heap.size + 1 = T at *
  generalize hB : w.heap.size + 2 = B at *
  have HN : Hid (T ≠ B ∧ w.heap.size ≤ T) := by show _ ∧ _; omega
  clear hT hB
  have HKc : Hid (∀ W : World, W.heap[B]? = some (.cells #[pt S, .int .i64 a, .int .i64 0, .int .i64 0, .int .i64 0, .int .i64 0, .map (some w.heap.size), .slice (some ⟨T, 0, none⟩) n n, .slice none 0 0] 76 (0, 0)) → W.cell? ⟨B, 7, none⟩ = some (.slice (some ⟨T, 0, none⟩) n n)) := fun W h => by simp [World.cell?, h]
  have c7 := HKc.out _ HI.out.2.2
  go_wp2_with fail
  clear c7
  go_loopw [46] (fun x wr => ∃ i : Nat, i ≤ n ∧ x = .int .i64 (i : Int) ∧ Hid (Below w.heap.size w wr ∧ TRw wr T 3 n ∧ wr.heap[B]? = some (.cells #[pt S, .int .i64 a, .int .i64 0, .int .i64 0, .int .i64 0, .int .i64 0, .map (some w.heap.size), .slice (some ⟨T, 0, none⟩) n n, .slice none 0 0] 76 (0, 0)))) (fun x _ => n - (intOf x).toNat)
  case atStart => exact ⟨0, Nat.zero_le _, rfl, HI⟩
  case round =>
    clear HI
    obtain ⟨i, hi, rfl, HI⟩ := hrel
    by_cases hlt : i < n
    · have hlti : (i : Int) < (n : Int) := by omega
      have c7 := HKc.out _ HI.out.2.2
      obtain ⟨v, hv⟩ := HI.out.2.1.cell i hlt
      have hf := HI.out.2.1.frozen i
      have HI2 : Hid (Below w.heap.size w (wr.setCell ⟨T, i, none⟩ (.int .i64 1)) ∧ TRw (wr.setCell ⟨T, i, none⟩ (.int .i64 1)) T 3 n ∧ (wr.setCell ⟨T, i, none⟩ (.int .i64 1)).heap[B]? = some (.cells #[pt S, .int .i64 a, .int .i64 0, .int .i64 0, .int .i64 0, .int .i64 0, .map (some w.heap.size), .slice (some ⟨T, 0, none⟩) n n, .slice none 0 0] 76 (0, 0))) :=
        ⟨below_set HI.out.1 _ _ HN.out.2, HI.out.2.1.set i _, (heap_setCell_other wr ⟨T, i, none⟩ B _ (fun e => HN.out.1 e.symm)).trans HI.out.2.2⟩
      clear HI
      go_wp2
      go_roundw
      case rel => exact ⟨i + 1, by omega, by go_num, HI2⟩
      case measure => simp [intOf]; omega
    · obtain rfl : i = n := by omega
      go_wp2
      go_ret2
      exact NP.good HE.out HI.out.1
set_option maxRecDepth 100000 in
set_option maxHeartbeats 1000000 in
theorem rccNew (w : World) (S : Nat) (k a : Int) : Calls Try.prog 10 #[pt S, .int .i64 k, .int .i64 a, .int .i64 0] w fun e w' => NP w (ccE k a) e w' := by
  by_cases h1 : k < 1
  · have HX : Hid (NP w (ccE k a) (.returned (.tuple #[.pointer none, .int .i64 110])) w) := by unfold ccE; rw [if_pos (.inl h1)]; exact NP.bad (by decide) (Below.refl _ _)
    go_enter Try.func10, Try.ntmps10
    go_wp2
    go_ret2
    exact HX.out
  by_cases h2 : 64 < k
  · have HX : Hid (NP w (ccE k a) (.returned (.tuple #[.pointer none, .int .i64 110])) w) := by unfold ccE; rw [if_pos (.inr h2)]; exact NP.bad (by decide) (Below.refl _ _)
    go_enter Try.func10, Try.ntmps10
    go_wp2
    go_ret2
    exact HX.out
  have hst : ccE k a = if a < 1 ∨ 16 < a then 111 else 0 := by unfold ccE; rw [if_neg (by omega)]
  by_cases h3 : a < 1
  · have HX : Hid (NP w (ccE k a) (.returned (.tuple #[.pointer none, .int .i64 111])) w) := by rw [hst, if_pos (.inl h3)]; exact NP.bad (by decide) (Below.refl _ _)
    clear hst
    go_enter Try.func10, Try.ntmps10
    go_wp2
    go_ret2
    exact HX.out
  by_cases h4 : 16 < a
  · have HX : Hid (NP w (ccE k a) (.returned (.tuple #[.pointer none, .int .i64 111])) w) := by rw [hst, if_pos (.inr h4)]; exact NP.bad (by decide) (Below.refl _ _)
    clear hst
    go_enter Try.func10, Try.ntmps10
    go_wp2
    go_ret2
    exact HX.out
  have HE : Hid (ccE k a = 0) := by show _ = _; rw [hst, if_neg (by omega)]
  clear hst
  obtain ⟨n, rfl⟩ : ∃ n : Nat, k = n := ⟨k.toNat, by omega⟩
  have hml := fun u => make_intsN n (by omega) u
  go_enter Try.func10, Try.ntmps10
  go_wp2_with fail
  go_region
  all_goals
    go_wp2
    go_ret2
    exact NP.good HE.out (belowD ((((Below.refl _ _).alloc (Nat.le_refl _) _).alloc (by simp) _).alloc (by simp; omega) _))
end Go.Proofs.Ytkpggbjibngplaa
