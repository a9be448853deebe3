/-
  SOURCE: pass.
-/
import Derived.Test.YtlabofafmcbfmaaGreatDoorSrBeh
namespace Go.Proofs.YtlabofafmcbfmaaGreatDoor
open Go.RowKit Go.Sort Go.Shelf

theorem S_cut (l : List UInt8) (f t : Nat) : (S l).extract f t = S ((l.take t).drop f) := by
  have h : ((S l).extract f t).data.toList = (l.take t).drop f := by
    show _ = _
    rw [ByteArray.data_extract, Array.toList_extract, List.extract_eq_take_drop, List.drop_take]
    simp [S]
  rw [← h]
  exact (S_of _).symm
/-- the scan's box -/
def SB (w : World) (sb : Nat) (l : List UInt8) (p : Nat × Nat) : Prop := w.heap[sb]? = some (.cells #[.string (S l), .int .i64 (p.1 : Int), .int .i64 (p.2 : Int)] 49 (0, 0))
/-- only a block turns -/
structure T1 (sb : Nat) (w w' : World) : Prop where
  os : w'.os = w.os
  tape : w'.tape = w.tape
  output : w'.output = w.output
  size : w.heap.size ≤ w'.heap.size
  block : ∀ k, k < w.heap.size → k ≠ sb → w'.heap[k]? = w.heap[k]?
theorem T1.bel {sb : Nat} {w w' : World} (h : Below w.heap.size w w') : T1 sb w w' := ⟨h.os, h.tape, h.output, h.size, fun k hk _ => h.block k hk⟩
theorem T1.trans {sb : Nat} {a b c : World} (h : T1 sb a b) (h2 : T1 sb b c) : T1 sb a c :=
  ⟨h2.os.trans h.os, h2.tape.trans h.tape, h2.output.trans h.output, Nat.le_trans h.size h2.size, fun k hk hn => (h2.block k (Nat.lt_of_lt_of_le hk h.size) hn).trans (h.block k hk hn)⟩
theorem T1.set {sb o : Nat} {w : World} {v : Value} : T1 sb w (w.setCell ⟨sb, o, none⟩ v) := ⟨by first | rfl | simp, by first | rfl | simp, by first | rfl | simp, by simp, fun k _ hn => heap_setCell_other w ⟨sb, o, none⟩ k v hn⟩
theorem SB.cells {w : World} {sb : Nat} {l : List UInt8} {p : Nat × Nat} (h : SB w sb l p) : w.cell? ⟨sb, 0, none⟩ = some (.string (S l)) ∧ w.cell? ⟨sb, 1, none⟩ = some (.int .i64 (p.1 : Int)) ∧ w.cell? ⟨sb, 2, none⟩ = some (.int .i64 (p.2 : Int)) ∧ w.frozen? ⟨sb, 0, none⟩ = false ∧ w.frozen? ⟨sb, 1, none⟩ = false ∧ w.frozen? ⟨sb, 2, none⟩ = false := by
  unfold SB at h
  exact ⟨by simp [World.cell?, h], by simp [World.cell?, h], by simp [World.cell?, h], frozen_of_row w sb 0 _ _ h, frozen_of_row w sb 1 _ _ h, frozen_of_row w sb 2 _ _ h⟩
theorem SB.kept {w w' : World} {sb : Nat} {l : List UInt8} {p : Nat × Nat} (h : SB w sb l p) (hb : Below w.heap.size w w') : SB w' sb l p := (hb.block _ (blk_lt h)).trans h
theorem SB.at {w : World} {sb : Nat} {l : List UInt8} {p : Nat × Nat} (h : SB w sb l p) (q : Nat × Nat) : SB ((w.setCell ⟨sb, 1, none⟩ (.int .i64 (q.1 : Int))).setCell ⟨sb, 2, none⟩ (.int .i64 (q.2 : Int))) sb l q :=
  heap_setCell_same _ sb 2 _ _ _ (heap_setCell_same w sb 1 _ _ _ h)
theorem SB.rest {w : World} {sb : Nat} {l : List UInt8} {p : Nat × Nat} (h : SB w sb l p) (l' : List UInt8) : SB (w.setCell ⟨sb, 0, none⟩ (.string (S l'))) sb l' p := heap_setCell_same w sb 0 _ _ _ h
def PassP (w : World) (sb : Nat) (l : List UInt8) (p : Nat × Nat) (e : Ending) (w' : World) : Prop := e = .returned (.tuple #[]) ∧ SB w' sb l p ∧ T1 sb w w'
set_option maxRecDepth 100000 in
set_option maxHeartbeats 2000000 in
theorem pass_any (w : World) (sb : Nat) (l : List UInt8) (p : Nat × Nat) (n : Nat) (h : SB w sb l p) (hn : n ≤ l.length) (hl : l.length ≤ 65536) (hp : p.1 ≤ 1000000 ∧ p.2 ≤ 1000000) :
    Calls Tryz.prog 20 #[.pointer (some ⟨sb, 0, none⟩), .int .i64 (n : Int)] w fun e w' => PassP w sb (l.drop n) (spL p (l.take n)) e w' := by
  have HBd : Hid (Calls Tryz.prog 36 #[spV p, .string (S (l.take n))] w.drew fun e w' => e = .returned (spV (spL p (l.take n))) ∧ Below w.heap.size w w') := (behind_any w.drew p (l.take n) (by simp; omega) hp).mono fun e w' ⟨a1, a2⟩ => ⟨a1, (Grew.refl w).drew.below.trans a2⟩
  obtain ⟨q, hq⟩ : ∃ q, q = spL p (l.take n) := ⟨_, rfl⟩
  rw [← hq] at HBd ⊢
  obtain ⟨m, hm⟩ : ∃ m, m = l.length := ⟨_, rfl⟩
  have hsz : (S l).size = m := by rw [S_size, hm]
  have x1 : (S l).extract 0 n = S (l.take n) := by rw [S_cut, List.drop_zero]
  have x2 : (S l).extract n m = S (l.drop n) := by rw [S_cut, hm, List.take_length]
  have hnm : (n : Int) ≤ (m : Int) := by omega
  have hm9 : m ≤ 65536 := by omega
  obtain ⟨pl, pc⟩ := p
  obtain ⟨ql, qc⟩ := q
  simp only at *
  have HCl : Hid (∀ U, Below w.heap.size w U → U.cell? ⟨sb, 0, none⟩ = some (.string (S l)) ∧ U.cell? ⟨sb, 1, none⟩ = some (.int .i64 (pl : Int)) ∧ U.cell? ⟨sb, 2, none⟩ = some (.int .i64 (pc : Int)) ∧ U.frozen? ⟨sb, 1, none⟩ = false ∧ U.frozen? ⟨sb, 2, none⟩ = false) := fun U hU => by
    obtain ⟨a0, a1, a2, a3, a4, a5⟩ := (h.kept hU).cells
    exact ⟨a0, a1, a2, a4, a5⟩
  have HAf : Hid (∀ U, Below w.heap.size w U → SB ((U.setCell ⟨sb, 1, none⟩ (.int .i64 (ql : Int))).setCell ⟨sb, 2, none⟩ (.int .i64 (qc : Int))) sb l (ql, qc) ∧ T1 sb w ((U.setCell ⟨sb, 1, none⟩ (.int .i64 (ql : Int))).setCell ⟨sb, 2, none⟩ (.int .i64 (qc : Int)))) := fun U hU => ⟨(h.kept hU).at (ql, qc), (T1.bel hU).trans (T1.set.trans T1.set)⟩
  have HSt : Hid (∀ U, Below w.heap.size w U → (U.setCell ⟨sb, 1, none⟩ (.int .i64 (ql : Int))).cell? ⟨sb, 2, none⟩ = some (.int .i64 (pc : Int)) ∧ (U.setCell ⟨sb, 1, none⟩ (.int .i64 (ql : Int))).frozen? ⟨sb, 2, none⟩ = false) := fun U hU => by
    have k := heap_setCell_same U sb 1 _ _ (.int .i64 (ql : Int)) (h.kept hU)
    exact ⟨by simp [World.cell?, k], frozen_of_row _ sb 2 _ _ k⟩
  obtain ⟨c0, c1, c2, _, _⟩ := HCl.out w (Below.refl _ _)
  clear hq hm h hn hl hp
  go_enter Tryz.func20, Tryz.ntmps20
  go_upto_region 0 with fail
  refine wp_region_held_drew (S := fun w9 => w9.cell? ⟨sb, 0, none⟩ = some (.string (S l))) (by kernel_rfl) ?_ (fun hHeld => ?_)
  · exact c0
  refine wpAnyH_take (i := 0) (v := .pointer (some ⟨sb, 0, none⟩)) rfl (by kernel_rfl) (by kernel_rfl) (by kernel_rfl) (fun _ _ _ h => h) (Or.inl ⟨by rfl, by intro w hSw; (try dsimp only at hSw); go_simp⟩) (by assumption) ?_
  refine wpAnyH_take (i := 1) (v := .pointer (some ⟨sb, 0, none⟩)) rfl (by kernel_rfl) (by kernel_rfl) (by kernel_rfl) (fun _ _ _ h => h) (Or.inl ⟨by rfl, by intro w hSw; (try dsimp only at hSw); go_simp⟩) (by assumption) ?_
  refine wpAnyH_take (i := 2) (v := .pointer (some ⟨sb, 0, none⟩)) rfl (by kernel_rfl) (by kernel_rfl) (by kernel_rfl) (fun _ _ _ h => h) (Or.inl ⟨by rfl, by intro w hSw; (try dsimp only at hSw); go_simp⟩) (by assumption) ?_
  refine wpAnyH_take (i := 3) (v := .pointer (some ⟨sb, 1, none⟩)) rfl (by kernel_rfl) (by kernel_rfl) (by kernel_rfl) (fun _ _ _ h => h) (Or.inl ⟨by rfl, by intro w hSw; (try dsimp only at hSw); go_simp⟩) (by assumption) ?_
  refine wpAnyH_take (i := 5) (v := .pointer (some ⟨sb, 0, none⟩)) rfl (by kernel_rfl) (by kernel_rfl) (by kernel_rfl) (fun _ _ _ h => h) (Or.inl ⟨by rfl, by intro w hSw; (try dsimp only at hSw); go_simp⟩) (by assumption) ?_
  refine wpAnyH_take (i := 6) (v := .pointer (some ⟨sb, 0, none⟩)) rfl (by kernel_rfl) (by kernel_rfl) (by kernel_rfl) (fun _ _ _ h => h) (Or.inl ⟨by rfl, by intro w hSw; (try dsimp only at hSw); go_simp⟩) (by assumption) ?_
  refine wpAnyH_take (i := 7) (v := .pointer (some ⟨sb, 0, none⟩)) rfl (by kernel_rfl) (by kernel_rfl) (by kernel_rfl) (fun _ _ _ h => h) (Or.inl ⟨by rfl, by intro w hSw; (try dsimp only at hSw); go_simp⟩) (by assumption) ?_
  refine wpAnyH_take (i := 8) (v := .string (S l)) rfl (by kernel_rfl) (by kernel_rfl) (by kernel_rfl) (fun _ _ _ h => h) (Or.inl ⟨by rfl, by intro w hSw; (try dsimp only at hSw); go_simp⟩) (by assumption) ?_
  refine wpAnyH_take (i := 9) (v := .int .i64 (n : Int)) rfl (by kernel_rfl) (by kernel_rfl) (by kernel_rfl) (fun _ _ _ h => h) (Or.inl ⟨by rfl, by intro w hSw; (try dsimp only at hSw); go_simp⟩) (by assumption) ?_
  refine wpAnyH_take (i := 10) (v := .string (S (l.take n))) rfl (by kernel_rfl) (by kernel_rfl) (by kernel_rfl) (fun _ _ _ h => h) (Or.inl ⟨by rfl, by intro w hSw; (try dsimp only at hSw); go_simp⟩) (by assumption) ?_
  refine wpAnyH_ready (rs := [4]) (by kernel_rfl) (by simp) ?_
  refine AllReadyH.cons rfl (fun K hK => ?_) ?_
  · go_simp
    refine hK.out _ _ (by assumption) (fun hHeld => ?_)
    clear hK K
    refine wpAnyH_ready (rs := [11]) (by kernel_rfl) (by simp) ?_
    refine AllReadyH.cons rfl (fun K hK => ?_) ?_
    · go_simp
      refine HBd.out.mono ?_
      rintro e wa ⟨rfl, hba⟩
      obtain ⟨e0, e1, e2, e3, e4⟩ := HCl.out wa hba
      have f3 : (wa.setCell ⟨sb, 1, none⟩ (.int .i64 (ql : Int))).cell? ⟨sb, 2, none⟩ = some (.int .i64 (pc : Int)) := (HSt.out wa hba).1
      have f4 : (wa.setCell ⟨sb, 1, none⟩ (.int .i64 (ql : Int))).frozen? ⟨sb, 2, none⟩ = false := (HSt.out wa hba).2
      have HSB := hidS (HAf.out wa hba)
      have g0 := HSB.out.1.cells.1
      clear hba
      go_wp2_with fail
      refine hK.out _ _ (by exact e0) (fun hHeld => ?_)
      clear hK K
      refine wpAnyH_take (i := 12) (v := .pointer (some ⟨sb, 0, none⟩)) rfl (by kernel_rfl) (by kernel_rfl) (by kernel_rfl) (fun _ _ _ h => h) (Or.inl ⟨by rfl, by intro w hSw; (try dsimp only at hSw); go_simp⟩) (by assumption) ?_
      refine wpAnyH_take (i := 13) (v := .pointer (some ⟨sb, 1, none⟩)) rfl (by kernel_rfl) (by kernel_rfl) (by kernel_rfl) (fun _ _ _ h => h) (Or.inl ⟨by rfl, by intro w hSw; (try dsimp only at hSw); go_simp⟩) (by assumption) ?_
      refine wpAnyH_ready (rs := [14]) (by kernel_rfl) (by simp) ?_
      refine AllReadyH.cons rfl (fun K hK => ?_) ?_
      · go_simp
        refine hK.out _ _ (by exact g0) (fun hHeld => ?_)
        clear hK K
        refine wpAnyH_done (by kernel_rfl) ?_ _
        generalize (wa.setCell ⟨sb, 1, none⟩ (.int .i64 (ql : Int))).setCell ⟨sb, 2, none⟩ (.int .i64 (qc : Int)) = V at *
        have f0 := HSB.out.1.cells.2.2.2.1
        have HF : Hid (PassP w sb (l.drop n) (ql, qc) (.returned (.tuple #[])) (V.setCell ⟨sb, 0, none⟩ (.string (S (l.drop n))))) := ⟨rfl, HSB.out.1.rest _, HSB.out.2.trans T1.set⟩
        clear HSB e0 e1 e2 e3 e4 f3 f4
        go_wp2_with fail
        go_end0
        exact HF.out
      exact AllReadyH.nil
    exact AllReadyH.nil
  exact AllReadyH.nil
end Go.Proofs.YtlabofafmcbfmaaGreatDoor
