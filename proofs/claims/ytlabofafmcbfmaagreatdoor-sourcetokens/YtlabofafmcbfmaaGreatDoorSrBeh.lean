/-
  SOURCE: behind.
-/
import Derived.Test.YtlabofafmcbfmaaGreatDoorSrGap
import Derived.Deep.RegionHeld3
import Derived.Deep.DeepCutAuto
import Derived.Deep.QuietTactic
namespace Go.Proofs.YtlabofafmcbfmaaGreatDoor
open Go.RowKit Go.Sort Go.Shelf

theorem nlN_count (l : List UInt8) : Lib.countByte l 10 = nlN l := by
  unfold Lib.countByte nlN List.count
  congr 1
  funext c
  by_cases h : c = 10
  · subst h; rfl
  · have h1 : c.toNat ≠ 10 := fun e => h (UInt8.toNat_inj.1 e)
    simp [h, h1]
theorem nlN_zero {l : List UInt8} (h : nlN l = 0) : ∀ c ∈ l, c.toNat ≠ 10 := by
  unfold nlN at h
  rw [List.countP_eq_zero] at h
  intro c hc e
  exact h c hc (by simp [e])
/-- where the last feed stands -/
theorem last_nl (l : List UInt8) (h : nlN l ≠ 0) : ∃ i : Nat, i < l.length ∧ Lib.lastIndexByte (S l) 10 = (i : Int) ∧ ∀ p, (spL p l).2 = l.length - i := by
  rcases Lib.lastIndexByte_spec (S l) 10 with ⟨_, h2⟩ | ⟨i, h1, h2, h3, h4⟩
  · exfalso
    apply h
    unfold nlN
    rw [List.countP_eq_zero]
    intro c hc
    obtain ⟨j, hj, rfl⟩ := List.getElem_of_mem hc
    have h5 := h2 j (by rw [S_size]; exact hj)
    have e : (S l).data[j]! = l[j] := by simp [S, hj]
    rw [e] at h5
    simp; omega
  · have hi : i < l.length := by rw [S_size] at h1; exact h1
    have e : ∀ j (hj : j < l.length), (S l).data[j]! = l[j] := fun j hj => by simp [S, hj]
    refine ⟨i, hi, h2, fun p => ?_⟩
    have hs : l = l.take i ++ l[i] :: l.drop (i + 1) := by rw [← List.drop_eq_getElem_cons hi, List.take_append_drop]
    have h5 := spL_last (l.take i) (l.drop (i + 1)) p l[i] (by rw [e i hi] at h3; omega) (fun d hd => by
      obtain ⟨j, hj, rfl⟩ := List.getElem_of_mem hd
      simp only [List.length_drop] at hj
      have h6 := h4 (i + 1 + j) (by omega) (by rw [S_size]; omega)
      rw [e (i + 1 + j) (by omega)] at h6
      simp only [List.getElem_drop]
      omega)
    rw [← hs] at h5
    rw [h5, List.length_drop]
    omega
theorem spL_pos : ∀ (l : List UInt8) (p : Nat × Nat), (spL p l).2 ≤ p.2 + l.length ∧ (spL p l).1 ≤ p.1 + l.length := by
  intro l
  induction l with
  | nil => intro p; simp [spL]
  | cons c r ih =>
    intro p
    have e : spL p (c :: r) = spL (spS p c) r := rfl
    rw [e]
    have h1 := ih (spS p c)
    have h2 : (spS p c).2 ≤ p.2 + 1 ∧ (spS p c).1 ≤ p.1 + 1 := by
      unfold spS
      split <;> simp
    simp only [List.length_cons]
    omega
/-- a place as a value -/
abbrev spV (p : Nat × Nat) : Value := .agg #[.int .i64 (p.1 : Int), .int .i64 (p.2 : Int)]
set_option maxRecDepth 100000 in
set_option maxHeartbeats 2000000 in
theorem behind_any (w : World) (p : Nat × Nat) (l : List UInt8) (hl : l.length ≤ 65536) (hp : p.1 ≤ 1000000 ∧ p.2 ≤ 1000000) : Calls Tryz.prog 36 #[spV p, .string (S l)] w fun e w' => e = .returned (spV (spL p l)) ∧ Below w.heap.size w w' := by
  obtain ⟨pl, pc⟩ := p
  simp only at hp
  obtain ⟨W1, hW1⟩ : ∃ W1, W1 = (w.alloc (.cells #[.int .i64 (pl : Int), .int .i64 (pc : Int)] 34)).alloc (.cells #[.int .i64 0, .int .i64 0] 34) := ⟨_, rfl⟩
  obtain ⟨B, hB⟩ : ∃ B, B = w.heap.size := ⟨_, rfl⟩
  obtain ⟨R, hR⟩ : ∃ R, R = w.heap.size + 1 := ⟨_, rfl⟩
  have hb1 : Below w.heap.size w W1 := by rw [hW1]; exact ((Below.refl _ _).alloc (Nat.le_refl _) _).alloc (by simp only [World.size_alloc]; omega) _
  have bB : W1.heap[B]? = some (.cells #[.int .i64 (pl : Int), .int .i64 (pc : Int)] 34 (0, 0)) := by
    rw [hW1, hB]
    exact (((Below.refl _ _).alloc (Nat.le_refl _) _).block _ (by simp only [World.size_alloc]; omega)).trans (heap_alloc_new _ _ rfl)
  have bR : W1.heap[R]? = some (.cells #[.int .i64 0, .int .i64 0] 34 (0, 0)) := by rw [hW1, hR]; exact heap_alloc_new _ _ (by simp only [World.size_alloc])
  have hBR : B ≠ R := by omega
  have hRw : w.heap.size ≤ R := by omega
  have HCt : Hid (∀ W, Calls Tryz.prog 51 #[.string (S l), .string ⟨#[10]⟩] W fun e w' => e = .returned (.int .i64 (nlN l : Nat)) ∧ w' = W) := fun W => by
    have h1 : Calls Tryz.prog 51 #[.string (S l), .string ⟨#[10]⟩] W _ := Any.strings_Count_one lays138 (S l) 10 W
    rw [S_list, nlN_count] at h1
    exact h1
  have hlen : (S l).size = l.length := S_size l
  have HFn : Hid (∀ (U : World) (x y : Int), Below W1.heap.size W1 U → Below w.heap.size w ((U.setCell ⟨R, 0, none⟩ (.int .i64 x)).setCell ⟨R, 1, none⟩ (.int .i64 y)) ∧ ((U.setCell ⟨R, 0, none⟩ (.int .i64 x)).setCell ⟨R, 1, none⟩ (.int .i64 y)).cell? ⟨R, 0, none⟩ = some (.int .i64 x) ∧ ((U.setCell ⟨R, 0, none⟩ (.int .i64 x)).setCell ⟨R, 1, none⟩ (.int .i64 y)).cell? ⟨R, 1, none⟩ = some (.int .i64 y) ∧ ((U.setCell ⟨R, 0, none⟩ (.int .i64 x)).setCell ⟨R, 1, none⟩ (.int .i64 y)).cell? ⟨B, 0, none⟩ = some (.int .i64 (pl : Int))) := fun U x y hU => by
    have k1 := (hU.block _ (blk_lt bR)).trans bR
    have kB := (hU.block _ (blk_lt bB)).trans bB
    have k2 := heap_setCell_same U R 0 _ _ (.int .i64 x) k1
    have k3 := heap_setCell_same _ R 1 _ _ (.int .i64 y) k2
    have k4 : ((U.setCell ⟨R, 0, none⟩ (.int .i64 x)).setCell ⟨R, 1, none⟩ (.int .i64 y)).heap[B]? = U.heap[B]? := (heap_setCell_other _ ⟨R, 1, none⟩ B _ hBR).trans (heap_setCell_other _ ⟨R, 0, none⟩ B _ hBR)
    rw [kB] at k4
    refine ⟨?_, by simp [World.cell?, k3], by simp [World.cell?, k3], by simp [World.cell?, k4]⟩
    have h2 : Below w.heap.size w U := hb1.trans (hU.mono hb1.size)
    exact ⟨by first | exact h2.os | simpa using h2.os, by first | exact h2.tape | simpa using h2.tape, by first | exact h2.output | simpa using h2.output, by simpa using h2.size, fun k hk => (heap_setCell_other _ ⟨R, 1, none⟩ k _ (by show k ≠ R; omega)).trans ((heap_setCell_other _ ⟨R, 0, none⟩ k _ (by show k ≠ R; omega)).trans (h2.block k hk))⟩
  have HCl : Hid (∀ U, Below W1.heap.size W1 U → U.cell? ⟨B, 0, none⟩ = some (.int .i64 (pl : Int)) ∧ U.cell? ⟨B, 1, none⟩ = some (.int .i64 (pc : Int)) ∧ U.cell? ⟨R, 0, none⟩ = some (.int .i64 0) ∧ U.cell? ⟨R, 1, none⟩ = some (.int .i64 0) ∧ U.frozen? ⟨R, 0, none⟩ = false ∧ U.frozen? ⟨R, 1, none⟩ = false) := fun U hU => by
    have k1 := (hU.block _ (blk_lt bR)).trans bR
    have kB := (hU.block _ (blk_lt bB)).trans bB
    exact ⟨by simp [World.cell?, kB], by simp [World.cell?, kB], by simp [World.cell?, k1], by simp [World.cell?, k1], frozen_of_row U R 0 _ _ k1, frozen_of_row U R 1 _ _ k1⟩
  have hsp := spL_pos l (pl, pc)
  simp only at hsp
  obtain ⟨n, hn⟩ : ∃ n, n = l.length := ⟨_, rfl⟩
  have HN := hidS hn
  rw [← hn] at hlen hl hsp
  by_cases h0 : nlN l = 0
  · have e : spL (pl, pc) l = (pl, pc + n) := by rw [hn]; exact spL_none l (pl, pc) (nlN_zero h0)
    rw [e]
    rw [h0] at HCt
    have hw1 : IntKind.i64.wrap ((pc : Int) + (n : Int)) = (pc : Int) + (n : Int) := by rw [IntKind.wrap_i64]; omega
    obtain ⟨c0, c1, c2, c3, c4, c5⟩ := HCl.out W1 (Below.refl _ _)
    have HF := hidS (HFn.out W1 (pl : Int) ((pc : Int) + (n : Int)) (Below.refl _ _))
    clear hn bB bR hb1 hsp e h0 HCl HFn
    go_enter Tryz.func36, Tryz.ntmps36
    go_wp2_with fail
    rw [← hW1, ← hR, ← hB]
    clear hW1 hB hR
    refine (HCt.out W1).mono ?_
    rintro e w2 ⟨rfl, hw2⟩
    subst hw2
    go_wp2_with fail
    obtain ⟨hb, f0, f1, _⟩ := HF.out
    refine bodyPost_ret (v := spV (pl, pc + n)) (by simp [results, Tryz.results36, go_sem, f0, f1]) rfl ?_
    exact ⟨rfl, hb⟩
  · obtain ⟨i, hi, hix, hcol⟩ := last_nl l h0
    have e : spL (pl, pc) l = (pl + nlN l, n - i) := Prod.ext (spL_line l (pl, pc)) (by rw [hcol, hn])
    rw [e]
    obtain ⟨m, hm⟩ : ∃ m, m = nlN l := ⟨_, rfl⟩
    rw [← hm] at HCt h0 ⊢
    have hm9 : m ≤ 65536 := by rw [hm]; unfold nlN; exact Nat.le_trans (List.countP_le_length) (by rw [← hn]; exact hl)
    have hin : i < n := by rw [hn]; exact hi
    have HLi : Hid (∀ W, Calls Tryz.prog 52 #[.string (S l), .string ⟨#[10]⟩] W fun e w' => e = .returned (.int .i64 (i : Int)) ∧ w' = W) := fun W => by
      have h1 : Calls Tryz.prog 52 #[.string (S l), .string ⟨#[10]⟩] W _ := Any.strings_LastIndex_one lays148 (S l) ⟨#[10]⟩ rfl (by rw [hlen]; omega) W
      have e2 : Lib.lastIndexByte (S l) (((⟨#[10]⟩ : ByteArray)[0]'(by decide)).toNat : Int) = (i : Int) := hix
      rw [e2] at h1
      exact h1
    have hm0 : ((m : Int) == 0) = false := by simp; omega
    have hw1 : IntKind.i64.wrap ((pl : Int) + (m : Int)) = (pl : Int) + (m : Int) := by rw [IntKind.wrap_i64]; omega
    have hw2 : IntKind.i64.wrap ((n : Int) - (i : Int)) = (n : Int) - (i : Int) := by rw [IntKind.wrap_i64]; omega
    have HLd : Hid (Calls Tryz.prog 52 #[.string (S l), .string ⟨#[10]⟩] W1.drew fun e w' => e = .returned (.int .i64 (i : Int)) ∧ Below W1.heap.size W1 w') := (HLi.out W1.drew).mono fun e w' ⟨a1, a2⟩ => ⟨a1, by rw [a2]; exact (Grew.refl W1).drew.below⟩
    obtain ⟨c0, c1, c2, c3, c4, c5⟩ := HCl.out W1 (Below.refl _ _)
    have HEe : Hid (∀ (U : World), (pl + m, n - i) = (pl + m, n - i) ∧ ((pl : Int) + (m : Int) = ((pl + m : Nat) : Int)) ∧ ((n : Int) - (i : Int) = ((n - i : Nat) : Int))) := fun _ => ⟨rfl, by omega, by omega⟩
    have h0I : ¬ (m : Int) = 0 := by omega
    clear hn bB bR hb1 hsp e h0 hm hix hcol HLi
    go_enter Tryz.func36, Tryz.ntmps36
    go_wp2_with fail
    rw [← hW1, ← hR, ← hB]
    clear hW1 hB hR
    refine (HCt.out W1).mono ?_
    rintro e w2 ⟨rfl, hw2⟩
    subst hw2
    go_upto_region 4 with fail
    go_region_held3 (fun w' => w'.cell? ⟨B, 0, none⟩ = some (.int .i64 (pl : Int))) (first | with_reducible exact HQS.out | with_reducible exact HQA.out | go_keep) (first
      | (go_at_call 52; with_reducible refine HLd.out.mono ?_; rintro e wA ⟨rfl, hbA⟩; have HQA := hidS (HCl.out _ hbA).1; have HQS := hidS (HFn.out wA ((pl : Int) + (m : Int)) ((n : Int) - (i : Int)) hbA).2.2.2; have HBA := hidS hbA; obtain ⟨_, _, y2, y3, y4, y5⟩ := HCl.out _ hbA; clear hbA))
    obtain ⟨hb, f0, f1, _⟩ := HFn.out wA ((pl : Int) + (m : Int)) ((n : Int) - (i : Int)) HBA.out
    go_wp2_with fail
    refine bodyPost_ret (v := spV (pl + m, n - i)) (by simp [results, Tryz.results36, go_sem, f0, f1]; exact (HEe.out w).2.2) rfl ?_
    exact ⟨rfl, hb⟩
end Go.Proofs.YtlabofafmcbfmaaGreatDoor
