/-
  SOURCE: tokenAhead. By gen_srta.py.
-/
import Derived.Test.YtlabofafmcbfmaaGreatDoorSrNum
namespace Go.Proofs.YtlabofafmcbfmaaGreatDoor
open Go.RowKit Go.Sort Go.Shelf

theorem leC_hi {c : Nat} (h : 128 ≤ c) : leC c = false := by
  simp [leC]
  omega
theorem diC_hi {c : Nat} (h : 128 ≤ c) : diC c = false := by
  simp [diC]
  omega
theorem first_le {l : List UInt8} (hl : l ≠ []) : leC (dcR l) = leC (c0 l) ∧ diC (dcR l) = diC (c0 l) := by
  obtain ⟨c, r, rfl⟩ := List.exists_cons_of_ne_nil hl
  show leC _ = leC c.toNat ∧ diC _ = diC c.toNat
  by_cases h : c.toNat < 128
  · rw [dcR_lo h]; exact ⟨rfl, rfl⟩
  · have h1 := dcR_hi (c := c) (r := r) (by omega)
    rw [leC_hi h1, diC_hi h1, leC_hi (by omega), diC_hi (by omega)]
    exact ⟨rfl, rfl⟩
theorem word_ascii {l : List UInt8} : ∀ b ∈ l.take (frB woC l), b.toNat < 128 := fun b hb => by
  obtain ⟨i, hi, rfl⟩ := List.getElem_of_mem hb
  rw [List.length_take] at hi
  have h1 := frB_in woC l i (by omega)
  rw [List.getElem_take]
  have h2 : ¬ 128 ≤ (l[i]'(by omega)).toNat := fun h => by rw [woC_hi h] at h1; cases h1
  omega
set_option maxRecDepth 100000 in
set_option maxHeartbeats 4000000 in
theorem tokenAhead_any (w : World) (l : List UInt8) (hl : l ≠ []) (hl9 : l.length ≤ 65536) (hT : TabsOK w) (hP : PairVar w) (hN : NumVars w) : Calls Tryz.prog 18 #[.string (S l)] w fun e w' => e = .returned (tkP (tokA l)) ∧ Below w.heap.size w w' := by
  obtain ⟨W1, hW1⟩ : ∃ W1, W1 = w.alloc (.cells #[.int .i64 0, .string ⟨#[]⟩, .int .i64 0, .int .i64 0, .int .i64 0] 36) := ⟨_, rfl⟩
  have hb1 : Below w.heap.size w W1 := by rw [hW1]; exact (Below.refl _ _).alloc (Nat.le_refl _) _
  obtain ⟨R, hR⟩ : ∃ R, R = w.heap.size := ⟨_, rfl⟩
  have hR1 : Row5 W1 R (.int .i64 0) (.string ⟨#[]⟩) (.int .i64 0) (.int .i64 0) (.int .i64 0) := by rw [hW1, hR]; exact Row5.new _ _ _ _ _ _
  have hRl : w.heap.size ≤ R := by omega
  have HW : Hid (∀ U, Below W1.heap.size W1 U → TabsOK U ∧ PairVar U ∧ NumVars U ∧ Row5 U R (.int .i64 0) (.string ⟨#[]⟩) (.int .i64 0) (.int .i64 0) (.int .i64 0) ∧ Below w.heap.size w U) := fun U hU => by
    have h2 := hb1.trans (hU.mono hb1.size)
    exact ⟨hT.kept h2, hP.kept h2, hN.kept h2, hR1.kept hU, h2⟩
  have HPut : Hid (∀ U, Below W1.heap.size W1 U → ∀ v0 v1 v2 v3 v4, Row5 (put5 U R v0 v1 v2 v3 v4) R v0 v1 v2 v3 v4 ∧ Below w.heap.size w (put5 U R v0 v1 v2 v3 v4)) := fun U hU v0 v1 v2 v3 v4 => ⟨(hR1.kept hU).put v0 v1 v2 v3 v4, put5_below (hb1.trans (hU.mono hb1.size)) hRl v0 v1 v2 v3 v4⟩
  have HD := hidS (decode_any W1 l (hT.kept hb1))
  have HLt : Hid (∀ U, Calls Tryz.prog 29 #[.int .i32 (dcR l : Nat)] U fun e w' => e = .returned (.bool (leC (c0 l))) ∧ w' = U) := fun U => by rw [← (first_le hl).1]; exact isLetter_any U _ (dcR_le l)
  have HDg : Hid (∀ U, Calls Tryz.prog 33 #[.int .i32 (dcR l : Nat)] U fun e w' => e = .returned (.bool (diC (c0 l))) ∧ w' = U) := fun U => by rw [← (first_le hl).2]; exact isDigit_any U _ (dcR_le l)
  have HFr : Hid (∀ U, Calls Tryz.prog 31 #[.string (S l), fnV 32] U fun e w' => e = .returned (.int .i64 (frB woC l : Nat)) ∧ Grew U w') := fun U => frontW_any U l hl9
  have HWt : Hid (∀ U, Calls Tryz.prog 30 #[.string (S (l.take (frB woC l)))] U fun e w' => e = .returned (tkV (if isOwn (l.take (frB woC l)) then 2 else 1) (l.take (frB woC l)) 0 (0, 0)) ∧ Below U.heap.size U w') := fun U => wordToken_any U _
  have HNt : Hid (∀ U, NumVars U → Calls Tryz.prog 34 #[.string (S (l.take (frB woC l)))] U fun e w' => e = .returned (tkP (if (numO (l.take (frB woC l))).2 then .ok 3 (l.take (frB woC l)) (numO (l.take (frB woC l))).1 else .er 41)) ∧ Below U.heap.size U w') := fun U hU => numberToken_any U _ (by rw [List.length_take]; omega) word_ascii hU
  have HSg : Hid (∀ U, PairVar U → Calls Tryz.prog 35 #[.string (S l), .int .i32 (dcR l : Nat)] U fun e w' => e = .returned (.string (S (sgT l))) ∧ Grew U w') := fun U hU => signAhead_any U l hl hl9 hU
  have hfm := frB_le woC l
  have x1 : (S l).extract 0 (frB woC l) = S (l.take (frB woC l)) := by rw [S_cut, List.drop_zero]
  obtain ⟨m, hm⟩ : ∃ m, m = l.length := ⟨_, rfl⟩
  have hsz : (S l).size = m := by rw [S_size, hm]
  have hm9 : m ≤ 65536 := by omega
  have HTk : Hid (tokA l = if leC (c0 l) then .ok (if isOwn (l.take (frB woC l)) then 2 else 1) (l.take (frB woC l)) 0
    else if diC (c0 l) then (if (numO (l.take (frB woC l))).2 then .ok 3 (l.take (frB woC l)) (numO (l.take (frB woC l))).1 else .er 41)
    else if (sgT l) = [] then .er 180 else .ok 4 (sgT l) 0) := by
    show _ = _
    unfold tokA sgT
    by_cases h2 : [47, 42].isPrefixOf l = true
    · simp [h2]
    · by_cases h3 : sgN l = 0
      · simp [h2, h3]
      · simp [h2, h3, hl]
  rw [← hm] at hfm
  have hfI : (frB woC l : Int) ≤ (m : Int) := by omega
  have hts := S_toList (sgT l)
  generalize leC (c0 l) = b1 at *
  generalize diC (c0 l) = b2 at *
  generalize (Lib.decodeGo (S l)).2 = dw at *
  generalize dcR l = d at *
  generalize sgT l = sg at *
  generalize tokA l = tk at *
  clear hT hP hN hl hl9 hb1 hR1 hRl hm
  cases b1 with
  | true =>
    have e : tk = .ok (if isOwn (l.take (frB woC l)) then 2 else 1) (l.take (frB woC l)) 0 := by have h := HTk.out; simpa using h
    subst e
    clear HTk hts
    generalize frB woC l = fw at *
    generalize l.take fw = t at *
    generalize hk : (if isOwn t then 2 else 1) = k at *
    have HWt2 : Hid (∀ U, Calls Tryz.prog 30 #[.string (S t)] U fun e w' => e = .returned (tkV ((k : Nat) : Int) t 0 (0, 0)) ∧ Below U.heap.size U w') := fun U => by
      refine (HWt.out U).mono fun e w' ⟨a1, a2⟩ => ⟨?_, a2⟩
      rw [a1, ← hk]
      cases isOwn t <;> rfl
    clear hk HWt
    go_enter Tryz.func18, Tryz.ntmps18
    go_wp2_with fail
    rw [← hW1, ← hR]
    clear hW1 hR
    refine HD.out.mono ?_
    rintro e w2 ⟨rfl, hb2⟩
    have HB2 := hidS hb2
    clear hb2 HD
    go_wp2_with (first | (go_at_call 29; refine (HLt.out _).mono ?_; rintro e wE ⟨rfl, hwE⟩; have hwE' := hwE.symm; subst hwE'; clear hwE) | (go_at_call 33; refine (HDg.out _).mono ?_; rintro e wE ⟨rfl, hwE⟩; have hwE' := hwE.symm; subst hwE'; clear hwE) | fail)
    refine (HFr.out _).mono ?_
    rintro e w3 ⟨rfl, hg3⟩
    have HB3 : Hid (Below W1.heap.size W1 w3) := HB2.out.trans (hg3.below.mono HB2.out.size)
    clear hg3
    go_wp2_with fail
    refine (HWt2.out _).mono ?_
    rintro e w4 ⟨rfl, hb4⟩
    have HB4 : Hid (Below W1.heap.size W1 w4) := HB3.out.trans (hb4.mono HB3.out.size)
    clear hb4
    obtain ⟨-, -, -, hrow, -⟩ := HW.out _ HB4.out
    obtain ⟨⟨q0, q1, q2, q3, q4⟩, f0, f1, f2, f3, f4⟩ := hrow.cells
    clear hrow
    go_wp2_with fail
    obtain ⟨hr, hb⟩ := HPut.out _ HB4.out (.int .i64 (k : Int)) (.string (S t)) (.int .i64 0) (.int .i64 0) (.int .i64 0)
    obtain ⟨⟨d0, d1, d2, d3, d4⟩, _⟩ := hr.cells
    exact bodyPost_ret (v := .tuple #[.agg #[.int .i64 (k : Int), .string (S t), .int .i64 0, .int .i64 0, .int .i64 0], .int .i64 0]) (by simp [results, Tryz.results18, go_sem, d0, d1, d2, d3, d4]) rfl ⟨rfl, hb⟩
  | false =>
    cases b2 with
    | true =>
      have e : tk = (if (numO (l.take (frB woC l))).2 then .ok 3 (l.take (frB woC l)) (numO (l.take (frB woC l))).1 else .er 41) := by have h := HTk.out; simpa using h
      subst e
      clear HTk hts
      generalize frB woC l = fw at *
      generalize l.take fw = t at *
      obtain ⟨k, t', n, e9, hV⟩ : ∃ (k : Int) (t' : List UInt8) (n e9 : Int), tkP (if (numO t).2 then .ok 3 t (numO t).1 else .er 41) = .tuple #[tkV k t' n (0, 0), .int .i64 e9] := by
        cases (numO t).2
        · exact ⟨0, [], 0, 41, rfl⟩
        · exact ⟨3, t, (numO t).1, 0, rfl⟩
      rw [hV] at HNt ⊢
      clear hV
      go_enter Tryz.func18, Tryz.ntmps18
      go_wp2_with fail
      rw [← hW1, ← hR]
      clear hW1 hR
      refine HD.out.mono ?_
      rintro e w2 ⟨rfl, hb2⟩
      have HB2 := hidS hb2
      clear hb2 HD
      go_wp2_with (first | (go_at_call 29; refine (HLt.out _).mono ?_; rintro e wE ⟨rfl, hwE⟩; have hwE' := hwE.symm; subst hwE'; clear hwE) | (go_at_call 33; refine (HDg.out _).mono ?_; rintro e wE ⟨rfl, hwE⟩; have hwE' := hwE.symm; subst hwE'; clear hwE) | fail)
      refine (HFr.out _).mono ?_
      rintro e w3 ⟨rfl, hg3⟩
      have HB3 : Hid (Below W1.heap.size W1 w3) := HB2.out.trans (hg3.below.mono HB2.out.size)
      clear hg3
      go_wp2_with fail
      refine (HNt.out _ (HW.out _ HB3.out).2.2.1).mono ?_
      rintro e w4 ⟨rfl, hb4⟩
      have HB4 : Hid (Below W1.heap.size W1 w4) := HB3.out.trans (hb4.mono HB3.out.size)
      clear hb4
      obtain ⟨-, -, -, hrow, -⟩ := HW.out _ HB4.out
      obtain ⟨⟨q0, q1, q2, q3, q4⟩, f0, f1, f2, f3, f4⟩ := hrow.cells
      clear hrow
      go_wp2_with fail
      obtain ⟨hr, hb⟩ := HPut.out _ HB4.out (.int .i64 k) (.string (S t')) (.int .i64 n) (.int .i64 0) (.int .i64 0)
      obtain ⟨⟨d0, d1, d2, d3, d4⟩, _⟩ := hr.cells
      exact bodyPost_ret (v := .tuple #[.agg #[.int .i64 k, .string (S t'), .int .i64 n, .int .i64 0, .int .i64 0], .int .i64 e9]) (by simp [results, Tryz.results18, go_sem, d0, d1, d2, d3, d4]) rfl ⟨rfl, hb⟩
    | false =>
      have e : tk = if sg = [] then .er 180 else .ok 4 sg 0 := by have h := HTk.out; simpa using h
      subst e
      clear HTk
      by_cases h0 : sg = []
      · have hq : ((S sg).toList == []) = true := by rw [hts, h0]; rfl
        rw [if_pos h0]
        clear h0 hts
        generalize S sg = u at *
        go_enter Tryz.func18, Tryz.ntmps18
        go_wp2_with fail
        rw [← hW1, ← hR]
        clear hW1 hR
        refine HD.out.mono ?_
        rintro e w2 ⟨rfl, hb2⟩
        have HB2 := hidS hb2
        clear hb2 HD
        go_wp2_with (first | (go_at_call 29; refine (HLt.out _).mono ?_; rintro e wE ⟨rfl, hwE⟩; have hwE' := hwE.symm; subst hwE'; clear hwE) | (go_at_call 33; refine (HDg.out _).mono ?_; rintro e wE ⟨rfl, hwE⟩; have hwE' := hwE.symm; subst hwE'; clear hwE) | fail)
        refine (HSg.out _ (HW.out _ HB2.out).2.1).mono ?_
        rintro e w3 ⟨rfl, hg3⟩
        have HB3 : Hid (Below W1.heap.size W1 w3) := HB2.out.trans (hg3.below.mono HB2.out.size)
        clear hg3
        obtain ⟨-, -, -, hrow, -⟩ := HW.out _ HB3.out
        obtain ⟨⟨q0, q1, q2, q3, q4⟩, f0, f1, f2, f3, f4⟩ := hrow.cells
        clear hrow
        go_wp2_with fail
        obtain ⟨hr, hb⟩ := HPut.out _ HB3.out (.int .i64 0) (.string ⟨#[]⟩) (.int .i64 0) (.int .i64 0) (.int .i64 0)
        obtain ⟨⟨d0, d1, d2, d3, d4⟩, _⟩ := hr.cells
        exact bodyPost_ret (v := .tuple #[.agg #[.int .i64 0, .string ⟨#[]⟩, .int .i64 0, .int .i64 0, .int .i64 0], .int .i64 180]) (by simp [results, Tryz.results18, go_sem, d0, d1, d2, d3, d4]) rfl ⟨rfl, hb⟩
      · have hq : ((S sg).toList == []) = false := by rw [hts]; cases sg with | nil => exact absurd rfl h0 | cons _ _ => rfl
        rw [if_neg h0]
        clear h0 hts
        have HV : Hid (tkP (.ok 4 sg 0) = .tuple #[.agg #[.int .i64 4, .string (S sg), .int .i64 0, .int .i64 0, .int .i64 0], .int .i64 0]) := rfl
        rw [HV.out]
        clear HV
        generalize S sg = u at *
        go_enter Tryz.func18, Tryz.ntmps18
        go_wp2_with fail
        rw [← hW1, ← hR]
        clear hW1 hR
        refine HD.out.mono ?_
        rintro e w2 ⟨rfl, hb2⟩
        have HB2 := hidS hb2
        clear hb2 HD
        go_wp2_with (first | (go_at_call 29; refine (HLt.out _).mono ?_; rintro e wE ⟨rfl, hwE⟩; have hwE' := hwE.symm; subst hwE'; clear hwE) | (go_at_call 33; refine (HDg.out _).mono ?_; rintro e wE ⟨rfl, hwE⟩; have hwE' := hwE.symm; subst hwE'; clear hwE) | fail)
        refine (HSg.out _ (HW.out _ HB2.out).2.1).mono ?_
        rintro e w3 ⟨rfl, hg3⟩
        have HB3 : Hid (Below W1.heap.size W1 w3) := HB2.out.trans (hg3.below.mono HB2.out.size)
        clear hg3
        obtain ⟨-, -, -, hrow, -⟩ := HW.out _ HB3.out
        obtain ⟨⟨q0, q1, q2, q3, q4⟩, f0, f1, f2, f3, f4⟩ := hrow.cells
        clear hrow
        go_wp2_with fail
        obtain ⟨hr, hb⟩ := HPut.out _ HB3.out (.int .i64 4) (.string u) (.int .i64 0) (.int .i64 0) (.int .i64 0)
        obtain ⟨⟨d0, d1, d2, d3, d4⟩, _⟩ := hr.cells
        exact bodyPost_ret (v := .tuple #[.agg #[.int .i64 4, .string u, .int .i64 0, .int .i64 0, .int .i64 0], .int .i64 0]) (by simp [results, Tryz.results18, go_sem, d0, d1, d2, d3, d4]) rfl ⟨rfl, hb⟩
end Go.Proofs.YtlabofafmcbfmaaGreatDoor
