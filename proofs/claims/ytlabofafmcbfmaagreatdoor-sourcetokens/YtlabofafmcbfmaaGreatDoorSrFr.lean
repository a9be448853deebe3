/-
  SOURCE: front. By gen_srfr.py.
-/
import Derived.Test.YtlabofafmcbfmaaGreatDoorSrMath
import Derived.Test.YtlabofafmcbfmaaGreatDoorADec
namespace Go.Proofs.YtlabofafmcbfmaaGreatDoor
open Go.RowKit Go.Sort

abbrev fnV (f : Nat) : Value := .func (.func f) #[] #[]
set_option maxRecDepth 100000 in
theorem isBlank_any (w : World) (c : Nat) (_hc : c ≤ 2147483647) : Calls Tryz.prog 46 #[.int .i32 (c : Int)] w fun e w' => e = .returned (.bool (blC c)) ∧ w' = w := by
  unfold blC
  by_cases h32 : c = 32
  · subst h32
    go_enter Tryz.func46, Tryz.ntmps46
    go_wp2
    go_ret
    exact ⟨rfl, rfl⟩
  by_cases h9 : c = 9
  · subst h9
    go_enter Tryz.func46, Tryz.ntmps46
    go_wp2
    go_ret
    exact ⟨rfl, rfl⟩
  by_cases h13 : c = 13
  · subst h13
    go_enter Tryz.func46, Tryz.ntmps46
    go_wp2
    go_ret
    exact ⟨rfl, rfl⟩
  by_cases h10 : c = 10
  · subst h10
    go_enter Tryz.func46, Tryz.ntmps46
    go_wp2
    go_ret
    exact ⟨rfl, rfl⟩
  have q1 : ((c : Int) == 32) = false := by simp; omega
  have q2 : ((c : Int) == 9) = false := by simp; omega
  have q3 : ((c : Int) == 13) = false := by simp; omega
  have q4 : ((c : Int) == 10) = false := by simp; omega
  rw [show (decide (c = 32) || decide (c = 9) || decide (c = 13) || decide (c = 10)) = false by simp [h32, h9, h13, h10]]
  clear h32 h9 h13 h10
  go_enter Tryz.func46, Tryz.ntmps46
  go_wp2
  go_ret
  exact ⟨rfl, rfl⟩
set_option maxRecDepth 100000 in
theorem notFeed_any (w : World) (c : Nat) (_hc : c ≤ 2147483647) : Calls Tryz.prog 43 #[.int .i32 (c : Int)] w fun e w' => e = .returned (.bool (nlC c)) ∧ w' = w := by
  unfold nlC
  by_cases h : c = 10
  · subst h
    go_enter Tryz.func43, Tryz.ntmps43
    go_wp2
    go_ret
    exact ⟨rfl, rfl⟩
  · have q4 : ((c : Int) == 10) = false := by simp; omega
    have q5 : ((c : Int) != 10) = true := by simp; omega
    rw [show (!decide (c = 10)) = true by simp [h]]
    clear h
    go_enter Tryz.func43, Tryz.ntmps43
    go_wp2
    go_ret
    exact ⟨rfl, rfl⟩
set_option maxRecDepth 100000 in
theorem isDigit_any (w : World) (c : Nat) (_hc : c ≤ 2147483647) : Calls Tryz.prog 33 #[.int .i32 (c : Int)] w fun e w' => e = .returned (.bool (diC c)) ∧ w' = w := by
  have q1 : decide ((48 : Int) ≤ (c : Int)) = decide (48 ≤ c) := by simp; omega
  have q2 : decide ((c : Int) ≤ 57) = decide (c ≤ 57) := by simp; omega
  unfold diC
  by_cases h1 : 48 ≤ c
  · have p1 : (48 : Int) ≤ (c : Int) := by omega
    rw [decide_eq_true h1]
    by_cases h2 : c ≤ 57
    · have p2 : (c : Int) ≤ 57 := by omega
      rw [decide_eq_true h2]
      clear q1 q2 h1 h2
      go_enter Tryz.func33, Tryz.ntmps33
      go_wp2
      go_ret
      exact ⟨rfl, rfl⟩
    · have p2 : ¬ (c : Int) ≤ 57 := by omega
      rw [decide_eq_false h2]
      clear q1 q2 h1 h2
      go_enter Tryz.func33, Tryz.ntmps33
      go_wp2
      go_ret
      exact ⟨rfl, rfl⟩
  · have p1 : ¬ (48 : Int) ≤ (c : Int) := by omega
    rw [decide_eq_false h1]
    clear q1 q2 h1
    go_enter Tryz.func33, Tryz.ntmps33
    go_wp2
    go_ret
    exact ⟨by simp, rfl⟩
set_option maxRecDepth 100000 in
theorem isLetter_any (w : World) (c : Nat) (_hc : c ≤ 2147483647) : Calls Tryz.prog 29 #[.int .i32 (c : Int)] w fun e w' => e = .returned (.bool (leC c)) ∧ w' = w := by
  by_cases h1 : 97 ≤ c
  · have p1 : (97 : Int) ≤ (c : Int) := by omega
    by_cases h2 : c ≤ 122
    · have p2 : (c : Int) ≤ 122 := by omega
      have e : leC c = true := by simp [leC, h1, h2]
      rw [e]
      clear h1 h2 e
      go_enter Tryz.func29, Tryz.ntmps29
      go_wp2
      go_ret
      exact ⟨rfl, rfl⟩
    · have p2 : ¬ (c : Int) ≤ 122 := by omega
      have p3 : (65 : Int) ≤ (c : Int) := by omega
      have p4 : ¬ (c : Int) ≤ 90 := by omega
      have e : leC c = false := by simp [leC]; omega
      rw [e]
      clear h1 h2 e
      go_enter Tryz.func29, Tryz.ntmps29
      go_wp2
      go_ret
      exact ⟨rfl, rfl⟩
  · have p1 : ¬ (97 : Int) ≤ (c : Int) := by omega
    by_cases h2 : 65 ≤ c
    · have p3 : (65 : Int) ≤ (c : Int) := by omega
      by_cases h3 : c ≤ 90
      · have p4 : (c : Int) ≤ 90 := by omega
        have e : leC c = true := by simp [leC, h2, h3]
        rw [e]
        clear h1 h2 h3 e
        go_enter Tryz.func29, Tryz.ntmps29
        go_wp2
        go_ret
        exact ⟨rfl, rfl⟩
      · have p4 : ¬ (c : Int) ≤ 90 := by omega
        have e : leC c = false := by simp [leC]; omega
        rw [e]
        clear h1 h2 h3 e
        go_enter Tryz.func29, Tryz.ntmps29
        go_wp2
        go_ret
        exact ⟨rfl, rfl⟩
    · have p3 : ¬ (65 : Int) ≤ (c : Int) := by omega
      have e : leC c = false := by simp [leC]; omega
      rw [e]
      clear h1 h2 e
      go_enter Tryz.func29, Tryz.ntmps29
      go_wp2
      go_ret
      exact ⟨rfl, rfl⟩
set_option maxRecDepth 100000 in
theorem inWord_any (w : World) (c : Nat) (hc : c ≤ 2147483647) : Calls Tryz.prog 32 #[.int .i32 (c : Int)] w fun e w' => e = .returned (.bool (woC c)) ∧ w' = w := by
  have HL := hidS (isLetter_any w c hc)
  have HD := hidS (isDigit_any w c hc)
  unfold woC
  generalize leC c = a at *
  generalize diC c = b at *
  by_cases h : c = 95
  · rw [decide_eq_true h]
    have q : (c : Int) = 95 := by omega
    rw [q] at HL HD ⊢
    clear h q hc
    cases a <;> cases b
    all_goals
      go_enter Tryz.func32, Tryz.ntmps32
      go_wp2_with (first | (go_at_call 29; refine HL.out.mono ?_; rintro e wE ⟨rfl, hwE⟩; have hwE' := hwE.symm; subst hwE'; clear hwE) | (go_at_call 33; refine HD.out.mono ?_; rintro e wE ⟨rfl, hwE⟩; have hwE' := hwE.symm; subst hwE'; clear hwE))
      go_ret
      exact ⟨rfl, rfl⟩
  · rw [decide_eq_false h]
    have q : ((c : Int) == 95) = false := by simp; omega
    clear h hc
    cases a <;> cases b
    all_goals
      go_enter Tryz.func32, Tryz.ntmps32
      go_wp2_with (first | (go_at_call 29; refine HL.out.mono ?_; rintro e wE ⟨rfl, hwE⟩; have hwE' := hwE.symm; subst hwE'; clear hwE) | (go_at_call 33; refine HD.out.mono ?_; rintro e wE ⟨rfl, hwE⟩; have hwE' := hwE.symm; subst hwE'; clear hwE))
      go_ret
      exact ⟨rfl, rfl⟩
/-- what a text's sign is, byte by byte -/
theorem sgn_at (l : List UInt8) (k : Nat) (h : k < l.length) :
    (l[k].toNat < 128 ∧ Utf8.decode (S l) k = (l[k].toNat, 1)) ∨ (128 ≤ l[k].toNat ∧ 128 ≤ (Utf8.decode (S l) k).1 ∧ 1 ≤ (Utf8.decode (S l) k).2 ∧ k + (Utf8.decode (S l) k).2 ≤ l.length ∧ ∀ i (hi : k + i < l.length), i < (Utf8.decode (S l) k).2 → 128 ≤ l[k + i].toNat) := by
  have hz : k < (S l).size := by rw [S_size]; exact h
  have hg : ∀ i (hi : i < l.length), (S l).get! i = l[i] := fun i hi => by
    have h1 := get_at (S l) i (by rw [S_size]; exact hi)
    rw [Nat.add_zero] at h1
    rw [h1]
    exact S_get l i _
  by_cases ha : l[k].toNat < 128
  · left
    have e : (S l)[k]'hz = l[k] := S_get l k hz
    exact ⟨ha, (decode_ascii (S l) k hz (by rw [e]; exact ha)).trans (congrArg (fun b : UInt8 => (b.toNat, 1)) e)⟩
  · right
    have e : (S l)[k]'hz = l[k] := S_get l k hz
    have h1 := decode_high (S l) k hz (by rw [e]; omega)
    have h2 := dec_bytes (S l) k hz (by rw [hg k h]; omega)
    rw [S_size] at h2
    exact ⟨by omega, h1.1, h1.2, h2.1, fun i hi hlt => by have := h2.2 i hlt; rw [hg (k + i) hi] at this; exact this⟩
theorem woC_hi {c : Nat} (h : 128 ≤ c) : woC c = false := by
  simp [woC, leC, diC]
  omega
set_option maxRecDepth 100000 in
set_option maxHeartbeats 1000000 in
theorem frontW_any (w : World) (l : List UInt8) (hl : l.length ≤ 65536) : Calls Tryz.prog 31 #[.string (S l), fnV 32] w fun e w' => e = .returned (.int .i64 (frB woC l : Nat)) ∧ Grew w w' := by
  have HG : Hid (∀ k, Grew w (w.iter (S l) k)) := fun k => (Grew.refl w).alloc _
  obtain ⟨n, hn⟩ : ∃ n, n = l.length := ⟨_, rfl⟩
  have HN := hidS hn
  have hsz : (S l).size = n := by rw [S_size, hn]
  have HSz := hidS hsz
  have hn9 : n ≤ 65536 := by omega
  clear hn hl
  go_enter Tryz.func31, Tryz.ntmps31
  go_wp2_with fail
  go_loopw [5, 6] (fun _ _ wr => ∃ (k : Nat), k ≤ n ∧ wr = w.iter (S l) k ∧ Hid (∀ i (hi : i < l.length), i < k → woC l[i].toNat = true)) (fun _ _ wr => n - wr.iterPos w.heap.size)
  case atStart => exact ⟨0, Nat.zero_le _, rfl, fun i hi h => by omega⟩
  case round =>
    obtain ⟨k, hk, rfl, HI⟩ := hrel
    by_cases hlt : k < n
    · have hkl : k < l.length := by rw [← HN.out]; exact hlt
      have hnx := fun ty => run_next_any (P := Tryz.prog) w (S l) k ty (by rw [HSz.out]; exact hlt)
      have hd := decode_le (S l) k
      have HA := hidS (sgn_at l k hkl)
      obtain ⟨c, wd, hdc⟩ : ∃ c wd, Utf8.decode (S l) k = (c, wd) := ⟨_, _, rfl⟩
      rw [hdc] at hnx hd HA
      simp only at hnx hd HA
      have HC := hidS (inWord_any (w.iter (S l) (k + wd)) c hd)
      have HB : Hid (woC c = woC l[k].toNat ∧ 1 ≤ wd ∧ k + wd ≤ n ∧ ∀ i (hi : i < l.length), k ≤ i → i < k + wd → woC l[i].toNat = woC c) := by
        rcases HA.out with ⟨h1, h2⟩ | ⟨h1, h2, h3, h4, h5⟩
        · simp only [Prod.mk.injEq] at h2
          obtain ⟨rfl, rfl⟩ := h2
          exact ⟨rfl, Nat.le_refl _, by omega, fun i hi h6 h7 => by obtain rfl : i = k := (by omega); rfl⟩
        · refine ⟨by rw [woC_hi h1, woC_hi h2], h3, by rw [HN.out]; exact h4, fun i hi h6 h7 => ?_⟩
          have h8 := h5 (i - k) (by omega) (by omega)
          have e : k + (i - k) = i := by omega
          simp only [e] at h8
          rw [woC_hi h8, woC_hi h2]
      clear hdc HA
      generalize hb : woC c = b at *
      cases b with
      | true =>
        have HI2 : Hid (∀ i (hi : i < l.length), i < k + wd → woC l[i].toNat = true) := fun i hi h6 => by
          by_cases h7 : i < k
          · exact HI.out i hi h7
          · exact HB.out.2.2.2 i hi (by omega) h6
        have hwd := HB.out.2.2.1
        have hwd1 := HB.out.2.1
        clear HB hb HI
        go_wp2_with (first | (go_at_call 32; refine HC.out.mono ?_; rintro e wE ⟨rfl, hwE⟩; have hwE' := hwE.symm; subst hwE'; clear hwE))
        go_roundw
        case rel => exact ⟨k + wd, by omega, rfl, HI2⟩
        case measure => simp only [World.iterPos_iter]; omega
      | false =>
        have HF : Hid (frB woC l = k) := frB_of woC l k (by rw [← HN.out]; exact hk) HI.out (fun h => HB.out.1.symm)
        have HG2 := hidS (HG.out (k + wd))
        clear HB hb HI
        go_wp2_with (first | (go_at_call 32; refine HC.out.mono ?_; rintro e wE ⟨rfl, hwE⟩; have hwE' := hwE.symm; subst hwE'; clear hwE))
        go_ret
        exact ⟨by rw [HF.out]; rfl, HG2.out⟩
    · have hke : k = n := by omega
      subst hke
      have hnx := fun ty => run_next_end (P := Tryz.prog) w (S l) k ty (by rw [HSz.out]; omega)
      have HF : Hid (frB woC l = k) := frB_of woC l k (by rw [← HN.out]; exact Nat.le_refl _) HI.out (fun h => absurd h (by rw [← HN.out]; omega))
      have HG2 := hidS (HG.out k)
      clear HI
      go_wp2
      go_ret
      exact ⟨by rw [HF.out]; first | rfl | simp [hsz], HG2.out⟩
theorem blC_hi {c : Nat} (h : 128 ≤ c) : blC c = false := by
  simp [blC]
  omega
set_option maxRecDepth 100000 in
set_option maxHeartbeats 1000000 in
theorem frontB_any (w : World) (l : List UInt8) (hl : l.length ≤ 65536) : Calls Tryz.prog 31 #[.string (S l), fnV 46] w fun e w' => e = .returned (.int .i64 (frB blC l : Nat)) ∧ Grew w w' := by
  have HG : Hid (∀ k, Grew w (w.iter (S l) k)) := fun k => (Grew.refl w).alloc _
  obtain ⟨n, hn⟩ : ∃ n, n = l.length := ⟨_, rfl⟩
  have HN := hidS hn
  have hsz : (S l).size = n := by rw [S_size, hn]
  have HSz := hidS hsz
  have hn9 : n ≤ 65536 := by omega
  clear hn hl
  go_enter Tryz.func31, Tryz.ntmps31
  go_wp2_with fail
  go_loopw [5, 6] (fun _ _ wr => ∃ (k : Nat), k ≤ n ∧ wr = w.iter (S l) k ∧ Hid (∀ i (hi : i < l.length), i < k → blC l[i].toNat = true)) (fun _ _ wr => n - wr.iterPos w.heap.size)
  case atStart => exact ⟨0, Nat.zero_le _, rfl, fun i hi h => by omega⟩
  case round =>
    obtain ⟨k, hk, rfl, HI⟩ := hrel
    by_cases hlt : k < n
    · have hkl : k < l.length := by rw [← HN.out]; exact hlt
      have hnx := fun ty => run_next_any (P := Tryz.prog) w (S l) k ty (by rw [HSz.out]; exact hlt)
      have hd := decode_le (S l) k
      have HA := hidS (sgn_at l k hkl)
      obtain ⟨c, wd, hdc⟩ : ∃ c wd, Utf8.decode (S l) k = (c, wd) := ⟨_, _, rfl⟩
      rw [hdc] at hnx hd HA
      simp only at hnx hd HA
      have HC := hidS (isBlank_any (w.iter (S l) (k + wd)) c hd)
      have HB : Hid (blC c = blC l[k].toNat ∧ 1 ≤ wd ∧ k + wd ≤ n ∧ ∀ i (hi : i < l.length), k ≤ i → i < k + wd → blC l[i].toNat = blC c) := by
        rcases HA.out with ⟨h1, h2⟩ | ⟨h1, h2, h3, h4, h5⟩
        · simp only [Prod.mk.injEq] at h2
          obtain ⟨rfl, rfl⟩ := h2
          exact ⟨rfl, Nat.le_refl _, by omega, fun i hi h6 h7 => by obtain rfl : i = k := (by omega); rfl⟩
        · refine ⟨by rw [blC_hi h1, blC_hi h2], h3, by rw [HN.out]; exact h4, fun i hi h6 h7 => ?_⟩
          have h8 := h5 (i - k) (by omega) (by omega)
          have e : k + (i - k) = i := by omega
          simp only [e] at h8
          rw [blC_hi h8, blC_hi h2]
      clear hdc HA
      generalize hb : blC c = b at *
      cases b with
      | true =>
        have HI2 : Hid (∀ i (hi : i < l.length), i < k + wd → blC l[i].toNat = true) := fun i hi h6 => by
          by_cases h7 : i < k
          · exact HI.out i hi h7
          · exact HB.out.2.2.2 i hi (by omega) h6
        have hwd := HB.out.2.2.1
        have hwd1 := HB.out.2.1
        clear HB hb HI
        go_wp2_with (first | (go_at_call 46; refine HC.out.mono ?_; rintro e wE ⟨rfl, hwE⟩; have hwE' := hwE.symm; subst hwE'; clear hwE))
        go_roundw
        case rel => exact ⟨k + wd, by omega, rfl, HI2⟩
        case measure => simp only [World.iterPos_iter]; omega
      | false =>
        have HF : Hid (frB blC l = k) := frB_of blC l k (by rw [← HN.out]; exact hk) HI.out (fun h => HB.out.1.symm)
        have HG2 := hidS (HG.out (k + wd))
        clear HB hb HI
        go_wp2_with (first | (go_at_call 46; refine HC.out.mono ?_; rintro e wE ⟨rfl, hwE⟩; have hwE' := hwE.symm; subst hwE'; clear hwE))
        go_ret
        exact ⟨by rw [HF.out]; rfl, HG2.out⟩
    · have hke : k = n := by omega
      subst hke
      have hnx := fun ty => run_next_end (P := Tryz.prog) w (S l) k ty (by rw [HSz.out]; omega)
      have HF : Hid (frB blC l = k) := frB_of blC l k (by rw [← HN.out]; exact Nat.le_refl _) HI.out (fun h => absurd h (by rw [← HN.out]; omega))
      have HG2 := hidS (HG.out k)
      clear HI
      go_wp2
      go_ret
      exact ⟨by rw [HF.out]; first | rfl | simp [hsz], HG2.out⟩
theorem nlC_hi {c : Nat} (h : 128 ≤ c) : nlC c = true := by
  simp [nlC]
  omega
set_option maxRecDepth 100000 in
set_option maxHeartbeats 1000000 in
theorem frontN_any (w : World) (l : List UInt8) (hl : l.length ≤ 65536) : Calls Tryz.prog 31 #[.string (S l), fnV 43] w fun e w' => e = .returned (.int .i64 (frB nlC l : Nat)) ∧ Grew w w' := by
  have HG : Hid (∀ k, Grew w (w.iter (S l) k)) := fun k => (Grew.refl w).alloc _
  obtain ⟨n, hn⟩ : ∃ n, n = l.length := ⟨_, rfl⟩
  have HN := hidS hn
  have hsz : (S l).size = n := by rw [S_size, hn]
  have HSz := hidS hsz
  have hn9 : n ≤ 65536 := by omega
  clear hn hl
  go_enter Tryz.func31, Tryz.ntmps31
  go_wp2_with fail
  go_loopw [5, 6] (fun _ _ wr => ∃ (k : Nat), k ≤ n ∧ wr = w.iter (S l) k ∧ Hid (∀ i (hi : i < l.length), i < k → nlC l[i].toNat = true)) (fun _ _ wr => n - wr.iterPos w.heap.size)
  case atStart => exact ⟨0, Nat.zero_le _, rfl, fun i hi h => by omega⟩
  case round =>
    obtain ⟨k, hk, rfl, HI⟩ := hrel
    by_cases hlt : k < n
    · have hkl : k < l.length := by rw [← HN.out]; exact hlt
      have hnx := fun ty => run_next_any (P := Tryz.prog) w (S l) k ty (by rw [HSz.out]; exact hlt)
      have hd := decode_le (S l) k
      have HA := hidS (sgn_at l k hkl)
      obtain ⟨c, wd, hdc⟩ : ∃ c wd, Utf8.decode (S l) k = (c, wd) := ⟨_, _, rfl⟩
      rw [hdc] at hnx hd HA
      simp only at hnx hd HA
      have HC := hidS (notFeed_any (w.iter (S l) (k + wd)) c hd)
      have HB : Hid (nlC c = nlC l[k].toNat ∧ 1 ≤ wd ∧ k + wd ≤ n ∧ ∀ i (hi : i < l.length), k ≤ i → i < k + wd → nlC l[i].toNat = nlC c) := by
        rcases HA.out with ⟨h1, h2⟩ | ⟨h1, h2, h3, h4, h5⟩
        · simp only [Prod.mk.injEq] at h2
          obtain ⟨rfl, rfl⟩ := h2
          exact ⟨rfl, Nat.le_refl _, by omega, fun i hi h6 h7 => by obtain rfl : i = k := (by omega); rfl⟩
        · refine ⟨by rw [nlC_hi h1, nlC_hi h2], h3, by rw [HN.out]; exact h4, fun i hi h6 h7 => ?_⟩
          have h8 := h5 (i - k) (by omega) (by omega)
          have e : k + (i - k) = i := by omega
          simp only [e] at h8
          rw [nlC_hi h8, nlC_hi h2]
      clear hdc HA
      generalize hb : nlC c = b at *
      cases b with
      | true =>
        have HI2 : Hid (∀ i (hi : i < l.length), i < k + wd → nlC l[i].toNat = true) := fun i hi h6 => by
          by_cases h7 : i < k
          · exact HI.out i hi h7
          · exact HB.out.2.2.2 i hi (by omega) h6
        have hwd := HB.out.2.2.1
        have hwd1 := HB.out.2.1
        clear HB hb HI
        go_wp2_with (first | (go_at_call 43; refine HC.out.mono ?_; rintro e wE ⟨rfl, hwE⟩; have hwE' := hwE.symm; subst hwE'; clear hwE))
        go_roundw
        case rel => exact ⟨k + wd, by omega, rfl, HI2⟩
        case measure => simp only [World.iterPos_iter]; omega
      | false =>
        have HF : Hid (frB nlC l = k) := frB_of nlC l k (by rw [← HN.out]; exact hk) HI.out (fun h => HB.out.1.symm)
        have HG2 := hidS (HG.out (k + wd))
        clear HB hb HI
        go_wp2_with (first | (go_at_call 43; refine HC.out.mono ?_; rintro e wE ⟨rfl, hwE⟩; have hwE' := hwE.symm; subst hwE'; clear hwE))
        go_ret
        exact ⟨by rw [HF.out]; rfl, HG2.out⟩
    · have hke : k = n := by omega
      subst hke
      have hnx := fun ty => run_next_end (P := Tryz.prog) w (S l) k ty (by rw [HSz.out]; omega)
      have HF : Hid (frB nlC l = k) := frB_of nlC l k (by rw [← HN.out]; exact Nat.le_refl _) HI.out (fun h => absurd h (by rw [← HN.out]; omega))
      have HG2 := hidS (HG.out k)
      clear HI
      go_wp2
      go_ret
      exact ⟨by rw [HF.out]; first | rfl | simp [hsz], HG2.out⟩
end Go.Proofs.YtlabofafmcbfmaaGreatDoor
