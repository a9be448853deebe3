/-
  THE WALKS OF THE DOCUMENT's Text AND Parse.
-/
import Derived.Test.YtnjgaibcpcpmcaaDoorRNum
import Derived.Laws.DeepStrings4
namespace Go.Proofs.YtnjgaibcpcpmcaaDoor
open Go.RowKit Go.Sort Go.Shelf

set_option maxHeartbeats 1000000 in
set_option maxRecDepth 20000 in
theorem refText_key (w : World) (t r : Int) (hk : isKey (t, r) = true) (hr : In64 r) :
    Calls Tryd.prog 5 #[.agg #[.int .i64 t, .int .i64 r]] w fun e w' => e = .returned (.tuple #[.string ⟨(textOf (t, r)).toArray⟩, .int .i64 0]) ∧ ∃ q os, w' = grow (w.drewN q) os := by
  have mx := mixed
  have HT : Hid (textOf (t, r) = Lib.itoa t ++ 58 :: Lib.itoa r) := rfl
  have hk2 : 0 ≤ t ∧ t ≤ 65535 := by simpa [isKey] using hk
  have ht : In64 t := ⟨by omega, by omega⟩
  have HCk : Hid (∀ w, Calls Tryd.prog 11 #[.agg #[.int .i64 t, .int .i64 r]] w fun e w' => e = .returned (.int .i64 0) ∧ ∃ q os, w' = grow (w.drewN q) os) := fun w => by
    have := refCheck_any w t r
    rwa [hk] at this
  have HN : Hid (∀ w, Calls Tryd.prog 12 #[.int .u64 t] w fun e w' => e = .returned (.string ⟨(Lib.itoa t).toArray⟩) ∧ ∃ q os, w' = grow (w.drewN q) os) := fun w => by
    have := natural_any w t.toNat (by omega)
    rw [show ((t.toNat : Nat) : Int) = t by omega, ← itoa_pos t hk2.1] at this
    exact this
  have l1 := itoa_len t ht
  have l2 := itoa_len r hr
  obtain ⟨h0, h1⟩ := hk2
  have hwr : IntKind.u64.wrap t = t := by rw [IntKind.wrap_u64]; omega
  generalize textOf (t, r) = TX at *
  clear hk
  go_enter Tryd.func5, Tryd.ntmps5
  go_wp2_with fail
  have B0 : Hid (Box (w.alloc (.cells #[.int .i64 t, .int .i64 r] 23)) w.heap.size t r) := Box.new rfl
  have HG : Hid (Grew w (w.alloc (.cells #[.int .i64 t, .int .i64 r] 23))) := (Grew.refl _).alloc _
  generalize w.alloc (.cells #[.int .i64 t, .int .i64 r] 23) = W at *
  refine (HCk.out W).mono ?_
  rintro e w1 ⟨rfl, g1⟩
  have B1 : Hid (Box w1 w.heap.size t r) := B0.out.grew g1
  have HG1 : Hid (Grew w w1) := HG.out.trans g1
  clear g1 HCk B0 HG
  have c0 := fun n os => cell_grown (cell_lt B1.out.1) B1.out.1 n os
  have c1 := fun n os => cell_grown (cell_lt B1.out.2) B1.out.2 n os
  have s1 := sz (Lib.itoa t)
  have s2 := sz (Lib.itoa r)
  have s3 : (ByteArray.mk #[58]).size = 1 := rfl
  have h3 := cat3 (Lib.itoa t) (Lib.itoa r)
  have hs : ¬ ((ByteArray.mk (Lib.itoa t).toArray).size + (ByteArray.mk #[58]).size > 9223372036854775807) := by rw [s1, s3]; omega
  have hs2 : ¬ ((ByteArray.mk (Lib.itoa t).toArray ++ ByteArray.mk #[58]).size + (ByteArray.mk (Lib.itoa r).toArray).size > 9223372036854775807) := by rw [ByteArray.size_append, s1, s2, s3]; omega
  go_wp2_with fail
  refine wp_region_quiet_grown mx (by kernel_rfl) ?_
  repeat (go_big_quiet_step (first
    | (go_at_call 12; exact Calls.grown_of (HN.out _))
    | (go_at_call 13; exact Calls.grown_of (whole_any _ _ hr))))
  refine wpQuiet_nil ?_
  intro _ hw'
  obtain ⟨⟨nq, osq⟩, hw''⟩ := hw'
  subst hw''
  go_wp2
  go_ret2
  exact ⟨by rw [HT.out]; first | rfl | simp [h3], HG1.out.grow _ _⟩
theorem refText_none (w : World) (t r : Int) (hk : isKey (t, r) = false) :
    Calls Tryd.prog 5 #[.agg #[.int .i64 t, .int .i64 r]] w fun e w' => e = .returned (.tuple #[.string ⟨#[]⟩, .int .i64 20]) ∧ ∃ q os, w' = grow (w.drewN q) os := by
  have HCk : Hid (∀ w, Calls Tryd.prog 11 #[.agg #[.int .i64 t, .int .i64 r]] w fun e w' => e = .returned (.int .i64 20) ∧ ∃ q os, w' = grow (w.drewN q) os) := fun w => by
    have := refCheck_any w t r
    rwa [hk] at this
  clear hk
  go_enter Tryd.func5, Tryd.ntmps5
  go_wp2_with fail
  refine (HCk.out _).mono ?_
  rintro e w1 ⟨rfl, g1⟩
  have HG1 : Hid (Grew w w1) := ((Grew.refl _).alloc _).trans g1
  clear g1
  go_wp2
  go_ret2
  exact ⟨rfl, HG1.out⟩

theorem parse_t1 {l : List UInt8} {p : Nat} {e : Int} (h : tab l = (0, p, e)) (he : e ≠ 0) : parse l = ((0, 0), p, e) := by unfold parse; rw [h]; simp only; rw [if_neg he]
theorem parse_t2 {l : List UInt8} {t : Int} {n : Nat} (h : tab l = (t, n, 0)) (hc : l[n]? ≠ some 58) : parse l = ((0, 0), n, 40) := by unfold parse; rw [h]; simp only [if_true]; rw [if_neg hc]
theorem parse_t3 {l : List UInt8} {t x : Int} {n q : Nat} {e : Int} (h : tab l = (t, n, 0)) (hc : l[n]? = some 58) (hr : rowR l (n + 1) = (x, q, e)) (he : e ≠ 0) : parse l = ((0, 0), q, e) := by unfold parse; rw [h]; simp only [if_true]; rw [if_pos hc, hr]; simp only; rw [if_neg he]
theorem parse_t4 {l : List UInt8} {t x : Int} {n q : Nat} (h : tab l = (t, n, 0)) (hc : l[n]? = some 58) (hr : rowR l (n + 1) = (x, q, 0)) (hq : q < l.length) : parse l = ((0, 0), q, 40) := by unfold parse; rw [h]; simp only [if_true]; rw [if_pos hc, hr]; simp only [if_true]; rw [if_pos hq]
theorem parse_t5 {l : List UInt8} {t x : Int} {n q : Nat} (h : tab l = (t, n, 0)) (hc : l[n]? = some 58) (hr : rowR l (n + 1) = (x, q, 0)) (hq : ¬ q < l.length) : parse l = ((t, x), 0, 0) := by unfold parse; rw [h]; simp only [if_true]; rw [if_pos hc, hr]; simp only [if_true]; rw [if_neg hq]
theorem tab_0 {l : List UInt8} (h : run l 0 = 0) : tab l = (0, 0, 40) := by
  have hd : digs l 0 = (0, 40) := by unfold digs; rw [if_pos h]
  unfold tab; rw [hd]; rfl
theorem tab_1 {l : List UInt8} (h1 : l[0]? = some 48) (h2 : 1 < run l 0) : tab l = (0, 1, 40) := by
  have hd : digs l 0 = (1, 40) := by unfold digs; rw [if_neg (by omega), if_pos ⟨h1, h2⟩]
  unfold tab; rw [hd]; rfl
theorem value_piece (w : World) (s : ByteArray) (g d : Nat) (hs : s.size ≤ 281474976710656) (hd : d = g + run s.data.toList g) : Calls Tryd.prog 18 #[.string (s.extract g d)] w fun e w' => e = .returned (.tuple #[.int .u64 (vN (piece s.data.toList g) : Int), .bool (vOk (piece s.data.toList g))]) ∧ w = w' := by
  have e : (s.extract g d).data.toList = piece s.data.toList g := by rw [extract_list, hd]; rfl
  have := value_any w (s.extract g d) (Nat.le_trans (extract_size s g d) hs) (by rw [e]; exact piece_isD _ g)
  rw [e] at this
  exact this.mono fun _ _ h => ⟨h.1, h.2.symm⟩
theorem slice_piece (W : World) (s : ByteArray) (a b : Nat) (A B : Int) (hA : A = a) (hB : B = b) (h1 : a ≤ b) (h2 : b ≤ s.size) : Sem.run Tryd.prog (Instr.slice 9 (.string s) (some (.int .i64 A)) (some (.int .i64 B)) none) W = .ok (.string (s.extract a b)) W := by
  subst hA hB
  rw [run_slice_string_if W 9 s .i64 .i64 _ _ Tryd.underlying9, if_pos (by omega), if_pos (by omega)]
  rfl
theorem neg_row (v : Nat) (h : v ≤ 9223372036854775808) : IntKind.i64.wrap (IntKind.u64.wrap (-(v : Int))) = -(v : Int) := by
  rw [IntKind.wrap_u64, IntKind.wrap_i64]; omega

set_option maxHeartbeats 8000000 in
set_option maxRecDepth 100000 in
theorem refParse_any (w : World) (s : ByteArray) (hs : s.size ≤ 281474976710656) :
    Calls Tryd.prog 8 #[.string s] w fun e w' => e = .returned (.tuple #[.agg #[.int .i64 (parse s.data.toList).1.1, .int .i64 (parse s.data.toList).1.2], .int .i64 ((parse s.data.toList).2.1 : Int), .int .i64 (parse s.data.toList).2.2]) ∧ Below w.heap.size w w' := by
  have HG2 : Hid (Below w.heap.size w ((w.alloc (.cells #[.int .i64 0, .int .i64 0] 23)).alloc (.cells #[.int .i64 0, .int .i64 0] 23))) := (((Grew.refl w).alloc _).alloc _).below
  have HR : Hid (∀ w f, f ≤ s.size → Calls Tryd.prog 17 #[.string s, .int .i64 (f : Int)] w fun e w' => e = .returned (.int .i64 (run s.data.toList f : Int)) ∧ w = w') := fun w f hf => (row_any w s f hs hf).mono fun _ _ h => ⟨h.1, h.2.symm⟩
  have HR0 : Hid _ := fun w => HR.out w 0 (Nat.zero_le _)
  have hn := run_le s.data.toList 0
  rw [len_list, Nat.sub_zero] at hn
  go_enter Tryd.func8, Tryd.ntmps8
  go_wp2_with fail
  refine Calls.mono (HR0.out _) ?_
  rintro e w1 ⟨rfl, rfl⟩
  clear HR0
  by_cases h0 : run s.data.toList 0 = 0
  · have HX : Hid (parse s.data.toList = ((0, 0), 0, 40)) := parse_t1 (tab_0 h0) (by decide)
    have hq : ((run s.data.toList 0 : Int) == 0) = true := by rw [h0]; rfl
    clear h0
    generalize run s.data.toList 0 = n at *

    go_wp2
    refine bodyPost_ret (v := .tuple #[.agg #[.int .i64 0, .int .i64 0], .int .i64 0, .int .i64 40]) (by simp [results, Tryd.results8, go_sem]) rfl ?_
    exact ⟨by rw [HX.out]; simp, HG2.out⟩
  · have hq : ((run s.data.toList 0 : Int) == 0) = false := by simp; omega
    have h0s : 0 < s.size := by omega
    by_cases hz : s.data.toList[0]? = some 48 ∧ 1 < run s.data.toList 0
    · have HX : Hid (parse s.data.toList = ((0, 0), 1, 40)) := parse_t1 (tab_1 hz.1 hz.2) (by decide)
      have h1 : (1 : Int) < (run s.data.toList 0 : Int) := by omega
      have h48 : ((s[0].toNat : Int) == 48) = true := by have := hz.1; rw [at_some s 0 h0s] at this; rw [Option.some.inj this]; rfl
      have h0s' : (0 : Int) < (s.size : Int) := by omega
      clear hz h0
      generalize run s.data.toList 0 = n at *

      go_wp2
      refine bodyPost_ret (v := .tuple #[.agg #[.int .i64 0, .int .i64 0], .int .i64 1, .int .i64 40]) (by simp [results, Tryd.results8, go_sem]) rfl ?_
      exact ⟨by rw [HX.out]; simp, HG2.out⟩
    · have HT : Hid _ := tab_ref h0 hz
      have HV : Hid _ := fun w => value_piece w s 0 (run s.data.toList 0) hs (by omega)
      -- the test of a 0 ahead
      have htest : decide ((1 : Int) < (run s.data.toList 0 : Int)) = false ∨ ((1 : Int) < (run s.data.toList 0 : Int) ∧ ((s[0].toNat : Int) == 48) = false) := by
        by_cases h1 : 1 < run s.data.toList 0
        · refine .inr ⟨by omega, ?_⟩
          rw [beq_eq_false_iff_ne]; intro e
          exact hz ⟨by rw [at_some s 0 h0s]; exact congrArg some (UInt8.toNat_inj.1 (by have : (48 : UInt8).toNat = 48 := rfl; omega)), h1⟩
        · exact .inl (by simp; omega)
      clear hz
      have hkey : ∀ Q : Act → World → Prop, True := fun _ => trivial
      clear hkey
      have hvb : vN (piece s.data.toList 0) ≤ 9223372036854775808 := by unfold vN; split <;> omega
      have HVN : Hid (vOk (piece s.data.toList 0) = true → vN (piece s.data.toList 0) = val (piece s.data.toList 0)) := fun h => by unfold vOk at h; unfold vN; rw [if_pos (by simpa using h)]
      have HVF : Hid (vOk (piece s.data.toList 0) = false → ¬ val (piece s.data.toList 0) ≤ 65535) := fun h => by unfold vOk at h; simp at h; omega
      have h0s' : (0 : Int) < (s.size : Int) := by omega
      generalize vN (piece s.data.toList 0) = v at *
      generalize vOk (piece s.data.toList 0) = b at *
      generalize val (piece s.data.toList 0) = vv at *
      generalize hN : run s.data.toList 0 = n at *
      clear hN h0
      rcases htest with ht1 | ⟨ht1, ht2⟩
      · skip
        go_wp2_with fail
        refine Calls.mono (HV.out _) ?_
        rintro e w2 ⟨rfl, rfl⟩
        clear HV
        cases b with
        | false =>
          have HX : Hid (parse s.data.toList = ((0, 0), 0, 41)) := by
            have := HT.out; rw [if_neg (HVF.out rfl)] at this; exact parse_t1 this (by decide)

          go_wp2
          refine bodyPost_ret (v := .tuple #[.agg #[.int .i64 0, .int .i64 0], .int .i64 0, .int .i64 41]) (by simp [results, Tryd.results8, go_sem]) rfl ?_
          exact ⟨by rw [HX.out]; simp, HG2.out⟩
        | true =>
          have hvv := HVN.out rfl
          by_cases hle : v ≤ 65535
          · have HTt : Hid (tab s.data.toList = ((v : Int), n, 0)) := by have := HT.out; rw [if_pos (by omega), ← hvv] at this; exact this
            have hle' : decide ((65535 : Int) < (v : Int)) = false := by simp; omega
            clear HT HVN HVF hvv
            by_cases hc : s.data.toList[n]? = some 58
            · have hns : n < s.size := by
                by_cases h : n < s.size
                · exact h
                · rw [at_none s n h] at hc; cases hc
              have hns1 : decide ((s.size : Int) ≤ (n : Int)) = false := by simp; omega
              have hns2 : (n : Int) < (s.size : Int) := by omega
              have h58 : ((s[n].toNat : Int) != 58) = false := by have := hc; rw [at_some s n hns] at this; rw [Option.some.inj this]; rfl
              have HR1 : Hid _ := fun w => HR.out w (n + 1) (by omega)
              rw [show ((n + 1 : Nat) : Int) = (n : Int) + 1 by omega] at HR1
              have i1 : ((n : Int) + 1).toNat = n + 1 := by omega
              have hrl := run_le s.data.toList (n + 1)
              rw [len_list] at hrl
              by_cases hm : s.data.toList[n + 1]? = some 45
              · have hns3 : n + 1 < s.size := by
                  by_cases h : n + 1 < s.size
                  · exact h
                  · rw [at_none s _ h] at hm; cases hm
                have h45 : ((s[n + 1].toNat : Int) == 45) = true := by have := hm; rw [at_some s _ hns3] at this; rw [Option.some.inj this]; rfl
                have hns4 : (n : Int) + 1 < (s.size : Int) := by omega
                have HR2 : Hid _ := fun w => HR.out w (n + 1 + 1) (by omega)
                rw [show ((n + 1 + 1 : Nat) : Int) = (n : Int) + 1 + 1 by omega] at HR2
                have i2 : ((n : Int) + 1 + 1).toNat = n + 1 + 1 := by omega
                have hrl2 := run_le s.data.toList (n + 1 + 1)
                rw [len_list] at hrl2
                clear HR HR1
                go_wp2_with fail
                refine Calls.mono (HR2.out _) ?_
                rintro e w3 ⟨rfl, rfl⟩
                clear HR2
                by_cases hr0 : run s.data.toList (n + 1 + 1) = 0
                · have hq2 : ((run s.data.toList (n + 1 + 1) : Int) == 0) = true := by rw [hr0]; rfl
                  have HX : Hid (parse s.data.toList = ((0, 0), n + 1 + 1, 40)) := by
                    by_cases h48 : s.data.toList[n + 1 + 1]? = some 48
                    · have := (run_lt s.data.toList (n + 1 + 1) 0 (Nat.zero_le _)).2 ⟨48, h48, by decide⟩
                      omega
                    · exact parse_t3 HTt.out hc (by unfold rowR; rw [if_pos hm, if_neg h48, rest_40 hr0]) (by decide)
                  clear hr0 hc hm
                  generalize run s.data.toList (n + 1 + 1) = m at *

                  go_wp2
                  refine bodyPost_ret (v := .tuple #[.agg #[.int .i64 0, .int .i64 0], .int .i64 ((n : Int) + 1 + 1), .int .i64 40]) (by simp [results, Tryd.results8, go_sem]) rfl ?_
                  exact ⟨by rw [HX.out]; simp, HG2.out⟩
                · have hq2 : ((run s.data.toList (n + 1 + 1) : Int) == 0) = false := by simp; omega
                  have hns5 : n + 1 + 1 < s.size := by omega
                  have hns6 : (n : Int) + 1 + 1 < (s.size : Int) := by omega
                  by_cases h48 : s.data.toList[n + 1 + 1]? = some 48
                  · have h48' : ((s[n + 1 + 1].toNat : Int) == 48) = true := by have := h48; rw [at_some s _ hns5] at this; rw [Option.some.inj this]; rfl
                    have HX : Hid (parse s.data.toList = ((0, 0), n + 1 + 1, 40)) := parse_t3 HTt.out hc (by unfold rowR; rw [if_pos hm, if_pos h48]) (by decide)
                    clear hr0 hc hm h48
                    generalize run s.data.toList (n + 1 + 1) = m at *

                    go_wp2
                    refine bodyPost_ret (v := .tuple #[.agg #[.int .i64 0, .int .i64 0], .int .i64 ((n : Int) + 1 + 1), .int .i64 40]) (by simp [results, Tryd.results8, go_sem]) rfl ?_
                    exact ⟨by rw [HX.out]; simp, HG2.out⟩
                  · have h48' : ((s[n + 1 + 1].toNat : Int) == 48) = false := by
                      rw [beq_eq_false_iff_ne]; intro e
                      exact h48 (by rw [at_some s _ hns5]; exact congrArg some (UInt8.toNat_inj.1 (by have : (48 : UInt8).toNat = 48 := rfl; omega)))
                    have HRow : Hid _ := rest_minus hm hr0 h48
                    have HRR : Hid (rowR s.data.toList (n + 1) = rest s.data.toList (n + 1) (n + 1 + 1)) := by unfold rowR; rw [Hid, if_pos hm, if_neg h48]
                    have HV2 : Hid _ := fun w => value_piece w s (n + 1 + 1) (n + 1 + 1 + run s.data.toList (n + 1 + 1)) hs rfl
                    have HVN2 : Hid (vOk (piece s.data.toList (n + 1 + 1)) = true → vN (piece s.data.toList (n + 1 + 1)) = val (piece s.data.toList (n + 1 + 1)) ∧ val (piece s.data.toList (n + 1 + 1)) ≤ 9223372036854775808) := fun h => by unfold vOk at h; unfold vN; rw [if_pos (by simpa using h)]; exact ⟨rfl, by simpa using h⟩
                    have HVF2 : Hid (vOk (piece s.data.toList (n + 1 + 1)) = false → ¬ val (piece s.data.toList (n + 1 + 1)) ≤ 9223372036854775808) := fun h => by unfold vOk at h; simpa using h
                    generalize vN (piece s.data.toList (n + 1 + 1)) = v2 at *
                    generalize vOk (piece s.data.toList (n + 1 + 1)) = b2 at *
                    generalize val (piece s.data.toList (n + 1 + 1)) = vv2 at *
                    generalize run s.data.toList (n + 1 + 1) = m at *
                    have HTB : Hid (decide ((1 : Int) < (m : Int)) = false ∨ (1 : Int) < (m : Int)) := by rw [Hid]; by_cases h : (1 : Int) < (m : Int); exact .inr h; exact .inl (by simpa using h)
                    have i3 : ((n : Int) + 1 + 1 + (m : Int)).toNat = n + 1 + 1 + m := by omega
                    have j1 : (n : Int) + 1 + 1 + (m : Int) ≤ (s.size : Int) := by omega
                    have hsl := fun W => slice_piece W s (n + 1 + 1) (n + 1 + 1 + m) ((n : Int) + 1 + 1) ((n : Int) + 1 + 1 + (m : Int)) (by omega) (by omega) (by omega) (by omega)
                    clear hr0 h48
                    rcases HTB.out with tb | tb
                    all_goals
                      go_wp2_with fail
                      refine Calls.mono (HV2.out _) ?_
                      rintro e w4 ⟨rfl, rfl⟩
                      cases b2 with
                      | false =>
                        have HX : Hid (parse s.data.toList = ((0, 0), n + 1, 41)) := parse_t3 HTt.out hc (by rw [HRR.out, HRow.out, if_neg (HVF2.out rfl)]) (by decide)
                        clear hc hm HV2 HTB

                        go_wp2
                        refine bodyPost_ret (v := .tuple #[.agg #[.int .i64 0, .int .i64 0], .int .i64 ((n : Int) + 1), .int .i64 41]) (by simp [results, Tryd.results8, go_sem]) rfl ?_
                        exact ⟨by rw [HX.out]; simp, HG2.out⟩
                      | true =>
                        obtain ⟨hv2, hv3⟩ := HVN2.out rfl
                        have HRx : Hid (rowR s.data.toList (n + 1) = (-(v2 : Int), n + 1 + 1 + m, 0)) := by rw [Hid, HRR.out, HRow.out, if_pos hv3, hv2]
                        have hv4 : v2 ≤ 9223372036854775808 := by omega
                        clear HVN2 HVF2 hv2 hv3
                        by_cases hend : n + 1 + 1 + m < s.size
                        · have hend' : (n : Int) + 1 + 1 + (m : Int) < (s.size : Int) := by omega
                          have HX : Hid (parse s.data.toList = ((0, 0), n + 1 + 1 + m, 40)) := parse_t4 HTt.out hc HRx.out (by rw [len_list]; exact hend)
                          clear hc hm HV2 HTB

                          go_wp2
                          refine bodyPost_ret (v := .tuple #[.agg #[.int .i64 0, .int .i64 0], .int .i64 ((n : Int) + 1 + 1 + (m : Int)), .int .i64 40]) (by simp [results, Tryd.results8, go_sem]) rfl ?_
                          exact ⟨by rw [HX.out]; simp, HG2.out⟩
                        · have hend' : decide ((n : Int) + 1 + 1 + (m : Int) < (s.size : Int)) = false := by simp; omega
                          have HX : Hid (parse s.data.toList = (((v : Int), -(v2 : Int)), 0, 0)) := parse_t5 HTt.out hc HRx.out (by rw [len_list]; exact hend)
                          have hneg := neg_row v2 hv4
                          have HG3 : Hid (∀ X, Below w.heap.size w (((w.alloc (.cells #[.int .i64 (v : Int), .int .i64 (-(v2 : Int))] 23)).alloc (.cells #[.int .i64 0, .int .i64 0] 23)).alloc X)) := fun X => ((((Grew.refl w).alloc _).alloc _).alloc _).below
                          clear hc hm HV2 HTB

                          go_wp2
                          refine bodyPost_ret (v := .tuple #[.agg #[.int .i64 (v : Int), .int .i64 (-(v2 : Int))], .int .i64 0, .int .i64 0]) (by simp [results, Tryd.results8, go_sem]) rfl ?_
                          exact ⟨by rw [HX.out]; simp, HG3.out _⟩
              · -- no minus
                have HNM : Hid (decide ((n : Int) + 1 < (s.size : Int)) = false ∨ ∃ h : n + 1 < s.size, (n : Int) + 1 < (s.size : Int) ∧ ((s[n + 1].toNat : Int) == 45) = false) := by
                  rw [Hid]
                  by_cases h : n + 1 < s.size
                  · refine .inr ⟨h, by omega, ?_⟩
                    rw [beq_eq_false_iff_ne]; intro e
                    exact hm (by rw [at_some s _ h]; exact congrArg some (UInt8.toNat_inj.1 (by have : (45 : UInt8).toNat = 45 := rfl; omega)))
                  · exact .inl (by simp; omega)
                have HRR : Hid (rowR s.data.toList (n + 1) = rest s.data.toList (n + 1) (n + 1)) := by unfold rowR; rw [Hid, if_neg hm]
                clear HR hm
                rcases HNM.out with nm | ⟨nmh, nm1, nm2⟩
                · -- the text ends behind the colon
                  have hr0 : run s.data.toList (n + 1) = 0 := by
                    have : ¬ n + 1 < s.size := by have := of_decide_eq_false nm; omega
                    omega
                  go_wp2_with fail
                  refine Calls.mono (HR1.out _) ?_
                  rintro e w3 ⟨rfl, rfl⟩
                  clear HR1
                  have hq2 : ((run s.data.toList (n + 1) : Int) == 0) = true := by rw [hr0]; rfl
                  have HX : Hid (parse s.data.toList = ((0, 0), n + 1, 40)) := parse_t3 HTt.out hc (by rw [HRR.out, rest_40 hr0]) (by decide)
                  clear hr0 hc
                  generalize run s.data.toList (n + 1) = m at *

                  go_wp2
                  refine bodyPost_ret (v := .tuple #[.agg #[.int .i64 0, .int .i64 0], .int .i64 ((n : Int) + 1), .int .i64 40]) (by simp [results, Tryd.results8, go_sem]) rfl ?_
                  exact ⟨by rw [HX.out]; simp, HG2.out⟩
                · go_wp2_with fail
                  refine Calls.mono (HR1.out _) ?_
                  rintro e w3 ⟨rfl, rfl⟩
                  clear HR1
                  by_cases hr0 : run s.data.toList (n + 1) = 0
                  · have hq2 : ((run s.data.toList (n + 1) : Int) == 0) = true := by rw [hr0]; rfl
                    have HX : Hid (parse s.data.toList = ((0, 0), n + 1, 40)) := parse_t3 HTt.out hc (by rw [HRR.out, rest_40 hr0]) (by decide)
                    clear hr0 hc
                    generalize run s.data.toList (n + 1) = m at *

                    go_wp2
                    refine bodyPost_ret (v := .tuple #[.agg #[.int .i64 0, .int .i64 0], .int .i64 ((n : Int) + 1), .int .i64 40]) (by simp [results, Tryd.results8, go_sem]) rfl ?_
                    exact ⟨by rw [HX.out]; simp, HG2.out⟩
                  · have hq2 : ((run s.data.toList (n + 1) : Int) == 0) = false := by simp; omega
                    by_cases hz2 : s.data.toList[n + 1]? = some 48 ∧ 1 < run s.data.toList (n + 1)
                    · have h1 : (1 : Int) < (run s.data.toList (n + 1) : Int) := by omega
                      have h48' : ((s[n + 1].toNat : Int) == 48) = true := by have := hz2.1; rw [at_some s _ nmh] at this; rw [Option.some.inj this]; rfl
                      have HX : Hid (parse s.data.toList = ((0, 0), n + 1 + 1, 40)) := parse_t3 HTt.out hc (by rw [HRR.out, rest_41 hz2.1 hz2.2]) (by decide)
                      clear hr0 hc hz2
                      generalize run s.data.toList (n + 1) = m at *

                      go_wp2
                      refine bodyPost_ret (v := .tuple #[.agg #[.int .i64 0, .int .i64 0], .int .i64 ((n : Int) + 1 + 1), .int .i64 40]) (by simp [results, Tryd.results8, go_sem]) rfl ?_
                      exact ⟨by rw [HX.out]; simp, HG2.out⟩
                    · have HRow : Hid _ := rest_ref hr0 hz2
                      have HTB : Hid (decide ((1 : Int) < (run s.data.toList (n + 1) : Int)) = false ∨ ((1 : Int) < (run s.data.toList (n + 1) : Int) ∧ ((s[n + 1].toNat : Int) == 48) = false)) := by
                        rw [Hid]
                        by_cases h1 : 1 < run s.data.toList (n + 1)
                        · refine .inr ⟨by omega, ?_⟩
                          rw [beq_eq_false_iff_ne]; intro e
                          exact hz2 ⟨by rw [at_some s _ nmh]; exact congrArg some (UInt8.toNat_inj.1 (by have : (48 : UInt8).toNat = 48 := rfl; omega)), h1⟩
                        · exact .inl (by simp; omega)
                      have HV2 : Hid _ := fun w => value_piece w s (n + 1) (n + 1 + run s.data.toList (n + 1)) hs rfl
                      have HVN2 : Hid (vOk (piece s.data.toList (n + 1)) = true → vN (piece s.data.toList (n + 1)) = val (piece s.data.toList (n + 1)) ∧ val (piece s.data.toList (n + 1)) ≤ 9223372036854775808) := fun h => by unfold vOk at h; unfold vN; rw [if_pos (by simpa using h)]; exact ⟨rfl, by simpa using h⟩
                      have HVF2 : Hid (vOk (piece s.data.toList (n + 1)) = false → ¬ val (piece s.data.toList (n + 1)) ≤ 9223372036854775807) := fun h => by unfold vOk at h; simp at h; omega
                      generalize vN (piece s.data.toList (n + 1)) = v2 at *
                      generalize vOk (piece s.data.toList (n + 1)) = b2 at *
                      generalize val (piece s.data.toList (n + 1)) = vv2 at *
                      generalize run s.data.toList (n + 1) = m at *
                      have i3 : ((n : Int) + 1 + (m : Int)).toNat = n + 1 + m := by omega
                      have j1 : (n : Int) + 1 + (m : Int) ≤ (s.size : Int) := by omega
                      have hsl := fun W => slice_piece W s (n + 1) (n + 1 + m) ((n : Int) + 1) ((n : Int) + 1 + (m : Int)) (by omega) (by omega) (by omega) (by omega)
                      clear hr0 hz2
                      rcases HTB.out with tb | ⟨tb, tb2⟩
                      all_goals
                        go_wp2_with fail
                        refine Calls.mono (HV2.out _) ?_
                        rintro e w4 ⟨rfl, rfl⟩
                        cases b2 with
                        | false =>
                          have HX : Hid (parse s.data.toList = ((0, 0), n + 1, 41)) := parse_t3 HTt.out hc (by rw [HRR.out, HRow.out, if_neg (HVF2.out rfl)]) (by decide)
                          clear hc HV2 HTB

                          go_wp2
                          refine bodyPost_ret (v := .tuple #[.agg #[.int .i64 0, .int .i64 0], .int .i64 ((n : Int) + 1), .int .i64 41]) (by simp [results, Tryd.results8, go_sem]) rfl ?_
                          exact ⟨by rw [HX.out]; simp, HG2.out⟩
                        | true =>
                          obtain ⟨hv2, hv3⟩ := HVN2.out rfl
                          by_cases hbig : v2 ≤ 9223372036854775807
                          · have HRx : Hid (rowR s.data.toList (n + 1) = ((v2 : Int), n + 1 + m, 0)) := by rw [Hid, HRR.out, HRow.out, if_pos (by omega), hv2]
                            have hbig' : decide ((9223372036854775807 : Int) < (v2 : Int)) = false := by simp; omega
                            clear HVN2 HVF2 hv2 hv3
                            by_cases hend : n + 1 + m < s.size
                            · have hend' : (n : Int) + 1 + (m : Int) < (s.size : Int) := by omega
                              have HX : Hid (parse s.data.toList = ((0, 0), n + 1 + m, 40)) := parse_t4 HTt.out hc HRx.out (by rw [len_list]; exact hend)
                              clear hc HV2 HTB

                              go_wp2
                              refine bodyPost_ret (v := .tuple #[.agg #[.int .i64 0, .int .i64 0], .int .i64 ((n : Int) + 1 + (m : Int)), .int .i64 40]) (by simp [results, Tryd.results8, go_sem]) rfl ?_
                              exact ⟨by rw [HX.out]; simp, HG2.out⟩
                            · have hend' : decide ((n : Int) + 1 + (m : Int) < (s.size : Int)) = false := by simp; omega
                              have HX : Hid (parse s.data.toList = (((v : Int), (v2 : Int)), 0, 0)) := parse_t5 HTt.out hc HRx.out (by rw [len_list]; exact hend)
                              have HG3 : Hid (∀ X, Below w.heap.size w (((w.alloc (.cells #[.int .i64 (v : Int), .int .i64 (v2 : Int)] 23)).alloc (.cells #[.int .i64 0, .int .i64 0] 23)).alloc X)) := fun X => ((((Grew.refl w).alloc _).alloc _).alloc _).below
                              clear hc HV2 HTB

                              go_wp2
                              refine bodyPost_ret (v := .tuple #[.agg #[.int .i64 (v : Int), .int .i64 (v2 : Int)], .int .i64 0, .int .i64 0]) (by simp [results, Tryd.results8, go_sem]) rfl ?_
                              exact ⟨by rw [HX.out]; simp, HG3.out _⟩
                          · have hbig' : (9223372036854775807 : Int) < (v2 : Int) := by omega
                            have HX : Hid (parse s.data.toList = ((0, 0), n + 1, 41)) := parse_t3 HTt.out hc (by rw [HRR.out, HRow.out, if_neg (by omega)]) (by decide)
                            clear hc HV2 HTB HVN2 HVF2 hv2 hv3

                            go_wp2
                            refine bodyPost_ret (v := .tuple #[.agg #[.int .i64 0, .int .i64 0], .int .i64 ((n : Int) + 1), .int .i64 41]) (by simp [results, Tryd.results8, go_sem]) rfl ?_
                            exact ⟨by rw [HX.out]; simp, HG2.out⟩
            · have HX : Hid (parse s.data.toList = ((0, 0), n, 40)) := parse_t2 HTt.out hc
              have hns : (s.size : Int) ≤ (n : Int) ∨ ∃ h : n < s.size, decide ((s.size : Int) ≤ (n : Int)) = false ∧ (n : Int) < (s.size : Int) ∧ ((s[n].toNat : Int) != 58) = true := by
                by_cases h : n < s.size
                · refine .inr ⟨h, by simp; omega, by omega, ?_⟩
                  rw [bne_iff_ne]; intro e
                  exact hc (by rw [at_some s _ h]; exact congrArg some (UInt8.toNat_inj.1 (by have : (58 : UInt8).toNat = 58 := rfl; omega)))
                · exact .inl (by omega)
              clear hc HR

              rcases hns with hns | ⟨hns, hns1, hns2, hns3⟩
              · skip
                go_wp2
                refine bodyPost_ret (v := .tuple #[.agg #[.int .i64 0, .int .i64 0], .int .i64 (n : Int), .int .i64 40]) (by simp [results, Tryd.results8, go_sem]) rfl ?_
                exact ⟨by rw [HX.out], HG2.out⟩
              · skip
                go_wp2
                refine bodyPost_ret (v := .tuple #[.agg #[.int .i64 0, .int .i64 0], .int .i64 (n : Int), .int .i64 40]) (by simp [results, Tryd.results8, go_sem]) rfl ?_
                exact ⟨by rw [HX.out], HG2.out⟩
          · have hle' : (65535 : Int) < (v : Int) := by omega
            have HX : Hid (parse s.data.toList = ((0, 0), 0, 41)) := by
              have := HT.out; rw [if_neg (by omega)] at this; exact parse_t1 this (by decide)

            go_wp2
            refine bodyPost_ret (v := .tuple #[.agg #[.int .i64 0, .int .i64 0], .int .i64 0, .int .i64 41]) (by simp [results, Tryd.results8, go_sem]) rfl ?_
            exact ⟨by rw [HX.out]; simp, HG2.out⟩
      · skip
        go_wp2_with fail
        refine Calls.mono (HV.out _) ?_
        rintro e w2 ⟨rfl, rfl⟩
        clear HV
        cases b with
        | false =>
          have HX : Hid (parse s.data.toList = ((0, 0), 0, 41)) := by
            have := HT.out; rw [if_neg (HVF.out rfl)] at this; exact parse_t1 this (by decide)

          go_wp2
          refine bodyPost_ret (v := .tuple #[.agg #[.int .i64 0, .int .i64 0], .int .i64 0, .int .i64 41]) (by simp [results, Tryd.results8, go_sem]) rfl ?_
          exact ⟨by rw [HX.out]; simp, HG2.out⟩
        | true =>
          have hvv := HVN.out rfl
          by_cases hle : v ≤ 65535
          · have HTt : Hid (tab s.data.toList = ((v : Int), n, 0)) := by have := HT.out; rw [if_pos (by omega), ← hvv] at this; exact this
            have hle' : decide ((65535 : Int) < (v : Int)) = false := by simp; omega
            clear HT HVN HVF hvv
            by_cases hc : s.data.toList[n]? = some 58
            · have hns : n < s.size := by
                by_cases h : n < s.size
                · exact h
                · rw [at_none s n h] at hc; cases hc
              have hns1 : decide ((s.size : Int) ≤ (n : Int)) = false := by simp; omega
              have hns2 : (n : Int) < (s.size : Int) := by omega
              have h58 : ((s[n].toNat : Int) != 58) = false := by have := hc; rw [at_some s n hns] at this; rw [Option.some.inj this]; rfl
              have HR1 : Hid _ := fun w => HR.out w (n + 1) (by omega)
              rw [show ((n + 1 : Nat) : Int) = (n : Int) + 1 by omega] at HR1
              have i1 : ((n : Int) + 1).toNat = n + 1 := by omega
              have hrl := run_le s.data.toList (n + 1)
              rw [len_list] at hrl
              by_cases hm : s.data.toList[n + 1]? = some 45
              · have hns3 : n + 1 < s.size := by
                  by_cases h : n + 1 < s.size
                  · exact h
                  · rw [at_none s _ h] at hm; cases hm
                have h45 : ((s[n + 1].toNat : Int) == 45) = true := by have := hm; rw [at_some s _ hns3] at this; rw [Option.some.inj this]; rfl
                have hns4 : (n : Int) + 1 < (s.size : Int) := by omega
                have HR2 : Hid _ := fun w => HR.out w (n + 1 + 1) (by omega)
                rw [show ((n + 1 + 1 : Nat) : Int) = (n : Int) + 1 + 1 by omega] at HR2
                have i2 : ((n : Int) + 1 + 1).toNat = n + 1 + 1 := by omega
                have hrl2 := run_le s.data.toList (n + 1 + 1)
                rw [len_list] at hrl2
                clear HR HR1
                go_wp2_with fail
                refine Calls.mono (HR2.out _) ?_
                rintro e w3 ⟨rfl, rfl⟩
                clear HR2
                by_cases hr0 : run s.data.toList (n + 1 + 1) = 0
                · have hq2 : ((run s.data.toList (n + 1 + 1) : Int) == 0) = true := by rw [hr0]; rfl
                  have HX : Hid (parse s.data.toList = ((0, 0), n + 1 + 1, 40)) := by
                    by_cases h48 : s.data.toList[n + 1 + 1]? = some 48
                    · have := (run_lt s.data.toList (n + 1 + 1) 0 (Nat.zero_le _)).2 ⟨48, h48, by decide⟩
                      omega
                    · exact parse_t3 HTt.out hc (by unfold rowR; rw [if_pos hm, if_neg h48, rest_40 hr0]) (by decide)
                  clear hr0 hc hm
                  generalize run s.data.toList (n + 1 + 1) = m at *

                  go_wp2
                  refine bodyPost_ret (v := .tuple #[.agg #[.int .i64 0, .int .i64 0], .int .i64 ((n : Int) + 1 + 1), .int .i64 40]) (by simp [results, Tryd.results8, go_sem]) rfl ?_
                  exact ⟨by rw [HX.out]; simp, HG2.out⟩
                · have hq2 : ((run s.data.toList (n + 1 + 1) : Int) == 0) = false := by simp; omega
                  have hns5 : n + 1 + 1 < s.size := by omega
                  have hns6 : (n : Int) + 1 + 1 < (s.size : Int) := by omega
                  by_cases h48 : s.data.toList[n + 1 + 1]? = some 48
                  · have h48' : ((s[n + 1 + 1].toNat : Int) == 48) = true := by have := h48; rw [at_some s _ hns5] at this; rw [Option.some.inj this]; rfl
                    have HX : Hid (parse s.data.toList = ((0, 0), n + 1 + 1, 40)) := parse_t3 HTt.out hc (by unfold rowR; rw [if_pos hm, if_pos h48]) (by decide)
                    clear hr0 hc hm h48
                    generalize run s.data.toList (n + 1 + 1) = m at *

                    go_wp2
                    refine bodyPost_ret (v := .tuple #[.agg #[.int .i64 0, .int .i64 0], .int .i64 ((n : Int) + 1 + 1), .int .i64 40]) (by simp [results, Tryd.results8, go_sem]) rfl ?_
                    exact ⟨by rw [HX.out]; simp, HG2.out⟩
                  · have h48' : ((s[n + 1 + 1].toNat : Int) == 48) = false := by
                      rw [beq_eq_false_iff_ne]; intro e
                      exact h48 (by rw [at_some s _ hns5]; exact congrArg some (UInt8.toNat_inj.1 (by have : (48 : UInt8).toNat = 48 := rfl; omega)))
                    have HRow : Hid _ := rest_minus hm hr0 h48
                    have HRR : Hid (rowR s.data.toList (n + 1) = rest s.data.toList (n + 1) (n + 1 + 1)) := by unfold rowR; rw [Hid, if_pos hm, if_neg h48]
                    have HV2 : Hid _ := fun w => value_piece w s (n + 1 + 1) (n + 1 + 1 + run s.data.toList (n + 1 + 1)) hs rfl
                    have HVN2 : Hid (vOk (piece s.data.toList (n + 1 + 1)) = true → vN (piece s.data.toList (n + 1 + 1)) = val (piece s.data.toList (n + 1 + 1)) ∧ val (piece s.data.toList (n + 1 + 1)) ≤ 9223372036854775808) := fun h => by unfold vOk at h; unfold vN; rw [if_pos (by simpa using h)]; exact ⟨rfl, by simpa using h⟩
                    have HVF2 : Hid (vOk (piece s.data.toList (n + 1 + 1)) = false → ¬ val (piece s.data.toList (n + 1 + 1)) ≤ 9223372036854775808) := fun h => by unfold vOk at h; simpa using h
                    generalize vN (piece s.data.toList (n + 1 + 1)) = v2 at *
                    generalize vOk (piece s.data.toList (n + 1 + 1)) = b2 at *
                    generalize val (piece s.data.toList (n + 1 + 1)) = vv2 at *
                    generalize run s.data.toList (n + 1 + 1) = m at *
                    have HTB : Hid (decide ((1 : Int) < (m : Int)) = false ∨ (1 : Int) < (m : Int)) := by rw [Hid]; by_cases h : (1 : Int) < (m : Int); exact .inr h; exact .inl (by simpa using h)
                    have i3 : ((n : Int) + 1 + 1 + (m : Int)).toNat = n + 1 + 1 + m := by omega
                    have j1 : (n : Int) + 1 + 1 + (m : Int) ≤ (s.size : Int) := by omega
                    have hsl := fun W => slice_piece W s (n + 1 + 1) (n + 1 + 1 + m) ((n : Int) + 1 + 1) ((n : Int) + 1 + 1 + (m : Int)) (by omega) (by omega) (by omega) (by omega)
                    clear hr0 h48
                    rcases HTB.out with tb | tb
                    all_goals
                      go_wp2_with fail
                      refine Calls.mono (HV2.out _) ?_
                      rintro e w4 ⟨rfl, rfl⟩
                      cases b2 with
                      | false =>
                        have HX : Hid (parse s.data.toList = ((0, 0), n + 1, 41)) := parse_t3 HTt.out hc (by rw [HRR.out, HRow.out, if_neg (HVF2.out rfl)]) (by decide)
                        clear hc hm HV2 HTB

                        go_wp2
                        refine bodyPost_ret (v := .tuple #[.agg #[.int .i64 0, .int .i64 0], .int .i64 ((n : Int) + 1), .int .i64 41]) (by simp [results, Tryd.results8, go_sem]) rfl ?_
                        exact ⟨by rw [HX.out]; simp, HG2.out⟩
                      | true =>
                        obtain ⟨hv2, hv3⟩ := HVN2.out rfl
                        have HRx : Hid (rowR s.data.toList (n + 1) = (-(v2 : Int), n + 1 + 1 + m, 0)) := by rw [Hid, HRR.out, HRow.out, if_pos hv3, hv2]
                        have hv4 : v2 ≤ 9223372036854775808 := by omega
                        clear HVN2 HVF2 hv2 hv3
                        by_cases hend : n + 1 + 1 + m < s.size
                        · have hend' : (n : Int) + 1 + 1 + (m : Int) < (s.size : Int) := by omega
                          have HX : Hid (parse s.data.toList = ((0, 0), n + 1 + 1 + m, 40)) := parse_t4 HTt.out hc HRx.out (by rw [len_list]; exact hend)
                          clear hc hm HV2 HTB

                          go_wp2
                          refine bodyPost_ret (v := .tuple #[.agg #[.int .i64 0, .int .i64 0], .int .i64 ((n : Int) + 1 + 1 + (m : Int)), .int .i64 40]) (by simp [results, Tryd.results8, go_sem]) rfl ?_
                          exact ⟨by rw [HX.out]; simp, HG2.out⟩
                        · have hend' : decide ((n : Int) + 1 + 1 + (m : Int) < (s.size : Int)) = false := by simp; omega
                          have HX : Hid (parse s.data.toList = (((v : Int), -(v2 : Int)), 0, 0)) := parse_t5 HTt.out hc HRx.out (by rw [len_list]; exact hend)
                          have hneg := neg_row v2 hv4
                          have HG3 : Hid (∀ X, Below w.heap.size w (((w.alloc (.cells #[.int .i64 (v : Int), .int .i64 (-(v2 : Int))] 23)).alloc (.cells #[.int .i64 0, .int .i64 0] 23)).alloc X)) := fun X => ((((Grew.refl w).alloc _).alloc _).alloc _).below
                          clear hc hm HV2 HTB

                          go_wp2
                          refine bodyPost_ret (v := .tuple #[.agg #[.int .i64 (v : Int), .int .i64 (-(v2 : Int))], .int .i64 0, .int .i64 0]) (by simp [results, Tryd.results8, go_sem]) rfl ?_
                          exact ⟨by rw [HX.out]; simp, HG3.out _⟩
              · -- no minus
                have HNM : Hid (decide ((n : Int) + 1 < (s.size : Int)) = false ∨ ∃ h : n + 1 < s.size, (n : Int) + 1 < (s.size : Int) ∧ ((s[n + 1].toNat : Int) == 45) = false) := by
                  rw [Hid]
                  by_cases h : n + 1 < s.size
                  · refine .inr ⟨h, by omega, ?_⟩
                    rw [beq_eq_false_iff_ne]; intro e
                    exact hm (by rw [at_some s _ h]; exact congrArg some (UInt8.toNat_inj.1 (by have : (45 : UInt8).toNat = 45 := rfl; omega)))
                  · exact .inl (by simp; omega)
                have HRR : Hid (rowR s.data.toList (n + 1) = rest s.data.toList (n + 1) (n + 1)) := by unfold rowR; rw [Hid, if_neg hm]
                clear HR hm
                rcases HNM.out with nm | ⟨nmh, nm1, nm2⟩
                · -- the text ends behind the colon
                  have hr0 : run s.data.toList (n + 1) = 0 := by
                    have : ¬ n + 1 < s.size := by have := of_decide_eq_false nm; omega
                    omega
                  go_wp2_with fail
                  refine Calls.mono (HR1.out _) ?_
                  rintro e w3 ⟨rfl, rfl⟩
                  clear HR1
                  have hq2 : ((run s.data.toList (n + 1) : Int) == 0) = true := by rw [hr0]; rfl
                  have HX : Hid (parse s.data.toList = ((0, 0), n + 1, 40)) := parse_t3 HTt.out hc (by rw [HRR.out, rest_40 hr0]) (by decide)
                  clear hr0 hc
                  generalize run s.data.toList (n + 1) = m at *

                  go_wp2
                  refine bodyPost_ret (v := .tuple #[.agg #[.int .i64 0, .int .i64 0], .int .i64 ((n : Int) + 1), .int .i64 40]) (by simp [results, Tryd.results8, go_sem]) rfl ?_
                  exact ⟨by rw [HX.out]; simp, HG2.out⟩
                · go_wp2_with fail
                  refine Calls.mono (HR1.out _) ?_
                  rintro e w3 ⟨rfl, rfl⟩
                  clear HR1
                  by_cases hr0 : run s.data.toList (n + 1) = 0
                  · have hq2 : ((run s.data.toList (n + 1) : Int) == 0) = true := by rw [hr0]; rfl
                    have HX : Hid (parse s.data.toList = ((0, 0), n + 1, 40)) := parse_t3 HTt.out hc (by rw [HRR.out, rest_40 hr0]) (by decide)
                    clear hr0 hc
                    generalize run s.data.toList (n + 1) = m at *

                    go_wp2
                    refine bodyPost_ret (v := .tuple #[.agg #[.int .i64 0, .int .i64 0], .int .i64 ((n : Int) + 1), .int .i64 40]) (by simp [results, Tryd.results8, go_sem]) rfl ?_
                    exact ⟨by rw [HX.out]; simp, HG2.out⟩
                  · have hq2 : ((run s.data.toList (n + 1) : Int) == 0) = false := by simp; omega
                    by_cases hz2 : s.data.toList[n + 1]? = some 48 ∧ 1 < run s.data.toList (n + 1)
                    · have h1 : (1 : Int) < (run s.data.toList (n + 1) : Int) := by omega
                      have h48' : ((s[n + 1].toNat : Int) == 48) = true := by have := hz2.1; rw [at_some s _ nmh] at this; rw [Option.some.inj this]; rfl
                      have HX : Hid (parse s.data.toList = ((0, 0), n + 1 + 1, 40)) := parse_t3 HTt.out hc (by rw [HRR.out, rest_41 hz2.1 hz2.2]) (by decide)
                      clear hr0 hc hz2
                      generalize run s.data.toList (n + 1) = m at *

                      go_wp2
                      refine bodyPost_ret (v := .tuple #[.agg #[.int .i64 0, .int .i64 0], .int .i64 ((n : Int) + 1 + 1), .int .i64 40]) (by simp [results, Tryd.results8, go_sem]) rfl ?_
                      exact ⟨by rw [HX.out]; simp, HG2.out⟩
                    · have HRow : Hid _ := rest_ref hr0 hz2
                      have HTB : Hid (decide ((1 : Int) < (run s.data.toList (n + 1) : Int)) = false ∨ ((1 : Int) < (run s.data.toList (n + 1) : Int) ∧ ((s[n + 1].toNat : Int) == 48) = false)) := by
                        rw [Hid]
                        by_cases h1 : 1 < run s.data.toList (n + 1)
                        · refine .inr ⟨by omega, ?_⟩
                          rw [beq_eq_false_iff_ne]; intro e
                          exact hz2 ⟨by rw [at_some s _ nmh]; exact congrArg some (UInt8.toNat_inj.1 (by have : (48 : UInt8).toNat = 48 := rfl; omega)), h1⟩
                        · exact .inl (by simp; omega)
                      have HV2 : Hid _ := fun w => value_piece w s (n + 1) (n + 1 + run s.data.toList (n + 1)) hs rfl
                      have HVN2 : Hid (vOk (piece s.data.toList (n + 1)) = true → vN (piece s.data.toList (n + 1)) = val (piece s.data.toList (n + 1)) ∧ val (piece s.data.toList (n + 1)) ≤ 9223372036854775808) := fun h => by unfold vOk at h; unfold vN; rw [if_pos (by simpa using h)]; exact ⟨rfl, by simpa using h⟩
                      have HVF2 : Hid (vOk (piece s.data.toList (n + 1)) = false → ¬ val (piece s.data.toList (n + 1)) ≤ 9223372036854775807) := fun h => by unfold vOk at h; simp at h; omega
                      generalize vN (piece s.data.toList (n + 1)) = v2 at *
                      generalize vOk (piece s.data.toList (n + 1)) = b2 at *
                      generalize val (piece s.data.toList (n + 1)) = vv2 at *
                      generalize run s.data.toList (n + 1) = m at *
                      have i3 : ((n : Int) + 1 + (m : Int)).toNat = n + 1 + m := by omega
                      have j1 : (n : Int) + 1 + (m : Int) ≤ (s.size : Int) := by omega
                      have hsl := fun W => slice_piece W s (n + 1) (n + 1 + m) ((n : Int) + 1) ((n : Int) + 1 + (m : Int)) (by omega) (by omega) (by omega) (by omega)
                      clear hr0 hz2
                      rcases HTB.out with tb | ⟨tb, tb2⟩
                      all_goals
                        go_wp2_with fail
                        refine Calls.mono (HV2.out _) ?_
                        rintro e w4 ⟨rfl, rfl⟩
                        cases b2 with
                        | false =>
                          have HX : Hid (parse s.data.toList = ((0, 0), n + 1, 41)) := parse_t3 HTt.out hc (by rw [HRR.out, HRow.out, if_neg (HVF2.out rfl)]) (by decide)
                          clear hc HV2 HTB

                          go_wp2
                          refine bodyPost_ret (v := .tuple #[.agg #[.int .i64 0, .int .i64 0], .int .i64 ((n : Int) + 1), .int .i64 41]) (by simp [results, Tryd.results8, go_sem]) rfl ?_
                          exact ⟨by rw [HX.out]; simp, HG2.out⟩
                        | true =>
                          obtain ⟨hv2, hv3⟩ := HVN2.out rfl
                          by_cases hbig : v2 ≤ 9223372036854775807
                          · have HRx : Hid (rowR s.data.toList (n + 1) = ((v2 : Int), n + 1 + m, 0)) := by rw [Hid, HRR.out, HRow.out, if_pos (by omega), hv2]
                            have hbig' : decide ((9223372036854775807 : Int) < (v2 : Int)) = false := by simp; omega
                            clear HVN2 HVF2 hv2 hv3
                            by_cases hend : n + 1 + m < s.size
                            · have hend' : (n : Int) + 1 + (m : Int) < (s.size : Int) := by omega
                              have HX : Hid (parse s.data.toList = ((0, 0), n + 1 + m, 40)) := parse_t4 HTt.out hc HRx.out (by rw [len_list]; exact hend)
                              clear hc HV2 HTB

                              go_wp2
                              refine bodyPost_ret (v := .tuple #[.agg #[.int .i64 0, .int .i64 0], .int .i64 ((n : Int) + 1 + (m : Int)), .int .i64 40]) (by simp [results, Tryd.results8, go_sem]) rfl ?_
                              exact ⟨by rw [HX.out]; simp, HG2.out⟩
                            · have hend' : decide ((n : Int) + 1 + (m : Int) < (s.size : Int)) = false := by simp; omega
                              have HX : Hid (parse s.data.toList = (((v : Int), (v2 : Int)), 0, 0)) := parse_t5 HTt.out hc HRx.out (by rw [len_list]; exact hend)
                              have HG3 : Hid (∀ X, Below w.heap.size w (((w.alloc (.cells #[.int .i64 (v : Int), .int .i64 (v2 : Int)] 23)).alloc (.cells #[.int .i64 0, .int .i64 0] 23)).alloc X)) := fun X => ((((Grew.refl w).alloc _).alloc _).alloc _).below
                              clear hc HV2 HTB

                              go_wp2
                              refine bodyPost_ret (v := .tuple #[.agg #[.int .i64 (v : Int), .int .i64 (v2 : Int)], .int .i64 0, .int .i64 0]) (by simp [results, Tryd.results8, go_sem]) rfl ?_
                              exact ⟨by rw [HX.out]; simp, HG3.out _⟩
                          · have hbig' : (9223372036854775807 : Int) < (v2 : Int) := by omega
                            have HX : Hid (parse s.data.toList = ((0, 0), n + 1, 41)) := parse_t3 HTt.out hc (by rw [HRR.out, HRow.out, if_neg (by omega)]) (by decide)
                            clear hc HV2 HTB HVN2 HVF2 hv2 hv3

                            go_wp2
                            refine bodyPost_ret (v := .tuple #[.agg #[.int .i64 0, .int .i64 0], .int .i64 ((n : Int) + 1), .int .i64 41]) (by simp [results, Tryd.results8, go_sem]) rfl ?_
                            exact ⟨by rw [HX.out]; simp, HG2.out⟩
            · have HX : Hid (parse s.data.toList = ((0, 0), n, 40)) := parse_t2 HTt.out hc
              have hns : (s.size : Int) ≤ (n : Int) ∨ ∃ h : n < s.size, decide ((s.size : Int) ≤ (n : Int)) = false ∧ (n : Int) < (s.size : Int) ∧ ((s[n].toNat : Int) != 58) = true := by
                by_cases h : n < s.size
                · refine .inr ⟨h, by simp; omega, by omega, ?_⟩
                  rw [bne_iff_ne]; intro e
                  exact hc (by rw [at_some s _ h]; exact congrArg some (UInt8.toNat_inj.1 (by have : (58 : UInt8).toNat = 58 := rfl; omega)))
                · exact .inl (by omega)
              clear hc HR

              rcases hns with hns | ⟨hns, hns1, hns2, hns3⟩
              · skip
                go_wp2
                refine bodyPost_ret (v := .tuple #[.agg #[.int .i64 0, .int .i64 0], .int .i64 (n : Int), .int .i64 40]) (by simp [results, Tryd.results8, go_sem]) rfl ?_
                exact ⟨by rw [HX.out], HG2.out⟩
              · skip
                go_wp2
                refine bodyPost_ret (v := .tuple #[.agg #[.int .i64 0, .int .i64 0], .int .i64 (n : Int), .int .i64 40]) (by simp [results, Tryd.results8, go_sem]) rfl ?_
                exact ⟨by rw [HX.out], HG2.out⟩
          · have hle' : (65535 : Int) < (v : Int) := by omega
            have HX : Hid (parse s.data.toList = ((0, 0), 0, 41)) := by
              have := HT.out; rw [if_neg (by omega)] at this; exact parse_t1 this (by decide)

            go_wp2
            refine bodyPost_ret (v := .tuple #[.agg #[.int .i64 0, .int .i64 0], .int .i64 0, .int .i64 41]) (by simp [results, Tryd.results8, go_sem]) rfl ?_
            exact ⟨by rw [HX.out]; simp, HG2.out⟩

end Go.Proofs.YtnjgaibcpcpmcaaDoor
