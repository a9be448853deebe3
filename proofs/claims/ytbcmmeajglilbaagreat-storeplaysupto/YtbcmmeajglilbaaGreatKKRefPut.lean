import Derived.Test.YtbcmmeajglilbaaGreatKSTold
import Derived.Deep.DeepCutAuto
import Derived.Test.YtbcmmeajglilbaaGreatKSpFil
/-
  THE WALK OF THE DOCUMENT's put.
-/
namespace Go.Proofs.YtbcmmeajglilbaaGreat
open Go.RowKit Go.Sort

theorem filter_take {L : List K} {p : K → Bool} {m : Nat} (hm : m ≤ L.length) (h1 : ∀ x, x < m → p (kd L x) = true) (h2 : ∀ x, m ≤ x → x < L.length → p (kd L x) = false) : L.filter p = L.take m := by
  have ht : (L.take m).filter p = L.take m := List.filter_eq_self.2 fun a ha => by
    obtain ⟨i, hi, he⟩ := List.mem_iff_getElem.1 ha
    have hi' : i < m := by simp at hi; omega
    have hl : i < L.length := by omega
    have := h1 i hi'
    have e : kd L i = a := by
      have hg := kd_get hl
      rw [List.getElem?_eq_getElem hl, Option.some.injEq] at hg
      rw [← hg, ← he, List.getElem_take]
    rwa [e] at this
  have hd : (L.drop m).filter p = [] := List.filter_eq_nil_iff.2 fun a ha => by
    obtain ⟨i, hi, he⟩ := List.mem_iff_getElem.1 ha
    have hl : m + i < L.length := by simp at hi; omega
    have := h2 (m + i) (by omega) hl
    have e : kd L (m + i) = a := by
      have hg := kd_get hl
      rw [List.getElem?_eq_getElem hl, Option.some.injEq] at hg
      rw [← hg, ← he, List.getElem_drop]
    rw [e] at this
    rw [this]; decide
  calc L.filter p = (L.take m ++ L.drop m).filter p := by rw [List.take_append_drop]
    _ = L.take m := by rw [List.filter_append, ht, hd, List.append_nil]
theorem filter_drop {L : List K} {p : K → Bool} {m : Nat} (hm : m ≤ L.length) (h1 : ∀ x, x < m → p (kd L x) = false) (h2 : ∀ x, m ≤ x → x < L.length → p (kd L x) = true) : L.filter p = L.drop m := by
  have hn := filter_take (p := fun x => !p x) hm (fun x hx => by simp [h1 x hx]) (fun x hx hl => by simp [h2 x hx hl])
  have ht : (L.take m).filter p = [] := by
    rw [← hn, List.filter_filter]
    exact List.filter_eq_nil_iff.2 fun a _ => by cases p a <;> simp
  have hd : (L.drop m).filter p = L.drop m := List.filter_eq_self.2 fun a ha => by
    obtain ⟨i, hi, he⟩ := List.mem_iff_getElem.1 ha
    have hl : m + i < L.length := by simp at hi; omega
    have := h2 (m + i) (by omega) hl
    have e : kd L (m + i) = a := by
      have hg := kd_get hl
      rw [List.getElem?_eq_getElem hl, Option.some.injEq] at hg
      rw [← hg, ← he, List.getElem_drop]
    rwa [e] at this
  calc L.filter p = (L.take m ++ L.drop m).filter p := by rw [List.take_append_drop]
    _ = L.drop m := by rw [List.filter_append, ht, hd, List.nil_append]
theorem put_at {L : List K} {k : K} {m : Nat} (hm : m ≤ L.length) (h1 : ∀ x, x < m → lt (kd L x) k = true) (h2 : ∀ x, m ≤ x → x < L.length → lt (kd L x) k = false) (hk : k ∉ L) : put L k = L.take m ++ [k] ++ L.drop m := by
  unfold put
  rw [if_neg hk, filter_take hm h1 h2, filter_drop (p := fun x => lt k x) hm (fun x hx => lt_asymm (h1 x hx)) (fun x hx hl => ?_)]
  · simp
  · cases h : lt k (kd L x) with
    | true => rfl
    | false => exact absurd (eq_of_not_lt (h2 x hx hl) h ▸ kd_mem hl) hk
theorem mem_put {L : List K} {k : K} {m : Nat} (hr : Rise L) (hm : m < L.length) (h1 : ∀ x, x < m → lt (kd L x) k = true) (h2 : lt (kd L m) k = false) : (cmp k (kd L m) == 0) = decide (k ∈ L) := by
  obtain ⟨_, h3⟩ := find_at hr hm h1 h2
  have h4 := cmp_zero k (kd L m)
  by_cases h5 : kd L m = k
  · rw [decide_eq_true (h3.2 h5)]; simpa using h4.2 h5.symm
  · rw [decide_eq_false (fun h => h5 (h3.1 h))]; have := mt h4.1 (fun e => h5 e.symm); simpa using this
/-- the loop's test -/
def putGo (L : List K) (k : K) (m : Nat) : Bool := decide (0 < m) && !lt (kd L (m - 1)) k
theorem lt_up {L : List K} {k : K} {m : Nat} (hr : Rise L) (hm : m ≤ L.length) (h : putGo L k m = false) : ∀ x, x < m → lt (kd L x) k = true := by
  intro x hx
  unfold putGo at h
  rw [decide_eq_true (show 0 < m by omega), Bool.true_and, Bool.not_eq_false'] at h
  by_cases e : x = m - 1
  · rw [e]; exact h
  · exact lt_trans (rise_pair (i := x) (j := m - 1) (by omega) (by omega) hr) h
theorem KeysAt.take {w : World} {ao : Option Addr} {L : List K} (h : KeysAt w ao L) (m : Nat) : KeysAt w ao (L.take m) := by
  rcases h with rfl | ⟨b, off, rfl, hc⟩
  · exact .inl (by simp)
  · refine .inr ⟨b, off, rfl, fun j u hu => hc j u ?_⟩
    rw [cks_take] at hu
    rw [List.getElem?_take] at hu
    split at hu
    · exact hu
    · cases hu
theorem KeysAt.drop {w : World} {b off : Nat} {L : List K} (h : KeysAt w (some ⟨b, off, none⟩) L) (m : Nat) : KeysAt w (some ⟨b, off + m * 2, none⟩) (L.drop m) := by
  rcases h with rfl | ⟨b', off', e, hc⟩
  · exact .inl (by simp)
  · cases e
    refine .inr ⟨b, off + m * 2, rfl, fun j u hu => ?_⟩
    rw [← cks_drop m L, List.getElem?_drop] at hu
    rw [Nat.add_assoc]
    exact hc _ u hu

set_option maxHeartbeats 4000000 in
set_option maxRecDepth 100000 in
theorem refPut_any (w : World) (ao : Option Addr) (n cap : Nat) (L : List K) (t r : Int) (hL : Lst w ao n cap L) (hf : Flat ao) (hr : Rise L) (hm : (n + 1) * 16 ≤ 140737488355328) :
    Calls Tryz.prog 87 #[.slice ao n cap, .agg #[.int .i64 t, .int .i64 r]] w fun e w' => ∃ v, e = .returned v ∧ Hid ((v = .slice ao n cap ∧ put L (t, r) = L) ∨ OwnK w' w.heap.size v (put L (t, r))) ∧ Below w.heap.size w w' := by
  have mx := mixed
  have HL : Hid (Lst w ao n cap L) := hL
  have HF : Hid (Flat ao) := hf
  have HR : Hid (Rise L) := hr
  have hnc : n ≤ cap := hL.cap
  clear hL hf hr
  go_enter Tryz.func87, Tryz.ntmps87
  go_wp2_with fail
  have HB0 : Hid (Box (w.alloc (.cells #[.int .i64 t, .int .i64 r] 41)) w.heap.size t r) := Box.new rfl
  have HG0 : Hid (Grew w (w.alloc (.cells #[.int .i64 t, .int .i64 r] 41))) := (Grew.refl _).alloc _
  generalize w.alloc (.cells #[.int .i64 t, .int .i64 r] 41) = W0 at *
  obtain ⟨B0, hB0⟩ : ∃ b, b = w.heap.size := ⟨_, rfl⟩
  rw [← hB0] at HB0 ⊢
  have HBW : Hid (B0 = w.heap.size) := hB0
  clear hB0
  go_loopw [5] (fun x wr => ∃ k : Nat, k ≤ n ∧ x = .int .i64 (k : Int) ∧ Hid (Grew w wr) ∧ Hid (Box wr B0 t r) ∧ Hid (∀ x, k ≤ x → x < L.length → lt (kd L x) (t, r) = false)) (fun x _ => (intOf x).toNat)
  case atStart => exact ⟨n, Nat.le_refl _, rfl, HG0, HB0, by intro x h1 h2; have := HL.out.len; omega⟩
  case round =>
    clear HG0 HB0
    obtain ⟨k, hk, rfl, HG, HB, HI⟩ := hrel
    go_wp2_with fail
    go_cut [20] (fun x wx => x = .bool (putGo L (t, r) k) ∧ Hid (Grew w wx) ∧ Hid (Box wx B0 t r))
    case first =>
      cases k with
      | zero =>
        have HE : Hid (putGo L (t, r) 0 = false) := by simp [Hid, putGo]
        refine wp_region_quiet_grown mx (by kernel_rfl) ?_
        repeat (go_big_quiet_step (fail))
        refine wpQuiet_nil ?_
        intro _ hw'
        obtain ⟨⟨nq, osq⟩, hw''⟩ := hw'
        subst hw''
        have HG2 : Hid (Grew w (grow (wr.drewN nq) osq)) := HG.out.trans ⟨_, _, rfl⟩
        have HB2 : Hid (Box (grow (wr.drewN nq) osq) B0 t r) := HB.out.grew ⟨_, _, rfl⟩
        generalize grow (wr.drewN nq) osq = W2 at *
        go_wp2_with fail
        go_meet
        exact ⟨by rw [HE.out], HG2, HB2⟩
      | succ j =>
        obtain ⟨bb, off, e, g1c, g2c⟩ := (HL.out.kept HG.out.below).at j (by omega)
        subst e
        obtain ⟨q1c, q2c⟩ := HB.out
        have HE : Hid (putGo L (t, r) (j + 1) = decide (cmp (t, r) (kd L j) ≤ 0)) := by
          unfold Hid putGo
          rw [decide_eq_true (show 0 < j + 1 by omega), Bool.true_and, Nat.add_sub_cancel]
          unfold cmp
          cases h1 : lt (t, r) (kd L j)
          · cases h2 : lt (kd L j) (t, r) <;> simp
          · rw [lt_asymm h1]; simp
        generalize kd L j = x at *
        obtain ⟨x1, x2⟩ := x
        simp only at g1c g2c
        have HCm : Hid (∀ w, Calls Tryz.prog 94 #[.agg #[.int .i64 t, .int .i64 r], .agg #[.int .i64 x1, .int .i64 x2]] w fun e w' => e = .returned (.int .i64 (cmp (t, r) (x1, x2))) ∧ ∃ q os, w' = grow (w.drewN q) os) := fun w => refCompare_any w _ _ _ _
        generalize cmp (t, r) (x1, x2) = c at *
        have g1 : ∀ n os, (grow (wr.drewN n) os).cell? ⟨bb, off + j * 2, none⟩ = some (.int .i64 x1) := fun n os => Grew.cell ⟨n, os, rfl⟩ g1c
        have g2 : ∀ n os, (grow (wr.drewN n) os).cell? ⟨bb, off + j * 2 + 1, none⟩ = some (.int .i64 x2) := fun n os => Grew.cell ⟨n, os, rfl⟩ g2c
        have q1 : ∀ n os, (grow (wr.drewN n) os).cell? ⟨B0, 0, none⟩ = some (.int .i64 t) := fun n os => Grew.cell ⟨n, os, rfl⟩ q1c
        have q2 : ∀ n os, (grow (wr.drewN n) os).cell? ⟨B0, 1, none⟩ = some (.int .i64 r) := fun n os => Grew.cell ⟨n, os, rfl⟩ q2c
        have hk1 : decide ((0 : Int) < (j : Int) + 1) = true := decide_eq_true (by omega)
        have hk2 : (j : Int) + 1 - 1 = (j : Int) := by omega
        clear g1c g2c q1c q2c
        push_cast
        refine wp_region_quiet_grown mx (by kernel_rfl) ?_
        repeat (go_big_quiet_step ((go_at_call 94; exact Calls.grown_of (HCm.out _))))
        refine wpQuiet_nil ?_
        intro _ hw'
        obtain ⟨⟨nq, osq⟩, hw''⟩ := hw'
        subst hw''
        have HG2 : Hid (Grew w (grow (wr.drewN nq) osq)) := HG.out.trans ⟨_, _, rfl⟩
        have HB2 : Hid (Box (grow (wr.drewN nq) osq) B0 t r) := HB.out.grew ⟨_, _, rfl⟩
        generalize grow (wr.drewN nq) osq = W2 at *
        go_wp2_with fail
        go_meet
        exact ⟨by rw [HE.out], HG2, HB2⟩
    case rest =>
      clear HG HB
      obtain ⟨h20, HG, HB⟩ := hcut
      subst h20
      cases hgo : putGo L (t, r) k with
      | true =>
        obtain ⟨j, rfl⟩ : ∃ j, k = j + 1 := ⟨k - 1, by have h := hgo; unfold putGo at h; simp at h; omega⟩
        have HI2 : Hid (∀ x, j ≤ x → x < L.length → lt (kd L x) (t, r) = false) := fun x hx hl => by
          by_cases e : x = j
          · have h := hgo; unfold putGo at h; rw [Nat.add_sub_cancel] at h; simp at h; rw [e]; exact h
          · exact HI.out x (by omega) hl
        clear HI
        clear hgo
        go_wp2_with fail
        go_roundw
        case rel => exact ⟨j, by omega, by go_num, HG, HB, HI2⟩
        case measure => first | (simp [intOf]; done) | (simp [intOf]; omega)
      | false =>
        have H1 : Hid (∀ x, x < k → lt (kd L x) (t, r) = true) := lt_up HR.out (by have := HL.out.len; omega) hgo
        clear hgo
        go_wp2_with fail
        go_cut [35] (fun x wx => x = .bool (decide ((t, r) ∈ L)) ∧ Hid (Grew w wx) ∧ Hid (Box wx B0 t r))
        case first =>
          by_cases hlt : k < n
          · obtain ⟨bb, off, e, g1c, g2c⟩ := (HL.out.kept HG.out.below).at k hlt
            subst e
            obtain ⟨q1c, q2c⟩ := HB.out
            have hl : k < L.length := by have := HL.out.len; omega
            have HE : Hid ((cmp (t, r) (kd L k) == 0) = decide ((t, r) ∈ L)) := mem_put HR.out hl H1.out (HI.out k (Nat.le_refl _) hl)
            generalize kd L k = x at *
            obtain ⟨x1, x2⟩ := x
            simp only at g1c g2c
            have HCm : Hid (∀ w, Calls Tryz.prog 94 #[.agg #[.int .i64 t, .int .i64 r], .agg #[.int .i64 x1, .int .i64 x2]] w fun e w' => e = .returned (.int .i64 (cmp (t, r) (x1, x2))) ∧ ∃ q os, w' = grow (w.drewN q) os) := fun w => refCompare_any w _ _ _ _
            generalize cmp (t, r) (x1, x2) = c at *
            have g1 : ∀ n os, (grow (wc.drewN n) os).cell? ⟨bb, off + k * 2, none⟩ = some (.int .i64 x1) := fun n os => Grew.cell ⟨n, os, rfl⟩ g1c
            have g2 : ∀ n os, (grow (wc.drewN n) os).cell? ⟨bb, off + k * 2 + 1, none⟩ = some (.int .i64 x2) := fun n os => Grew.cell ⟨n, os, rfl⟩ g2c
            have q1 : ∀ n os, (grow (wc.drewN n) os).cell? ⟨B0, 0, none⟩ = some (.int .i64 t) := fun n os => Grew.cell ⟨n, os, rfl⟩ q1c
            have q2 : ∀ n os, (grow (wc.drewN n) os).cell? ⟨B0, 1, none⟩ = some (.int .i64 r) := fun n os => Grew.cell ⟨n, os, rfl⟩ q2c
            have hk1 : decide ((k : Int) < (n : Int)) = true := by simp; omega
            have hk2 : decide (k < n) = true := by simp; omega
            clear g1c g2c q1c q2c hl
            refine wp_region_quiet_grown mx (by kernel_rfl) ?_
            repeat (go_big_quiet_step ((go_at_call 94; exact Calls.grown_of (HCm.out _))))
            refine wpQuiet_nil ?_
            intro _ hw'
            obtain ⟨⟨nq, osq⟩, hw''⟩ := hw'
            subst hw''
            have HG2 : Hid (Grew w (grow (wc.drewN nq) osq)) := HG.out.trans ⟨_, _, rfl⟩
            have HB2 : Hid (Box (grow (wc.drewN nq) osq) B0 t r) := HB.out.grew ⟨_, _, rfl⟩
            generalize grow (wc.drewN nq) osq = W2 at *
            go_wp2_with fail
            go_meet
            exact ⟨by rw [← HE.out], HG2, HB2⟩
          · have HE : Hid (decide ((t, r) ∈ L) = false) := decide_eq_false (find_end (fun x hx => H1.out x (by have := HL.out.len; omega))).2
            have hk1 : decide ((k : Int) < (n : Int)) = false := by simp; omega
            have hk2 : decide (k < n) = false := by simp; omega
            refine wp_region_quiet_grown mx (by kernel_rfl) ?_
            repeat (go_big_quiet_step (fail))
            refine wpQuiet_nil ?_
            intro _ hw'
            obtain ⟨⟨nq, osq⟩, hw''⟩ := hw'
            subst hw''
            have HG2 : Hid (Grew w (grow (wc.drewN nq) osq)) := HG.out.trans ⟨_, _, rfl⟩
            have HB2 : Hid (Box (grow (wc.drewN nq) osq) B0 t r) := HB.out.grew ⟨_, _, rfl⟩
            generalize grow (wc.drewN nq) osq = W2 at *
            go_wp2_with fail
            go_meet
            exact ⟨by rw [HE.out], HG2, HB2⟩
        case rest =>
          clear HG HB
          obtain ⟨h35, HG, HB⟩ := hcut
          subst h35
          by_cases hmem : (t, r) ∈ L
          · have HP : Hid (put L (t, r) = L) := if_pos hmem
            rw [decide_eq_true hmem]
            clear hmem
            go_wp2
            go_ret
            exact ⟨_, rfl, .inl ⟨rfl, HP.out⟩, HG.out.below⟩
          · have HP : Hid (put L (t, r) = L.take k ++ [(t, r)] ++ L.drop k) := put_at (by have := HL.out.len; omega) H1.out HI.out hmem
            rw [decide_eq_false hmem]
            have HLw : Hid (Lst wc ao n cap L) := HL.out.kept HG.out.below
            have HN : Hid (n = L.length) := HL.out.len
            have hbw : w.heap.size ≤ wc.heap.size := HG.out.size
            clear hmem HI H1
            cases ao with
            | none =>
              have h0 : L = [] := by
                rcases HL.out.at_ with h1 | ⟨b, off, h1, _⟩
                · exact h1
                · cases h1
              have hn0 : n = 0 := by rw [HN.out, h0]; rfl
              have hc0 : cap = 0 := HL.out.nil rfl
              subst hn0 hc0
              obtain hk0 : 0 = k := by omega
              subst hk0
              subst h0
              have HP0 : Hid (put [] (t, r) = [(t, r)]) := by rw [HP.out]; rfl
              obtain ⟨k1, k2⟩ := HB.out
              clear HP HLw HL HN
              go_wp2_with (first | (at_builtin; refine wpList_append_keys rfl _ _ rfl w.heap.size v2 [(t, r)] rfl HO2.out.1 none 0 0 [] rfl rfl (.inl rfl) (fun _ => rfl) (by simp) hbw2 ?_; intro v3 w3 h3 hg3 _; have HO3 : Hid (OwnK w3 w.heap.size v3 [(t, r)] ∧ Below w.heap.size wc w3) := ⟨by simpa using h3, HO2.out.2.trans (grown_below hg3 (fun k hk => (HO2.out.1.lt k hk).1) hbw2)⟩; clear h3 hg3) | (at_builtin; refine wpList_append_keys rfl _ _ rfl w.heap.size (.slice none 0 0) [] rfl (OwnK.nil _ _) _ _ _ [(t, r)] rfl rfl (key_src wc _ t r rfl) (by simp) (by simp) (by simp only [World.size_alloc]; omega) ?_; intro v2 w2 h2 hg2 _; have HO2 : Hid (OwnK w2 w.heap.size v2 [(t, r)] ∧ Below w.heap.size wc w2) := ⟨by simpa using h2, ((Below.refl _ wc).alloc hbw _).trans (grown_below hg2 (fun k hk => by cases hk) (by simp only [World.size_alloc]; omega))⟩; have hbw2 : w.heap.size ≤ w2.heap.size := Nat.le_trans hbw HO2.out.2.size; clear h2 hg2))
              go_ret
              exact ⟨_, rfl, .inr (HP0.out ▸ HO3.out.1), HG.out.below.trans HO3.out.2⟩
            | some a =>
              obtain ⟨bb, off, sp⟩ := a
              obtain rfl : sp = none := HF.out _ rfl
              have HT : Hid (k = (L.take k).length ∧ KeysAt wc (some ⟨bb, off, none⟩) (L.take k)) := ⟨by have := HN.out; simp; omega, HLw.out.at_.take k⟩
              have HlW : Hid (∀ W, Below w.heap.size wc W → KeysAt W (some ⟨bb, off, none⟩) L) := fun W hb => HL.out.at_.kept (HG.out.below.trans hb)
              by_cases hcp : k = cap
              · obtain hc1 : cap = k := hcp.symm
                obtain hc2 : n = k := by omega
                subst hc1
                subst hc2
                have HD : Hid (0 = (L.drop n).length ∧ ∀ W, Below w.heap.size wc W → KeysAt W (some ⟨bb, off, none⟩) (L.drop n)) := ⟨by have := HN.out; simp; omega, fun W _ => .inl (List.drop_eq_nil_of_le (by have := HN.out; omega))⟩
                clear hcp hk hnc
                go_wp2_with (first | (at_builtin; refine wpList_append_keys rfl _ _ rfl w.heap.size v2 (L.take n ++ [(t, r)]) rfl HO2.out.1 (some ⟨bb, off, none⟩) 0 0 (L.drop n) rfl HD.out.1 (HD.out.2 _ HO2.out.2) (by simp) (by rw [List.length_append, ← HT.out.1, ← HD.out.1]; simp; omega) hbw2 ?_; intro v3 w3 h3 hg3 _; have HO3 : Hid (OwnK w3 w.heap.size v3 (L.take n ++ [(t, r)] ++ L.drop n) ∧ Below w.heap.size wc w3) := ⟨h3, HO2.out.2.trans (grown_below hg3 (fun k hk => (HO2.out.1.lt k hk).1) hbw2)⟩; clear h3 hg3) | (at_builtin; refine wpList_append_keys rfl _ _ rfl w.heap.size v1 (L.take n) rfl (HO1.out.1.alloc _) _ _ _ [(t, r)] rfl rfl (key_src w1 _ t r rfl) (by simp) (by rw [← HT.out.1]; simp; omega) (by simp only [World.size_alloc]; omega) ?_; intro v2 w2 h2 hg2 _; have HO2 : Hid (OwnK w2 w.heap.size v2 (L.take n ++ [(t, r)]) ∧ Below w.heap.size wc w2) := ⟨h2, HO1.out.2.trans (((Below.refl _ w1).alloc hbw1 _).trans (grown_below hg2 (fun k hk => (HO1.out.1.lt k hk).1) (by simp only [World.size_alloc]; omega)))⟩; have hbw2 : w.heap.size ≤ w2.heap.size := Nat.le_trans hbw HO2.out.2.size; clear h2 hg2 k1 k2) | (at_builtin; refine wpList_append_keys rfl _ _ rfl w.heap.size (.slice none 0 0) [] rfl (OwnK.nil _ _) (some ⟨bb, off, none⟩) n n (L.take n) rfl HT.out.1 HT.out.2 (by simp) (by rw [← HT.out.1]; simp; omega) hbw ?_; intro v1 w1 h1 hg1 _; have HO1 : Hid (OwnK w1 w.heap.size v1 (L.take n) ∧ Below w.heap.size wc w1) := ⟨by simpa using h1, grown_below hg1 (fun k e => by cases e) hbw⟩; have hbw1 : w.heap.size ≤ w1.heap.size := Nat.le_trans hbw HO1.out.2.size; have k1 : w1.cell? ⟨B0, 0, none⟩ = some (.int .i64 t) := hg1.cell HB.out.1 (by simp [Value.ownBlock]); have k2 : w1.cell? ⟨B0, 1, none⟩ = some (.int .i64 r) := hg1.cell HB.out.2 (by simp [Value.ownBlock]); clear h1 hg1))
                go_ret
                exact ⟨_, rfl, .inr (HP.out ▸ HO3.out.1), HG.out.below.trans HO3.out.2⟩
              · have HD : Hid (n - k = (L.drop k).length ∧ ∀ W, Below w.heap.size wc W → KeysAt W (some ⟨bb, off + k * 2, none⟩) (L.drop k)) := ⟨by have := HN.out; simp; omega, fun W hb => (HlW.out W hb).drop k⟩
                go_wp2_with (first | (at_builtin; refine wpList_append_keys rfl _ _ rfl w.heap.size v2 (L.take k ++ [(t, r)]) rfl HO2.out.1 (some ⟨bb, off + k * 2, none⟩) (n - k) (cap - k) (L.drop k) rfl HD.out.1 (HD.out.2 _ HO2.out.2) (by simp) (by rw [List.length_append, ← HT.out.1, ← HD.out.1]; simp; omega) hbw2 ?_; intro v3 w3 h3 hg3 _; have HO3 : Hid (OwnK w3 w.heap.size v3 (L.take k ++ [(t, r)] ++ L.drop k) ∧ Below w.heap.size wc w3) := ⟨h3, HO2.out.2.trans (grown_below hg3 (fun k hk => (HO2.out.1.lt k hk).1) hbw2)⟩; clear h3 hg3) | (at_builtin; refine wpList_append_keys rfl _ _ rfl w.heap.size v1 (L.take k) rfl (HO1.out.1.alloc _) _ _ _ [(t, r)] rfl rfl (key_src w1 _ t r rfl) (by simp) (by rw [← HT.out.1]; simp; omega) (by simp only [World.size_alloc]; omega) ?_; intro v2 w2 h2 hg2 _; have HO2 : Hid (OwnK w2 w.heap.size v2 (L.take k ++ [(t, r)]) ∧ Below w.heap.size wc w2) := ⟨h2, HO1.out.2.trans (((Below.refl _ w1).alloc hbw1 _).trans (grown_below hg2 (fun k hk => (HO1.out.1.lt k hk).1) (by simp only [World.size_alloc]; omega)))⟩; have hbw2 : w.heap.size ≤ w2.heap.size := Nat.le_trans hbw HO2.out.2.size; clear h2 hg2 k1 k2) | (at_builtin; refine wpList_append_keys rfl _ _ rfl w.heap.size (.slice none 0 0) [] rfl (OwnK.nil _ _) (some ⟨bb, off, none⟩) k cap (L.take k) rfl HT.out.1 HT.out.2 (by simp) (by rw [← HT.out.1]; simp; omega) hbw ?_; intro v1 w1 h1 hg1 _; have HO1 : Hid (OwnK w1 w.heap.size v1 (L.take k) ∧ Below w.heap.size wc w1) := ⟨by simpa using h1, grown_below hg1 (fun k e => by cases e) hbw⟩; have hbw1 : w.heap.size ≤ w1.heap.size := Nat.le_trans hbw HO1.out.2.size; have k1 : w1.cell? ⟨B0, 0, none⟩ = some (.int .i64 t) := hg1.cell HB.out.1 (by simp [Value.ownBlock]); have k2 : w1.cell? ⟨B0, 1, none⟩ = some (.int .i64 r) := hg1.cell HB.out.2 (by simp [Value.ownBlock]); clear h1 hg1))
                go_ret
                exact ⟨_, rfl, .inr (HP.out ▸ HO3.out.1), HG.out.below.trans HO3.out.2⟩

end Go.Proofs.YtbcmmeajglilbaaGreat
/-
  THE WALK OF THE DOCUMENT's Sort.
-/
namespace Go.Proofs.YtbcmmeajglilbaaGreat
open Go.RowKit Go.Sort

set_option maxHeartbeats 2000000 in
set_option maxRecDepth 100000 in
theorem refSort_any (w : World) (ao : Option Addr) (cap n : Nat) (L : List K) (hn : n = L.length) (h : KeysAt w ao L) (hm : n * 16 ≤ 140737488355328) :
    Calls Tryz.prog 65 #[.slice ao n cap] w fun e w' => ((L.all isKey = true ∧ ∃ a m c, e = .returned (.tuple #[.slice a m c, .int .i64 0]) ∧ Hid (OwnK w' w.heap.size (.slice a m c) (sortK L))) ∨ (L.all isKey = false ∧ e = .returned (.tuple #[.slice none 0 0, .int .i64 20]))) ∧ Below w.heap.size w w' := by
  have HN : Hid (n = L.length) := hn
  have HK : Hid (KeysAt w ao L) := h
  clear hn h
  go_enter Tryz.func65, Tryz.ntmps65
  go_wp2_with fail
  refine (refAll_any w ao cap n L HN.out HK.out (by omega)).mono ?_
  rintro e w1 ⟨rfl, hg⟩
  have HG1 : Hid (Below w.heap.size w w1) := Grew.below hg
  clear hg
  cases hall : L.all isKey with
  | false =>
    have HX : Hid (L.all isKey = false) := hall
    clear hall
    go_wp2
    go_ret2
    exact ⟨.inr ⟨HX.out, rfl⟩, HG1.out⟩
  | true =>
    have HX : Hid (L.all isKey = true) := hall
    have HAll : Hid (∀ k ∈ L, isKey k = true) := List.all_eq_true.1 hall
    clear hall
    go_wp2_with fail
    go_loopw [6, 5] (fun x y wr => ∃ (k m c : Nat) (a : Option Addr), k ≤ n ∧ x = .int .i64 (k : Int) ∧ y = .slice a m c ∧ Hid (OwnK wr w.heap.size (.slice a m c) (sortK (L.take k))) ∧ Hid (Below w.heap.size w wr)) (fun x _ _ => n - (intOf x).toNat)
    case atStart => exact ⟨0, 0, 0, none, Nat.zero_le _, rfl, rfl, OwnK.nil _ _, HG1⟩
    case round =>
      clear HG1
      obtain ⟨k, m, c, a, hk, rfl, rfl, HO, HB⟩ := hrel
      by_cases hlt : k < n
      · have hl : k < L.length := by have := HN.out; omega
        rcases HK.out.kept HB.out with h0 | ⟨bb, off, rfl, hc⟩
        · rw [h0] at hl; simp at hl
        · obtain ⟨c1, c2⟩ := KeysAt.at hc k hl
          have HS : Hid (sortK (L.take (k + 1)) = put (sortK (L.take k)) (kd L k)) := by rw [take_kd L k hl, sortK_snoc]; rfl
          have HR : Hid (Rise (sortK (L.take k))) := sortK_rise fun x hx => HAll.out x (List.mem_of_mem_take hx)
          have hml : m ≤ k := by
            obtain ⟨a', m', c', e, hl', _⟩ := HO.out.lst
            cases e
            have h1 := sortK_length (L.take k)
            rw [← hl'.len] at h1
            simp at h1; omega
          generalize kd L k = kk at *
          obtain ⟨t, r⟩ := kk
          simp only at c1 c2
          clear hc hl
          go_wp2_with fail
          obtain ⟨a', m', c', e, hl', hf'⟩ := HO.out.lst
          cases e
          refine (refPut_any wr a m c _ t r hl' hf' HR.out (by omega)).mono ?_
          rintro e w2 ⟨v, rfl, hv, hb⟩
          have HB2 : Hid (Below w.heap.size w w2) := HB.out.trans (hb.mono HB.out.size)
          have HO2 : Hid (OwnK w2 w.heap.size v (sortK (L.take (k + 1)))) := by
            rw [HS.out]
            rcases hv.out with ⟨rfl, hp⟩ | ho
            · rw [hp]; exact HO.out.kept hb
            · exact ho.mono HB.out.size
          obtain ⟨a2, m2, c3, hv2, _, _⟩ := HO2.out.lst
          subst hv2
          clear hl' hf' hv hb HO
          go_wp2_with fail
          go_roundw
          case rel => exact ⟨k + 1, m2, c3, a2, by omega, by go_num, rfl, HO2, HB2⟩
          case measure => simp [intOf]; omega
      · obtain rfl : k = n := by omega
        have HE : Hid (OwnK wr w.heap.size (.slice a m c) (sortK L)) := by have := HO.out; rwa [HN.out, List.take_length] at this
        clear HO
        go_wp2
        go_ret2
        exact ⟨.inl ⟨HX.out, a, m, c, rfl, HE⟩, HB.out⟩

theorem some_step (A B : List K) (inn : Bool) (k : Nat) (hk : k < A.length) : (A.take (k + 1)).filter (fun x => decide (x ∈ B) == inn) = (A.take k).filter (fun x => decide (x ∈ B) == inn) ++ (if decide (kd A k ∈ B) == inn then [kd A k] else []) := by
  rw [take_kd A k hk, List.filter_append]
  congr 1
  cases h : (decide (kd A k ∈ B) == inn) <;> simp [h]

end Go.Proofs.YtbcmmeajglilbaaGreat
/-
  StorePlays: THE DOCUMENT'S Chain, Keys.
-/
namespace Go.Proofs.YtbcmmeajglilbaaGreat
open Go.RowKit Go.Sort

/-- the next one -/
theorem nextI {f : Vr → Bool} {vs Bs : List Vr} (h : vs.filter f = Bs) : (lastI f vs vs.length = -1 ∧ Bs = []) ∨ ∃ (j : Nat) (B : List Vr), j < vs.length ∧ lastI f vs vs.length = (j : Int) ∧ Bs = B ++ [vs[j]!] := by
  have h1 := lastI_get f vs vs.length (Nat.le_refl _)
  rw [List.take_length, h] at h1
  have hl := lastI_lt f vs vs.length
  by_cases h0 : lastI f vs vs.length < 0
  · rw [if_pos h0] at h1
    exact .inl ⟨by omega, List.getLast?_eq_none_iff.1 h1⟩
  · rw [if_neg h0] at h1
    obtain ⟨B, hB⟩ := List.getLast?_eq_some_iff.1 h1
    exact .inr ⟨(lastI f vs vs.length).toNat, B, by omega, by omega, hB⟩
/-- where the walk through a chain stands -/
def ChI (vs : List Vr) (k : K) (z : Int) (Ds : List Vr) : Prop := (z = -1 ∧ ofK k vs = Ds) ∨ ∃ (j : Nat) (Bs : List Vr), j < vs.length ∧ z = (j : Int) ∧ ofK k vs = Bs ++ vs[j]! :: Ds
theorem ChI.start {vs : List Vr} (hb : BaOK vs) (k : K) : ChI vs k (lastI (belF k 9223372036854775807 9223372036854775807) vs vs.length) [] := by
  rw [lastI_top hb]
  rcases nextI (f := fun v => decide (v.k = k)) (vs := vs) rfl with ⟨h1, h2⟩ | ⟨j, B, hj, h1, h2⟩
  · exact .inl ⟨h1, h2⟩
  · exact .inr ⟨j, B, hj, h1, h2⟩
theorem ChI.next {vs Bs Ds : List Vr} {k : K} {j : Nat} (hp : PLk vs) (h : ofK k vs = Bs ++ vs[j]! :: Ds) : vs[j]!.k = k ∧ ChI vs k (lastI (belF k vs[j]!.ba vs[j]!.ix) vs vs.length) (vs[j]! :: Ds) := by
  have hk : vs[j]!.k = k := by
    have : vs[j]! ∈ ofK k vs := by rw [h]; simp
    simpa [ofK] using (List.mem_filter.1 this).2
  refine ⟨hk, ?_⟩
  have e : vs.filter (belF k vs[j]!.ba vs[j]!.ix) = Bs := by
    rw [← hk] at h ⊢
    rw [← num_ahead hp h]
    congr 1
    funext x
    unfold belF latB later
    rw [Bool.decide_and]
  rcases nextI e with ⟨h1, h2⟩ | ⟨j', B, hj', h1, h2⟩
  · exact .inl ⟨h1, by rw [h, h2]; rfl⟩
  · exact .inr ⟨j', B, hj', h1, by rw [h, h2]; simp⟩
theorem ofK_len (k : K) (vs : List Vr) : (ofK k vs).length ≤ vs.length := List.length_filter_le _ _
def lenOf : Value → Nat
  | .slice _ n _ => n
  | _ => 0
/-- one version more in a row of one's own -/
theorem row_ver {W : World} {base : Nat} {lo : Option Addr} {ln lc : Nat} {Ys : List Vr} (h : W.ownsRow base TV 5 (.slice lo ln lc) Ys.length (ctv Ys)) (y : Vr) (hl : Ys.length ≤ 65536) (hb : base ≤ W.heap.size) (ty : TypeId) :
    ∃ v' w', (Builtin.append_ #[TVs, TVs] ty #[.slice lo ln lc, .slice (some ⟨W.heap.size, 0, none⟩) 1 1]).run Tryz.prog (W.alloc (.cells (c1v y).toArray TV)) = .ok v' w' ∧ (∃ o c, v' = .slice o (Ys.length + 1) c) ∧ w'.ownsRow base TV 5 v' (Ys ++ [y]).length (ctv (Ys ++ [y])) ∧ Below base W w' := by
  have hal : Below W.heap.size W (W.alloc (.cells (c1v y).toArray TV)) := (Below.refl _ _).alloc (Nat.le_refl _) _
  have hA : (W.alloc (.cells (c1v y).toArray TV)).ownsRow base TV 5 (.slice lo ln lc) Ys.length (ctv Ys) := ownsRow_same h (fun g hg => hal.block g (World.ownsRow.lt h g hg).2)
  obtain ⟨v', w', q1, q2, q3⟩ := run_append_C elV ty base _ Ys.length (ctv Ys) hA ⟨W.heap.size, 0, none⟩ 1 1 (c1v y) rfl new_cells (fun u hu => by simp [c1v] at hu; rcases hu with rfl | rfl | rfl | rfl | rfl <;> rfl) (by omega) (Nat.le_trans hb hal.size)
  refine ⟨v', w', q1, ?_, by rw [ctv_snoc, List.length_append]; exact q2, ?_⟩
  · obtain ⟨a0, c0, e⟩ := row_slice q2
    exact ⟨a0, c0, e⟩
  · rcases q3 with ⟨g, c, e, _, q4⟩ | ⟨_, q4⟩
    · have hge := (World.ownsRow.lt hA g (by rw [e]; rfl)).1
      exact ⟨q4.os, q4.tape, q4.output, Nat.le_trans hal.size q4.size, fun k hk => (q4.block k (by have := hal.size; omega) (fun e2 => by cases e2; omega)).trans (hal.block k (by omega))⟩
    · exact ⟨q4.os, q4.tape, q4.output, Nat.le_trans hal.size q4.size, fun k hk => (q4.block k (by have := hal.size; omega) (fun e2 => by cases e2)).trans (hal.block k (by omega))⟩
def RChn (w : World) (ys : List Vr) (e : Ending) (w' : World) : Prop := ∃ v, e = .returned v ∧ w'.ownsRow w.heap.size TV 5 v ys.length (ctv ys.reverse) ∧ Below w.heap.size w w'
set_option maxRecDepth 100000 in
set_option maxHeartbeats 4000000 in
theorem rchain_any (w : World) (base R P : Nat) (cap last : Int) (av : Value) (vs : List Vr) (h : RDs w base R P cap last av vs) (hl : vs.length ≤ 65536) (hp : PLk vs) (hbo : BaOK vs) (k1 k2 : Int) :
    Calls Tryz.prog 29 #[ptr R, .agg #[.int .i64 k1, .int .i64 k2]] w fun e w' => RChn w (ofK (k1, k2) vs) e w' := by
  have mx := mixed
  obtain ⟨ao, ac, rfl⟩ := h.sl
  obtain ⟨W1, hW1⟩ : ∃ W1, W1 = w.alloc (.cells #[.int .i64 k1, .int .i64 k2] 41) := ⟨_, rfl⟩
  obtain ⟨B3, hB3⟩ : ∃ g, g = w.heap.size := ⟨_, rfl⟩
  have HG1 : Hid (Grew w W1) := by rw [hW1]; exact (Grew.refl w).alloc _
  have HB1 : Hid (Box W1 B3 k1 k2) := by rw [hW1]; exact Box.new hB3
  have HR := hidS h
  have HL := hidS hl
  have HP := hidS hp
  have HT := hidS rtop_any
  obtain ⟨y, hy⟩ : ∃ y, y = lastI (belF (k1, k2) 9223372036854775807 9223372036854775807) vs vs.length := ⟨_, rfl⟩
  have HCh : Hid (ChI vs (k1, k2) y []) := by show ChI _ _ _ _; rw [hy]; exact ChI.start hbo _
  have HBl : Hid (∀ m os, Calls Tryz.prog 48 #[ptr R, .agg #[.int .i64 k1, .int .i64 k2], topV] (grow (W1.drewN m) os) fun e w' => e = .returned (.int .i64 y) ∧ ∃ q os', w' = grow ((grow (W1.drewN m) os).drewN q) os') := fun m os => by
    rw [hy]; exact rbelow_any _ base R P cap last _ vs (HR.out.kept (HG1.out.trans ⟨m, os, rfl⟩).below) HL.out HP.out k1 k2 _ _ _ _ _
  obtain ⟨an, han⟩ : ∃ an, an = vs.length := ⟨_, rfl⟩
  have HN := hidS han
  have hl9 : an ≤ 65536 := by rw [han]; exact hl
  clear h hl hp hbo hy
  go_enter Tryz.func29, Tryz.ntmps29
  go_wp2_with fail
  rw [← hW1, ← hB3]
  have HB3 := hidS hB3
  clear hW1 hB3 han
  have ub : ∀ {p : Addr} {v : Value}, W1.cell? p = some v → ∀ n os, (grow (W1.drewN n) os).cell? p = some v := fun hc n os => Grew.cell ⟨n, os, rfl⟩ hc
  have p0 := ub HB1.out.1
  have p1 := ub HB1.out.2
  clear ub
  refine wp_region_quiet_grown mx (by kernel_rfl) ?_
  repeat (go_big_quiet_step (first | (go_at_call 49; exact Calls.grown_of (HT.out _)) | (go_at_call 48; exact Calls.grown_of (HBl.out _ _))))
  refine wpQuiet_nil ?_
  intro _ hw'
  obtain ⟨⟨nq, osq⟩, hw''⟩ := hw'
  subst hw''
  have HG2 : Hid (Below w.heap.size w (grow (W1.drewN nq) osq)) := (HG1.out.trans ⟨nq, osq, rfl⟩).below
  have HB2 : Hid (Box (grow (W1.drewN nq) osq) B3 k1 k2) := HB1.out.grew ⟨nq, osq, rfl⟩
  generalize grow (W1.drewN nq) osq = W2 at *
  clear p0 p1 HBl HG1 HB1 HT
  go_wp2_with fail
  go_loopw [5, 6] (fun v x wr => ∃ (lo : Option Addr) (ln lc : Nat) (z : Int) (Ds : List Vr), v = .slice lo ln lc ∧ x = .int .i64 z ∧ Hid (ln = Ds.length ∧ ChI vs (k1, k2) z Ds ∧ wr.ownsRow (w.heap.size + 1) TV 5 (.slice lo ln lc) Ds.length (ctv Ds.reverse) ∧ Below w.heap.size w wr ∧ Box wr B3 k1 k2)) (fun v _ _ => 65537 - lenOf v)
  case atStart => exact ⟨none, 0, 0, y, [], rfl, rfl, rfl, HCh.out, World.ownsRow_nil _ _ _ _, HG2.out, HB2.out⟩
  case round =>
    clear HCh HG2 HB2
    obtain ⟨lo, ln, lc, z, Ds, rfl, rfl, HI⟩ := hrel
    rcases HI.out.2.1 with ⟨rfl, hD⟩ | ⟨j, Bs, hj, rfl, hD⟩
    · have HF : Hid (RChn w (ofK (k1, k2) vs) (.returned (.slice lo ln lc)) wr) := ⟨_, rfl, by rw [hD]; exact ownsRow_mono HI.out.2.2.1 (by omega), HI.out.2.2.2.1⟩
      clear HI hD
      go_wp2
      go_ret
      exact HF.out
    · obtain ⟨hjk, hnx⟩ := ChI.next HP.out hD
      have hlD : Ds.length + 1 ≤ 65536 := by
        have h1 := ofK_len (k1, k2) vs
        rw [hD] at h1
        simp at h1
        have := HL.out
        omega
      have HRw := hidS (HR.out.kept HI.out.2.2.2.1)
      obtain ⟨g, c, e1, _, _, _, c3, c4, c5, c6, c7⟩ := HRw.out.ent hj
      simp only [Value.slice.injEq] at e1
      obtain ⟨rfl, he9, rfl⟩ := e1
      clear he9
      have r2 := HRw.out.cells.2.2.1
      rw [← HN.out] at r2
      have hja : j < an := by rw [HN.out]; exact hj
      have hjb : decide (0 ≤ (j : Int)) = true := by simp
      have hsz : w.heap.size + 1 ≤ wr.heap.size := by
        have h1 := cell_lt HI.out.2.2.2.2.1
        have h2 := HB3.out
        simp only at h1
        omega
      obtain ⟨z9, hz9⟩ : ∃ z9, z9 = lastI (belF (k1, k2) vs[j]!.ba vs[j]!.ix) vs vs.length := ⟨_, rfl⟩
      rw [← hz9] at hnx
      have HAp : Hid (∀ ty, ∃ v' w', (Builtin.append_ #[TVs, TVs] ty #[.slice lo ln lc, .slice (some ⟨wr.heap.size, 0, none⟩) 1 1]).run Tryz.prog (wr.alloc (.cells #[.int .i64 vs[j]!.ba, .int .i64 vs[j]!.ix, .bool vs[j]!.fl, .bool vs[j]!.ci, .int .i64 vs[j]!.cv] 71)) = .ok v' w' ∧ ((∃ o c, v' = .slice o (ln + 1) c) ∧ Hid (w'.ownsRow (w.heap.size + 1) TV 5 v' (vs[j]! :: Ds).length (ctv (vs[j]! :: Ds).reverse) ∧ Below (w.heap.size + 1) wr w'))) := fun ty => by
        obtain ⟨v', w', q1, ⟨o, c, q2⟩, q3, q4⟩ := row_ver (Ys := Ds.reverse) (by simpa using HI.out.2.2.1) vs[j]! (by simp; omega) hsz ty
        refine ⟨v', w', q1, ⟨o, c, ?_⟩, ?_, q4⟩
        · rw [q2, HI.out.1]; simp
        · rw [List.reverse_cons]; simpa using q3
      have HBl : Hid (∀ W m os, Below w.heap.size w W → Calls Tryz.prog 48 #[ptr R, .agg #[.int .i64 k1, .int .i64 k2], .agg #[.int .i64 vs[j]!.ba, .int .i64 vs[j]!.ix, .bool vs[j]!.fl, .bool vs[j]!.ci, .int .i64 vs[j]!.cv]] (grow (W.drewN m) os) fun e w' => e = .returned (.int .i64 z9) ∧ ∃ q os', w' = grow ((grow (W.drewN m) os).drewN q) os') := fun W m os hW => by
        rw [hz9]; exact rbelow_any _ base R P cap last _ vs ((HR.out.kept hW).kept (Grew.below ⟨m, os, rfl⟩)) HL.out HP.out k1 k2 _ _ _ _ _
      have HNx : Hid (ChI vs (k1, k2) z9 (vs[j]! :: Ds)) := hnx
      have HE : Hid (∀ W, Below w.heap.size w W → W.cell? ⟨g, j * 8 + 3, none⟩ = some (.int .i64 vs[j]!.ba) ∧ W.cell? ⟨g, j * 8 + 4, none⟩ = some (.int .i64 vs[j]!.ix) ∧ W.cell? ⟨g, j * 8 + 5, none⟩ = some (.bool vs[j]!.fl) ∧ W.cell? ⟨g, j * 8 + 6, none⟩ = some (.bool vs[j]!.ci) ∧ W.cell? ⟨g, j * 8 + 7, none⟩ = some (.int .i64 vs[j]!.cv) ∧ W.cell? ⟨R, 2, none⟩ = some (.slice (some ⟨g, 0, none⟩) an ac)) := fun W hW => by
        obtain ⟨g', c', e1, _, _, _, d3, d4, d5, d6, d7⟩ := (HR.out.kept hW).ent hj
        simp only [Value.slice.injEq, Option.some.injEq, Addr.mk.injEq, and_true, true_and] at e1
        obtain ⟨rfl, rfl⟩ := e1
        have r9 := (HR.out.kept hW).cells.2.2.1
        rw [← HN.out] at r9
        exact ⟨d3, d4, d5, d6, d7, r9⟩
      have HD : Hid ((vs[j]! :: Ds).length = ln + 1 ∧ ln + 1 ≤ 65536) := ⟨by rw [HI.out.1]; simp, by rw [HI.out.1]; exact hlD⟩
      generalize vs[j]! :: Ds = Ds' at *
      generalize vs[j]!.ba = x3 at *
      generalize vs[j]!.ix = x4 at *
      generalize vs[j]!.fl = x5 at *
      generalize vs[j]!.ci = x6 at *
      generalize vs[j]!.cv = x7 at *
      clear hnx hz9 hD hlD hjk HRw hj
      go_upto_region 4 with (refine wpL_appS rfl _ _ 81 rfl (.slice lo ln lc) (.slice (some ⟨wr.heap.size, 0, none⟩) 1 1) rfl rfl HAp.out ?_; rintro v4 w4 ⟨⟨o9, c9, rfl⟩, HQ⟩)
      have HW4 : Hid (Below w.heap.size w w4) := by
        have h1 := HI.out.2.2.2.1
        have h2 := HQ.out.2
        exact ⟨h2.os.trans h1.os, h2.tape.trans h1.tape, h2.output.trans h1.output, Nat.le_trans h1.size h2.size, fun k hk => (h2.block k (by omega)).trans (h1.block k hk)⟩
      have HB4 : Hid (Box w4 B3 k1 k2) := by
        have h2 := HQ.out.2
        have h3 := HB3.out
        have h4 := HI.out.2.2.2.2
        exact ⟨(h2.cell (p := ⟨B3, 0, none⟩) (by simp only; omega)).trans h4.1, (h2.cell (p := ⟨B3, 1, none⟩) (by simp only; omega)).trans h4.2⟩
      obtain ⟨d3, d4, d5, d6, d7, d2⟩ := HE.out w4 HW4.out
      have ub : ∀ {p : Addr} {v : Value}, w4.cell? p = some v → ∀ n os, (grow (w4.drewN n) os).cell? p = some v := fun hc n os => Grew.cell ⟨n, os, rfl⟩ hc
      have p0 := ub HB4.out.1
      have p1 := ub HB4.out.2
      have q3 := ub d3
      have q4 := ub d4
      have q5 := ub d5
      have q6 := ub d6
      have q7 := ub d7
      have q2 := ub d2
      have HBl4 : Hid (∀ m os, Calls Tryz.prog 48 #[ptr R, .agg #[.int .i64 k1, .int .i64 k2], .agg #[.int .i64 x3, .int .i64 x4, .bool x5, .bool x6, .int .i64 x7]] (grow (w4.drewN m) os) fun e w' => e = .returned (.int .i64 z9) ∧ ∃ q os', w' = grow ((grow (w4.drewN m) os).drewN q) os') := fun m os => HBl.out w4 m os HW4.out
      clear ub d2 d3 d4 d5 d6 d7 HE HBl HAp c3 c4 c5 c6 c7 r2
      refine wp_region_quiet_grown mx (by kernel_rfl) ?_
      repeat (go_big_quiet_step ((go_at_call 48; exact Calls.grown_of (HBl4.out _ _))))
      refine wpQuiet_nil ?_
      intro _ hw'
      obtain ⟨⟨nq, osq⟩, hw''⟩ := hw'
      subst hw''
      have HF : Hid (ln + 1 = Ds'.length ∧ ChI vs (k1, k2) z9 Ds' ∧ (grow (w4.drewN nq) osq).ownsRow (w.heap.size + 1) TV 5 (.slice o9 (ln + 1) c9) Ds'.length (ctv Ds'.reverse) ∧ Below w.heap.size w (grow (w4.drewN nq) osq) ∧ Box (grow (w4.drewN nq) osq) B3 k1 k2) := by
        have hg : Grew w4 (grow (w4.drewN nq) osq) := ⟨nq, osq, rfl⟩
        exact ⟨HD.out.1.symm, HNx.out, ownsRow_same HQ.out.1 (fun g hg2 => hg.heap (World.ownsRow.lt HQ.out.1 g hg2).2), HW4.out.trans (hg.below.mono HW4.out.size), HB4.out.grew hg⟩
      have hln := HD.out.2
      generalize grow (w4.drewN nq) osq = w5 at *
      clear p0 p1 q3 q4 q5 q6 q7 q2
      go_wp2_with fail
      go_roundw
      case rel => exact ⟨o9, ln + 1, c9, z9, Ds', rfl, rfl, HF⟩
      case measure => simp only [lenOf]; omega
end Go.Proofs.YtbcmmeajglilbaaGreat
