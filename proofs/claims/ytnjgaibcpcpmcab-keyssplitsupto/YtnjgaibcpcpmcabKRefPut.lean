/-
  THE WALK OF THE DOCUMENT's put.
-/
import Derived.Test.YtnjgaibcpcpmcabKRefFind
import Derived.Test.YtnjgaibcpcpmcabKLent
import Derived.Deep.DeepCutAuto
namespace Go.Proofs.Ytnjgaibcpcpmcab
open Go.RowKit Go.Sort

theorem filter_take {L : List K} {p : K → Bool} {m : Nat} (hm : m ≤ L.length) (h1 : ∀ x, x < m → p (kd L x) = true) (h2 : ∀ x, m ≤ x → x < L.length → p (kd L x) = false) : L.filter p = L.take m := by
  have ht : (L.take m).filter p = L.take m := List.filter_eq_self.2 fun a ha => by
    obtain ⟨i, hi, he⟩ := List.mem_iff_getElem.1 ha
    have hi' : i < m := by simp at hi; omega
    have hl : i < L.length := by omega
    have := h1 i hi'
    have e : kd L i = a := by
      have hg := kd_get hl
      rw [List.getElem?_eq_getElem hl, Option.some.injEq] at hg
      rw [← hg, ← he, List.getElem_take]
    rwa [e] at this
  have hd : (L.drop m).filter p = [] := List.filter_eq_nil_iff.2 fun a ha => by
    obtain ⟨i, hi, he⟩ := List.mem_iff_getElem.1 ha
    have hl : m + i < L.length := by simp at hi; omega
    have := h2 (m + i) (by omega) hl
    have e : kd L (m + i) = a := by
      have hg := kd_get hl
      rw [List.getElem?_eq_getElem hl, Option.some.injEq] at hg
      rw [← hg, ← he, List.getElem_drop]
    rw [e] at this
    rw [this]; decide
  calc L.filter p = (L.take m ++ L.drop m).filter p := by rw [List.take_append_drop]
    _ = L.take m := by rw [List.filter_append, ht, hd, List.append_nil]
theorem filter_drop {L : List K} {p : K → Bool} {m : Nat} (hm : m ≤ L.length) (h1 : ∀ x, x < m → p (kd L x) = false) (h2 : ∀ x, m ≤ x → x < L.length → p (kd L x) = true) : L.filter p = L.drop m := by
  have hn := filter_take (p := fun x => !p x) hm (fun x hx => by simp [h1 x hx]) (fun x hx hl => by simp [h2 x hx hl])
  have ht : (L.take m).filter p = [] := by
    rw [← hn, List.filter_filter]
    exact List.filter_eq_nil_iff.2 fun a _ => by cases p a <;> simp
  have hd : (L.drop m).filter p = L.drop m := List.filter_eq_self.2 fun a ha => by
    obtain ⟨i, hi, he⟩ := List.mem_iff_getElem.1 ha
    have hl : m + i < L.length := by simp at hi; omega
    have := h2 (m + i) (by omega) hl
    have e : kd L (m + i) = a := by
      have hg := kd_get hl
      rw [List.getElem?_eq_getElem hl, Option.some.injEq] at hg
      rw [← hg, ← he, List.getElem_drop]
    rwa [e] at this
  calc L.filter p = (L.take m ++ L.drop m).filter p := by rw [List.take_append_drop]
    _ = L.drop m := by rw [List.filter_append, ht, hd, List.nil_append]
theorem put_at {L : List K} {k : K} {m : Nat} (hm : m ≤ L.length) (h1 : ∀ x, x < m → lt (kd L x) k = true) (h2 : ∀ x, m ≤ x → x < L.length → lt (kd L x) k = false) (hk : k ∉ L) : put L k = L.take m ++ [k] ++ L.drop m := by
  unfold put
  rw [if_neg hk, filter_take hm h1 h2, filter_drop (p := fun x => lt k x) hm (fun x hx => lt_asymm (h1 x hx)) (fun x hx hl => ?_)]
  · simp
  · cases h : lt k (kd L x) with
    | true => rfl
    | false => exact absurd (eq_of_not_lt (h2 x hx hl) h ▸ kd_mem hl) hk
theorem mem_put {L : List K} {k : K} {m : Nat} (hr : Rise L) (hm : m < L.length) (h1 : ∀ x, x < m → lt (kd L x) k = true) (h2 : lt (kd L m) k = false) : (cmp k (kd L m) == 0) = decide (k ∈ L) := by
  obtain ⟨_, h3⟩ := find_at hr hm h1 h2
  have h4 := cmp_zero k (kd L m)
  by_cases h5 : kd L m = k
  · rw [decide_eq_true (h3.2 h5)]; simpa using h4.2 h5.symm
  · rw [decide_eq_false (fun h => h5 (h3.1 h))]; have := mt h4.1 (fun e => h5 e.symm); simpa using this
/-- the loop's test -/
def putGo (L : List K) (k : K) (m : Nat) : Bool := decide (0 < m) && !lt (kd L (m - 1)) k
theorem lt_up {L : List K} {k : K} {m : Nat} (hr : Rise L) (hm : m ≤ L.length) (h : putGo L k m = false) : ∀ x, x < m → lt (kd L x) k = true := by
  intro x hx
  unfold putGo at h
  rw [decide_eq_true (show 0 < m by omega), Bool.true_and, Bool.not_eq_false'] at h
  by_cases e : x = m - 1
  · rw [e]; exact h
  · exact lt_trans (rise_pair (i := x) (j := m - 1) (by omega) (by omega) hr) h
theorem KeysAt.take {w : World} {ao : Option Addr} {L : List K} (h : KeysAt w ao L) (m : Nat) : KeysAt w ao (L.take m) := by
  rcases h with rfl | ⟨b, off, rfl, hc⟩
  · exact .inl (by simp)
  · refine .inr ⟨b, off, rfl, fun j u hu => hc j u ?_⟩
    rw [cks_take] at hu
    rw [List.getElem?_take] at hu
    split at hu
    · exact hu
    · cases hu
theorem KeysAt.drop {w : World} {b off : Nat} {L : List K} (h : KeysAt w (some ⟨b, off, none⟩) L) (m : Nat) : KeysAt w (some ⟨b, off + m * 2, none⟩) (L.drop m) := by
  rcases h with rfl | ⟨b', off', e, hc⟩
  · exact .inl (by simp)
  · cases e
    refine .inr ⟨b, off + m * 2, rfl, fun j u hu => ?_⟩
    rw [← cks_drop m L, List.getElem?_drop] at hu
    rw [Nat.add_assoc]
    exact hc _ u hu

set_option maxHeartbeats 4000000 in
set_option maxRecDepth 100000 in
theorem refPut_any (w : World) (ao : Option Addr) (n cap : Nat) (L : List K) (t r : Int) (hL : Lst w ao n cap L) (hf : Flat ao) (hr : Rise L) (hm : (n + 1) * 16 ≤ 140737488355328) :
    Calls Try.prog 46 #[.slice ao n cap, .agg #[.int .i64 t, .int .i64 r]] w fun e w' => ∃ v, e = .returned v ∧ Hid ((v = .slice ao n cap ∧ put L (t, r) = L) ∨ OwnK w' w.heap.size v (put L (t, r))) ∧ Below w.heap.size w w' := by
  have mx := mixed
  have HL : Hid (Lst w ao n cap L) := hL
  have HF : Hid (Flat ao) := hf
  have HR : Hid (Rise L) := hr
  have hnc : n ≤ cap := hL.cap
  clear hL hf hr
  go_enter Try.func46, Try.ntmps46
  go_wp2_with fail
  have HB0 : Hid (Box (w.alloc (.cells #[.int .i64 t, .int .i64 r] 28)) w.heap.size t r) := Box.new rfl
  have HG0 : Hid (Grew w (w.alloc (.cells #[.int .i64 t, .int .i64 r] 28))) := (Grew.refl _).alloc _
  generalize w.alloc (.cells #[.int .i64 t, .int .i64 r] 28) = W0 at *
  obtain ⟨B0, hB0⟩ : ∃ b, b = w.heap.size := ⟨_, rfl⟩
  rw [← hB0] at HB0 ⊢
  have HBW : Hid (B0 = w.heap.size) := hB0
  clear hB0
  go_loopw [5] (fun x wr => ∃ k : Nat, k ≤ n ∧ x = .int .i64 (k : Int) ∧ Hid (Grew w wr) ∧ Hid (Box wr B0 t r) ∧ Hid (∀ x, k ≤ x → x < L.length → lt (kd L x) (t, r) = false)) (fun x _ => (intOf x).toNat)
  case atStart => exact ⟨n, Nat.le_refl _, rfl, HG0, HB0, by intro x h1 h2; have := HL.out.len; omega⟩
  case round =>
    clear HG0 HB0
    obtain ⟨k, hk, rfl, HG, HB, HI⟩ := hrel
    go_wp2_with fail
    go_cut [20] (fun x wx => x = .bool (putGo L (t, r) k) ∧ Hid (Grew w wx) ∧ Hid (Box wx B0 t r))
    case first =>
      cases k with
      | zero =>
        have HE : Hid (putGo L (t, r) 0 = false) := by simp [Hid, putGo]
        refine wp_region_quiet_grown mx (by kernel_rfl) ?_
        repeat (go_big_quiet_step (fail))
        refine wpQuiet_nil ?_
        intro _ hw'
        obtain ⟨⟨nq, osq⟩, hw''⟩ := hw'
        subst hw''
        have HG2 : Hid (Grew w (grow (wr.drewN nq) osq)) := HG.out.trans ⟨_, _, rfl⟩
        have HB2 : Hid (Box (grow (wr.drewN nq) osq) B0 t r) := HB.out.grew ⟨_, _, rfl⟩
        generalize grow (wr.drewN nq) osq = W2 at *
        go_wp2_with fail
        go_meet
        exact ⟨by rw [HE.out], HG2, HB2⟩
      | succ j =>
        obtain ⟨bb, off, e, g1c, g2c⟩ := (HL.out.kept HG.out.below).at j (by omega)
        subst e
        obtain ⟨q1c, q2c⟩ := HB.out
        have HE : Hid (putGo L (t, r) (j + 1) = decide (cmp (t, r) (kd L j) ≤ 0)) := by
          unfold Hid putGo
          rw [decide_eq_true (show 0 < j + 1 by omega), Bool.true_and, Nat.add_sub_cancel]
          unfold cmp
          cases h1 : lt (t, r) (kd L j)
          · cases h2 : lt (kd L j) (t, r) <;> simp
          · rw [lt_asymm h1]; simp
        generalize kd L j = x at *
        obtain ⟨x1, x2⟩ := x
        simp only at g1c g2c
        have HCm : Hid (∀ w, Calls Try.prog 45 #[.agg #[.int .i64 t, .int .i64 r], .agg #[.int .i64 x1, .int .i64 x2]] w fun e w' => e = .returned (.int .i64 (cmp (t, r) (x1, x2))) ∧ ∃ q os, w' = grow (w.drewN q) os) := fun w => refCompare_any w _ _ _ _
        generalize cmp (t, r) (x1, x2) = c at *
        have g1 : ∀ n os, (grow (wr.drewN n) os).cell? ⟨bb, off + j * 2, none⟩ = some (.int .i64 x1) := fun n os => Grew.cell ⟨n, os, rfl⟩ g1c
        have g2 : ∀ n os, (grow (wr.drewN n) os).cell? ⟨bb, off + j * 2 + 1, none⟩ = some (.int .i64 x2) := fun n os => Grew.cell ⟨n, os, rfl⟩ g2c
        have q1 : ∀ n os, (grow (wr.drewN n) os).cell? ⟨B0, 0, none⟩ = some (.int .i64 t) := fun n os => Grew.cell ⟨n, os, rfl⟩ q1c
        have q2 : ∀ n os, (grow (wr.drewN n) os).cell? ⟨B0, 1, none⟩ = some (.int .i64 r) := fun n os => Grew.cell ⟨n, os, rfl⟩ q2c
        have hk1 : decide ((0 : Int) < (j : Int) + 1) = true := decide_eq_true (by omega)
        have hk2 : (j : Int) + 1 - 1 = (j : Int) := by omega
        clear g1c g2c q1c q2c
        push_cast
        refine wp_region_quiet_grown mx (by kernel_rfl) ?_
        repeat (go_big_quiet_step ((go_at_call 45; exact Calls.grown_of (HCm.out _))))
        refine wpQuiet_nil ?_
        intro _ hw'
        obtain ⟨⟨nq, osq⟩, hw''⟩ := hw'
        subst hw''
        have HG2 : Hid (Grew w (grow (wr.drewN nq) osq)) := HG.out.trans ⟨_, _, rfl⟩
        have HB2 : Hid (Box (grow (wr.drewN nq) osq) B0 t r) := HB.out.grew ⟨_, _, rfl⟩
        generalize grow (wr.drewN nq) osq = W2 at *
        go_wp2_with fail
        go_meet
        exact ⟨by rw [HE.out], HG2, HB2⟩
    case rest =>
      clear HG HB
      obtain ⟨h20, HG, HB⟩ := hcut
      subst h20
      cases hgo : putGo L (t, r) k with
      | true =>
        obtain ⟨j, rfl⟩ : ∃ j, k = j + 1 := ⟨k - 1, by have h := hgo; unfold putGo at h; simp at h; omega⟩
        have HI2 : Hid (∀ x, j ≤ x → x < L.length → lt (kd L x) (t, r) = false) := fun x hx hl => by
          by_cases e : x = j
          · have h := hgo; unfold putGo at h; rw [Nat.add_sub_cancel] at h; simp at h; rw [e]; exact h
          · exact HI.out x (by omega) hl
        clear HI
        clear hgo
        go_wp2_with fail
        go_roundw
        case rel => exact ⟨j, by omega, by go_num, HG, HB, HI2⟩
        case measure => first | (simp [intOf]; done) | (simp [intOf]; omega)
      | false =>
        have H1 : Hid (∀ x, x < k → lt (kd L x) (t, r) = true) := lt_up HR.out (by have := HL.out.len; omega) hgo
        clear hgo
        go_wp2_with fail
        go_cut [35] (fun x wx => x = .bool (decide ((t, r) ∈ L)) ∧ Hid (Grew w wx) ∧ Hid (Box wx B0 t r))
        case first =>
          by_cases hlt : k < n
          · obtain ⟨bb, off, e, g1c, g2c⟩ := (HL.out.kept HG.out.below).at k hlt
            subst e
            obtain ⟨q1c, q2c⟩ := HB.out
            have hl : k < L.length := by have := HL.out.len; omega
            have HE : Hid ((cmp (t, r) (kd L k) == 0) = decide ((t, r) ∈ L)) := mem_put HR.out hl H1.out (HI.out k (Nat.le_refl _) hl)
            generalize kd L k = x at *
            obtain ⟨x1, x2⟩ := x
            simp only at g1c g2c
            have HCm : Hid (∀ w, Calls Try.prog 45 #[.agg #[.int .i64 t, .int .i64 r], .agg #[.int .i64 x1, .int .i64 x2]] w fun e w' => e = .returned (.int .i64 (cmp (t, r) (x1, x2))) ∧ ∃ q os, w' = grow (w.drewN q) os) := fun w => refCompare_any w _ _ _ _
            generalize cmp (t, r) (x1, x2) = c at *
            have g1 : ∀ n os, (grow (wc.drewN n) os).cell? ⟨bb, off + k * 2, none⟩ = some (.int .i64 x1) := fun n os => Grew.cell ⟨n, os, rfl⟩ g1c
            have g2 : ∀ n os, (grow (wc.drewN n) os).cell? ⟨bb, off + k * 2 + 1, none⟩ = some (.int .i64 x2) := fun n os => Grew.cell ⟨n, os, rfl⟩ g2c
            have q1 : ∀ n os, (grow (wc.drewN n) os).cell? ⟨B0, 0, none⟩ = some (.int .i64 t) := fun n os => Grew.cell ⟨n, os, rfl⟩ q1c
            have q2 : ∀ n os, (grow (wc.drewN n) os).cell? ⟨B0, 1, none⟩ = some (.int .i64 r) := fun n os => Grew.cell ⟨n, os, rfl⟩ q2c
            have hk1 : decide ((k : Int) < (n : Int)) = true := by simp; omega
            have hk2 : decide (k < n) = true := by simp; omega
            clear g1c g2c q1c q2c hl
            refine wp_region_quiet_grown mx (by kernel_rfl) ?_
            repeat (go_big_quiet_step ((go_at_call 45; exact Calls.grown_of (HCm.out _))))
            refine wpQuiet_nil ?_
            intro _ hw'
            obtain ⟨⟨nq, osq⟩, hw''⟩ := hw'
            subst hw''
            have HG2 : Hid (Grew w (grow (wc.drewN nq) osq)) := HG.out.trans ⟨_, _, rfl⟩
            have HB2 : Hid (Box (grow (wc.drewN nq) osq) B0 t r) := HB.out.grew ⟨_, _, rfl⟩
            generalize grow (wc.drewN nq) osq = W2 at *
            go_wp2_with fail
            go_meet
            exact ⟨by rw [← HE.out], HG2, HB2⟩
          · have HE : Hid (decide ((t, r) ∈ L) = false) := decide_eq_false (find_end (fun x hx => H1.out x (by have := HL.out.len; omega))).2
            have hk1 : decide ((k : Int) < (n : Int)) = false := by simp; omega
            have hk2 : decide (k < n) = false := by simp; omega
            refine wp_region_quiet_grown mx (by kernel_rfl) ?_
            repeat (go_big_quiet_step (fail))
            refine wpQuiet_nil ?_
            intro _ hw'
            obtain ⟨⟨nq, osq⟩, hw''⟩ := hw'
            subst hw''
            have HG2 : Hid (Grew w (grow (wc.drewN nq) osq)) := HG.out.trans ⟨_, _, rfl⟩
            have HB2 : Hid (Box (grow (wc.drewN nq) osq) B0 t r) := HB.out.grew ⟨_, _, rfl⟩
            generalize grow (wc.drewN nq) osq = W2 at *
            go_wp2_with fail
            go_meet
            exact ⟨by rw [HE.out], HG2, HB2⟩
        case rest =>
          clear HG HB
          obtain ⟨h35, HG, HB⟩ := hcut
          subst h35
          by_cases hmem : (t, r) ∈ L
          · have HP : Hid (put L (t, r) = L) := if_pos hmem
            rw [decide_eq_true hmem]
            clear hmem
            go_wp2
            go_ret
            exact ⟨_, rfl, .inl ⟨rfl, HP.out⟩, HG.out.below⟩
          · have HP : Hid (put L (t, r) = L.take k ++ [(t, r)] ++ L.drop k) := put_at (by have := HL.out.len; omega) H1.out HI.out hmem
            rw [decide_eq_false hmem]
            have HLw : Hid (Lst wc ao n cap L) := HL.out.kept HG.out.below
            have HN : Hid (n = L.length) := HL.out.len
            have hbw : w.heap.size ≤ wc.heap.size := HG.out.size
            clear hmem HI H1
            cases ao with
            | none =>
              have h0 : L = [] := by
                rcases HL.out.at_ with h1 | ⟨b, off, h1, _⟩
                · exact h1
                · cases h1
              have hn0 : n = 0 := by rw [HN.out, h0]; rfl
              have hc0 : cap = 0 := HL.out.nil rfl
              subst hn0 hc0
              obtain hk0 : 0 = k := by omega
              subst hk0
              subst h0
              have HP0 : Hid (put [] (t, r) = [(t, r)]) := by rw [HP.out]; rfl
              obtain ⟨k1, k2⟩ := HB.out
              clear HP HLw HL HN
              go_wp2_with (first | (at_builtin; refine wpList_append_keys rfl _ _ rfl w.heap.size v2 [(t, r)] rfl HO2.out.1 none 0 0 [] rfl rfl (.inl rfl) (fun _ => rfl) (by simp) hbw2 ?_; intro v3 w3 h3 hg3 _; have HO3 : Hid (OwnK w3 w.heap.size v3 [(t, r)] ∧ Below w.heap.size wc w3) := ⟨by simpa using h3, HO2.out.2.trans (grown_below hg3 (fun k hk => (HO2.out.1.lt k hk).1) hbw2)⟩; clear h3 hg3) | (at_builtin; refine wpList_append_keys rfl _ _ rfl w.heap.size (.slice none 0 0) [] rfl (OwnK.nil _ _) _ _ _ [(t, r)] rfl rfl (key_src wc _ t r rfl) (by simp) (by simp) (by simp only [World.size_alloc]; omega) ?_; intro v2 w2 h2 hg2 _; have HO2 : Hid (OwnK w2 w.heap.size v2 [(t, r)] ∧ Below w.heap.size wc w2) := ⟨by simpa using h2, ((Below.refl _ wc).alloc hbw _).trans (grown_below hg2 (fun k hk => by cases hk) (by simp only [World.size_alloc]; omega))⟩; have hbw2 : w.heap.size ≤ w2.heap.size := Nat.le_trans hbw HO2.out.2.size; clear h2 hg2))
              go_ret
              exact ⟨_, rfl, .inr (HP0.out ▸ HO3.out.1), HG.out.below.trans HO3.out.2⟩
            | some a =>
              obtain ⟨bb, off, sp⟩ := a
              obtain rfl : sp = none := HF.out _ rfl
              have HT : Hid (k = (L.take k).length ∧ KeysAt wc (some ⟨bb, off, none⟩) (L.take k)) := ⟨by have := HN.out; simp; omega, HLw.out.at_.take k⟩
              have HlW : Hid (∀ W, Below w.heap.size wc W → KeysAt W (some ⟨bb, off, none⟩) L) := fun W hb => HL.out.at_.kept (HG.out.below.trans hb)
              by_cases hcp : k = cap
              · obtain hc1 : cap = k := hcp.symm
                obtain hc2 : n = k := by omega
                subst hc1
                subst hc2
                have HD : Hid (0 = (L.drop n).length ∧ ∀ W, Below w.heap.size wc W → KeysAt W (some ⟨bb, off, none⟩) (L.drop n)) := ⟨by have := HN.out; simp; omega, fun W _ => .inl (List.drop_eq_nil_of_le (by have := HN.out; omega))⟩
                clear hcp hk hnc
                go_wp2_with (first | (at_builtin; refine wpList_append_keys rfl _ _ rfl w.heap.size v2 (L.take n ++ [(t, r)]) rfl HO2.out.1 (some ⟨bb, off, none⟩) 0 0 (L.drop n) rfl HD.out.1 (HD.out.2 _ HO2.out.2) (by simp) (by rw [List.length_append, ← HT.out.1, ← HD.out.1]; simp; omega) hbw2 ?_; intro v3 w3 h3 hg3 _; have HO3 : Hid (OwnK w3 w.heap.size v3 (L.take n ++ [(t, r)] ++ L.drop n) ∧ Below w.heap.size wc w3) := ⟨h3, HO2.out.2.trans (grown_below hg3 (fun k hk => (HO2.out.1.lt k hk).1) hbw2)⟩; clear h3 hg3) | (at_builtin; refine wpList_append_keys rfl _ _ rfl w.heap.size v1 (L.take n) rfl (HO1.out.1.alloc _) _ _ _ [(t, r)] rfl rfl (key_src w1 _ t r rfl) (by simp) (by rw [← HT.out.1]; simp; omega) (by simp only [World.size_alloc]; omega) ?_; intro v2 w2 h2 hg2 _; have HO2 : Hid (OwnK w2 w.heap.size v2 (L.take n ++ [(t, r)]) ∧ Below w.heap.size wc w2) := ⟨h2, HO1.out.2.trans (((Below.refl _ w1).alloc hbw1 _).trans (grown_below hg2 (fun k hk => (HO1.out.1.lt k hk).1) (by simp only [World.size_alloc]; omega)))⟩; have hbw2 : w.heap.size ≤ w2.heap.size := Nat.le_trans hbw HO2.out.2.size; clear h2 hg2 k1 k2) | (at_builtin; refine wpList_append_keys rfl _ _ rfl w.heap.size (.slice none 0 0) [] rfl (OwnK.nil _ _) (some ⟨bb, off, none⟩) n n (L.take n) rfl HT.out.1 HT.out.2 (by simp) (by rw [← HT.out.1]; simp; omega) hbw ?_; intro v1 w1 h1 hg1 _; have HO1 : Hid (OwnK w1 w.heap.size v1 (L.take n) ∧ Below w.heap.size wc w1) := ⟨by simpa using h1, grown_below hg1 (fun k e => by cases e) hbw⟩; have hbw1 : w.heap.size ≤ w1.heap.size := Nat.le_trans hbw HO1.out.2.size; have k1 : w1.cell? ⟨B0, 0, none⟩ = some (.int .i64 t) := hg1.cell HB.out.1 (by simp [Value.ownBlock]); have k2 : w1.cell? ⟨B0, 1, none⟩ = some (.int .i64 r) := hg1.cell HB.out.2 (by simp [Value.ownBlock]); clear h1 hg1))
                go_ret
                exact ⟨_, rfl, .inr (HP.out ▸ HO3.out.1), HG.out.below.trans HO3.out.2⟩
              · have HD : Hid (n - k = (L.drop k).length ∧ ∀ W, Below w.heap.size wc W → KeysAt W (some ⟨bb, off + k * 2, none⟩) (L.drop k)) := ⟨by have := HN.out; simp; omega, fun W hb => (HlW.out W hb).drop k⟩
                go_wp2_with (first | (at_builtin; refine wpList_append_keys rfl _ _ rfl w.heap.size v2 (L.take k ++ [(t, r)]) rfl HO2.out.1 (some ⟨bb, off + k * 2, none⟩) (n - k) (cap - k) (L.drop k) rfl HD.out.1 (HD.out.2 _ HO2.out.2) (by simp) (by rw [List.length_append, ← HT.out.1, ← HD.out.1]; simp; omega) hbw2 ?_; intro v3 w3 h3 hg3 _; have HO3 : Hid (OwnK w3 w.heap.size v3 (L.take k ++ [(t, r)] ++ L.drop k) ∧ Below w.heap.size wc w3) := ⟨h3, HO2.out.2.trans (grown_below hg3 (fun k hk => (HO2.out.1.lt k hk).1) hbw2)⟩; clear h3 hg3) | (at_builtin; refine wpList_append_keys rfl _ _ rfl w.heap.size v1 (L.take k) rfl (HO1.out.1.alloc _) _ _ _ [(t, r)] rfl rfl (key_src w1 _ t r rfl) (by simp) (by rw [← HT.out.1]; simp; omega) (by simp only [World.size_alloc]; omega) ?_; intro v2 w2 h2 hg2 _; have HO2 : Hid (OwnK w2 w.heap.size v2 (L.take k ++ [(t, r)]) ∧ Below w.heap.size wc w2) := ⟨h2, HO1.out.2.trans (((Below.refl _ w1).alloc hbw1 _).trans (grown_below hg2 (fun k hk => (HO1.out.1.lt k hk).1) (by simp only [World.size_alloc]; omega)))⟩; have hbw2 : w.heap.size ≤ w2.heap.size := Nat.le_trans hbw HO2.out.2.size; clear h2 hg2 k1 k2) | (at_builtin; refine wpList_append_keys rfl _ _ rfl w.heap.size (.slice none 0 0) [] rfl (OwnK.nil _ _) (some ⟨bb, off, none⟩) k cap (L.take k) rfl HT.out.1 HT.out.2 (by simp) (by rw [← HT.out.1]; simp; omega) hbw ?_; intro v1 w1 h1 hg1 _; have HO1 : Hid (OwnK w1 w.heap.size v1 (L.take k) ∧ Below w.heap.size wc w1) := ⟨by simpa using h1, grown_below hg1 (fun k e => by cases e) hbw⟩; have hbw1 : w.heap.size ≤ w1.heap.size := Nat.le_trans hbw HO1.out.2.size; have k1 : w1.cell? ⟨B0, 0, none⟩ = some (.int .i64 t) := hg1.cell HB.out.1 (by simp [Value.ownBlock]); have k2 : w1.cell? ⟨B0, 1, none⟩ = some (.int .i64 r) := hg1.cell HB.out.2 (by simp [Value.ownBlock]); clear h1 hg1))
                go_ret
                exact ⟨_, rfl, .inr (HP.out ▸ HO3.out.1), HG.out.below.trans HO3.out.2⟩

end Go.Proofs.Ytnjgaibcpcpmcab
