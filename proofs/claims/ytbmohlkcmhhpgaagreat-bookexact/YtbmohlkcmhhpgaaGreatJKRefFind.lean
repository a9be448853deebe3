import Derived.Test.YtbmohlkcmhhpgaaGreatJKRefSet
import Derived.Test.YtbmohlkcmhhpgaaGreatJKCompact
import Derived.Deep.DeepCutAuto
import Derived.Test.YtbmohlkcmhhpgaaGreatJBkDColl
import Derived.Test.YtbmohlkcmhhpgaaGreatJBkVers
import Derived.BigQuiet
/-
  THE WALKS OF THE DOCUMENT's Find AND both.
-/
namespace Go.Proofs.YtbmohlkcmhhpgaaGreat
open Go.RowKit Go.Sort

theorem find_at {L : List K} {k : K} {m : Nat} (hr : Rise L) (hm : m < L.length) (h1 : ∀ x, x < m → lt (kd L x) k = true) (h2 : lt (kd L m) k = false) : cnt L k = m ∧ (k ∈ L ↔ kd L m = k) := by
  have h3 : ∀ x, m ≤ x → x < L.length → lt (kd L x) k = false := fun x hx hxl => by
    by_cases e : x = m
    · rw [e]; exact h2
    · cases h : lt (kd L x) k with
      | false => rfl
      | true => rw [lt_trans (rise_pair (i := m) (j := x) (by omega) hxl hr) h] at h2; cases h2
  refine ⟨cnt_eq (by omega) h1 h3, ?_, fun e => e ▸ kd_mem hm⟩
  intro hk
  obtain ⟨i, hi, he⟩ := List.mem_iff_getElem.1 hk
  have hg := kd_get hi
  rw [List.getElem?_eq_getElem hi, Option.some.injEq, he] at hg
  by_cases e1 : i < m
  · have := h1 i e1; rw [← hg, lt_irrefl] at this; cases this
  · by_cases e2 : i = m
    · rw [← e2]; exact hg.symm
    · have := rise_pair (i := m) (j := i) (by omega) hi hr
      rw [← hg, h2] at this; cases this
theorem find_end {L : List K} {k : K} (h1 : ∀ x, x < L.length → lt (kd L x) k = true) : cnt L k = L.length ∧ k ∉ L := by
  refine ⟨cnt_eq (Nat.le_refl _) h1 (fun x hx hxl => by omega), fun hk => ?_⟩
  obtain ⟨i, hi, he⟩ := List.mem_iff_getElem.1 hk
  have hg := kd_get hi
  rw [List.getElem?_eq_getElem hi, Option.some.injEq, he] at hg
  have := h1 i hi
  rw [← hg, lt_irrefl] at this; cases this

end Go.Proofs.YtbmohlkcmhhpgaaGreat
/-
  THE WALK OF THE DOCUMENT's put.
-/
namespace Go.Proofs.YtbmohlkcmhhpgaaGreat
open Go.RowKit Go.Sort

theorem filter_take {L : List K} {p : K → Bool} {m : Nat} (hm : m ≤ L.length) (h1 : ∀ x, x < m → p (kd L x) = true) (h2 : ∀ x, m ≤ x → x < L.length → p (kd L x) = false) : L.filter p = L.take m := by
  have ht : (L.take m).filter p = L.take m := List.filter_eq_self.2 fun a ha => by
    obtain ⟨i, hi, he⟩ := List.mem_iff_getElem.1 ha
    have hi' : i < m := by simp at hi; omega
    have hl : i < L.length := by omega
    have := h1 i hi'
    have e : kd L i = a := by
      have hg := kd_get hl
      rw [List.getElem?_eq_getElem hl, Option.some.injEq] at hg
      rw [← hg, ← he, List.getElem_take]
    rwa [e] at this
  have hd : (L.drop m).filter p = [] := List.filter_eq_nil_iff.2 fun a ha => by
    obtain ⟨i, hi, he⟩ := List.mem_iff_getElem.1 ha
    have hl : m + i < L.length := by simp at hi; omega
    have := h2 (m + i) (by omega) hl
    have e : kd L (m + i) = a := by
      have hg := kd_get hl
      rw [List.getElem?_eq_getElem hl, Option.some.injEq] at hg
      rw [← hg, ← he, List.getElem_drop]
    rw [e] at this
    rw [this]; decide
  calc L.filter p = (L.take m ++ L.drop m).filter p := by rw [List.take_append_drop]
    _ = L.take m := by rw [List.filter_append, ht, hd, List.append_nil]
theorem filter_drop {L : List K} {p : K → Bool} {m : Nat} (hm : m ≤ L.length) (h1 : ∀ x, x < m → p (kd L x) = false) (h2 : ∀ x, m ≤ x → x < L.length → p (kd L x) = true) : L.filter p = L.drop m := by
  have hn := filter_take (p := fun x => !p x) hm (fun x hx => by simp [h1 x hx]) (fun x hx hl => by simp [h2 x hx hl])
  have ht : (L.take m).filter p = [] := by
    rw [← hn, List.filter_filter]
    exact List.filter_eq_nil_iff.2 fun a _ => by cases p a <;> simp
  have hd : (L.drop m).filter p = L.drop m := List.filter_eq_self.2 fun a ha => by
    obtain ⟨i, hi, he⟩ := List.mem_iff_getElem.1 ha
    have hl : m + i < L.length := by simp at hi; omega
    have := h2 (m + i) (by omega) hl
    have e : kd L (m + i) = a := by
      have hg := kd_get hl
      rw [List.getElem?_eq_getElem hl, Option.some.injEq] at hg
      rw [← hg, ← he, List.getElem_drop]
    rwa [e] at this
  calc L.filter p = (L.take m ++ L.drop m).filter p := by rw [List.take_append_drop]
    _ = L.drop m := by rw [List.filter_append, ht, hd, List.nil_append]
theorem put_at {L : List K} {k : K} {m : Nat} (hm : m ≤ L.length) (h1 : ∀ x, x < m → lt (kd L x) k = true) (h2 : ∀ x, m ≤ x → x < L.length → lt (kd L x) k = false) (hk : k ∉ L) : put L k = L.take m ++ [k] ++ L.drop m := by
  unfold put
  rw [if_neg hk, filter_take hm h1 h2, filter_drop (p := fun x => lt k x) hm (fun x hx => lt_asymm (h1 x hx)) (fun x hx hl => ?_)]
  · simp
  · cases h : lt k (kd L x) with
    | true => rfl
    | false => exact absurd (eq_of_not_lt (h2 x hx hl) h ▸ kd_mem hl) hk
theorem mem_put {L : List K} {k : K} {m : Nat} (hr : Rise L) (hm : m < L.length) (h1 : ∀ x, x < m → lt (kd L x) k = true) (h2 : lt (kd L m) k = false) : (cmp k (kd L m) == 0) = decide (k ∈ L) := by
  obtain ⟨_, h3⟩ := find_at hr hm h1 h2
  have h4 := cmp_zero k (kd L m)
  by_cases h5 : kd L m = k
  · rw [decide_eq_true (h3.2 h5)]; simpa using h4.2 h5.symm
  · rw [decide_eq_false (fun h => h5 (h3.1 h))]; have := mt h4.1 (fun e => h5 e.symm); simpa using this
/-- the loop's test -/
def putGo (L : List K) (k : K) (m : Nat) : Bool := decide (0 < m) && !lt (kd L (m - 1)) k
theorem lt_up {L : List K} {k : K} {m : Nat} (hr : Rise L) (hm : m ≤ L.length) (h : putGo L k m = false) : ∀ x, x < m → lt (kd L x) k = true := by
  intro x hx
  unfold putGo at h
  rw [decide_eq_true (show 0 < m by omega), Bool.true_and, Bool.not_eq_false'] at h
  by_cases e : x = m - 1
  · rw [e]; exact h
  · exact lt_trans (rise_pair (i := x) (j := m - 1) (by omega) (by omega) hr) h
theorem KeysAt.take {w : World} {ao : Option Addr} {L : List K} (h : KeysAt w ao L) (m : Nat) : KeysAt w ao (L.take m) := by
  rcases h with rfl | ⟨b, off, rfl, hc⟩
  · exact .inl (by simp)
  · refine .inr ⟨b, off, rfl, fun j u hu => hc j u ?_⟩
    rw [cks_take] at hu
    rw [List.getElem?_take] at hu
    split at hu
    · exact hu
    · cases hu
theorem KeysAt.drop {w : World} {b off : Nat} {L : List K} (h : KeysAt w (some ⟨b, off, none⟩) L) (m : Nat) : KeysAt w (some ⟨b, off + m * 2, none⟩) (L.drop m) := by
  rcases h with rfl | ⟨b', off', e, hc⟩
  · exact .inl (by simp)
  · cases e
    refine .inr ⟨b, off + m * 2, rfl, fun j u hu => ?_⟩
    rw [← cks_drop m L, List.getElem?_drop] at hu
    rw [Nat.add_assoc]
    exact hc _ u hu

set_option maxHeartbeats 4000000 in
set_option maxRecDepth 100000 in
theorem refPut_any (w : World) (ao : Option Addr) (n cap : Nat) (L : List K) (t r : Int) (hL : Lst w ao n cap L) (hf : Flat ao) (hr : Rise L) (hm : (n + 1) * 16 ≤ 140737488355328) :
    Calls Tryz.prog 71 #[.slice ao n cap, .agg #[.int .i64 t, .int .i64 r]] w fun e w' => ∃ v, e = .returned v ∧ Hid ((v = .slice ao n cap ∧ put L (t, r) = L) ∨ OwnK w' w.heap.size v (put L (t, r))) ∧ Below w.heap.size w w' := by
  have mx := mixed
  have HL : Hid (Lst w ao n cap L) := hL
  have HF : Hid (Flat ao) := hf
  have HR : Hid (Rise L) := hr
  have hnc : n ≤ cap := hL.cap
  clear hL hf hr
  go_enter Tryz.func71, Tryz.ntmps71
  go_wp2_with fail
  have HB0 : Hid (Box (w.alloc (.cells #[.int .i64 t, .int .i64 r] 43)) w.heap.size t r) := Box.new rfl
  have HG0 : Hid (Grew w (w.alloc (.cells #[.int .i64 t, .int .i64 r] 43))) := (Grew.refl _).alloc _
  generalize w.alloc (.cells #[.int .i64 t, .int .i64 r] 43) = W0 at *
  obtain ⟨B0, hB0⟩ : ∃ b, b = w.heap.size := ⟨_, rfl⟩
  rw [← hB0] at HB0 ⊢
  have HBW : Hid (B0 = w.heap.size) := hB0
  clear hB0
  go_loopw [5] (fun x wr => ∃ k : Nat, k ≤ n ∧ x = .int .i64 (k : Int) ∧ Hid (Grew w wr) ∧ Hid (Box wr B0 t r) ∧ Hid (∀ x, k ≤ x → x < L.length → lt (kd L x) (t, r) = false)) (fun x _ => (intOf x).toNat)
  case atStart => exact ⟨n, Nat.le_refl _, rfl, HG0, HB0, by intro x h1 h2; have := HL.out.len; omega⟩
  case round =>
    clear HG0 HB0
    obtain ⟨k, hk, rfl, HG, HB, HI⟩ := hrel
    go_wp2_with fail
    go_cut [20] (fun x wx => x = .bool (putGo L (t, r) k) ∧ Hid (Grew w wx) ∧ Hid (Box wx B0 t r))
    case first =>
      cases k with
      | zero =>
        have HE : Hid (putGo L (t, r) 0 = false) := by simp [Hid, putGo]
        refine wp_region_quiet_grown mx (by kernel_rfl) ?_
        repeat (go_big_quiet_step (fail))
        refine wpQuiet_nil ?_
        intro _ hw'
        obtain ⟨⟨nq, osq⟩, hw''⟩ := hw'
        subst hw''
        have HG2 : Hid (Grew w (grow (wr.drewN nq) osq)) := HG.out.trans ⟨_, _, rfl⟩
        have HB2 : Hid (Box (grow (wr.drewN nq) osq) B0 t r) := HB.out.grew ⟨_, _, rfl⟩
        generalize grow (wr.drewN nq) osq = W2 at *
        go_wp2_with fail
        go_meet
        exact ⟨by rw [HE.out], HG2, HB2⟩
      | succ j =>
        obtain ⟨bb, off, e, g1c, g2c⟩ := (HL.out.kept HG.out.below).at j (by omega)
        subst e
        obtain ⟨q1c, q2c⟩ := HB.out
        have HE : Hid (putGo L (t, r) (j + 1) = decide (cmp (t, r) (kd L j) ≤ 0)) := by
          unfold Hid putGo
          rw [decide_eq_true (show 0 < j + 1 by omega), Bool.true_and, Nat.add_sub_cancel]
          unfold cmp
          cases h1 : lt (t, r) (kd L j)
          · cases h2 : lt (kd L j) (t, r) <;> simp
          · rw [lt_asymm h1]; simp
        generalize kd L j = x at *
        obtain ⟨x1, x2⟩ := x
        simp only at g1c g2c
        have HCm : Hid (∀ w, Calls Tryz.prog 63 #[.agg #[.int .i64 t, .int .i64 r], .agg #[.int .i64 x1, .int .i64 x2]] w fun e w' => e = .returned (.int .i64 (cmp (t, r) (x1, x2))) ∧ ∃ q os, w' = grow (w.drewN q) os) := fun w => refCompare_any w _ _ _ _
        generalize cmp (t, r) (x1, x2) = c at *
        have g1 : ∀ n os, (grow (wr.drewN n) os).cell? ⟨bb, off + j * 2, none⟩ = some (.int .i64 x1) := fun n os => Grew.cell ⟨n, os, rfl⟩ g1c
        have g2 : ∀ n os, (grow (wr.drewN n) os).cell? ⟨bb, off + j * 2 + 1, none⟩ = some (.int .i64 x2) := fun n os => Grew.cell ⟨n, os, rfl⟩ g2c
        have q1 : ∀ n os, (grow (wr.drewN n) os).cell? ⟨B0, 0, none⟩ = some (.int .i64 t) := fun n os => Grew.cell ⟨n, os, rfl⟩ q1c
        have q2 : ∀ n os, (grow (wr.drewN n) os).cell? ⟨B0, 1, none⟩ = some (.int .i64 r) := fun n os => Grew.cell ⟨n, os, rfl⟩ q2c
        have hk1 : decide ((0 : Int) < (j : Int) + 1) = true := decide_eq_true (by omega)
        have hk2 : (j : Int) + 1 - 1 = (j : Int) := by omega
        clear g1c g2c q1c q2c
        push_cast
        refine wp_region_quiet_grown mx (by kernel_rfl) ?_
        repeat (go_big_quiet_step ((go_at_call 63; exact Calls.grown_of (HCm.out _))))
        refine wpQuiet_nil ?_
        intro _ hw'
        obtain ⟨⟨nq, osq⟩, hw''⟩ := hw'
        subst hw''
        have HG2 : Hid (Grew w (grow (wr.drewN nq) osq)) := HG.out.trans ⟨_, _, rfl⟩
        have HB2 : Hid (Box (grow (wr.drewN nq) osq) B0 t r) := HB.out.grew ⟨_, _, rfl⟩
        generalize grow (wr.drewN nq) osq = W2 at *
        go_wp2_with fail
        go_meet
        exact ⟨by rw [HE.out], HG2, HB2⟩
    case rest =>
      clear HG HB
      obtain ⟨h20, HG, HB⟩ := hcut
      subst h20
      cases hgo : putGo L (t, r) k with
      | true =>
        obtain ⟨j, rfl⟩ : ∃ j, k = j + 1 := ⟨k - 1, by have h := hgo; unfold putGo at h; simp at h; omega⟩
        have HI2 : Hid (∀ x, j ≤ x → x < L.length → lt (kd L x) (t, r) = false) := fun x hx hl => by
          by_cases e : x = j
          · have h := hgo; unfold putGo at h; rw [Nat.add_sub_cancel] at h; simp at h; rw [e]; exact h
          · exact HI.out x (by omega) hl
        clear HI
        clear hgo
        go_wp2_with fail
        go_roundw
        case rel => exact ⟨j, by omega, by go_num, HG, HB, HI2⟩
        case measure => first | (simp [intOf]; done) | (simp [intOf]; omega)
      | false =>
        have H1 : Hid (∀ x, x < k → lt (kd L x) (t, r) = true) := lt_up HR.out (by have := HL.out.len; omega) hgo
        clear hgo
        go_wp2_with fail
        go_cut [35] (fun x wx => x = .bool (decide ((t, r) ∈ L)) ∧ Hid (Grew w wx) ∧ Hid (Box wx B0 t r))
        case first =>
          by_cases hlt : k < n
          · obtain ⟨bb, off, e, g1c, g2c⟩ := (HL.out.kept HG.out.below).at k hlt
            subst e
            obtain ⟨q1c, q2c⟩ := HB.out
            have hl : k < L.length := by have := HL.out.len; omega
            have HE : Hid ((cmp (t, r) (kd L k) == 0) = decide ((t, r) ∈ L)) := mem_put HR.out hl H1.out (HI.out k (Nat.le_refl _) hl)
            generalize kd L k = x at *
            obtain ⟨x1, x2⟩ := x
            simp only at g1c g2c
            have HCm : Hid (∀ w, Calls Tryz.prog 63 #[.agg #[.int .i64 t, .int .i64 r], .agg #[.int .i64 x1, .int .i64 x2]] w fun e w' => e = .returned (.int .i64 (cmp (t, r) (x1, x2))) ∧ ∃ q os, w' = grow (w.drewN q) os) := fun w => refCompare_any w _ _ _ _
            generalize cmp (t, r) (x1, x2) = c at *
            have g1 : ∀ n os, (grow (wc.drewN n) os).cell? ⟨bb, off + k * 2, none⟩ = some (.int .i64 x1) := fun n os => Grew.cell ⟨n, os, rfl⟩ g1c
            have g2 : ∀ n os, (grow (wc.drewN n) os).cell? ⟨bb, off + k * 2 + 1, none⟩ = some (.int .i64 x2) := fun n os => Grew.cell ⟨n, os, rfl⟩ g2c
            have q1 : ∀ n os, (grow (wc.drewN n) os).cell? ⟨B0, 0, none⟩ = some (.int .i64 t) := fun n os => Grew.cell ⟨n, os, rfl⟩ q1c
            have q2 : ∀ n os, (grow (wc.drewN n) os).cell? ⟨B0, 1, none⟩ = some (.int .i64 r) := fun n os => Grew.cell ⟨n, os, rfl⟩ q2c
            have hk1 : decide ((k : Int) < (n : Int)) = true := by simp; omega
            have hk2 : decide (k < n) = true := by simp; omega
            clear g1c g2c q1c q2c hl
            refine wp_region_quiet_grown mx (by kernel_rfl) ?_
            repeat (go_big_quiet_step ((go_at_call 63; exact Calls.grown_of (HCm.out _))))
            refine wpQuiet_nil ?_
            intro _ hw'
            obtain ⟨⟨nq, osq⟩, hw''⟩ := hw'
            subst hw''
            have HG2 : Hid (Grew w (grow (wc.drewN nq) osq)) := HG.out.trans ⟨_, _, rfl⟩
            have HB2 : Hid (Box (grow (wc.drewN nq) osq) B0 t r) := HB.out.grew ⟨_, _, rfl⟩
            generalize grow (wc.drewN nq) osq = W2 at *
            go_wp2_with fail
            go_meet
            exact ⟨by rw [← HE.out], HG2, HB2⟩
          · have HE : Hid (decide ((t, r) ∈ L) = false) := decide_eq_false (find_end (fun x hx => H1.out x (by have := HL.out.len; omega))).2
            have hk1 : decide ((k : Int) < (n : Int)) = false := by simp; omega
            have hk2 : decide (k < n) = false := by simp; omega
            refine wp_region_quiet_grown mx (by kernel_rfl) ?_
            repeat (go_big_quiet_step (fail))
            refine wpQuiet_nil ?_
            intro _ hw'
            obtain ⟨⟨nq, osq⟩, hw''⟩ := hw'
            subst hw''
            have HG2 : Hid (Grew w (grow (wc.drewN nq) osq)) := HG.out.trans ⟨_, _, rfl⟩
            have HB2 : Hid (Box (grow (wc.drewN nq) osq) B0 t r) := HB.out.grew ⟨_, _, rfl⟩
            generalize grow (wc.drewN nq) osq = W2 at *
            go_wp2_with fail
            go_meet
            exact ⟨by rw [HE.out], HG2, HB2⟩
        case rest =>
          clear HG HB
          obtain ⟨h35, HG, HB⟩ := hcut
          subst h35
          by_cases hmem : (t, r) ∈ L
          · have HP : Hid (put L (t, r) = L) := if_pos hmem
            rw [decide_eq_true hmem]
            clear hmem
            go_wp2
            go_ret
            exact ⟨_, rfl, .inl ⟨rfl, HP.out⟩, HG.out.below⟩
          · have HP : Hid (put L (t, r) = L.take k ++ [(t, r)] ++ L.drop k) := put_at (by have := HL.out.len; omega) H1.out HI.out hmem
            rw [decide_eq_false hmem]
            have HLw : Hid (Lst wc ao n cap L) := HL.out.kept HG.out.below
            have HN : Hid (n = L.length) := HL.out.len
            have hbw : w.heap.size ≤ wc.heap.size := HG.out.size
            clear hmem HI H1
            cases ao with
            | none =>
              have h0 : L = [] := by
                rcases HL.out.at_ with h1 | ⟨b, off, h1, _⟩
                · exact h1
                · cases h1
              have hn0 : n = 0 := by rw [HN.out, h0]; rfl
              have hc0 : cap = 0 := HL.out.nil rfl
              subst hn0 hc0
              obtain hk0 : 0 = k := by omega
              subst hk0
              subst h0
              have HP0 : Hid (put [] (t, r) = [(t, r)]) := by rw [HP.out]; rfl
              obtain ⟨k1, k2⟩ := HB.out
              clear HP HLw HL HN
              go_wp2_with (first | (at_builtin; refine wpList_append_keys rfl _ _ rfl w.heap.size v2 [(t, r)] rfl HO2.out.1 none 0 0 [] rfl rfl (.inl rfl) (fun _ => rfl) (by simp) hbw2 ?_; intro v3 w3 h3 hg3 _; have HO3 : Hid (OwnK w3 w.heap.size v3 [(t, r)] ∧ Below w.heap.size wc w3) := ⟨by simpa using h3, HO2.out.2.trans (grown_below hg3 (fun k hk => (HO2.out.1.lt k hk).1) hbw2)⟩; clear h3 hg3) | (at_builtin; refine wpList_append_keys rfl _ _ rfl w.heap.size (.slice none 0 0) [] rfl (OwnK.nil _ _) _ _ _ [(t, r)] rfl rfl (key_src wc _ t r rfl) (by simp) (by simp) (by simp only [World.size_alloc]; omega) ?_; intro v2 w2 h2 hg2 _; have HO2 : Hid (OwnK w2 w.heap.size v2 [(t, r)] ∧ Below w.heap.size wc w2) := ⟨by simpa using h2, ((Below.refl _ wc).alloc hbw _).trans (grown_below hg2 (fun k hk => by cases hk) (by simp only [World.size_alloc]; omega))⟩; have hbw2 : w.heap.size ≤ w2.heap.size := Nat.le_trans hbw HO2.out.2.size; clear h2 hg2))
              go_ret
              exact ⟨_, rfl, .inr (HP0.out ▸ HO3.out.1), HG.out.below.trans HO3.out.2⟩
            | some a =>
              obtain ⟨bb, off, sp⟩ := a
              obtain rfl : sp = none := HF.out _ rfl
              have HT : Hid (k = (L.take k).length ∧ KeysAt wc (some ⟨bb, off, none⟩) (L.take k)) := ⟨by have := HN.out; simp; omega, HLw.out.at_.take k⟩
              have HlW : Hid (∀ W, Below w.heap.size wc W → KeysAt W (some ⟨bb, off, none⟩) L) := fun W hb => HL.out.at_.kept (HG.out.below.trans hb)
              by_cases hcp : k = cap
              · obtain hc1 : cap = k := hcp.symm
                obtain hc2 : n = k := by omega
                subst hc1
                subst hc2
                have HD : Hid (0 = (L.drop n).length ∧ ∀ W, Below w.heap.size wc W → KeysAt W (some ⟨bb, off, none⟩) (L.drop n)) := ⟨by have := HN.out; simp; omega, fun W _ => .inl (List.drop_eq_nil_of_le (by have := HN.out; omega))⟩
                clear hcp hk hnc
                go_wp2_with (first | (at_builtin; refine wpList_append_keys rfl _ _ rfl w.heap.size v2 (L.take n ++ [(t, r)]) rfl HO2.out.1 (some ⟨bb, off, none⟩) 0 0 (L.drop n) rfl HD.out.1 (HD.out.2 _ HO2.out.2) (by simp) (by rw [List.length_append, ← HT.out.1, ← HD.out.1]; simp; omega) hbw2 ?_; intro v3 w3 h3 hg3 _; have HO3 : Hid (OwnK w3 w.heap.size v3 (L.take n ++ [(t, r)] ++ L.drop n) ∧ Below w.heap.size wc w3) := ⟨h3, HO2.out.2.trans (grown_below hg3 (fun k hk => (HO2.out.1.lt k hk).1) hbw2)⟩; clear h3 hg3) | (at_builtin; refine wpList_append_keys rfl _ _ rfl w.heap.size v1 (L.take n) rfl (HO1.out.1.alloc _) _ _ _ [(t, r)] rfl rfl (key_src w1 _ t r rfl) (by simp) (by rw [← HT.out.1]; simp; omega) (by simp only [World.size_alloc]; omega) ?_; intro v2 w2 h2 hg2 _; have HO2 : Hid (OwnK w2 w.heap.size v2 (L.take n ++ [(t, r)]) ∧ Below w.heap.size wc w2) := ⟨h2, HO1.out.2.trans (((Below.refl _ w1).alloc hbw1 _).trans (grown_below hg2 (fun k hk => (HO1.out.1.lt k hk).1) (by simp only [World.size_alloc]; omega)))⟩; have hbw2 : w.heap.size ≤ w2.heap.size := Nat.le_trans hbw HO2.out.2.size; clear h2 hg2 k1 k2) | (at_builtin; refine wpList_append_keys rfl _ _ rfl w.heap.size (.slice none 0 0) [] rfl (OwnK.nil _ _) (some ⟨bb, off, none⟩) n n (L.take n) rfl HT.out.1 HT.out.2 (by simp) (by rw [← HT.out.1]; simp; omega) hbw ?_; intro v1 w1 h1 hg1 _; have HO1 : Hid (OwnK w1 w.heap.size v1 (L.take n) ∧ Below w.heap.size wc w1) := ⟨by simpa using h1, grown_below hg1 (fun k e => by cases e) hbw⟩; have hbw1 : w.heap.size ≤ w1.heap.size := Nat.le_trans hbw HO1.out.2.size; have k1 : w1.cell? ⟨B0, 0, none⟩ = some (.int .i64 t) := hg1.cell HB.out.1 (by simp [Value.ownBlock]); have k2 : w1.cell? ⟨B0, 1, none⟩ = some (.int .i64 r) := hg1.cell HB.out.2 (by simp [Value.ownBlock]); clear h1 hg1))
                go_ret
                exact ⟨_, rfl, .inr (HP.out ▸ HO3.out.1), HG.out.below.trans HO3.out.2⟩
              · have HD : Hid (n - k = (L.drop k).length ∧ ∀ W, Below w.heap.size wc W → KeysAt W (some ⟨bb, off + k * 2, none⟩) (L.drop k)) := ⟨by have := HN.out; simp; omega, fun W hb => (HlW.out W hb).drop k⟩
                go_wp2_with (first | (at_builtin; refine wpList_append_keys rfl _ _ rfl w.heap.size v2 (L.take k ++ [(t, r)]) rfl HO2.out.1 (some ⟨bb, off + k * 2, none⟩) (n - k) (cap - k) (L.drop k) rfl HD.out.1 (HD.out.2 _ HO2.out.2) (by simp) (by rw [List.length_append, ← HT.out.1, ← HD.out.1]; simp; omega) hbw2 ?_; intro v3 w3 h3 hg3 _; have HO3 : Hid (OwnK w3 w.heap.size v3 (L.take k ++ [(t, r)] ++ L.drop k) ∧ Below w.heap.size wc w3) := ⟨h3, HO2.out.2.trans (grown_below hg3 (fun k hk => (HO2.out.1.lt k hk).1) hbw2)⟩; clear h3 hg3) | (at_builtin; refine wpList_append_keys rfl _ _ rfl w.heap.size v1 (L.take k) rfl (HO1.out.1.alloc _) _ _ _ [(t, r)] rfl rfl (key_src w1 _ t r rfl) (by simp) (by rw [← HT.out.1]; simp; omega) (by simp only [World.size_alloc]; omega) ?_; intro v2 w2 h2 hg2 _; have HO2 : Hid (OwnK w2 w.heap.size v2 (L.take k ++ [(t, r)]) ∧ Below w.heap.size wc w2) := ⟨h2, HO1.out.2.trans (((Below.refl _ w1).alloc hbw1 _).trans (grown_below hg2 (fun k hk => (HO1.out.1.lt k hk).1) (by simp only [World.size_alloc]; omega)))⟩; have hbw2 : w.heap.size ≤ w2.heap.size := Nat.le_trans hbw HO2.out.2.size; clear h2 hg2 k1 k2) | (at_builtin; refine wpList_append_keys rfl _ _ rfl w.heap.size (.slice none 0 0) [] rfl (OwnK.nil _ _) (some ⟨bb, off, none⟩) k cap (L.take k) rfl HT.out.1 HT.out.2 (by simp) (by rw [← HT.out.1]; simp; omega) hbw ?_; intro v1 w1 h1 hg1 _; have HO1 : Hid (OwnK w1 w.heap.size v1 (L.take k) ∧ Below w.heap.size wc w1) := ⟨by simpa using h1, grown_below hg1 (fun k e => by cases e) hbw⟩; have hbw1 : w.heap.size ≤ w1.heap.size := Nat.le_trans hbw HO1.out.2.size; have k1 : w1.cell? ⟨B0, 0, none⟩ = some (.int .i64 t) := hg1.cell HB.out.1 (by simp [Value.ownBlock]); have k2 : w1.cell? ⟨B0, 1, none⟩ = some (.int .i64 r) := hg1.cell HB.out.2 (by simp [Value.ownBlock]); clear h1 hg1))
                go_ret
                exact ⟨_, rfl, .inr (HP.out ▸ HO3.out.1), HG.out.below.trans HO3.out.2⟩

end Go.Proofs.YtbmohlkcmhhpgaaGreat
/-
  THE WALK OF THE DOCUMENT's Sort.
-/
namespace Go.Proofs.YtbmohlkcmhhpgaaGreat
open Go.RowKit Go.Sort

set_option maxHeartbeats 2000000 in
set_option maxRecDepth 100000 in
theorem refSort_any (w : World) (ao : Option Addr) (cap n : Nat) (L : List K) (hn : n = L.length) (h : KeysAt w ao L) (hm : n * 16 ≤ 140737488355328) :
    Calls Tryz.prog 51 #[.slice ao n cap] w fun e w' => ((L.all isKey = true ∧ ∃ a m c, e = .returned (.tuple #[.slice a m c, .int .i64 0]) ∧ Hid (OwnK w' w.heap.size (.slice a m c) (sortK L))) ∨ (L.all isKey = false ∧ e = .returned (.tuple #[.slice none 0 0, .int .i64 20]))) ∧ Below w.heap.size w w' := by
  have HN : Hid (n = L.length) := hn
  have HK : Hid (KeysAt w ao L) := h
  clear hn h
  go_enter Tryz.func51, Tryz.ntmps51
  go_wp2_with fail
  refine (refAll_any w ao cap n L HN.out HK.out (by omega)).mono ?_
  rintro e w1 ⟨rfl, hg⟩
  have HG1 : Hid (Below w.heap.size w w1) := Grew.below hg
  clear hg
  cases hall : L.all isKey with
  | false =>
    have HX : Hid (L.all isKey = false) := hall
    clear hall
    go_wp2
    go_ret2
    exact ⟨.inr ⟨HX.out, rfl⟩, HG1.out⟩
  | true =>
    have HX : Hid (L.all isKey = true) := hall
    have HAll : Hid (∀ k ∈ L, isKey k = true) := List.all_eq_true.1 hall
    clear hall
    go_wp2_with fail
    go_loopw [6, 5] (fun x y wr => ∃ (k m c : Nat) (a : Option Addr), k ≤ n ∧ x = .int .i64 (k : Int) ∧ y = .slice a m c ∧ Hid (OwnK wr w.heap.size (.slice a m c) (sortK (L.take k))) ∧ Hid (Below w.heap.size w wr)) (fun x _ _ => n - (intOf x).toNat)
    case atStart => exact ⟨0, 0, 0, none, Nat.zero_le _, rfl, rfl, OwnK.nil _ _, HG1⟩
    case round =>
      clear HG1
      obtain ⟨k, m, c, a, hk, rfl, rfl, HO, HB⟩ := hrel
      by_cases hlt : k < n
      · have hl : k < L.length := by have := HN.out; omega
        rcases HK.out.kept HB.out with h0 | ⟨bb, off, rfl, hc⟩
        · rw [h0] at hl; simp at hl
        · obtain ⟨c1, c2⟩ := KeysAt.at hc k hl
          have HS : Hid (sortK (L.take (k + 1)) = put (sortK (L.take k)) (kd L k)) := by rw [take_kd L k hl, sortK_snoc]; rfl
          have HR : Hid (Rise (sortK (L.take k))) := sortK_rise fun x hx => HAll.out x (List.mem_of_mem_take hx)
          have hml : m ≤ k := by
            obtain ⟨a', m', c', e, hl', _⟩ := HO.out.lst
            cases e
            have h1 := sortK_length (L.take k)
            rw [← hl'.len] at h1
            simp at h1; omega
          generalize kd L k = kk at *
          obtain ⟨t, r⟩ := kk
          simp only at c1 c2
          clear hc hl
          go_wp2_with fail
          obtain ⟨a', m', c', e, hl', hf'⟩ := HO.out.lst
          cases e
          refine (refPut_any wr a m c _ t r hl' hf' HR.out (by omega)).mono ?_
          rintro e w2 ⟨v, rfl, hv, hb⟩
          have HB2 : Hid (Below w.heap.size w w2) := HB.out.trans (hb.mono HB.out.size)
          have HO2 : Hid (OwnK w2 w.heap.size v (sortK (L.take (k + 1)))) := by
            rw [HS.out]
            rcases hv.out with ⟨rfl, hp⟩ | ho
            · rw [hp]; exact HO.out.kept hb
            · exact ho.mono HB.out.size
          obtain ⟨a2, m2, c3, hv2, _, _⟩ := HO2.out.lst
          subst hv2
          clear hl' hf' hv hb HO
          go_wp2_with fail
          go_roundw
          case rel => exact ⟨k + 1, m2, c3, a2, by omega, by go_num, rfl, HO2, HB2⟩
          case measure => simp [intOf]; omega
      · obtain rfl : k = n := by omega
        have HE : Hid (OwnK wr w.heap.size (.slice a m c) (sortK L)) := by have := HO.out; rwa [HN.out, List.take_length] at this
        clear HO
        go_wp2
        go_ret2
        exact ⟨.inl ⟨HX.out, a, m, c, rfl, HE⟩, HB.out⟩

theorem some_step (A B : List K) (inn : Bool) (k : Nat) (hk : k < A.length) : (A.take (k + 1)).filter (fun x => decide (x ∈ B) == inn) = (A.take k).filter (fun x => decide (x ∈ B) == inn) ++ (if decide (kd A k ∈ B) == inn then [kd A k] else []) := by
  rw [take_kd A k hk, List.filter_append]
  congr 1
  cases h : (decide (kd A k ∈ B) == inn) <;> simp [h]

end Go.Proofs.YtbmohlkcmhhpgaaGreat
/-
  THE DOCUMENT'S Versions, Keys.
-/
namespace Go.Proofs.YtbmohlkcmhhpgaaGreat
open Go.RowKit Go.Sort

theorem ofV_take {k : K} {all : List V4} {i : Nat} (hi : i < all.length) : plk (ofV k (all.take (i + 1))) = if all[i].1 = k then plk (ofV k (all.take i)) ++ [all[i].2] else plk (ofV k (all.take i)) := by
  rw [List.take_succ_eq_append_getElem hi, ofV_append]
  by_cases h : all[i].1 = k
  · rw [if_pos h]
    simp [ofV, plk, h]
  · rw [if_neg h]
    simp [ofV, plk, h]
def RVsPost (w : World) (n : Nat) (L : List K) (e : Ending) (w' : World) : Prop := ∃ a c, e = .returned (.slice a n c) ∧ n = L.length ∧ w'.ownsRow w.heap.size 99 2 (.slice a n c) n (cks L) ∧ Below w.heap.size w w'
set_option maxRecDepth 100000 in
set_option maxHeartbeats 2000000 in
theorem rversions_any (w : World) (base R : Nat) (room last low : Int) (av pv : Value) (all : List V4) (pins : List (Int × Int)) (h : RB w base R room last low av pv all pins) (hl : all.length ≤ 65536) (k : K) :
    Calls Tryz.prog 32 #[ptr R, kv k] w fun e w' => RVsPost w (ofV k all).length (plk (ofV k all)) e w' := by
  obtain ⟨k1, k2⟩ := k
  obtain ⟨aa, an, ac, hav, han⟩ := rowOpenD h.ra
  obtain ⟨W1, hW1⟩ : ∃ W1, W1 = w.alloc (.cells #[.int .i64 k1, .int .i64 k2] 43) := ⟨_, rfl⟩
  obtain ⟨g, hg⟩ : ∃ g, g = w.heap.size := ⟨_, rfl⟩
  have HB1 : Hid (Below w.heap.size w W1) := by rw [hW1]; exact (Below.refl _ _).alloc (Nat.le_refl _) _
  have hgb : W1.heap[g]? = some (.cells #[.int .i64 k1, .int .i64 k2] 43 (0, 0)) := by rw [hW1, hg]; exact heap_alloc_new _ _ rfl
  have h1 := h.kept HB1.out
  have HCl : Hid (∀ W, Below W1.heap.size W1 W → W.cell? ⟨g, 0, none⟩ = some (.int .i64 k1) ∧ W.cell? ⟨g, 1, none⟩ = some (.int .i64 k2) ∧ W.cell? ⟨R, 3, none⟩ = some (.slice aa an ac) ∧ CsAt W.heap.size W aa (v4s all)) := fun W hW => by
    have h4 : W.heap[g]? = _ := (hW.block _ (blk_lt hgb)).trans hgb
    have h5 := h1.kept hW
    have h6 := h5.cells.2.2.2.1
    have h7 := h5.ra
    rw [hav] at h6 h7
    exact ⟨by simp [World.cell?, h4], by simp [World.cell?, h4], h6, (rowCs h7).2.1⟩
  have HN := hidC han
  have han2 : an ≤ 65536 := by omega
  clear h h1 han hl hgb hav
  simp only [kv]
  go_enter Tryz.func32, Tryz.ntmps32
  go_wp2_with fail
  rw [← hW1, ← hg]
  clear hW1 hg
  go_loopw [5, 6] (fun x y wr => ∃ (i m : Nat) (a : Option Addr) (c : Nat), i ≤ an ∧ m ≤ i ∧ x = .slice a m c ∧ y = .int .i64 (i : Int) ∧ Hid (m = (plk (ofV (k1, k2) (all.take i))).length ∧ wr.ownsRow W1.heap.size 99 2 (.slice a m c) (plk (ofV (k1, k2) (all.take i))).length (cks (plk (ofV (k1, k2) (all.take i)))) ∧ Below W1.heap.size W1 wr)) (fun _ y _ => an - (intOf y).toNat)
  case atStart => exact ⟨0, 0, none, 0, Nat.zero_le _, Nat.le_refl _, rfl, rfl, by simp [ofV, plk], by simpa [ofV, plk, cks] using World.ownsRow_nil _ _ _ _, Below.refl _ _⟩
  case round =>
    obtain ⟨i, m, a, c, hi, hmi, rfl, rfl, HX⟩ := hrel
    obtain ⟨g0, g1, c3, hcs⟩ := HCl.out wr HX.out.2.2
    by_cases hlt : i < an
    · have hil : i < all.length := by have := HN.out; omega
      obtain ⟨vb, vo, hva, e0, e1, e2, e3⟩ := hcs.ver hil
      subst hva
      have HSt := hidC (ofV_take (k := (k1, k2)) hil)
      have HCl2 : Hid (∀ W, Below wr.heap.size wr W → W.cell? ⟨R, 3, none⟩ = some (.slice (some ⟨vb, vo, none⟩) an ac) ∧ W.cell? ⟨vb, vo + i * 4 + 2, none⟩ = some (.int .i64 all[i].2.1) ∧ W.cell? ⟨vb, vo + i * 4 + 3, none⟩ = some (.int .i64 all[i].2.2)) := fun W hW => ⟨(hW.cell (p := ⟨R, 3, none⟩) (cell_lt c3)).trans c3, (hW.cell (p := ⟨vb, vo + i * 4 + 2, none⟩) (cell_lt e2)).trans e2, (hW.cell (p := ⟨vb, vo + i * 4 + 3, none⟩) (cell_lt e3)).trans e3⟩
      generalize all[i] = v at *
      obtain ⟨⟨x1, x2⟩, y1, y2⟩ := v
      simp only at e0 e1 e2 e3 HSt HCl2
      have hgd := fun op x y => run_eqGuard op x y x1 x2 k1 k2
      have hq := run_eqKey x1 x2 k1 k2
      clear hcs
      by_cases hk : (x1, x2) = (k1, k2)
      · rw [decide_eq_true hk] at hq
        rw [if_pos hk] at HSt
        clear hk
        go_wp2_with fail
        go_quiet (fail)
        have HBq : Hid (Below wr.heap.size wr (wr.drewN nq)) := drew_below wr nq
        have HOq : Hid ((wr.drewN nq).ownsRow W1.heap.size 99 2 (.slice a m c) (plk (ofV (k1, k2) (all.take i))).length (cks (plk (ofV (k1, k2) (all.take i))))) := rowSame HX.out.2.1 (fun g hg => HBq.out.block g (World.ownsRow.lt HX.out.2.1 g hg).2)
        have HBw : Hid (Below W1.heap.size W1 (wr.drewN nq)) := HX.out.2.2.trans (HBq.out.mono HX.out.2.2.size)
        obtain ⟨z3, z4, z5⟩ := HCl2.out _ HBq.out
        clear e0 e1 e2 e3 g0 g1 c3 hq hgd HBq HCl2
        generalize wr.drewN nq = W2 at *
        have HApp : Hid (∀ ty, ∃ v' w', (Builtin.append_ #[78, 78] ty #[.slice a m c, .slice (some ⟨W2.heap.size, 0, none⟩) 1 1]).run Tryz.prog (W2.alloc (.cells #[.int .i64 y1, .int .i64 y2] 99)) = .ok v' w' ∧ (∃ a c, v' = .slice a (m + 1) c ∧ Hid (m + 1 = (plk (ofV (k1, k2) (all.take (i + 1)))).length ∧ w'.ownsRow W1.heap.size 99 2 (.slice a (m + 1) c) (plk (ofV (k1, k2) (all.take (i + 1)))).length (cks (plk (ofV (k1, k2) (all.take (i + 1))))) ∧ Below W1.heap.size W1 w'))) := fun ty => by
          obtain ⟨v', w', z1, z2, z3, z4, z5⟩ := akPl.app1 W2 ty W1.heap.size (.slice a m c) _ _ [.int .i64 y1, .int .i64 y2] HOq.out rfl (by intro u hu; simp at hu; rcases hu with rfl | rfl <;> rfl) (by have := HX.out.1; omega) (by omega) HBw.out.size
          obtain ⟨a', m', c', rfl, hm'⟩ := rowOpenD z3
          have hm3 : m' = m + 1 := by rw [hm', HX.out.1]
          subst hm3
          refine ⟨_, w', z1, a', c', rfl, by rw [HSt.out, List.length_append, ← HX.out.1]; rfl, ?_, HBw.out.trans (appBelow z4 HOq.out (Nat.le_refl _) HBw.out.size)⟩
          rw [HSt.out, cks_append, List.length_append]
          exact z3
        clear HX HSt HOq HBw
        go_wp2_with (at_builtin; refine wpL_appI rfl _ _ 78 rfl (.slice a m c) (.slice (some ⟨W2.heap.size, 0, none⟩) 1 1) rfl rfl HApp.out ?_; rintro v' w3 ⟨a3, c5, rfl, HZ⟩)
        clear HApp z3 z4 z5
        go_wp2
        exact ⟨⟨i + 1, m + 1, a3, c5, by omega, by omega, by first | rfl | simp, by go_num, HZ.out⟩, by simp [intOf]; omega⟩
      · rw [decide_eq_false hk] at hq
        rw [if_neg hk] at HSt
        clear hk
        go_wp2_with fail
        go_quiet (fail)
        have HBq : Hid (Below wr.heap.size wr (wr.drewN nq)) := drew_below wr nq
        have HZ : Hid (m = (plk (ofV (k1, k2) (all.take (i + 1)))).length ∧ (wr.drewN nq).ownsRow W1.heap.size 99 2 (.slice a m c) (plk (ofV (k1, k2) (all.take (i + 1)))).length (cks (plk (ofV (k1, k2) (all.take (i + 1))))) ∧ Below W1.heap.size W1 (wr.drewN nq)) := by
          rw [HSt.out]
          exact ⟨HX.out.1, rowSame HX.out.2.1 (fun g hg => HBq.out.block g (World.ownsRow.lt HX.out.2.1 g hg).2), HX.out.2.2.trans (HBq.out.mono HX.out.2.2.size)⟩
        clear HX HSt HCl2 HBq
        go_wp2
        exact ⟨⟨i + 1, m, a, c, by omega, by omega, rfl, by go_num, HZ.out⟩, by simp [intOf]; omega⟩
    · have HF : Hid (RVsPost w (ofV (k1, k2) all).length (plk (ofV (k1, k2) all)) (.returned (.slice a m c)) wr) := by
        have h3 := HX.out
        rw [List.take_of_length_le (by have := HN.out; omega)] at h3
        have e : (plk (ofV (k1, k2) all)).length = (ofV (k1, k2) all).length := by simp [plk]
        obtain ⟨h4, h5, h6⟩ := h3
        refine ⟨a, c, by rw [h4, e], e.symm, ?_, HB1.out.trans (h6.mono HB1.out.size)⟩
        have h7 := rowBaseD h5 HB1.out.size
        rw [h4, e] at h7
        exact h7
      clear HX hcs
      go_wp2
      go_ret
      exact HF.out
def RKsPost (w : World) (L : List K) (e : Ending) (w' : World) : Prop := ∃ a m c, e = .returned (.slice a m c) ∧ OwnK w' w.heap.size (.slice a m c) L ∧ Below w.heap.size w w'
set_option maxRecDepth 100000 in
set_option maxHeartbeats 2000000 in
theorem rkeys_any (w : World) (base R : Nat) (room last low : Int) (av pv : Value) (all : List V4) (pins : List (Int × Int)) (h : RB w base R room last low av pv all pins) (hl : all.length ≤ 65536) (hk : ∀ v ∈ all, isKey v.1 = true) :
    Calls Tryz.prog 29 #[ptr R] w fun e w' => RKsPost w (sortK (all.map Prod.fst)) e w' := by
  obtain ⟨aa, an, ac, hav, han⟩ := rowOpenD h.ra
  have HCl : Hid (∀ W, Below w.heap.size w W → W.cell? ⟨R, 3, none⟩ = some (.slice aa an ac) ∧ CsAt W.heap.size W aa (v4s all)) := fun W hW => by
    have h5 := h.kept hW
    have h6 := h5.cells.2.2.2.1
    have h7 := h5.ra
    rw [hav] at h6 h7
    exact ⟨h6, (rowCs h7).2.1⟩
  have HN := hidC (And.intro han hk)
  have han2 : an ≤ 65536 := by omega
  clear h han hl hav hk
  go_enter Tryz.func29, Tryz.ntmps29
  go_wp2_with fail
  go_loopw [3, 4] (fun x y wr => ∃ (i : Nat) (a : Option Addr) (c : Nat), i ≤ an ∧ x = .slice a i c ∧ y = .int .i64 (i : Int) ∧ Hid (OwnK wr w.heap.size (.slice a i c) ((all.map Prod.fst).take i) ∧ Below w.heap.size w wr)) (fun _ y _ => an - (intOf y).toNat)
  case atStart => exact ⟨0, none, 0, Nat.zero_le _, rfl, rfl, OwnK.nil _ _, Below.refl _ _⟩
  case round =>
    obtain ⟨i, a, c, hi, rfl, rfl, HX⟩ := hrel
    obtain ⟨c3, hcs⟩ := HCl.out wr HX.out.2
    by_cases hlt : i < an
    · have hil : i < all.length := by have := HN.out.1; omega
      obtain ⟨vb, vo, hva, e0, e1, _, _⟩ := hcs.ver hil
      subst hva
      have HTk : Hid ((all.map Prod.fst).take (i + 1) = (all.map Prod.fst).take i ++ [all[i].1]) := by
        show _ = _
        rw [List.take_succ_eq_append_getElem (by simpa using hil)]
        simp
      have hlen : ((all.map Prod.fst).take i).length = i := by simp; omega
      have HApp : Hid (∀ ty, ∃ v' w', (Builtin.append_ #[51, 51] ty #[.slice a i c, .slice (some ⟨wr.heap.size, 0, none⟩) 1 1]).run Tryz.prog (wr.alloc (.cells #[.int .i64 all[i].1.1, .int .i64 all[i].1.2] 43)) = .ok v' w' ∧ (∃ a c, v' = .slice a (i + 1) c ∧ Hid (OwnK w' w.heap.size (.slice a (i + 1) c) ((all.map Prod.fst).take (i + 1)) ∧ Below w.heap.size w w'))) := fun ty => by
        obtain ⟨v', w', z1, z2, z3, z4, z5⟩ := akKey.app1 wr ty w.heap.size (.slice a i c) _ _ [.int .i64 all[i].1.1, .int .i64 all[i].1.2] HX.out.1 rfl (by intro u hu; simp at hu; rcases hu with rfl | rfl <;> rfl) (by omega) (by omega) HX.out.2.size
        obtain ⟨a', m', c', rfl, hm'⟩ := rowOpenD z3
        have hm3 : m' = i + 1 := by rw [hm', hlen]
        subst hm3
        refine ⟨_, w', z1, a', c', rfl, ?_, HX.out.2.trans (appBelow z4 HX.out.1 (Nat.le_refl _) HX.out.2.size)⟩
        unfold OwnK
        rw [HTk.out, cks_append, List.length_append]
        exact z3
      clear hlen hcs
      generalize all[i].1 = kk at *
      obtain ⟨k1, k2⟩ := kk
      simp only at e0 e1 HApp
      clear HX HTk
      go_wp2_with (at_builtin; refine wpL_appI rfl _ _ 51 rfl (.slice a i c) (.slice (some ⟨wr.heap.size, 0, none⟩) 1 1) rfl rfl HApp.out ?_; rintro v' w3 ⟨a3, c5, rfl, HZ⟩)
      clear HApp e0 e1 c3
      go_wp2
      exact ⟨⟨i + 1, a3, c5, by omega, by first | rfl | simp, by go_num, HZ.out⟩, by simp [intOf]; omega⟩
    · have hie : i = an := by omega
      subst hie
      have hO : OwnK wr w.heap.size (.slice a i c) (all.map Prod.fst) := by
        have h3 := HX.out.1
        rw [List.take_of_length_le (by simp; have := HN.out.1; omega)] at h3
        exact h3
      obtain ⟨a', c', he, hka, _, _⟩ := hO.slice
      simp only [Value.slice.injEq] at he
      have e1 := he.1
      subst e1
      have HSo := hidC (refSort_any wr a c i (all.map Prod.fst) (by simp; exact HN.out.1) hka (by omega))
      have HAk : Hid ((all.map Prod.fst).all isKey = true) := by
        show _ = _
        rw [List.all_eq_true]
        intro x hx
        obtain ⟨v, hv, rfl⟩ := List.mem_map.1 hx
        exact HN.out.2 v hv
      have HBw := hidC HX.out.2
      clear HX hcs hO he hka
      go_wp2_with fail
      refine HSo.out.mono ?_
      rintro e W2 ⟨⟨_, a2, m2, c2, rfl, HO⟩ | ⟨hno, _⟩, hb⟩
      · have HF : Hid (RKsPost w (sortK (all.map Prod.fst)) (.returned (.slice a2 m2 c2)) W2) := ⟨a2, m2, c2, rfl, HO.out.mono HBw.out.size, HBw.out.trans (hb.mono HBw.out.size)⟩
        clear HO hb
        go_wp2
        go_ret
        exact HF.out
      · rw [HAk.out] at hno
        cases hno
end Go.Proofs.YtbmohlkcmhhpgaaGreat
