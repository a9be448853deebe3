/-
  THE WALKS OF THE DOCUMENT's Find AND both.
-/
import Derived.Test.YtnjgaibcpcpmcabKRefSet2
namespace Go.Proofs.Ytnjgaibcpcpmcab
open Go.RowKit Go.Sort

theorem find_at {L : List K} {k : K} {m : Nat} (hr : Rise L) (hm : m < L.length) (h1 : ∀ x, x < m → lt (kd L x) k = true) (h2 : lt (kd L m) k = false) : cnt L k = m ∧ (k ∈ L ↔ kd L m = k) := by
  have h3 : ∀ x, m ≤ x → x < L.length → lt (kd L x) k = false := fun x hx hxl => by
    by_cases e : x = m
    · rw [e]; exact h2
    · cases h : lt (kd L x) k with
      | false => rfl
      | true => rw [lt_trans (rise_pair (i := m) (j := x) (by omega) hxl hr) h] at h2; cases h2
  refine ⟨cnt_eq (by omega) h1 h3, ?_, fun e => e ▸ kd_mem hm⟩
  intro hk
  obtain ⟨i, hi, he⟩ := List.mem_iff_getElem.1 hk
  have hg := kd_get hi
  rw [List.getElem?_eq_getElem hi, Option.some.injEq, he] at hg
  by_cases e1 : i < m
  · have := h1 i e1; rw [← hg, lt_irrefl] at this; cases this
  · by_cases e2 : i = m
    · rw [← e2]; exact hg.symm
    · have := rise_pair (i := m) (j := i) (by omega) hi hr
      rw [← hg, h2] at this; cases this
theorem find_end {L : List K} {k : K} (h1 : ∀ x, x < L.length → lt (kd L x) k = true) : cnt L k = L.length ∧ k ∉ L := by
  refine ⟨cnt_eq (Nat.le_refl _) h1 (fun x hx hxl => by omega), fun hk => ?_⟩
  obtain ⟨i, hi, he⟩ := List.mem_iff_getElem.1 hk
  have hg := kd_get hi
  rw [List.getElem?_eq_getElem hi, Option.some.injEq, he] at hg
  have := h1 i hi
  rw [← hg, lt_irrefl] at this; cases this

set_option maxHeartbeats 4000000 in
set_option maxRecDepth 100000 in
theorem refFind_any (w : World) (ao : Option Addr) (cap n : Nat) (L : List K) (t r : Int) (hn : n = L.length) (h : KeysAt w ao L) (hm : n ≤ 8796093022208) :
    Calls Try.prog 29 #[.slice ao n cap, .agg #[.int .i64 t, .int .i64 r]] w fun e w' => e = .returned (.tuple #[.int .i64 (findN L (t, r) : Int), .bool (findB L (t, r))]) ∧ ∃ q os, w' = grow (w.drewN q) os := by
  have mx := mixed
  have HN : Hid (n = L.length) := hn
  have HK : Hid (KeysAt w ao L) := h
  clear hn h
  go_enter Try.func29, Try.ntmps29
  go_wp2_with fail
  have HB0 : Hid (Box (w.alloc (.cells #[.int .i64 t, .int .i64 r] 28)) w.heap.size t r) := Box.new rfl
  have HG0 : Hid (Grew w (w.alloc (.cells #[.int .i64 t, .int .i64 r] 28))) := (Grew.refl _).alloc _
  generalize w.alloc (.cells #[.int .i64 t, .int .i64 r] 28) = W0 at *
  refine (refRises_any W0 ao cap n L HN.out (HK.out.grew HG0.out) hm).mono ?_
  rintro e w1 ⟨he, hg⟩
  have HG1 : Hid (Grew w w1) := HG0.out.trans hg
  have HB1 : Hid (Box w1 w.heap.size t r) := HB0.out.grew hg
  clear hg HG0 HB0
  obtain ⟨B0, hB0⟩ : ∃ b, b = w.heap.size := ⟨_, rfl⟩
  rw [← hB0] at HB1
  by_cases hr : Rise L
  case neg =>
    have HE : Hid (findN L (t, r) = 0 ∧ findB L (t, r) = false) := ⟨if_neg hr, by unfold findB; rw [decide_eq_false hr]; rfl⟩
    rw [decide_eq_false hr] at he
    subst he
    clear hr hB0
    go_wp2
    go_ret2
    exact ⟨by rw [HE.out.1, HE.out.2]; rfl, HG1.out⟩
  rw [decide_eq_true hr] at he
  subst he
  rw [← hB0]
  have HBW : Hid (B0 = w.heap.size) := hB0
  have HR : Hid (Rise L) := hr
  clear hr hB0
  go_wp2_with fail
  go_loopw [7] (fun x wr => ∃ k : Nat, k ≤ n ∧ x = .int .i64 (k : Int) ∧ Hid (Grew w wr) ∧ Hid (Box wr B0 t r) ∧ Hid (∀ x, x < k → lt (kd L x) (t, r) = true)) (fun x _ => n - (intOf x).toNat)
  case atStart => exact ⟨0, Nat.zero_le _, rfl, HG1, HB1, by intro x hx; omega⟩
  case round =>
    clear HG1 HB1
    obtain ⟨k, hk, rfl, HG, HB, HI⟩ := hrel
    by_cases hlt : k < n
    · have hl : k < L.length := by have := HN.out; omega
      rcases HK.out.grew HG.out with h0 | ⟨bb, off, rfl, hc⟩
      · rw [h0] at hl; simp at hl
      · obtain ⟨g1c, g2c⟩ := KeysAt.at hc k hl
        obtain ⟨q1c, q2c⟩ := HB.out
        have HM : Hid (lt (kd L k) (t, r) = true → ∀ x, x < k + 1 → lt (kd L x) (t, r) = true) := fun h x hx => by
          by_cases e : x = k
          · rw [e]; exact h
          · exact HI.out x (by omega)
        have HF : Hid (lt (kd L k) (t, r) = false → findN L (t, r) = k ∧ ((cmp (kd L k) (t, r) == 0) = findB L (t, r))) := fun h => by
          obtain ⟨h1, h2⟩ := find_at HR.out hl HI.out h
          refine ⟨(if_pos HR.out).trans h1, ?_⟩
          unfold findB
          rw [decide_eq_true HR.out, Bool.true_and]
          have h3 := cmp_zero (kd L k) (t, r)
          by_cases h4 : kd L k = (t, r)
          · rw [decide_eq_true (h2.2 h4)]; simpa using h3.2 h4
          · rw [decide_eq_false (fun h => h4 (h2.1 h))]; have := mt h3.1 h4; simpa using this
        have HD : Hid (decide (cmp (kd L k) (t, r) < 0) = lt (kd L k) (t, r)) := by rw [Hid]; have := cmp_neg (kd L k) (t, r); cases h : lt (kd L k) (t, r) <;> simp [h] at this ⊢ <;> omega
        generalize kd L k = x at *
        obtain ⟨x1, x2⟩ := x
        simp only at g1c g2c
        have HCm : Hid (∀ w, Calls Try.prog 45 #[.agg #[.int .i64 x1, .int .i64 x2], .agg #[.int .i64 t, .int .i64 r]] w fun e w' => e = .returned (.int .i64 (cmp (x1, x2) (t, r))) ∧ ∃ q os, w' = grow (w.drewN q) os) := fun w => refCompare_any w _ _ _ _
        generalize cmp (x1, x2) (t, r) = c at *
        have g1 : ∀ n os, (grow (wr.drewN n) os).cell? ⟨bb, off + k * 2, none⟩ = some (.int .i64 x1) := fun n os => Grew.cell ⟨n, os, rfl⟩ g1c
        have g2 : ∀ n os, (grow (wr.drewN n) os).cell? ⟨bb, off + k * 2 + 1, none⟩ = some (.int .i64 x2) := fun n os => Grew.cell ⟨n, os, rfl⟩ g2c
        have q1 : ∀ n os, (grow (wr.drewN n) os).cell? ⟨B0, 0, none⟩ = some (.int .i64 t) := fun n os => Grew.cell ⟨n, os, rfl⟩ q1c
        have q2 : ∀ n os, (grow (wr.drewN n) os).cell? ⟨B0, 1, none⟩ = some (.int .i64 r) := fun n os => Grew.cell ⟨n, os, rfl⟩ q2c
        have hk1 : decide ((k : Int) < (n : Int)) = true := by simp; omega
        have hk2 : decide (k < n) = true := by simp; omega
        cases hcl : lt (x1, x2) (t, r) with
        | true =>
          have HM2 : Hid (∀ x, x < k + 1 → lt (kd L x) (t, r) = true) := HM.out hcl
          have hd : decide (c < 0) = true := HD.out.trans hcl
          have HB2 : Hid (∀ n os, Box (grow (wr.drewN n) os) B0 t r) := fun n os => HB.out.grew ⟨n, os, rfl⟩
          clear HM HF HD hcl HI hc hl g1c g2c q1c q2c
          go_wp2_with fail
          refine wp_region_quiet_grown mx (by kernel_rfl) ?_
          repeat (go_big_quiet_step ((go_at_call 45; exact Calls.grown_of (HCm.out _))))
          refine wpQuiet_nil ?_
          intro _ hw'
          obtain ⟨⟨nq, osq⟩, hw''⟩ := hw'
          subst hw''
          have HG2 : Hid (Grew w (grow (wr.drewN nq) osq)) := HG.out.trans ⟨_, _, rfl⟩
          have HB3 : Hid (Box (grow (wr.drewN nq) osq) B0 t r) := HB2.out nq osq
          generalize grow (wr.drewN nq) osq = W2 at *
          go_wp2_with fail
          go_roundw
          case rel => exact ⟨k + 1, by omega, by go_num, HG2, HB3, HM2⟩
          case measure => simp [intOf]; omega
        | false =>
          obtain ⟨hf1, hf2⟩ := HF.out hcl
          have HF1 : Hid (findN L (t, r) = k) := hf1
          have HF2 : Hid ((c == 0) = findB L (t, r)) := hf2
          have hd : decide (c < 0) = false := HD.out.trans hcl
          clear HM HF HD hcl HI hc hl g1c g2c q1c q2c hf1 hf2
          go_wp2_with fail
          refine wp_region_quiet_grown mx (by kernel_rfl) ?_
          repeat (go_big_quiet_step ((go_at_call 45; exact Calls.grown_of (HCm.out _))))
          refine wpQuiet_nil ?_
          intro _ hw'
          obtain ⟨⟨nq, osq⟩, hw''⟩ := hw'
          subst hw''
          have HG2 : Hid (Grew w (grow (wr.drewN nq) osq)) := HG.out.trans ⟨_, _, rfl⟩
          have g1c := g1 nq osq
          have g2c := g2 nq osq
          have q1c := q1 nq osq
          have q2c := q2 nq osq
          clear g1 g2 q1 q2
          generalize grow (wr.drewN nq) osq = W2 at *
          have g1 : ∀ n os, (grow (W2.drewN n) os).cell? ⟨bb, off + k * 2, none⟩ = some (.int .i64 x1) := fun n os => Grew.cell ⟨n, os, rfl⟩ g1c
          have g2 : ∀ n os, (grow (W2.drewN n) os).cell? ⟨bb, off + k * 2 + 1, none⟩ = some (.int .i64 x2) := fun n os => Grew.cell ⟨n, os, rfl⟩ g2c
          have q1 : ∀ n os, (grow (W2.drewN n) os).cell? ⟨B0, 0, none⟩ = some (.int .i64 t) := fun n os => Grew.cell ⟨n, os, rfl⟩ q1c
          have q2 : ∀ n os, (grow (W2.drewN n) os).cell? ⟨B0, 1, none⟩ = some (.int .i64 r) := fun n os => Grew.cell ⟨n, os, rfl⟩ q2c
          clear g1c g2c q1c q2c
          go_wp2_with fail
          refine wp_region_quiet_grown mx (by kernel_rfl) ?_
          repeat (go_big_quiet_step ((go_at_call 45; exact Calls.grown_of (HCm.out _))))
          refine wpQuiet_nil ?_
          intro _ hw'
          obtain ⟨⟨nq, osq⟩, hw''⟩ := hw'
          subst hw''
          have HG3 : Hid (Grew w (grow (W2.drewN nq) osq)) := HG2.out.trans ⟨_, _, rfl⟩
          go_wp2
          go_ret2
          exact ⟨by rw [HF1.out, ← HF2.out]; rfl, HG3.out⟩
    · obtain rfl : k = n := by omega
      have HE : Hid (findN L (t, r) = k ∧ findB L (t, r) = false) := by
        obtain ⟨h1, h2⟩ := find_end (L := L) (k := (t, r)) (fun x hx => HI.out x (by have := HN.out; omega))
        refine ⟨(if_pos HR.out).trans (h1.trans HN.out.symm), ?_⟩
        unfold findB; rw [decide_eq_false h2, Bool.and_false]
      have hk1 : decide ((k : Int) < (k : Int)) = false := by simp
      clear HI hlt
      go_wp2_with fail
      refine wp_region_quiet_grown mx (by kernel_rfl) ?_
      repeat (go_big_quiet_step (fail))
      refine wpQuiet_nil ?_
      intro _ hw'
      obtain ⟨⟨nq, osq⟩, hw''⟩ := hw'
      subst hw''
      have HG2 : Hid (Grew w (grow (wr.drewN nq) osq)) := HG.out.trans ⟨_, _, rfl⟩
      generalize grow (wr.drewN nq) osq = W2 at *
      go_wp2_with fail
      refine wp_region_quiet_grown mx (by kernel_rfl) ?_
      repeat (go_big_quiet_step (fail))
      refine wpQuiet_nil ?_
      intro _ hw'
      obtain ⟨⟨nq, osq⟩, hw''⟩ := hw'
      subst hw''
      have HG3 : Hid (Grew w (grow (W2.drewN nq) osq)) := HG2.out.trans ⟨_, _, rfl⟩
      go_wp2
      go_ret2
      exact ⟨by rw [HE.out.1, HE.out.2]; rfl, HG3.out⟩

set_option maxHeartbeats 1000000 in
theorem both_any (w : World) (ao bo : Option Addr) (ca n cb m : Nat) (A B : List K) (hn : n = A.length) (h : KeysAt w ao A) (hm : n ≤ 8796093022208) (hn' : m = B.length) (h' : KeysAt w bo B) (hm' : m ≤ 8796093022208) :
    Calls Try.prog 50 #[.slice ao n ca, .slice bo m cb] w fun e w' => e = .returned (.bool (decide (Rise A ∧ Rise B))) ∧ ∃ q os, w' = grow (w.drewN q) os := by
  have HA : Hid (n = A.length ∧ KeysAt w ao A) := ⟨hn, h⟩
  have HB : Hid (m = B.length ∧ KeysAt w bo B) := ⟨hn', h'⟩
  clear hn h hn' h'
  go_enter Try.func50, Try.ntmps50
  go_wp2_with fail
  refine (refRises_any w ao ca n A HA.out.1 HA.out.2 hm).mono ?_
  rintro e w1 ⟨rfl, hg⟩
  have HG1 : Hid (Grew w w1) := hg
  clear hg
  go_wp2_with fail
  refine (refRises_any w1 bo cb m B HB.out.1 (HB.out.2.grew HG1.out) hm').mono ?_
  rintro e w2 ⟨rfl, hg⟩
  have HG2 : Hid (Grew w w2) := HG1.out.trans hg
  clear hg
  have HE : Hid (decide (Rise A ∧ Rise B) = (decide (Rise A) && decide (Rise B))) := by rw [Hid]; by_cases h1 : Rise A <;> by_cases h2 : Rise B <;> simp [h1, h2]
  generalize decide (Rise A) = b1 at *
  generalize decide (Rise B) = b2 at *
  cases b1 <;> cases b2
  all_goals
    go_wp2
    go_ret
    exact ⟨by rw [HE.out]; rfl, HG2.out⟩

end Go.Proofs.Ytnjgaibcpcpmcab
