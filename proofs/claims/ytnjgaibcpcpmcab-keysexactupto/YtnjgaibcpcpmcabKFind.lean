/-
  THE WALKS OF slices.BinarySearchFunc AND Find.
-/
import Derived.Test.YtnjgaibcpcpmcabKRises
namespace Go.Proofs.Ytnjgaibcpcpmcab
open Go.RowKit Go.Sort

/-- how many are below a key -/
def cnt (L : List K) (k : K) : Nat := (L.filter fun x => lt x k).length
theorem cnt_eq {L : List K} {k : K} {i : Nat} (hi : i ≤ L.length) (h1 : ∀ x, x < i → lt (kd L x) k = true) (h2 : ∀ x, i ≤ x → x < L.length → lt (kd L x) k = false) : cnt L k = i := by
  have e : L.filter (fun x => lt x k) = L.take i := by
    have hs := List.take_append_drop i L
    have ht : (L.take i).filter (fun x => lt x k) = L.take i := by
      rw [List.filter_eq_self]
      intro a ha
      obtain ⟨j, hj, he⟩ := List.mem_iff_getElem.1 ha
      have hj' : j < i := by simp at hj; omega
      have := h1 j hj'
      rw [List.getElem_take] at he
      have hg := kd_get (L := L) (j := j) (by simp at hj; omega)
      rw [List.getElem?_eq_getElem (by simp at hj; omega), Option.some.injEq, he] at hg
      rw [hg]; exact this
    have hd : (L.drop i).filter (fun x => lt x k) = [] := by
      rw [List.filter_eq_nil_iff]
      intro a ha
      obtain ⟨j, hj, he⟩ := List.mem_iff_getElem.1 ha
      have hjl : i + j < L.length := by simp at hj; omega
      have := h2 (i + j) (by omega) hjl
      rw [List.getElem_drop] at he
      have hg := kd_get hjl
      rw [List.getElem?_eq_getElem hjl, Option.some.injEq, he] at hg
      rw [hg, this]; decide
    calc L.filter (fun x => lt x k) = (L.take i ++ L.drop i).filter (fun x => lt x k) := by rw [hs]
      _ = L.take i := by rw [List.filter_append, ht, hd, List.append_nil]
  unfold cnt
  rw [e, List.length_take]; omega
theorem mem_at {L : List K} {k : K} {i : Nat} (hi : i ≤ L.length) (h1 : ∀ x, x < i → lt (kd L x) k = true) (h2 : ∀ x, i ≤ x → x < L.length → lt (kd L x) k = false) (hr : Rise L) : k ∈ L ↔ i < L.length ∧ kd L i = k := by
  constructor
  · intro hk
    obtain ⟨j, hj, he⟩ := List.mem_iff_getElem.1 hk
    have hg := kd_get hj
    rw [List.getElem?_eq_getElem hj, Option.some.injEq, he] at hg
    have hij : i ≤ j := by
      rcases Nat.lt_or_ge j i with h | h
      · have := h1 j h; rw [← hg, lt_irrefl] at this; cases this
      · exact h
    by_cases hij2 : i = j
    · subst hij2; exact ⟨hj, hg.symm⟩
    · have := rise_pair (i := i) (j := j) (by omega) hj hr
      rw [← hg, h2 i (Nat.le_refl _) (by omega)] at this; cases this
  · rintro ⟨h, rfl⟩; exact kd_mem h

set_option maxHeartbeats 4000000 in
set_option maxRecDepth 100000 in
theorem search_any (w : World) (ao : Option Addr) (cap n : Nat) (L : List K) (t r : Int) (hn : n = L.length) (h : KeysAt w ao L) (hr : Rise L) (hm : n ≤ 8796093022208) :
    Calls Try.prog 47 #[.slice ao n cap, .agg #[.int .i64 t, .int .i64 r], .func (.func 20) #[] #[]] w fun e w' => e = .returned (.tuple #[.int .i64 (cnt L (t, r) : Int), .bool (decide ((t, r) ∈ L))]) ∧ ∃ q os, w' = grow (w.drewN q) os := by
  have mx := mixed
  have HN : Hid (n = L.length) := hn
  have HK : Hid (KeysAt w ao L) := h
  have HR : Hid (Rise L) := hr
  have eg : ∀ args w, (callFunc 20 args).run Try.prog w = .ok (.enter 20 args) w := enters_of Try.func20 (by kernel_rfl) rfl
  clear hn h hr
  go_enter Try.func47, Try.ntmps47
  go_wp2_with fail
  have HB0 : Hid (Box (w.alloc (.cells #[.int .i64 t, .int .i64 r] 28)) w.heap.size t r) := Box.new rfl
  have HG0 : Hid (Grew w (w.alloc (.cells #[.int .i64 t, .int .i64 r] 28))) := (Grew.refl _).alloc _
  generalize w.alloc (.cells #[.int .i64 t, .int .i64 r] 28) = W0 at *
  go_loopw [9, 10, 11] (fun x y _ wr => ∃ i j : Nat, i ≤ j ∧ j ≤ n ∧ x = .int .i64 (i : Int) ∧ y = .int .i64 (j : Int) ∧ Hid ((∀ x, x < i → lt (kd L x) (t, r) = true) ∧ ∀ x, j ≤ x → x < L.length → lt (kd L x) (t, r) = false) ∧ Hid (Grew W0 wr)) (fun x y _ _ => (intOf y).toNat - (intOf x).toNat)
  case atStart => exact ⟨0, n, Nat.zero_le _, Nat.le_refl _, rfl, rfl, ⟨fun x hx => absurd hx (by omega), fun x h1 h2 => by have := HN.out; omega⟩, Grew.refl _⟩
  case round =>
    obtain ⟨i, j, hij, hjn, rfl, rfl, HI, HG⟩ := hrel
    have hb1 : ∀ n os, (grow (wr.drewN n) os).cell? ⟨w.heap.size, 0, none⟩ = some (.int .i64 t) := fun n os => Grew.cell ⟨n, os, rfl⟩ (HG.out.cell HB0.out.1)
    have hb2 : ∀ n os, (grow (wr.drewN n) os).cell? ⟨w.heap.size, 1, none⟩ = some (.int .i64 r) := fun n os => Grew.cell ⟨n, os, rfl⟩ (HG.out.cell HB0.out.2)
    by_cases hlt : i < j
    · obtain ⟨m, hm1⟩ : ∃ m, m = (i + j) / 2 := ⟨_, rfl⟩
      have hml : m < L.length := by have := HN.out; omega
      rcases HK.out.grew (HG0.out.trans HG.out) with h0 | ⟨b, off, rfl, hc⟩
      · rw [h0] at hml; simp at hml
      · obtain ⟨c1, c2⟩ := KeysAt.at hc m hml
        have HLo : Hid (lt (kd L m) (t, r) = true → ∀ x, x < m + 1 → lt (kd L x) (t, r) = true) := fun h x hx => by
          by_cases hxm : x = m
          · subst hxm; exact h
          · exact lt_trans (rise_pair (by omega) hml HR.out) h
        have HHi : Hid (lt (kd L m) (t, r) = false → ∀ x, m ≤ x → x < L.length → lt (kd L x) (t, r) = false) := fun h x hx hxl => by
          by_cases hxm : x = m
          · subst hxm; exact h
          · cases h2 : lt (kd L x) (t, r) with
            | false => rfl
            | true => have := lt_trans (rise_pair (i := m) (j := x) (by omega) hxl HR.out) h2; rw [h] at this; cases this
        have d1 : ∀ n os, (grow (wr.drewN n) os).cell? ⟨b, off + m * 2, none⟩ = some (.int .i64 (kd L m).1) := fun n os => Grew.cell ⟨n, os, rfl⟩ c1
        have d2 : ∀ n os, (grow (wr.drewN n) os).cell? ⟨b, off + m * 2 + 1, none⟩ = some (.int .i64 (kd L m).2) := fun n os => Grew.cell ⟨n, os, rfl⟩ c2
        generalize kd L m = mk at *
        obtain ⟨u, s⟩ := mk
        simp only at d1 d2
        have hmn : m < n := by omega
        have hmi : ((i : Int) + (j : Int)) / 2 = (m : Int) := by omega
        clear hc hml c1 c2 hm1
        cases hlu : lt (u, s) (t, r) with
        | true =>
          have HCm : Hid (∀ w, Calls Try.prog 20 #[.agg #[.int .i64 u, .int .i64 s], .agg #[.int .i64 t, .int .i64 r]] w fun e w' => e = .returned (.int .i64 (-1)) ∧ ∃ q os, w' = grow (w.drewN q) os) := fun w => by
            have h := compare_any w u s t r
            rwa [cmp_lt hlu] at h
          have HE : Hid ((∀ x, x < m + 1 → lt (kd L x) (t, r) = true) ∧ ∀ x, j ≤ x → x < L.length → lt (kd L x) (t, r) = false) := ⟨HLo.out hlu, HI.out.2⟩
          clear HLo HHi hlu HI
          go_wp2_with fail
          refine wp_region_quiet_grown mx (by kernel_rfl) ?_
          repeat (go_big_quiet_step ((go_at_fn 20; exact Calls.grown_of (HCm.out _))))
          refine wpQuiet_nil ?_
          intro _ hw'
          obtain ⟨⟨nq, osq⟩, hw''⟩ := hw'
          subst hw''
          have HG2 : Hid (Grew W0 (grow (wr.drewN nq) osq)) := HG.out.trans ⟨_, _, rfl⟩
          generalize grow (wr.drewN nq) osq = W2 at *
          clear hb1 hb2 d1 d2
          go_wp2_with fail
          go_roundw
          case rel => exact ⟨m + 1, j, by omega, hjn, by go_num, rfl, HE, HG2⟩
          case measure => simp [intOf]; omega
        | false =>
          obtain ⟨cv, hcv, hcp⟩ : ∃ c : Int, cmp (u, s) (t, r) = c ∧ 0 ≤ c := ⟨_, rfl, by have := cmp_neg (u, s) (t, r); rw [hlu] at this; simp at this; exact this⟩
          have hcd : decide (cv < 0) = false := by simpa using hcp
          have HCm : Hid (∀ w, Calls Try.prog 20 #[.agg #[.int .i64 u, .int .i64 s], .agg #[.int .i64 t, .int .i64 r]] w fun e w' => e = .returned (.int .i64 cv) ∧ ∃ q os, w' = grow (w.drewN q) os) := fun w => by
            have h := compare_any w u s t r
            rwa [hcv] at h
          have HE : Hid ((∀ x, x < i → lt (kd L x) (t, r) = true) ∧ ∀ x, m ≤ x → x < L.length → lt (kd L x) (t, r) = false) := ⟨HI.out.1, HHi.out hlu⟩
          clear HLo HHi hlu HI hcv
          go_wp2_with fail
          refine wp_region_quiet_grown mx (by kernel_rfl) ?_
          repeat (go_big_quiet_step ((go_at_fn 20; exact Calls.grown_of (HCm.out _))))
          refine wpQuiet_nil ?_
          intro _ hw'
          obtain ⟨⟨nq, osq⟩, hw''⟩ := hw'
          subst hw''
          have HG2 : Hid (Grew W0 (grow (wr.drewN nq) osq)) := HG.out.trans ⟨_, _, rfl⟩
          generalize grow (wr.drewN nq) osq = W2 at *
          clear hb1 hb2 d1 d2
          go_wp2_with fail
          go_roundw
          case rel => exact ⟨i, m, by omega, by omega, rfl, rfl, HE, HG2⟩
          case measure => simp [intOf]; omega
    · obtain rfl : i = j := by omega
      have HE : Hid (cnt L (t, r) = i) := cnt_eq (by have := HN.out; omega) HI.out.1 HI.out.2
      have HMe : Hid ((t, r) ∈ L ↔ i < L.length ∧ kd L i = (t, r)) := mem_at (by have := HN.out; omega) HI.out.1 HI.out.2 HR.out
      by_cases hin : i < n
      · have hil : i < L.length := by have := HN.out; omega
        rcases HK.out.grew (HG0.out.trans HG.out) with h0 | ⟨b, off, rfl, hc⟩
        · rw [h0] at hil; simp at hil
        · obtain ⟨c1, c2⟩ := KeysAt.at hc i hil
          have d1 : ∀ n os, (grow (wr.drewN n) os).cell? ⟨b, off + i * 2, none⟩ = some (.int .i64 (kd L i).1) := fun n os => Grew.cell ⟨n, os, rfl⟩ c1
          have d2 : ∀ n os, (grow (wr.drewN n) os).cell? ⟨b, off + i * 2 + 1, none⟩ = some (.int .i64 (kd L i).2) := fun n os => Grew.cell ⟨n, os, rfl⟩ c2
          have HD : Hid (decide ((t, r) ∈ L) = (cmp (kd L i) (t, r) == 0)) := by
            have hm := HMe.out
            by_cases he : kd L i = (t, r)
            · have h1 : (t, r) ∈ L := hm.2 ⟨hil, he⟩
              show decide _ = _
              rw [he, cmp_self, decide_eq_true h1]; rfl
            · have h1 : (t, r) ∉ L := fun h => he (hm.1 h).2
              have h2 : cmp (kd L i) (t, r) ≠ 0 := fun h => he ((cmp_zero _ _).1 h)
              show decide _ = _
              rw [decide_eq_false h1]; exact (beq_eq_false_iff_ne.2 h2).symm
          generalize kd L i = mk at *
          obtain ⟨u, s⟩ := mk
          simp only at d1 d2
          have HCm : Hid (∀ w, Calls Try.prog 20 #[.agg #[.int .i64 u, .int .i64 s], .agg #[.int .i64 t, .int .i64 r]] w fun e w' => e = .returned (.int .i64 (cmp (u, s) (t, r))) ∧ ∃ q os, w' = grow (w.drewN q) os) := fun w => compare_any w u s t r
          generalize cmp (u, s) (t, r) = cv at *
          clear hc hil c1 c2 HMe HI
          go_wp2_with fail
          refine wp_region_quiet_grown mx (by kernel_rfl) ?_
          repeat (go_big_quiet_step ((go_at_fn 20; exact Calls.grown_of (HCm.out _))))
          refine wpQuiet_nil ?_
          intro _ hw'
          obtain ⟨⟨nq, osq⟩, hw''⟩ := hw'
          subst hw''
          go_wp2
          go_ret2
          exact ⟨by rw [HE.out, HD.out]; rfl, (HG0.out.trans HG.out).trans ⟨_, _, rfl⟩⟩
      · have hdn : decide ((i : Int) < (n : Int)) = false := by simp; omega
        have hdn2 : decide (i < n) = false := by simpa using hin
        have HD : Hid (decide ((t, r) ∈ L) = false) := by
          rw [Hid, decide_eq_false_iff_not, HMe.out]
          have := HN.out; omega
        have HCm : Hid (∀ w u s, Calls Try.prog 20 #[.agg #[.int .i64 u, .int .i64 s], .agg #[.int .i64 t, .int .i64 r]] w fun e w' => e = .returned (.int .i64 (cmp (u, s) (t, r))) ∧ ∃ q os, w' = grow (w.drewN q) os) := fun w u s => compare_any w u s t r
        clear HMe HI
        go_wp2_with fail
        refine wp_region_quiet_grown mx (by kernel_rfl) ?_
        repeat (go_big_quiet_step ((go_at_fn 20; exact Calls.grown_of (HCm.out _ _ _))))
        refine wpQuiet_nil ?_
        intro _ hw'
        obtain ⟨⟨nq, osq⟩, hw''⟩ := hw'
        subst hw''
        go_wp2
        go_ret2
        exact ⟨by rw [HE.out, HD.out]; rfl, (HG0.out.trans HG.out).trans ⟨_, _, rfl⟩⟩

/-- what Find answers -/
def findN (L : List K) (k : K) : Nat := if Rise L then cnt L k else 0
def findB (L : List K) (k : K) : Bool := decide (Rise L) && decide (k ∈ L)
set_option maxHeartbeats 1000000 in
set_option maxRecDepth 100000 in
/-- Find -/
theorem find_any (w : World) (ao : Option Addr) (cap n : Nat) (L : List K) (t r : Int) (hn : n = L.length) (h : KeysAt w ao L) (hm : n ≤ 8796093022208) :
    Calls Try.prog 28 #[.slice ao n cap, .agg #[.int .i64 t, .int .i64 r]] w fun e w' => e = .returned (.tuple #[.int .i64 (findN L (t, r) : Int), .bool (findB L (t, r))]) ∧ ∃ q os, w' = grow (w.drewN q) os := by
  have HN : Hid (n = L.length) := hn
  have HK : Hid (KeysAt w ao L) := h
  clear hn h
  go_enter Try.func28, Try.ntmps28
  go_wp2_with fail
  have HB0 : Hid (Box (w.alloc (.cells #[.int .i64 t, .int .i64 r] 28)) w.heap.size t r) := Box.new rfl
  have HG0 : Hid (Grew w (w.alloc (.cells #[.int .i64 t, .int .i64 r] 28))) := (Grew.refl _).alloc _
  generalize w.alloc (.cells #[.int .i64 t, .int .i64 r] 28) = W0 at *
  refine (rises_any W0 ao cap n L HN.out (HK.out.grew HG0.out) hm).mono ?_
  rintro e w1 ⟨rfl, g1⟩
  have HB1 : Hid (Box w1 w.heap.size t r) := HB0.out.grew g1
  have HG1 : Hid (Grew w w1) := HG0.out.trans g1
  clear g1 HB0 HG0
  obtain ⟨p1, p2⟩ := HB1.out
  by_cases hr : Rise L
  · have HE : Hid (decide (Rise L) = true) := decide_eq_true hr
    have HR : Hid (Rise L) := hr
    have HF1 : Hid (findN L (t, r) = cnt L (t, r)) := if_pos hr
    have HF2 : Hid (findB L (t, r) = decide ((t, r) ∈ L)) := by unfold findB; rw [Hid, HE.out, Bool.true_and]
    rw [HE.out]
    go_wp2_with fail
    refine (search_any w1 ao cap n L t r HN.out (HK.out.grew HG1.out) HR.out hm).mono ?_
    rintro e w2 ⟨rfl, g2⟩
    have HG2 : Hid (Grew w w2) := HG1.out.trans g2
    clear g2
    go_wp2
    go_ret2
    exact ⟨by rw [HF1.out, HF2.out]; rfl, HG2.out⟩
  · have HE : Hid (decide (Rise L) = false) := decide_eq_false hr
    have HF1 : Hid (findN L (t, r) = 0) := if_neg hr
    have HF2 : Hid (findB L (t, r) = false) := by unfold findB; rw [Hid, HE.out, Bool.false_and]
    rw [HE.out]
    clear hr
    go_wp2_with fail
    go_ret2
    exact ⟨by rw [HF1.out, HF2.out]; rfl, HG1.out⟩

end Go.Proofs.Ytnjgaibcpcpmcab
