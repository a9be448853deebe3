import Derived.Test.YtlilaicgmdbhcaaJ10
import Derived.Test.YtlilaicgmdbhcaaJ12
import Derived.Test.YtlilaicgmdbhcaaJ11
/-
  THE WALKS OF slices.BinarySearchFunc AND Find.
-/
namespace Go.Proofs.Ytlilaicgmdbhcaa.Kk
open Go.RowKit Go.Sort

/-- how many are below a key -/
def cnt (L : List K) (k : K) : Nat := (L.filter fun x => lt x k).length
theorem cnt_eq {L : List K} {k : K} {i : Nat} (hi : i ≤ L.length) (h1 : ∀ x, x < i → lt (kd L x) k = true) (h2 : ∀ x, i ≤ x → x < L.length → lt (kd L x) k = false) : cnt L k = i := by
  have e : L.filter (fun x => lt x k) = L.take i := by
    have hs := List.take_append_drop i L
    have ht : (L.take i).filter (fun x => lt x k) = L.take i := by
      rw [List.filter_eq_self]
      intro a ha
      obtain ⟨j, hj, he⟩ := List.mem_iff_getElem.1 ha
      have hj' : j < i := by simp at hj; omega
      have := h1 j hj'
      rw [List.getElem_take] at he
      have hg := kd_get (L := L) (j := j) (by simp at hj; omega)
      rw [List.getElem?_eq_getElem (by simp at hj; omega), Option.some.injEq, he] at hg
      rw [hg]; exact this
    have hd : (L.drop i).filter (fun x => lt x k) = [] := by
      rw [List.filter_eq_nil_iff]
      intro a ha
      obtain ⟨j, hj, he⟩ := List.mem_iff_getElem.1 ha
      have hjl : i + j < L.length := by simp at hj; omega
      have := h2 (i + j) (by omega) hjl
      rw [List.getElem_drop] at he
      have hg := kd_get hjl
      rw [List.getElem?_eq_getElem hjl, Option.some.injEq, he] at hg
      rw [hg, this]; decide
    calc L.filter (fun x => lt x k) = (L.take i ++ L.drop i).filter (fun x => lt x k) := by rw [hs]
      _ = L.take i := by rw [List.filter_append, ht, hd, List.append_nil]
  unfold cnt
  rw [e, List.length_take]; omega
theorem mem_at {L : List K} {k : K} {i : Nat} (hi : i ≤ L.length) (h1 : ∀ x, x < i → lt (kd L x) k = true) (h2 : ∀ x, i ≤ x → x < L.length → lt (kd L x) k = false) (hr : Rise L) : k ∈ L ↔ i < L.length ∧ kd L i = k := by
  constructor
  · intro hk
    obtain ⟨j, hj, he⟩ := List.mem_iff_getElem.1 hk
    have hg := kd_get hj
    rw [List.getElem?_eq_getElem hj, Option.some.injEq, he] at hg
    have hij : i ≤ j := by
      rcases Nat.lt_or_ge j i with h | h
      · have := h1 j h; rw [← hg, lt_irrefl] at this; cases this
      · exact h
    by_cases hij2 : i = j
    · subst hij2; exact ⟨hj, hg.symm⟩
    · have := rise_pair (i := i) (j := j) (by omega) hj hr
      rw [← hg, h2 i (Nat.le_refl _) (by omega)] at this; cases this
  · rintro ⟨h, rfl⟩; exact kd_mem h


/-- what Find answers -/
def findN (L : List K) (k : K) : Nat := if Rise L then cnt L k else 0
def findB (L : List K) (k : K) : Bool := decide (Rise L) && decide (k ∈ L)

end Go.Proofs.Ytlilaicgmdbhcaa.Kk
/-
  THE WALKS OF THE DOCUMENT's all, Rises, Has.
-/
namespace Go.Proofs.Ytlilaicgmdbhcaa.Kk
open Go.RowKit Go.Sort

set_option maxHeartbeats 2000000 in
set_option maxRecDepth 100000 in
theorem refAll_any (w : World) (ao : Option Addr) (cap n : Nat) (L : List K) (hn : n = L.length) (h : KeysAt w ao L) (hm : n ≤ 8796093022208) :
    Calls Try.prog 70 #[.slice ao n cap] w fun e w' => e = .returned (.bool (L.all isKey)) ∧ ∃ q os, w' = grow (w.drewN q) os := by
  have HN : Hid (n = L.length) := hn
  have HK : Hid (KeysAt w ao L) := h
  clear hn h
  go_enter Try.func70, Try.ntmps70
  go_wp2_with fail
  go_loopw [3] (fun x wr => ∃ k : Nat, k ≤ n ∧ x = .int .i64 (k : Int) ∧ Hid ((L.take k).all isKey = true) ∧ Hid (Grew w wr)) (fun x _ => n - (intOf x).toNat)
  case atStart => exact ⟨0, Nat.zero_le _, rfl, by simp [Hid], Grew.refl _⟩
  case round =>
    obtain ⟨k, hk, rfl, HA, HG⟩ := hrel
    by_cases hlt : k < n
    · have hl : k < L.length := by have := HN.out; omega
      rcases HK.out.grew HG.out with h0 | ⟨b, off, rfl, hc⟩
      · rw [h0] at hl; simp at hl
      · obtain ⟨c1, c2⟩ := KeysAt.at hc k hl
        have HT : Hid (isKey (kd L k) = true → (L.take (k + 1)).all isKey = true) := all_take L k HA.out hl
        have HF : Hid (isKey (kd L k) = false → L.all isKey = false) := all_false hl
        generalize kd L k = kk at *
        obtain ⟨t, r⟩ := kk
        simp only at c1 c2
        clear hc hl
        have HC : Hid (∀ b, isKey (t, r) = b → ∀ w, Calls Try.prog 72 #[.agg #[.int .i64 t, .int .i64 r]] w fun e w' => e = .returned (.int .i64 (errOf b 20)) ∧ ∃ q os, w' = grow (w.drewN q) os) := fun b hb w => hb ▸ refCheck_any w t r
        cases hik : isKey (t, r) with
        | false =>
          have HE : Hid (L.all isKey = false) := HF.out hik
          have HC1 := HC.out _ hik
          simp only [errOf] at HC1
          have HC2 : Hid _ := HC1
          clear HT HF HC hik HC1
          go_wp2_with fail
          refine (HC2.out _).mono ?_
          rintro e w1 ⟨rfl, hg⟩
          go_wp2
          go_ret
          exact ⟨by rw [HE.out]; rfl, HG.out.trans hg⟩
        | true =>
          have HE : Hid ((L.take (k + 1)).all isKey = true) := HT.out hik
          have HC1 := HC.out _ hik
          simp only [errOf] at HC1
          have HC2 : Hid _ := HC1
          clear HT HF HC hik HC1
          go_wp2_with fail
          refine (HC2.out _).mono ?_
          rintro e w1 ⟨rfl, hg⟩
          have HG1 : Hid (Grew w w1) := HG.out.trans hg
          clear hg
          go_wp2_with fail
          go_roundw
          case rel => exact ⟨k + 1, by omega, by go_num, HE, HG1⟩
          case measure => simp [intOf]; omega
    · obtain rfl : k = n := by omega
      have HE : Hid (L.all isKey = true) := by have := HA.out; rwa [HN.out, List.take_length] at this
      go_wp2
      go_ret
      exact ⟨by rw [HE.out]; rfl, HG.out⟩

end Go.Proofs.Ytlilaicgmdbhcaa.Kk
/-
  THE WALKS OF THE DOCUMENT's Rises, Has, Find.
-/
namespace Go.Proofs.Ytlilaicgmdbhcaa.Kk
open Go.RowKit Go.Sort

def RisesTo (b : Bool) (L : List K) (k : Nat) : Prop := b = true ↔ (L.all isKey = true ∧ Rise (L.take k))
theorem RisesTo.start (L : List K) : RisesTo (L.all isKey) L 1 := by
  unfold RisesTo
  constructor
  · intro h
    refine ⟨h, ?_⟩
    cases L with
    | nil => exact rise_nil
    | cons a L => exact ⟨by simp at h; simpa using h.1, by simp⟩
  · exact fun h => h.1
theorem RisesTo.no {L : List K} {k : Nat} (h : RisesTo false L k) : RisesTo false L (k + 1) := by
  unfold RisesTo at *
  constructor
  · intro e; cases e
  · rintro ⟨h1, h2⟩
    refine h.2 ⟨h1, ?_⟩
    have := h2.take k
    rwa [List.take_take, Nat.min_eq_left (by omega)] at this
theorem RisesTo.step {L : List K} {j : Nat} (hk : j + 1 < L.length) (h : RisesTo true L (j + 1)) : RisesTo (lt (kd L j) (kd L (j + 1))) L (j + 1 + 1) := by
  unfold RisesTo at *
  obtain ⟨h1, h2⟩ := h.1 rfl
  constructor
  · intro e
    exact ⟨h1, rise_next hk h2 ((List.all_eq_true.1 h1) _ (kd_mem hk)) (fun i hi => by rw [show i = j by omega]; exact e)⟩
  · rintro ⟨_, h3⟩
    have := rise_pair (L := L.take (j + 1 + 1)) (i := j) (j := j + 1) (by omega) (by simp; omega) h3
    have e : ∀ i, i < j + 1 + 1 → kd (L.take (j + 1 + 1)) i = kd L i := fun i hi => by
      unfold kd; rw [List.getD_eq_getElem?_getD, List.getD_eq_getElem?_getD, List.getElem?_take, if_pos hi]
    rwa [e j (by omega), e (j + 1) (by omega)] at this
theorem RisesTo.all {b : Bool} {L : List K} {k : Nat} (h : RisesTo b L k) (hk : L.length ≤ k) : b = decide (Rise L) := by
  unfold RisesTo at h
  rw [List.take_of_length_le hk] at h
  cases b with
  | true => exact (decide_eq_true (h.1 rfl).2).symm
  | false => exact (decide_eq_false (fun hr => by have := h.2 ⟨List.all_eq_true.2 hr.1, hr⟩; cases this)).symm

set_option maxHeartbeats 2000000 in
set_option maxRecDepth 100000 in
theorem refRises_any (w : World) (ao : Option Addr) (cap n : Nat) (L : List K) (hn : n = L.length) (h : KeysAt w ao L) (hm : n ≤ 8796093022208) :
    Calls Try.prog 57 #[.slice ao n cap] w fun e w' => e = .returned (.bool (decide (Rise L))) ∧ ∃ q os, w' = grow (w.drewN q) os := by
  have mx := mixed
  have HN : Hid (n = L.length) := hn
  have HK : Hid (KeysAt w ao L) := h
  clear hn h
  go_enter Try.func57, Try.ntmps57
  go_wp2_with fail
  refine (refAll_any w ao cap n L HN.out HK.out hm).mono ?_
  rintro e w1 ⟨rfl, hg⟩
  have HG1 : Hid (Grew w w1) := hg
  clear hg
  have HS : Hid (RisesTo (L.all isKey) L 1) := RisesTo.start L
  generalize L.all isKey = b0 at *
  go_wp2_with fail
  go_loopw [4, 3] (fun x y wr => ∃ (j : Nat) (b : Bool), j ≤ n ∧ x = .int .i64 ((j + 1 : Nat) : Int) ∧ y = .bool b ∧ Hid (RisesTo b L (j + 1)) ∧ Hid (Grew w wr)) (fun x _ _ => n + 1 - (intOf x).toNat)
  case atStart => exact ⟨0, b0, Nat.zero_le _, rfl, rfl, HS, HG1⟩
  case round =>
    clear HS HG1
    obtain ⟨j, b, hj, rfl, rfl, HR, HG⟩ := hrel
    obtain ⟨k, hk⟩ : ∃ k, k = j + 1 := ⟨_, rfl⟩
    have Hkj : Hid (k = j + 1) := hk
    rw [← hk] at HR ⊢
    by_cases hlt : k < n
    · have hl : k < L.length := by have := HN.out; omega
      rcases HK.out.grew HG.out with h0 | ⟨bb, off, rfl, hc⟩
      · rw [h0] at hl; simp at hl
      · cases b with
        | false =>
          have HR2 : Hid (RisesTo false L (k + 1)) := HR.out.no
          clear hc hl HR hk
          go_wp2_with fail
          refine wp_region_quiet_grown mx (by kernel_rfl) ?_
          repeat (go_big_quiet_step (fail))
          refine wpQuiet_nil ?_
          intro _ hw'
          obtain ⟨⟨nq, osq⟩, hw''⟩ := hw'
          subst hw''
          have HG2 : Hid (Grew w (grow (wr.drewN nq) osq)) := HG.out.trans ⟨_, _, rfl⟩
          generalize grow (wr.drewN nq) osq = W2 at *
          go_wp2_with fail
          go_roundw
          case rel => exact ⟨k, false, by omega, by go_num, rfl, HR2, HG2⟩
          case measure => simp [intOf]; omega
        | true =>
          obtain ⟨c1, c2⟩ := KeysAt.at hc k hl
          obtain ⟨p1, p2⟩ := KeysAt.at hc j (by omega)
          have HR2 : Hid (RisesTo (lt (kd L j) (kd L k)) L (k + 1)) := by subst hk; exact HR.out.step hl
          have HD : Hid (decide (cmp (kd L j) (kd L k) < 0) = lt (kd L j) (kd L k)) := by rw [Hid]; have := cmp_neg (kd L j) (kd L k); cases h : lt (kd L j) (kd L k) <;> simp [h] at this ⊢ <;> omega
          have hkm : (k : Int) - 1 = (j : Int) := by omega
          generalize hx : kd L k = x at *
          generalize hy : kd L j = y at *
          clear hx hy hc hl HR hk
          obtain ⟨x1, x2⟩ := x
          obtain ⟨y1, y2⟩ := y
          simp only at c1 c2 p1 p2
          have HCm : Hid (∀ w, Calls Try.prog 71 #[.agg #[.int .i64 y1, .int .i64 y2], .agg #[.int .i64 x1, .int .i64 x2]] w fun e w' => e = .returned (.int .i64 (cmp (y1, y2) (x1, x2))) ∧ ∃ q os, w' = grow (w.drewN q) os) := fun w => refCompare_any w _ _ _ _
          have hd := HD.out
          generalize cmp (y1, y2) (x1, x2) = c at *
          generalize lt (y1, y2) (x1, x2) = bl at *
          have g1 : ∀ n os, (grow (wr.drewN n) os).cell? ⟨bb, off + k * 2, none⟩ = some (.int .i64 x1) := fun n os => Grew.cell ⟨n, os, rfl⟩ c1
          have g2 : ∀ n os, (grow (wr.drewN n) os).cell? ⟨bb, off + k * 2 + 1, none⟩ = some (.int .i64 x2) := fun n os => Grew.cell ⟨n, os, rfl⟩ c2
          have q1 : ∀ n os, (grow (wr.drewN n) os).cell? ⟨bb, off + j * 2, none⟩ = some (.int .i64 y1) := fun n os => Grew.cell ⟨n, os, rfl⟩ p1
          have q2 : ∀ n os, (grow (wr.drewN n) os).cell? ⟨bb, off + j * 2 + 1, none⟩ = some (.int .i64 y2) := fun n os => Grew.cell ⟨n, os, rfl⟩ p2
          clear HD c1 c2 p1 p2
          go_wp2_with fail
          refine wp_region_quiet_grown mx (by kernel_rfl) ?_
          repeat (go_big_quiet_step ((go_at_call 71; exact Calls.grown_of (HCm.out _))))
          refine wpQuiet_nil ?_
          intro _ hw'
          obtain ⟨⟨nq, osq⟩, hw''⟩ := hw'
          subst hw''
          have HG2 : Hid (Grew w (grow (wr.drewN nq) osq)) := HG.out.trans ⟨_, _, rfl⟩
          generalize grow (wr.drewN nq) osq = W2 at *
          go_wp2_with fail
          go_roundw
          case rel => exact ⟨k, bl, by omega, by go_num, rfl, HR2, HG2⟩
          case measure => simp [intOf]; omega
    · have HE : Hid (b = decide (Rise L)) := HR.out.all (by have := HN.out; omega)
      clear hk
      go_wp2
      go_ret
      exact ⟨by rw [HE.out]; rfl, HG.out⟩


end Go.Proofs.Ytlilaicgmdbhcaa.Kk
