/-
  THE WALKS OF THE DOCUMENT's Rises, Has, Find.
-/
import Derived.Test.YtibdogniiglcjabKRefSet
namespace Go.Proofs.Ytibdogniiglcjab
open Go.RowKit Go.Sort

def RisesTo (b : Bool) (L : List K) (k : Nat) : Prop := b = true ↔ (L.all isKey = true ∧ Rise (L.take k))
theorem RisesTo.start (L : List K) : RisesTo (L.all isKey) L 1 := by
  unfold RisesTo
  constructor
  · intro h
    refine ⟨h, ?_⟩
    cases L with
    | nil => exact rise_nil
    | cons a L => exact ⟨by simp at h; simpa using h.1, by simp⟩
  · exact fun h => h.1
theorem RisesTo.no {L : List K} {k : Nat} (h : RisesTo false L k) : RisesTo false L (k + 1) := by
  unfold RisesTo at *
  constructor
  · intro e; cases e
  · rintro ⟨h1, h2⟩
    refine h.2 ⟨h1, ?_⟩
    have := h2.take k
    rwa [List.take_take, Nat.min_eq_left (by omega)] at this
theorem RisesTo.step {L : List K} {j : Nat} (hk : j + 1 < L.length) (h : RisesTo true L (j + 1)) : RisesTo (lt (kd L j) (kd L (j + 1))) L (j + 1 + 1) := by
  unfold RisesTo at *
  obtain ⟨h1, h2⟩ := h.1 rfl
  constructor
  · intro e
    exact ⟨h1, rise_next hk h2 ((List.all_eq_true.1 h1) _ (kd_mem hk)) (fun i hi => by rw [show i = j by omega]; exact e)⟩
  · rintro ⟨_, h3⟩
    have := rise_pair (L := L.take (j + 1 + 1)) (i := j) (j := j + 1) (by omega) (by simp; omega) h3
    have e : ∀ i, i < j + 1 + 1 → kd (L.take (j + 1 + 1)) i = kd L i := fun i hi => by
      unfold kd; rw [List.getD_eq_getElem?_getD, List.getD_eq_getElem?_getD, List.getElem?_take, if_pos hi]
    rwa [e j (by omega), e (j + 1) (by omega)] at this
theorem RisesTo.all {b : Bool} {L : List K} {k : Nat} (h : RisesTo b L k) (hk : L.length ≤ k) : b = decide (Rise L) := by
  unfold RisesTo at h
  rw [List.take_of_length_le hk] at h
  cases b with
  | true => exact (decide_eq_true (h.1 rfl).2).symm
  | false => exact (decide_eq_false (fun hr => by have := h.2 ⟨List.all_eq_true.2 hr.1, hr⟩; cases this)).symm

set_option maxHeartbeats 2000000 in
set_option maxRecDepth 100000 in
theorem refRises_any (w : World) (ao : Option Addr) (cap n : Nat) (L : List K) (hn : n = L.length) (h : KeysAt w ao L) (hm : n ≤ 8796093022208) :
    Calls Try.prog 69 #[.slice ao n cap] w fun e w' => e = .returned (.bool (decide (Rise L))) ∧ ∃ q os, w' = grow (w.drewN q) os := by
  have mx := mixed
  have HN : Hid (n = L.length) := hn
  have HK : Hid (KeysAt w ao L) := h
  clear hn h
  go_enter Try.func69, Try.ntmps69
  go_wp2_with fail
  refine (refAll_any w ao cap n L HN.out HK.out hm).mono ?_
  rintro e w1 ⟨rfl, hg⟩
  have HG1 : Hid (Grew w w1) := hg
  clear hg
  have HS : Hid (RisesTo (L.all isKey) L 1) := RisesTo.start L
  generalize L.all isKey = b0 at *
  go_wp2_with fail
  go_loopw [4, 3] (fun x y wr => ∃ (j : Nat) (b : Bool), j ≤ n ∧ x = .int .i64 ((j + 1 : Nat) : Int) ∧ y = .bool b ∧ Hid (RisesTo b L (j + 1)) ∧ Hid (Grew w wr)) (fun x _ _ => n + 1 - (intOf x).toNat)
  case atStart => exact ⟨0, b0, Nat.zero_le _, rfl, rfl, HS, HG1⟩
  case round =>
    clear HS HG1
    obtain ⟨j, b, hj, rfl, rfl, HR, HG⟩ := hrel
    obtain ⟨k, hk⟩ : ∃ k, k = j + 1 := ⟨_, rfl⟩
    have Hkj : Hid (k = j + 1) := hk
    rw [← hk] at HR ⊢
    by_cases hlt : k < n
    · have hl : k < L.length := by have := HN.out; omega
      rcases HK.out.grew HG.out with h0 | ⟨bb, off, rfl, hc⟩
      · rw [h0] at hl; simp at hl
      · cases b with
        | false =>
          have HR2 : Hid (RisesTo false L (k + 1)) := HR.out.no
          clear hc hl HR hk
          go_wp2_with fail
          refine wp_region_quiet_grown mx (by kernel_rfl) ?_
          repeat (go_big_quiet_step (fail))
          refine wpQuiet_nil ?_
          intro _ hw'
          obtain ⟨⟨nq, osq⟩, hw''⟩ := hw'
          subst hw''
          have HG2 : Hid (Grew w (grow (wr.drewN nq) osq)) := HG.out.trans ⟨_, _, rfl⟩
          generalize grow (wr.drewN nq) osq = W2 at *
          go_wp2_with fail
          go_roundw
          case rel => exact ⟨k, false, by omega, by go_num, rfl, HR2, HG2⟩
          case measure => simp [intOf]; omega
        | true =>
          obtain ⟨c1, c2⟩ := KeysAt.at hc k hl
          obtain ⟨p1, p2⟩ := KeysAt.at hc j (by omega)
          have HR2 : Hid (RisesTo (lt (kd L j) (kd L k)) L (k + 1)) := by subst hk; exact HR.out.step hl
          have HD : Hid (decide (cmp (kd L j) (kd L k) < 0) = lt (kd L j) (kd L k)) := by rw [Hid]; have := cmp_neg (kd L j) (kd L k); cases h : lt (kd L j) (kd L k) <;> simp [h] at this ⊢ <;> omega
          have hkm : (k : Int) - 1 = (j : Int) := by omega
          generalize hx : kd L k = x at *
          generalize hy : kd L j = y at *
          clear hx hy hc hl HR hk
          obtain ⟨x1, x2⟩ := x
          obtain ⟨y1, y2⟩ := y
          simp only at c1 c2 p1 p2
          have HCm : Hid (∀ w, Calls Try.prog 79 #[.agg #[.int .i64 y1, .int .i64 y2], .agg #[.int .i64 x1, .int .i64 x2]] w fun e w' => e = .returned (.int .i64 (cmp (y1, y2) (x1, x2))) ∧ ∃ q os, w' = grow (w.drewN q) os) := fun w => refCompare_any w _ _ _ _
          have hd := HD.out
          generalize cmp (y1, y2) (x1, x2) = c at *
          generalize lt (y1, y2) (x1, x2) = bl at *
          have g1 : ∀ n os, (grow (wr.drewN n) os).cell? ⟨bb, off + k * 2, none⟩ = some (.int .i64 x1) := fun n os => Grew.cell ⟨n, os, rfl⟩ c1
          have g2 : ∀ n os, (grow (wr.drewN n) os).cell? ⟨bb, off + k * 2 + 1, none⟩ = some (.int .i64 x2) := fun n os => Grew.cell ⟨n, os, rfl⟩ c2
          have q1 : ∀ n os, (grow (wr.drewN n) os).cell? ⟨bb, off + j * 2, none⟩ = some (.int .i64 y1) := fun n os => Grew.cell ⟨n, os, rfl⟩ p1
          have q2 : ∀ n os, (grow (wr.drewN n) os).cell? ⟨bb, off + j * 2 + 1, none⟩ = some (.int .i64 y2) := fun n os => Grew.cell ⟨n, os, rfl⟩ p2
          clear HD c1 c2 p1 p2
          go_wp2_with fail
          refine wp_region_quiet_grown mx (by kernel_rfl) ?_
          repeat (go_big_quiet_step ((go_at_call 79; exact Calls.grown_of (HCm.out _))))
          refine wpQuiet_nil ?_
          intro _ hw'
          obtain ⟨⟨nq, osq⟩, hw''⟩ := hw'
          subst hw''
          have HG2 : Hid (Grew w (grow (wr.drewN nq) osq)) := HG.out.trans ⟨_, _, rfl⟩
          generalize grow (wr.drewN nq) osq = W2 at *
          go_wp2_with fail
          go_roundw
          case rel => exact ⟨k, bl, by omega, by go_num, rfl, HR2, HG2⟩
          case measure => simp [intOf]; omega
    · have HE : Hid (b = decide (Rise L)) := HR.out.all (by have := HN.out; omega)
      clear hk
      go_wp2
      go_ret
      exact ⟨by rw [HE.out]; rfl, HG.out⟩

end Go.Proofs.Ytibdogniiglcjab
