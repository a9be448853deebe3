/-
  THE WALK OF Rises.
-/
import Derived.Test.YtbmohlkcmhhpgaaGreatKSound
import Derived.Test.YtbmohlkcmhhpgaaGreatKCmp
import Derived.Test.YtbmohlkcmhhpgaaGreatSMath
namespace Go.Proofs.YtbmohlkcmhhpgaaGreat
open Go.RowKit Go.Sort

theorem rise_not_key {L : List K} {k : Nat} (hk : k < L.length) (h : isKey (kd L k) = false) : ¬ Rise L := fun hr => by
  have := hr.1 _ (kd_mem hk)
  rw [h] at this; cases this
theorem rise_pair {L : List K} {i j : Nat} (hij : i < j) (hj : j < L.length) (hr : Rise L) : lt (kd L i) (kd L j) = true := by
  have hi : i < L.length := by omega
  have h := (List.pairwise_iff_getElem.1 hr.2) i j hi hj hij
  have e1 := kd_get hi
  have e2 := kd_get hj
  rw [List.getElem?_eq_getElem hi] at e1
  rw [List.getElem?_eq_getElem hj] at e2
  rw [← Option.some.inj e1, ← Option.some.inj e2]
  exact h
theorem rise_next {L : List K} {k : Nat} (hk : k < L.length) (hr : Rise (L.take k)) (hi : isKey (kd L k) = true) (h : ∀ j, j + 1 = k → lt (kd L j) (kd L k) = true) : Rise (L.take (k + 1)) := by
  rw [take_kd L k hk]
  refine rise_snoc hr hi fun i y hil hy => ?_
  have hlen : (L.take k).length = k := by simp; omega
  rw [hlen] at hil
  have h1 := h i hil
  rw [List.getElem?_take, if_pos (by omega)] at hy
  rw [kd_get (by omega)] at hy
  rw [← Option.some.inj hy]; exact h1

set_option maxHeartbeats 4000000 in
set_option maxRecDepth 100000 in
theorem rises_any (w : World) (ao : Option Addr) (cap n : Nat) (L : List K) (hn : n = L.length) (h : KeysAt w ao L) (hm : n ≤ 8796093022208) :
    Calls Tryz.prog 59 #[.slice ao n cap] w fun e w' => e = .returned (.bool (decide (Rise L))) ∧ ∃ q os, w' = grow (w.drewN q) os := by
  have mx := mixed
  have HN : Hid (n = L.length) := hn
  have HK : Hid (KeysAt w ao L) := h
  clear hn h
  go_enter Tryz.func59, Tryz.ntmps59
  go_wp2_with fail
  go_loopw [3, 4, 7] (fun _ _ y wr => ∃ k : Nat, k ≤ n ∧ y = .int .i64 (k : Int) ∧ Hid (Rise (L.take k)) ∧ Hid (Grew w wr)) (fun _ _ y _ => n - (intOf y).toNat)
  case atStart => exact ⟨0, Nat.zero_le _, rfl, by simp [Hid]; exact rise_nil, Grew.refl _⟩
  case round =>
    obtain ⟨k, hk, rfl, HR, HG⟩ := hrel
    by_cases hlt : k < n
    · have hl : k < L.length := by have := HN.out; omega
      rcases HK.out.grew HG.out with h0 | ⟨b, off, rfl, hc⟩
      · rw [h0] at hl; simp at hl
      · obtain ⟨c1, c2⟩ := KeysAt.at hc k hl
        have HNK : Hid (isKey (kd L k) = false → ¬ Rise L) := rise_not_key hl
        have HNX : Hid (isKey (kd L k) = true → (∀ j, j + 1 = k → lt (kd L j) (kd L k) = true) → Rise (L.take (k + 1))) := rise_next hl HR.out
        have HPR : Hid (∀ j, j + 1 = k → Rise L → lt (kd L j) (kd L k) = true) := fun j hj hr => rise_pair (by omega) hl hr
        have HPC : Hid (∀ j, j + 1 = k → wr.cell? ⟨b, off + j * 2, none⟩ = some (.int .i64 (kd L j).1) ∧ wr.cell? ⟨b, off + j * 2 + 1, none⟩ = some (.int .i64 (kd L j).2)) := fun j hj => KeysAt.at hc j (by omega)
        generalize kd L k = kk at *
        obtain ⟨t, r⟩ := kk
        simp only at c1 c2
        clear hc hl HR
        cases hik : isKey (t, r) with
        | false =>
          have HE : Hid (decide (Rise L) = false) := by rw [Hid]; simpa using HNK.out hik
          have HCk : Hid (∀ w, Calls Tryz.prog 72 #[.agg #[.int .i64 t, .int .i64 r]] w fun e w' => e = .returned (.int .i64 20) ∧ ∃ q os, w' = grow (w.drewN q) os) := fun w => by
            have h := check_any w t r
            rwa [hik] at h
          have HCm : Hid (∀ w, Calls Tryz.prog 72 #[.agg #[.int .i64 t, .int .i64 r]] w fun e w' => e = .returned (.int .i64 (errOf (isKey (t, r)) 20)) ∧ ∃ q os, w' = grow (w.drewN q) os) := fun w => check_any w t r
          clear HNK HNX HPR HPC hik
          go_wp2_with fail
          have B1 : Hid (Box (wr.alloc (.cells #[.int .i64 t, .int .i64 r] 43)) wr.heap.size t r) := Box.new rfl
          have HG1 : Hid (Grew w (wr.alloc (.cells #[.int .i64 t, .int .i64 r] 43))) := HG.out.alloc _
          have HGa : Hid (Grew wr (wr.alloc (.cells #[.int .i64 t, .int .i64 r] 43))) := (Grew.refl _).alloc _
          generalize wr.alloc (.cells #[.int .i64 t, .int .i64 r] 43) = W1 at *
          have b1 : ∀ n os, (grow (W1.drewN n) os).cell? ⟨wr.heap.size, 0, none⟩ = some (.int .i64 t) := fun n os => Grew.cell ⟨n, os, rfl⟩ B1.out.1
          have b2 : ∀ n os, (grow (W1.drewN n) os).cell? ⟨wr.heap.size, 1, none⟩ = some (.int .i64 r) := fun n os => Grew.cell ⟨n, os, rfl⟩ B1.out.2
          refine wp_region_quiet_grown mx (by kernel_rfl) ?_
          repeat (go_big_quiet_step (first
            | (go_at_call 72; exact Calls.grown_of (HCk.out _))
            | (go_at_call 50; exact Calls.grown_of (HCm.out _))))
          refine wpQuiet_nil ?_
          intro _ hw'
          obtain ⟨⟨nq, osq⟩, hw''⟩ := hw'
          subst hw''
          go_wp2
          go_ret
          exact ⟨by rw [HE.out]; rfl, HG1.out.trans ⟨_, _, rfl⟩⟩
        | true =>
        by_cases hk0 : k = 0
        · have HE : Hid (Rise (L.take (k + 1))) := HNX.out hik (fun j hj => by omega)
          have HCk : Hid (∀ w, Calls Tryz.prog 72 #[.agg #[.int .i64 t, .int .i64 r]] w fun e w' => e = .returned (.int .i64 0) ∧ ∃ q os, w' = grow (w.drewN q) os) := fun w => by
            have h := check_any w t r
            rwa [hik] at h
          have HCm : Hid (∀ w, Calls Tryz.prog 72 #[.agg #[.int .i64 t, .int .i64 r]] w fun e w' => e = .returned (.int .i64 (errOf (isKey (t, r)) 20)) ∧ ∃ q os, w' = grow (w.drewN q) os) := fun w => check_any w t r
          clear HNK HNX HPR HPC hik
          have hd0 : decide ((0 : Int) < (k : Int)) = false := by simp; omega
          have hd1 : decide (0 < k) = false := by simp; omega
          clear hk0
          go_wp2_with fail
          have B1 : Hid (Box (wr.alloc (.cells #[.int .i64 t, .int .i64 r] 43)) wr.heap.size t r) := Box.new rfl
          have HG1 : Hid (Grew w (wr.alloc (.cells #[.int .i64 t, .int .i64 r] 43))) := HG.out.alloc _
          have HGa : Hid (Grew wr (wr.alloc (.cells #[.int .i64 t, .int .i64 r] 43))) := (Grew.refl _).alloc _
          generalize wr.alloc (.cells #[.int .i64 t, .int .i64 r] 43) = W1 at *
          have b1 : ∀ n os, (grow (W1.drewN n) os).cell? ⟨wr.heap.size, 0, none⟩ = some (.int .i64 t) := fun n os => Grew.cell ⟨n, os, rfl⟩ B1.out.1
          have b2 : ∀ n os, (grow (W1.drewN n) os).cell? ⟨wr.heap.size, 1, none⟩ = some (.int .i64 r) := fun n os => Grew.cell ⟨n, os, rfl⟩ B1.out.2
          refine wp_region_quiet_grown mx (by kernel_rfl) ?_
          repeat (go_big_quiet_step (first
            | (go_at_call 72; exact Calls.grown_of (HCk.out _))
            | (go_at_call 50; exact Calls.grown_of (HCm.out _))))
          refine wpQuiet_nil ?_
          intro _ hw'
          obtain ⟨⟨nq, osq⟩, hw''⟩ := hw'
          subst hw''
          have HG2 : Hid (Grew w (grow (W1.drewN nq) osq)) := HG1.out.trans ⟨_, _, rfl⟩
          generalize grow (W1.drewN nq) osq = W2 at *
          go_wp2_with fail
          go_roundw
          case rel => exact ⟨k + 1, by omega, by go_num, HE, HG2⟩
          case measure => simp [intOf]; omega
        · have hkp : (0 : Int) < (k : Int) := by omega
          have hd0 : decide ((0 : Int) < (k : Int)) = true := by simpa using hkp
          have hd1 : decide (0 < k) = true := by simp; omega
          obtain ⟨p1, p2⟩ := HPC.out (k - 1) (by omega)
          have HPN : Hid ((∀ j, j + 1 = k → lt (kd L j) (t, r) = true) ↔ lt (kd L (k - 1)) (t, r) = true) := ⟨fun h => h _ (by omega), fun h j hj => by rw [show j = k - 1 by omega]; exact h⟩
          have HPQ : Hid (Rise L → lt (kd L (k - 1)) (t, r) = true) := HPR.out (k - 1) (by omega)
          generalize kd L (k - 1) = pk at *
          obtain ⟨u, s⟩ := pk
          simp only at p1 p2
          have hkm : (k : Int) - 1 = ((k - 1 : Nat) : Int) := by omega
          cases hlu : lt (u, s) (t, r) with
          | false =>
            have HE : Hid (decide (Rise L) = false) := by rw [Hid]; simp; intro hr; have := HPQ.out hr; rw [hlu] at this; cases this
            have hcv : ∃ c : Int, cmp (u, s) (t, r) = c ∧ 0 ≤ c := ⟨_, rfl, by have := cmp_neg (u, s) (t, r); rw [hlu] at this; simp at this; exact this⟩
            obtain ⟨cv, hcv, hcp⟩ := hcv
            have hcd : decide (0 ≤ cv) = true := by simpa using hcp
            have HCk : Hid (∀ w, Calls Tryz.prog 72 #[.agg #[.int .i64 t, .int .i64 r]] w fun e w' => e = .returned (.int .i64 0) ∧ ∃ q os, w' = grow (w.drewN q) os) := fun w => by
              have h := check_any w t r
              rwa [hik] at h
            have HCm : Hid (∀ w, Calls Tryz.prog 50 #[.agg #[.int .i64 u, .int .i64 s], .agg #[.int .i64 t, .int .i64 r]] w fun e w' => e = .returned (.int .i64 cv) ∧ ∃ q os, w' = grow (w.drewN q) os) := fun w => by
              have h := compare_any w u s t r
              rwa [hcv] at h
            clear HNK HNX HPR HPC hik HPN HPQ hlu hcv
            go_wp2_with fail
            have B1 : Hid (Box (wr.alloc (.cells #[.int .i64 t, .int .i64 r] 43)) wr.heap.size t r) := Box.new rfl
            have HG1 : Hid (Grew w (wr.alloc (.cells #[.int .i64 t, .int .i64 r] 43))) := HG.out.alloc _
            have HGa : Hid (Grew wr (wr.alloc (.cells #[.int .i64 t, .int .i64 r] 43))) := (Grew.refl _).alloc _
            generalize wr.alloc (.cells #[.int .i64 t, .int .i64 r] 43) = W1 at *
            have b1 : ∀ n os, (grow (W1.drewN n) os).cell? ⟨wr.heap.size, 0, none⟩ = some (.int .i64 t) := fun n os => Grew.cell ⟨n, os, rfl⟩ B1.out.1
            have b2 : ∀ n os, (grow (W1.drewN n) os).cell? ⟨wr.heap.size, 1, none⟩ = some (.int .i64 r) := fun n os => Grew.cell ⟨n, os, rfl⟩ B1.out.2
            have d1 : ∀ n os, (grow (W1.drewN n) os).cell? ⟨b, off + (k - 1) * 2, none⟩ = some (.int .i64 u) := fun n os => Grew.cell ⟨n, os, rfl⟩ (HGa.out.cell p1)
            have d2 : ∀ n os, (grow (W1.drewN n) os).cell? ⟨b, off + (k - 1) * 2 + 1, none⟩ = some (.int .i64 s) := fun n os => Grew.cell ⟨n, os, rfl⟩ (HGa.out.cell p2)
            clear p1 p2
            refine wp_region_quiet_grown mx (by kernel_rfl) ?_
            repeat (go_big_quiet_step (first
              | (go_at_call 72; exact Calls.grown_of (HCk.out _))
              | (go_at_call 50; exact Calls.grown_of (HCm.out _))))
            refine wpQuiet_nil ?_
            intro _ hw'
            obtain ⟨⟨nq, osq⟩, hw''⟩ := hw'
            subst hw''
            go_wp2
            go_ret
            exact ⟨by rw [HE.out]; rfl, HG1.out.trans ⟨_, _, rfl⟩⟩
          | true =>
            have HE : Hid (Rise (L.take (k + 1))) := HNX.out hik (HPN.out.2 hlu)
            have hcv : cmp (u, s) (t, r) = -1 := cmp_lt hlu
            have HCk : Hid (∀ w, Calls Tryz.prog 72 #[.agg #[.int .i64 t, .int .i64 r]] w fun e w' => e = .returned (.int .i64 0) ∧ ∃ q os, w' = grow (w.drewN q) os) := fun w => by
              have h := check_any w t r
              rwa [hik] at h
            have HCm : Hid (∀ w, Calls Tryz.prog 50 #[.agg #[.int .i64 u, .int .i64 s], .agg #[.int .i64 t, .int .i64 r]] w fun e w' => e = .returned (.int .i64 (-1)) ∧ ∃ q os, w' = grow (w.drewN q) os) := fun w => by
              have h := compare_any w u s t r
              rwa [hcv] at h
            clear HNK HNX HPR HPC hik HPN HPQ hlu hcv
            go_wp2_with fail
            have B1 : Hid (Box (wr.alloc (.cells #[.int .i64 t, .int .i64 r] 43)) wr.heap.size t r) := Box.new rfl
            have HG1 : Hid (Grew w (wr.alloc (.cells #[.int .i64 t, .int .i64 r] 43))) := HG.out.alloc _
            have HGa : Hid (Grew wr (wr.alloc (.cells #[.int .i64 t, .int .i64 r] 43))) := (Grew.refl _).alloc _
            generalize wr.alloc (.cells #[.int .i64 t, .int .i64 r] 43) = W1 at *
            have b1 : ∀ n os, (grow (W1.drewN n) os).cell? ⟨wr.heap.size, 0, none⟩ = some (.int .i64 t) := fun n os => Grew.cell ⟨n, os, rfl⟩ B1.out.1
            have b2 : ∀ n os, (grow (W1.drewN n) os).cell? ⟨wr.heap.size, 1, none⟩ = some (.int .i64 r) := fun n os => Grew.cell ⟨n, os, rfl⟩ B1.out.2
            have d1 : ∀ n os, (grow (W1.drewN n) os).cell? ⟨b, off + (k - 1) * 2, none⟩ = some (.int .i64 u) := fun n os => Grew.cell ⟨n, os, rfl⟩ (HGa.out.cell p1)
            have d2 : ∀ n os, (grow (W1.drewN n) os).cell? ⟨b, off + (k - 1) * 2 + 1, none⟩ = some (.int .i64 s) := fun n os => Grew.cell ⟨n, os, rfl⟩ (HGa.out.cell p2)
            clear p1 p2
            refine wp_region_quiet_grown mx (by kernel_rfl) ?_
            repeat (go_big_quiet_step (first
              | (go_at_call 72; exact Calls.grown_of (HCk.out _))
              | (go_at_call 50; exact Calls.grown_of (HCm.out _))))
            refine wpQuiet_nil ?_
            intro _ hw'
            obtain ⟨⟨nq, osq⟩, hw''⟩ := hw'
            subst hw''
            have HG2 : Hid (Grew w (grow (W1.drewN nq) osq)) := HG1.out.trans ⟨_, _, rfl⟩
            generalize grow (W1.drewN nq) osq = W2 at *
            go_wp2_with fail
            go_roundw
            case rel => exact ⟨k + 1, by omega, by go_num, HE, HG2⟩
            case measure => simp [intOf]; omega
    · obtain rfl : k = n := by omega
      have HE : Hid (decide (Rise L) = true) := by rw [Hid, decide_eq_true_iff]; have := HR.out; rwa [HN.out, List.take_length] at this
      go_wp2
      go_ret
      exact ⟨by rw [HE.out]; rfl, HG.out⟩

end Go.Proofs.YtbmohlkcmhhpgaaGreat
