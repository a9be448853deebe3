/-
  kept: the walk.
-/
import Derived.Test.YteobmijfbjgccaaZKeptK
namespace Go.Proofs.Yteobmijfbjgccaa
open Go.RowKit Go.Sort

set_option maxRecDepth 100000 in
set_option maxHeartbeats 4000000 in
theorem kept_any {N : Nat} {w : World} {pb : Nat} {Cp : Array Value} {lio : Option Addr} {lic t : Nat} {ro : Nat → Option Addr} {rc : Nat → Nat} {vals : Nat → List Int} (h : KL N w pb Cp lio lic t ro rc vals) (wo : Option Addr) (wc : Nat) (ro2 : Nat → Option Addr) (rc2 : Nat → Nat) (h5 : Cp[5]? = some (.slice wo t wc)) (hw : OwZ N 23 w wo t wc ((List.range t).map (fun i => .slice (ro2 i) (vals i).length (rc2 i)))) (hr : ∀ i, i < t → OwZ N 3 w (ro2 i) (vals i).length (rc2 i) (i64s (vals i))) (hN : N ≤ w.heap.size) (ht : t ≤ 1000000) :
    Calls Try.prog 14 #[ptZ pb] w fun e w' => e = .returned (.bool true) ∧ RowKit.Below N w w' := by
  have p4 := h.cell
  have p5 : w.cell? ⟨pb, 5, none⟩ = some (.slice wo t wc) := by
    simp only [World.cell?, h.pc]
    exact h5
  have HF1 : Hid (∀ i, i < t → ∃ b off, lio = some ⟨b, off, none⟩ ∧ w.cell? ⟨b, off + i, none⟩ = some (.slice (ro i) (vals i).length (rc i)) ∧ ∃ b2 off2, wo = some ⟨b2, off2, none⟩ ∧ w.cell? ⟨b2, off2 + i, none⟩ = some (.slice (ro2 i) (vals i).length (rc2 i)) ∧ Hid (∀ wr, (∃ q, wr = w.drewN q) → ∀ q, Calls Try.prog 29 #[.slice (ro i) (vals i).length (rc i), .slice (ro2 i) (vals i).length (rc2 i)] (wr.drewN q) fun e w' => e = .returned (.bool true) ∧ ∃ q', w' = wr.drewN q')) := fun i hi => by
    obtain ⟨b, off, e1, c1⟩ := h.item hi
    obtain ⟨b2, off2, e2, c2⟩ := hw.at_ i (.slice (ro2 i) (vals i).length (rc2 i)) (by simp [hi])
    refine ⟨b, off, e1, c1, b2, off2, e2, c2, ?_⟩
    rintro wr ⟨q0, rfl⟩ q
    have hb : RowKit.Below w.heap.size w ((w.drewN q0).drewN q) := below_drewN (below_drewN (Below.refl _ _) q0) q
    refine (sameIntsZ2 ((w.drewN q0).drewN q) (ro i) (ro2 i) (vals i).length (rc i) (rc2 i) (vals i) ((h.rw i hi).1.at_.below hb) ((hr i hi).at_.below hb) rfl (by have := (h.rw i hi).2; omega)).mono ?_
    rintro e w' ⟨h1, q', rfl⟩
    exact ⟨h1, q + q', by rw [World.drewN_drewN]⟩
  have HL : Hid (∀ i, i < t → (vals i).length ≤ 10000000) := fun i hi => (h.rw i hi).2
  have HK : Hid (∀ q, K2 N w (w.drewN q) pb Cp lio lic t ro rc (fun j => (vals j).length) 0 0) := fun q => by
    have hb : RowKit.Below w.heap.size w (w.drewN q) := below_drewN (Below.refl _ _) q
    exact ⟨vals, h.kept hb, ⟨fun _ => rfl, fun j m _ hc => by omega⟩, hb.mono hN⟩
  have HN := hidW hN
  clear h h5 hw hr hN
  go_enter Try.func14, Try.ntmps14
  go_wp2_with fail
  go_loopw [3] (fun x wr => ∃ i : Nat, i ≤ t ∧ x = .int .i64 (i : Int) ∧ Hid (∃ q, wr = w.drewN q)) (fun x _ => t - (intOf x).toNat)
  case atStart => exact ⟨0, Nat.zero_le _, rfl, ⟨0, rfl⟩⟩
  case round =>
    obtain ⟨i, hi, rfl, HQ⟩ := hrel
    replace p4 : wr.cell? ⟨pb, 4, none⟩ = some (.slice lio t lic) := by obtain ⟨q, rfl⟩ := HQ.out; exact p4
    replace p5 : wr.cell? ⟨pb, 5, none⟩ = some (.slice wo t wc) := by obtain ⟨q, rfl⟩ := HQ.out; exact p5
    by_cases hlt : i < t
    · obtain ⟨b, off, e1, c1, b2, off2, e2, c2, HS⟩ := HF1.out i hlt
      replace c1 : wr.cell? ⟨b, off + i, none⟩ = some (.slice (ro i) (vals i).length (rc i)) := by obtain ⟨q, rfl⟩ := HQ.out; exact c1
      replace c2 : wr.cell? ⟨b2, off2 + i, none⟩ = some (.slice (ro2 i) (vals i).length (rc2 i)) := by obtain ⟨q, rfl⟩ := HQ.out; exact c2
      have HSc := hidW (HS.out wr HQ.out)
      have HQ2 : Hid (∀ p, ∃ q, wr.drewN p = w.drewN q) := fun p => by obtain ⟨q, rfl⟩ := HQ.out; exact ⟨q + p, by rw [World.drewN_drewN]⟩
      clear HS HF1 HK HN HQ
      subst e1
      subst e2
      have hiI : (i : Int) < (t : Int) := by omega
      generalize (vals i).length = m at *
      go_wp2_with fail
      go_quiet (first | (go_at_call 29; exact HSc.out _))
      go_wp2_with fail
      go_roundw
      case rel => exact ⟨i + 1, by omega, by go_num, HQ2.out nq⟩
      case measure => simp [intOf]; omega
    · obtain rfl : i = t := by omega
      have HS : Hid (K2 N w wr pb Cp lio lic i ro rc (fun j => (vals j).length) 0 0) := by obtain ⟨q, rfl⟩ := HQ.out; exact HK.out q
      clear HK HF1 p5 hlt hi HQ
      go_wp2_with fail
      clear p4
      generalize wr = wx at *
      obtain ⟨ln, hln⟩ : ∃ ln : Nat → Nat, ln = fun j => (vals j).length := ⟨_, rfl⟩
      have HLn : Hid (∀ j, j < i → ln j ≤ 10000000) := fun j hj => by rw [hln]; exact HL.out j hj
      rw [← hln] at HS
      clear hln HL
      go_loopw [5] (fun x wr => ∃ j : Nat, j ≤ i ∧ x = .int .i64 (j : Int) ∧ Hid (K2 N w wr pb Cp lio lic i ro rc ln j 0)) (fun x _ => i - (intOf x).toNat)
      case atStart => exact ⟨0, Nat.zero_le _, rfl, HS⟩
      case round =>
        clear HS
        obtain ⟨j, hj, rfl, HI⟩ := hrel
        have p4 := HI.out.cell
        by_cases hlt : j < i
        · have hjI : (j : Int) < (i : Int) := by omega
          have hlb := HLn.out j hlt
          go_wp2_with fail
          clear p4
          generalize wr = wy at *
          obtain ⟨m, hm⟩ : ∃ m, m = ln j := ⟨_, rfl⟩
          have HM := hidW hm
          rw [← hm] at hlb
          clear hm
          go_loopw [6] (fun x wr => ∃ k : Nat, k ≤ m ∧ x = .int .i64 (k : Int) ∧ Hid (K2 N w wr pb Cp lio lic i ro rc ln j k)) (fun x _ => m - (intOf x).toNat)
          case atStart => exact ⟨0, Nat.zero_le _, rfl, HI⟩
          case round =>
            clear HI
            obtain ⟨k, hk, rfl, HI⟩ := hrel
            have p4 := HI.out.cell
            obtain ⟨b, off, e1, c1⟩ := HI.out.item hlt
            rw [e1] at p4
            rw [← HM.out] at c1
            by_cases hlt2 : k < m
            · obtain ⟨g, e2, ⟨y, c2⟩, f2, hn⟩ := HI.out.store HN.out hlt (by have := HM.out; omega)
              have HI2 := hidW hn
              clear hn HI e1
              rw [e2] at c1
              have hkI : (k : Int) < (m : Int) := by omega
              go_wp2_with fail
              go_roundw
              case rel => exact ⟨k + 1, by omega, by go_num, HI2⟩
              case measure => simp [intOf]; omega
            · obtain rfl : m = k := by omega
              have HI2 : Hid (K2 N w wr pb Cp lio lic i ro rc ln (j + 1) 0) := by
                have h := HI.out
                rw [HM.out] at h
                exact h.next
              clear HI e1
              go_wp2_with fail
              go_roundw
              case rel => exact ⟨j + 1, by omega, by go_num, HI2⟩
              case measure => simp [intOf]; omega
        · obtain rfl : i = j := by omega
          obtain ⟨vs, hkl, hgd, hbe⟩ := HI.out
          have HKl := hidW hkl
          have HGd := hidW hgd
          have HBe := hidW hbe
          clear hkl hgd hbe HI hlt hj
          go_wp2_with fail
          clear p4
          have HS3 := hidW (K3.start HKl.out HBe.out HN.out)
          clear HKl HBe
          generalize wr = wx3 at *
          go_loopw [8] (fun x wr => ∃ j : Nat, j ≤ i ∧ x = .int .i64 (j : Int) ∧ Hid (K3 N w wr pb Cp lio lic i ro rc vs wx3.heap.size)) (fun x _ => i - (intOf x).toNat)
          case atStart => exact ⟨0, Nat.zero_le _, rfl, HS3⟩
          case round =>
            clear HS3
            generalize wx3.heap.size = mb at *
            obtain ⟨j, hj, rfl, HI⟩ := hrel
            have p4 := HI.out.kl.cell
            by_cases hlt : j < i
            · have hjI : (j : Int) < (i : Int) := by omega
              obtain ⟨b, off, e1, c1⟩ := HI.out.kl.item hlt
              obtain ⟨m, hm⟩ : ∃ m, m = (vs j).length := ⟨_, rfl⟩
              have HM := hidW hm
              have H5 : Hid (K5 N w wr pb Cp lio lic i ro rc vs mb j (ro j) m (rc j) 0) := by
                have h := HI.out.five hlt
                rw [← hm] at h
                exact h
              rw [e1] at p4
              rw [← hm] at c1
              clear hm HI e1
              go_wp2_with fail
              clear p4 c1
              generalize wr = wy at *
              go_loopw [9, 10] (fun gv x wr => ∃ (k : Nat) (go : Option Addr) (gn gc : Nat), k ≤ 24 ∧ x = .int .i64 (k : Int) ∧ gv = .slice go gn gc ∧ Hid (K5 N w wr pb Cp lio lic i ro rc vs mb j go gn gc k)) (fun _ x _ => 24 - (intOf x).toNat)
              case atStart => exact ⟨0, _, _, _, by omega, rfl, rfl, H5⟩
              case round =>
                clear H5
                obtain ⟨k, go, gn, gc, hk, rfl, rfl, HG⟩ := hrel
                by_cases hlt2 : k < 24
                · have hkI : (k : Int) < 24 := by omega
                  have HMo := hidW (HG.out.more hlt2)
                  go_wp2_with (at_builtin; refine wpL_appZ rfl _ _ 23 rfl (.slice go gn gc) (.slice (some ⟨wr.heap.size, 0, none⟩) 1 1) rfl rfl HMo.out ?_; rintro v1 w1 ⟨go1, gc1, rfl, HG1⟩)
                  go_roundw
                  case rel => exact ⟨k + 1, go1, gn + 1, gc1, by omega, by go_num, rfl, HG1⟩
                  case measure => simp [intOf]; omega
                · obtain rfl : k = 24 := by omega
                  rw [show ((24 : Nat) : Int) = 24 from rfl]
                  have h3 := HG.out.2.1
                  obtain ⟨b, off, e1, c1⟩ := h3.kl.item hlt
                  have p4 := h3.kl.cell
                  rw [e1] at p4
                  rw [← HM.out] at c1
                  obtain ⟨v', w3, y1, go', gc', rfl, HZ⟩ := h3.last hlt m HM.out 23
                  have hsl := fun u => sl64Z u mb
                  have d0 : wr.drew.cell? ⟨pb, 4, none⟩ = _ := p4
                  have d1 : wr.drew.cell? ⟨b, off + j, none⟩ = _ := c1
                  clear h3 HG e1
                  simp [go_sem] at y1
                  go_wp2_with fail
                  go_region
                  clear y1 hsl
                  go_wp2_with fail
                  go_roundw
                  case rel => exact ⟨j + 1, by omega, by go_num, HZ⟩
                  case measure => simp [intOf]; omega
            · obtain rfl : i = j := by omega
              have HF : Hid (∀ j, j < i → ∃ b off, lio = some ⟨b, off, none⟩ ∧ wr.cell? ⟨b, off + j, none⟩ = some (.slice (ro j) (ln j) (rc j)) ∧ ∀ k, k < ln j → ∃ g o, ro j = some ⟨g, o, none⟩ ∧ wr.cell? ⟨g, o + k, none⟩ = some (.int .i64 (-20 - (j : Int)))) := fun j hj => by
                obtain ⟨b, off, e1, c1⟩ := HI.out.kl.item hj
                refine ⟨b, off, e1, by rw [← HGd.out.1 j]; exact c1, fun k hk => ?_⟩
                have h1 := HGd.out.2 j k hk (.inl hj)
                exact (HI.out.kl.rw j hj).1.at_ k _ (by simp [i64s, h1])
              have HB := hidW HI.out.be
              clear HI HGd HN
              go_wp2_with fail
              generalize wr = wz at *
              go_loopw [11] (fun x wr => ∃ j : Nat, j ≤ i ∧ x = .int .i64 (j : Int) ∧ wr = wz) (fun x _ => i - (intOf x).toNat)
              case atStart => exact ⟨0, Nat.zero_le _, rfl, rfl⟩
              case round =>
                obtain ⟨j, hj, rfl, hwr⟩ := hrel
                subst hwr
                by_cases hlt : j < i
                · have hjI : (j : Int) < (i : Int) := by omega
                  obtain ⟨b, off, e1, c1, hkk⟩ := HF.out j hlt
                  have HKk := hidW hkk
                  have hlb := HLn.out j hlt
                  rw [e1] at p4
                  clear hkk e1 HLn
                  generalize ln j = m at *
                  go_wp2_with fail
                  go_loopw [12] (fun x wq => ∃ k : Nat, k ≤ m ∧ x = .int .i64 (k : Int) ∧ wq = wr) (fun x _ => m - (intOf x).toNat)
                  case atStart => exact ⟨0, Nat.zero_le _, rfl, rfl⟩
                  case round =>
                    obtain ⟨k, hk, rfl, hwr⟩ := hrel
                    subst hwr
                    by_cases hlt2 : k < m
                    · have hkI : (k : Int) < (m : Int) := by omega
                      obtain ⟨g, o, e2, c2⟩ := HKk.out k hlt2
                      rw [e2] at c1
                      clear e2 HKk HF HB
                      go_wp2_with fail
                      go_roundw
                      case rel => exact ⟨k + 1, by omega, by go_num, trivial⟩
                      case measure => simp [intOf]; omega
                    · obtain rfl : m = k := by omega
                      clear HKk
                      go_wp2_with fail
                      go_roundw
                      case rel => exact ⟨j + 1, by omega, by go_num, trivial⟩
                      case measure => simp [intOf]; omega
                · obtain rfl : i = j := by omega
                  go_wp2
                  go_ret
                  exact ⟨rfl, HB.out⟩
end Go.Proofs.Yteobmijfbjgccaa
