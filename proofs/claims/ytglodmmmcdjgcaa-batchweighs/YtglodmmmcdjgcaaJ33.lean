import Derived.Test.YtglodmmmcdjgcaaJ32
import Derived.Test.YtglodmmmcdjgcaaJ11
/-
  apart: each set, and each list of sets, holds its own mark alone.
-/
namespace Go.Proofs.Ytglodmmmcdjgcaa.Kk
open Go.RowKit Go.Sort

set_option maxRecDepth 100000 in
set_option maxHeartbeats 4000000 in
theorem apartV_any (w0 w : World) (B : Nat) (aK : Option Addr) (cK : Nat) (aO : Option Addr) (cO : Nat) (Ks : List Ic) (Os : List It) (h : SW w0 w B aK cK aO cO Ks Os) :
    Calls Try.prog 13 #[.pointer (some ⟨B, 0, none⟩)] w fun e w' => e = .returned (.bool true) ∧ Below w0.heap.size w0 w' := by
  obtain ⟨nK, hK⟩ : ∃ n, n = Ks.length := ⟨_, rfl⟩
  obtain ⟨nO, hO⟩ : ∃ n, n = Os.length := ⟨_, rfl⟩
  have HS : Hid (SW w0 w B aK cK aO cO Ks Os) := h
  have HL : Hid (nK = Ks.length ∧ nO = Os.length) := ⟨hK, hO⟩
  have hn : nK ≤ 200000 ∧ nO ≤ 2 := by have := h.n; omega
  have HC : Hid (∀ W, SW w0 W B aK cK aO cO Ks Os → W.cell? ⟨B, 0, none⟩ = some (.slice none 0 0) ∧ W.cell? ⟨B, 1, none⟩ = some (.slice aK nK cK) ∧ W.cell? ⟨B, 2, none⟩ = some (.slice none 0 0) ∧ W.cell? ⟨B, 3, none⟩ = some (.slice aO nO cO) ∧ W.cell? ⟨B, 4, none⟩ = some (.slice none 0 0)) := fun W hW => by rw [hK, hO]; exact hW.cells
  clear h hK hO
  go_enter Try.func13, Try.ntmps13
  go_wp2_with fail
  refine (fillV_any w0 w B aK cK aO cO Ks Os nK nO HL.out.1 HL.out.2 HS.out).mono ?_
  rintro e w1 ⟨rfl, hs1, hu1, hu2⟩
  have HS1 : Hid (SW w0 w1 B aK cK aO cO Ks Os ∧ UpC w1 Ks Ks.length ∧ OUp w1 (B + 1) Os Os.length) := ⟨hs1, hu1, hu2⟩
  clear hs1 hu1 hu2 HS
  go_wp2_with fail
  refine (growV_any w0 w1 B aK cK aO cO Ks Os nK nO HL.out.1 HL.out.2 HS1.out.1).mono ?_
  rintro e W ⟨rfl, hb2⟩
  have HQ : Hid (SW w0 W B aK cK aO cO Ks Os ∧ UpC W Ks Ks.length ∧ OUp W (B + 1) Os Os.length) := ⟨HS1.out.1.spr hb2, HS1.out.2.1.spr HS1.out.1 hb2, HS1.out.2.2.spr HS1.out.1 hb2⟩
  clear hb2 HS1
  go_wp2_with fail
  go_loopw [3] (fun x wr => ∃ i : Nat, i ≤ nK ∧ x = .int .i64 (i : Int) ∧ Hid (SW w0 wr B aK cK aO cO Ks Os ∧ UpC wr Ks Ks.length ∧ OUp wr (B + 1) Os Os.length)) (fun x _ => nK - (intOf x).toNat)
  case atStart => exact ⟨0, Nat.zero_le _, rfl, HQ⟩
  case round =>
    clear HQ
    obtain ⟨i, hi, rfl, HQ⟩ := hrel
    obtain ⟨c0, c1, c2, c3, c4⟩ := HC.out wr HQ.out.1
    by_cases hlt : i < nK
    · have hil : i < Ks.length := by have := HL.out.1; omega
      obtain ⟨hg, ha, hce0⟩ := HQ.out.1.elK i hil
      clear hce0
      have HEl : Hid (∀ W, SW w0 W B aK cK aO cO Ks Os → W.cell? ⟨hg, i, none⟩ = some (icv Ks[i])) := fun W hW => by
        obtain ⟨hg', e, c⟩ := hW.elK i hil
        rw [ha] at e
        simp only [Option.some.injEq, Addr.mk.injEq, and_true] at e
        rw [← e] at c
        exact c
      have HRw : Hid (Rc wr w0.heap.size B Ks[i]) := HQ.out.1.rK _ (List.getElem_mem hil)
      have hm64 : Ks[i].2.1 ≤ 100000 := HQ.out.1.lK _ (List.getElem_mem hil)
      have HMk : Hid (∀ W, UpC W Ks Ks.length → ∀ g, Ks[i].1 = some g → Mrk W g 2 Ks[i].2.1 (patK i)) := fun W hu g e => hu i hil hil g e
      generalize Ks[i] = it at *
      rw [ha] at c1
      clear hil
      obtain ⟨og, m, mc⟩ := it
      simp only at hm64 HMk
      obtain ⟨ao, hao⟩ : ∃ ao, icv (og, m, mc) = .slice ao m mc := ⟨_, rfl⟩
      have HAo : Hid (∀ g, og = some g → ao = some ⟨g, 0, none⟩) := fun g e => by subst e; simp [icv] at hao; exact hao.symm
      rw [hao] at HEl
      have HA : Hid (aK = some ⟨hg, 0, none⟩) := ha
      clear hao ha
      have ce := HEl.out wr HQ.out.1
      go_wp2_with fail
      clear c0 c1 c2 c3 c4 ce
      generalize wr = W at *
      go_loopw [4] (fun x wr => ∃ k : Nat, k ≤ m ∧ x = .int .i64 (k : Int) ∧ Hid (SW w0 wr B aK cK aO cO Ks Os ∧ UpC wr Ks Ks.length ∧ OUp wr (B + 1) Os Os.length)) (fun x _ => m - (intOf x).toNat)
      case atStart => exact ⟨0, Nat.zero_le _, rfl, HQ⟩
      case round =>
        clear HQ
        obtain ⟨k, hk, rfl, HQ⟩ := hrel
        obtain ⟨c0, c1, c2, c3, c4⟩ := HC.out wr HQ.out.1
        rw [HA.out] at c1
        have ce := HEl.out wr HQ.out.1
        by_cases hlt : k < m
        · cases og with
          | none => have := HRw.out.nat0; omega
          | some g =>
            have hao := HAo.out g rfl
            subst hao
            have e0 := (HMk.out wr HQ.out.2.1 g rfl) k hlt 0 _ rfl
            have e1 := (HMk.out wr HQ.out.2.1 g rfl) k hlt 1 _ rfl
            rw [Nat.add_zero] at e0
            have hq := run_neKey (-50 - (i : Int)) 0 (-50 - (i : Int)) 0
            have hgd := fun op x y => run_eqGuard op x y (-50 - (i : Int)) 0 (-50 - (i : Int)) 0
            simp only [decide_true, Bool.not_true] at hq
            go_wp2_with fail
            exact ⟨⟨k + 1, by omega, by go_num, HQ⟩, by simp [intOf]; omega⟩
        · obtain rfl : k = m := by omega
          go_wp2_with fail
          exact ⟨⟨i + 1, by omega, by go_num, HQ⟩, by simp [intOf]; omega⟩
    · obtain rfl : i = nK := by omega
      clear hlt
      go_wp2_with fail
      clear c0 c1 c2 c3 c4
      generalize wr = W at *
      go_loopw [5] (fun x wr => x = .int .i64 0 ∧ Hid (SW w0 wr B aK cK aO cO Ks Os ∧ UpC wr Ks Ks.length ∧ OUp wr (B + 1) Os Os.length)) (fun _ _ => 0)
      case atStart => exact ⟨rfl, HQ⟩
      case round =>
        clear HQ
        obtain ⟨rfl, HQ⟩ := hrel
        obtain ⟨c0, c1, c2, c3, c4⟩ := HC.out wr HQ.out.1
        go_wp2_with fail
        clear c0 c1 c2 c3 c4
        generalize wr = wy at *
        go_loopw [7] (fun x wr => x = .int .i64 0 ∧ Hid (SW w0 wr B aK cK aO cO Ks Os ∧ UpC wr Ks Ks.length ∧ OUp wr (B + 1) Os Os.length)) (fun _ _ => 0)
        case atStart => exact ⟨rfl, HQ⟩
        case round =>
          clear HQ
          obtain ⟨rfl, HQ⟩ := hrel
          obtain ⟨c0, c1, c2, c3, c4⟩ := HC.out wr HQ.out.1
          go_wp2_with fail
          clear c0 c1 c2 c3 c4
          generalize wr = wy at *
          go_loopw [9] (fun x wr => x = .int .i64 0 ∧ Hid (SW w0 wr B aK cK aO cO Ks Os ∧ UpC wr Ks Ks.length ∧ OUp wr (B + 1) Os Os.length)) (fun _ _ => 0)
          case atStart => exact ⟨rfl, HQ⟩
          case round =>
            clear HQ
            obtain ⟨rfl, HQ⟩ := hrel
            obtain ⟨c0, c1, c2, c3, c4⟩ := HC.out wr HQ.out.1
            go_wp2_with fail
            clear c0 c1 c2 c3 c4
            generalize wr = wy at *
            go_loopw [11] (fun x wr => ∃ i : Nat, i ≤ nO ∧ x = .int .i64 (i : Int) ∧ Hid (SW w0 wr B aK cK aO cO Ks Os ∧ UpC wr Ks Ks.length ∧ OUp wr (B + 1) Os Os.length)) (fun x _ => nO - (intOf x).toNat)
            case atStart => exact ⟨0, Nat.zero_le _, rfl, HQ⟩
            case round =>
              clear HQ
              obtain ⟨i, hi, rfl, HQ⟩ := hrel
              obtain ⟨c0, c1, c2, c3, c4⟩ := HC.out wr HQ.out.1
              by_cases hlt : i < nO
              · have hil : i < Os.length := by have := HL.out.2; omega
                obtain ⟨hg, ha, hce0⟩ := HQ.out.1.oO.el i hil
                clear hce0
                have HEl : Hid (∀ W, SW w0 W B aK cK aO cO Ks Os → W.cell? ⟨hg, i, none⟩ = some (itv Os[i])) := fun W hW => by
                  obtain ⟨hg', e, c⟩ := hW.oO.el i hil
                  rw [ha] at e
                  simp only [Option.some.injEq, Addr.mk.injEq, and_true] at e
                  rw [← e] at c
                  exact c
                have HRw : Hid (Rw wr 30 1 w0.heap.size B Os[i]) := HQ.out.1.rO _ (List.getElem_mem hil)
                have hm64 : Os[i].2 ≤ 100000 := HQ.out.1.lO _ (List.getElem_mem hil)
                have HMk : Hid (∀ W, OUp W (B + 1) Os Os.length → ∀ g, Os[i].1 = some g → OMk W (B + 1) g Os[i].2 i) := fun W hu g e => hu i hil hil g e
                generalize Os[i] = it at *
                rw [ha] at c3
                clear hil
                obtain ⟨og, m⟩ := it
                simp only at hm64 HMk
                obtain ⟨ao, hao⟩ : ∃ ao, itv (og, m) = .slice ao m m := ⟨_, rfl⟩
                have HAo : Hid (∀ g, og = some g → ao = some ⟨g, 0, none⟩) := fun g e => by subst e; rw [itv_some] at hao; simp at hao; exact hao.symm
                rw [hao] at HEl
                have HA : Hid (aO = some ⟨hg, 0, none⟩) := ha
                clear hao ha
                have ce := HEl.out wr HQ.out.1
                go_wp2_with fail
                clear c0 c1 c2 c3 c4 ce
                generalize wr = W at *
                go_loopw [12] (fun x wr => ∃ k : Nat, k ≤ m ∧ x = .int .i64 (k : Int) ∧ Hid (SW w0 wr B aK cK aO cO Ks Os ∧ UpC wr Ks Ks.length ∧ OUp wr (B + 1) Os Os.length)) (fun x _ => m - (intOf x).toNat)
                case atStart => exact ⟨0, Nat.zero_le _, rfl, HQ⟩
                case round =>
                  clear HQ
                  obtain ⟨k, hk, rfl, HQ⟩ := hrel
                  obtain ⟨c0, c1, c2, c3, c4⟩ := HC.out wr HQ.out.1
                  rw [HA.out] at c3
                  have ce := HEl.out wr HQ.out.1
                  by_cases hlt : k < m
                  · cases og with
                    | none => have := nat0 HRw.out; omega
                    | some g =>
                      have hao := HAo.out g rfl
                      subst hao
                      obtain ⟨x, d0, _, d2⟩ := (HMk.out wr HQ.out.2.2 g rfl) k hlt
                      have e0 : wr.cell? ⟨x, 0, none⟩ = some (.int .i64 (-50 - (i : Int))) := by simp [World.cell?, d2]
                      have e1 : wr.cell? ⟨x, 1, none⟩ = some (.int .i64 0) := by simp [World.cell?, d2]
                      have hq := run_neKey (-50 - (i : Int)) 0 (-50 - (i : Int)) 0
                      have hgd := fun op x y => run_eqGuard op x y (-50 - (i : Int)) 0 (-50 - (i : Int)) 0
                      simp only [decide_true, Bool.not_true] at hq
                      clear d2
                      go_wp2_with fail
                      exact ⟨⟨k + 1, by omega, by go_num, HQ⟩, by simp [intOf]; omega⟩
                  · obtain rfl : k = m := by omega
                    go_wp2_with fail
                    exact ⟨⟨i + 1, by omega, by go_num, HQ⟩, by simp [intOf]; omega⟩
              · obtain rfl : i = nO := by omega
                clear hlt
                go_wp2
                go_ret
                exact ⟨rfl, HQ.out.1.bel⟩
end Go.Proofs.Ytglodmmmcdjgcaa.Kk
