/-
  SOURCE: the document's over.
-/
import Derived.Test.YtlabofafmcbfmaaGreatDoorSrPre
import Derived.Test.YtlabofafmcbfmaaGreatDoorSrRef
namespace Go.Proofs.YtlabofafmcbfmaaGreatDoor
open Go.RowKit Go.Sort Go.Shelf

/-- where over ends, and whether well -/
def ovE (l : List UInt8) (a : Nat) : Nat := a + KL (l.drop a)
def ovB (l : List UInt8) (a : Nat) : Bool := !([47, 42].isPrefixOf (l.drop (ovE l a)))
set_option maxRecDepth 100000 in
set_option maxHeartbeats 4000000 in
theorem over_any (w : World) (l : List UInt8) (a : Nat) (ha : a ≤ l.length) (hl : l.length ≤ 65536) :
    Calls Tryz.prog 8 #[.string (S l), .int .i64 (a : Int)] w fun e w' => e = .returned (.tuple #[.int .i64 (ovE l a : Nat), .bool (ovB l a)]) ∧ w' = w := by
  obtain ⟨n, hn⟩ : ∃ n, n = l.length := ⟨_, rfl⟩
  have HN := hidS hn
  have hsz : (S l).size = n := by rw [S_size, hn]
  have hn9 : n ≤ 65536 := by omega
  have ha9 : a ≤ n := by omega
  clear hn hl ha
  go_enter Tryz.func8, Tryz.ntmps8
  go_wp2_with fail
  go_loopw [1, 6] (fun x _ wr => ∃ (k : Nat), a ≤ k ∧ k ≤ n ∧ x = .int .i64 (k : Int) ∧ wr = w ∧ Hid (ovE l a = k + KL (l.drop k))) (fun x _ _ => n - (intOf x).toNat)
  case atStart => exact ⟨a, Nat.le_refl _, ha9, rfl, rfl, rfl⟩
  case round =>
    obtain ⟨k, hak, hkn, rfl, rfl, HI⟩ := hrel
    by_cases hlt : k < n
    · have hkl : k < l.length := by rw [← HN.out]; exact hlt
      have hz : k < (S l).size := by rw [hsz]; exact hlt
      obtain ⟨c, hc⟩ : ∃ c, c = l[k].toNat := ⟨_, rfl⟩
      have hget : ((S l)[k]'hz).toNat = c := by rw [hc]; exact congrArg UInt8.toNat (S_get l k hz)
      have hc9 : c ≤ 255 := by rw [hc]; have := l[k].toNat_lt; omega
      have HBl : Hid (∀ W, Calls Tryz.prog 22 #[.int .u8 (c : Int)] W fun e w' => e = .returned (.bool (blC c)) ∧ w' = W) := fun W => rblank_any W c hc9
      have HC := hidS hc
      obtain ⟨bb, hbb⟩ : ∃ bb, bb = blC c := ⟨_, rfl⟩
      rw [← hbb] at HBl
      cases bb with
      | true =>
        have HF : Hid (ovE l a = (k + 1) + KL (l.drop (k + 1))) := by
          show _ = _
          have e2 : KL (l.drop k) = 1 + KL (l.drop (k + 1)) := by
            rw [List.drop_eq_getElem_cons hkl]
            exact KL_blank ((congrArg blC HC.out.symm).trans hbb.symm)
          rw [HI.out, e2]
          omega
        clear hbb hc HI
        go_wp2_with (first | (go_at_call 22; refine (HBl.out _).mono ?_; rintro e wE ⟨rfl, hwE⟩; have hwE' := hwE.symm; subst hwE'; clear hwE))
        go_roundw
        case rel => exact ⟨k + 1, by omega, by omega, by go_num, trivial, HF⟩
        case measure => simp [intOf]; omega
      | false =>
        have HBB := hidS hbb
        by_cases h47 : c = 47
        · by_cases hk1 : k + 1 < n
          · have hkl1 : k + 1 < l.length := by rw [← HN.out]; exact hk1
            have hz1 : k + 1 < (S l).size := by rw [hsz]; exact hk1
            obtain ⟨d, hd⟩ : ∃ d, d = l[k + 1].toNat := ⟨_, rfl⟩
            have hget1 : ((S l)[k + 1]'hz1).toNat = d := by rw [hd]; exact congrArg UInt8.toNat (S_get l (k + 1) hz1)
            have HD := hidS hd
            have hd9 : d ≤ 255 := by rw [hd]; have := l[k + 1].toNat_lt; omega
            have hkI : (k : Int) + 1 < (n : Int) := by omega
            have hcI : ((c : Int) == 47) = true := by simp; omega
            by_cases hd47 : d = 47
            · have hdI : ((d : Int) == 47) = true := by simp; omega
              have H47 : Hid (c = 47 ∧ d = 47) := ⟨h47, hd47⟩
              clear hbb hc hd h47 hd47
              go_wp2_with (first | (go_at_call 22; refine (HBl.out _).mono ?_; rintro e wE ⟨rfl, hwE⟩; have hwE' := hwE.symm; subst hwE'; clear hwE))
              go_loopw [1] (fun x wq => ∃ (j : Nat), k ≤ j ∧ j ≤ n ∧ x = .int .i64 (j : Int) ∧ wq = wr ∧ Hid (∀ i (hi : i < l.length), k ≤ i → i < j → l[i].toNat ≠ 10)) (fun x _ => n - (intOf x).toNat)
              case atStart => exact ⟨k, Nat.le_refl _, hkn, rfl, rfl, fun i hi h1 h2 => by omega⟩
              case round =>
                obtain ⟨j, hkj, hjn, rfl, hwe, HJ⟩ := hrel
                subst hwe
                by_cases hjl : j < n
                · have hjl2 : j < l.length := by rw [← HN.out]; exact hjl
                  have hzj : j < (S l).size := by rw [hsz]; exact hjl
                  obtain ⟨x, hx⟩ : ∃ x, x = l[j].toNat := ⟨_, rfl⟩
                  have hgetj : ((S l)[j]'hzj).toNat = x := by rw [hx]; exact congrArg UInt8.toNat (S_get l j hzj)
                  have HX := hidS hx
                  have hjI : (j : Int) < (n : Int) := by omega
                  by_cases h10 : x = 10
                  · have h10I : ((x : Int) != 10) = false := by simp; omega
                    have HF : Hid (ovE l a = j + KL (l.drop j)) := by
                      show _ = _
                      rw [HI.out, gap_line hkl1 (HC.out.symm.trans H47.out.1) (HD.out.symm.trans H47.out.2) hkj (by rw [← HN.out]; exact hjn) HJ.out (fun _ => HX.out.symm.trans h10)]
                      omega
                    have hjk : k < j := by
                      rcases Nat.lt_or_ge k j with h1 | h1
                      · exact h1
                      · exfalso
                        have e : j = k := by omega
                        subst e
                        have h2 := (HX.out.trans HC.out.symm).trans H47.out.1
                        omega
                    clear hx h10 HJ HI
                    go_wp2_with fail
                    go_roundw
                    case rel => exact ⟨j, by omega, by omega, rfl, trivial, HF⟩
                    case measure => simp [intOf]; omega
                  · have h10I : ((x : Int) != 10) = true := by simp; omega
                    have HJ2 : Hid (∀ i (hi : i < l.length), k ≤ i → i < j + 1 → l[i].toNat ≠ 10) := fun i hi h1 h2 => by
                      by_cases h3 : i < j
                      · exact HJ.out i hi h1 h3
                      · obtain rfl : i = j := by omega
                        exact fun e => h10 (HX.out.trans e)
                    clear hx h10 HJ
                    go_wp2_with fail
                    go_roundw
                    case rel => exact ⟨j + 1, by omega, by omega, by go_num, trivial, HJ2⟩
                    case measure => simp [intOf]; omega
                · have hje : j = n := by omega
                  subst hje
                  have HF : Hid (ovE l a = j + KL (l.drop j)) := by
                    show _ = _
                    rw [HI.out, gap_line hkl1 (HC.out.symm.trans H47.out.1) (HD.out.symm.trans H47.out.2) hkj (by rw [← HN.out]; exact Nat.le_refl _) HJ.out (fun h => absurd h (by rw [← HN.out]; omega))]
                    omega
                  clear HJ HI
                  go_wp2_with fail
                  go_roundw
                  case rel => exact ⟨j, by omega, by omega, rfl, trivial, HF⟩
                  case measure => simp [intOf]; omega
            · have hdI : ((d : Int) == 47) = false := by simp; omega
              by_cases hd42 : d = 42
              · have hdJ : ((d : Int) == 42) = true := by simp; omega
                have H47 : Hid (c = 47 ∧ d = 42) := ⟨h47, hd42⟩
                clear hbb hc hd h47 hd47 hd42
                go_wp2_with (first | (go_at_call 22; refine (HBl.out _).mono ?_; rintro e wE ⟨rfl, hwE⟩; have hwE' := hwE.symm; subst hwE'; clear hwE))
                go_loopw [6] (fun x wq => ∃ (j : Nat), k + 2 ≤ j ∧ j ≤ n ∧ x = .int .i64 (j : Int) ∧ wq = wr ∧ Hid (Lib.NoOcc (l.drop (k + 2)) [42, 47] (j - (k + 2)))) (fun x _ => n - (intOf x).toNat)
                case atStart => exact ⟨k + 2, Nat.le_refl _, by omega, by go_num, rfl, by show Lib.NoOcc _ _ _; rw [Nat.sub_self]; exact Lib.NoOcc.zero _ _⟩
                case round =>
                  obtain ⟨j, hkj, hjn, rfl, hwe, HJ⟩ := hrel
                  subst hwe
                  by_cases hj1 : j + 1 < n
                  · have hjl2 : j + 1 < l.length := by rw [← HN.out]; exact hj1
                    have hzj : j < (S l).size := by rw [hsz]; omega
                    have hzj1 : j + 1 < (S l).size := by rw [hsz]; exact hj1
                    obtain ⟨x, hx⟩ : ∃ x, x = l[j].toNat := ⟨_, rfl⟩
                    obtain ⟨y, hy⟩ : ∃ y, y = l[j + 1].toNat := ⟨_, rfl⟩
                    have hgetj : ((S l)[j]'hzj).toNat = x := by rw [hx]; exact congrArg UInt8.toNat (S_get l j hzj)
                    have hgetj1 : ((S l)[j + 1]'hzj1).toNat = y := by rw [hy]; exact congrArg UInt8.toNat (S_get l (j + 1) hzj1)
                    have HX := hidS hx
                    have HY := hidS hy
                    have hjI : (j : Int) + 1 < (n : Int) := by omega
                    have HOc : Hid (Lib.occAt (l.drop (k + 2)) [42, 47] (j - (k + 2)) = (decide (x = 42) && decide (y = 47))) := by
                      show _ = _
                      have e : k + 2 + (j - (k + 2)) = j := by omega
                      rw [occ_at (k := k + 2) (j - (k + 2)) (by omega)]
                      simp only [e]
                      exact congr (congrArg (fun p => and (decide (p = 42))) HX.out.symm) (congrArg (fun q => decide (q = 47)) HY.out.symm)
                    by_cases hx42 : x = 42
                    · have hxI : ((x : Int) != 42) = false := by simp; omega
                      by_cases hy47 : y = 47
                      · have hyI : ((y : Int) != 47) = false := by simp; omega
                        have hgeI : ¬ (n : Int) ≤ (j : Int) + 1 := by omega
                        have HF : Hid (ovE l a = (j + 2) + KL (l.drop (j + 2))) := by
                          show _ = _
                          rw [HI.out, gap_block hkl1 (HC.out.symm.trans H47.out.1) (HD.out.symm.trans H47.out.2) hkj hjl2 HJ.out (HX.out.symm.trans hx42) (HY.out.symm.trans hy47)]
                          omega
                        clear hx hy hx42 hy47 HJ HI HOc
                        go_wp2_with fail
                        go_roundw
                        case rel => exact ⟨j + 2, by omega, by omega, by go_num, trivial, HF⟩
                        case measure => simp [intOf]; omega
                      · have hyI : ((y : Int) != 47) = true := by simp; omega
                        have HJ2 : Hid (Lib.NoOcc (l.drop (k + 2)) [42, 47] (j + 1 - (k + 2))) := by
                          show Lib.NoOcc _ _ _
                          rw [show j + 1 - (k + 2) = (j - (k + 2)) + 1 by omega]
                          exact HJ.out.succ (by rw [HOc.out]; simp [hy47])
                        clear hx hy hx42 hy47 HJ HOc
                        go_wp2_with fail
                        go_roundw
                        case rel => exact ⟨j + 1, by omega, by omega, by go_num, trivial, HJ2⟩
                        case measure => simp [intOf]; omega
                    · have hxI : ((x : Int) != 42) = true := by simp; omega
                      have HJ2 : Hid (Lib.NoOcc (l.drop (k + 2)) [42, 47] (j + 1 - (k + 2))) := by
                        show Lib.NoOcc _ _ _
                        rw [show j + 1 - (k + 2) = (j - (k + 2)) + 1 by omega]
                        exact HJ.out.succ (by rw [HOc.out]; simp [hx42])
                      clear hx hy hx42 HJ HOc
                      go_wp2_with fail
                      go_roundw
                      case rel => exact ⟨j + 1, by omega, by omega, by go_num, trivial, HJ2⟩
                      case measure => simp [intOf]; omega
                  · have hjI : ¬ (j : Int) + 1 < (n : Int) := by omega
                    have hgeI : (n : Int) ≤ (j : Int) + 1 := by omega
                    have HF : Hid (ovE l a = k ∧ ovB l a = false) := by
                      obtain ⟨h1, h2⟩ := gap_open hkl1 (HC.out.symm.trans H47.out.1) (HD.out.symm.trans H47.out.2) hkj (by rw [← HN.out]; omega) HJ.out
                      have h3 : ovE l a = k := by rw [HI.out, h1]; rfl
                      exact ⟨h3, by unfold ovB; rw [h3, h2]; rfl⟩
                    clear HJ HI
                    go_wp2_with fail
                    go_ret2
                    exact ⟨by rw [HF.out.1, HF.out.2]; rfl, rfl⟩
              · have hdJ : ((d : Int) == 42) = false := by simp; omega
                have HF : Hid (ovE l a = k ∧ ovB l a = true) := by
                  have p1 : [47, 47].isPrefixOf (l.drop k) = false := pre_ne1 hkl1 47 47 (fun e => hd47 (HD.out.trans e))
                  have p2 : [47, 42].isPrefixOf (l.drop k) = false := pre_ne1 hkl1 47 42 (fun e => hd42 (HD.out.trans e))
                  have g := KL_stop (gap_none p1 p2 (fun h => by simp only [List.getElem_drop, Nat.add_zero]; exact (congrArg blC HC.out.symm).trans HBB.out.symm))
                  have h3 : ovE l a = k := by rw [HI.out, g]; rfl
                  exact ⟨h3, by unfold ovB; rw [h3, p2]; rfl⟩
                clear hbb hc hd h47 hd47 hd42 HI
                go_wp2_with (first | (go_at_call 22; refine (HBl.out _).mono ?_; rintro e wE ⟨rfl, hwE⟩; have hwE' := hwE.symm; subst hwE'; clear hwE))
                go_ret2
                exact ⟨by rw [HF.out.1, HF.out.2]; rfl, rfl⟩
          · have hke : k + 1 = n := by omega
            have hkI : ¬ (k : Int) + 1 < (n : Int) := by omega
            have hcI : ((c : Int) == 47) = true := by simp; omega
            have HF : Hid (ovE l a = k ∧ ovB l a = true) := by
              have p1 : [47, 47].isPrefixOf (l.drop k) = false := pre_end (by rw [← HN.out]; omega) _ _
              have p2 : [47, 42].isPrefixOf (l.drop k) = false := pre_end (by rw [← HN.out]; omega) _ _
              have g := KL_stop (gap_none p1 p2 (fun h => by simp only [List.getElem_drop, Nat.add_zero]; exact (congrArg blC HC.out.symm).trans HBB.out.symm))
              have h3 : ovE l a = k := by rw [HI.out, g]; rfl
              exact ⟨h3, by unfold ovB; rw [h3, p2]; rfl⟩
            clear hbb hc h47 HI hke
            go_wp2_with (first | (go_at_call 22; refine (HBl.out _).mono ?_; rintro e wE ⟨rfl, hwE⟩; have hwE' := hwE.symm; subst hwE'; clear hwE))
            go_ret2
            exact ⟨by rw [HF.out.1, HF.out.2]; rfl, rfl⟩
        · have hcI : ((c : Int) == 47) = false := by simp; omega
          have HF : Hid (ovE l a = k ∧ ovB l a = true) := by
            have pp : ∀ y : UInt8, [47, y].isPrefixOf (l.drop k) = false := fun y => by
              rw [List.drop_eq_getElem_cons hkl]
              exact pre_no (fun e => h47 (HC.out.trans e))
            have g := KL_stop (gap_none (pp 47) (pp 42) (fun h => by simp only [List.getElem_drop, Nat.add_zero]; exact (congrArg blC HC.out.symm).trans HBB.out.symm))
            have h3 : ovE l a = k := by rw [HI.out, g]; rfl
            exact ⟨h3, by unfold ovB; rw [h3, pp 42]; rfl⟩
          clear hbb hc h47 HI
          go_wp2_with (first | (go_at_call 22; refine (HBl.out _).mono ?_; rintro e wE ⟨rfl, hwE⟩; have hwE' := hwE.symm; subst hwE'; clear hwE))
          go_ret2
          exact ⟨by rw [HF.out.1, HF.out.2]; rfl, rfl⟩
    · have hke : k = n := by omega
      have HF : Hid (ovE l a = k ∧ ovB l a = true) := by
        have e : l.drop k = [] := List.drop_eq_nil_of_le (by rw [← HN.out]; omega)
        have h3 : ovE l a = k := by rw [HI.out, e]; rfl
        exact ⟨h3, by unfold ovB; rw [h3, e]; rfl⟩
      clear HI
      have hkI : ¬ (k : Int) < (n : Int) := by omega
      clear hke
      go_wp2_with fail
      go_ret2
      exact ⟨by rw [HF.out.1, HF.out.2]; rfl, rfl⟩
end Go.Proofs.YtlabofafmcbfmaaGreatDoor
