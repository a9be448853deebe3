/-
  THE WALK OF preluderef01.Reader's Bytes.
-/
import Derived.Test.YthdlilekilkogaaMRaw
namespace Go.Proofs.Ythdlilekilkogaa
open Go.RowKit

theorem Models.trans {w w1 w2 : World} {r : Nat} {a : Option Addr} {c : Nat} {b : List Nat} {p q : Nat} {e x : Int} (h : Models w r a c b p e w1) (k : Models w1 r a c b q x w2) : Models w r a c b q x w2 := ⟨k.1, grown_trans' h.2 k.2⟩

set_option maxHeartbeats 1000000 in
theorem mBytes_any (w : World) (r g c : Nat) (b : List Nat) (p : Nat) (e : Int) (most : Int) (h : IsModel w r (some ⟨g, 0, none⟩) c b p e) (hmo : -9223372036854775808 ≤ most) (hmo' : most ≤ 9223372036854775807) :
    Calls Try.prog 45 #[.pointer (some ⟨r, 0, none⟩), .int .i64 most] w fun e' w' => ∃ v, e' = .returned v ∧ OwnB w' w.heap.size v (rdBytes b p e most).1 ∧ Models w r (some ⟨g, 0, none⟩) c b (rdBytes b p e most).2.1 (rdBytes b p e most).2.2 w' := by
  have HR : Hid (IsModel w r (some ⟨g, 0, none⟩) c b p e) := h
  have h1 := h.c1
  have hp := h.2.2.1
  have hl := h.2.2.2
  clear h
  go_enter Try.func45, Try.ntmps45
  go_wp2_with fail
  refine (mUint_any w r g c b p e HR.out).mono ?_
  rintro e1 w1 ⟨rfl, hr1, hg1⟩
  have k0 := hr1.c0
  have k1 := hr1.c1
  have k2 := hr1.c2
  have f1 := hr1.frozen 1
  have f2 := hr1.frozen 2
  have HG1 : Hid (w.grownBy w1 (some r)) := hg1
  have HR1 : Hid (IsModel w1 r (some ⟨g, 0, none⟩) c b (rdUpto b p e 18446744073709551615).2.1 (rdUpto b p e 18446744073709551615).2.2) := hr1
  clear hr1 hg1 h1
  by_cases he : e = 0
  · subst he
    have HU : Hid (rdUpto b p 0 18446744073709551615 = ((scan (b.drop p)).1, p + (scan (b.drop p)).2.1, (((scan (b.drop p)).2.2 : Nat) : Int))) := rdUpto_scan b HR.out.2.1.1 p
    have HM : Hid (rdBytes b p 0 most = if (scan (b.drop p)).2.2 ≠ 0 then ([], p, (((scan (b.drop p)).2.2 : Nat) : Int)) else if most < 0 ∨ most < (((scan (b.drop p)).1 : Nat) : Int) then ([], p, 12)
        else if b.length - p - (scan (b.drop p)).2.1 < (scan (b.drop p)).1 then ([], p, 10) else rdRaw b (p + (scan (b.drop p)).2.1) 0 (((scan (b.drop p)).1 : Nat) : Int)) := by
      unfold rdBytes; rw [Hid, if_neg (by simp)]
    have HZ : Hid ((scan (b.drop p)).2.2 ≠ 0 → (scan (b.drop p)).1 = 0 ∧ (scan (b.drop p)).2.1 = 0) := scan_zero (b.drop p)
    have hsl := scan_lt (b.drop p) (fun z hz => HR.out.2.1.1 z (List.mem_of_mem_drop hz))
    rw [List.length_drop] at hsl
    rw [HU.out] at k1 k2
    rw [HU.out] at HR1
    rw [HU.out]
    clear HU
    generalize scan (b.drop p) = s at *
    obtain ⟨n, k, x⟩ := s
    simp only at *
    obtain ⟨hs1, hs2⟩ := hsl
    by_cases t1 : x = 0
    · subst t1
      have HBK : Hid (∀ y : Int, Models w r (some ⟨g, 0, none⟩) c b p y ((w1.setCell ⟨r, 2, none⟩ (.int .i64 y)).setCell ⟨r, 1, none⟩ (.int .i64 (p : Int)))) := fun y => ⟨(HR1.out.setErr y).setAt p hp, grown_trans' HG1.out (grown_trans' (grown_setCell w1 ⟨r, 2, none⟩ _) (grown_setCell _ ⟨r, 1, none⟩ _))⟩
      by_cases t2 : most < 0
      · have HE : Hid (rdBytes b p 0 most = ([], p, 12)) := by rw [Hid, HM.out, if_neg (by simp), if_pos (.inl t2)]
        have HF := HBK.out 12
        have HFF : Hid (Models w r (some ⟨g, 0, none⟩) c b p 12 ((w1.setCell ⟨r, 2, none⟩ (.int .i64 12)).setCell ⟨r, 1, none⟩ (.int .i64 (p : Int)))) := HF
        clear HF
        go_wp2
        go_ret
        exact ⟨_, rfl, by rw [HE.out]; exact OwnB.nil _ _, by rw [HE.out]; exact HFF.out⟩
      · obtain ⟨M, rfl⟩ := Int.eq_ofNat_of_zero_le (show 0 ≤ most by omega)
        by_cases t3 : M < n
        · have t3' : (M : Int) < (n : Int) := by omega
          have HE : Hid (rdBytes b p 0 (M : Int) = ([], p, 12)) := by rw [Hid, HM.out, if_neg (by simp), if_pos (.inr t3')]
          have HFF : Hid (Models w r (some ⟨g, 0, none⟩) c b p 12 ((w1.setCell ⟨r, 2, none⟩ (.int .i64 12)).setCell ⟨r, 1, none⟩ (.int .i64 (p : Int)))) := HBK.out 12
          clear t3
          go_wp2
          go_ret
          exact ⟨_, rfl, by rw [HE.out]; exact OwnB.nil _ _, by rw [HE.out]; exact HFF.out⟩
        · have t3' : ¬ (M : Int) < (n : Int) := by omega
          have hsub : (b.length : Int) - ((p + k : Nat) : Int) = ((b.length - p - k : Nat) : Int) := by omega
          by_cases t4 : b.length - p - k < n
          · have t4' : (b.length : Int) - ((p : Int) + (k : Int)) < (n : Int) := by omega
            have HE : Hid (rdBytes b p 0 (M : Int) = ([], p, 10)) := by rw [Hid, HM.out, if_neg (by simp), if_neg (by omega), if_pos t4]
            have HFF : Hid (∀ nq, Models w r (some ⟨g, 0, none⟩) c b p 10 (((w1.setCell ⟨r, 2, none⟩ (.int .i64 10)).setCell ⟨r, 1, none⟩ (.int .i64 (p : Int))).drewN nq)) := fun nq => ⟨(HBK.out 10).1, grown_trans' (HBK.out 10).2 (grown_drewN _ _ _)⟩
            clear t3 t4 hsub
            go_wp2
            go_quiet (fail)
            have HF3 := HFF.out nq
            go_wp2
            go_ret
            exact ⟨_, rfl, by rw [HE.out]; exact OwnB.nil _ _, by rw [HE.out]; exact HF3⟩
          · have t4' : ¬ (b.length : Int) - ((p : Int) + (k : Int)) < (n : Int) := by omega
            have HE : Hid (rdBytes b p 0 (M : Int) = rdRaw b (p + k) 0 (n : Int)) := by rw [Hid, HM.out, if_neg (by simp), if_neg (by omega), if_neg t4]
            have hn47 : n ≤ 140737488355328 := by omega
            clear t3 t4 hsub
            go_wp2
            go_quiet (fail)
            have HR2 : Hid (IsModel (w1.drewN nq) r (some ⟨g, 0, none⟩) c b (p + k) 0) := HR1.out
            have HG2 : Hid (w.grownBy (w1.drewN nq) (some r)) := grown_trans' HG1.out (grown_drewN _ _ _)
            generalize w1.drewN nq = w2 at *
            have m2 := HR2.out.c2
            clear k0 k1 k2 f1 f2 HBK HR1
            go_wp2_with fail
            refine (mRaw_any w2 r g c b (p + k) 0 (n : Int) HR2.out).mono ?_
            rintro e3 w3 ⟨v, rfl, hown, hm⟩
            have HO : Hid (OwnB w3 w.heap.size v (rdRaw b (p + k) 0 (n : Int)).1) := hown.mono HG2.out.size
            have HM3 : Hid (Models w r (some ⟨g, 0, none⟩) c b (rdRaw b (p + k) 0 (n : Int)).2.1 (rdRaw b (p + k) 0 (n : Int)).2.2 w3) := ⟨hm.1, grown_trans' HG2.out hm.2⟩
            clear hown hm
            go_wp2
            go_ret
            exact ⟨v, rfl, by rw [HE.out]; exact HO.out, by rw [HE.out]; exact HM3.out⟩
    · have hT3 : (((x : Nat) : Int) != 0) = true := by rw [bne_iff_ne]; omega
      have HE : Hid (rdBytes b p 0 most = ([], p, ((x : Nat) : Int))) := by rw [Hid, HM.out, if_pos t1]
      have HW' : Hid (Models w r (some ⟨g, 0, none⟩) c b p ((x : Nat) : Int) w1) := ⟨by have := HR1.out; rw [(HZ.out t1).2] at this; exact this, HG1.out⟩
      clear t1
      go_wp2
      go_ret
      exact ⟨_, rfl, by rw [HE.out]; exact OwnB.nil _ _, by rw [HE.out]; exact HW'.out⟩
  · have he' : (e != 0) = true := by rw [bne_iff_ne]; exact he
    have HE : Hid (rdUpto b p e 18446744073709551615 = (0, p, e)) := by unfold rdUpto; rw [Hid, if_pos he]
    have HE2 : Hid (rdBytes b p e most = ([], p, e)) := by unfold rdBytes; rw [Hid, if_pos he]
    rw [HE.out] at k1 k2
    rw [HE.out] at HR1
    rw [HE.out]
    clear he HE
    go_wp2
    go_ret
    exact ⟨_, rfl, by rw [HE2.out]; exact OwnB.nil _ _, by rw [HE2.out]; exact ⟨HR1.out, HG1.out⟩⟩

end Go.Proofs.Ythdlilekilkogaa
