/-
  THE WALKS OF codec.Reader's METHODS: Bytes, End; codec.Read.
-/
import Derived.Test.YtkjmeknaedapjaaRaw
namespace Go.Proofs.Ytkjmeknaedapjaa
open Go.RowKit

def rdBytes (b : List Nat) (p : Nat) (e : Int) (most : Int) : List Nat × Nat × Int :=
  if e ≠ 0 then ([], p, e) else if (scan (b.drop p)).2.2 ≠ 0 then ([], p, (((scan (b.drop p)).2.2 : Nat) : Int)) else if most < 0 ∨ most < (((scan (b.drop p)).1 : Nat) : Int) then ([], p, 12)
  else if b.length - p - (scan (b.drop p)).2.1 < (scan (b.drop p)).1 then ([], p, 10) else rdRaw b (p + (scan (b.drop p)).2.1) 0 (((scan (b.drop p)).1 : Nat) : Int)

set_option maxHeartbeats 1000000 in
theorem rBytes_any (w : World) (r : Nat) (a : Option Addr) (c : Nat) (b : List Nat) (p : Nat) (e : Int) (most : Int) (h : IsReader w r a c b p e) (hmo : -9223372036854775808 ≤ most) (hmo' : most ≤ 9223372036854775807) :
    Calls Try.prog 25 #[.pointer (some ⟨r, 0, none⟩), .int .i64 most] w fun e' w' => ∃ v, e' = .returned v ∧ OwnB w' w.heap.size v (rdBytes b p e most).1 ∧ Reads w r a c b (rdBytes b p e most).2.1 (rdBytes b p e most).2.2 w' := by
  have HR : Hid (IsReader w r a c b p e) := h
  have h0 := h.c0
  have h1 := h.c1
  have h2 := h.c2
  have f1 := h.frozen 1
  have f2 := h.frozen 2
  have hp := h.2.2.1
  have hl := h.2.2.2
  have hnil := h.nil
  have hcm := h.cmax
  clear h
  by_cases he : e = 0
  · subst he
    have HZ : Hid (∀ z ∈ b, z < 256) := HR.out.2.1.1
    have HU : Hid (rdBytes b p 0 most = if (scan (b.drop p)).2.2 ≠ 0 then ([], p, (((scan (b.drop p)).2.2 : Nat) : Int)) else if most < 0 ∨ most < (((scan (b.drop p)).1 : Nat) : Int) then ([], p, 12)
  else if b.length - p - (scan (b.drop p)).2.1 < (scan (b.drop p)).1 then ([], p, 10) else rdRaw b (p + (scan (b.drop p)).2.1) 0 (((scan (b.drop p)).1 : Nat) : Int)) := by
      unfold rdBytes; rw [Hid, if_neg (by simp)]
    have HSC : Hid ((scan (b.drop p)).2.2 = 0 → (scan (b.drop p)).2.1 ≤ (b.drop p).length ∧ (scan (b.drop p)).1 < 18446744073709551616) := by
      intro h0
      have h3 := scan_one (b.drop p) (scan (b.drop p)).1 (scan (b.drop p)).2.1 (fun z hz => HZ.out z (List.mem_of_mem_drop hz)) (by rw [← h0])
      exact ⟨h3.2.2.1, h3.1⟩
    have HMX : Hid ((b.drop p).length ≤ maxLen) := by rw [Hid, List.length_drop]; unfold maxLen; omega
    rcases HR.out.2.1.shape with ⟨hv, hb0⟩ | ⟨g, cap, hv, _, _, _, _, _⟩
    · simp only [Value.slice.injEq] at hv
      obtain ⟨rfl, _, rfl⟩ := hv
      subst hb0
      have hp0 : p = 0 := by simpa using hp
      subst hp0
      have HSB : Hid (BytesAt w none []) := ⟨by simp, .inl rfl⟩
      have HE : Hid (rdBytes [] 0 0 most = ([], 0, 10)) := rfl
      clear hnil hcm HZ HU HSC HMX hp hl
      go_enter Try.func25, Try.ntmps25
      go_wp2
      go_quiet ((go_at_call 40; exact Calls.quiet_of_same (scan_any _ _ _ _ [] rfl (HSB.out.drewN _) (by simp [maxLen]))))
      have HW' : Hid (Reads w r none 0 [] 0 10 ((w.setCell ⟨r, 2, none⟩ (.int .i64 10)).drewN nq)) := ⟨HR.out.setErr 10, grown_trans' (grown_setCell w ⟨r, 2, none⟩ _) (grown_drewN _ _ _)⟩
      rw [show scan [] = (0, 0, 10) from rfl]
      go_wp2
      go_ret
      exact ⟨_, rfl, by rw [HE.out]; exact OwnB.nil _ _, by rw [HE.out]; exact HW'.out⟩
    · simp only [Value.slice.injEq] at hv
      obtain ⟨rfl, _, rfl⟩ := hv
      have hlc := hnil.2
      have hcm' : c ≤ 9223372036854775807 := by unfold maxLen at hcm; omega
      have HLN : Hid (b.length - p = (b.drop p).length) := by rw [Hid, List.length_drop]
      clear hnil hcm HZ
      by_cases hcp : c = p
      · have hbl : b.length = p := by omega
        have HSB : Hid (BytesAt w (some ⟨g, 0, none⟩) []) := ⟨by simp, .inl rfl⟩
        have HE : Hid (rdBytes b p 0 most = ([], p, 10)) := by
          rw [Hid, HU.out, List.drop_of_length_le (by omega)]; rfl
        have hcz : (c : Int) - (p : Int) = 0 := by omega
        have hlz : (b.length : Int) - (p : Int) = 0 := by omega
        clear HU HSC HMX HLN
        go_enter Try.func25, Try.ntmps25
        go_wp2
        go_quiet ((go_at_call 40; exact Calls.quiet_of_same (scan_any _ _ _ _ [] rfl (HSB.out.drewN _) (by simp [maxLen]))))
        have HW' : Hid (Reads w r (some ⟨g, 0, none⟩) c b p 10 ((w.setCell ⟨r, 2, none⟩ (.int .i64 10)).drewN nq)) := ⟨HR.out.setErr 10, grown_trans' (grown_setCell w ⟨r, 2, none⟩ _) (grown_drewN _ _ _)⟩
        rw [show scan [] = (0, 0, 10) from rfl]
        go_wp2
        go_ret
        exact ⟨_, rfl, by rw [HE.out]; exact OwnB.nil _ _, by rw [HE.out]; exact HW'.out⟩
      · have HSB : Hid (BytesAt w (some ⟨g, p, none⟩) (b.drop p)) := by have := HR.out.bytes.drop p; rwa [Nat.zero_add] at this
        go_enter Try.func25, Try.ntmps25
        go_wp2
        go_quiet ((go_at_call 40; exact Calls.quiet_of_same (scan_any _ _ _ _ (b.drop p) HLN.out (HSB.out.drewN _) HMX.out)))
        have HR1 : Hid (IsReader (w.drewN nq) r (some ⟨g, 0, none⟩) c b p 0) := HR.out
        have HG1 : Hid (w.grownBy (w.drewN nq) (some r)) := grown_drewN _ _ _
        have HSZ : Hid ((w.drewN nq).heap.size = w.heap.size) := rfl
        generalize w.drewN nq = w1 at *
        have k0 := HR1.out.c0
        have k1 := HR1.out.c1
        have k2 := HR1.out.c2
        have g1 := HR1.out.frozen 1
        have g2 := HR1.out.frozen 2
        clear h0 h1 h2 f1 f2 HSB HMX
        generalize hs : scan (b.drop p) = s at *
        clear hs
        by_cases t1 : s.2.2 = 0
        · have hT1 : (((s.2.2 : Nat) : Int) != 0) = false := by rw [t1]; simp
          obtain ⟨hk, hn64⟩ := HSC.out t1
          rw [← HLN.out] at hk
          have HU2 : Hid (rdBytes b p 0 most = if most < 0 ∨ most < ((s.1 : Nat) : Int) then ([], p, 12) else if b.length - p - s.2.1 < s.1 then ([], p, 10) else rdRaw b (p + s.2.1) 0 ((s.1 : Nat) : Int)) := by rw [Hid, HU.out, if_neg (by simp [t1])]
          clear t1 HSC HU HLN
          generalize s.1 = n at *
          generalize s.2.1 = k at *
          by_cases t2 : most < 0
          · have HE : Hid (rdBytes b p 0 most = ([], p, 12)) := by rw [Hid, HU2.out, if_pos (.inl t2)]
            have HW' : Hid (Reads w r (some ⟨g, 0, none⟩) c b p 12 (w1.setCell ⟨r, 2, none⟩ (.int .i64 12))) := ⟨HR1.out.setErr 12, grown_trans' HG1.out (grown_setCell w1 ⟨r, 2, none⟩ _)⟩
            go_wp2
            go_ret
            exact ⟨_, rfl, by rw [HE.out]; exact OwnB.nil _ _, by rw [HE.out]; exact HW'.out⟩
          · obtain ⟨mo, rfl⟩ := Int.eq_ofNat_of_zero_le (show 0 ≤ most by omega)
            by_cases t3 : mo < n
            · have t3' : (mo : Int) < (n : Int) := by omega
              have HE : Hid (rdBytes b p 0 (mo : Int) = ([], p, 12)) := by rw [Hid, HU2.out, if_pos (.inr t3')]
              have HW' : Hid (Reads w r (some ⟨g, 0, none⟩) c b p 12 (w1.setCell ⟨r, 2, none⟩ (.int .i64 12))) := ⟨HR1.out.setErr 12, grown_trans' HG1.out (grown_setCell w1 ⟨r, 2, none⟩ _)⟩
              clear t3
              go_wp2
              go_ret
              exact ⟨_, rfl, by rw [HE.out]; exact OwnB.nil _ _, by rw [HE.out]; exact HW'.out⟩
            · have t3' : ¬ (mo : Int) < (n : Int) := by omega
              have HU3 : Hid (rdBytes b p 0 (mo : Int) = if b.length - p - k < n then ([], p, 10) else rdRaw b (p + k) 0 ((n : Nat) : Int)) := by rw [Hid, HU2.out, if_neg (by omega)]
              clear t3 HU2
              go_wp2_with fail
              refine (left_any w1 r _ c b p 0 HR1.out).mono ?_
              rintro e1 w2 ⟨rfl, q, hq⟩
              have HR2 : Hid (IsReader w2 r (some ⟨g, 0, none⟩) c b p 0) := by rw [hq]; exact HR1.out
              have HG2 : Hid (w.grownBy w2 (some r)) := by rw [hq]; exact grown_trans' HG1.out (grown_drewN _ _ _)
              have HSZ2 : Hid (w2.heap.size = w.heap.size) := by rw [hq]; exact HSZ.out
              have j0 := HR2.out.c0
              have j1 := HR2.out.c1
              have j2 := HR2.out.c2
              have d1 := HR2.out.frozen 1
              have d2 := HR2.out.frozen 2
              clear hq k0 k1 k2 g1 g2
              by_cases t4 : b.length - p - k < n
              · have t4' : ((b.length - p : Nat) : Int) - (k : Int) < (n : Int) := by omega
                have HE : Hid (rdBytes b p 0 (mo : Int) = ([], p, 10)) := by rw [Hid, HU3.out, if_pos t4]
                have HW' : Hid (Reads w r (some ⟨g, 0, none⟩) c b p 10 (w2.setCell ⟨r, 2, none⟩ (.int .i64 10))) := ⟨HR2.out.setErr 10, grown_trans' HG2.out (grown_setCell w2 ⟨r, 2, none⟩ _)⟩
                clear t4
                go_wp2
                go_ret
                exact ⟨_, rfl, by rw [HE.out]; exact OwnB.nil _ _, by rw [HE.out]; exact HW'.out⟩
              · have t4' : ¬ ((b.length - p : Nat) : Int) - (k : Int) < (n : Int) := by omega
                have HE : Hid (rdBytes b p 0 (mo : Int) = rdRaw b (p + k) 0 (n : Int)) := by rw [Hid, HU3.out, if_neg t4]
                have HW : Hid (IsReader (w2.setCell ⟨r, 1, none⟩ (.int .i64 ((p : Int) + (k : Int)))) r (some ⟨g, 0, none⟩) c b (p + k) 0) := HR2.out.setAt (p + k) (by omega)
                have HG : Hid (w.grownBy (w2.setCell ⟨r, 1, none⟩ (.int .i64 ((p : Int) + (k : Int)))) (some r)) := grown_trans' HG2.out (grown_setCell w2 ⟨r, 1, none⟩ _)
                have HS3 : Hid ((w2.setCell ⟨r, 1, none⟩ (.int .i64 ((p : Int) + (k : Int)))).heap.size = w.heap.size) := by rw [Hid, ← HSZ2.out]; simp
                clear t4
                go_wp2_with fail
                refine (rRaw_any _ r _ c b (p + k) 0 (n : Int) HW.out).mono ?_
                rintro e3 w3 ⟨v3, rfl, ho3, hr3⟩
                rw [HS3.out] at ho3
                go_wp2
                go_ret
                exact ⟨_, rfl, by rw [HE.out]; exact ho3, by rw [HE.out]; exact ⟨hr3.1, grown_trans' HG.out hr3.2⟩⟩
        · have hT3 : (((s.2.2 : Nat) : Int) != 0) = true := by rw [bne_iff_ne]; omega
          have HE : Hid (rdBytes b p 0 most = ([], p, ((s.2.2 : Nat) : Int))) := by rw [Hid, HU.out, if_pos t1]
          have HW' : Hid (Reads w r (some ⟨g, 0, none⟩) c b p ((s.2.2 : Nat) : Int) (w1.setCell ⟨r, 2, none⟩ (.int .i64 ((s.2.2 : Nat) : Int)))) := ⟨HR1.out.setErr _, grown_trans' HG1.out (grown_setCell w1 ⟨r, 2, none⟩ _)⟩
          clear t1 HSC
          go_wp2
          go_ret
          exact ⟨_, rfl, by rw [HE.out]; exact OwnB.nil _ _, by rw [HE.out]; exact HW'.out⟩
  · have he' : (e != 0) = true := by rw [bne_iff_ne]; exact he
    have HE : Hid (rdBytes b p e most = ([], p, e)) := by unfold rdBytes; rw [Hid, if_pos he]
    clear he hnil
    go_enter Try.func25, Try.ntmps25
    go_wp2
    go_ret
    exact ⟨_, rfl, by rw [HE.out]; exact OwnB.nil _ _, by rw [HE.out]; exact ⟨HR.out, World.grownBy.refl _ _⟩⟩

end Go.Proofs.Ytkjmeknaedapjaa
