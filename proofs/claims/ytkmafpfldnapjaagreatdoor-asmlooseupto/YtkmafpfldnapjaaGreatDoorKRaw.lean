import Derived.Test.YtkmafpfldnapjaaGreatDoorKReader
import Derived.Test.YtkmafpfldnapjaaGreatDoorKAAssem
import Derived.Deep.RegionHeld
import Derived.Test.YtkmafpfldnapjaaGreatDoorKWriter
/-
  THE WALKS OF codec.Reader's METHODS: Uint, Int, Raw.
-/
namespace Go.Proofs.YtkmafpfldnapjaaGreatDoor
open Go.RowKit

theorem rUint_any (w : World) (r : Nat) (a : Option Addr) (c : Nat) (b : List Nat) (p : Nat) (e : Int) (h : IsReader w r a c b p e) :
    Calls Tryz.prog 130 #[.pointer (some ⟨r, 0, none⟩)] w fun e' w' => e' = .returned (.int .u64 (((rdUpto b p e 18446744073709551615).1 : Nat) : Int)) ∧ Reads w r a c b (rdUpto b p e 18446744073709551615).2.1 (rdUpto b p e 18446744073709551615).2.2 w' := by
  go_enter Tryz.func130, Tryz.ntmps130
  go_wp2_with fail
  refine (rUpto_any w r a c b p e 18446744073709551615 h).mono ?_
  rintro e1 w1 ⟨rfl, hr⟩
  go_wp2
  go_ret
  exact ⟨rfl, hr⟩

/-- a number without sign as one with -/
def unfold (n : Nat) : Int := if n % 2 = 1 then -1 - ((n / 2 : Nat) : Int) else ((n / 2 : Nat) : Int)

theorem rdUpto_lt (b : List Nat) (hz : ∀ z ∈ b, z < 256) (p : Nat) (e : Int) (most : Nat) : (rdUpto b p e most).1 < 18446744073709551616 := by
  unfold rdUpto
  split
  · simp
  · split
    · simp
    · split
      · simp
      · rename_i _ h _
        have h3 := scan_one (b.drop p) (scan (b.drop p)).1 (scan (b.drop p)).2.1 (fun z hz' => hz z (List.mem_of_mem_drop hz')) (by rw [← Decidable.not_not.1 h])
        exact h3.1

theorem rInt_any (w : World) (r : Nat) (a : Option Addr) (c : Nat) (b : List Nat) (p : Nat) (e : Int) (h : IsReader w r a c b p e) :
    Calls Tryz.prog 110 #[.pointer (some ⟨r, 0, none⟩)] w fun e' w' => e' = .returned (.int .i64 (unfold (rdUpto b p e 18446744073709551615).1)) ∧ Reads w r a c b (rdUpto b p e 18446744073709551615).2.1 (rdUpto b p e 18446744073709551615).2.2 w' := by
  have hlt := rdUpto_lt b h.2.1.1 p e 18446744073709551615
  go_enter Tryz.func110, Tryz.ntmps110
  go_wp2_with fail
  refine (rUint_any w r a c b p e h).mono ?_
  rintro e1 w1 ⟨rfl, hr⟩
  clear h
  have HR : Hid (Reads w r a c b (rdUpto b p e 18446744073709551615).2.1 (rdUpto b p e 18446744073709551615).2.2 w1) := hr
  clear hr
  obtain ⟨n, hnn⟩ : ∃ n, (rdUpto b p e 18446744073709551615).1 = n := ⟨_, rfl⟩
  rw [hnn] at hlt
  rw [hnn]
  have HNN : Hid ((rdUpto b p e 18446744073709551615).1 = n) := hnn
  clear hnn
  by_cases h2 : n % 2 = 1
  · have h2' : ((n : Int) % 2 == 1) = true := by rw [beq_iff_eq]; omega
    have HU : Hid (unfold n = -1 - ((n / 2 : Nat) : Int)) := by unfold unfold; rw [Hid, if_pos h2]
    clear h2
    go_wp2
    go_ret
    exact ⟨by rw [HNN.out, HU.out]; rfl, HR.out⟩
  · have h2' : ((n : Int) % 2 == 1) = false := by rw [beq_eq_false_iff_ne]; omega
    have HU : Hid (unfold n = ((n / 2 : Nat) : Int)) := by unfold unfold; rw [Hid, if_neg h2]
    clear h2
    go_wp2
    go_ret
    exact ⟨by rw [HNN.out, HU.out]; rfl, HR.out⟩

def rdRaw (b : List Nat) (p : Nat) (e : Int) (n : Int) : List Nat × Nat × Int :=
  if e ≠ 0 then ([], p, e) else if n < 0 then ([], p, 11) else if ((b.length - p : Nat) : Int) < n then ([], p, 10) else ((b.drop p).take n.toNat, p + n.toNat, 0)

set_option maxHeartbeats 1000000 in
theorem rRaw_any (w : World) (r : Nat) (a : Option Addr) (c : Nat) (b : List Nat) (p : Nat) (e : Int) (n : Int) (h : IsReader w r a c b p e) :
    Calls Tryz.prog 42 #[.pointer (some ⟨r, 0, none⟩), .int .i64 n] w fun e' w' => ∃ v, e' = .returned v ∧ OwnB w' w.heap.size v (rdRaw b p e n).1 ∧ Reads w r a c b (rdRaw b p e n).2.1 (rdRaw b p e n).2.2 w' := by
  have HR : Hid (IsReader w r a c b p e) := h
  have h0 := h.c0
  have h1 := h.c1
  have h2 := h.c2
  have f2 := h.frozen 2
  have hp := h.2.2.1
  have hl := h.2.2.2
  clear h
  by_cases he : e = 0
  · subst he
    by_cases hn : n < 0
    · have HE : Hid (rdRaw b p 0 n = ([], p, 11)) := by unfold rdRaw; rw [Hid, if_neg (by simp), if_pos hn]
      have HW' : Hid (Reads w r a c b p 11 (w.setCell ⟨r, 2, none⟩ (.int .i64 11))) := ⟨HR.out.setErr 11, grown_setCell w ⟨r, 2, none⟩ _⟩
      go_enter Tryz.func42, Tryz.ntmps42
      go_wp2
      go_ret
      exact ⟨_, rfl, by rw [HE.out]; exact OwnB.nil _ _, by rw [HE.out]; exact HW'.out⟩
    · obtain ⟨m, rfl⟩ := Int.eq_ofNat_of_zero_le (show 0 ≤ n by omega)
      go_enter Tryz.func42, Tryz.ntmps42
      go_wp2_with fail
      refine (left_any w r a c b p 0 HR.out).mono ?_
      rintro e1 w1 ⟨rfl, q, hq⟩
      have HR1 : Hid (IsReader w1 r a c b p 0) := by rw [hq]; exact HR.out
      have HG1 : Hid (w.grownBy w1 (some r)) := by rw [hq]; exact grown_drewN _ _ _
      have HSZ : Hid (w1.heap.size = w.heap.size) := by rw [hq]; rfl
      have k0 := HR1.out.c0
      have k1 := HR1.out.c1
      have k2 := HR1.out.c2
      have g1 := HR1.out.frozen 1
      have g2 := HR1.out.frozen 2
      clear hq h0 h1 h2 f2
      by_cases hgt : b.length - p < m
      · have hgt' : ((b.length - p : Nat) : Int) < (m : Int) := by omega
        have HE : Hid (rdRaw b p 0 (m : Int) = ([], p, 10)) := by unfold rdRaw; rw [Hid, if_neg (by simp), if_neg (by omega), if_pos hgt']
        have HW := HR1.out.setErr 10
        have HW' : Hid (Reads w r a c b p 10 (w1.setCell ⟨r, 2, none⟩ (.int .i64 10))) := ⟨HW, grown_trans' HG1.out (grown_setCell w1 ⟨r, 2, none⟩ _)⟩
        clear HW hgt
        go_wp2
        go_ret
        exact ⟨_, rfl, by rw [HE.out]; exact OwnB.nil _ _, by rw [HE.out]; exact HW'.out⟩
      · have hgt' : ¬ ((b.length - p : Nat) : Int) < (m : Int) := by omega
        have HE : Hid (rdRaw b p 0 (m : Int) = ((b.drop p).take m, p + m, 0)) := by unfold rdRaw; rw [Hid, if_neg (by simp), if_neg (by omega), if_neg hgt']; rfl
        have hpm : p + m ≤ b.length := by omega
        have hcl := HR1.out.nil.2
        have hcm := HR1.out.cmax
        unfold maxLen at hcm
        have HZL : Hid (m = ((b.drop p).take m).length) := by rw [Hid, List.length_take, List.length_drop]; omega
        have HZ : Hid (∀ z ∈ (b.drop p).take m, z < 256) := fun z hz => HR1.out.2.1.1 z (List.mem_of_mem_drop (List.mem_of_mem_take hz))
        have HMX : Hid (((b.drop p).take m).length ≤ maxLen) := by rw [Hid, ← HZL.out]; unfold maxLen; omega
        /- the end, behind the call of fresh -/
        have HEND : ∀ w2 : World, RowAt w2 w1.heap.size ((b.drop p).take m) → Below w1.heap.size w1.drew w2 → w2.heap.size = w1.heap.size + 1 →
            Hid (IsReader w2 r a c b p 0) ∧ Hid (w.grownBy w2 (some r)) ∧ Hid (OwnB w2 w.heap.size (.slice (some ⟨w1.heap.size, 0, none⟩) m m) ((b.drop p).take m)) := by
          intro w2 hr2 hb2 hs2
          refine ⟨(HR1.out.drewN 1).kept hb2, grown_trans' HG1.out (grown_trans' (grown_drewN w1 1 _) (grown_below hb2)), ?_⟩
          have := OwnB.ofRow hr2 HZ.out HMX.out (base := w.heap.size) (by rw [HSZ.out]; exact Nat.le_refl _)
          rw [← HZL.out] at this
          exact this
        have HEND' : Hid (∀ w2 : World, RowAt w2 w1.heap.size ((b.drop p).take m) → Below w1.heap.size w1.drew w2 → w2.heap.size = w1.heap.size + 1 →
            Hid (IsReader w2 r a c b p 0) ∧ Hid (w.grownBy w2 (some r)) ∧ Hid (OwnB w2 w.heap.size (.slice (some ⟨w1.heap.size, 0, none⟩) m m) ((b.drop p).take m))) := HEND
        clear HEND hgt
        rcases HR1.out.2.1.shape with ⟨hv, hb0⟩ | ⟨g, cap, hv, _, _, _, _, _⟩
        · simp only [Value.slice.injEq] at hv
          obtain ⟨rfl, _, rfl⟩ := hv
          subst hb0
          obtain rfl : p = 0 := by simpa using hp
          obtain rfl : m = 0 := by simpa using hpm
          have HSB : Hid (BytesAt w1 none (([] : List Nat).drop 0 |>.take 0)) := ⟨by simp, .inl rfl⟩
          go_wp2
          go_region_held (fun w' => w'.cell? ⟨r, 0, none⟩ = some (.slice none 0 0) ∧ w'.cell? ⟨r, 1, none⟩ = some (.int .i64 0)) (first | exact ⟨‹_›, ‹_›⟩ | exact ⟨k0, k1⟩ | go_keep)
            ((go_at_call 73; go_loud (refine (fresh_any _ _ _ _ _ HZL.out (HSB.out.drewN 1) (by omega)).mono ?_; rintro e2 w2 ⟨rfl, hr2, hb2, hs2⟩; obtain ⟨HR2, HG2, HO2⟩ := HEND'.out w2 hr2 hb2 hs2; have l0 := HR2.out.c0; have l1 := HR2.out.c1; have i1 := HR2.out.frozen 1; clear hr2 hb2 hs2)))
          have HW := HR2.out.setAt 0 (by simp)
          have HW' : Hid (Reads w r none 0 [] 0 0 (w2.setCell ⟨r, 1, none⟩ (.int .i64 0))) := ⟨HW, grown_trans' HG2.out (grown_setCell w2 ⟨r, 1, none⟩ _)⟩
          have HO' : Hid (OwnB (w2.setCell ⟨r, 1, none⟩ (.int .i64 0)) w.heap.size (.slice (some ⟨w1.heap.size, 0, none⟩) 0 0) []) := by
            refine HO2.out.grown (grown_setCell w2 ⟨r, 1, none⟩ _) (.inr ?_)
            have := HR1.out.lt
            simp [Value.ownBlock]; omega
          clear HW
          go_wp2
          go_ret
          exact ⟨.slice (some ⟨w1.heap.size, 0, none⟩) 0 0, rfl, by rw [HE.out]; exact HO'.out, by rw [HE.out]; exact HW'.out⟩
        · simp only [Value.slice.injEq] at hv
          obtain ⟨rfl, _, rfl⟩ := hv
          have HFIN : ∀ w2 : World, Hid (IsReader w2 r (some ⟨g, 0, none⟩) c b p 0) → Hid (w.grownBy w2 (some r)) → Hid (OwnB w2 w.heap.size (.slice (some ⟨w1.heap.size, 0, none⟩) m m) ((b.drop p).take m)) →
              Hid (OwnB (w2.setCell ⟨r, 1, none⟩ (.int .i64 ((p : Int) + (m : Int)))) w.heap.size (.slice (some ⟨w1.heap.size, 0, none⟩) m m) (rdRaw b p 0 (m : Int)).1 ∧ Reads w r (some ⟨g, 0, none⟩) c b (rdRaw b p 0 (m : Int)).2.1 (rdRaw b p 0 (m : Int)).2.2 (w2.setCell ⟨r, 1, none⟩ (.int .i64 ((p : Int) + (m : Int))))) := by
            intro w2 HR2 HG2 HO2
            rw [HE.out]
            refine ⟨?_, HR2.out.setAt (p + m) hpm, grown_trans' HG2.out (grown_setCell w2 ⟨r, 1, none⟩ _)⟩
            refine HO2.out.grown (grown_setCell w2 ⟨r, 1, none⟩ _) (.inr ?_)
            have := HR1.out.lt
            simp [Value.ownBlock]; omega
          have HFIN' : Hid (∀ w2 : World, Hid (IsReader w2 r (some ⟨g, 0, none⟩) c b p 0) → Hid (w.grownBy w2 (some r)) → Hid (OwnB w2 w.heap.size (.slice (some ⟨w1.heap.size, 0, none⟩) m m) ((b.drop p).take m)) →
              Hid (OwnB (w2.setCell ⟨r, 1, none⟩ (.int .i64 ((p : Int) + (m : Int)))) w.heap.size (.slice (some ⟨w1.heap.size, 0, none⟩) m m) (rdRaw b p 0 (m : Int)).1 ∧ Reads w r (some ⟨g, 0, none⟩) c b (rdRaw b p 0 (m : Int)).2.1 (rdRaw b p 0 (m : Int)).2.2 (w2.setCell ⟨r, 1, none⟩ (.int .i64 ((p : Int) + (m : Int)))))) := HFIN
          clear HFIN
          have hwr : IntKind.i64.wrap ((p : Int) + (m : Int)) = ((p + m : Nat) : Int) := by rw [IntKind.wrap_i64]; omega
          by_cases hcp : c = p
          · obtain rfl : m = 0 := by omega
            have hbl : b.length = p := by omega
            have hcz : (c : Int) - (p : Int) = 0 := by omega
            have hwr' : IntKind.i64.wrap (p : Int) = (p : Int) := by rw [IntKind.wrap_i64]; omega
            have hpz : p - p = 0 := by omega
            have HSB : Hid (BytesAt w1 (some ⟨g, 0, none⟩) ((b.drop p).take 0)) := ⟨by simp, .inl rfl⟩
            clear hwr
            go_wp2
            go_region_held (fun w' => w'.cell? ⟨r, 0, none⟩ = some (.slice (some ⟨g, 0, none⟩) b.length c) ∧ w'.cell? ⟨r, 1, none⟩ = some (.int .i64 (p : Int))) (first | exact ⟨‹_›, ‹_›⟩ | exact ⟨k0, k1⟩ | go_keep)
              ((go_at_call 73; go_loud (refine (fresh_any _ _ _ _ _ HZL.out (HSB.out.drewN 1) (by omega)).mono ?_; rintro e2 w2 ⟨rfl, hr2, hb2, hs2⟩; obtain ⟨HR2, HG2, HO2⟩ := HEND'.out w2 hr2 hb2 hs2; have l0 := HR2.out.c0; have l1 := HR2.out.c1; have i1 := HR2.out.frozen 1; clear hr2 hb2 hs2)))
            have HF := HFIN'.out w2 HR2 HG2 HO2
            go_wp2
            go_ret
            exact ⟨_, rfl, HF.out⟩
          · have HSB : Hid (BytesAt w1 (some ⟨g, p, none⟩) ((b.drop p).take m)) := by have := HR1.out.bytes.cut p m; rwa [Nat.zero_add] at this
            go_wp2
            go_region_held (fun w' => w'.cell? ⟨r, 0, none⟩ = some (.slice (some ⟨g, 0, none⟩) b.length c) ∧ w'.cell? ⟨r, 1, none⟩ = some (.int .i64 (p : Int))) (first | exact ⟨‹_›, ‹_›⟩ | exact ⟨k0, k1⟩ | go_keep)
              ((go_at_call 73; go_loud (refine (fresh_any _ _ _ _ _ HZL.out (HSB.out.drewN 1) (by omega)).mono ?_; rintro e2 w2 ⟨rfl, hr2, hb2, hs2⟩; obtain ⟨HR2, HG2, HO2⟩ := HEND'.out w2 hr2 hb2 hs2; have l0 := HR2.out.c0; have l1 := HR2.out.c1; have i1 := HR2.out.frozen 1; clear hr2 hb2 hs2)))
            have HF := HFIN'.out w2 HR2 HG2 HO2
            go_wp2
            go_ret
            exact ⟨_, rfl, HF.out⟩
  · have he' : (e != 0) = true := by rw [bne_iff_ne]; exact he
    have HE : Hid (rdRaw b p e n = ([], p, e)) := by unfold rdRaw; rw [Hid, if_pos he]
    clear he
    go_enter Tryz.func42, Tryz.ntmps42
    go_wp2
    go_ret
    exact ⟨_, rfl, by rw [HE.out]; exact OwnB.nil _ _, by rw [HE.out]; exact ⟨HR.out, World.grownBy.refl _ _⟩⟩

end Go.Proofs.YtkmafpfldnapjaaGreatDoor
/-
  THE WALKS OF codec.Reader's METHODS: Bytes, End; codec.Read.
-/
namespace Go.Proofs.YtkmafpfldnapjaaGreatDoor
open Go.RowKit

def rdBytes (b : List Nat) (p : Nat) (e : Int) (most : Int) : List Nat × Nat × Int :=
  if e ≠ 0 then ([], p, e) else if (scan (b.drop p)).2.2 ≠ 0 then ([], p, (((scan (b.drop p)).2.2 : Nat) : Int)) else if most < 0 ∨ most < (((scan (b.drop p)).1 : Nat) : Int) then ([], p, 12)
  else if b.length - p - (scan (b.drop p)).2.1 < (scan (b.drop p)).1 then ([], p, 10) else rdRaw b (p + (scan (b.drop p)).2.1) 0 (((scan (b.drop p)).1 : Nat) : Int)

set_option maxHeartbeats 1000000 in
theorem rBytes_any (w : World) (r : Nat) (a : Option Addr) (c : Nat) (b : List Nat) (p : Nat) (e : Int) (most : Int) (h : IsReader w r a c b p e) (hmo : -9223372036854775808 ≤ most) (hmo' : most ≤ 9223372036854775807) :
    Calls Tryz.prog 45 #[.pointer (some ⟨r, 0, none⟩), .int .i64 most] w fun e' w' => ∃ v, e' = .returned v ∧ OwnB w' w.heap.size v (rdBytes b p e most).1 ∧ Reads w r a c b (rdBytes b p e most).2.1 (rdBytes b p e most).2.2 w' := by
  have HR : Hid (IsReader w r a c b p e) := h
  have h0 := h.c0
  have h1 := h.c1
  have h2 := h.c2
  have f1 := h.frozen 1
  have f2 := h.frozen 2
  have hp := h.2.2.1
  have hl := h.2.2.2
  have hnil := h.nil
  have hcm := h.cmax
  clear h
  by_cases he : e = 0
  · subst he
    have HZ : Hid (∀ z ∈ b, z < 256) := HR.out.2.1.1
    have HU : Hid (rdBytes b p 0 most = if (scan (b.drop p)).2.2 ≠ 0 then ([], p, (((scan (b.drop p)).2.2 : Nat) : Int)) else if most < 0 ∨ most < (((scan (b.drop p)).1 : Nat) : Int) then ([], p, 12)
  else if b.length - p - (scan (b.drop p)).2.1 < (scan (b.drop p)).1 then ([], p, 10) else rdRaw b (p + (scan (b.drop p)).2.1) 0 (((scan (b.drop p)).1 : Nat) : Int)) := by
      unfold rdBytes; rw [Hid, if_neg (by simp)]
    have HSC : Hid ((scan (b.drop p)).2.2 = 0 → (scan (b.drop p)).2.1 ≤ (b.drop p).length ∧ (scan (b.drop p)).1 < 18446744073709551616) := by
      intro h0
      have h3 := scan_one (b.drop p) (scan (b.drop p)).1 (scan (b.drop p)).2.1 (fun z hz => HZ.out z (List.mem_of_mem_drop hz)) (by rw [← h0])
      exact ⟨h3.2.2.1, h3.1⟩
    have HMX : Hid ((b.drop p).length ≤ maxLen) := by rw [Hid, List.length_drop]; unfold maxLen; omega
    rcases HR.out.2.1.shape with ⟨hv, hb0⟩ | ⟨g, cap, hv, _, _, _, _, _⟩
    · simp only [Value.slice.injEq] at hv
      obtain ⟨rfl, _, rfl⟩ := hv
      subst hb0
      have hp0 : p = 0 := by simpa using hp
      subst hp0
      have HSB : Hid (BytesAt w none []) := ⟨by simp, .inl rfl⟩
      have HE : Hid (rdBytes [] 0 0 most = ([], 0, 10)) := rfl
      clear hnil hcm HZ HU HSC HMX hp hl
      go_enter Tryz.func45, Tryz.ntmps45
      go_wp2
      go_quiet ((go_at_call 75; exact Calls.quiet_of_same (scan_any _ _ _ _ [] rfl (HSB.out.drewN _) (by simp [maxLen]))))
      have HW' : Hid (Reads w r none 0 [] 0 10 ((w.setCell ⟨r, 2, none⟩ (.int .i64 10)).drewN nq)) := ⟨HR.out.setErr 10, grown_trans' (grown_setCell w ⟨r, 2, none⟩ _) (grown_drewN _ _ _)⟩
      rw [show scan [] = (0, 0, 10) from rfl]
      go_wp2
      go_ret
      exact ⟨_, rfl, by rw [HE.out]; exact OwnB.nil _ _, by rw [HE.out]; exact HW'.out⟩
    · simp only [Value.slice.injEq] at hv
      obtain ⟨rfl, _, rfl⟩ := hv
      have hlc := hnil.2
      have hcm' : c ≤ 9223372036854775807 := by unfold maxLen at hcm; omega
      have HLN : Hid (b.length - p = (b.drop p).length) := by rw [Hid, List.length_drop]
      clear hnil hcm HZ
      by_cases hcp : c = p
      · have hbl : b.length = p := by omega
        have HSB : Hid (BytesAt w (some ⟨g, 0, none⟩) []) := ⟨by simp, .inl rfl⟩
        have HE : Hid (rdBytes b p 0 most = ([], p, 10)) := by
          rw [Hid, HU.out, List.drop_of_length_le (by omega)]; rfl
        have hcz : (c : Int) - (p : Int) = 0 := by omega
        have hlz : (b.length : Int) - (p : Int) = 0 := by omega
        clear HU HSC HMX HLN
        go_enter Tryz.func45, Tryz.ntmps45
        go_wp2
        go_quiet ((go_at_call 75; exact Calls.quiet_of_same (scan_any _ _ _ _ [] rfl (HSB.out.drewN _) (by simp [maxLen]))))
        have HW' : Hid (Reads w r (some ⟨g, 0, none⟩) c b p 10 ((w.setCell ⟨r, 2, none⟩ (.int .i64 10)).drewN nq)) := ⟨HR.out.setErr 10, grown_trans' (grown_setCell w ⟨r, 2, none⟩ _) (grown_drewN _ _ _)⟩
        rw [show scan [] = (0, 0, 10) from rfl]
        go_wp2
        go_ret
        exact ⟨_, rfl, by rw [HE.out]; exact OwnB.nil _ _, by rw [HE.out]; exact HW'.out⟩
      · have HSB : Hid (BytesAt w (some ⟨g, p, none⟩) (b.drop p)) := by have := HR.out.bytes.drop p; rwa [Nat.zero_add] at this
        go_enter Tryz.func45, Tryz.ntmps45
        go_wp2
        go_quiet ((go_at_call 75; exact Calls.quiet_of_same (scan_any _ _ _ _ (b.drop p) HLN.out (HSB.out.drewN _) HMX.out)))
        have HR1 : Hid (IsReader (w.drewN nq) r (some ⟨g, 0, none⟩) c b p 0) := HR.out
        have HG1 : Hid (w.grownBy (w.drewN nq) (some r)) := grown_drewN _ _ _
        have HSZ : Hid ((w.drewN nq).heap.size = w.heap.size) := rfl
        generalize w.drewN nq = w1 at *
        have k0 := HR1.out.c0
        have k1 := HR1.out.c1
        have k2 := HR1.out.c2
        have g1 := HR1.out.frozen 1
        have g2 := HR1.out.frozen 2
        clear h0 h1 h2 f1 f2 HSB HMX
        generalize hs : scan (b.drop p) = s at *
        clear hs
        by_cases t1 : s.2.2 = 0
        · have hT1 : (((s.2.2 : Nat) : Int) != 0) = false := by rw [t1]; simp
          obtain ⟨hk, hn64⟩ := HSC.out t1
          rw [← HLN.out] at hk
          have HU2 : Hid (rdBytes b p 0 most = if most < 0 ∨ most < ((s.1 : Nat) : Int) then ([], p, 12) else if b.length - p - s.2.1 < s.1 then ([], p, 10) else rdRaw b (p + s.2.1) 0 ((s.1 : Nat) : Int)) := by rw [Hid, HU.out, if_neg (by simp [t1])]
          clear t1 HSC HU HLN
          generalize s.1 = n at *
          generalize s.2.1 = k at *
          by_cases t2 : most < 0
          · have HE : Hid (rdBytes b p 0 most = ([], p, 12)) := by rw [Hid, HU2.out, if_pos (.inl t2)]
            have HW' : Hid (Reads w r (some ⟨g, 0, none⟩) c b p 12 (w1.setCell ⟨r, 2, none⟩ (.int .i64 12))) := ⟨HR1.out.setErr 12, grown_trans' HG1.out (grown_setCell w1 ⟨r, 2, none⟩ _)⟩
            go_wp2
            go_ret
            exact ⟨_, rfl, by rw [HE.out]; exact OwnB.nil _ _, by rw [HE.out]; exact HW'.out⟩
          · obtain ⟨mo, rfl⟩ := Int.eq_ofNat_of_zero_le (show 0 ≤ most by omega)
            by_cases t3 : mo < n
            · have t3' : (mo : Int) < (n : Int) := by omega
              have HE : Hid (rdBytes b p 0 (mo : Int) = ([], p, 12)) := by rw [Hid, HU2.out, if_pos (.inr t3')]
              have HW' : Hid (Reads w r (some ⟨g, 0, none⟩) c b p 12 (w1.setCell ⟨r, 2, none⟩ (.int .i64 12))) := ⟨HR1.out.setErr 12, grown_trans' HG1.out (grown_setCell w1 ⟨r, 2, none⟩ _)⟩
              clear t3
              go_wp2
              go_ret
              exact ⟨_, rfl, by rw [HE.out]; exact OwnB.nil _ _, by rw [HE.out]; exact HW'.out⟩
            · have t3' : ¬ (mo : Int) < (n : Int) := by omega
              have HU3 : Hid (rdBytes b p 0 (mo : Int) = if b.length - p - k < n then ([], p, 10) else rdRaw b (p + k) 0 ((n : Nat) : Int)) := by rw [Hid, HU2.out, if_neg (by omega)]
              clear t3 HU2
              go_wp2_with fail
              refine (left_any w1 r _ c b p 0 HR1.out).mono ?_
              rintro e1 w2 ⟨rfl, q, hq⟩
              have HR2 : Hid (IsReader w2 r (some ⟨g, 0, none⟩) c b p 0) := by rw [hq]; exact HR1.out
              have HG2 : Hid (w.grownBy w2 (some r)) := by rw [hq]; exact grown_trans' HG1.out (grown_drewN _ _ _)
              have HSZ2 : Hid (w2.heap.size = w.heap.size) := by rw [hq]; exact HSZ.out
              have j0 := HR2.out.c0
              have j1 := HR2.out.c1
              have j2 := HR2.out.c2
              have d1 := HR2.out.frozen 1
              have d2 := HR2.out.frozen 2
              clear hq k0 k1 k2 g1 g2
              by_cases t4 : b.length - p - k < n
              · have t4' : ((b.length - p : Nat) : Int) - (k : Int) < (n : Int) := by omega
                have HE : Hid (rdBytes b p 0 (mo : Int) = ([], p, 10)) := by rw [Hid, HU3.out, if_pos t4]
                have HW' : Hid (Reads w r (some ⟨g, 0, none⟩) c b p 10 (w2.setCell ⟨r, 2, none⟩ (.int .i64 10))) := ⟨HR2.out.setErr 10, grown_trans' HG2.out (grown_setCell w2 ⟨r, 2, none⟩ _)⟩
                clear t4
                go_wp2
                go_ret
                exact ⟨_, rfl, by rw [HE.out]; exact OwnB.nil _ _, by rw [HE.out]; exact HW'.out⟩
              · have t4' : ¬ ((b.length - p : Nat) : Int) - (k : Int) < (n : Int) := by omega
                have HE : Hid (rdBytes b p 0 (mo : Int) = rdRaw b (p + k) 0 (n : Int)) := by rw [Hid, HU3.out, if_neg t4]
                have HW : Hid (IsReader (w2.setCell ⟨r, 1, none⟩ (.int .i64 ((p : Int) + (k : Int)))) r (some ⟨g, 0, none⟩) c b (p + k) 0) := HR2.out.setAt (p + k) (by omega)
                have HG : Hid (w.grownBy (w2.setCell ⟨r, 1, none⟩ (.int .i64 ((p : Int) + (k : Int)))) (some r)) := grown_trans' HG2.out (grown_setCell w2 ⟨r, 1, none⟩ _)
                have HS3 : Hid ((w2.setCell ⟨r, 1, none⟩ (.int .i64 ((p : Int) + (k : Int)))).heap.size = w.heap.size) := by rw [Hid, ← HSZ2.out]; simp
                clear t4
                go_wp2_with fail
                refine (rRaw_any _ r _ c b (p + k) 0 (n : Int) HW.out).mono ?_
                rintro e3 w3 ⟨v3, rfl, ho3, hr3⟩
                rw [HS3.out] at ho3
                go_wp2
                go_ret
                exact ⟨_, rfl, by rw [HE.out]; exact ho3, by rw [HE.out]; exact ⟨hr3.1, grown_trans' HG.out hr3.2⟩⟩
        · have hT3 : (((s.2.2 : Nat) : Int) != 0) = true := by rw [bne_iff_ne]; omega
          have HE : Hid (rdBytes b p 0 most = ([], p, ((s.2.2 : Nat) : Int))) := by rw [Hid, HU.out, if_pos t1]
          have HW' : Hid (Reads w r (some ⟨g, 0, none⟩) c b p ((s.2.2 : Nat) : Int) (w1.setCell ⟨r, 2, none⟩ (.int .i64 ((s.2.2 : Nat) : Int)))) := ⟨HR1.out.setErr _, grown_trans' HG1.out (grown_setCell w1 ⟨r, 2, none⟩ _)⟩
          clear t1 HSC
          go_wp2
          go_ret
          exact ⟨_, rfl, by rw [HE.out]; exact OwnB.nil _ _, by rw [HE.out]; exact HW'.out⟩
  · have he' : (e != 0) = true := by rw [bne_iff_ne]; exact he
    have HE : Hid (rdBytes b p e most = ([], p, e)) := by unfold rdBytes; rw [Hid, if_pos he]
    clear he hnil
    go_enter Tryz.func45, Tryz.ntmps45
    go_wp2
    go_ret
    exact ⟨_, rfl, by rw [HE.out]; exact OwnB.nil _ _, by rw [HE.out]; exact ⟨HR.out, World.grownBy.refl _ _⟩⟩

end Go.Proofs.YtkmafpfldnapjaaGreatDoor
/-
  WHAT IS READ BACK OF WHAT WAS WRITTEN.
-/
namespace Go.Proofs.YtkmafpfldnapjaaGreatDoor
open Go.RowKit

theorem unfold_fold (z : Int) (h0 : -9223372036854775808 ≤ z) (h1 : z ≤ 9223372036854775807) : unfold (fold z) = z := by
  unfold unfold fold
  split <;> split <;> omega
theorem rdRaw_ok (b : List Nat) (p n : Nat) (h : n ≤ b.length - p) : rdRaw b p 0 (n : Int) = ((b.drop p).take n, p + n, 0) := by
  unfold rdRaw
  rw [if_neg (by simp), if_neg (by omega), if_neg (by omega)]
  rfl
theorem rdByte_at (b : List Nat) (p z : Nat) (R : List Nat) (h : b.drop p = z :: R) : rdByte b p 0 = (z, p + 1, 0) := by
  have hl : p < b.length := by
    have := congrArg List.length h
    rw [List.length_drop, List.length_cons] at this
    omega
  have hg : b.getD p 0 = z := by
    rw [List.drop_eq_getElem_cons hl] at h
    rw [List.getD_eq_getElem?_getD, List.getElem?_eq_getElem hl]
    exact (List.cons.inj h).1
  unfold rdByte
  rw [if_neg (by simp), if_neg (by omega), hg]
theorem scan_at (n : Nat) (hn : n < 18446744073709551616) (R : List Nat) : scan (uint 10 n ++ R) = (n, (uint 10 n).length, 0) := by
  have h := scan_uint R 9 0 0 n (by omega) (by simpa using hn) (by omega)
  simpa [scan] using h
theorem rdUpto_at (b : List Nat) (p n most : Nat) (R : List Nat) (hn : n < 18446744073709551616) (hm : n ≤ most) (h : b.drop p = uint 10 n ++ R) : rdUpto b p 0 most = (n, p + (uint 10 n).length, 0) := by
  unfold rdUpto
  rw [h, scan_at n hn R]
  simp only [ne_eq, not_true, if_false]
  rw [if_neg (by omega)]
theorem rdRaw_at (b : List Nat) (p : Nat) (bs R : List Nat) (h : b.drop p = bs ++ R) : rdRaw b p 0 (bs.length : Int) = (bs, p + bs.length, 0) := by
  have hl := congrArg List.length h
  rw [List.length_drop, List.length_append] at hl
  rw [rdRaw_ok b p bs.length (by omega), h, List.take_left]
theorem rdBytes_at (b : List Nat) (p : Nat) (bs R : List Nat) (hn : bs.length < 18446744073709551616) (h : b.drop p = uint 10 bs.length ++ bs ++ R) : rdBytes b p 0 (bs.length : Int) = (bs, p + (uint 10 bs.length ++ bs).length, 0) := by
  have hl := congrArg List.length h
  rw [List.length_drop, List.length_append, List.length_append] at hl
  have h2 : b.drop (p + (uint 10 bs.length).length) = bs ++ R := by
    rw [← List.drop_drop, h, List.append_assoc, List.drop_left]
  unfold rdBytes
  rw [h, List.append_assoc, scan_at bs.length hn]
  simp only [ne_eq, not_true, if_false]
  rw [if_neg (by omega), if_neg (by omega), rdRaw_at b _ bs R h2, List.length_append]
  congr 2
  omega
end Go.Proofs.YtkmafpfldnapjaaGreatDoor
/-
  THE WALKS OF Fail, Err.
-/
namespace Go.Proofs.YtkmafpfldnapjaaGreatDoor
open Go.RowKit

theorem rFail_any (w : World) (r : Nat) (a : Option Addr) (c : Nat) (b : List Nat) (p : Nat) (e x : Int) (h : IsReader w r a c b p e) :
    Calls Tryz.prog 43 #[.pointer (some ⟨r, 0, none⟩), .int .i64 x] w fun e' w' => e' = .returned (.tuple #[]) ∧ Reads w r a c b p (if e = 0 then x else e) w' := by
  have HR : Hid (IsReader w r a c b p e) := h
  have h2 := h.c2
  have f2 := h.frozen 2
  clear h
  go_enter Tryz.func43, Tryz.ntmps43
  by_cases he : e = 0
  · subst he
    have HW' : Hid (Reads w r a c b p x (w.setCell ⟨r, 2, none⟩ (.int .i64 x))) := ⟨HR.out.setErr x, grown_setCell w ⟨r, 2, none⟩ _⟩
    go_wp2
    go_end0
    exact ⟨rfl, HW'.out⟩
  · have he' : (e == 0) = false := by rw [beq_eq_false_iff_ne]; exact he
    go_wp2
    go_end0
    exact ⟨rfl, HR.out, World.grownBy.refl _ _⟩
theorem rErr_any (w : World) (r : Nat) (a : Option Addr) (c : Nat) (b : List Nat) (p : Nat) (e : Int) (h : IsReader w r a c b p e) :
    Calls Tryz.prog 77 #[.pointer (some ⟨r, 0, none⟩)] w fun e' w' => e' = .returned (.int .i64 e) ∧ w' = w := by
  have h2 := h.c2
  clear h
  go_enter Tryz.func77, Tryz.ntmps77
  go_wp2
  go_ret
  exact ⟨rfl, rfl⟩
end Go.Proofs.YtkmafpfldnapjaaGreatDoor
/-
  WHAT A Reader's CALLS KEEP.
-/
namespace Go.Proofs.YtkmafpfldnapjaaGreatDoor
open Go.RowKit

theorem Reads.trans {w w1 w2 : World} {r : Nat} {a : Option Addr} {c : Nat} {b : List Nat} {p q : Nat} {e x : Int} (h : Reads w r a c b p e w1) (k : Reads w1 r a c b q x w2) : Reads w r a c b q x w2 := ⟨k.1, grown_trans' h.2 k.2⟩
theorem Reads.kept {w w1 w2 : World} {r : Nat} {a : Option Addr} {c : Nat} {b : List Nat} {p : Nat} {e : Int} (h : Reads w r a c b p e w1) (hb : Below w1.heap.size w1 w2) : Reads w r a c b p e w2 := ⟨h.1.kept hb, grown_trans' h.2 (grown_below hb)⟩
theorem Reads.alloc {w w1 : World} {r : Nat} {a : Option Addr} {c : Nat} {b : List Nat} {p : Nat} {e : Int} (h : Reads w r a c b p e w1) (o : Obj) : Reads w r a c b p e (w1.alloc o) := h.kept ((Below.refl _ _).alloc (Nat.le_refl _) _)

theorem IsReader.grown {w w1 : World} {r : Nat} {a : Option Addr} {c : Nat} {b : List Nat} {p : Nat} {e : Int} {row : Option Nat} (h : IsReader w r a c b p e) (hg : w.grownBy w1 row) (h1 : some r ≠ row) (h2 : (Value.slice a b.length c).ownBlock = none ∨ (Value.slice a b.length c).ownBlock ≠ row) : IsReader w1 r a c b p e :=
  ⟨by rw [hg.block r h.lt h1]; exact h.1, h.2.1.grown hg h2, h.2.2⟩
/-- a store into a block that is new since w -/
theorem Reads.setNew {w W : World} {r : Nat} {a : Option Addr} {c : Nat} {b : List Nat} {p p0 : Nat} {e e0 : Int} (h : Reads w r a c b p e W) (h0 : IsReader w r a c b p0 e0) (B i : Nat) (v : Value) (hB : w.heap.size ≤ B) : Reads w r a c b p e (W.setCell ⟨B, i, none⟩ v) := by
  have hg := grown_setCell W ⟨B, i, none⟩ v
  refine ⟨h.1.grown hg (fun e => ?_) ?_, ?_⟩
  · have := h0.lt
    simp at e; omega
  · by_cases hn : (Value.slice a b.length c).ownBlock = none
    · exact .inl hn
    · refine .inr fun e => ?_
      have := (h0.2.1.2.lt B e).2
      omega
  · refine ⟨hg.os.trans h.2.os, hg.tape.trans h.2.tape, hg.output.trans h.2.output, Nat.le_trans h.2.size hg.size, fun k hk hr => ?_⟩
    rw [hg.block k (Nat.lt_of_lt_of_le hk h.2.size) (fun e => by simp at e; omega), h.2.block k hk hr]
end Go.Proofs.YtkmafpfldnapjaaGreatDoor
