/-
  THE WALKS OF codec.Reader's METHODS: Uint, Int, Raw.
-/
import Derived.Test.YtciogmenoighoaaReader
import Derived.Test.YtciogmenoighoaaFresh
import Derived.Deep.RegionHeld
namespace Go.Proofs.Ytciogmenoighoaa
open Go.RowKit

theorem rUint_any (w : World) (r : Nat) (a : Option Addr) (c : Nat) (b : List Nat) (p : Nat) (e : Int) (h : IsReader w r a c b p e) :
    Calls Try.prog 95 #[.pointer (some ⟨r, 0, none⟩)] w fun e' w' => e' = .returned (.int .u64 (((rdUpto b p e 18446744073709551615).1 : Nat) : Int)) ∧ Reads w r a c b (rdUpto b p e 18446744073709551615).2.1 (rdUpto b p e 18446744073709551615).2.2 w' := by
  go_enter Try.func95, Try.ntmps95
  go_wp2_with fail
  refine (rUpto_any w r a c b p e 18446744073709551615 h).mono ?_
  rintro e1 w1 ⟨rfl, hr⟩
  go_wp2
  go_ret
  exact ⟨rfl, hr⟩

/-- a number without sign as one with -/
def unfold (n : Nat) : Int := if n % 2 = 1 then -1 - ((n / 2 : Nat) : Int) else ((n / 2 : Nat) : Int)

theorem rdUpto_lt (b : List Nat) (hz : ∀ z ∈ b, z < 256) (p : Nat) (e : Int) (most : Nat) : (rdUpto b p e most).1 < 18446744073709551616 := by
  unfold rdUpto
  split
  · simp
  · split
    · simp
    · split
      · simp
      · rename_i _ h _
        have h3 := scan_one (b.drop p) (scan (b.drop p)).1 (scan (b.drop p)).2.1 (fun z hz' => hz z (List.mem_of_mem_drop hz')) (by rw [← Decidable.not_not.1 h])
        exact h3.1

theorem rInt_any (w : World) (r : Nat) (a : Option Addr) (c : Nat) (b : List Nat) (p : Nat) (e : Int) (h : IsReader w r a c b p e) :
    Calls Try.prog 93 #[.pointer (some ⟨r, 0, none⟩)] w fun e' w' => e' = .returned (.int .i64 (unfold (rdUpto b p e 18446744073709551615).1)) ∧ Reads w r a c b (rdUpto b p e 18446744073709551615).2.1 (rdUpto b p e 18446744073709551615).2.2 w' := by
  have hlt := rdUpto_lt b h.2.1.1 p e 18446744073709551615
  go_enter Try.func93, Try.ntmps93
  go_wp2_with fail
  refine (rUint_any w r a c b p e h).mono ?_
  rintro e1 w1 ⟨rfl, hr⟩
  clear h
  have HR : Hid (Reads w r a c b (rdUpto b p e 18446744073709551615).2.1 (rdUpto b p e 18446744073709551615).2.2 w1) := hr
  clear hr
  obtain ⟨n, hnn⟩ : ∃ n, (rdUpto b p e 18446744073709551615).1 = n := ⟨_, rfl⟩
  rw [hnn] at hlt
  rw [hnn]
  have HNN : Hid ((rdUpto b p e 18446744073709551615).1 = n) := hnn
  clear hnn
  by_cases h2 : n % 2 = 1
  · have h2' : ((n : Int) % 2 == 1) = true := by rw [beq_iff_eq]; omega
    have HU : Hid (unfold n = -1 - ((n / 2 : Nat) : Int)) := by unfold unfold; rw [Hid, if_pos h2]
    clear h2
    go_wp2
    go_ret
    exact ⟨by rw [HNN.out, HU.out]; rfl, HR.out⟩
  · have h2' : ((n : Int) % 2 == 1) = false := by rw [beq_eq_false_iff_ne]; omega
    have HU : Hid (unfold n = ((n / 2 : Nat) : Int)) := by unfold unfold; rw [Hid, if_neg h2]
    clear h2
    go_wp2
    go_ret
    exact ⟨by rw [HNN.out, HU.out]; rfl, HR.out⟩

def rdRaw (b : List Nat) (p : Nat) (e : Int) (n : Int) : List Nat × Nat × Int :=
  if e ≠ 0 then ([], p, e) else if n < 0 then ([], p, 11) else if ((b.length - p : Nat) : Int) < n then ([], p, 10) else ((b.drop p).take n.toNat, p + n.toNat, 0)

set_option maxHeartbeats 1000000 in
theorem rRaw_any (w : World) (r : Nat) (a : Option Addr) (c : Nat) (b : List Nat) (p : Nat) (e : Int) (n : Int) (h : IsReader w r a c b p e) :
    Calls Try.prog 96 #[.pointer (some ⟨r, 0, none⟩), .int .i64 n] w fun e' w' => ∃ v, e' = .returned v ∧ OwnB w' w.heap.size v (rdRaw b p e n).1 ∧ Reads w r a c b (rdRaw b p e n).2.1 (rdRaw b p e n).2.2 w' := by
  have HR : Hid (IsReader w r a c b p e) := h
  have h0 := h.c0
  have h1 := h.c1
  have h2 := h.c2
  have f2 := h.frozen 2
  have hp := h.2.2.1
  have hl := h.2.2.2
  clear h
  by_cases he : e = 0
  · subst he
    by_cases hn : n < 0
    · have HE : Hid (rdRaw b p 0 n = ([], p, 11)) := by unfold rdRaw; rw [Hid, if_neg (by simp), if_pos hn]
      have HW' : Hid (Reads w r a c b p 11 (w.setCell ⟨r, 2, none⟩ (.int .i64 11))) := ⟨HR.out.setErr 11, grown_setCell w ⟨r, 2, none⟩ _⟩
      go_enter Try.func96, Try.ntmps96
      go_wp2
      go_ret
      exact ⟨_, rfl, by rw [HE.out]; exact OwnB.nil _ _, by rw [HE.out]; exact HW'.out⟩
    · obtain ⟨m, rfl⟩ := Int.eq_ofNat_of_zero_le (show 0 ≤ n by omega)
      go_enter Try.func96, Try.ntmps96
      go_wp2_with fail
      refine (left_any w r a c b p 0 HR.out).mono ?_
      rintro e1 w1 ⟨rfl, q, hq⟩
      have HR1 : Hid (IsReader w1 r a c b p 0) := by rw [hq]; exact HR.out
      have HG1 : Hid (w.grownBy w1 (some r)) := by rw [hq]; exact grown_drewN _ _ _
      have HSZ : Hid (w1.heap.size = w.heap.size) := by rw [hq]; rfl
      have k0 := HR1.out.c0
      have k1 := HR1.out.c1
      have k2 := HR1.out.c2
      have g1 := HR1.out.frozen 1
      have g2 := HR1.out.frozen 2
      clear hq h0 h1 h2 f2
      by_cases hgt : b.length - p < m
      · have hgt' : ((b.length - p : Nat) : Int) < (m : Int) := by omega
        have HE : Hid (rdRaw b p 0 (m : Int) = ([], p, 10)) := by unfold rdRaw; rw [Hid, if_neg (by simp), if_neg (by omega), if_pos hgt']
        have HW := HR1.out.setErr 10
        have HW' : Hid (Reads w r a c b p 10 (w1.setCell ⟨r, 2, none⟩ (.int .i64 10))) := ⟨HW, grown_trans' HG1.out (grown_setCell w1 ⟨r, 2, none⟩ _)⟩
        clear HW hgt
        go_wp2
        go_ret
        exact ⟨_, rfl, by rw [HE.out]; exact OwnB.nil _ _, by rw [HE.out]; exact HW'.out⟩
      · have hgt' : ¬ ((b.length - p : Nat) : Int) < (m : Int) := by omega
        have HE : Hid (rdRaw b p 0 (m : Int) = ((b.drop p).take m, p + m, 0)) := by unfold rdRaw; rw [Hid, if_neg (by simp), if_neg (by omega), if_neg hgt']; rfl
        have hpm : p + m ≤ b.length := by omega
        have hcl := HR1.out.nil.2
        have hcm := HR1.out.cmax
        unfold maxLen at hcm
        have HZL : Hid (m = ((b.drop p).take m).length) := by rw [Hid, List.length_take, List.length_drop]; omega
        have HZ : Hid (∀ z ∈ (b.drop p).take m, z < 256) := fun z hz => HR1.out.2.1.1 z (List.mem_of_mem_drop (List.mem_of_mem_take hz))
        have HMX : Hid (((b.drop p).take m).length ≤ maxLen) := by rw [Hid, ← HZL.out]; unfold maxLen; omega
        /- the end, behind the call of fresh -/
        have HEND : ∀ w2 : World, RowAt w2 w1.heap.size ((b.drop p).take m) → Below w1.heap.size w1.drew w2 → w2.heap.size = w1.heap.size + 1 →
            Hid (IsReader w2 r a c b p 0) ∧ Hid (w.grownBy w2 (some r)) ∧ Hid (OwnB w2 w.heap.size (.slice (some ⟨w1.heap.size, 0, none⟩) m m) ((b.drop p).take m)) := by
          intro w2 hr2 hb2 hs2
          refine ⟨(HR1.out.drewN 1).kept hb2, grown_trans' HG1.out (grown_trans' (grown_drewN w1 1 _) (grown_below hb2)), ?_⟩
          have := OwnB.ofRow hr2 HZ.out HMX.out (base := w.heap.size) (by rw [HSZ.out]; exact Nat.le_refl _)
          rw [← HZL.out] at this
          exact this
        have HEND' : Hid (∀ w2 : World, RowAt w2 w1.heap.size ((b.drop p).take m) → Below w1.heap.size w1.drew w2 → w2.heap.size = w1.heap.size + 1 →
            Hid (IsReader w2 r a c b p 0) ∧ Hid (w.grownBy w2 (some r)) ∧ Hid (OwnB w2 w.heap.size (.slice (some ⟨w1.heap.size, 0, none⟩) m m) ((b.drop p).take m))) := HEND
        clear HEND hgt
        rcases HR1.out.2.1.shape with ⟨hv, hb0⟩ | ⟨g, cap, hv, _, _, _, _, _⟩
        · simp only [Value.slice.injEq] at hv
          obtain ⟨rfl, _, rfl⟩ := hv
          subst hb0
          obtain rfl : p = 0 := by simpa using hp
          obtain rfl : m = 0 := by simpa using hpm
          have HSB : Hid (BytesAt w1 none (([] : List Nat).drop 0 |>.take 0)) := ⟨by simp, .inl rfl⟩
          go_wp2
          go_region_held (fun w' => w'.cell? ⟨r, 0, none⟩ = some (.slice none 0 0) ∧ w'.cell? ⟨r, 1, none⟩ = some (.int .i64 0)) (first | exact ⟨‹_›, ‹_›⟩ | exact ⟨k0, k1⟩ | go_keep)
            ((go_at_call 59; go_loud (refine (fresh_any _ _ _ _ _ HZL.out (HSB.out.drewN 1) (by omega)).mono ?_; rintro e2 w2 ⟨rfl, hr2, hb2, hs2⟩; obtain ⟨HR2, HG2, HO2⟩ := HEND'.out w2 hr2 hb2 hs2; have l0 := HR2.out.c0; have l1 := HR2.out.c1; have i1 := HR2.out.frozen 1; clear hr2 hb2 hs2)))
          have HW := HR2.out.setAt 0 (by simp)
          have HW' : Hid (Reads w r none 0 [] 0 0 (w2.setCell ⟨r, 1, none⟩ (.int .i64 0))) := ⟨HW, grown_trans' HG2.out (grown_setCell w2 ⟨r, 1, none⟩ _)⟩
          have HO' : Hid (OwnB (w2.setCell ⟨r, 1, none⟩ (.int .i64 0)) w.heap.size (.slice (some ⟨w1.heap.size, 0, none⟩) 0 0) []) := by
            refine HO2.out.grown (grown_setCell w2 ⟨r, 1, none⟩ _) (.inr ?_)
            have := HR1.out.lt
            simp [Value.ownBlock]; omega
          clear HW
          go_wp2
          go_ret
          exact ⟨.slice (some ⟨w1.heap.size, 0, none⟩) 0 0, rfl, by rw [HE.out]; exact HO'.out, by rw [HE.out]; exact HW'.out⟩
        · simp only [Value.slice.injEq] at hv
          obtain ⟨rfl, _, rfl⟩ := hv
          have HFIN : ∀ w2 : World, Hid (IsReader w2 r (some ⟨g, 0, none⟩) c b p 0) → Hid (w.grownBy w2 (some r)) → Hid (OwnB w2 w.heap.size (.slice (some ⟨w1.heap.size, 0, none⟩) m m) ((b.drop p).take m)) →
              Hid (OwnB (w2.setCell ⟨r, 1, none⟩ (.int .i64 ((p : Int) + (m : Int)))) w.heap.size (.slice (some ⟨w1.heap.size, 0, none⟩) m m) (rdRaw b p 0 (m : Int)).1 ∧ Reads w r (some ⟨g, 0, none⟩) c b (rdRaw b p 0 (m : Int)).2.1 (rdRaw b p 0 (m : Int)).2.2 (w2.setCell ⟨r, 1, none⟩ (.int .i64 ((p : Int) + (m : Int))))) := by
            intro w2 HR2 HG2 HO2
            rw [HE.out]
            refine ⟨?_, HR2.out.setAt (p + m) hpm, grown_trans' HG2.out (grown_setCell w2 ⟨r, 1, none⟩ _)⟩
            refine HO2.out.grown (grown_setCell w2 ⟨r, 1, none⟩ _) (.inr ?_)
            have := HR1.out.lt
            simp [Value.ownBlock]; omega
          have HFIN' : Hid (∀ w2 : World, Hid (IsReader w2 r (some ⟨g, 0, none⟩) c b p 0) → Hid (w.grownBy w2 (some r)) → Hid (OwnB w2 w.heap.size (.slice (some ⟨w1.heap.size, 0, none⟩) m m) ((b.drop p).take m)) →
              Hid (OwnB (w2.setCell ⟨r, 1, none⟩ (.int .i64 ((p : Int) + (m : Int)))) w.heap.size (.slice (some ⟨w1.heap.size, 0, none⟩) m m) (rdRaw b p 0 (m : Int)).1 ∧ Reads w r (some ⟨g, 0, none⟩) c b (rdRaw b p 0 (m : Int)).2.1 (rdRaw b p 0 (m : Int)).2.2 (w2.setCell ⟨r, 1, none⟩ (.int .i64 ((p : Int) + (m : Int)))))) := HFIN
          clear HFIN
          have hwr : IntKind.i64.wrap ((p : Int) + (m : Int)) = ((p + m : Nat) : Int) := by rw [IntKind.wrap_i64]; omega
          by_cases hcp : c = p
          · obtain rfl : m = 0 := by omega
            have hbl : b.length = p := by omega
            have hcz : (c : Int) - (p : Int) = 0 := by omega
            have hwr' : IntKind.i64.wrap (p : Int) = (p : Int) := by rw [IntKind.wrap_i64]; omega
            have hpz : p - p = 0 := by omega
            have HSB : Hid (BytesAt w1 (some ⟨g, 0, none⟩) ((b.drop p).take 0)) := ⟨by simp, .inl rfl⟩
            clear hwr
            go_wp2
            go_region_held (fun w' => w'.cell? ⟨r, 0, none⟩ = some (.slice (some ⟨g, 0, none⟩) b.length c) ∧ w'.cell? ⟨r, 1, none⟩ = some (.int .i64 (p : Int))) (first | exact ⟨‹_›, ‹_›⟩ | exact ⟨k0, k1⟩ | go_keep)
              ((go_at_call 59; go_loud (refine (fresh_any _ _ _ _ _ HZL.out (HSB.out.drewN 1) (by omega)).mono ?_; rintro e2 w2 ⟨rfl, hr2, hb2, hs2⟩; obtain ⟨HR2, HG2, HO2⟩ := HEND'.out w2 hr2 hb2 hs2; have l0 := HR2.out.c0; have l1 := HR2.out.c1; have i1 := HR2.out.frozen 1; clear hr2 hb2 hs2)))
            have HF := HFIN'.out w2 HR2 HG2 HO2
            go_wp2
            go_ret
            exact ⟨_, rfl, HF.out⟩
          · have HSB : Hid (BytesAt w1 (some ⟨g, p, none⟩) ((b.drop p).take m)) := by have := HR1.out.bytes.cut p m; rwa [Nat.zero_add] at this
            go_wp2
            go_region_held (fun w' => w'.cell? ⟨r, 0, none⟩ = some (.slice (some ⟨g, 0, none⟩) b.length c) ∧ w'.cell? ⟨r, 1, none⟩ = some (.int .i64 (p : Int))) (first | exact ⟨‹_›, ‹_›⟩ | exact ⟨k0, k1⟩ | go_keep)
              ((go_at_call 59; go_loud (refine (fresh_any _ _ _ _ _ HZL.out (HSB.out.drewN 1) (by omega)).mono ?_; rintro e2 w2 ⟨rfl, hr2, hb2, hs2⟩; obtain ⟨HR2, HG2, HO2⟩ := HEND'.out w2 hr2 hb2 hs2; have l0 := HR2.out.c0; have l1 := HR2.out.c1; have i1 := HR2.out.frozen 1; clear hr2 hb2 hs2)))
            have HF := HFIN'.out w2 HR2 HG2 HO2
            go_wp2
            go_ret
            exact ⟨_, rfl, HF.out⟩
  · have he' : (e != 0) = true := by rw [bne_iff_ne]; exact he
    have HE : Hid (rdRaw b p e n = ([], p, e)) := by unfold rdRaw; rw [Hid, if_pos he]
    clear he
    go_enter Try.func96, Try.ntmps96
    go_wp2
    go_ret
    exact ⟨_, rfl, by rw [HE.out]; exact OwnB.nil _ _, by rw [HE.out]; exact ⟨HR.out, World.grownBy.refl _ _⟩⟩

end Go.Proofs.Ytciogmenoighoaa
