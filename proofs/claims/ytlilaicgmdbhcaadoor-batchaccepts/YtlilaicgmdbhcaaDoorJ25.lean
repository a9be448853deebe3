import Derived.Test.YtlilaicgmdbhcaaDoorJ24
import Derived.Test.YtlilaicgmdbhcaaDoorJ10
import Derived.Test.YtlilaicgmdbhcaaDoorJ08
import Derived.Deep.RegionLaw
/-
  THE WALKS OF preluderef01.Reader's METHODS over bytes that are not its own: Uint, Upto, Int.
-/
namespace Go.Proofs.YtlilaicgmdbhcaaDoor
open Go.RowKit

/-- BLOCK r IS A Reader OF THE BYTES b, WHEREVER THEY LIE, AT p, WITH THE ERROR e. -/
def IsMod (w : World) (r : Nat) (a : Option Addr) (c : Nat) (b : List Nat) (p : Nat) (e : Int) : Prop :=
  w.heap[r]? = some (.cells #[.slice a b.length c, .int .i64 (p : Int), .int .i64 e] 56 (0, 0)) ∧ BytesAt w a b ∧ p ≤ b.length ∧ b.length ≤ 140737488355328 ∧ b.length ≤ c ∧ c ≤ maxLen ∧ (a = none → c = 0) ∧ ∀ x, b ≠ [] → a = some x → x.block ≠ r

section
variable {w w1 : World} {r : Nat} {a : Option Addr} {c : Nat} {b : List Nat} {p : Nat} {e : Int}
theorem IsMod.c0 (h : IsMod w r a c b p e) : w.cell? ⟨r, 0, none⟩ = some (.slice a b.length c) := by simp [World.cell?, h.1]
theorem IsMod.c1 (h : IsMod w r a c b p e) : w.cell? ⟨r, 1, none⟩ = some (.int .i64 (p : Int)) := by simp [World.cell?, h.1]
theorem IsMod.c2 (h : IsMod w r a c b p e) : w.cell? ⟨r, 2, none⟩ = some (.int .i64 e) := by simp [World.cell?, h.1]
theorem IsMod.frozen (h : IsMod w r a c b p e) (j : Nat) : w.frozen? ⟨r, j, none⟩ = false := frozen_of_row w r j _ _ h.1
theorem IsMod.lt (h : IsMod w r a c b p e) : r < w.heap.size := (Array.getElem?_eq_some_iff.1 h.1).1
theorem IsMod.bytes (h : IsMod w r a c b p e) : BytesAt w a b := h.2.1
theorem IsMod.drewN (h : IsMod w r a c b p e) (n : Nat) : IsMod (w.drewN n) r a c b p e := h
theorem IsMod.kept (h : IsMod w r a c b p e) (hb : Below w.heap.size w w1) : IsMod w1 r a c b p e :=
  ⟨by rw [hb.block r h.lt]; exact h.1, h.2.1.kept hb, h.2.2⟩
theorem bytes_set (hb : BytesAt w a b) (j : Nat) (v : Value) (hne : ∀ x, b ≠ [] → a = some x → x.block ≠ r) : BytesAt (w.setCell ⟨r, j, none⟩ v) a b := by
  refine ⟨hb.1, ?_⟩
  rcases hb.2 with h | ⟨g, off, rfl, hc⟩
  · exact .inl h
  · by_cases h0 : b = []
    · exact .inl h0
    · refine .inr ⟨g, off, rfl, fun j' hj => ?_⟩
      have h1 := hc j' hj
      simp only [World.cell?] at h1 ⊢
      rw [heap_setCell_other w ⟨r, j, none⟩ g v (by have := hne _ h0 rfl; simpa using this)]; exact h1
theorem IsMod.setAt (h : IsMod w r a c b p e) (q : Nat) (hq : q ≤ b.length) : IsMod (w.setCell ⟨r, 1, none⟩ (.int .i64 (q : Int))) r a c b q e := by
  refine ⟨?_, bytes_set h.2.1 _ _ h.2.2.2.2.2.2.2, hq, h.2.2.2⟩
  have := heap_setCell_same w r 1 _ _ (.int .i64 (q : Int)) h.1
  rw [this]; rfl
theorem IsMod.setErr (h : IsMod w r a c b p e) (x : Int) : IsMod (w.setCell ⟨r, 2, none⟩ (.int .i64 x)) r a c b p x := by
  refine ⟨?_, bytes_set h.2.1 _ _ h.2.2.2.2.2.2.2, h.2.2⟩
  have := heap_setCell_same w r 2 _ _ (.int .i64 x) h.1
  rw [this]; rfl
end

/-- what a call of a model Reader leaves: its own block, and new ones -/
def Mods (w : World) (r : Nat) (a : Option Addr) (c : Nat) (b : List Nat) (p : Nat) (e : Int) (w' : World) : Prop := IsMod w' r a c b p e ∧ w.grownBy w' (some r)

theorem scanFrom_err : ∀ (C : List Nat) (i acc : Nat), (scanFrom i acc C).2.2 ≠ 0 → (scanFrom i acc C).1 = 0 ∧ (scanFrom i acc C).2.1 = 0
  | [], _, _, _ => ⟨rfl, rfl⟩
  | c :: r, i, acc, h => by
    rw [scanFrom] at h ⊢
    split
    · exact ⟨rfl, rfl⟩
    · rename_i h1
      rw [if_neg h1] at h
      split
      · rename_i h2
        rw [if_pos h2] at h
        exact absurd rfl h
      · rename_i h2
        rw [if_neg h2] at h
        exact scanFrom_err r _ _ h
theorem scan_zero (C : List Nat) (h : (scan C).2.2 ≠ 0) : (scan C).1 = 0 ∧ (scan C).2.1 = 0 := scanFrom_err C 0 0 h
theorem scan_lt (C : List Nat) (hz : ∀ z ∈ C, z < 256) : (scan C).1 < 18446744073709551616 ∧ (scan C).2.1 ≤ C.length := by
  by_cases h : (scan C).2.2 = 0
  · have h3 := scan_one C (scan C).1 (scan C).2.1 hz (by rw [← h])
    exact ⟨h3.1, h3.2.2.1⟩
  · have := scan_zero C h
    omega
theorem rdUpto_scan (b : List Nat) (hz : ∀ z ∈ b, z < 256) (p : Nat) : rdUpto b p 0 18446744073709551615 = ((scan (b.drop p)).1, p + (scan (b.drop p)).2.1, (((scan (b.drop p)).2.2 : Nat) : Int)) := by
  have hl := scan_lt (b.drop p) (fun z hz' => hz z (List.mem_of_mem_drop hz'))
  have he := scan_zero (b.drop p)
  unfold rdUpto
  rw [if_neg (show ¬ (0 : Int) ≠ 0 by simp)]
  split
  · rename_i h
    rw [(he h).1, (he h).2, Nat.add_zero]
  · rename_i h
    rw [if_neg (by omega), Decidable.not_not.1 h]
    rfl

/-- nothing to read, wherever it lies -/
theorem number_nil (w : World) (ao : Option Addr) (cap : Nat) (zs : List Nat) (hn : 0 = zs.length) :
    Calls Tryd.prog 40 #[.slice ao 0 cap] w fun e w' => e = .returned (.tuple #[.int .u64 (((scan zs).1 : Nat) : Int), .int .i64 (((scan zs).2.1 : Nat) : Int), .int .i64 (((scan zs).2.2 : Nat) : Int)]) ∧ w' = w := by
  have HE : Hid (scan zs = (0, 0, 10)) := by rw [Hid, List.eq_nil_of_length_eq_zero hn.symm]; rfl
  clear hn
  go_enter Tryd.func40, Tryd.ntmps40
  go_wp2
  go_loop [5, 6] (fun n i => i = .int .i64 0 ∧ n = .int .u64 0) (fun _ _ => 0)
  case atStart => exact ⟨rfl, rfl⟩
  case round =>
    obtain ⟨rfl, rfl⟩ := hrel
    go_wp2
    go_ret3
    exact ⟨by rw [HE.out]; rfl, rfl⟩

set_option maxHeartbeats 400000 in
theorem uUint_any (w : World) (r : Nat) (ad : Option Addr) (c : Nat) (b : List Nat) (p : Nat) (e : Int) (h : IsMod w r ad c b p e) :
    Calls Tryd.prog 26 #[.pointer (some ⟨r, 0, none⟩)] w fun e' w' => e' = .returned (.int .u64 (((rdUpto b p e 18446744073709551615).1 : Nat) : Int)) ∧ Mods w r ad c b (rdUpto b p e 18446744073709551615).2.1 (rdUpto b p e 18446744073709551615).2.2 w' := by
  have HR : Hid (IsMod w r ad c b p e) := h
  have h0 := h.c0
  have h1 := h.c1
  have h2 := h.c2
  have f1 := h.frozen 1
  have f2 := h.frozen 2
  have hp := h.2.2.1
  have hl := h.2.2.2.1
  have hlc := h.2.2.2.2.1
  have hcm := h.2.2.2.2.2.1
  have hnil := h.2.2.2.2.2.2.1
  clear h
  by_cases he : e = 0
  · subst he
    have HZ : Hid (∀ z ∈ b.drop p, z < 256) := fun z hz => HR.out.2.1.1 z (List.mem_of_mem_drop hz)
    have HU := rdUpto_scan b HR.out.2.1.1 p
    have HSL := (scan_lt (b.drop p) HZ.out).2
    rw [List.length_drop] at HSL
    have HMX : Hid ((b.drop p).length ≤ maxLen) := by rw [Hid, List.length_drop]; unfold maxLen; omega
    have hcm' : c ≤ 9223372036854775807 := by unfold maxLen at hcm; omega
    have HLN : Hid (b.length - p = (b.drop p).length) := by rw [Hid, List.length_drop]
    have HU' : Hid (rdUpto b p 0 18446744073709551615 = ((scan (b.drop p)).1, p + (scan (b.drop p)).2.1, (((scan (b.drop p)).2.2 : Nat) : Int))) := HU
    have HSL' : Hid ((scan (b.drop p)).2.1 ≤ b.length - p) := HSL
    clear HU HSL hcm HZ
    have HEND' : Hid (∀ nq : Nat, Hid (Mods w r ad c b (p + (scan (b.drop p)).2.1) (((scan (b.drop p)).2.2 : Nat) : Int) (((w.setCell ⟨r, 2, none⟩ (.int .i64 (((scan (b.drop p)).2.2 : Nat) : Int))).setCell ⟨r, 1, none⟩ (.int .i64 ((p : Int) + (((scan (b.drop p)).2.1 : Nat) : Int)))).drewN nq))) := by
      intro nq
      have hk : p + (scan (b.drop p)).2.1 ≤ b.length := by have := HSL'.out; omega
      exact ⟨(HR.out.setErr _).setAt (p + (scan (b.drop p)).2.1) hk, grown_trans' (grown_trans' (grown_setCell w ⟨r, 2, none⟩ _) (grown_setCell _ ⟨r, 1, none⟩ _)) (grown_drewN _ _ _)⟩
    have hkm : (scan (b.drop p)).2.1 ≤ 140737488355328 := by have := HSL'.out; omega
    by_cases hb0 : b = []
    · have hbl : b.length = 0 := by rw [hb0]; rfl
      obtain rfl : p = 0 := by omega
      simp only [List.drop_zero] at HU' HSL' HEND' hkm HMX
      have HL0 : Hid (0 = b.length) := by rw [hb0]; exact rfl
      rw [hbl] at h0
      clear hb0 hbl
      have HEND2 : Hid (∀ nq : Nat, Hid (Mods w r ad c b (0 + (scan b).2.1) (((scan b).2.2 : Nat) : Int) (((w.setCell ⟨r, 2, none⟩ (.int .i64 (((scan b).2.2 : Nat) : Int))).setCell ⟨r, 1, none⟩ (.int .i64 (((scan b).2.1 : Nat) : Int))).drewN nq))) := by
        intro nq
        have h := HEND'.out nq
        rw [show ((0 : Nat) : Int) + (((scan b).2.1 : Nat) : Int) = (((scan b).2.1 : Nat) : Int) from by omega] at h
        exact h
      clear HEND'
      clear HLN hlc hp hl
      cases ad with
      | none =>
        obtain rfl : c = 0 := hnil rfl
        clear hnil
        go_enter Tryd.func26, Tryd.ntmps26
        go_wp2
        go_quiet ((go_at_call 40; exact Calls.quiet_of_same (number_nil _ _ _ b HL0.out)))
        have HF := HEND2.out nq
        generalize scan b = s at *
        go_wp2
        go_ret
        exact ⟨by rw [HU'.out]; rfl, by rw [HU'.out]; exact HF.out⟩
      | some x =>
        clear hnil
        by_cases hc0 : c = 0
        · subst hc0
          go_enter Tryd.func26, Tryd.ntmps26
          go_wp2
          go_quiet ((go_at_call 40; exact Calls.quiet_of_same (number_nil _ _ _ b HL0.out)))
          have HF := HEND2.out nq
          generalize scan b = s at *
          go_wp2
          go_ret
          exact ⟨by rw [HU'.out]; rfl, by rw [HU'.out]; exact HF.out⟩
        · have hcc : (c : Int) ≠ 0 := by omega
          go_enter Tryd.func26, Tryd.ntmps26
          go_wp2
          go_quiet ((go_at_call 40; exact Calls.quiet_of_same (number_nil _ _ _ b HL0.out)))
          have HF := HEND2.out nq
          generalize scan b = s at *
          go_wp2
          go_ret
          exact ⟨by rw [HU'.out]; rfl, by rw [HU'.out]; exact HF.out⟩
    · obtain ⟨g, o, rfl, _⟩ := HR.out.bytes.2.resolve_left hb0
      clear hnil hb0
      by_cases hcp : c = p
      · have hbl : b.length = p := by omega
        have hcz : (c : Int) - (p : Int) = 0 := by omega
        have hlz : (b.length : Int) - (p : Int) = 0 := by omega
        have HL0 : Hid (0 = (b.drop p).length) := by rw [Hid, List.length_drop]; omega
        have HSC : Hid (BytesAt w (some ⟨g, o, none⟩) (b.drop p)) := by rw [List.drop_of_length_le (by omega)]; exact ⟨by simp, .inl rfl⟩
        go_enter Tryd.func26, Tryd.ntmps26
        go_wp2
        go_quiet ((go_at_call 40; exact Calls.quiet_of_same (number_any _ _ _ _ _ (b.drop p) HL0.out (HSC.out.drewN _) HMX.out)))
        have HF := HEND'.out nq
        generalize scan (b.drop p) = s at *
        go_wp2
        go_ret
        exact ⟨by rw [HU'.out]; rfl, by rw [HU'.out]; exact HF.out⟩
      · have HSC : Hid (BytesAt w (some ⟨g, o + p, none⟩) (b.drop p)) := HR.out.bytes.drop p
        go_enter Tryd.func26, Tryd.ntmps26
        go_wp2
        go_quiet ((go_at_call 40; exact Calls.quiet_of_same (number_any _ _ _ _ _ (b.drop p) HLN.out (HSC.out.drewN _) HMX.out)))
        have HF := HEND'.out nq
        generalize scan (b.drop p) = s at *
        go_wp2
        go_ret
        exact ⟨by rw [HU'.out]; rfl, by rw [HU'.out]; exact HF.out⟩
  · have he' : (e != 0) = true := by rw [bne_iff_ne]; exact he
    have HE : Hid (rdUpto b p e 18446744073709551615 = (0, p, e)) := by unfold rdUpto; rw [Hid, if_pos he]
    clear he
    go_enter Tryd.func26, Tryd.ntmps26
    go_wp2
    go_ret
    exact ⟨by rw [HE.out]; rfl, by rw [HE.out]; exact ⟨HR.out, World.grownBy.refl _ _⟩⟩

set_option maxHeartbeats 400000 in
theorem uUpto_any (w : World) (r : Nat) (ad : Option Addr) (c : Nat) (b : List Nat) (p : Nat) (e : Int) (most : Nat) (h : IsMod w r ad c b p e) :
    Calls Tryd.prog 12 #[.pointer (some ⟨r, 0, none⟩), .int .u64 (most : Int)] w fun e' w' => e' = .returned (.int .u64 (((rdUpto b p e most).1 : Nat) : Int)) ∧ Mods w r ad c b (rdUpto b p e most).2.1 (rdUpto b p e most).2.2 w' := by
  have HR : Hid (IsMod w r ad c b p e) := h
  have h1 := h.c1
  have hp := h.2.2.1
  have hl := h.2.2.2.1
  clear h
  go_enter Tryd.func12, Tryd.ntmps12
  go_wp2_with fail
  refine (uUint_any w r ad c b p e HR.out).mono ?_
  rintro e1 w1 ⟨rfl, hr1, hg1⟩
  have k2 := hr1.c2
  have f1 := hr1.frozen 1
  have f2 := hr1.frozen 2
  have k1 := hr1.c1
  have HG1 : Hid (w.grownBy w1 (some r)) := hg1
  have HR1 : Hid (IsMod w1 r ad c b (rdUpto b p e 18446744073709551615).2.1 (rdUpto b p e 18446744073709551615).2.2) := hr1
  clear hr1 hg1 h1
  by_cases he : e = 0
  · subst he
    have HU : Hid (rdUpto b p 0 18446744073709551615 = ((scan (b.drop p)).1, p + (scan (b.drop p)).2.1, (((scan (b.drop p)).2.2 : Nat) : Int))) := rdUpto_scan b HR.out.2.1.1 p
    have HM : Hid (rdUpto b p 0 most = if (scan (b.drop p)).2.2 ≠ 0 then (0, p, (((scan (b.drop p)).2.2 : Nat) : Int)) else if most < (scan (b.drop p)).1 then (0, p, 12) else ((scan (b.drop p)).1, p + (scan (b.drop p)).2.1, 0)) := by
      unfold rdUpto; rw [Hid, if_neg (by simp)]
    have HZ : Hid ((scan (b.drop p)).2.2 ≠ 0 → (scan (b.drop p)).1 = 0 ∧ (scan (b.drop p)).2.1 = 0) := scan_zero (b.drop p)
    rw [HU.out] at k1 k2
    rw [HU.out] at HR1
    rw [HU.out]
    clear HU
    generalize scan (b.drop p) = s at *
    by_cases t1 : s.2.2 = 0
    · have hT1 : (((s.2.2 : Nat) : Int) == 0) = true := by rw [beq_iff_eq]; omega
      by_cases t2 : most < s.1
      · have hT2 : (most : Int) < ((s.1 : Nat) : Int) := by omega
        have HE : Hid (rdUpto b p 0 most = (0, p, 12)) := by rw [Hid, HM.out, if_neg (by simp [t1]), if_pos t2]
        have HW' : Hid (Mods w r ad c b p 12 ((w1.setCell ⟨r, 2, none⟩ (.int .i64 12)).setCell ⟨r, 1, none⟩ (.int .i64 (p : Int)))) := ⟨(HR1.out.setErr 12).setAt p hp, grown_trans' HG1.out (grown_trans' (grown_setCell w1 ⟨r, 2, none⟩ _) (grown_setCell _ ⟨r, 1, none⟩ _))⟩
        clear t1 t2
        go_wp2
        go_ret
        exact ⟨by rw [HE.out]; rfl, by rw [HE.out]; exact HW'.out⟩
      · have hT2 : ¬ (most : Int) < ((s.1 : Nat) : Int) := by omega
        have HE : Hid (rdUpto b p 0 most = (s.1, p + s.2.1, 0)) := by rw [Hid, HM.out, if_neg (by simp [t1]), if_neg t2]
        have HW' : Hid (Mods w r ad c b (p + s.2.1) 0 w1) := ⟨by have := HR1.out; rw [t1] at this; exact this, HG1.out⟩
        clear t1 t2
        go_wp2
        go_ret
        exact ⟨by rw [HE.out]; rfl, by rw [HE.out]; exact HW'.out⟩
    · have hT1 : (((s.2.2 : Nat) : Int) == 0) = false := by rw [beq_eq_false_iff_ne]; omega
      have HE : Hid (rdUpto b p 0 most = (0, p, ((s.2.2 : Nat) : Int))) := by rw [Hid, HM.out, if_pos t1]
      have HW' : Hid (Mods w r ad c b p ((s.2.2 : Nat) : Int) w1) := ⟨by have := HR1.out; rw [(HZ.out t1).2] at this; exact this, HG1.out⟩
      have HZ1 : Hid (s.1 = 0) := (HZ.out t1).1
      clear t1
      go_wp2
      go_ret
      exact ⟨by rw [HE.out]; show Ending.returned (.int .u64 ((s.1 : Nat) : Int)) = _; rw [HZ1.out], by rw [HE.out]; exact HW'.out⟩
  · have he' : (e == 0) = false := by rw [beq_eq_false_iff_ne]; exact he
    have HE : Hid (rdUpto b p e 18446744073709551615 = (0, p, e)) := by unfold rdUpto; rw [Hid, if_pos he]
    have HE2 : Hid (rdUpto b p e most = (0, p, e)) := by unfold rdUpto; rw [Hid, if_pos he]
    rw [HE.out] at k1 k2
    rw [HE.out] at HR1
    rw [HE.out]
    clear he HE
    go_wp2
    go_ret
    exact ⟨by rw [HE2.out]; rfl, by rw [HE2.out]; exact ⟨HR1.out, HG1.out⟩⟩

theorem refUnfold_any (w : World) (n : Nat) (hn : n < 18446744073709551616) :
    Calls Tryd.prog 41 #[.int .u64 (n : Int)] w fun e w' => e = .returned (.int .i64 (unfold n)) ∧ w' = w := by
  go_enter Tryd.func41, Tryd.ntmps41
  by_cases h2 : n % 2 = 1
  · have h2' : ((n : Int) % 2 == 0) = false := by rw [beq_eq_false_iff_ne]; omega
    have HU : Hid (unfold n = -1 - ((n / 2 : Nat) : Int)) := by unfold unfold; rw [Hid, if_pos h2]
    clear h2
    go_wp2
    go_ret
    exact ⟨by rw [HU.out]; rfl, rfl⟩
  · have h2' : ((n : Int) % 2 == 0) = true := by rw [beq_iff_eq]; omega
    have HU : Hid (unfold n = ((n / 2 : Nat) : Int)) := by unfold unfold; rw [Hid, if_neg h2]
    clear h2
    go_wp2
    go_ret
    exact ⟨by rw [HU.out]; rfl, rfl⟩

theorem uInt_any (w : World) (r : Nat) (ad : Option Addr) (c : Nat) (b : List Nat) (p : Nat) (e : Int) (h : IsMod w r ad c b p e) :
    Calls Tryd.prog 27 #[.pointer (some ⟨r, 0, none⟩)] w fun e' w' => e' = .returned (.int .i64 (unfold (rdUpto b p e 18446744073709551615).1)) ∧ Mods w r ad c b (rdUpto b p e 18446744073709551615).2.1 (rdUpto b p e 18446744073709551615).2.2 w' := by
  have hlt := rdUpto_lt b h.2.1.1 p e 18446744073709551615
  go_enter Tryd.func27, Tryd.ntmps27
  go_wp2_with fail
  refine (uUint_any w r ad c b p e h).mono ?_
  rintro e1 w1 ⟨rfl, hr⟩
  go_wp2_with fail
  refine (refUnfold_any w1 _ hlt).mono ?_
  rintro e2 w2 ⟨rfl, rfl⟩
  go_wp2
  go_ret
  exact ⟨rfl, hr⟩

end Go.Proofs.YtlilaicgmdbhcaaDoor
/-
  THE WALKS OF preluderef01.Uint, Fold, Int.
-/
namespace Go.Proofs.YtlilaicgmdbhcaaDoor
open Go.RowKit

/-- append at a slice of bytes of the call's own, as one equation -/
theorem run_append_bytes {w : World} (ty : TypeId) (base : Nat) (v : Value) (L : List Nat) (hown : OwnB w base v L)
    (ao : Option Addr) (m c : Nat) (zs : List Nat) (hm : m = zs.length) (hsrc : BytesAt w ao zs) (hnil : ao = none → c = 0) (hlen : L.length + zs.length ≤ 140737488355328) (hbase : base ≤ w.heap.size) :
    ∃ v' w', (Builtin.append_ #[23, 23] ty #[v, .slice ao m c]).run Tryd.prog w = .ok v' w' ∧ OwnB w' base v' (L ++ zs) ∧ w.grownBy w' v.ownBlock ∧ (v'.ownBlock = v.ownBlock ∨ v'.ownBlock = some w.heap.size) := by
  obtain ⟨i0, hi, hz0, hz1, hz2⟩ := info_parts info8
  subst hm
  have hzz : ∀ z ∈ L ++ zs, z < 256 := by
    intro z hz
    rcases List.mem_append.1 hz with h1 | h1
    · exact hown.1 z h1
    · exact hsrc.1 z h1
  cases ao with
  | none =>
    have h0 : zs = [] := by
      obtain ⟨_, h1 | ⟨b, off, h1, _⟩⟩ := hsrc
      · exact h1
      · cases h1
    subst h0
    obtain rfl := hnil rfl
    exact ⟨v, w, run_append_owned_none (P := Tryd.prog) (w := w) base 23 ty 5 i0 1 Tryd.underlying23 hi v L.length (L.map b8) hown.2, by simpa using hown, World.grownBy.refl _ _, .inl rfl⟩
  | some ad =>
    obtain ⟨v', w', hr, h2, h3, _, h5⟩ := run_append_own_at (P := Tryd.prog) w base 23 ty 5 i0 (.int .u8 0) 1 1 Tryd.underlying23 hi hz0 hz1 hz2 rfl (by decide) v L.length (L.map b8) hown.2 ad zs.length c (zs.map b8) (by simp)
      (by
        intro j u hu
        by_cases h0 : zs = []
        · subst h0; simp at hu
        · obtain ⟨ad', e, hc⟩ := bytes_src hsrc h0
          cases e
          exact hc j u hu) (oneCells zs) (by unfold maxLen; omega) (by omega) hbase
    exact ⟨v', w', hr, ⟨hzz, by rw [List.length_append, List.map_append]; exact h2⟩, h3, h5⟩
/-- at a step of a region that draws -/
theorem step_append_bytes {w : World} {ops : Array Oper} {o : Oper} {a : Act} {K : Act → World → Prop} {Q : Exit → Act → World → Prop} {E : Prop} (hgd : o.guard = none) (s x : Operand)
    (ho : o.op = .call { callee := .builtin .append, args := #[s, x], argTypes := #[23, 23] }) (base : Nat) (v : Value) (L : List Nat) (hs : a.eval s = v) (hown : OwnB w base v L)
    (ao : Option Addr) (m c : Nat) (zs : List Nat) (hx : a.eval x = .slice ao m c) (hm : m = zs.length) (hsrc : BytesAt w ao zs) (hnil : ao = none → c = 0) (hlen : L.length + zs.length ≤ 140737488355328) (hbase : base ≤ w.heap.size)
    (h : ∀ v' w', OwnB w' base v' (L ++ zs) → w.grownBy w' v.ownBlock → (v'.ownBlock = v.ownBlock ∨ v'.ownBlock = some w.heap.size) → K (a.put o.dst v') w') :
    if Region.wanted o (yielded ops a.tmps) = true then Oper.wp Tryd.prog o a w K Q else E := by
  have hw : Region.wanted o (yielded ops a.tmps) = true := by simp [Region.wanted, hgd]
  rw [if_pos hw]
  obtain ⟨v', w', hr, h2, h3, h4⟩ := run_append_bytes o.type base v L hown ao m c zs hm hsrc hnil hlen hbase
  unfold Oper.wp execOp
  simp only [ho, resolve, invoke, builtin, Sem.run_bind, Sem.run_pure, Result.andThen_ok, List.map_toArray, List.map_cons, List.map_nil, hs, hx, hr]
  exact h v' w' h2 h3 h4

theorem below_grown {w w1 : World} {row : Option Nat} {B : Nat} (h : w.grownBy w1 row) (hr : ∀ k, row = some k → B ≤ k) (hB : B ≤ w.heap.size) : Below B w w1 :=
  ⟨h.os, h.tape, h.output, h.size, fun k hk => h.block k (by omega) (fun e => by have := hr k e.symm; omega)⟩



end Go.Proofs.YtlilaicgmdbhcaaDoor
/-
  THE WALKS OF preluderef01.Reader's METHODS over bytes that are not its own: Raw, Byte.
-/
namespace Go.Proofs.YtlilaicgmdbhcaaDoor
open Go.RowKit

theorem take_more (b : List Nat) (p i : Nat) (h : p + i < b.length) : (b.drop p).take (i + 1) = (b.drop p).take i ++ [b.getD (p + i) 0] := by
  rw [List.take_succ_eq_append_getElem (by rw [List.length_drop]; omega), List.getElem_drop, List.getD_eq_getElem?_getD, List.getElem?_eq_getElem h]
  rfl

theorem grown_own {w wr w1 : World} {v : Value} {r : Nat} (h : w.grownBy wr (some r)) (hv : ∀ k, v.ownBlock = some k → w.heap.size ≤ k) (hg : wr.grownBy w1 v.ownBlock) : w.grownBy w1 (some r) :=
  ⟨hg.os.trans h.os, hg.tape.trans h.tape, hg.output.trans h.output, Nat.le_trans h.size hg.size, fun k hk hne => (hg.block k (Nat.lt_of_lt_of_le hk h.size) (fun e => by have := hv k e.symm; omega)).trans (h.block k hk hne)⟩
theorem IsMod.grown {w w1 : World} {r : Nat} {ad : Option Addr} {c : Nat} {b : List Nat} {p : Nat} {e : Int} {row : Option Nat} (h : IsMod w r ad c b p e) (hg : w.grownBy w1 row) (h1 : row ≠ some r) (h2 : ∀ k, row = some k → ∀ x, b ≠ [] → ad = some x → x.block ≠ k) : IsMod w1 r ad c b p e := by
  refine ⟨(hg.block r h.lt (fun e => h1 e.symm)).trans h.1, ⟨h.2.1.1, ?_⟩, h.2.2⟩
  by_cases h0 : b = []
  · exact .inl h0
  · obtain ⟨g, off, rfl, hc⟩ := h.2.1.2.resolve_left h0
    refine .inr ⟨g, off, rfl, fun j hj => ?_⟩
    have hj1 := hc j hj
    have hlt := h.2.1.lt _ h0 rfl
    simp only [World.cell?] at hj1 ⊢
    rw [hg.block g hlt (fun e => h2 g e.symm _ h0 rfl rfl)]; exact hj1

set_option maxHeartbeats 1000000 in
theorem uRaw_any (w : World) (r : Nat) (ad : Option Addr) (c : Nat) (b : List Nat) (p : Nat) (e : Int) (n : Int) (h : IsMod w r ad c b p e) :
    Calls Tryd.prog 42 #[.pointer (some ⟨r, 0, none⟩), .int .i64 n] w fun e' w' => ∃ v, e' = .returned v ∧ OwnB w' w.heap.size v (rdRaw b p e n).1 ∧ Mods w r ad c b (rdRaw b p e n).2.1 (rdRaw b p e n).2.2 w' := by
  have HR : Hid (IsMod w r ad c b p e) := h
  have h0 := h.c0
  have h1 := h.c1
  have h2 := h.c2
  have f2 := h.frozen 2
  have hp := h.2.2.1
  have hl := h.2.2.2.1
  clear h
  by_cases he : e = 0
  · subst he
    by_cases hn : n < 0
    · have HE : Hid (rdRaw b p 0 n = ([], p, 11)) := by unfold rdRaw; rw [Hid, if_neg (by simp), if_pos hn]
      have HW' : Hid (Mods w r ad c b p 11 (w.setCell ⟨r, 2, none⟩ (.int .i64 11))) := ⟨HR.out.setErr 11, grown_setCell w ⟨r, 2, none⟩ _⟩
      go_enter Tryd.func42, Tryd.ntmps42
      go_wp2
      go_ret
      exact ⟨_, rfl, by rw [HE.out]; exact OwnB.nil _ _, by rw [HE.out]; exact HW'.out⟩
    · obtain ⟨m, rfl⟩ := Int.eq_ofNat_of_zero_le (show 0 ≤ n by omega)
      by_cases hgt : b.length - p < m
      · have hgt' : (b.length : Int) - (p : Int) < (m : Int) := by omega
        have HE : Hid (rdRaw b p 0 (m : Int) = ([], p, 10)) := by unfold rdRaw; rw [Hid, if_neg (by simp), if_neg (by omega), if_pos (by omega)]
        have HW' : Hid (∀ nq, Mods w r ad c b p 10 ((w.setCell ⟨r, 2, none⟩ (.int .i64 10)).drewN nq)) := fun nq => ⟨HR.out.setErr 10, grown_trans' (grown_setCell w ⟨r, 2, none⟩ _) (grown_drewN _ _ _)⟩
        clear hgt
        go_enter Tryd.func42, Tryd.ntmps42
        go_wp2
        go_quiet (fail)
        have HF := HW'.out nq
        go_wp2
        go_ret
        exact ⟨_, rfl, by rw [HE.out]; exact OwnB.nil _ _, by rw [HE.out]; exact HF⟩
      · have hgt' : ¬ (b.length : Int) - (p : Int) < (m : Int) := by omega
        have HE : Hid (rdRaw b p 0 (m : Int) = ((b.drop p).take m, p + m, 0)) := by unfold rdRaw; rw [Hid, if_neg (by simp), if_neg (by omega), if_neg (by omega)]; rfl
        have hpm : p + m ≤ b.length := by omega
        have hrl : r < w.heap.size := HR.out.lt
        have HGL : Hid (∀ x, b ≠ [] → ad = some x → x.block < w.heap.size) := fun x h0 h1 => HR.out.2.1.lt x h0 h1
        clear hgt
        go_enter Tryd.func42, Tryd.ntmps42
        go_wp2
        go_quiet (fail)
        have HR0 : Hid (IsMod (w.drewN nq) r ad c b p 0) := HR.out
        have HG0 : Hid (w.grownBy (w.drewN nq) (some r)) := grown_drewN _ _ _
        generalize w.drewN nq = w0 at *
        clear h0 h1 h2 f2
        go_wp2
        go_loopw [5, 6] (fun x y wr => ∃ (i : Nat) (v : Value), i ≤ m ∧ x = v ∧ y = .int .i64 (i : Int) ∧ Hid (OwnB wr w.heap.size v ((b.drop p).take i)) ∧ Hid (IsMod wr r ad c b p 0) ∧ Hid (w.grownBy wr (some r))) (fun _ y _ => m - (intOf y).toNat)
        case atStart => exact ⟨0, _, Nat.zero_le _, rfl, rfl, OwnB.nil _ _, HR0, HG0⟩
        case round =>
          clear HR0 HG0
          obtain ⟨i, v, hi, hxv, rfl, HO, HM, HG⟩ := hrel
          have hxv' := hxv.symm
          subst hxv'
          have k0 := HM.out.c0
          have k1 := HM.out.c1
          have HVN : Hid (∀ k, v.ownBlock = some k → w.heap.size ≤ k) := fun k hk => (HO.out.2.lt k hk).1
          by_cases hlt : i < m
          · have hlt' : (i : Int) < (m : Int) := by omega
            obtain ⟨z, hz⟩ : ∃ z, b.getD (p + i) 0 = z := ⟨_, rfl⟩
            have hz256 : z < 256 := by rw [← hz]; exact getD_lt HM.out.2.1.1 _
            have hbne : b ≠ [] := by intro e; rw [e] at hpm; simp at hpm; omega
            obtain ⟨g, o, had, hcc⟩ := HM.out.2.1.2.resolve_left hbne
            have kc : wr.cell? ⟨g, o + (p + i), none⟩ = some (.int .u8 (z : Int)) := by rw [← hz]; exact hcc (p + i) (by omega)
            rw [had] at k0
            clear had hcc hbne
            have HTK : Hid ((b.drop p).take (i + 1) = (b.drop p).take i ++ [z]) := by rw [Hid, ← hz]; exact take_more b p i (by omega)
            have hwr : IntKind.i64.wrap ((p : Int) + (i : Int)) = ((p + i : Nat) : Int) := by rw [IntKind.wrap_i64]; omega
            have hwl : w.heap.size ≤ wr.heap.size := HG.out.size
            have hil : ((b.drop p).take i).length = i := by rw [List.length_take, List.length_drop]; omega
            have HIL : Hid (((b.drop p).take i).length = i) := hil
            have hx0 : 0 ≤ (p : Int) + (i : Int) ∧ (p : Int) + (i : Int) < (b.length : Int) := by omega
            have htn : ((p : Int) + (i : Int)).toNat = p + i := by omega
            clear hz hil
            go_wp2
            go_region_law (refine step_append_bytes rfl _ _ rfl w.heap.size _ ((b.drop p).take i) rfl (OwnB.alloc (w := wr.drew) HO.out _) _ _ _ [z] rfl rfl (byte_src wr.drew _ z rfl hz256) (by simp) (by rw [HIL.out]; simp; omega) (by simp; omega) ?_; intro v' w1 hown1 hgrow1 hat1)
            all_goals
              have hg1 := grown_alloc (w := wr.drew) w1 hgrow1
              have HO1 : Hid (OwnB w1 w.heap.size v' ((b.drop p).take (i + 1))) := by rw [HTK.out]; exact hown1
              have HM1 : Hid (IsMod w1 r ad c b p 0) := IsMod.grown (w := wr.drew) HM.out hg1 (fun e => by have := HVN.out _ e; omega) (fun k hk x h0 h1 e => by have := HVN.out _ hk; have := HGL.out x h0 h1; omega)
              have HG1 : Hid (w.grownBy w1 (some r)) := grown_own (wr := wr.drew) (grown_trans' HG.out (grown_drewN wr 1 _)) HVN.out hg1
            all_goals go_wp2
            all_goals go_roundw
            all_goals first | exact ⟨i + 1, v', by omega, rfl, by go_num, HO1, HM1, HG1⟩ | (simp [intOf]; omega)
          · obtain rfl : i = m := by omega
            have f1 := HM.out.frozen 1
            have hwr : IntKind.i64.wrap ((p : Int) + (i : Int)) = ((p + i : Nat) : Int) := by rw [IntKind.wrap_i64]; omega
            have HM1 : Hid (IsMod (wr.setCell ⟨r, 1, none⟩ (.int .i64 ((p : Int) + (i : Int)))) r ad c b (p + i) 0) := HM.out.setAt (p + i) hpm
            have HG1 : Hid (w.grownBy (wr.setCell ⟨r, 1, none⟩ (.int .i64 ((p : Int) + (i : Int)))) (some r)) := grown_trans' HG.out (grown_setCell wr ⟨r, 1, none⟩ _)
            have HO1 : Hid (OwnB (wr.setCell ⟨r, 1, none⟩ (.int .i64 ((p : Int) + (i : Int)))) w.heap.size v ((b.drop p).take i)) := HO.out.grown (grown_setCell wr ⟨r, 1, none⟩ _) (.inr (fun e => by have := HVN.out _ e; simp at this; omega))
            go_wp2
            go_ret
            exact ⟨v, rfl, by rw [HE.out]; exact HO1.out, by rw [HE.out]; exact ⟨HM1.out, HG1.out⟩⟩
  · have he' : (e != 0) = true := by rw [bne_iff_ne]; exact he
    have HE : Hid (rdRaw b p e n = ([], p, e)) := by unfold rdRaw; rw [Hid, if_pos he]
    clear he
    go_enter Tryd.func42, Tryd.ntmps42
    go_wp2
    go_ret
    exact ⟨_, rfl, by rw [HE.out]; exact OwnB.nil _ _, by rw [HE.out]; exact ⟨HR.out, World.grownBy.refl _ _⟩⟩


end Go.Proofs.YtlilaicgmdbhcaaDoor
