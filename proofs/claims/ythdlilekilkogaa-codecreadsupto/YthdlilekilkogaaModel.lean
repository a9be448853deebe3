/-
  THE WALKS OF preluderef01.Reader's METHODS: what a model is; Uint, Upto, Int.
-/
import Derived.Test.YthdlilekilkogaaMNum
import Derived.Test.YthdlilekilkogaaRaw
namespace Go.Proofs.Ythdlilekilkogaa
open Go.RowKit

/-- BLOCK r IS A Reader OF THE BYTES b, AT p, WITH THE ERROR e. -/
def IsModel (w : World) (r : Nat) (a : Option Addr) (c : Nat) (b : List Nat) (p : Nat) (e : Int) : Prop :=
  w.heap[r]? = some (.cells #[.slice a b.length c, .int .i64 (p : Int), .int .i64 e] 51 (0, 0)) ∧ OwnB w 0 (.slice a b.length c) b ∧ p ≤ b.length ∧ b.length ≤ 140737488355328

section
variable {w w1 : World} {r : Nat} {a : Option Addr} {c : Nat} {b : List Nat} {p : Nat} {e : Int}
theorem IsModel.c0 (h : IsModel w r a c b p e) : w.cell? ⟨r, 0, none⟩ = some (.slice a b.length c) := by simp [World.cell?, h.1]
theorem IsModel.c1 (h : IsModel w r a c b p e) : w.cell? ⟨r, 1, none⟩ = some (.int .i64 (p : Int)) := by simp [World.cell?, h.1]
theorem IsModel.c2 (h : IsModel w r a c b p e) : w.cell? ⟨r, 2, none⟩ = some (.int .i64 e) := by simp [World.cell?, h.1]
theorem IsModel.frozen (h : IsModel w r a c b p e) (j : Nat) : w.frozen? ⟨r, j, none⟩ = false := frozen_of_row w r j _ _ h.1
theorem IsModel.lt (h : IsModel w r a c b p e) : r < w.heap.size := (Array.getElem?_eq_some_iff.1 h.1).1
theorem IsModel.bytes (h : IsModel w r a c b p e) : BytesAt w a b := h.2.1.bytes.1
theorem IsModel.nil (h : IsModel w r a c b p e) : (a = none → c = 0) ∧ b.length ≤ c := by
  obtain ⟨a', c', e', _, hn, hl⟩ := h.2.1.slice
  simp only [Value.slice.injEq] at e'
  obtain ⟨rfl, _, rfl⟩ := e'
  exact ⟨hn, hl⟩
theorem IsModel.cmax (h : IsModel w r a c b p e) : c ≤ maxLen := by
  rcases h.2.1.shape with ⟨e', _⟩ | ⟨g, cap, e', _, _, _, hm, _⟩
  · simp only [Value.slice.injEq] at e'; rw [e'.2.2]; exact Nat.zero_le _
  · simp only [Value.slice.injEq] at e'; rw [e'.2.2]; exact hm
theorem IsModel.ne (h : IsModel w r a c b p e) : (Value.slice a b.length c).ownBlock ≠ some r := by
  obtain ⟨h1, ⟨_, _, h2 | ⟨g, cap, cur, e', _, hg, _⟩⟩, _⟩ := h
  · rw [h2.1]; simp [Value.ownBlock]
  · rw [e']
    intro e2
    simp only [Value.ownBlock, Option.some.injEq] at e2
    subst e2
    rw [hg] at h1
    simp at h1
theorem IsModel.drewN (h : IsModel w r a c b p e) (n : Nat) : IsModel (w.drewN n) r a c b p e := h
theorem IsModel.kept (h : IsModel w r a c b p e) (hb : Below w.heap.size w w1) : IsModel w1 r a c b p e :=
  ⟨by rw [hb.block r h.lt]; exact h.1, h.2.1.kept hb, h.2.2⟩
theorem IsModel.below {B : Nat} (h : IsModel w r a c b p e) (hb : Below B w w1) (hr : r < B) (hv : ∀ g, (Value.slice a b.length c).ownBlock = some g → g < B) : IsModel w1 r a c b p e :=
  ⟨by rw [hb.block r hr]; exact h.1, h.2.1.below hb hv, h.2.2⟩
theorem IsModel.setAt (h : IsModel w r a c b p e) (q : Nat) (hq : q ≤ b.length) : IsModel (w.setCell ⟨r, 1, none⟩ (.int .i64 (q : Int))) r a c b q e := by
  refine ⟨?_, ⟨h.2.1.1, ?_⟩, hq, h.2.2.2⟩
  · have := heap_setCell_same w r 1 _ _ (.int .i64 (q : Int)) h.1
    rw [this]; rfl
  · exact h.2.1.2.kept (grown_setCell w ⟨r, 1, none⟩ _) (.inr h.ne)
theorem IsModel.setErr (h : IsModel w r a c b p e) (x : Int) : IsModel (w.setCell ⟨r, 2, none⟩ (.int .i64 x)) r a c b p x := by
  refine ⟨?_, ⟨h.2.1.1, ?_⟩, h.2.2⟩
  · have := heap_setCell_same w r 2 _ _ (.int .i64 x) h.1
    rw [this]; rfl
  · exact h.2.1.2.kept (grown_setCell w ⟨r, 2, none⟩ _) (.inr h.ne)
end

/-- what a call of a model Reader leaves: its own block, and new ones -/
def Models (w : World) (r : Nat) (a : Option Addr) (c : Nat) (b : List Nat) (p : Nat) (e : Int) (w' : World) : Prop := IsModel w' r a c b p e ∧ w.grownBy w' (some r)

theorem scanFrom_err : ∀ (C : List Nat) (i acc : Nat), (scanFrom i acc C).2.2 ≠ 0 → (scanFrom i acc C).1 = 0 ∧ (scanFrom i acc C).2.1 = 0
  | [], _, _, _ => ⟨rfl, rfl⟩
  | c :: r, i, acc, h => by
    rw [scanFrom] at h ⊢
    split
    · exact ⟨rfl, rfl⟩
    · rename_i h1
      rw [if_neg h1] at h
      split
      · rename_i h2
        rw [if_pos h2] at h
        exact absurd rfl h
      · rename_i h2
        rw [if_neg h2] at h
        exact scanFrom_err r _ _ h
theorem scan_zero (C : List Nat) (h : (scan C).2.2 ≠ 0) : (scan C).1 = 0 ∧ (scan C).2.1 = 0 := scanFrom_err C 0 0 h
theorem scan_lt (C : List Nat) (hz : ∀ z ∈ C, z < 256) : (scan C).1 < 18446744073709551616 ∧ (scan C).2.1 ≤ C.length := by
  by_cases h : (scan C).2.2 = 0
  · have h3 := scan_one C (scan C).1 (scan C).2.1 hz (by rw [← h])
    exact ⟨h3.1, h3.2.2.1⟩
  · have := scan_zero C h
    omega
theorem rdUpto_scan (b : List Nat) (hz : ∀ z ∈ b, z < 256) (p : Nat) : rdUpto b p 0 18446744073709551615 = ((scan (b.drop p)).1, p + (scan (b.drop p)).2.1, (((scan (b.drop p)).2.2 : Nat) : Int)) := by
  have hl := scan_lt (b.drop p) (fun z hz' => hz z (List.mem_of_mem_drop hz'))
  have he := scan_zero (b.drop p)
  unfold rdUpto
  rw [if_neg (show ¬ (0 : Int) ≠ 0 by simp)]
  split
  · rename_i h
    rw [(he h).1, (he h).2, Nat.add_zero]
  · rename_i h
    rw [if_neg (by omega), Decidable.not_not.1 h]
    rfl

set_option maxHeartbeats 400000 in
theorem mUint_any (w : World) (r g c : Nat) (b : List Nat) (p : Nat) (e : Int) (h : IsModel w r (some ⟨g, 0, none⟩) c b p e) :
    Calls Try.prog 42 #[.pointer (some ⟨r, 0, none⟩)] w fun e' w' => e' = .returned (.int .u64 (((rdUpto b p e 18446744073709551615).1 : Nat) : Int)) ∧ Models w r (some ⟨g, 0, none⟩) c b (rdUpto b p e 18446744073709551615).2.1 (rdUpto b p e 18446744073709551615).2.2 w' := by
  have HR : Hid (IsModel w r (some ⟨g, 0, none⟩) c b p e) := h
  have h0 := h.c0
  have h1 := h.c1
  have h2 := h.c2
  have f1 := h.frozen 1
  have f2 := h.frozen 2
  have hp := h.2.2.1
  have hl := h.2.2.2
  have hlc := h.nil.2
  have hcm := h.cmax
  clear h
  by_cases he : e = 0
  · subst he
    have HZ : Hid (∀ z ∈ b.drop p, z < 256) := fun z hz => HR.out.2.1.1 z (List.mem_of_mem_drop hz)
    have HU := rdUpto_scan b HR.out.2.1.1 p
    have HSL := (scan_lt (b.drop p) HZ.out).2
    rw [List.length_drop] at HSL
    have HMX : Hid ((b.drop p).length ≤ maxLen) := by rw [Hid, List.length_drop]; unfold maxLen; omega
    have hcm' : c ≤ 9223372036854775807 := by unfold maxLen at hcm; omega
    have HLN : Hid (b.length - p = (b.drop p).length) := by rw [Hid, List.length_drop]
    have HSB : Hid (∃ off, BytesAt w (some ⟨g, off, none⟩) (b.drop p) ∧ off = if c = p then 0 else p) := by
      by_cases hcp : c = p
      · refine ⟨0, ?_, by rw [if_pos hcp]⟩
        rw [List.drop_of_length_le (by omega)]
        exact ⟨by simp, .inl rfl⟩
      · refine ⟨p, ?_, by rw [if_neg hcp]⟩
        have := HR.out.bytes.drop p; rwa [Nat.zero_add] at this
    have HU' : Hid (rdUpto b p 0 18446744073709551615 = ((scan (b.drop p)).1, p + (scan (b.drop p)).2.1, (((scan (b.drop p)).2.2 : Nat) : Int))) := HU
    have HSL' : Hid ((scan (b.drop p)).2.1 ≤ b.length - p) := HSL
    clear HU HSL hcm HZ
    have HEND : ∀ nq : Nat, Hid (Models w r (some ⟨g, 0, none⟩) c b (p + (scan (b.drop p)).2.1) (((scan (b.drop p)).2.2 : Nat) : Int) (((w.setCell ⟨r, 2, none⟩ (.int .i64 (((scan (b.drop p)).2.2 : Nat) : Int))).setCell ⟨r, 1, none⟩ (.int .i64 ((p : Int) + (((scan (b.drop p)).2.1 : Nat) : Int)))).drewN nq)) := by
      intro nq
      have hk : p + (scan (b.drop p)).2.1 ≤ b.length := by have := HSL'.out; omega
      exact ⟨(HR.out.setErr _).setAt (p + (scan (b.drop p)).2.1) hk, grown_trans' (grown_trans' (grown_setCell w ⟨r, 2, none⟩ _) (grown_setCell _ ⟨r, 1, none⟩ _)) (grown_drewN _ _ _)⟩
    have HEND' : Hid (∀ nq : Nat, Hid (Models w r (some ⟨g, 0, none⟩) c b (p + (scan (b.drop p)).2.1) (((scan (b.drop p)).2.2 : Nat) : Int) (((w.setCell ⟨r, 2, none⟩ (.int .i64 (((scan (b.drop p)).2.2 : Nat) : Int))).setCell ⟨r, 1, none⟩ (.int .i64 ((p : Int) + (((scan (b.drop p)).2.1 : Nat) : Int)))).drewN nq))) := HEND
    have hkm : (scan (b.drop p)).2.1 ≤ 140737488355328 := by have := HSL'.out; omega
    clear HEND
    obtain ⟨off, hsb, hoff⟩ := HSB.out
    have HSC : Hid (BytesAt w (some ⟨g, off, none⟩) (b.drop p)) := hsb
    clear hsb HSB
    by_cases hcp : c = p
    · rw [if_pos hcp] at hoff
      subst hoff
      have hbl : b.length = p := by omega
      have hcz : (c : Int) - (p : Int) = 0 := by omega
      have hlz : (b.length : Int) - (p : Int) = 0 := by omega
      have HL0 : Hid (0 = (b.drop p).length) := by rw [Hid, List.length_drop]; omega
      go_enter Try.func42, Try.ntmps42
      go_wp2
      go_quiet ((go_at_call 50; exact Calls.quiet_of_same (number_any _ _ _ _ _ (b.drop p) HL0.out (HSC.out.drewN _) HMX.out)))
      have HF := HEND'.out nq
      generalize scan (b.drop p) = s at *
      go_wp2
      go_ret
      exact ⟨by rw [HU'.out]; rfl, by rw [HU'.out]; exact HF.out⟩
    · rw [if_neg hcp] at hoff
      have hoff' := hoff.symm
      subst hoff'
      go_enter Try.func42, Try.ntmps42
      go_wp2
      go_quiet ((go_at_call 50; exact Calls.quiet_of_same (number_any _ _ _ _ _ (b.drop p) HLN.out (HSC.out.drewN _) HMX.out)))
      have HF := HEND'.out nq
      generalize scan (b.drop p) = s at *
      go_wp2
      go_ret
      exact ⟨by rw [HU'.out]; rfl, by rw [HU'.out]; exact HF.out⟩
  · have he' : (e != 0) = true := by rw [bne_iff_ne]; exact he
    have HE : Hid (rdUpto b p e 18446744073709551615 = (0, p, e)) := by unfold rdUpto; rw [Hid, if_pos he]
    clear he
    go_enter Try.func42, Try.ntmps42
    go_wp2
    go_ret
    exact ⟨by rw [HE.out]; rfl, by rw [HE.out]; exact ⟨HR.out, World.grownBy.refl _ _⟩⟩

set_option maxHeartbeats 400000 in
theorem mUpto_any (w : World) (r g c : Nat) (b : List Nat) (p : Nat) (e : Int) (most : Nat) (h : IsModel w r (some ⟨g, 0, none⟩) c b p e) :
    Calls Try.prog 44 #[.pointer (some ⟨r, 0, none⟩), .int .u64 (most : Int)] w fun e' w' => e' = .returned (.int .u64 (((rdUpto b p e most).1 : Nat) : Int)) ∧ Models w r (some ⟨g, 0, none⟩) c b (rdUpto b p e most).2.1 (rdUpto b p e most).2.2 w' := by
  have HR : Hid (IsModel w r (some ⟨g, 0, none⟩) c b p e) := h
  have h1 := h.c1
  have hp := h.2.2.1
  have hl := h.2.2.2
  clear h
  go_enter Try.func44, Try.ntmps44
  go_wp2_with fail
  refine (mUint_any w r g c b p e HR.out).mono ?_
  rintro e1 w1 ⟨rfl, hr1, hg1⟩
  have k2 := hr1.c2
  have f1 := hr1.frozen 1
  have f2 := hr1.frozen 2
  have k1 := hr1.c1
  have HG1 : Hid (w.grownBy w1 (some r)) := hg1
  have HR1 : Hid (IsModel w1 r (some ⟨g, 0, none⟩) c b (rdUpto b p e 18446744073709551615).2.1 (rdUpto b p e 18446744073709551615).2.2) := hr1
  clear hr1 hg1 h1
  by_cases he : e = 0
  · subst he
    have HU : Hid (rdUpto b p 0 18446744073709551615 = ((scan (b.drop p)).1, p + (scan (b.drop p)).2.1, (((scan (b.drop p)).2.2 : Nat) : Int))) := rdUpto_scan b HR.out.2.1.1 p
    have HM : Hid (rdUpto b p 0 most = if (scan (b.drop p)).2.2 ≠ 0 then (0, p, (((scan (b.drop p)).2.2 : Nat) : Int)) else if most < (scan (b.drop p)).1 then (0, p, 12) else ((scan (b.drop p)).1, p + (scan (b.drop p)).2.1, 0)) := by
      unfold rdUpto; rw [Hid, if_neg (by simp)]
    have HZ : Hid ((scan (b.drop p)).2.2 ≠ 0 → (scan (b.drop p)).1 = 0 ∧ (scan (b.drop p)).2.1 = 0) := scan_zero (b.drop p)
    rw [HU.out] at k1 k2
    rw [HU.out] at HR1
    rw [HU.out]
    clear HU
    generalize scan (b.drop p) = s at *
    by_cases t1 : s.2.2 = 0
    · have hT1 : (((s.2.2 : Nat) : Int) == 0) = true := by rw [beq_iff_eq]; omega
      by_cases t2 : most < s.1
      · have hT2 : (most : Int) < ((s.1 : Nat) : Int) := by omega
        have HE : Hid (rdUpto b p 0 most = (0, p, 12)) := by rw [Hid, HM.out, if_neg (by simp [t1]), if_pos t2]
        have HW' : Hid (Models w r (some ⟨g, 0, none⟩) c b p 12 ((w1.setCell ⟨r, 2, none⟩ (.int .i64 12)).setCell ⟨r, 1, none⟩ (.int .i64 (p : Int)))) := ⟨(HR1.out.setErr 12).setAt p hp, grown_trans' HG1.out (grown_trans' (grown_setCell w1 ⟨r, 2, none⟩ _) (grown_setCell _ ⟨r, 1, none⟩ _))⟩
        clear t1 t2
        go_wp2
        go_ret
        exact ⟨by rw [HE.out]; rfl, by rw [HE.out]; exact HW'.out⟩
      · have hT2 : ¬ (most : Int) < ((s.1 : Nat) : Int) := by omega
        have HE : Hid (rdUpto b p 0 most = (s.1, p + s.2.1, 0)) := by rw [Hid, HM.out, if_neg (by simp [t1]), if_neg t2]
        have HW' : Hid (Models w r (some ⟨g, 0, none⟩) c b (p + s.2.1) 0 w1) := ⟨by have := HR1.out; rw [t1] at this; exact this, HG1.out⟩
        clear t1 t2
        go_wp2
        go_ret
        exact ⟨by rw [HE.out]; rfl, by rw [HE.out]; exact HW'.out⟩
    · have hT1 : (((s.2.2 : Nat) : Int) == 0) = false := by rw [beq_eq_false_iff_ne]; omega
      have HE : Hid (rdUpto b p 0 most = (0, p, ((s.2.2 : Nat) : Int))) := by rw [Hid, HM.out, if_pos t1]
      have HW' : Hid (Models w r (some ⟨g, 0, none⟩) c b p ((s.2.2 : Nat) : Int) w1) := ⟨by have := HR1.out; rw [(HZ.out t1).2] at this; exact this, HG1.out⟩
      have HZ1 : Hid (s.1 = 0) := (HZ.out t1).1
      clear t1
      go_wp2
      go_ret
      exact ⟨by rw [HE.out]; show Ending.returned (.int .u64 ((s.1 : Nat) : Int)) = _; rw [HZ1.out], by rw [HE.out]; exact HW'.out⟩
  · have he' : (e == 0) = false := by rw [beq_eq_false_iff_ne]; exact he
    have HE : Hid (rdUpto b p e 18446744073709551615 = (0, p, e)) := by unfold rdUpto; rw [Hid, if_pos he]
    have HE2 : Hid (rdUpto b p e most = (0, p, e)) := by unfold rdUpto; rw [Hid, if_pos he]
    rw [HE.out] at k1 k2
    rw [HE.out] at HR1
    rw [HE.out]
    clear he HE
    go_wp2
    go_ret
    exact ⟨by rw [HE2.out]; rfl, by rw [HE2.out]; exact ⟨HR1.out, HG1.out⟩⟩

theorem refUnfold_any (w : World) (n : Nat) (hn : n < 18446744073709551616) :
    Calls Try.prog 51 #[.int .u64 (n : Int)] w fun e w' => e = .returned (.int .i64 (unfold n)) ∧ w' = w := by
  go_enter Try.func51, Try.ntmps51
  by_cases h2 : n % 2 = 1
  · have h2' : ((n : Int) % 2 == 0) = false := by rw [beq_eq_false_iff_ne]; omega
    have HU : Hid (unfold n = -1 - ((n / 2 : Nat) : Int)) := by unfold unfold; rw [Hid, if_pos h2]
    clear h2
    go_wp2
    go_ret
    exact ⟨by rw [HU.out]; rfl, rfl⟩
  · have h2' : ((n : Int) % 2 == 0) = true := by rw [beq_iff_eq]; omega
    have HU : Hid (unfold n = ((n / 2 : Nat) : Int)) := by unfold unfold; rw [Hid, if_neg h2]
    clear h2
    go_wp2
    go_ret
    exact ⟨by rw [HU.out]; rfl, rfl⟩

theorem mInt_any (w : World) (r g c : Nat) (b : List Nat) (p : Nat) (e : Int) (h : IsModel w r (some ⟨g, 0, none⟩) c b p e) :
    Calls Try.prog 43 #[.pointer (some ⟨r, 0, none⟩)] w fun e' w' => e' = .returned (.int .i64 (unfold (rdUpto b p e 18446744073709551615).1)) ∧ Models w r (some ⟨g, 0, none⟩) c b (rdUpto b p e 18446744073709551615).2.1 (rdUpto b p e 18446744073709551615).2.2 w' := by
  have hlt := rdUpto_lt b h.2.1.1 p e 18446744073709551615
  go_enter Try.func43, Try.ntmps43
  go_wp2_with fail
  refine (mUint_any w r g c b p e h).mono ?_
  rintro e1 w1 ⟨rfl, hr⟩
  go_wp2_with fail
  refine (refUnfold_any w1 _ hlt).mono ?_
  rintro e2 w2 ⟨rfl, rfl⟩
  go_wp2
  go_ret
  exact ⟨rfl, hr⟩

end Go.Proofs.Ythdlilekilkogaa
