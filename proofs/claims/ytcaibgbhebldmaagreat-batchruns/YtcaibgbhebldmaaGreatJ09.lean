import Derived.Test.YtcaibgbhebldmaaGreatJ08
import Derived.Deep.QuietTactic
import Derived.Test.YtcaibgbhebldmaaGreatJ07
import Derived.Deep.RegionHeld
import Derived.Test.YtcaibgbhebldmaaGreatJ04
import Derived.Test.YtcaibgbhebldmaaGreatJ05
/-
  THE WALKS OF codec.Reader's METHODS.
-/
namespace Go.Proofs.YtcaibgbhebldmaaGreat
open Go.RowKit

theorem BytesAt.cut {w : World} {b off : Nat} {zs : List Nat} (h : BytesAt w (some ⟨b, off, none⟩) zs) (i n : Nat) : BytesAt w (some ⟨b, off + i, none⟩) ((zs.drop i).take n) := by
  obtain ⟨hz, rfl | ⟨b', off', e, hc⟩⟩ := h
  · exact ⟨by simp, .inl (by simp)⟩
  · cases e
    refine ⟨fun z hz' => hz z (List.mem_of_mem_drop (List.mem_of_mem_take hz')), .inr ⟨b, off + i, rfl, fun j hj => ?_⟩⟩
    simp at hj
    rw [Nat.add_assoc, hc (i + j) (by omega)]
    congr 3
    simp [List.getD_eq_getElem?_getD, show j < n by omega]
theorem BytesAt.drop {w : World} {b off : Nat} {zs : List Nat} (h : BytesAt w (some ⟨b, off, none⟩) zs) (i : Nat) : BytesAt w (some ⟨b, off + i, none⟩) (zs.drop i) := by
  have := h.cut i (zs.drop i).length
  rwa [List.take_length] at this

/-- BLOCK r IS A Reader OF THE BYTES b, AT p, WITH THE ERROR e. -/
def IsReader (w : World) (r : Nat) (a : Option Addr) (c : Nat) (b : List Nat) (p : Nat) (e : Int) : Prop :=
  w.heap[r]? = some (.cells #[.slice a b.length c, .int .i64 (p : Int), .int .i64 e] 142 (0, 0)) ∧ OwnB w 0 (.slice a b.length c) b ∧ p ≤ b.length ∧ b.length ≤ 140737488355328

section
variable {w w1 : World} {r : Nat} {a : Option Addr} {c : Nat} {b : List Nat} {p : Nat} {e : Int}
theorem IsReader.c0 (h : IsReader w r a c b p e) : w.cell? ⟨r, 0, none⟩ = some (.slice a b.length c) := by simp [World.cell?, h.1]
theorem IsReader.c1 (h : IsReader w r a c b p e) : w.cell? ⟨r, 1, none⟩ = some (.int .i64 (p : Int)) := by simp [World.cell?, h.1]
theorem IsReader.c2 (h : IsReader w r a c b p e) : w.cell? ⟨r, 2, none⟩ = some (.int .i64 e) := by simp [World.cell?, h.1]
theorem IsReader.frozen (h : IsReader w r a c b p e) (j : Nat) : w.frozen? ⟨r, j, none⟩ = false := frozen_of_row w r j _ _ h.1
theorem IsReader.lt (h : IsReader w r a c b p e) : r < w.heap.size := (Array.getElem?_eq_some_iff.1 h.1).1
theorem IsReader.bytes (h : IsReader w r a c b p e) : BytesAt w a b := h.2.1.bytes.1
theorem IsReader.nil (h : IsReader w r a c b p e) : (a = none → c = 0) ∧ b.length ≤ c := by
  obtain ⟨a', c', e', _, hn, hl⟩ := h.2.1.slice
  simp only [Value.slice.injEq] at e'
  obtain ⟨rfl, _, rfl⟩ := e'
  exact ⟨hn, hl⟩
theorem IsReader.cmax (h : IsReader w r a c b p e) : c ≤ maxLen := by
  rcases h.2.1.shape with ⟨e', _⟩ | ⟨g, cap, e', _, _, _, hm, _⟩
  · simp only [Value.slice.injEq] at e'; rw [e'.2.2]; exact Nat.zero_le _
  · simp only [Value.slice.injEq] at e'; rw [e'.2.2]; exact hm
theorem IsReader.ne (h : IsReader w r a c b p e) : (Value.slice a b.length c).ownBlock ≠ some r := by
  obtain ⟨h1, ⟨_, _, h2 | ⟨g, cap, cur, e', _, hg, _⟩⟩, _⟩ := h
  · rw [h2.1]; simp [Value.ownBlock]
  · rw [e']
    intro e2
    simp only [Value.ownBlock, Option.some.injEq] at e2
    subst e2
    rw [hg] at h1
    simp at h1
theorem IsReader.drewN (h : IsReader w r a c b p e) (n : Nat) : IsReader (w.drewN n) r a c b p e := h
theorem IsReader.kept (h : IsReader w r a c b p e) (hb : Below w.heap.size w w1) : IsReader w1 r a c b p e :=
  ⟨by rw [hb.block r h.lt]; exact h.1, h.2.1.kept hb, h.2.2⟩
theorem IsReader.below {B : Nat} (h : IsReader w r a c b p e) (hb : Below B w w1) (hr : r < B) (hv : ∀ g, (Value.slice a b.length c).ownBlock = some g → g < B) : IsReader w1 r a c b p e :=
  ⟨by rw [hb.block r hr]; exact h.1, h.2.1.below hb hv, h.2.2⟩
theorem grown_setCell (w : World) (x : Addr) (v : Value) : w.grownBy (w.setCell x v) (some x.block) :=
  ⟨rfl, rfl, rfl, by simp, fun k _ hk => heap_setCell_other w x k v (fun e => hk (by rw [e]))⟩
theorem IsReader.setAt (h : IsReader w r a c b p e) (q : Nat) (hq : q ≤ b.length) : IsReader (w.setCell ⟨r, 1, none⟩ (.int .i64 (q : Int))) r a c b q e := by
  refine ⟨?_, ⟨h.2.1.1, ?_⟩, hq, h.2.2.2⟩
  · have := heap_setCell_same w r 1 _ _ (.int .i64 (q : Int)) h.1
    rw [this]; rfl
  · exact h.2.1.2.kept (grown_setCell w ⟨r, 1, none⟩ _) (.inr h.ne)
theorem IsReader.setErr (h : IsReader w r a c b p e) (x : Int) : IsReader (w.setCell ⟨r, 2, none⟩ (.int .i64 x)) r a c b p x := by
  refine ⟨?_, ⟨h.2.1.1, ?_⟩, h.2.2⟩
  · have := heap_setCell_same w r 2 _ _ (.int .i64 x) h.1
    rw [this]; rfl
  · exact h.2.1.2.kept (grown_setCell w ⟨r, 2, none⟩ _) (.inr h.ne)
theorem grown_drewN (w : World) (n : Nat) (row : Option Nat) : w.grownBy (w.drewN n) row := ⟨rfl, rfl, rfl, Nat.le_refl _, fun _ _ _ => rfl⟩
theorem grown_trans' {x y z : World} {row : Option Nat} (h : x.grownBy y row) (k : y.grownBy z row) : x.grownBy z row :=
  ⟨k.os.trans h.os, k.tape.trans h.tape, k.output.trans h.output, Nat.le_trans h.size k.size, fun i hi hne => (k.block i (Nat.lt_of_lt_of_le hi h.size) hne).trans (h.block i hi hne)⟩
theorem grown_below {x y : World} {row : Option Nat} (h : Below x.heap.size x y) : x.grownBy y row := ⟨h.os, h.tape, h.output, h.size, fun k hk _ => h.block k hk⟩
end

/-- what a call of a Reader leaves: its own block, and new ones -/
def Reads (w : World) (r : Nat) (a : Option Addr) (c : Nat) (b : List Nat) (p : Nat) (e : Int) (w' : World) : Prop := IsReader w' r a c b p e ∧ w.grownBy w' (some r)

theorem left_any (w : World) (r : Nat) (a : Option Addr) (c : Nat) (b : List Nat) (p : Nat) (e : Int) (h : IsReader w r a c b p e) :
    Calls Tryz.prog 92 #[.pointer (some ⟨r, 0, none⟩)] w fun e' w' => e' = .returned (.int .i64 ((b.length - p : Nat) : Int)) ∧ ∃ q, w' = w.drewN q := by
  have h0 := h.c0
  have h1 := h.c1
  have hp := h.2.2.1
  have hl := h.2.2.2
  clear h
  go_enter Tryz.func92, Tryz.ntmps92
  go_wp2
  go_quiet (fail)
  go_wp2
  go_ret
  exact ⟨congrArg (fun x => Ending.returned (.int .i64 x)) (by omega), _, rfl⟩

def rdByte (b : List Nat) (p : Nat) (e : Int) : Nat × Nat × Int := if e ≠ 0 then (0, p, e) else if p = b.length then (0, p, 10) else (b.getD p 0, p + 1, 0)


def rdUpto (b : List Nat) (p : Nat) (e : Int) (most : Nat) : Nat × Nat × Int :=
  if e ≠ 0 then (0, p, e) else if (scan (b.drop p)).2.2 ≠ 0 then (0, p, (((scan (b.drop p)).2.2 : Nat) : Int)) else if most < (scan (b.drop p)).1 then (0, p, 12) else ((scan (b.drop p)).1, p + (scan (b.drop p)).2.1, 0)

set_option maxHeartbeats 400000 in
theorem rUpto_any (w : World) (r : Nat) (a : Option Addr) (c : Nat) (b : List Nat) (p : Nat) (e : Int) (most : Nat) (h : IsReader w r a c b p e) :
    Calls Tryz.prog 87 #[.pointer (some ⟨r, 0, none⟩), .int .u64 (most : Int)] w fun e' w' => e' = .returned (.int .u64 (((rdUpto b p e most).1 : Nat) : Int)) ∧ Reads w r a c b (rdUpto b p e most).2.1 (rdUpto b p e most).2.2 w' := by
  have HR : Hid (IsReader w r a c b p e) := h
  have h0 := h.c0
  have h1 := h.c1
  have h2 := h.c2
  have f1 := h.frozen 1
  have f2 := h.frozen 2
  have hp := h.2.2.1
  have hl := h.2.2.2
  have hnil := h.nil
  have hcm := h.cmax
  clear h
  by_cases he : e = 0
  · subst he
    have HZ : Hid (∀ z ∈ b, z < 256) := HR.out.2.1.1
    have HU : Hid (rdUpto b p 0 most = if (scan (b.drop p)).2.2 ≠ 0 then (0, p, (((scan (b.drop p)).2.2 : Nat) : Int)) else if most < (scan (b.drop p)).1 then (0, p, 12) else ((scan (b.drop p)).1, p + (scan (b.drop p)).2.1, 0)) := by
      unfold rdUpto; rw [Hid, if_neg (by simp)]
    have HSC : Hid ((scan (b.drop p)).2.2 = 0 → (scan (b.drop p)).2.1 ≤ (b.drop p).length) := by
      intro h0
      have h3 := scan_one (b.drop p) (scan (b.drop p)).1 (scan (b.drop p)).2.1 (fun z hz => HZ.out z (List.mem_of_mem_drop hz)) (by rw [← h0])
      exact h3.2.2.1
    have HMX : Hid ((b.drop p).length ≤ maxLen) := by rw [Hid, List.length_drop]; unfold maxLen; omega
    rcases HR.out.2.1.shape with ⟨hv, hb0⟩ | ⟨g, cap, hv, _, _, _, _, _⟩
    · simp only [Value.slice.injEq] at hv
      obtain ⟨rfl, _, rfl⟩ := hv
      subst hb0
      have hp0 : p = 0 := by simpa using hp
      subst hp0
      have HSB : Hid (BytesAt w none []) := ⟨by simp, .inl rfl⟩
      have HE : Hid (rdUpto [] 0 0 most = (0, 0, 10)) := rfl
      clear hnil hcm HZ HU HSC HMX hp hl
      go_enter Tryz.func87, Tryz.ntmps87
      go_wp2
      go_quiet ((go_at_call 95; exact Calls.quiet_of_same (scan_any _ _ _ _ [] rfl (HSB.out.drewN _) (by simp [maxLen]))))
      have HW' : Hid (Reads w r none 0 [] 0 10 ((w.setCell ⟨r, 2, none⟩ (.int .i64 10)).drewN nq)) := ⟨HR.out.setErr 10, grown_trans' (grown_setCell w ⟨r, 2, none⟩ _) (grown_drewN _ _ _)⟩
      rw [show scan [] = (0, 0, 10) from rfl]
      go_wp2
      go_ret
      exact ⟨by rw [HE.out]; rfl, by rw [HE.out]; exact HW'.out⟩
    · simp only [Value.slice.injEq] at hv
      obtain ⟨rfl, _, rfl⟩ := hv
      have hlc := hnil.2
      have hcm' : c ≤ 9223372036854775807 := by unfold maxLen at hcm; omega
      have HLN : Hid (b.length - p = (b.drop p).length) := by rw [Hid, List.length_drop]
      clear hnil hcm HZ
      by_cases hcp : c = p
      · have hbl : b.length = p := by omega
        have HSB : Hid (BytesAt w (some ⟨g, 0, none⟩) []) := ⟨by simp, .inl rfl⟩
        have HE : Hid (rdUpto b p 0 most = (0, p, 10)) := by
          rw [Hid, HU.out, List.drop_of_length_le (by omega)]; rfl
        have HW : Hid (IsReader w r (some ⟨g, 0, none⟩) c b p 0) := HR.out
        have hcz : (c : Int) - (p : Int) = 0 := by omega
        have hlz : (b.length : Int) - (p : Int) = 0 := by omega
        clear HU HSC HMX HLN
        go_enter Tryz.func87, Tryz.ntmps87
        go_wp2
        go_quiet ((go_at_call 95; exact Calls.quiet_of_same (scan_any _ _ _ _ [] rfl (HSB.out.drewN _) (by simp [maxLen]))))
        have HW' : Hid (Reads w r (some ⟨g, 0, none⟩) c b p 10 ((w.setCell ⟨r, 2, none⟩ (.int .i64 10)).drewN nq)) := ⟨HR.out.setErr 10, grown_trans' (grown_setCell w ⟨r, 2, none⟩ _) (grown_drewN _ _ _)⟩
        rw [show scan [] = (0, 0, 10) from rfl]
        go_wp2
        go_ret
        exact ⟨by rw [HE.out]; rfl, by rw [HE.out]; exact HW'.out⟩
      · have HSB : Hid (BytesAt w (some ⟨g, p, none⟩) (b.drop p)) := by have := HR.out.bytes.drop p; rwa [Nat.zero_add] at this
        go_enter Tryz.func87, Tryz.ntmps87
        go_wp2
        go_quiet ((go_at_call 95; exact Calls.quiet_of_same (scan_any _ _ _ _ (b.drop p) HLN.out (HSB.out.drewN _) HMX.out)))
        generalize hs : scan (b.drop p) = s at *
        clear hs
        have HR1 : Hid (IsReader (w.drewN nq) r (some ⟨g, 0, none⟩) c b p 0) := HR.out
        by_cases t1 : s.2.2 = 0
        · have hT1 : (((s.2.2 : Nat) : Int) == 0) = true := by rw [beq_iff_eq]; omega
          by_cases t2 : most < s.1
          · have hT2 : (most : Int) < ((s.1 : Nat) : Int) := by omega
            have HE : Hid (rdUpto b p 0 most = (0, p, 12)) := by rw [Hid, HU.out, if_neg (by simp [t1]), if_pos t2]
            have HW' : Hid (Reads w r (some ⟨g, 0, none⟩) c b p 12 ((w.setCell ⟨r, 2, none⟩ (.int .i64 12)).drewN nq)) := ⟨HR.out.setErr 12, grown_trans' (grown_setCell w ⟨r, 2, none⟩ _) (grown_drewN _ _ _)⟩
            clear t1 t2 HSC
            go_wp2
            go_ret
            exact ⟨by rw [HE.out]; rfl, by rw [HE.out]; exact HW'.out⟩
          · have hT2 : ¬ (most : Int) < ((s.1 : Nat) : Int) := by omega
            have hT3 : (((s.2.2 : Nat) : Int) != 0) = false := by rw [t1]; simp
            have HE : Hid (rdUpto b p 0 most = (s.1, p + s.2.1, 0)) := by rw [Hid, HU.out, if_neg (by simp [t1]), if_neg t2]
            have hk : p + s.2.1 ≤ b.length := by
              have := HSC.out t1
              rw [List.length_drop] at this
              omega
            have HW' : Hid (Reads w r (some ⟨g, 0, none⟩) c b (p + s.2.1) 0 ((w.setCell ⟨r, 1, none⟩ (.int .i64 ((p : Int) + ((s.2.1 : Nat) : Int)))).drewN nq)) := ⟨HR.out.setAt (p + s.2.1) hk, grown_trans' (grown_setCell w ⟨r, 1, none⟩ _) (grown_drewN _ _ _)⟩
            clear t1 t2 HSC
            go_wp2
            go_ret
            exact ⟨by rw [HE.out]; rfl, by rw [HE.out]; exact HW'.out⟩
        · have hT1 : (((s.2.2 : Nat) : Int) == 0) = false := by rw [beq_eq_false_iff_ne]; omega
          have hT3 : (((s.2.2 : Nat) : Int) != 0) = true := by rw [bne_iff_ne]; omega
          have HE : Hid (rdUpto b p 0 most = (0, p, ((s.2.2 : Nat) : Int))) := by rw [Hid, HU.out, if_pos t1]
          have HW' : Hid (Reads w r (some ⟨g, 0, none⟩) c b p ((s.2.2 : Nat) : Int) ((w.setCell ⟨r, 2, none⟩ (.int .i64 ((s.2.2 : Nat) : Int))).drewN nq)) := ⟨HR.out.setErr _, grown_trans' (grown_setCell w ⟨r, 2, none⟩ _) (grown_drewN _ _ _)⟩
          clear t1 HSC
          go_wp2
          go_ret
          exact ⟨by rw [HE.out]; rfl, by rw [HE.out]; exact HW'.out⟩
  · have he' : (e != 0) = true := by rw [bne_iff_ne]; exact he
    have HE : Hid (rdUpto b p e most = (0, p, e)) := by unfold rdUpto; rw [Hid, if_pos he]
    clear he hnil
    go_enter Tryz.func87, Tryz.ntmps87
    go_wp2
    go_ret
    exact ⟨by rw [HE.out]; rfl, by rw [HE.out]; exact ⟨HR.out, World.grownBy.refl _ _⟩⟩

end Go.Proofs.YtcaibgbhebldmaaGreat
/-
  THE WALKS OF codec.Reader's METHODS: Uint, Int, Raw.
-/
namespace Go.Proofs.YtcaibgbhebldmaaGreat
open Go.RowKit

theorem rUint_any (w : World) (r : Nat) (a : Option Addr) (c : Nat) (b : List Nat) (p : Nat) (e : Int) (h : IsReader w r a c b p e) :
    Calls Tryz.prog 119 #[.pointer (some ⟨r, 0, none⟩)] w fun e' w' => e' = .returned (.int .u64 (((rdUpto b p e 18446744073709551615).1 : Nat) : Int)) ∧ Reads w r a c b (rdUpto b p e 18446744073709551615).2.1 (rdUpto b p e 18446744073709551615).2.2 w' := by
  go_enter Tryz.func119, Tryz.ntmps119
  go_wp2_with fail
  refine (rUpto_any w r a c b p e 18446744073709551615 h).mono ?_
  rintro e1 w1 ⟨rfl, hr⟩
  go_wp2
  go_ret
  exact ⟨rfl, hr⟩

/-- a number without sign as one with -/
def unfold (n : Nat) : Int := if n % 2 = 1 then -1 - ((n / 2 : Nat) : Int) else ((n / 2 : Nat) : Int)

theorem rdUpto_lt (b : List Nat) (hz : ∀ z ∈ b, z < 256) (p : Nat) (e : Int) (most : Nat) : (rdUpto b p e most).1 < 18446744073709551616 := by
  unfold rdUpto
  split
  · simp
  · split
    · simp
    · split
      · simp
      · rename_i _ h _
        have h3 := scan_one (b.drop p) (scan (b.drop p)).1 (scan (b.drop p)).2.1 (fun z hz' => hz z (List.mem_of_mem_drop hz')) (by rw [← Decidable.not_not.1 h])
        exact h3.1

theorem rInt_any (w : World) (r : Nat) (a : Option Addr) (c : Nat) (b : List Nat) (p : Nat) (e : Int) (h : IsReader w r a c b p e) :
    Calls Tryz.prog 97 #[.pointer (some ⟨r, 0, none⟩)] w fun e' w' => e' = .returned (.int .i64 (unfold (rdUpto b p e 18446744073709551615).1)) ∧ Reads w r a c b (rdUpto b p e 18446744073709551615).2.1 (rdUpto b p e 18446744073709551615).2.2 w' := by
  have hlt := rdUpto_lt b h.2.1.1 p e 18446744073709551615
  go_enter Tryz.func97, Tryz.ntmps97
  go_wp2_with fail
  refine (rUint_any w r a c b p e h).mono ?_
  rintro e1 w1 ⟨rfl, hr⟩
  clear h
  have HR : Hid (Reads w r a c b (rdUpto b p e 18446744073709551615).2.1 (rdUpto b p e 18446744073709551615).2.2 w1) := hr
  clear hr
  obtain ⟨n, hnn⟩ : ∃ n, (rdUpto b p e 18446744073709551615).1 = n := ⟨_, rfl⟩
  rw [hnn] at hlt
  rw [hnn]
  have HNN : Hid ((rdUpto b p e 18446744073709551615).1 = n) := hnn
  clear hnn
  by_cases h2 : n % 2 = 1
  · have h2' : ((n : Int) % 2 == 1) = true := by rw [beq_iff_eq]; omega
    have HU : Hid (unfold n = -1 - ((n / 2 : Nat) : Int)) := by unfold unfold; rw [Hid, if_pos h2]
    clear h2
    go_wp2
    go_ret
    exact ⟨by rw [HNN.out, HU.out]; rfl, HR.out⟩
  · have h2' : ((n : Int) % 2 == 1) = false := by rw [beq_eq_false_iff_ne]; omega
    have HU : Hid (unfold n = ((n / 2 : Nat) : Int)) := by unfold unfold; rw [Hid, if_neg h2]
    clear h2
    go_wp2
    go_ret
    exact ⟨by rw [HNN.out, HU.out]; rfl, HR.out⟩

def rdRaw (b : List Nat) (p : Nat) (e : Int) (n : Int) : List Nat × Nat × Int :=
  if e ≠ 0 then ([], p, e) else if n < 0 then ([], p, 11) else if ((b.length - p : Nat) : Int) < n then ([], p, 10) else ((b.drop p).take n.toNat, p + n.toNat, 0)

set_option maxHeartbeats 1000000 in
theorem rRaw_any (w : World) (r : Nat) (a : Option Addr) (c : Nat) (b : List Nat) (p : Nat) (e : Int) (n : Int) (h : IsReader w r a c b p e) :
    Calls Tryz.prog 120 #[.pointer (some ⟨r, 0, none⟩), .int .i64 n] w fun e' w' => ∃ v, e' = .returned v ∧ OwnB w' w.heap.size v (rdRaw b p e n).1 ∧ Reads w r a c b (rdRaw b p e n).2.1 (rdRaw b p e n).2.2 w' := by
  have HR : Hid (IsReader w r a c b p e) := h
  have h0 := h.c0
  have h1 := h.c1
  have h2 := h.c2
  have f2 := h.frozen 2
  have hp := h.2.2.1
  have hl := h.2.2.2
  clear h
  by_cases he : e = 0
  · subst he
    by_cases hn : n < 0
    · have HE : Hid (rdRaw b p 0 n = ([], p, 11)) := by unfold rdRaw; rw [Hid, if_neg (by simp), if_pos hn]
      have HW' : Hid (Reads w r a c b p 11 (w.setCell ⟨r, 2, none⟩ (.int .i64 11))) := ⟨HR.out.setErr 11, grown_setCell w ⟨r, 2, none⟩ _⟩
      go_enter Tryz.func120, Tryz.ntmps120
      go_wp2
      go_ret
      exact ⟨_, rfl, by rw [HE.out]; exact OwnB.nil _ _, by rw [HE.out]; exact HW'.out⟩
    · obtain ⟨m, rfl⟩ := Int.eq_ofNat_of_zero_le (show 0 ≤ n by omega)
      go_enter Tryz.func120, Tryz.ntmps120
      go_wp2_with fail
      refine (left_any w r a c b p 0 HR.out).mono ?_
      rintro e1 w1 ⟨rfl, q, hq⟩
      have HR1 : Hid (IsReader w1 r a c b p 0) := by rw [hq]; exact HR.out
      have HG1 : Hid (w.grownBy w1 (some r)) := by rw [hq]; exact grown_drewN _ _ _
      have HSZ : Hid (w1.heap.size = w.heap.size) := by rw [hq]; rfl
      have k0 := HR1.out.c0
      have k1 := HR1.out.c1
      have k2 := HR1.out.c2
      have g1 := HR1.out.frozen 1
      have g2 := HR1.out.frozen 2
      clear hq h0 h1 h2 f2
      by_cases hgt : b.length - p < m
      · have hgt' : ((b.length - p : Nat) : Int) < (m : Int) := by omega
        have HE : Hid (rdRaw b p 0 (m : Int) = ([], p, 10)) := by unfold rdRaw; rw [Hid, if_neg (by simp), if_neg (by omega), if_pos hgt']
        have HW := HR1.out.setErr 10
        have HW' : Hid (Reads w r a c b p 10 (w1.setCell ⟨r, 2, none⟩ (.int .i64 10))) := ⟨HW, grown_trans' HG1.out (grown_setCell w1 ⟨r, 2, none⟩ _)⟩
        clear HW hgt
        go_wp2
        go_ret
        exact ⟨_, rfl, by rw [HE.out]; exact OwnB.nil _ _, by rw [HE.out]; exact HW'.out⟩
      · have hgt' : ¬ ((b.length - p : Nat) : Int) < (m : Int) := by omega
        have HE : Hid (rdRaw b p 0 (m : Int) = ((b.drop p).take m, p + m, 0)) := by unfold rdRaw; rw [Hid, if_neg (by simp), if_neg (by omega), if_neg hgt']; rfl
        have hpm : p + m ≤ b.length := by omega
        have hcl := HR1.out.nil.2
        have hcm := HR1.out.cmax
        unfold maxLen at hcm
        have HZL : Hid (m = ((b.drop p).take m).length) := by rw [Hid, List.length_take, List.length_drop]; omega
        have HZ : Hid (∀ z ∈ (b.drop p).take m, z < 256) := fun z hz => HR1.out.2.1.1 z (List.mem_of_mem_drop (List.mem_of_mem_take hz))
        have HMX : Hid (((b.drop p).take m).length ≤ maxLen) := by rw [Hid, ← HZL.out]; unfold maxLen; omega
        /- the end, behind the call of fresh -/
        have HEND : ∀ w2 : World, RowAt w2 w1.heap.size ((b.drop p).take m) → Below w1.heap.size w1.drew w2 → w2.heap.size = w1.heap.size + 1 →
            Hid (IsReader w2 r a c b p 0) ∧ Hid (w.grownBy w2 (some r)) ∧ Hid (OwnB w2 w.heap.size (.slice (some ⟨w1.heap.size, 0, none⟩) m m) ((b.drop p).take m)) := by
          intro w2 hr2 hb2 hs2
          refine ⟨(HR1.out.drewN 1).kept hb2, grown_trans' HG1.out (grown_trans' (grown_drewN w1 1 _) (grown_below hb2)), ?_⟩
          have := OwnB.ofRow hr2 HZ.out HMX.out (base := w.heap.size) (by rw [HSZ.out]; exact Nat.le_refl _)
          rw [← HZL.out] at this
          exact this
        have HEND' : Hid (∀ w2 : World, RowAt w2 w1.heap.size ((b.drop p).take m) → Below w1.heap.size w1.drew w2 → w2.heap.size = w1.heap.size + 1 →
            Hid (IsReader w2 r a c b p 0) ∧ Hid (w.grownBy w2 (some r)) ∧ Hid (OwnB w2 w.heap.size (.slice (some ⟨w1.heap.size, 0, none⟩) m m) ((b.drop p).take m))) := HEND
        clear HEND hgt
        rcases HR1.out.2.1.shape with ⟨hv, hb0⟩ | ⟨g, cap, hv, _, _, _, _, _⟩
        · simp only [Value.slice.injEq] at hv
          obtain ⟨rfl, _, rfl⟩ := hv
          subst hb0
          obtain rfl : p = 0 := by simpa using hp
          obtain rfl : m = 0 := by simpa using hpm
          have HSB : Hid (BytesAt w1 none (([] : List Nat).drop 0 |>.take 0)) := ⟨by simp, .inl rfl⟩
          go_wp2
          go_region_held (fun w' => w'.cell? ⟨r, 0, none⟩ = some (.slice none 0 0) ∧ w'.cell? ⟨r, 1, none⟩ = some (.int .i64 0)) (first | exact ⟨‹_›, ‹_›⟩ | exact ⟨k0, k1⟩ | go_keep)
            ((go_at_call 57; go_loud (refine (fresh_any _ _ _ _ _ HZL.out (HSB.out.drewN 1) (by omega)).mono ?_; rintro e2 w2 ⟨rfl, hr2, hb2, hs2⟩; obtain ⟨HR2, HG2, HO2⟩ := HEND'.out w2 hr2 hb2 hs2; have l0 := HR2.out.c0; have l1 := HR2.out.c1; have i1 := HR2.out.frozen 1; clear hr2 hb2 hs2)))
          have HW := HR2.out.setAt 0 (by simp)
          have HW' : Hid (Reads w r none 0 [] 0 0 (w2.setCell ⟨r, 1, none⟩ (.int .i64 0))) := ⟨HW, grown_trans' HG2.out (grown_setCell w2 ⟨r, 1, none⟩ _)⟩
          have HO' : Hid (OwnB (w2.setCell ⟨r, 1, none⟩ (.int .i64 0)) w.heap.size (.slice (some ⟨w1.heap.size, 0, none⟩) 0 0) []) := by
            refine HO2.out.grown (grown_setCell w2 ⟨r, 1, none⟩ _) (.inr ?_)
            have := HR1.out.lt
            simp [Value.ownBlock]; omega
          clear HW
          go_wp2
          go_ret
          exact ⟨.slice (some ⟨w1.heap.size, 0, none⟩) 0 0, rfl, by rw [HE.out]; exact HO'.out, by rw [HE.out]; exact HW'.out⟩
        · simp only [Value.slice.injEq] at hv
          obtain ⟨rfl, _, rfl⟩ := hv
          have HFIN : ∀ w2 : World, Hid (IsReader w2 r (some ⟨g, 0, none⟩) c b p 0) → Hid (w.grownBy w2 (some r)) → Hid (OwnB w2 w.heap.size (.slice (some ⟨w1.heap.size, 0, none⟩) m m) ((b.drop p).take m)) →
              Hid (OwnB (w2.setCell ⟨r, 1, none⟩ (.int .i64 ((p : Int) + (m : Int)))) w.heap.size (.slice (some ⟨w1.heap.size, 0, none⟩) m m) (rdRaw b p 0 (m : Int)).1 ∧ Reads w r (some ⟨g, 0, none⟩) c b (rdRaw b p 0 (m : Int)).2.1 (rdRaw b p 0 (m : Int)).2.2 (w2.setCell ⟨r, 1, none⟩ (.int .i64 ((p : Int) + (m : Int))))) := by
            intro w2 HR2 HG2 HO2
            rw [HE.out]
            refine ⟨?_, HR2.out.setAt (p + m) hpm, grown_trans' HG2.out (grown_setCell w2 ⟨r, 1, none⟩ _)⟩
            refine HO2.out.grown (grown_setCell w2 ⟨r, 1, none⟩ _) (.inr ?_)
            have := HR1.out.lt
            simp [Value.ownBlock]; omega
          have HFIN' : Hid (∀ w2 : World, Hid (IsReader w2 r (some ⟨g, 0, none⟩) c b p 0) → Hid (w.grownBy w2 (some r)) → Hid (OwnB w2 w.heap.size (.slice (some ⟨w1.heap.size, 0, none⟩) m m) ((b.drop p).take m)) →
              Hid (OwnB (w2.setCell ⟨r, 1, none⟩ (.int .i64 ((p : Int) + (m : Int)))) w.heap.size (.slice (some ⟨w1.heap.size, 0, none⟩) m m) (rdRaw b p 0 (m : Int)).1 ∧ Reads w r (some ⟨g, 0, none⟩) c b (rdRaw b p 0 (m : Int)).2.1 (rdRaw b p 0 (m : Int)).2.2 (w2.setCell ⟨r, 1, none⟩ (.int .i64 ((p : Int) + (m : Int)))))) := HFIN
          clear HFIN
          have hwr : IntKind.i64.wrap ((p : Int) + (m : Int)) = ((p + m : Nat) : Int) := by rw [IntKind.wrap_i64]; omega
          by_cases hcp : c = p
          · obtain rfl : m = 0 := by omega
            have hbl : b.length = p := by omega
            have hcz : (c : Int) - (p : Int) = 0 := by omega
            have hwr' : IntKind.i64.wrap (p : Int) = (p : Int) := by rw [IntKind.wrap_i64]; omega
            have hpz : p - p = 0 := by omega
            have HSB : Hid (BytesAt w1 (some ⟨g, 0, none⟩) ((b.drop p).take 0)) := ⟨by simp, .inl rfl⟩
            clear hwr
            go_wp2
            go_region_held (fun w' => w'.cell? ⟨r, 0, none⟩ = some (.slice (some ⟨g, 0, none⟩) b.length c) ∧ w'.cell? ⟨r, 1, none⟩ = some (.int .i64 (p : Int))) (first | exact ⟨‹_›, ‹_›⟩ | exact ⟨k0, k1⟩ | go_keep)
              ((go_at_call 57; go_loud (refine (fresh_any _ _ _ _ _ HZL.out (HSB.out.drewN 1) (by omega)).mono ?_; rintro e2 w2 ⟨rfl, hr2, hb2, hs2⟩; obtain ⟨HR2, HG2, HO2⟩ := HEND'.out w2 hr2 hb2 hs2; have l0 := HR2.out.c0; have l1 := HR2.out.c1; have i1 := HR2.out.frozen 1; clear hr2 hb2 hs2)))
            have HF := HFIN'.out w2 HR2 HG2 HO2
            go_wp2
            go_ret
            exact ⟨_, rfl, HF.out⟩
          · have HSB : Hid (BytesAt w1 (some ⟨g, p, none⟩) ((b.drop p).take m)) := by have := HR1.out.bytes.cut p m; rwa [Nat.zero_add] at this
            go_wp2
            go_region_held (fun w' => w'.cell? ⟨r, 0, none⟩ = some (.slice (some ⟨g, 0, none⟩) b.length c) ∧ w'.cell? ⟨r, 1, none⟩ = some (.int .i64 (p : Int))) (first | exact ⟨‹_›, ‹_›⟩ | exact ⟨k0, k1⟩ | go_keep)
              ((go_at_call 57; go_loud (refine (fresh_any _ _ _ _ _ HZL.out (HSB.out.drewN 1) (by omega)).mono ?_; rintro e2 w2 ⟨rfl, hr2, hb2, hs2⟩; obtain ⟨HR2, HG2, HO2⟩ := HEND'.out w2 hr2 hb2 hs2; have l0 := HR2.out.c0; have l1 := HR2.out.c1; have i1 := HR2.out.frozen 1; clear hr2 hb2 hs2)))
            have HF := HFIN'.out w2 HR2 HG2 HO2
            go_wp2
            go_ret
            exact ⟨_, rfl, HF.out⟩
  · have he' : (e != 0) = true := by rw [bne_iff_ne]; exact he
    have HE : Hid (rdRaw b p e n = ([], p, e)) := by unfold rdRaw; rw [Hid, if_pos he]
    clear he
    go_enter Tryz.func120, Tryz.ntmps120
    go_wp2
    go_ret
    exact ⟨_, rfl, by rw [HE.out]; exact OwnB.nil _ _, by rw [HE.out]; exact ⟨HR.out, World.grownBy.refl _ _⟩⟩

end Go.Proofs.YtcaibgbhebldmaaGreat
/-
  TRANSACTIONS AS DATA: what is sound, their bytes, their reading.
-/
namespace Go.Proofs.YtcaibgbhebldmaaGreat.Kk
open Go.RowKit Go.Sort

/-- a transaction -/
structure Tp where
  proc : Int
  args : List Int
  reads : List K
  writes : List K
/-- what is wrong with it first, whatever the library -/
noncomputable def formN (t : Tp) : Int :=
  if t.proc < 0 ∨ 64 ≤ t.proc then 61 else if 16 < t.args.length then 62 else if 16 < t.reads.length then 63 else if 16 < t.writes.length then 64 else if Rise t.reads ∧ Rise t.writes then 0 else 65
/-- likewise for a list of procedures -/
noncomputable def soundN (Ps : List Pr) (t : Tp) : Int :=
  if t.proc < 0 ∨ (Ps.length : Int) ≤ t.proc then 61 else
  if (t.args.length : Int) ≠ (pd Ps t.proc.toNat).p.args then 62 else if (t.reads.length : Int) ≠ (pd Ps t.proc.toNat).p.reads then 63 else if (t.writes.length : Int) ≠ (pd Ps t.proc.toNat).p.writes then 64 else formN t
def td (Ts : List Tp) (i : Nat) : Tp := Ts.getD i ⟨0, [], [], []⟩
theorem td_mem {Ts : List Tp} {i : Nat} (h : i < Ts.length) : td Ts i ∈ Ts := by
  simp [td, List.getD_eq_getElem?_getD, List.getElem?_eq_getElem h]
theorem td_get {Ts : List Tp} {i : Nat} (h : i < Ts.length) : Ts[i]? = some (td Ts i) := by
  simp [td, List.getD_eq_getElem?_getD, List.getElem?_eq_getElem h]
/-- a batch: the first that is wrong -/
def eachN (f : Tp → Int) (Ts : List Tp) : Nat × Int := if 64 < Ts.length then (0, 60) else firstP (fun i => f (td Ts i)) Ts.length
theorem eachN_stop {f : Tp → Int} {Ts : List Tp} {k : Nat} (hl : Ts.length ≤ 64) (h : ∀ i, i < k → f (td Ts i) = 0) (hk : f (td Ts k) ≠ 0) (hn : k < Ts.length) : eachN f Ts = (k, f (td Ts k)) := by
  unfold eachN
  rw [if_neg (by omega), firstP_stop (f := fun i => f (td Ts i)) h hk hn]
theorem eachN_zero {f : Tp → Int} {Ts : List Tp} (hl : Ts.length ≤ 64) (h : ∀ i, i < Ts.length → f (td Ts i) = 0) : eachN f Ts = (0, 0) := by
  unfold eachN
  rw [if_neg (by omega), firstP_zero (f := fun i => f (td Ts i)) h]
theorem eachN_big {f : Tp → Int} {Ts : List Tp} (hl : 64 < Ts.length) : eachN f Ts = (0, 60) := by unfold eachN; rw [if_pos hl]
theorem eachN_ok {f : Tp → Int} {Ts : List Tp} (h : (eachN f Ts).2 = 0) : Ts.length ≤ 64 ∧ ∀ i, i < Ts.length → f (td Ts i) = 0 := by
  by_cases hl : 64 < Ts.length
  · rw [eachN_big hl] at h; cases h
  · refine ⟨by omega, ?_⟩
    suffices ∀ k, k ≤ Ts.length → ∀ i, i < k → f (td Ts i) = 0 from this _ (Nat.le_refl _)
    intro k
    induction k with
    | zero => intro _ i hi; omega
    | succ k ih =>
      intro hk i hi
      by_cases e : i = k
      · subst e
        by_cases h0 : f (td Ts i) = 0
        · exact h0
        · rw [eachN_stop (by omega) (ih (by omega)) h0 (by omega)] at h
          exact absurd h h0
      · exact ih (by omega) i (by omega)

/-- bytes -/
def setN (L : List K) : List Nat := uint 10 L.length ++ L.flatMap keyBytes
def argsN (A : List Int) : List Nat := uint 10 A.length ++ A.flatMap fun x => uint 10 (fold x)
def txN (t : Tp) : List Nat := uint 10 t.proc.toNat ++ argsN t.args ++ setN t.reads ++ setN t.writes
def batN (Ts : List Tp) : List Nat := uint 10 Ts.length ++ Ts.flatMap txN

/-- reading: an answer and the place behind it, or the place and the error -/
abbrev Rd (α : Type) := Except (Nat × Int) (α × Nat)
def upR (b : List Nat) (most p : Nat) : Rd Nat := if (rdUpto b p 0 most).2.2 = 0 then .ok ((rdUpto b p 0 most).1, (rdUpto b p 0 most).2.1) else .error ((rdUpto b p 0 most).2.1, (rdUpto b p 0 most).2.2)
def intR (b : List Nat) (p : Nat) : Rd Int := match upR b 18446744073709551615 p with | .ok (n, q) => .ok (unfold n, q) | .error x => .error x
/-- n args more -/
def argsR (b : List Nat) : Nat → List Int → Nat → Rd (List Int)
  | 0, A, p => .ok (A, p)
  | n + 1, A, p => match intR b p with | .ok (x, q) => argsR b n (A ++ [x]) q | .error x => .error x
def keyR (b : List Nat) (p : Nat) : Rd K := if p + 10 ≤ b.length then .ok (fromK ((b.drop p).take 10), p + 10) else .error (p, 10)
/-- n keys more -/
def keysR (b : List Nat) : Nat → List K → Nat → Rd (List K)
  | 0, L, p => .ok (L, p)
  | n + 1, L, p => match keyR b p with
    | .error x => .error x
    | .ok (k, q) => if L ≠ [] ∧ lt (kd L (L.length - 1)) k = false then .error (p, 65) else keysR b n (L ++ [k]) q
def setR (b : List Nat) (most p : Nat) : Rd (List K) := match upR b most p with | .ok (n, q) => keysR b n [] q | .error x => .error x
def argR (b : List Nat) (p : Nat) : Rd (List Int) := match upR b 16 p with | .ok (n, q) => argsR b n [] q | .error x => .error x
def txR (b : List Nat) (p : Nat) : Rd Tp := match upR b 63 p with
  | .error x => .error x
  | .ok (n, p1) => match argR b p1 with
    | .error x => .error x
    | .ok (A, p2) => match setR b 16 p2 with
      | .error x => .error x
      | .ok (R, p3) => match setR b 16 p3 with
        | .error x => .error x
        | .ok (V, p4) => .ok (⟨n, A, R, V⟩, p4)
def txsR (b : List Nat) : Nat → List Tp → Nat → Rd (List Tp)
  | 0, T, p => .ok (T, p)
  | n + 1, T, p => match txR b p with | .ok (x, q) => txsR b n (T ++ [x]) q | .error x => .error x
def batR (b : List Nat) (p : Nat) : Rd (List Tp) := match upR b 64 p with | .ok (n, q) => txsR b n [] q | .error x => .error x
/-- the batch of some bytes, or the place and the error -/
def decR (b : List Nat) : Except (Nat × Int) (List Tp) := match batR b 0 with
  | .error x => .error x
  | .ok (T, p) => if p = b.length then .ok T else .error (p, 11)
end Go.Proofs.YtcaibgbhebldmaaGreat.Kk
