/-
  THE WALKS OF codec.Reader's METHODS.
-/
import Derived.Test.YtciogmenoighoaaScan
import Derived.Deep.QuietTactic
namespace Go.Proofs.Ytciogmenoighoaa
open Go.RowKit

theorem BytesAt.cut {w : World} {b off : Nat} {zs : List Nat} (h : BytesAt w (some ⟨b, off, none⟩) zs) (i n : Nat) : BytesAt w (some ⟨b, off + i, none⟩) ((zs.drop i).take n) := by
  obtain ⟨hz, rfl | ⟨b', off', e, hc⟩⟩ := h
  · exact ⟨by simp, .inl (by simp)⟩
  · cases e
    refine ⟨fun z hz' => hz z (List.mem_of_mem_drop (List.mem_of_mem_take hz')), .inr ⟨b, off + i, rfl, fun j hj => ?_⟩⟩
    simp at hj
    rw [Nat.add_assoc, hc (i + j) (by omega)]
    congr 3
    simp [List.getD_eq_getElem?_getD, show j < n by omega]
theorem BytesAt.drop {w : World} {b off : Nat} {zs : List Nat} (h : BytesAt w (some ⟨b, off, none⟩) zs) (i : Nat) : BytesAt w (some ⟨b, off + i, none⟩) (zs.drop i) := by
  have := h.cut i (zs.drop i).length
  rwa [List.take_length] at this

/-- BLOCK r IS A Reader OF THE BYTES b, AT p, WITH THE ERROR e. -/
def IsReader (w : World) (r : Nat) (a : Option Addr) (c : Nat) (b : List Nat) (p : Nat) (e : Int) : Prop :=
  w.heap[r]? = some (.cells #[.slice a b.length c, .int .i64 (p : Int), .int .i64 e] 111 (0, 0)) ∧ OwnB w 0 (.slice a b.length c) b ∧ p ≤ b.length ∧ b.length ≤ 140737488355328

section
variable {w w1 : World} {r : Nat} {a : Option Addr} {c : Nat} {b : List Nat} {p : Nat} {e : Int}
theorem IsReader.c0 (h : IsReader w r a c b p e) : w.cell? ⟨r, 0, none⟩ = some (.slice a b.length c) := by simp [World.cell?, h.1]
theorem IsReader.c1 (h : IsReader w r a c b p e) : w.cell? ⟨r, 1, none⟩ = some (.int .i64 (p : Int)) := by simp [World.cell?, h.1]
theorem IsReader.c2 (h : IsReader w r a c b p e) : w.cell? ⟨r, 2, none⟩ = some (.int .i64 e) := by simp [World.cell?, h.1]
theorem IsReader.frozen (h : IsReader w r a c b p e) (j : Nat) : w.frozen? ⟨r, j, none⟩ = false := frozen_of_row w r j _ _ h.1
theorem IsReader.lt (h : IsReader w r a c b p e) : r < w.heap.size := (Array.getElem?_eq_some_iff.1 h.1).1
theorem IsReader.bytes (h : IsReader w r a c b p e) : BytesAt w a b := h.2.1.bytes.1
theorem IsReader.nil (h : IsReader w r a c b p e) : (a = none → c = 0) ∧ b.length ≤ c := by
  obtain ⟨a', c', e', _, hn, hl⟩ := h.2.1.slice
  simp only [Value.slice.injEq] at e'
  obtain ⟨rfl, _, rfl⟩ := e'
  exact ⟨hn, hl⟩
theorem IsReader.cmax (h : IsReader w r a c b p e) : c ≤ maxLen := by
  rcases h.2.1.shape with ⟨e', _⟩ | ⟨g, cap, e', _, _, _, hm, _⟩
  · simp only [Value.slice.injEq] at e'; rw [e'.2.2]; exact Nat.zero_le _
  · simp only [Value.slice.injEq] at e'; rw [e'.2.2]; exact hm
theorem IsReader.ne (h : IsReader w r a c b p e) : (Value.slice a b.length c).ownBlock ≠ some r := by
  obtain ⟨h1, ⟨_, _, h2 | ⟨g, cap, cur, e', _, hg, _⟩⟩, _⟩ := h
  · rw [h2.1]; simp [Value.ownBlock]
  · rw [e']
    intro e2
    simp only [Value.ownBlock, Option.some.injEq] at e2
    subst e2
    rw [hg] at h1
    simp at h1
theorem IsReader.drewN (h : IsReader w r a c b p e) (n : Nat) : IsReader (w.drewN n) r a c b p e := h
theorem IsReader.kept (h : IsReader w r a c b p e) (hb : Below w.heap.size w w1) : IsReader w1 r a c b p e :=
  ⟨by rw [hb.block r h.lt]; exact h.1, h.2.1.kept hb, h.2.2⟩
theorem IsReader.below {B : Nat} (h : IsReader w r a c b p e) (hb : Below B w w1) (hr : r < B) (hv : ∀ g, (Value.slice a b.length c).ownBlock = some g → g < B) : IsReader w1 r a c b p e :=
  ⟨by rw [hb.block r hr]; exact h.1, h.2.1.below hb hv, h.2.2⟩
theorem grown_setCell (w : World) (x : Addr) (v : Value) : w.grownBy (w.setCell x v) (some x.block) :=
  ⟨rfl, rfl, rfl, by simp, fun k _ hk => heap_setCell_other w x k v (fun e => hk (by rw [e]))⟩
theorem IsReader.setAt (h : IsReader w r a c b p e) (q : Nat) (hq : q ≤ b.length) : IsReader (w.setCell ⟨r, 1, none⟩ (.int .i64 (q : Int))) r a c b q e := by
  refine ⟨?_, ⟨h.2.1.1, ?_⟩, hq, h.2.2.2⟩
  · have := heap_setCell_same w r 1 _ _ (.int .i64 (q : Int)) h.1
    rw [this]; rfl
  · exact h.2.1.2.kept (grown_setCell w ⟨r, 1, none⟩ _) (.inr h.ne)
theorem IsReader.setErr (h : IsReader w r a c b p e) (x : Int) : IsReader (w.setCell ⟨r, 2, none⟩ (.int .i64 x)) r a c b p x := by
  refine ⟨?_, ⟨h.2.1.1, ?_⟩, h.2.2⟩
  · have := heap_setCell_same w r 2 _ _ (.int .i64 x) h.1
    rw [this]; rfl
  · exact h.2.1.2.kept (grown_setCell w ⟨r, 2, none⟩ _) (.inr h.ne)
theorem grown_drewN (w : World) (n : Nat) (row : Option Nat) : w.grownBy (w.drewN n) row := ⟨rfl, rfl, rfl, Nat.le_refl _, fun _ _ _ => rfl⟩
theorem grown_trans' {x y z : World} {row : Option Nat} (h : x.grownBy y row) (k : y.grownBy z row) : x.grownBy z row :=
  ⟨k.os.trans h.os, k.tape.trans h.tape, k.output.trans h.output, Nat.le_trans h.size k.size, fun i hi hne => (k.block i (Nat.lt_of_lt_of_le hi h.size) hne).trans (h.block i hi hne)⟩
theorem grown_below {x y : World} {row : Option Nat} (h : Below x.heap.size x y) : x.grownBy y row := ⟨h.os, h.tape, h.output, h.size, fun k hk _ => h.block k hk⟩
end

/-- what a call of a Reader leaves: its own block, and new ones -/
def Reads (w : World) (r : Nat) (a : Option Addr) (c : Nat) (b : List Nat) (p : Nat) (e : Int) (w' : World) : Prop := IsReader w' r a c b p e ∧ w.grownBy w' (some r)

theorem left_any (w : World) (r : Nat) (a : Option Addr) (c : Nat) (b : List Nat) (p : Nat) (e : Int) (h : IsReader w r a c b p e) :
    Calls Try.prog 84 #[.pointer (some ⟨r, 0, none⟩)] w fun e' w' => e' = .returned (.int .i64 ((b.length - p : Nat) : Int)) ∧ ∃ q, w' = w.drewN q := by
  have h0 := h.c0
  have h1 := h.c1
  have hp := h.2.2.1
  have hl := h.2.2.2
  clear h
  go_enter Try.func84, Try.ntmps84
  go_wp2
  go_quiet (fail)
  go_wp2
  go_ret
  exact ⟨congrArg (fun x => Ending.returned (.int .i64 x)) (by omega), _, rfl⟩

def rdByte (b : List Nat) (p : Nat) (e : Int) : Nat × Nat × Int := if e ≠ 0 then (0, p, e) else if p = b.length then (0, p, 10) else (b.getD p 0, p + 1, 0)


def rdUpto (b : List Nat) (p : Nat) (e : Int) (most : Nat) : Nat × Nat × Int :=
  if e ≠ 0 then (0, p, e) else if (scan (b.drop p)).2.2 ≠ 0 then (0, p, (((scan (b.drop p)).2.2 : Nat) : Int)) else if most < (scan (b.drop p)).1 then (0, p, 12) else ((scan (b.drop p)).1, p + (scan (b.drop p)).2.1, 0)

set_option maxHeartbeats 400000 in
theorem rUpto_any (w : World) (r : Nat) (a : Option Addr) (c : Nat) (b : List Nat) (p : Nat) (e : Int) (most : Nat) (h : IsReader w r a c b p e) :
    Calls Try.prog 79 #[.pointer (some ⟨r, 0, none⟩), .int .u64 (most : Int)] w fun e' w' => e' = .returned (.int .u64 (((rdUpto b p e most).1 : Nat) : Int)) ∧ Reads w r a c b (rdUpto b p e most).2.1 (rdUpto b p e most).2.2 w' := by
  have HR : Hid (IsReader w r a c b p e) := h
  have h0 := h.c0
  have h1 := h.c1
  have h2 := h.c2
  have f1 := h.frozen 1
  have f2 := h.frozen 2
  have hp := h.2.2.1
  have hl := h.2.2.2
  have hnil := h.nil
  have hcm := h.cmax
  clear h
  by_cases he : e = 0
  · subst he
    have HZ : Hid (∀ z ∈ b, z < 256) := HR.out.2.1.1
    have HU : Hid (rdUpto b p 0 most = if (scan (b.drop p)).2.2 ≠ 0 then (0, p, (((scan (b.drop p)).2.2 : Nat) : Int)) else if most < (scan (b.drop p)).1 then (0, p, 12) else ((scan (b.drop p)).1, p + (scan (b.drop p)).2.1, 0)) := by
      unfold rdUpto; rw [Hid, if_neg (by simp)]
    have HSC : Hid ((scan (b.drop p)).2.2 = 0 → (scan (b.drop p)).2.1 ≤ (b.drop p).length) := by
      intro h0
      have h3 := scan_one (b.drop p) (scan (b.drop p)).1 (scan (b.drop p)).2.1 (fun z hz => HZ.out z (List.mem_of_mem_drop hz)) (by rw [← h0])
      exact h3.2.2.1
    have HMX : Hid ((b.drop p).length ≤ maxLen) := by rw [Hid, List.length_drop]; unfold maxLen; omega
    rcases HR.out.2.1.shape with ⟨hv, hb0⟩ | ⟨g, cap, hv, _, _, _, _, _⟩
    · simp only [Value.slice.injEq] at hv
      obtain ⟨rfl, _, rfl⟩ := hv
      subst hb0
      have hp0 : p = 0 := by simpa using hp
      subst hp0
      have HSB : Hid (BytesAt w none []) := ⟨by simp, .inl rfl⟩
      have HE : Hid (rdUpto [] 0 0 most = (0, 0, 10)) := rfl
      clear hnil hcm HZ HU HSC HMX hp hl
      go_enter Try.func79, Try.ntmps79
      go_wp2
      go_quiet ((go_at_call 91; exact Calls.quiet_of_same (scan_any _ _ _ _ [] rfl (HSB.out.drewN _) (by simp [maxLen]))))
      have HW' : Hid (Reads w r none 0 [] 0 10 ((w.setCell ⟨r, 2, none⟩ (.int .i64 10)).drewN nq)) := ⟨HR.out.setErr 10, grown_trans' (grown_setCell w ⟨r, 2, none⟩ _) (grown_drewN _ _ _)⟩
      rw [show scan [] = (0, 0, 10) from rfl]
      go_wp2
      go_ret
      exact ⟨by rw [HE.out]; rfl, by rw [HE.out]; exact HW'.out⟩
    · simp only [Value.slice.injEq] at hv
      obtain ⟨rfl, _, rfl⟩ := hv
      have hlc := hnil.2
      have hcm' : c ≤ 9223372036854775807 := by unfold maxLen at hcm; omega
      have HLN : Hid (b.length - p = (b.drop p).length) := by rw [Hid, List.length_drop]
      clear hnil hcm HZ
      by_cases hcp : c = p
      · have hbl : b.length = p := by omega
        have HSB : Hid (BytesAt w (some ⟨g, 0, none⟩) []) := ⟨by simp, .inl rfl⟩
        have HE : Hid (rdUpto b p 0 most = (0, p, 10)) := by
          rw [Hid, HU.out, List.drop_of_length_le (by omega)]; rfl
        have HW : Hid (IsReader w r (some ⟨g, 0, none⟩) c b p 0) := HR.out
        have hcz : (c : Int) - (p : Int) = 0 := by omega
        have hlz : (b.length : Int) - (p : Int) = 0 := by omega
        clear HU HSC HMX HLN
        go_enter Try.func79, Try.ntmps79
        go_wp2
        go_quiet ((go_at_call 91; exact Calls.quiet_of_same (scan_any _ _ _ _ [] rfl (HSB.out.drewN _) (by simp [maxLen]))))
        have HW' : Hid (Reads w r (some ⟨g, 0, none⟩) c b p 10 ((w.setCell ⟨r, 2, none⟩ (.int .i64 10)).drewN nq)) := ⟨HR.out.setErr 10, grown_trans' (grown_setCell w ⟨r, 2, none⟩ _) (grown_drewN _ _ _)⟩
        rw [show scan [] = (0, 0, 10) from rfl]
        go_wp2
        go_ret
        exact ⟨by rw [HE.out]; rfl, by rw [HE.out]; exact HW'.out⟩
      · have HSB : Hid (BytesAt w (some ⟨g, p, none⟩) (b.drop p)) := by have := HR.out.bytes.drop p; rwa [Nat.zero_add] at this
        go_enter Try.func79, Try.ntmps79
        go_wp2
        go_quiet ((go_at_call 91; exact Calls.quiet_of_same (scan_any _ _ _ _ (b.drop p) HLN.out (HSB.out.drewN _) HMX.out)))
        generalize hs : scan (b.drop p) = s at *
        clear hs
        have HR1 : Hid (IsReader (w.drewN nq) r (some ⟨g, 0, none⟩) c b p 0) := HR.out
        by_cases t1 : s.2.2 = 0
        · have hT1 : (((s.2.2 : Nat) : Int) == 0) = true := by rw [beq_iff_eq]; omega
          by_cases t2 : most < s.1
          · have hT2 : (most : Int) < ((s.1 : Nat) : Int) := by omega
            have HE : Hid (rdUpto b p 0 most = (0, p, 12)) := by rw [Hid, HU.out, if_neg (by simp [t1]), if_pos t2]
            have HW' : Hid (Reads w r (some ⟨g, 0, none⟩) c b p 12 ((w.setCell ⟨r, 2, none⟩ (.int .i64 12)).drewN nq)) := ⟨HR.out.setErr 12, grown_trans' (grown_setCell w ⟨r, 2, none⟩ _) (grown_drewN _ _ _)⟩
            clear t1 t2 HSC
            go_wp2
            go_ret
            exact ⟨by rw [HE.out]; rfl, by rw [HE.out]; exact HW'.out⟩
          · have hT2 : ¬ (most : Int) < ((s.1 : Nat) : Int) := by omega
            have hT3 : (((s.2.2 : Nat) : Int) != 0) = false := by rw [t1]; simp
            have HE : Hid (rdUpto b p 0 most = (s.1, p + s.2.1, 0)) := by rw [Hid, HU.out, if_neg (by simp [t1]), if_neg t2]
            have hk : p + s.2.1 ≤ b.length := by
              have := HSC.out t1
              rw [List.length_drop] at this
              omega
            have HW' : Hid (Reads w r (some ⟨g, 0, none⟩) c b (p + s.2.1) 0 ((w.setCell ⟨r, 1, none⟩ (.int .i64 ((p : Int) + ((s.2.1 : Nat) : Int)))).drewN nq)) := ⟨HR.out.setAt (p + s.2.1) hk, grown_trans' (grown_setCell w ⟨r, 1, none⟩ _) (grown_drewN _ _ _)⟩
            clear t1 t2 HSC
            go_wp2
            go_ret
            exact ⟨by rw [HE.out]; rfl, by rw [HE.out]; exact HW'.out⟩
        · have hT1 : (((s.2.2 : Nat) : Int) == 0) = false := by rw [beq_eq_false_iff_ne]; omega
          have hT3 : (((s.2.2 : Nat) : Int) != 0) = true := by rw [bne_iff_ne]; omega
          have HE : Hid (rdUpto b p 0 most = (0, p, ((s.2.2 : Nat) : Int))) := by rw [Hid, HU.out, if_pos t1]
          have HW' : Hid (Reads w r (some ⟨g, 0, none⟩) c b p ((s.2.2 : Nat) : Int) ((w.setCell ⟨r, 2, none⟩ (.int .i64 ((s.2.2 : Nat) : Int))).drewN nq)) := ⟨HR.out.setErr _, grown_trans' (grown_setCell w ⟨r, 2, none⟩ _) (grown_drewN _ _ _)⟩
          clear t1 HSC
          go_wp2
          go_ret
          exact ⟨by rw [HE.out]; rfl, by rw [HE.out]; exact HW'.out⟩
  · have he' : (e != 0) = true := by rw [bne_iff_ne]; exact he
    have HE : Hid (rdUpto b p e most = (0, p, e)) := by unfold rdUpto; rw [Hid, if_pos he]
    clear he hnil
    go_enter Try.func79, Try.ntmps79
    go_wp2
    go_ret
    exact ⟨by rw [HE.out]; rfl, by rw [HE.out]; exact ⟨HR.out, World.grownBy.refl _ _⟩⟩

end Go.Proofs.Ytciogmenoighoaa
