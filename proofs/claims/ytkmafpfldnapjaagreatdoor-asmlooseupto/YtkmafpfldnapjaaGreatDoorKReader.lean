import Derived.Test.YtkmafpfldnapjaaGreatDoorKWriter
import Derived.Deep.QuietTactic
import Derived.Test.YtkmafpfldnapjaaGreatDoorKAMath
import Derived.Test.YtkmafpfldnapjaaGreatDoorKLSearch
/-
  THE WALKS OF codec.Reader's METHODS.
-/
namespace Go.Proofs.YtkmafpfldnapjaaGreatDoor
open Go.RowKit

theorem BytesAt.cut {w : World} {b off : Nat} {zs : List Nat} (h : BytesAt w (some ⟨b, off, none⟩) zs) (i n : Nat) : BytesAt w (some ⟨b, off + i, none⟩) ((zs.drop i).take n) := by
  obtain ⟨hz, rfl | ⟨b', off', e, hc⟩⟩ := h
  · exact ⟨by simp, .inl (by simp)⟩
  · cases e
    refine ⟨fun z hz' => hz z (List.mem_of_mem_drop (List.mem_of_mem_take hz')), .inr ⟨b, off + i, rfl, fun j hj => ?_⟩⟩
    simp at hj
    rw [Nat.add_assoc, hc (i + j) (by omega)]
    congr 3
    simp [List.getD_eq_getElem?_getD, show j < n by omega]
theorem BytesAt.drop {w : World} {b off : Nat} {zs : List Nat} (h : BytesAt w (some ⟨b, off, none⟩) zs) (i : Nat) : BytesAt w (some ⟨b, off + i, none⟩) (zs.drop i) := by
  have := h.cut i (zs.drop i).length
  rwa [List.take_length] at this

/-- BLOCK r IS A Reader OF THE BYTES b, AT p, WITH THE ERROR e. -/
def IsReader (w : World) (r : Nat) (a : Option Addr) (c : Nat) (b : List Nat) (p : Nat) (e : Int) : Prop :=
  w.heap[r]? = some (.cells #[.slice a b.length c, .int .i64 (p : Int), .int .i64 e] 154 (0, 0)) ∧ OwnB w 0 (.slice a b.length c) b ∧ p ≤ b.length ∧ b.length ≤ 140737488355328

section
variable {w w1 : World} {r : Nat} {a : Option Addr} {c : Nat} {b : List Nat} {p : Nat} {e : Int}
theorem IsReader.c0 (h : IsReader w r a c b p e) : w.cell? ⟨r, 0, none⟩ = some (.slice a b.length c) := by simp [World.cell?, h.1]
theorem IsReader.c1 (h : IsReader w r a c b p e) : w.cell? ⟨r, 1, none⟩ = some (.int .i64 (p : Int)) := by simp [World.cell?, h.1]
theorem IsReader.c2 (h : IsReader w r a c b p e) : w.cell? ⟨r, 2, none⟩ = some (.int .i64 e) := by simp [World.cell?, h.1]
theorem IsReader.frozen (h : IsReader w r a c b p e) (j : Nat) : w.frozen? ⟨r, j, none⟩ = false := frozen_of_row w r j _ _ h.1
theorem IsReader.lt (h : IsReader w r a c b p e) : r < w.heap.size := (Array.getElem?_eq_some_iff.1 h.1).1
theorem IsReader.bytes (h : IsReader w r a c b p e) : BytesAt w a b := h.2.1.bytes.1
theorem IsReader.nil (h : IsReader w r a c b p e) : (a = none → c = 0) ∧ b.length ≤ c := by
  obtain ⟨a', c', e', _, hn, hl⟩ := h.2.1.slice
  simp only [Value.slice.injEq] at e'
  obtain ⟨rfl, _, rfl⟩ := e'
  exact ⟨hn, hl⟩
theorem IsReader.cmax (h : IsReader w r a c b p e) : c ≤ maxLen := by
  rcases h.2.1.shape with ⟨e', _⟩ | ⟨g, cap, e', _, _, _, hm, _⟩
  · simp only [Value.slice.injEq] at e'; rw [e'.2.2]; exact Nat.zero_le _
  · simp only [Value.slice.injEq] at e'; rw [e'.2.2]; exact hm
theorem IsReader.ne (h : IsReader w r a c b p e) : (Value.slice a b.length c).ownBlock ≠ some r := by
  obtain ⟨h1, ⟨_, _, h2 | ⟨g, cap, cur, e', _, hg, _⟩⟩, _⟩ := h
  · rw [h2.1]; simp [Value.ownBlock]
  · rw [e']
    intro e2
    simp only [Value.ownBlock, Option.some.injEq] at e2
    subst e2
    rw [hg] at h1
    simp at h1
theorem IsReader.drewN (h : IsReader w r a c b p e) (n : Nat) : IsReader (w.drewN n) r a c b p e := h
theorem IsReader.kept (h : IsReader w r a c b p e) (hb : Below w.heap.size w w1) : IsReader w1 r a c b p e :=
  ⟨by rw [hb.block r h.lt]; exact h.1, h.2.1.kept hb, h.2.2⟩
theorem IsReader.below {B : Nat} (h : IsReader w r a c b p e) (hb : Below B w w1) (hr : r < B) (hv : ∀ g, (Value.slice a b.length c).ownBlock = some g → g < B) : IsReader w1 r a c b p e :=
  ⟨by rw [hb.block r hr]; exact h.1, h.2.1.below hb hv, h.2.2⟩
theorem grown_setCell (w : World) (x : Addr) (v : Value) : w.grownBy (w.setCell x v) (some x.block) :=
  ⟨rfl, rfl, rfl, by simp, fun k _ hk => heap_setCell_other w x k v (fun e => hk (by rw [e]))⟩
theorem IsReader.setAt (h : IsReader w r a c b p e) (q : Nat) (hq : q ≤ b.length) : IsReader (w.setCell ⟨r, 1, none⟩ (.int .i64 (q : Int))) r a c b q e := by
  refine ⟨?_, ⟨h.2.1.1, ?_⟩, hq, h.2.2.2⟩
  · have := heap_setCell_same w r 1 _ _ (.int .i64 (q : Int)) h.1
    rw [this]; rfl
  · exact h.2.1.2.kept (grown_setCell w ⟨r, 1, none⟩ _) (.inr h.ne)
theorem IsReader.setErr (h : IsReader w r a c b p e) (x : Int) : IsReader (w.setCell ⟨r, 2, none⟩ (.int .i64 x)) r a c b p x := by
  refine ⟨?_, ⟨h.2.1.1, ?_⟩, h.2.2⟩
  · have := heap_setCell_same w r 2 _ _ (.int .i64 x) h.1
    rw [this]; rfl
  · exact h.2.1.2.kept (grown_setCell w ⟨r, 2, none⟩ _) (.inr h.ne)
theorem grown_drewN (w : World) (n : Nat) (row : Option Nat) : w.grownBy (w.drewN n) row := ⟨rfl, rfl, rfl, Nat.le_refl _, fun _ _ _ => rfl⟩
theorem grown_trans' {x y z : World} {row : Option Nat} (h : x.grownBy y row) (k : y.grownBy z row) : x.grownBy z row :=
  ⟨k.os.trans h.os, k.tape.trans h.tape, k.output.trans h.output, Nat.le_trans h.size k.size, fun i hi hne => (k.block i (Nat.lt_of_lt_of_le hi h.size) hne).trans (h.block i hi hne)⟩
theorem grown_below {x y : World} {row : Option Nat} (h : Below x.heap.size x y) : x.grownBy y row := ⟨h.os, h.tape, h.output, h.size, fun k hk _ => h.block k hk⟩
end

/-- what a call of a Reader leaves: its own block, and new ones -/
def Reads (w : World) (r : Nat) (a : Option Addr) (c : Nat) (b : List Nat) (p : Nat) (e : Int) (w' : World) : Prop := IsReader w' r a c b p e ∧ w.grownBy w' (some r)

theorem left_any (w : World) (r : Nat) (a : Option Addr) (c : Nat) (b : List Nat) (p : Nat) (e : Int) (h : IsReader w r a c b p e) :
    Calls Tryz.prog 74 #[.pointer (some ⟨r, 0, none⟩)] w fun e' w' => e' = .returned (.int .i64 ((b.length - p : Nat) : Int)) ∧ ∃ q, w' = w.drewN q := by
  have h0 := h.c0
  have h1 := h.c1
  have hp := h.2.2.1
  have hl := h.2.2.2
  clear h
  go_enter Tryz.func74, Tryz.ntmps74
  go_wp2
  go_quiet (fail)
  go_wp2
  go_ret
  exact ⟨congrArg (fun x => Ending.returned (.int .i64 x)) (by omega), _, rfl⟩

def rdByte (b : List Nat) (p : Nat) (e : Int) : Nat × Nat × Int := if e ≠ 0 then (0, p, e) else if p = b.length then (0, p, 10) else (b.getD p 0, p + 1, 0)

set_option maxHeartbeats 400000 in
theorem rByte_any (w : World) (r : Nat) (a : Option Addr) (c : Nat) (b : List Nat) (p : Nat) (e : Int) (h : IsReader w r a c b p e) :
    Calls Tryz.prog 109 #[.pointer (some ⟨r, 0, none⟩)] w fun e' w' => e' = .returned (.int .u8 (((rdByte b p e).1 : Nat) : Int)) ∧ Reads w r a c b (rdByte b p e).2.1 (rdByte b p e).2.2 w' := by
  have HR : Hid (IsReader w r a c b p e) := h
  have h0 := h.c0
  have h1 := h.c1
  have h2 := h.c2
  have hp := h.2.2.1
  have hl := h.2.2.2
  clear h
  by_cases he : e = 0
  · subst he
    go_enter Tryz.func109, Tryz.ntmps109
    go_wp2_with fail
    refine (left_any w r a c b p 0 HR.out).mono ?_
    rintro e1 w1 ⟨rfl, q, hq⟩
    have HR1 : Hid (IsReader w1 r a c b p 0) := by rw [hq]; exact HR.out
    have HG1 : Hid (w.grownBy w1 (some r)) := by rw [hq]; exact grown_drewN _ _ _
    have k0 := HR1.out.c0
    have k1 := HR1.out.c1
    have k2 := HR1.out.c2
    have f1 := HR1.out.frozen 1
    have f2 := HR1.out.frozen 2
    clear hq h0 h1 h2
    by_cases hpl : p = b.length
    · have hz : (((b.length - p : Nat) : Int) == 0) = true := by rw [beq_iff_eq]; omega
      have HE : Hid (rdByte b p 0 = (0, p, 10)) := by unfold rdByte; rw [Hid, if_neg (by simp), if_pos hpl]
      have HW := HR1.out.setErr 10
      have HW' : Hid (Reads w r a c b p 10 (w1.setCell ⟨r, 2, none⟩ (.int .i64 10))) := ⟨HW, grown_trans' HG1.out (grown_setCell w1 ⟨r, 2, none⟩ _)⟩
      clear hpl HW
      go_wp2
      go_ret
      exact ⟨by rw [HE.out]; rfl, by rw [HE.out]; exact HW'.out⟩
    · have hz : (((b.length - p : Nat) : Int) == 0) = false := by rw [beq_eq_false_iff_ne]; omega
      have HE : Hid (rdByte b p 0 = (b.getD p 0, p + 1, 0)) := by unfold rdByte; rw [Hid, if_neg (by simp), if_neg hpl]
      have hlt : p < b.length := by omega
      obtain ⟨g, off, ha, hc⟩ : ∃ g off, a = some ⟨g, off, none⟩ ∧ w1.cell? ⟨g, off + p, none⟩ = some (.int .u8 ((b.getD p 0 : Nat) : Int)) := by
        obtain ⟨_, h3 | ⟨g, off, h3, hc⟩⟩ := HR1.out.bytes
        · rw [h3] at hlt; simp at hlt
        · exact ⟨g, off, h3, hc p hlt⟩
      subst ha
      have HW := HR1.out.setAt (p + 1) (by omega)
      generalize b.getD p 0 = z at *
      clear hpl
      go_wp2
      go_quiet (fail)
      have HW' : Hid (Reads w r (some ⟨g, off, none⟩) c b (p + 1) 0 ((w1.setCell ⟨r, 1, none⟩ (.int .i64 ((p : Int) + 1))).drewN nq)) := ⟨HW, grown_trans' HG1.out (grown_trans' (grown_setCell w1 ⟨r, 1, none⟩ _) (grown_drewN _ _ _))⟩
      clear HW
      go_wp2
      go_ret
      exact ⟨by rw [HE.out]; rfl, by rw [HE.out]; exact HW'.out⟩
  · have he' : (e != 0) = true := by rw [bne_iff_ne]; exact he
    have HE : Hid (rdByte b p e = (0, p, e)) := by unfold rdByte; rw [Hid, if_pos he]
    clear he
    go_enter Tryz.func109, Tryz.ntmps109
    go_wp2
    go_ret
    exact ⟨by rw [HE.out]; rfl, by rw [HE.out]; exact ⟨HR.out, World.grownBy.refl _ _⟩⟩

def rdUpto (b : List Nat) (p : Nat) (e : Int) (most : Nat) : Nat × Nat × Int :=
  if e ≠ 0 then (0, p, e) else if (scan (b.drop p)).2.2 ≠ 0 then (0, p, (((scan (b.drop p)).2.2 : Nat) : Int)) else if most < (scan (b.drop p)).1 then (0, p, 12) else ((scan (b.drop p)).1, p + (scan (b.drop p)).2.1, 0)

set_option maxHeartbeats 400000 in
theorem rUpto_any (w : World) (r : Nat) (a : Option Addr) (c : Nat) (b : List Nat) (p : Nat) (e : Int) (most : Nat) (h : IsReader w r a c b p e) :
    Calls Tryz.prog 44 #[.pointer (some ⟨r, 0, none⟩), .int .u64 (most : Int)] w fun e' w' => e' = .returned (.int .u64 (((rdUpto b p e most).1 : Nat) : Int)) ∧ Reads w r a c b (rdUpto b p e most).2.1 (rdUpto b p e most).2.2 w' := by
  have HR : Hid (IsReader w r a c b p e) := h
  have h0 := h.c0
  have h1 := h.c1
  have h2 := h.c2
  have f1 := h.frozen 1
  have f2 := h.frozen 2
  have hp := h.2.2.1
  have hl := h.2.2.2
  have hnil := h.nil
  have hcm := h.cmax
  clear h
  by_cases he : e = 0
  · subst he
    have HZ : Hid (∀ z ∈ b, z < 256) := HR.out.2.1.1
    have HU : Hid (rdUpto b p 0 most = if (scan (b.drop p)).2.2 ≠ 0 then (0, p, (((scan (b.drop p)).2.2 : Nat) : Int)) else if most < (scan (b.drop p)).1 then (0, p, 12) else ((scan (b.drop p)).1, p + (scan (b.drop p)).2.1, 0)) := by
      unfold rdUpto; rw [Hid, if_neg (by simp)]
    have HSC : Hid ((scan (b.drop p)).2.2 = 0 → (scan (b.drop p)).2.1 ≤ (b.drop p).length) := by
      intro h0
      have h3 := scan_one (b.drop p) (scan (b.drop p)).1 (scan (b.drop p)).2.1 (fun z hz => HZ.out z (List.mem_of_mem_drop hz)) (by rw [← h0])
      exact h3.2.2.1
    have HMX : Hid ((b.drop p).length ≤ maxLen) := by rw [Hid, List.length_drop]; unfold maxLen; omega
    rcases HR.out.2.1.shape with ⟨hv, hb0⟩ | ⟨g, cap, hv, _, _, _, _, _⟩
    · simp only [Value.slice.injEq] at hv
      obtain ⟨rfl, _, rfl⟩ := hv
      subst hb0
      have hp0 : p = 0 := by simpa using hp
      subst hp0
      have HSB : Hid (BytesAt w none []) := ⟨by simp, .inl rfl⟩
      have HE : Hid (rdUpto [] 0 0 most = (0, 0, 10)) := rfl
      clear hnil hcm HZ HU HSC HMX hp hl
      go_enter Tryz.func44, Tryz.ntmps44
      go_wp2
      go_quiet ((go_at_call 75; exact Calls.quiet_of_same (scan_any _ _ _ _ [] rfl (HSB.out.drewN _) (by simp [maxLen]))))
      have HW' : Hid (Reads w r none 0 [] 0 10 ((w.setCell ⟨r, 2, none⟩ (.int .i64 10)).drewN nq)) := ⟨HR.out.setErr 10, grown_trans' (grown_setCell w ⟨r, 2, none⟩ _) (grown_drewN _ _ _)⟩
      rw [show scan [] = (0, 0, 10) from rfl]
      go_wp2
      go_ret
      exact ⟨by rw [HE.out]; rfl, by rw [HE.out]; exact HW'.out⟩
    · simp only [Value.slice.injEq] at hv
      obtain ⟨rfl, _, rfl⟩ := hv
      have hlc := hnil.2
      have hcm' : c ≤ 9223372036854775807 := by unfold maxLen at hcm; omega
      have HLN : Hid (b.length - p = (b.drop p).length) := by rw [Hid, List.length_drop]
      clear hnil hcm HZ
      by_cases hcp : c = p
      · have hbl : b.length = p := by omega
        have HSB : Hid (BytesAt w (some ⟨g, 0, none⟩) []) := ⟨by simp, .inl rfl⟩
        have HE : Hid (rdUpto b p 0 most = (0, p, 10)) := by
          rw [Hid, HU.out, List.drop_of_length_le (by omega)]; rfl
        have HW : Hid (IsReader w r (some ⟨g, 0, none⟩) c b p 0) := HR.out
        have hcz : (c : Int) - (p : Int) = 0 := by omega
        have hlz : (b.length : Int) - (p : Int) = 0 := by omega
        clear HU HSC HMX HLN
        go_enter Tryz.func44, Tryz.ntmps44
        go_wp2
        go_quiet ((go_at_call 75; exact Calls.quiet_of_same (scan_any _ _ _ _ [] rfl (HSB.out.drewN _) (by simp [maxLen]))))
        have HW' : Hid (Reads w r (some ⟨g, 0, none⟩) c b p 10 ((w.setCell ⟨r, 2, none⟩ (.int .i64 10)).drewN nq)) := ⟨HR.out.setErr 10, grown_trans' (grown_setCell w ⟨r, 2, none⟩ _) (grown_drewN _ _ _)⟩
        rw [show scan [] = (0, 0, 10) from rfl]
        go_wp2
        go_ret
        exact ⟨by rw [HE.out]; rfl, by rw [HE.out]; exact HW'.out⟩
      · have HSB : Hid (BytesAt w (some ⟨g, p, none⟩) (b.drop p)) := by have := HR.out.bytes.drop p; rwa [Nat.zero_add] at this
        go_enter Tryz.func44, Tryz.ntmps44
        go_wp2
        go_quiet ((go_at_call 75; exact Calls.quiet_of_same (scan_any _ _ _ _ (b.drop p) HLN.out (HSB.out.drewN _) HMX.out)))
        generalize hs : scan (b.drop p) = s at *
        clear hs
        have HR1 : Hid (IsReader (w.drewN nq) r (some ⟨g, 0, none⟩) c b p 0) := HR.out
        by_cases t1 : s.2.2 = 0
        · have hT1 : (((s.2.2 : Nat) : Int) == 0) = true := by rw [beq_iff_eq]; omega
          by_cases t2 : most < s.1
          · have hT2 : (most : Int) < ((s.1 : Nat) : Int) := by omega
            have HE : Hid (rdUpto b p 0 most = (0, p, 12)) := by rw [Hid, HU.out, if_neg (by simp [t1]), if_pos t2]
            have HW' : Hid (Reads w r (some ⟨g, 0, none⟩) c b p 12 ((w.setCell ⟨r, 2, none⟩ (.int .i64 12)).drewN nq)) := ⟨HR.out.setErr 12, grown_trans' (grown_setCell w ⟨r, 2, none⟩ _) (grown_drewN _ _ _)⟩
            clear t1 t2 HSC
            go_wp2
            go_ret
            exact ⟨by rw [HE.out]; rfl, by rw [HE.out]; exact HW'.out⟩
          · have hT2 : ¬ (most : Int) < ((s.1 : Nat) : Int) := by omega
            have hT3 : (((s.2.2 : Nat) : Int) != 0) = false := by rw [t1]; simp
            have HE : Hid (rdUpto b p 0 most = (s.1, p + s.2.1, 0)) := by rw [Hid, HU.out, if_neg (by simp [t1]), if_neg t2]
            have hk : p + s.2.1 ≤ b.length := by
              have := HSC.out t1
              rw [List.length_drop] at this
              omega
            have HW' : Hid (Reads w r (some ⟨g, 0, none⟩) c b (p + s.2.1) 0 ((w.setCell ⟨r, 1, none⟩ (.int .i64 ((p : Int) + ((s.2.1 : Nat) : Int)))).drewN nq)) := ⟨HR.out.setAt (p + s.2.1) hk, grown_trans' (grown_setCell w ⟨r, 1, none⟩ _) (grown_drewN _ _ _)⟩
            clear t1 t2 HSC
            go_wp2
            go_ret
            exact ⟨by rw [HE.out]; rfl, by rw [HE.out]; exact HW'.out⟩
        · have hT1 : (((s.2.2 : Nat) : Int) == 0) = false := by rw [beq_eq_false_iff_ne]; omega
          have hT3 : (((s.2.2 : Nat) : Int) != 0) = true := by rw [bne_iff_ne]; omega
          have HE : Hid (rdUpto b p 0 most = (0, p, ((s.2.2 : Nat) : Int))) := by rw [Hid, HU.out, if_pos t1]
          have HW' : Hid (Reads w r (some ⟨g, 0, none⟩) c b p ((s.2.2 : Nat) : Int) ((w.setCell ⟨r, 2, none⟩ (.int .i64 ((s.2.2 : Nat) : Int))).drewN nq)) := ⟨HR.out.setErr _, grown_trans' (grown_setCell w ⟨r, 2, none⟩ _) (grown_drewN _ _ _)⟩
          clear t1 HSC
          go_wp2
          go_ret
          exact ⟨by rw [HE.out]; rfl, by rw [HE.out]; exact HW'.out⟩
  · have he' : (e != 0) = true := by rw [bne_iff_ne]; exact he
    have HE : Hid (rdUpto b p e most = (0, p, e)) := by unfold rdUpto; rw [Hid, if_pos he]
    clear he hnil
    go_enter Tryz.func44, Tryz.ntmps44
    go_wp2
    go_ret
    exact ⟨by rw [HE.out]; rfl, by rw [HE.out]; exact ⟨HR.out, World.grownBy.refl _ _⟩⟩

end Go.Proofs.YtkmafpfldnapjaaGreatDoor
/-
  A PROGRAM'S BYTES.
-/
namespace Go.Proofs.YtkmafpfldnapjaaGreatDoor
open Go.RowKit

/-- an instruction's bytes -/
def instrB (k : K) : List Nat := if k.2 = 0 then [k.1.toNat] else (k.1.toNat + 64) :: uint 10 (fold k.2)
def codeB : List K → List Nat
  | [] => []
  | k :: L => instrB k ++ codeB L
theorem codeB_append (A B : List K) : codeB (A ++ B) = codeB A ++ codeB B := by
  induction A with
  | nil => rfl
  | cons k A ih => simp [codeB, ih]
def headN (p : Nums) (n : Nat) : List Nat := [p.args.toNat, p.reads.toNat, p.writes.toNat, p.locals.toNat, n]
def uints : List Nat → List Nat
  | [] => []
  | x :: r => uint 10 x ++ uints r
theorem uints_append (A B : List Nat) : uints (A ++ B) = uints A ++ uints B := by
  induction A with
  | nil => rfl
  | cons k A ih => simp [uints, ih]
def headB (p : Nums) (n k : Nat) : List Nat := uints ((headN p n).take k)
def opsB (L : List K) : Bool := L.all fun k => isOpB k.1
def progB (p : Nums) (L : List K) : List Nat := headB p L.length 5 ++ codeB L
/-- the bytes, and the error -/
def writtenN (p : Nums) (L : List K) : List Nat × Int :=
  if limB p L.length = false then ([], 30) else if opsB L = false then ([], 31) else (progB p L, 0)

theorem instrB_length (k : K) : (instrB k).length ≤ 12 := by
  unfold instrB
  split
  · simp
  · have := uint_length 10 (fold k.2); simp; omega
theorem codeB_length : ∀ L : List K, (codeB L).length ≤ 12 * L.length
  | [] => by simp [codeB]
  | k :: L => by
    have := codeB_length L
    have := instrB_length k
    simp [codeB]; omega
theorem uints_length : ∀ L : List Nat, (uints L).length ≤ 11 * L.length
  | [] => by simp [uints]
  | k :: L => by
    have := uints_length L
    have := uint_length 10 k
    simp [uints]; omega
theorem headB_length (p : Nums) (n k : Nat) : (headB p n k).length ≤ 55 := by
  have := uints_length ((headN p n).take k)
  have : ((headN p n).take k).length ≤ 5 := by simp [headN]; omega
  unfold headB; omega
theorem codeB_take (L : List K) (k : Nat) (h : k < L.length) : codeB (L.take (k + 1)) = codeB (L.take k) ++ instrB (cd L k) := by
  rw [List.take_succ_eq_append_getElem h, codeB_append]
  simp [codeB, cd, List.getD_eq_getElem?_getD, List.getElem?_eq_getElem h]
theorem codeB_take_length (L : List K) (k : Nat) : (codeB (L.take k)).length ≤ 12 * L.length := by
  have := codeB_length (L.take k)
  have : (L.take k).length ≤ L.length := by simp; omega
  omega
theorem headB_succ (p : Nums) (n k : Nat) (h : k < 5) : headB p n (k + 1) = headB p n k ++ uint 10 ((headN p n).getD k 0) := by
  have hl : k < (headN p n).length := by simpa [headN] using h
  unfold headB
  rw [List.take_succ_eq_append_getElem hl, uints_append]
  simp [uints, List.getD_eq_getElem?_getD, List.getElem?_eq_getElem hl]
theorem uints_lt : ∀ L : List Nat, ∀ z ∈ uints L, z < 256
  | [], z, hz => by simp [uints] at hz
  | k :: L, z, hz => by
    rcases List.mem_append.1 hz with h | h
    · exact uint_lt _ _ z h
    · exact uints_lt L z h
theorem instrB_lt (k : K) (h : isOpB k.1 = true) : ∀ z ∈ instrB k, z < 256 := by
  simp only [isOpB, Bool.and_eq_true, decide_eq_true_eq] at h
  intro z hz
  unfold instrB at hz
  split at hz
  · simp at hz; omega
  · rcases List.mem_cons.1 hz with h1 | h1
    · omega
    · exact uint_lt _ _ z h1
theorem codeB_lt : ∀ L : List K, (∀ k ∈ L, isOpB k.1 = true) → ∀ z ∈ codeB L, z < 256
  | [], _, z, hz => by simp [codeB] at hz
  | k :: L, h, z, hz => by
    rcases List.mem_append.1 hz with h1 | h1
    · exact instrB_lt k (h k (by simp)) z h1
    · exact codeB_lt L (fun x hx => h x (by simp [hx])) z h1
theorem opsB_mem {L : List K} (h : opsB L = true) : ∀ k ∈ L, isOpB k.1 = true := List.all_eq_true.1 h
theorem cd_mem {L : List K} {j : Nat} (h : j < L.length) : cd L j ∈ L := by
  simp [cd, List.getD_eq_getElem?_getD, List.getElem?_eq_getElem h]
theorem opsB_cd {L : List K} (h : opsB L = true) {j : Nat} (hj : j < L.length) : isOpB (cd L j).1 = true := opsB_mem h _ (cd_mem hj)
theorem opsB_take {L : List K} (k : Nat) (h : k < L.length) : opsB (L.take (k + 1)) = (opsB (L.take k) && isOpB (cd L k).1) := by
  unfold opsB
  rw [List.take_succ_eq_append_getElem h, List.all_append]
  simp [cd, List.getD_eq_getElem?_getD, List.getElem?_eq_getElem h]
theorem opsB_false {L : List K} {j : Nat} (hj : j < L.length) (h : isOpB (cd L j).1 = false) : opsB L = false := by
  cases ho : opsB L with
  | false => rfl
  | true => rw [opsB_cd ho hj] at h; cases h
theorem written_lim {p : Nums} {L : List K} (h : limB p L.length = false) : writtenN p L = ([], 30) := by unfold writtenN; rw [if_pos h]
theorem written_op {p : Nums} {L : List K} (h : limB p L.length = true) (ho : opsB L = false) : writtenN p L = ([], 31) := by unfold writtenN; rw [if_neg (by rw [h]; simp), if_pos ho]
theorem written_ok {p : Nums} {L : List K} (h : limB p L.length = true) (ho : opsB L = true) : writtenN p L = (progB p L, 0) := by unfold writtenN; rw [if_neg (by rw [h]; simp), if_neg (by rw [ho]; simp)]
theorem written_length (p : Nums) (L : List K) : (writtenN p L).1.length ≤ 3127 := by
  cases hl : limB p L.length with
  | false => rw [written_lim hl]; simp
  | true =>
    cases ho : opsB L with
    | false => rw [written_op hl ho]; simp
    | true =>
      rw [written_ok hl ho]
      have h1 := ((limB_iff p L.length).1 hl).2.2.2.2
      have h2 := headB_length p L.length 5
      have h3 := codeB_length L
      simp only [progB, List.length_append]; omega
theorem written_lt (p : Nums) (L : List K) : ∀ z ∈ (writtenN p L).1, z < 256 := by
  cases hl : limB p L.length with
  | false => rw [written_lim hl]; simp
  | true =>
    cases ho : opsB L with
    | false => rw [written_op hl ho]; simp
    | true =>
      rw [written_ok hl ho]
      intro z hz
      rcases List.mem_append.1 hz with h1 | h1
      · exact uints_lt _ z h1
      · exact codeB_lt L (opsB_mem ho) z h1

theorem or64 : ∀ o : Nat, o < 37 → bits .or .u8 (o : Int) 64 = ((o + 64 : Nat) : Int) := by decide
theorem wrote_alloc (w : World) (o : Obj) (r : Nat) (v : Value) : Wrote w (w.alloc o) r v v := ⟨rfl, rfl, rfl, by simp, fun k hk _ _ => Below.heap_alloc w o k hk, fun _ h => .inl h⟩
theorem IsWriter.alloc {w : World} {base r : Nat} {v : Value} {L : List Nat} (h : IsWriter w base r v L) (o : Obj) : IsWriter (w.alloc o) base r v L := h.kept ((Below.refl _ _).alloc (Nat.le_refl _) _)
theorem Wrote.kept {w w1 w2 : World} {r : Nat} {v v1 : Value} (h : Wrote w w1 r v v1) (hb : Below w1.heap.size w1 w2) : Wrote w w2 r v v1 :=
  ⟨hb.os.trans h.os, hb.tape.trans h.tape, hb.output.trans h.output, Nat.le_trans h.size hb.size, fun k hk hr hv => (hb.block k (Nat.lt_of_lt_of_le hk h.size)).trans (h.block k hk hr hv), h.lies⟩
end Go.Proofs.YtkmafpfldnapjaaGreatDoor
/-
  THE WALKS OF putInstr, Put.
-/
namespace Go.Proofs.YtkmafpfldnapjaaGreatDoor
open Go.RowKit Go.Sort

set_option maxRecDepth 100000 in
set_option maxHeartbeats 1000000 in
theorem putInstr_any (w : World) (base r : Nat) (v : Value) (M : List Nat) (op a : Int) (h : IsWriter w base r v M) (ho : isOpB op = true) (ha : In64 a) (hl : M.length + 12 ≤ 140737488355328) :
    Calls Tryz.prog 72 #[.pointer (some ⟨r, 0, none⟩), kv (op, a)] w fun e w' => e = .returned (.tuple #[]) ∧ ∃ v', IsWriter w' base r v' (M ++ instrB (op, a)) ∧ Wrote w w' r v v' := by
  simp only [isOpB, Bool.and_eq_true, decide_eq_true_eq] at ho
  obtain ⟨o, rfl⟩ := Int.eq_ofNat_of_zero_le ho.1
  have ho1 : o < 37 := by omega
  have HI : Hid (In64 a) := ha
  have HW : Hid (IsWriter w base r v M) := h
  have h64 := or64 o ho1
  clear h ha ho
  have HW1 : Hid (IsWriter (w.alloc (.cells #[.int .i64 (o : Int), .int .i64 a] 91)) base r v M) := HW.out.alloc _
  have HT1 : Hid (Wrote w (w.alloc (.cells #[.int .i64 (o : Int), .int .i64 a] 91)) r v v) := wrote_alloc _ _ _ _
  obtain ⟨c0, c1⟩ : Box (w.alloc (.cells #[.int .i64 (o : Int), .int .i64 a] 91)) w.heap.size (o : Int) a := Box.new rfl
  have HX : Hid (Box (w.alloc (.cells #[.int .i64 (o : Int), .int .i64 a] 91)) w.heap.size (o : Int) a) := ⟨c0, c1⟩
  have HR : Hid (w.heap.size ≠ r ∧ v.ownBlock ≠ some w.heap.size) := ⟨by have := HW.out.lt; omega, fun e => by have := (HW.out.2.1.2.lt _ e).2; omega⟩
  by_cases h0 : a = 0
  · subst h0
    go_enter Tryz.func72, Tryz.ntmps72
    go_wp2_with fail
    refine (wByte_any _ base r o v M HW1.out (by omega) (by omega)).mono ?_
    rintro e w2 ⟨rfl, v2, hw2, hb2⟩
    go_wp2
    exact bodyPost_ret (v := .tuple #[]) (by simp [results, Tryz.results72, go_sem]) rfl ⟨rfl, v2, by simpa [instrB] using hw2, HT1.out.trans hb2⟩
  · have h0' : (a == 0) = false := by simpa using h0
    go_enter Tryz.func72, Tryz.ntmps72
    go_wp2_with fail
    refine (wByte_any _ base r (o + 64) v M HW1.out (by omega) (by omega)).mono ?_
    rintro e w2 ⟨rfl, v2, hw2, hb2⟩
    have HW2 : Hid (IsWriter w2 base r v2 (M ++ [o + 64])) := hw2
    have HT2 : Hid (Wrote w w2 r v v2) := HT1.out.trans hb2
    have d1 : w2.cell? ⟨w.heap.size, 1, none⟩ = some (.int .i64 a) := by
      have := HX.out.2
      simp only [World.cell?] at this ⊢
      rw [hb2.block w.heap.size (by simp) HR.out.1 HR.out.2]; exact this
    clear hw2 hb2
    go_wp2_with fail
    refine (wInt_any w2 base r a v2 (M ++ [o + 64]) HW2.out HI.out.1 HI.out.2 (by simp; omega)).mono ?_
    rintro e w3 ⟨rfl, v3, hw3, hb3⟩
    go_wp2
    go_end0
    exact ⟨rfl, v3, by simpa [instrB, h0] using hw3, HT2.out.trans hb3⟩

/-- what stands while a program is written -/
structure PS (w W : World) (base r : Nat) (v v' : Value) (M' : List Nat) (p : Nums) (ao : Option Addr) (n cap : Nat) (L : List K) : Prop where
  wr : IsWriter W base r v' M'
  wt : Wrote w W r v v'
  bx : PBox W w.heap.size p ao n cap
  ks : KeysAt W ao L
  fr : v'.ownBlock ≠ some w.heap.size
  rl : r < w.heap.size
  lt : ∀ a, L ≠ [] → ao = some a → a.block < base
theorem PS.step {w W W2 : World} {base r : Nat} {v v1 v2 : Value} {M1 M2 : List Nat} {p : Nums} {ao : Option Addr} {n cap : Nat} {L : List K} (h : PS w W base r v v1 M1 p ao n cap L) (hw : IsWriter W2 base r v2 M2) (ht : Wrote W W2 r v1 v2) : PS w W2 base r v v2 M2 p ao n cap L := by
  refine ⟨hw, h.wt.trans ht, ?_, h.ks.below (ht.below h.wr) h.lt, fun e => ?_, h.rl, h.lt⟩
  · exact (ht.block _ h.bx.lt (by have := h.rl; omega) h.fr).trans h.bx
  · rcases ht.lies _ e with e1 | e1
    · exact h.fr e1
    · have := h.bx.lt; omega
theorem PS.kept {w W W2 : World} {base r : Nat} {v v1 : Value} {M1 : List Nat} {p : Nums} {ao : Option Addr} {n cap : Nat} {L : List K} (h : PS w W base r v v1 M1 p ao n cap L) (hb : Below W.heap.size W W2) : PS w W2 base r v v1 M1 p ao n cap L :=
  ⟨h.wr.kept hb, h.wt.kept hb, h.bx.kept hb, h.ks.kept hb, h.fr, h.rl, h.lt⟩
theorem PS.start {w : World} {base r : Nat} {v : Value} {M : List Nat} {p : Nums} {ao : Option Addr} {n cap : Nat} {L : List K} (h : IsWriter w base r v M) (hL : KeysAt w ao L) (hlt : ∀ a, L ≠ [] → ao = some a → a.block < base) :
    PS w (w.alloc (.cells #[.int .i64 p.args, .int .i64 p.reads, .int .i64 p.writes, .int .i64 p.locals, .slice ao n cap] 58)) base r v v M p ao n cap L :=
  ⟨h.alloc _, wrote_alloc _ _ _ _, PBox.new w p ao n cap, hL.kept ((Below.refl _ _).alloc (Nat.le_refl _) _), fun e => by have := (h.2.1.2.lt _ e).2; omega, h.lt, hlt⟩

set_option maxRecDepth 100000 in
set_option maxHeartbeats 2000000 in
theorem put_any (w : World) (base r : Nat) (v : Value) (M : List Nat) (p : Nums) (ao : Option Addr) (n cap : Nat) (L : List K) (h : IsWriter w base r v M) (hL : KeysAt w ao L) (hn : n = L.length) (hK : ∀ k ∈ L, KIn k)
    (hlt : ∀ a, L ≠ [] → ao = some a → a.block < base) (hl : M.length + 3127 ≤ 140737488355328) :
    Calls Tryz.prog 39 #[.pointer (some ⟨r, 0, none⟩), pv p ao n cap] w fun e w' => e = .returned (.int .i64 (writtenN p L).2) ∧ ∃ v', IsWriter w' base r v' (M ++ (writtenN p L).1) ∧ Wrote w w' r v v' := by
  have HN : Hid (n = L.length) := hn
  have HK : Hid (∀ k ∈ L, KIn k) := hK
  have HS0 : Hid (PS w (w.alloc (.cells #[.int .i64 p.args, .int .i64 p.reads, .int .i64 p.writes, .int .i64 p.locals, .slice ao n cap] 58)) base r v v M p ao n cap L) := PS.start h hL hlt
  clear hn hK h hL hlt
  go_enter Tryz.func39, Tryz.ntmps39
  go_wp2_with fail
  refine (withinLimits_any _ p ao n cap).mono ?_
  rintro e w1 ⟨rfl, g1⟩
  have HS1 : Hid (PS w w1 base r v v M p ao n cap L) := HS0.out.kept (Grew.below g1)
  clear g1 HS0
  obtain ⟨x0, x1, x2, x3, x4⟩ := HS1.out.bx.cells
  cases hlm : limB p n with
  | false =>
    have HV : Hid (writtenN p L = ([], 30)) := written_lim (by rw [← HN.out]; exact hlm)
    go_wp2
    go_ret
    rw [HV.out]
    exact ⟨rfl, v, by rw [List.append_nil]; exact HS1.out.wr, HS1.out.wt⟩
  | true =>
    obtain ⟨p0, p1, p2, p3, hm⟩ := (limB_iff p n).1 hlm
    have HLim : Hid (limB p L.length = true) := by rw [← HN.out]; exact hlm
    clear hlm
    go_wp2_with fail
    clear x0 x1 x2 x3 x4
    go_loopw [17] (fun x wr => ∃ k : Nat, k ≤ n ∧ x = .int .i64 (k : Int) ∧ Hid (opsB (L.take k) = true) ∧ Hid (PS w wr base r v v M p ao n cap L)) (fun x _ => n - (intOf x).toNat)
    case atStart => exact ⟨0, by omega, rfl, rfl, HS1⟩
    case round =>
      clear HS1
      obtain ⟨k, hk, rfl, HA, HS⟩ := hrel
      obtain ⟨x0, x1, x2, x3, x4⟩ := HS.out.bx.cells
      by_cases hlt : k < n
      · obtain ⟨kb, koff, rfl, c0, c1⟩ := HS.out.ks.get k (by have := HN.out; omega)
        have HT := opsB_take k (show k < L.length by have := HN.out; omega)
        have HOF : Hid (isOpB (cd L k).1 = false → opsB L = false) := opsB_false (by have := HN.out; omega)
        have HT2 : Hid (opsB (L.take (k + 1)) = (opsB (L.take k) && isOpB (cd L k).1)) := HT
        clear HT
        generalize hcd : cd L k = ck0 at *
        obtain ⟨op, a⟩ := ck0
        have HB2 : Hid (PS w (wr.alloc (.cells #[.int .i64 op, .int .i64 a] 91)) base r v v M p (some ⟨kb, koff, none⟩) n cap L) := HS.out.kept ((Below.refl _ _).alloc (Nat.le_refl _) _)
        go_wp2_with fail
        refine (isOp_any _ op).mono ?_
        rintro e w2 ⟨rfl, rfl⟩
        cases hop : isOpB op with
        | false =>
          have HV : Hid (writtenN p L = ([], 31)) := written_op HLim.out (HOF.out hop)
          go_wp2
          go_ret
          rw [HV.out]
          exact ⟨rfl, v, by rw [List.append_nil]; exact HB2.out.wr, HB2.out.wt⟩
        | true =>
          have HA2 : Hid (opsB (L.take (k + 1)) = true) := by rw [HT2.out, HA.out, hop]; rfl
          go_wp2
          go_roundw
          case rel => exact ⟨k + 1, by omega, by go_num, HA2, HB2⟩
          case measure => simp [intOf]; omega
      · obtain rfl : k = n := by omega
        have HO : Hid (opsB L = true) := by have := HA.out; rw [HN.out, List.take_length] at this; exact this
        have HV : Hid (writtenN p L = (progB p L, 0)) := written_ok HLim.out HO.out
        have HM0 : Hid (PS w wr base r v v (M ++ headB p k 0) p ao k cap L) := by
          have : headB p k 0 = [] := rfl
          rw [this, List.append_nil]; exact HS.out
        clear HA
        go_wp2_with fail
        generalize wr = wz at *
        clear x0 x1 x2 x3 x4 HS
        go_loopw [38] (fun x wr => ∃ j : Nat, j ≤ 5 ∧ x = .int .i64 (j : Int) ∧ ∃ v', Hid (PS w wr base r v v' (M ++ headB p k j) p ao k cap L)) (fun x _ => 5 - (intOf x).toNat)
        case atStart => exact ⟨0, by omega, rfl, v, HM0⟩
        case round =>
          clear HM0
          obtain ⟨j, hj, rfl, v1, HS⟩ := hrel
          by_cases hj5 : j < 5
          · have HH : Hid (headB p k (j + 1) = headB p k j ++ uint 10 ((headN p k).getD j 0)) := headB_succ p k j hj5
            have HLn : Hid ((M ++ headB p k j).length + 11 ≤ 140737488355328) := by have := headB_length p k j; rw [List.length_append]; show _ ≤ _; omega
            have HX : Hid (∀ x : Int, 0 ≤ x → x ≤ 256 → (headN p k).getD j 0 = x.toNat → Calls Tryz.prog 37 #[.pointer (some ⟨r, 0, none⟩), .int .u64 x] wr fun e w' => e = .returned (.tuple #[]) ∧ ∃ v', Hid (PS w w' base r v v' (M ++ headB p k (j + 1)) p ao k cap L)) := fun x hx0 hx1 e => by
              obtain ⟨z, rfl⟩ := Int.eq_ofNat_of_zero_le hx0
              refine (wUint_any wr base r z v1 _ HS.out.wr (by omega) HLn.out).mono ?_
              rintro e' w3 ⟨rfl, v3, hw3, hb3⟩
              refine ⟨rfl, v3, ?_⟩
              rw [HH.out, e, ← List.append_assoc]
              exact HS.out.step hw3 hb3
            clear HH HLn HS
            obtain rfl | rfl | rfl | rfl | rfl : j = 0 ∨ j = 1 ∨ j = 2 ∨ j = 3 ∨ j = 4 := by omega
            · have i0 : ∀ w, (Go.Instr.index 150 (.agg #[.int .i64 p.args, .int .i64 p.reads, .int .i64 p.writes, .int .i64 p.locals, .int .i64 (k : Int)]) (.int .i64 0)).run Tryz.prog w = .ok (.int .i64 p.args) w := fun _ => by kernel_rfl
              go_wp2_with fail
              refine (HX.out p.args p0.1 (by omega) rfl).mono ?_
              rintro e w3 ⟨rfl, v3, HS3⟩
              go_wp2
              go_roundw
              case rel => exact ⟨1, by omega, by go_num, v3, HS3⟩
              case measure => simp [intOf]
            · have i0 : ∀ w, (Go.Instr.index 150 (.agg #[.int .i64 p.args, .int .i64 p.reads, .int .i64 p.writes, .int .i64 p.locals, .int .i64 (k : Int)]) (.int .i64 1)).run Tryz.prog w = .ok (.int .i64 p.reads) w := fun _ => by kernel_rfl
              go_wp2_with fail
              refine (HX.out p.reads p1.1 (by omega) rfl).mono ?_
              rintro e w3 ⟨rfl, v3, HS3⟩
              go_wp2
              go_roundw
              case rel => exact ⟨2, by omega, by go_num, v3, HS3⟩
              case measure => simp [intOf]
            · have i0 : ∀ w, (Go.Instr.index 150 (.agg #[.int .i64 p.args, .int .i64 p.reads, .int .i64 p.writes, .int .i64 p.locals, .int .i64 (k : Int)]) (.int .i64 2)).run Tryz.prog w = .ok (.int .i64 p.writes) w := fun _ => by kernel_rfl
              go_wp2_with fail
              refine (HX.out p.writes p2.1 (by omega) rfl).mono ?_
              rintro e w3 ⟨rfl, v3, HS3⟩
              go_wp2
              go_roundw
              case rel => exact ⟨3, by omega, by go_num, v3, HS3⟩
              case measure => simp [intOf]
            · have i0 : ∀ w, (Go.Instr.index 150 (.agg #[.int .i64 p.args, .int .i64 p.reads, .int .i64 p.writes, .int .i64 p.locals, .int .i64 (k : Int)]) (.int .i64 3)).run Tryz.prog w = .ok (.int .i64 p.locals) w := fun _ => by kernel_rfl
              go_wp2_with fail
              refine (HX.out p.locals p3.1 (by omega) rfl).mono ?_
              rintro e w3 ⟨rfl, v3, HS3⟩
              go_wp2
              go_roundw
              case rel => exact ⟨4, by omega, by go_num, v3, HS3⟩
              case measure => simp [intOf]
            · have i0 : ∀ w, (Go.Instr.index 150 (.agg #[.int .i64 p.args, .int .i64 p.reads, .int .i64 p.writes, .int .i64 p.locals, .int .i64 (k : Int)]) (.int .i64 4)).run Tryz.prog w = .ok (.int .i64 (k : Int)) w := fun _ => by kernel_rfl
              go_wp2_with fail
              refine (HX.out (k : Int) (by omega) (by omega) rfl).mono ?_
              rintro e w3 ⟨rfl, v3, HS3⟩
              go_wp2
              go_roundw
              case rel => exact ⟨5, by omega, by go_num, v3, HS3⟩
              case measure => simp [intOf]
          · obtain rfl : j = 5 := by omega
            rw [show ((5 : Nat) : Int) = 5 from rfl]
            have HM0 : Hid (PS w wr base r v v1 (M ++ headB p k 5 ++ codeB (L.take 0)) p ao k cap L) := by
              rw [List.take_zero, codeB, List.append_nil]; exact HS.out
            obtain ⟨x0, x1, x2, x3, x4⟩ := HS.out.bx.cells
            go_wp2_with fail
            generalize wr = wy at *
            clear x0 x1 x2 x3 x4 HS
            go_loopw [49] (fun x wr => ∃ i : Nat, i ≤ k ∧ x = .int .i64 (i : Int) ∧ ∃ v', Hid (PS w wr base r v v' (M ++ headB p k 5 ++ codeB (L.take i)) p ao k cap L)) (fun x _ => k - (intOf x).toNat)
            case atStart => exact ⟨0, by omega, rfl, v1, HM0⟩
            case round =>
              clear HM0
              obtain ⟨i, hi, rfl, v2, HS⟩ := hrel
              by_cases hik : i < k
              · obtain ⟨kb, koff, rfl, c0, c1⟩ := HS.out.ks.get i (by have := HN.out; omega)
                have HIn : Hid (KIn (cd L i)) := HK.out _ (cd_mem (by have := HN.out; omega))
                have HOp : Hid (isOpB (cd L i).1 = true) := opsB_cd HO.out (by have := HN.out; omega)
                have HCt : Hid (codeB (L.take (i + 1)) = codeB (L.take i) ++ instrB (cd L i)) := codeB_take L i (by have := HN.out; omega)
                have HLn : Hid ((M ++ headB p k 5 ++ codeB (L.take i)).length + 12 ≤ 140737488355328) := by
                  have h1 := headB_length p k 5
                  have h2 := codeB_length (L.take i)
                  have h3 : (L.take i).length ≤ i := by simp; omega
                  rw [List.length_append, List.length_append]; show _ ≤ _; omega
                generalize hcd : cd L i = ck0 at *
                obtain ⟨op, a⟩ := ck0
                have HB2 : Hid (PS w (wr.alloc (.cells #[.int .i64 op, .int .i64 a] 91)) base r v v2 (M ++ headB p k 5 ++ codeB (L.take i)) p (some ⟨kb, koff, none⟩) k cap L) := HS.out.kept ((Below.refl _ _).alloc (Nat.le_refl _) _)
                go_wp2_with fail
                refine (putInstr_any _ base r v2 _ op a HB2.out.wr HOp.out HIn.out.2 HLn.out).mono ?_
                rintro e w4 ⟨rfl, v4, hw4, hb4⟩
                have HS4 : Hid (PS w w4 base r v v4 (M ++ headB p k 5 ++ codeB (L.take (i + 1))) p (some ⟨kb, koff, none⟩) k cap L) := by
                  rw [HCt.out, ← List.append_assoc]; exact HB2.out.step hw4 hb4
                clear hw4 hb4
                go_wp2
                go_roundw
                case rel => exact ⟨i + 1, by omega, by go_num, v4, HS4⟩
                case measure => simp [intOf]; omega
              · obtain rfl : i = k := by omega
                have HE : Hid (M ++ (writtenN p L).1 = M ++ headB p i 5 ++ codeB (L.take i)) := by
                  rw [HV.out, HN.out, List.take_length, List.append_assoc]; rfl
                go_wp2
                go_ret
                refine ⟨by rw [HV.out]; rfl, v2, ?_, HS.out.wt⟩
                rw [HE.out]; exact HS.out.wr
end Go.Proofs.YtkmafpfldnapjaaGreatDoor
