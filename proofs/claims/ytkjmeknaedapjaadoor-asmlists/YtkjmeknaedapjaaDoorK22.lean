import Derived.Test.YtkjmeknaedapjaaDoorK21
import Derived.Test.YtkjmeknaedapjaaDoorK07
import Derived.Deep.DeepCutAuto
import Derived.Deep.MidRow
import Derived.Deep.RegionLaw
/-
  THE WALKS OF Fail, Err.
-/
namespace Go.Proofs.YtkjmeknaedapjaaDoor
open Go.RowKit

theorem rFail_any (w : World) (r : Nat) (a : Option Addr) (c : Nat) (b : List Nat) (p : Nat) (e x : Int) (h : IsReader w r a c b p e) :
    Calls Tryd.prog 38 #[.pointer (some ⟨r, 0, none⟩), .int .i64 x] w fun e' w' => e' = .returned (.tuple #[]) ∧ Reads w r a c b p (if e = 0 then x else e) w' := by
  have HR : Hid (IsReader w r a c b p e) := h
  have h2 := h.c2
  have f2 := h.frozen 2
  clear h
  go_enter Tryd.func38, Tryd.ntmps38
  by_cases he : e = 0
  · subst he
    have HW' : Hid (Reads w r a c b p x (w.setCell ⟨r, 2, none⟩ (.int .i64 x))) := ⟨HR.out.setErr x, grown_setCell w ⟨r, 2, none⟩ _⟩
    go_wp2
    go_end0
    exact ⟨rfl, HW'.out⟩
  · have he' : (e == 0) = false := by rw [beq_eq_false_iff_ne]; exact he
    go_wp2
    go_end0
    exact ⟨rfl, HR.out, World.grownBy.refl _ _⟩
theorem rErr_any (w : World) (r : Nat) (a : Option Addr) (c : Nat) (b : List Nat) (p : Nat) (e : Int) (h : IsReader w r a c b p e) :
    Calls Tryd.prog 66 #[.pointer (some ⟨r, 0, none⟩)] w fun e' w' => e' = .returned (.int .i64 e) ∧ w' = w := by
  have h2 := h.c2
  clear h
  go_enter Tryd.func66, Tryd.ntmps66
  go_wp2
  go_ret
  exact ⟨rfl, rfl⟩
end Go.Proofs.YtkjmeknaedapjaaDoor
/-
  THE WALKS OF getInstr, Get.
-/
namespace Go.Proofs.YtkjmeknaedapjaaDoor
open Go.RowKit Go.Sort

theorem and63 : ∀ z : Nat, z < 256 → bits .and .u8 (z : Int) 63 = (z : Int) % 64 := by decide +kernel
theorem and128 : ∀ z : Nat, z < 256 → (bits .and .u8 (z : Int) 128 != 0) = decide (128 ≤ z) := by decide +kernel
theorem and64 : ∀ z : Nat, z < 256 → (bits .and .u8 (z : Int) 64 != 0) = decide (z / 64 % 2 = 1) := by decide +kernel
/-- what Fail leaves -/
def failE (e x : Int) : Int := if e = 0 then x else e
/-- the error behind an instruction's byte -/
def getE2 (z : Nat) (e : Int) : Int := if isOpB ((z : Int) % 64) = false ∨ 128 ≤ z then failE e 31 else e
/-- what follows its byte -/
def getT (b : List Nat) (z p : Nat) (e : Int) : K × Nat × Int :=
  if z / 64 % 2 = 1 then (((z : Int) % 64, unfold (rdUpto b p e 18446744073709551615).1), (rdUpto b p e 18446744073709551615).2.1, if unfold (rdUpto b p e 18446744073709551615).1 = 0 then failE (rdUpto b p e 18446744073709551615).2.2 11 else (rdUpto b p e 18446744073709551615).2.2)
  else (((z : Int) % 64, 0), p, e)
/-- an instruction, the place behind it, the error -/
def getI (b : List Nat) (p : Nat) (e : Int) : K × Nat × Int := getT b (rdByte b p e).1 (rdByte b p e).2.1 (getE2 (rdByte b p e).1 (rdByte b p e).2.2)
theorem rdByte_lt {b : List Nat} (hz : ∀ z ∈ b, z < 256) (p : Nat) (e : Int) : (rdByte b p e).1 < 256 := by
  unfold rdByte
  split
  · simp
  · split
    · simp
    · exact getD_lt hz p
theorem Reads.trans {w w1 w2 : World} {r : Nat} {a : Option Addr} {c : Nat} {b : List Nat} {p q : Nat} {e x : Int} (h : Reads w r a c b p e w1) (k : Reads w1 r a c b q x w2) : Reads w r a c b q x w2 := ⟨k.1, grown_trans' h.2 k.2⟩
theorem Reads.kept {w w1 w2 : World} {r : Nat} {a : Option Addr} {c : Nat} {b : List Nat} {p : Nat} {e : Int} (h : Reads w r a c b p e w1) (hb : Below w1.heap.size w1 w2) : Reads w r a c b p e w2 := ⟨h.1.kept hb, grown_trans' h.2 (grown_below hb)⟩
theorem Reads.alloc {w w1 : World} {r : Nat} {a : Option Addr} {c : Nat} {b : List Nat} {p : Nat} {e : Int} (h : Reads w r a c b p e w1) (o : Obj) : Reads w r a c b p e (w1.alloc o) := h.kept ((Below.refl _ _).alloc (Nat.le_refl _) _)

theorem IsReader.grown {w w1 : World} {r : Nat} {a : Option Addr} {c : Nat} {b : List Nat} {p : Nat} {e : Int} {row : Option Nat} (h : IsReader w r a c b p e) (hg : w.grownBy w1 row) (h1 : some r ≠ row) (h2 : (Value.slice a b.length c).ownBlock = none ∨ (Value.slice a b.length c).ownBlock ≠ row) : IsReader w1 r a c b p e :=
  ⟨by rw [hg.block r h.lt h1]; exact h.1, h.2.1.grown hg h2, h.2.2⟩
/-- a store into a block that is new since w -/
theorem Reads.setNew {w W : World} {r : Nat} {a : Option Addr} {c : Nat} {b : List Nat} {p p0 : Nat} {e e0 : Int} (h : Reads w r a c b p e W) (h0 : IsReader w r a c b p0 e0) (B i : Nat) (v : Value) (hB : w.heap.size ≤ B) : Reads w r a c b p e (W.setCell ⟨B, i, none⟩ v) := by
  have hg := grown_setCell W ⟨B, i, none⟩ v
  refine ⟨h.1.grown hg (fun e => ?_) ?_, ?_⟩
  · have := h0.lt
    simp at e; omega
  · by_cases hn : (Value.slice a b.length c).ownBlock = none
    · exact .inl hn
    · refine .inr fun e => ?_
      have := (h0.2.1.2.lt B e).2
      omega
  · refine ⟨hg.os.trans h.2.os, hg.tape.trans h.2.tape, hg.output.trans h.2.output, Nat.le_trans h.2.size hg.size, fun k hk hr => ?_⟩
    rw [hg.block k (Nat.lt_of_lt_of_le hk h.2.size) (fun e => by simp at e; omega), h.2.block k hk hr]
/-- what stands while an instruction is read -/
structure IG (w W : World) (r : Nat) (a : Option Addr) (c : Nat) (b : List Nat) (p' : Nat) (e' : Int) (B4 : Nat) (op A : Int) : Prop where
  rd : Reads w r a c b p' e' W
  b2 : W.heap[w.heap.size]? = some (.cells #[.int .i64 0, .int .i64 0] 87 (0, 0))
  b4 : W.heap[B4]? = some (.cells #[.int .i64 op, .int .i64 A] 87 (0, 0))
  r2 : r < w.heap.size
  l4 : w.heap.size < B4
theorem IG.step {w W W' : World} {r : Nat} {a : Option Addr} {c : Nat} {b : List Nat} {p' p2 : Nat} {e' e2 : Int} {B4 : Nat} {op A : Int} (h : IG w W r a c b p' e' B4 op A) (hr : Reads W r a c b p2 e2 W') : IG w W' r a c b p2 e2 B4 op A := by
  have h1 := (Array.getElem?_eq_some_iff.1 h.b2).1
  have h2 := (Array.getElem?_eq_some_iff.1 h.b4).1
  exact ⟨h.rd.trans hr, (hr.2.block _ h1 (fun e => by have := h.r2; simp at e; omega)).trans h.b2, (hr.2.block _ h2 (fun e => by have := h.r2; have := h.l4; simp at e; omega)).trans h.b4, h.r2, h.l4⟩
theorem IG.cells {w W : World} {r : Nat} {a : Option Addr} {c : Nat} {b : List Nat} {p' : Nat} {e' : Int} {B4 : Nat} {op A : Int} (h : IG w W r a c b p' e' B4 op A) : W.cell? ⟨w.heap.size, 0, none⟩ = some (.int .i64 0) ∧ W.cell? ⟨w.heap.size, 1, none⟩ = some (.int .i64 0) ∧ W.cell? ⟨B4, 0, none⟩ = some (.int .i64 op) ∧ W.cell? ⟨B4, 1, none⟩ = some (.int .i64 A) ∧
    W.frozen? ⟨w.heap.size, 0, none⟩ = false ∧ W.frozen? ⟨w.heap.size, 1, none⟩ = false ∧ W.frozen? ⟨B4, 1, none⟩ = false := by
  refine ⟨?_, ?_, ?_, ?_, frozen_of_row W _ 0 _ _ h.b2, frozen_of_row W _ 1 _ _ h.b2, frozen_of_row W _ 1 _ _ h.b4⟩ <;> simp [World.cell?, h.b2, h.b4]
theorem IG.setA {w W : World} {r : Nat} {a : Option Addr} {c : Nat} {b : List Nat} {p' p0 : Nat} {e' e0 : Int} {B4 : Nat} {op A : Int} (h : IG w W r a c b p' e' B4 op A) (h0 : IsReader w r a c b p0 e0) (A' : Int) : IG w (W.setCell ⟨B4, 1, none⟩ (.int .i64 A')) r a c b p' e' B4 op A' := by
  refine ⟨h.rd.setNew h0 B4 1 _ (Nat.le_of_lt h.l4), ?_, ?_, h.r2, h.l4⟩
  · exact (heap_setCell_other W ⟨B4, 1, none⟩ w.heap.size _ (by have := h.l4; simp; omega)).trans h.b2
  · have := heap_setCell_same W B4 1 _ _ (.int .i64 A') h.b4
    simpa using this
theorem IG.fin {w W : World} {r : Nat} {a : Option Addr} {c : Nat} {b : List Nat} {p' p0 : Nat} {e' e0 : Int} {B4 : Nat} {op A : Int} (h : IG w W r a c b p' e' B4 op A) (h0 : IsReader w r a c b p0 e0) :
    Reads w r a c b p' e' ((W.setCell ⟨w.heap.size, 0, none⟩ (.int .i64 op)).setCell ⟨w.heap.size, 1, none⟩ (.int .i64 A)) ∧
    (loadVar 87 ⟨w.heap.size, 0, none⟩).run Tryd.prog ((W.setCell ⟨w.heap.size, 0, none⟩ (.int .i64 op)).setCell ⟨w.heap.size, 1, none⟩ (.int .i64 A)) = .ok (.agg #[.int .i64 op, .int .i64 A]) ((W.setCell ⟨w.heap.size, 0, none⟩ (.int .i64 op)).setCell ⟨w.heap.size, 1, none⟩ (.int .i64 A)) := by
  refine ⟨(h.rd.setNew h0 _ 0 _ (Nat.le_refl _)).setNew h0 _ 1 _ (Nat.le_refl _), ?_⟩
  have h1 := heap_setCell_same W w.heap.size 0 _ _ (.int .i64 op) h.b2
  have h2 := heap_setCell_same _ w.heap.size 1 _ _ (.int .i64 A) h1
  refine run_loadVar_mid (P := Tryd.prog) _ w.heap.size 0 87 [.int .i64 op, .int .i64 A] _ ?_ Tryd.underlying87 rfl (by kernel_rfl)
  intro j v hv
  simp only [World.cell?, h2, Nat.zero_add]
  simpa using hv
/-- what is handed back -/
def IPost (w : World) (r : Nat) (a : Option Addr) (c : Nat) (b : List Nat) (p : Nat) (e : Int) (W : World) : Prop := Reads w r a c b (getI b p e).2.1 (getI b p e).2.2 W

set_option maxRecDepth 100000 in
set_option maxHeartbeats 2000000 in
theorem getInstr_any (w : World) (r : Nat) (a : Option Addr) (c : Nat) (b : List Nat) (p : Nat) (e : Int) (h : IsReader w r a c b p e) :
    Calls Tryd.prog 65 #[.pointer (some ⟨r, 0, none⟩)] w fun e' w' => e' = .returned (kv (getI b p e).1) ∧ Reads w r a c b (getI b p e).2.1 (getI b p e).2.2 w' := by
  have HR : Hid (IsReader w r a c b p e) := h
  have HZ : Hid (∀ z ∈ b, z < 256) := h.2.1.1
  clear h
  go_enter Tryd.func65, Tryd.ntmps65
  go_wp2_with fail
  have HR0 : Hid (Reads w r a c b p e (w.alloc (.cells #[.int .i64 0, .int .i64 0] 87))) := Reads.alloc ⟨HR.out, World.grownBy.refl _ _⟩ _
  refine (rByte_any _ r a c b p e HR0.out.1).mono ?_
  rintro e1 w1 ⟨rfl, hr1⟩
  have hlt := rdByte_lt HZ.out p e
  have HG : Hid (getI b p e = getT b (rdByte b p e).1 (rdByte b p e).2.1 (getE2 (rdByte b p e).1 (rdByte b p e).2.2)) := rfl
  have HI0 : Hid (IG w (w1.alloc (.cells #[.int .i64 (((rdByte b p e).1 : Int) % 64), .int .i64 0] 87)) r a c b (rdByte b p e).2.1 (rdByte b p e).2.2 w1.heap.size (((rdByte b p e).1 : Int) % 64) 0) := by
    have hrl := HR.out.lt
    have hs : w.heap.size + 1 ≤ w1.heap.size := by have := hr1.2.size; simpa using this
    refine ⟨(HR0.out.trans hr1).alloc _, ?_, heap_alloc_new _ _ rfl, hrl, by omega⟩
    rw [heap_alloc_old _ _ (by omega), hr1.2.block w.heap.size (by simp) (fun e => by simp at e; omega)]
    exact heap_alloc_new _ _ rfl
  clear hr1 HR0
  generalize (rdByte b p e).2.1 = p1 at *
  generalize (rdByte b p e).2.2 = e1 at *
  generalize (rdByte b p e).1 = z at *
  have b63 := and63 z hlt
  have b128 := and128 z hlt
  have b64 := and64 z hlt
  obtain ⟨op, hop⟩ : ∃ op, op = (z : Int) % 64 := ⟨_, rfl⟩
  rw [← hop] at b63 HI0
  have HOp : Hid ((z : Int) % 64 = op) := hop.symm
  have hopr : 0 ≤ op ∧ op < 64 := by omega
  clear hop
  go_wp2_with fail
  generalize w1.alloc (.cells #[.int .i64 op, .int .i64 0] 87) = W0 at *
  generalize w1.heap.size = B4 at *
  refine (isOp_any W0 op).mono ?_
  rintro e2' WX ⟨rfl, rfl⟩
  obtain ⟨e2, he2⟩ : ∃ e2, e2 = getE2 z e1 := ⟨_, rfl⟩
  rw [← he2] at HG
  have HE2 : Hid (e2 = (if isOpB op = false ∨ 128 ≤ z then failE e1 31 else e1)) := by rw [he2]; unfold getE2; rw [HOp.out]; rfl
  clear he2
  cases ho : isOpB op with
  | true =>
    cases c128 : decide (128 ≤ z) with
    | false =>
      rw [c128] at b128
      have he : e2 = e1 := by rw [HE2.out, ho, if_neg (by simpa using c128)]
      subst he
      have HI : Hid (IG w WX r a c b p1 e2 B4 op 0) := HI0
      clear HE2 HI0
      cases c64 : decide (z / 64 % 2 = 1) with
      | false =>
        have HE : Hid (getI b p e = ((op, 0), p1, e2)) := by rw [HG.out]; unfold getT; rw [if_neg (by simpa using c64)]; rw [HOp.out]; rfl
        rw [c64] at b64
        clear HG
        obtain ⟨i0, i1, i2, i3, i4, i5, i6⟩ := HI.out.cells
        obtain ⟨hrd, hld⟩ := HI.out.fin HR.out
        have HF : Hid (Reads w r a c b (getI b p e).2.1 (getI b p e).2.2 ((WX.setCell ⟨w.heap.size, 0, none⟩ (.int .i64 op)).setCell ⟨w.heap.size, 1, none⟩ (.int .i64 0))) := by rw [HE.out]; exact hrd
        have HK : Hid ((getI b p e).1 = (op, 0)) := by rw [HE.out]; rfl
        have HLd : Hid ((loadVar 87 ⟨w.heap.size, 0, none⟩).run Tryd.prog ((WX.setCell ⟨w.heap.size, 0, none⟩ (.int .i64 op)).setCell ⟨w.heap.size, 1, none⟩ (.int .i64 0)) = .ok (.agg #[.int .i64 op, .int .i64 0]) ((WX.setCell ⟨w.heap.size, 0, none⟩ (.int .i64 op)).setCell ⟨w.heap.size, 1, none⟩ (.int .i64 0))) := hld
        clear HE hrd hld
        go_wp2
        refine bodyPost_ret (v := .agg #[.int .i64 op, .int .i64 0]) ?_ rfl ⟨by rw [HK.out], HF.out⟩
        simp [results, Tryd.results65, asAddr, HLd.out]
      | true =>
        rw [c64] at b64
        obtain ⟨i0, i1, i2, i3, i4, i5, i6⟩ := HI.out.cells
        go_wp2_with fail
        refine (rInt_any WX r a c b p1 e2 HI.out.rd.1).mono ?_
        rintro e3 w3 ⟨rfl, hr3⟩
        have HG3 : Hid (getI b p e = ((op, unfold (rdUpto b p1 e2 18446744073709551615).1), (rdUpto b p1 e2 18446744073709551615).2.1, if unfold (rdUpto b p1 e2 18446744073709551615).1 = 0 then failE (rdUpto b p1 e2 18446744073709551615).2.2 11 else (rdUpto b p1 e2 18446744073709551615).2.2)) := by rw [HG.out]; unfold getT; rw [if_pos (by simpa using c64)]; rw [HOp.out]; rfl
        have HI3 : Hid (IG w w3 r a c b (rdUpto b p1 e2 18446744073709551615).2.1 (rdUpto b p1 e2 18446744073709551615).2.2 B4 op 0) := HI.out.step hr3
        clear hr3 HI HG i0 i1 i2 i3 i4 i5 i6
        generalize (rdUpto b p1 e2 18446744073709551615).2.1 = p3 at *
        generalize (rdUpto b p1 e2 18446744073709551615).2.2 = e3 at *
        generalize unfold (rdUpto b p1 e2 18446744073709551615).1 = A at *
        obtain ⟨i0, i1, i2, i3, i4, i5, i6⟩ := HI3.out.cells
        have HI4 : Hid (IG w (w3.setCell ⟨B4, 1, none⟩ (.int .i64 A)) r a c b p3 e3 B4 op A) := HI3.out.setA HR.out A
        by_cases hA : A = 0
        · have hA' : (A == 0) = true := by simpa using hA
          have HE0 : Hid (getI b p e = ((op, A), p3, failE e3 11)) := by rw [HG3.out, if_pos hA]; rfl
          clear HG3 hA
          go_wp2_with fail
          generalize w3.setCell ⟨B4, 1, none⟩ (.int .i64 A) = W4 at *
          clear i0 i1 i2 i3 i4 i5 i6
          refine (rFail_any W4 r a c b p3 e3 11 HI4.out.rd.1).mono ?_
          rintro e5 WX ⟨rfl, hr5⟩
          have HI : Hid (IG w WX r a c b p3 (failE e3 11) B4 op A) := HI4.out.step hr5
          have HE : Hid (getI b p e = ((op, A), p3, failE e3 11)) := HE0
          clear hr5 HI4 HI3 HE0
          obtain ⟨i0, i1, i2, i3, i4, i5, i6⟩ := HI.out.cells
          obtain ⟨hrd, hld⟩ := HI.out.fin HR.out
          have HF : Hid (Reads w r a c b (getI b p e).2.1 (getI b p e).2.2 ((WX.setCell ⟨w.heap.size, 0, none⟩ (.int .i64 op)).setCell ⟨w.heap.size, 1, none⟩ (.int .i64 A))) := by rw [HE.out]; exact hrd
          have HK : Hid ((getI b p e).1 = (op, A)) := by rw [HE.out]; rfl
          have HLd : Hid ((loadVar 87 ⟨w.heap.size, 0, none⟩).run Tryd.prog ((WX.setCell ⟨w.heap.size, 0, none⟩ (.int .i64 op)).setCell ⟨w.heap.size, 1, none⟩ (.int .i64 A)) = .ok (.agg #[.int .i64 op, .int .i64 A]) ((WX.setCell ⟨w.heap.size, 0, none⟩ (.int .i64 op)).setCell ⟨w.heap.size, 1, none⟩ (.int .i64 A))) := hld
          clear HE hrd hld
          go_wp2
          refine bodyPost_ret (v := .agg #[.int .i64 op, .int .i64 A]) ?_ rfl ⟨by rw [HK.out], HF.out⟩
          simp [results, Tryd.results65, asAddr, HLd.out]
        · have hA' : (A == 0) = false := by simpa using hA
          have HE : Hid (getI b p e = ((op, A), p3, e3)) := by rw [HG3.out, if_neg hA]; rfl
          have HI : Hid (IG w (w3.setCell ⟨B4, 1, none⟩ (.int .i64 A)) r a c b p3 e3 B4 op A) := HI4
          clear HG3 hA HI4
          obtain ⟨j0, j1, j2, j3, j4, j5, j6⟩ := HI.out.cells
          obtain ⟨hrd, hld⟩ := HI.out.fin HR.out
          have HF : Hid (Reads w r a c b (getI b p e).2.1 (getI b p e).2.2 (((w3.setCell ⟨B4, 1, none⟩ (.int .i64 A)).setCell ⟨w.heap.size, 0, none⟩ (.int .i64 op)).setCell ⟨w.heap.size, 1, none⟩ (.int .i64 A))) := by rw [HE.out]; exact hrd
          have HK : Hid ((getI b p e).1 = (op, A)) := by rw [HE.out]; rfl
          have HLd : Hid ((loadVar 87 ⟨w.heap.size, 0, none⟩).run Tryd.prog (((w3.setCell ⟨B4, 1, none⟩ (.int .i64 A)).setCell ⟨w.heap.size, 0, none⟩ (.int .i64 op)).setCell ⟨w.heap.size, 1, none⟩ (.int .i64 A)) = .ok (.agg #[.int .i64 op, .int .i64 A]) (((w3.setCell ⟨B4, 1, none⟩ (.int .i64 A)).setCell ⟨w.heap.size, 0, none⟩ (.int .i64 op)).setCell ⟨w.heap.size, 1, none⟩ (.int .i64 A))) := hld
          clear HE hrd hld
          go_wp2
          refine bodyPost_ret (v := .agg #[.int .i64 op, .int .i64 A]) ?_ rfl ⟨by rw [HK.out], HF.out⟩
          simp [results, Tryd.results65, asAddr, HLd.out]
    | true =>
      rw [c128] at b128
      have he : e2 = failE e1 31 := by rw [HE2.out, if_pos (by exact .inr (by simpa using c128))]
      have HI0' : Hid (IG w WX r a c b p1 e1 B4 op 0) := HI0
      obtain ⟨i0, i1, i2, i3, i4, i5, i6⟩ := HI0'.out.cells
      go_wp2_with fail
      refine (rFail_any WX r a c b p1 e1 31 HI0'.out.rd.1).mono ?_
      rintro e5 WX ⟨rfl, hr5⟩
      have HI : Hid (IG w WX r a c b p1 e2 B4 op 0) := by rw [he]; exact HI0'.out.step hr5
      clear hr5 HI0' HI0 HE2 he i0 i1 i2 i3 i4 i5 i6
      cases c64 : decide (z / 64 % 2 = 1) with
      | false =>
        have HE : Hid (getI b p e = ((op, 0), p1, e2)) := by rw [HG.out]; unfold getT; rw [if_neg (by simpa using c64)]; rw [HOp.out]; rfl
        rw [c64] at b64
        clear HG
        obtain ⟨i0, i1, i2, i3, i4, i5, i6⟩ := HI.out.cells
        obtain ⟨hrd, hld⟩ := HI.out.fin HR.out
        have HF : Hid (Reads w r a c b (getI b p e).2.1 (getI b p e).2.2 ((WX.setCell ⟨w.heap.size, 0, none⟩ (.int .i64 op)).setCell ⟨w.heap.size, 1, none⟩ (.int .i64 0))) := by rw [HE.out]; exact hrd
        have HK : Hid ((getI b p e).1 = (op, 0)) := by rw [HE.out]; rfl
        have HLd : Hid ((loadVar 87 ⟨w.heap.size, 0, none⟩).run Tryd.prog ((WX.setCell ⟨w.heap.size, 0, none⟩ (.int .i64 op)).setCell ⟨w.heap.size, 1, none⟩ (.int .i64 0)) = .ok (.agg #[.int .i64 op, .int .i64 0]) ((WX.setCell ⟨w.heap.size, 0, none⟩ (.int .i64 op)).setCell ⟨w.heap.size, 1, none⟩ (.int .i64 0))) := hld
        clear HE hrd hld
        go_wp2
        refine bodyPost_ret (v := .agg #[.int .i64 op, .int .i64 0]) ?_ rfl ⟨by rw [HK.out], HF.out⟩
        simp [results, Tryd.results65, asAddr, HLd.out]
      | true =>
        rw [c64] at b64
        obtain ⟨i0, i1, i2, i3, i4, i5, i6⟩ := HI.out.cells
        go_wp2_with fail
        refine (rInt_any WX r a c b p1 e2 HI.out.rd.1).mono ?_
        rintro e3 w3 ⟨rfl, hr3⟩
        have HG3 : Hid (getI b p e = ((op, unfold (rdUpto b p1 e2 18446744073709551615).1), (rdUpto b p1 e2 18446744073709551615).2.1, if unfold (rdUpto b p1 e2 18446744073709551615).1 = 0 then failE (rdUpto b p1 e2 18446744073709551615).2.2 11 else (rdUpto b p1 e2 18446744073709551615).2.2)) := by rw [HG.out]; unfold getT; rw [if_pos (by simpa using c64)]; rw [HOp.out]; rfl
        have HI3 : Hid (IG w w3 r a c b (rdUpto b p1 e2 18446744073709551615).2.1 (rdUpto b p1 e2 18446744073709551615).2.2 B4 op 0) := HI.out.step hr3
        clear hr3 HI HG i0 i1 i2 i3 i4 i5 i6
        generalize (rdUpto b p1 e2 18446744073709551615).2.1 = p3 at *
        generalize (rdUpto b p1 e2 18446744073709551615).2.2 = e3 at *
        generalize unfold (rdUpto b p1 e2 18446744073709551615).1 = A at *
        obtain ⟨i0, i1, i2, i3, i4, i5, i6⟩ := HI3.out.cells
        have HI4 : Hid (IG w (w3.setCell ⟨B4, 1, none⟩ (.int .i64 A)) r a c b p3 e3 B4 op A) := HI3.out.setA HR.out A
        by_cases hA : A = 0
        · have hA' : (A == 0) = true := by simpa using hA
          have HE0 : Hid (getI b p e = ((op, A), p3, failE e3 11)) := by rw [HG3.out, if_pos hA]; rfl
          clear HG3 hA
          go_wp2_with fail
          generalize w3.setCell ⟨B4, 1, none⟩ (.int .i64 A) = W4 at *
          clear i0 i1 i2 i3 i4 i5 i6
          refine (rFail_any W4 r a c b p3 e3 11 HI4.out.rd.1).mono ?_
          rintro e5 WX ⟨rfl, hr5⟩
          have HI : Hid (IG w WX r a c b p3 (failE e3 11) B4 op A) := HI4.out.step hr5
          have HE : Hid (getI b p e = ((op, A), p3, failE e3 11)) := HE0
          clear hr5 HI4 HI3 HE0
          obtain ⟨i0, i1, i2, i3, i4, i5, i6⟩ := HI.out.cells
          obtain ⟨hrd, hld⟩ := HI.out.fin HR.out
          have HF : Hid (Reads w r a c b (getI b p e).2.1 (getI b p e).2.2 ((WX.setCell ⟨w.heap.size, 0, none⟩ (.int .i64 op)).setCell ⟨w.heap.size, 1, none⟩ (.int .i64 A))) := by rw [HE.out]; exact hrd
          have HK : Hid ((getI b p e).1 = (op, A)) := by rw [HE.out]; rfl
          have HLd : Hid ((loadVar 87 ⟨w.heap.size, 0, none⟩).run Tryd.prog ((WX.setCell ⟨w.heap.size, 0, none⟩ (.int .i64 op)).setCell ⟨w.heap.size, 1, none⟩ (.int .i64 A)) = .ok (.agg #[.int .i64 op, .int .i64 A]) ((WX.setCell ⟨w.heap.size, 0, none⟩ (.int .i64 op)).setCell ⟨w.heap.size, 1, none⟩ (.int .i64 A))) := hld
          clear HE hrd hld
          go_wp2
          refine bodyPost_ret (v := .agg #[.int .i64 op, .int .i64 A]) ?_ rfl ⟨by rw [HK.out], HF.out⟩
          simp [results, Tryd.results65, asAddr, HLd.out]
        · have hA' : (A == 0) = false := by simpa using hA
          have HE : Hid (getI b p e = ((op, A), p3, e3)) := by rw [HG3.out, if_neg hA]; rfl
          have HI : Hid (IG w (w3.setCell ⟨B4, 1, none⟩ (.int .i64 A)) r a c b p3 e3 B4 op A) := HI4
          clear HG3 hA HI4
          obtain ⟨j0, j1, j2, j3, j4, j5, j6⟩ := HI.out.cells
          obtain ⟨hrd, hld⟩ := HI.out.fin HR.out
          have HF : Hid (Reads w r a c b (getI b p e).2.1 (getI b p e).2.2 (((w3.setCell ⟨B4, 1, none⟩ (.int .i64 A)).setCell ⟨w.heap.size, 0, none⟩ (.int .i64 op)).setCell ⟨w.heap.size, 1, none⟩ (.int .i64 A))) := by rw [HE.out]; exact hrd
          have HK : Hid ((getI b p e).1 = (op, A)) := by rw [HE.out]; rfl
          have HLd : Hid ((loadVar 87 ⟨w.heap.size, 0, none⟩).run Tryd.prog (((w3.setCell ⟨B4, 1, none⟩ (.int .i64 A)).setCell ⟨w.heap.size, 0, none⟩ (.int .i64 op)).setCell ⟨w.heap.size, 1, none⟩ (.int .i64 A)) = .ok (.agg #[.int .i64 op, .int .i64 A]) (((w3.setCell ⟨B4, 1, none⟩ (.int .i64 A)).setCell ⟨w.heap.size, 0, none⟩ (.int .i64 op)).setCell ⟨w.heap.size, 1, none⟩ (.int .i64 A))) := hld
          clear HE hrd hld
          go_wp2
          refine bodyPost_ret (v := .agg #[.int .i64 op, .int .i64 A]) ?_ rfl ⟨by rw [HK.out], HF.out⟩
          simp [results, Tryd.results65, asAddr, HLd.out]
  | false =>
    have he : e2 = failE e1 31 := by rw [HE2.out, if_pos (by exact .inl ho)]
    have HI0' : Hid (IG w WX r a c b p1 e1 B4 op 0) := HI0
    obtain ⟨i0, i1, i2, i3, i4, i5, i6⟩ := HI0'.out.cells
    go_wp2_with fail
    refine (rFail_any WX r a c b p1 e1 31 HI0'.out.rd.1).mono ?_
    rintro e5 WX ⟨rfl, hr5⟩
    have HI : Hid (IG w WX r a c b p1 e2 B4 op 0) := by rw [he]; exact HI0'.out.step hr5
    clear hr5 HI0' HI0 HE2 he i0 i1 i2 i3 i4 i5 i6
    cases c64 : decide (z / 64 % 2 = 1) with
    | false =>
      have HE : Hid (getI b p e = ((op, 0), p1, e2)) := by rw [HG.out]; unfold getT; rw [if_neg (by simpa using c64)]; rw [HOp.out]; rfl
      rw [c64] at b64
      clear HG
      obtain ⟨i0, i1, i2, i3, i4, i5, i6⟩ := HI.out.cells
      obtain ⟨hrd, hld⟩ := HI.out.fin HR.out
      have HF : Hid (Reads w r a c b (getI b p e).2.1 (getI b p e).2.2 ((WX.setCell ⟨w.heap.size, 0, none⟩ (.int .i64 op)).setCell ⟨w.heap.size, 1, none⟩ (.int .i64 0))) := by rw [HE.out]; exact hrd
      have HK : Hid ((getI b p e).1 = (op, 0)) := by rw [HE.out]; rfl
      have HLd : Hid ((loadVar 87 ⟨w.heap.size, 0, none⟩).run Tryd.prog ((WX.setCell ⟨w.heap.size, 0, none⟩ (.int .i64 op)).setCell ⟨w.heap.size, 1, none⟩ (.int .i64 0)) = .ok (.agg #[.int .i64 op, .int .i64 0]) ((WX.setCell ⟨w.heap.size, 0, none⟩ (.int .i64 op)).setCell ⟨w.heap.size, 1, none⟩ (.int .i64 0))) := hld
      clear HE hrd hld
      go_wp2
      refine bodyPost_ret (v := .agg #[.int .i64 op, .int .i64 0]) ?_ rfl ⟨by rw [HK.out], HF.out⟩
      simp [results, Tryd.results65, asAddr, HLd.out]
    | true =>
      rw [c64] at b64
      obtain ⟨i0, i1, i2, i3, i4, i5, i6⟩ := HI.out.cells
      go_wp2_with fail
      refine (rInt_any WX r a c b p1 e2 HI.out.rd.1).mono ?_
      rintro e3 w3 ⟨rfl, hr3⟩
      have HG3 : Hid (getI b p e = ((op, unfold (rdUpto b p1 e2 18446744073709551615).1), (rdUpto b p1 e2 18446744073709551615).2.1, if unfold (rdUpto b p1 e2 18446744073709551615).1 = 0 then failE (rdUpto b p1 e2 18446744073709551615).2.2 11 else (rdUpto b p1 e2 18446744073709551615).2.2)) := by rw [HG.out]; unfold getT; rw [if_pos (by simpa using c64)]; rw [HOp.out]; rfl
      have HI3 : Hid (IG w w3 r a c b (rdUpto b p1 e2 18446744073709551615).2.1 (rdUpto b p1 e2 18446744073709551615).2.2 B4 op 0) := HI.out.step hr3
      clear hr3 HI HG i0 i1 i2 i3 i4 i5 i6
      generalize (rdUpto b p1 e2 18446744073709551615).2.1 = p3 at *
      generalize (rdUpto b p1 e2 18446744073709551615).2.2 = e3 at *
      generalize unfold (rdUpto b p1 e2 18446744073709551615).1 = A at *
      obtain ⟨i0, i1, i2, i3, i4, i5, i6⟩ := HI3.out.cells
      have HI4 : Hid (IG w (w3.setCell ⟨B4, 1, none⟩ (.int .i64 A)) r a c b p3 e3 B4 op A) := HI3.out.setA HR.out A
      by_cases hA : A = 0
      · have hA' : (A == 0) = true := by simpa using hA
        have HE0 : Hid (getI b p e = ((op, A), p3, failE e3 11)) := by rw [HG3.out, if_pos hA]; rfl
        clear HG3 hA
        go_wp2_with fail
        generalize w3.setCell ⟨B4, 1, none⟩ (.int .i64 A) = W4 at *
        clear i0 i1 i2 i3 i4 i5 i6
        refine (rFail_any W4 r a c b p3 e3 11 HI4.out.rd.1).mono ?_
        rintro e5 WX ⟨rfl, hr5⟩
        have HI : Hid (IG w WX r a c b p3 (failE e3 11) B4 op A) := HI4.out.step hr5
        have HE : Hid (getI b p e = ((op, A), p3, failE e3 11)) := HE0
        clear hr5 HI4 HI3 HE0
        obtain ⟨i0, i1, i2, i3, i4, i5, i6⟩ := HI.out.cells
        obtain ⟨hrd, hld⟩ := HI.out.fin HR.out
        have HF : Hid (Reads w r a c b (getI b p e).2.1 (getI b p e).2.2 ((WX.setCell ⟨w.heap.size, 0, none⟩ (.int .i64 op)).setCell ⟨w.heap.size, 1, none⟩ (.int .i64 A))) := by rw [HE.out]; exact hrd
        have HK : Hid ((getI b p e).1 = (op, A)) := by rw [HE.out]; rfl
        have HLd : Hid ((loadVar 87 ⟨w.heap.size, 0, none⟩).run Tryd.prog ((WX.setCell ⟨w.heap.size, 0, none⟩ (.int .i64 op)).setCell ⟨w.heap.size, 1, none⟩ (.int .i64 A)) = .ok (.agg #[.int .i64 op, .int .i64 A]) ((WX.setCell ⟨w.heap.size, 0, none⟩ (.int .i64 op)).setCell ⟨w.heap.size, 1, none⟩ (.int .i64 A))) := hld
        clear HE hrd hld
        go_wp2
        refine bodyPost_ret (v := .agg #[.int .i64 op, .int .i64 A]) ?_ rfl ⟨by rw [HK.out], HF.out⟩
        simp [results, Tryd.results65, asAddr, HLd.out]
      · have hA' : (A == 0) = false := by simpa using hA
        have HE : Hid (getI b p e = ((op, A), p3, e3)) := by rw [HG3.out, if_neg hA]; rfl
        have HI : Hid (IG w (w3.setCell ⟨B4, 1, none⟩ (.int .i64 A)) r a c b p3 e3 B4 op A) := HI4
        clear HG3 hA HI4
        obtain ⟨j0, j1, j2, j3, j4, j5, j6⟩ := HI.out.cells
        obtain ⟨hrd, hld⟩ := HI.out.fin HR.out
        have HF : Hid (Reads w r a c b (getI b p e).2.1 (getI b p e).2.2 (((w3.setCell ⟨B4, 1, none⟩ (.int .i64 A)).setCell ⟨w.heap.size, 0, none⟩ (.int .i64 op)).setCell ⟨w.heap.size, 1, none⟩ (.int .i64 A))) := by rw [HE.out]; exact hrd
        have HK : Hid ((getI b p e).1 = (op, A)) := by rw [HE.out]; rfl
        have HLd : Hid ((loadVar 87 ⟨w.heap.size, 0, none⟩).run Tryd.prog (((w3.setCell ⟨B4, 1, none⟩ (.int .i64 A)).setCell ⟨w.heap.size, 0, none⟩ (.int .i64 op)).setCell ⟨w.heap.size, 1, none⟩ (.int .i64 A)) = .ok (.agg #[.int .i64 op, .int .i64 A]) (((w3.setCell ⟨B4, 1, none⟩ (.int .i64 A)).setCell ⟨w.heap.size, 0, none⟩ (.int .i64 op)).setCell ⟨w.heap.size, 1, none⟩ (.int .i64 A))) := hld
        clear HE hrd hld
        go_wp2
        refine bodyPost_ret (v := .agg #[.int .i64 op, .int .i64 A]) ?_ rfl ⟨by rw [HK.out], HF.out⟩
        simp [results, Tryd.results65, asAddr, HLd.out]
end Go.Proofs.YtkjmeknaedapjaaDoor
/-
  THE WALK OF Get.
-/
namespace Go.Proofs.YtkjmeknaedapjaaDoor
open Go.RowKit Go.Sort

/-- k instructions one behind the other -/
def getL (b : List Nat) (p : Nat) (e : Int) : Nat → List K × Nat × Int
  | 0 => ([], p, e)
  | k + 1 => ((getL b p e k).1 ++ [(getI b (getL b p e k).2.1 (getL b p e k).2.2).1], (getI b (getL b p e k).2.1 (getL b p e k).2.2).2.1, (getI b (getL b p e k).2.1 (getL b p e k).2.2).2.2)
theorem getL_length (b : List Nat) (p : Nat) (e : Int) : ∀ k, (getL b p e k).1.length = k
  | 0 => rfl
  | k + 1 => by simp [getL, getL_length b p e k]
/-- the five numbers ahead -/
def getH (b : List Nat) (p : Nat) (e : Int) : Nums × Nat × Nat × Int :=
  let x0 := rdUpto b p e 16
  let x1 := rdUpto b x0.2.1 x0.2.2 16
  let x2 := rdUpto b x1.2.1 x1.2.2 16
  let x3 := rdUpto b x2.2.1 x2.2.2 16
  let x4 := rdUpto b x3.2.1 x3.2.2 256
  (⟨x0.1, x1.1, x2.1, x3.1⟩, x4.1, x4.2.1, x4.2.2)
/-- a program, the place behind it, the error -/
def getP (b : List Nat) (p : Nat) (e : Int) : Nums × List K × Nat × Int :=
  let h := getH b p e
  let l := getL b h.2.2.1 h.2.2.2 h.2.1
  if l.2.2 = 0 then (h.1, l.1, l.2.1, l.2.2) else (⟨0, 0, 0, 0⟩, [], l.2.1, l.2.2)
theorem rdUpto_most (b : List Nat) (p : Nat) (e : Int) (most : Nat) : (rdUpto b p e most).1 ≤ most := by
  unfold rdUpto
  repeat' split
  all_goals (try simp)
  all_goals omega
/-- what stands while a program is read -/
structure GT (w W : World) (r : Nat) (a : Option Addr) (c : Nat) (b : List Nat) (p' : Nat) (e' : Int) (B3 : Nat) (q : Nums) (av : Option Addr) (cv : Nat) (M : List K) : Prop where
  rd : Reads w r a c b p' e' W
  b2 : PBox W w.heap.size ⟨0, 0, 0, 0⟩ none 0 0
  b3 : PBox W B3 q av M.length cv
  own : OwnK W (B3 + 1) (.slice av M.length cv) M
  r2 : r < w.heap.size
  l3 : w.heap.size < B3
theorem GT.step {w W W' : World} {r : Nat} {a : Option Addr} {c : Nat} {b : List Nat} {p' p2 : Nat} {e' e2 : Int} {B3 : Nat} {q : Nums} {av : Option Addr} {cv : Nat} {M : List K} (h : GT w W r a c b p' e' B3 q av cv M) (hr : Reads W r a c b p2 e2 W') : GT w W' r a c b p2 e2 B3 q av cv M := by
  have hr2 := h.r2
  have hl3 := h.l3
  exact ⟨h.rd.trans hr, (hr.2.block _ h.b2.lt (fun e => by simp at e; omega)).trans h.b2, (hr.2.block _ h.b3.lt (fun e => by simp at e; omega)).trans h.b3, h.own.same fun g hg => hr.2.block g (h.own.lt g hg).2 (fun e => by have := (h.own.lt g hg).1; simp at e; omega), h.r2, h.l3⟩
theorem GT.kept {w W W' : World} {r : Nat} {a : Option Addr} {c : Nat} {b : List Nat} {p' : Nat} {e' : Int} {B3 : Nat} {q : Nums} {av : Option Addr} {cv : Nat} {M : List K} (h : GT w W r a c b p' e' B3 q av cv M) (hb : Below W.heap.size W W') : GT w W' r a c b p' e' B3 q av cv M :=
  ⟨h.rd.kept hb, h.b2.kept hb, h.b3.kept hb, h.own.kept hb, h.r2, h.l3⟩
/-- behind the append and the store -/
theorem GT.put {w W W' : World} {r : Nat} {a : Option Addr} {c : Nat} {b : List Nat} {p' p0 : Nat} {e' e0 : Int} {B3 : Nat} {q : Nums} {av av' : Option Addr} {cv cv' : Nat} {M M' : List K} (h : GT w W r a c b p' e' B3 q av cv M) (h0 : IsReader w r a c b p0 e0)
    (ho : OwnK W' (B3 + 1) (.slice av' M'.length cv') M') (hg : W.grownBy W' (Value.slice av M.length cv).ownBlock) : GT w (W'.setCell ⟨B3, 4, none⟩ (.slice av' M'.length cv')) r a c b p' e' B3 q av' cv' M' := by
  have hl3 := h.l3
  have hr2 := h.r2
  have hown : ∀ k, (Value.slice av M.length cv).ownBlock = some k → B3 + 1 ≤ k := fun k hk => (h.own.lt k hk).1
  have hrd : Reads w r a c b p' e' W' := by
    refine ⟨h.rd.1.grown hg (fun e => ?_) ?_, ?_⟩
    · have := hown r e.symm; omega
    · by_cases hn : (Value.slice a b.length c).ownBlock = none
      · exact .inl hn
      · refine .inr fun e => ?_
        cases hk : (Value.slice a b.length c).ownBlock with
        | none => exact hn hk
        | some k =>
          have h1 := (h0.2.1.2.lt k hk).2
          rw [hk] at e
          have := hown k e.symm
          omega
    · exact ⟨hg.os.trans h.rd.2.os, hg.tape.trans h.rd.2.tape, hg.output.trans h.rd.2.output, Nat.le_trans h.rd.2.size hg.size, fun k hk hr => by
        rw [hg.block k (Nat.lt_of_lt_of_le hk h.rd.2.size) (fun e => by have := hown k e.symm; omega), h.rd.2.block k hk hr]⟩
  have hb2 : PBox W' w.heap.size ⟨0, 0, 0, 0⟩ none 0 0 := (hg.block _ h.b2.lt (fun e => by have := hown _ e.symm; omega)).trans h.b2
  have hb3 : PBox W' B3 q av M.length cv := (hg.block _ h.b3.lt (fun e => by have := hown _ e.symm; omega)).trans h.b3
  refine ⟨hrd.setNew h0 B3 4 _ (by omega), (heap_setCell_other W' ⟨B3, 4, none⟩ w.heap.size _ (by simp; omega)).trans hb2, ?_, ho.same (fun g hg' => heap_setCell_other W' ⟨B3, 4, none⟩ g _ (by have := (ho.lt g hg').1; simp; omega)), h.r2, h.l3⟩
  have := heap_setCell_same W' B3 4 _ _ (.slice av' M'.length cv') hb3
  unfold PBox
  rw [this]; rfl
theorem GT.fin {w W : World} {r : Nat} {a : Option Addr} {c : Nat} {b : List Nat} {p' p0 : Nat} {e' e0 : Int} {B3 : Nat} {q : Nums} {av : Option Addr} {cv : Nat} {M : List K} (h : GT w W r a c b p' e' B3 q av cv M) (h0 : IsReader w r a c b p0 e0) (x0 x1 x2 x3 : Int) (ao : Option Addr) (n cap : Nat) :
    Reads w r a c b p' e' (((((W.setCell ⟨w.heap.size, 0, none⟩ (.int .i64 x0)).setCell ⟨w.heap.size, 1, none⟩ (.int .i64 x1)).setCell ⟨w.heap.size, 2, none⟩ (.int .i64 x2)).setCell ⟨w.heap.size, 3, none⟩ (.int .i64 x3)).setCell ⟨w.heap.size, 4, none⟩ (.slice ao n cap)) ∧ OwnK (((((W.setCell ⟨w.heap.size, 0, none⟩ (.int .i64 x0)).setCell ⟨w.heap.size, 1, none⟩ (.int .i64 x1)).setCell ⟨w.heap.size, 2, none⟩ (.int .i64 x2)).setCell ⟨w.heap.size, 3, none⟩ (.int .i64 x3)).setCell ⟨w.heap.size, 4, none⟩ (.slice ao n cap)) (B3 + 1) (.slice av M.length cv) M ∧
    (loadVar 41 ⟨w.heap.size, 0, none⟩).run Tryd.prog (((((W.setCell ⟨w.heap.size, 0, none⟩ (.int .i64 x0)).setCell ⟨w.heap.size, 1, none⟩ (.int .i64 x1)).setCell ⟨w.heap.size, 2, none⟩ (.int .i64 x2)).setCell ⟨w.heap.size, 3, none⟩ (.int .i64 x3)).setCell ⟨w.heap.size, 4, none⟩ (.slice ao n cap)) = .ok (.agg #[.int .i64 x0, .int .i64 x1, .int .i64 x2, .int .i64 x3, .slice ao n cap]) (((((W.setCell ⟨w.heap.size, 0, none⟩ (.int .i64 x0)).setCell ⟨w.heap.size, 1, none⟩ (.int .i64 x1)).setCell ⟨w.heap.size, 2, none⟩ (.int .i64 x2)).setCell ⟨w.heap.size, 3, none⟩ (.int .i64 x3)).setCell ⟨w.heap.size, 4, none⟩ (.slice ao n cap)) := by
  have h1 := heap_setCell_same W w.heap.size 0 _ _ (.int .i64 x0) h.b2
  have h2 := heap_setCell_same _ w.heap.size 1 _ _ (.int .i64 x1) h1
  have h3 := heap_setCell_same _ w.heap.size 2 _ _ (.int .i64 x2) h2
  have h4 := heap_setCell_same _ w.heap.size 3 _ _ (.int .i64 x3) h3
  have h5 := heap_setCell_same _ w.heap.size 4 _ _ (.slice ao n cap) h4
  have hr := ((((h.rd.setNew h0 w.heap.size 0 (.int .i64 x0) (Nat.le_refl _)).setNew h0 w.heap.size 1 (.int .i64 x1) (Nat.le_refl _)).setNew h0 w.heap.size 2 (.int .i64 x2) (Nat.le_refl _)).setNew h0 w.heap.size 3 (.int .i64 x3) (Nat.le_refl _)).setNew h0 w.heap.size 4 (.slice ao n cap) (Nat.le_refl _)
  have hl3 := h.l3
  have ho : ∀ g, g ≠ w.heap.size → (((((W.setCell ⟨w.heap.size, 0, none⟩ (.int .i64 x0)).setCell ⟨w.heap.size, 1, none⟩ (.int .i64 x1)).setCell ⟨w.heap.size, 2, none⟩ (.int .i64 x2)).setCell ⟨w.heap.size, 3, none⟩ (.int .i64 x3)).setCell ⟨w.heap.size, 4, none⟩ (.slice ao n cap)).heap[g]? = W.heap[g]? := fun g hg => by
    rw [heap_setCell_other _ ⟨w.heap.size, 4, none⟩ g _ hg, heap_setCell_other _ ⟨w.heap.size, 3, none⟩ g _ hg, heap_setCell_other _ ⟨w.heap.size, 2, none⟩ g _ hg, heap_setCell_other _ ⟨w.heap.size, 1, none⟩ g _ hg, heap_setCell_other _ ⟨w.heap.size, 0, none⟩ g _ hg]
  refine ⟨hr, h.own.same (fun g hg => ho g (by have := (h.own.lt g hg).1; omega)), ?_⟩
  refine run_loadVar_mid (P := Tryd.prog) _ w.heap.size 0 41 [.int .i64 x0, .int .i64 x1, .int .i64 x2, .int .i64 x3, .slice ao n cap] _ ?_ Tryd.underlying41 rfl (by kernel_rfl)
  intro j v hv
  simp only [World.cell?, h5, Nat.zero_add]
  simpa using hv
def GPost (w : World) (r : Nat) (a : Option Addr) (c : Nat) (b : List Nat) (p : Nat) (e : Int) (e' : Ending) (W : World) : Prop :=
  ∃ ao cap, e' = .returned (pv (getP b p e).1 ao (getP b p e).2.1.length cap) ∧ OwnK W w.heap.size (.slice ao (getP b p e).2.1.length cap) (getP b p e).2.1 ∧ Reads w r a c b (getP b p e).2.2.1 (getP b p e).2.2.2 W

set_option maxRecDepth 100000 in
set_option maxHeartbeats 2000000 in
theorem get_any (w : World) (r : Nat) (a : Option Addr) (c : Nat) (b : List Nat) (p : Nat) (e : Int) (h : IsReader w r a c b p e) :
    Calls Tryd.prog 41 #[.pointer (some ⟨r, 0, none⟩)] w fun e' w' => GPost w r a c b p e e' w' := by
  have HR : Hid (IsReader w r a c b p e) := h
  clear h
  obtain ⟨H, hH⟩ : ∃ H, H = getH b p e := ⟨_, rfl⟩
  have HP : Hid (getP b p e = (if (getL b H.2.2.1 H.2.2.2 H.2.1).2.2 = 0 then (H.1, (getL b H.2.2.1 H.2.2.2 H.2.1).1, (getL b H.2.2.1 H.2.2.2 H.2.1).2.1, (getL b H.2.2.1 H.2.2.2 H.2.1).2.2) else (⟨0, 0, 0, 0⟩, [], (getL b H.2.2.1 H.2.2.2 H.2.1).2.1, (getL b H.2.2.1 H.2.2.2 H.2.1).2.2))) := by rw [hH]; rfl
  have HHd : Hid (H = getH b p e) := hH
  clear hH
  have HRA : Hid (Reads w r a c b p e (w.alloc (.cells #[.int .i64 0, .int .i64 0, .int .i64 0, .int .i64 0, .slice none 0 0] 41))) := Reads.alloc ⟨HR.out, World.grownBy.refl _ _⟩ _
  have HBA : Hid (PBox (w.alloc (.cells #[.int .i64 0, .int .i64 0, .int .i64 0, .int .i64 0, .slice none 0 0] 41)) w.heap.size ⟨0, 0, 0, 0⟩ none 0 0) := PBox.new w ⟨0, 0, 0, 0⟩ none 0 0
  go_enter Tryd.func41, Tryd.ntmps41
  obtain ⟨⟨n0, q0, f0⟩, hx0⟩ : ∃ x, x = rdUpto b p e 16 := ⟨_, rfl⟩
  have HX0 : Hid (rdUpto b p e 16 = (n0, q0, f0)) := hx0.symm
  have hn0 : n0 ≤ 16 := by have := rdUpto_most b p e 16; rw [HX0.out] at this; exact this
  clear hx0
  go_wp2_with fail
  refine (rUpto_any _ r a c b p e 16 HRA.out.1).mono ?_
  rintro e1 w1 ⟨rfl, hr1⟩
  rw [HX0.out] at hr1 ⊢
  have HRd1 : Hid (Reads w r a c b q0 f0 w1) := HRA.out.trans hr1
  have HBx1 : Hid (PBox w1 w.heap.size ⟨0, 0, 0, 0⟩ none 0 0) := (hr1.2.block _ HBA.out.lt (fun e => by have := HR.out.lt; simp at e; omega)).trans HBA.out
  clear hr1 HRA HBA
  obtain ⟨⟨n1, q1, f1⟩, hx1⟩ : ∃ x, x = rdUpto b q0 f0 16 := ⟨_, rfl⟩
  have HX1 : Hid (rdUpto b q0 f0 16 = (n1, q1, f1)) := hx1.symm
  have hn1 : n1 ≤ 16 := by have := rdUpto_most b q0 f0 16; rw [HX1.out] at this; exact this
  clear hx1
  go_wp2_with fail
  refine (rUpto_any w1 r a c b q0 f0 16 HRd1.out.1).mono ?_
  rintro e2 w2 ⟨rfl, hr2⟩
  rw [HX1.out] at hr2 ⊢
  have HRd2 : Hid (Reads w r a c b q1 f1 w2) := HRd1.out.trans hr2
  have HBx2 : Hid (PBox w2 w.heap.size ⟨0, 0, 0, 0⟩ none 0 0) := (hr2.2.block _ HBx1.out.lt (fun e => by have := HR.out.lt; simp at e; omega)).trans HBx1.out
  clear hr2 HRd1 HBx1
  obtain ⟨⟨n2, q2, f2⟩, hx2⟩ : ∃ x, x = rdUpto b q1 f1 16 := ⟨_, rfl⟩
  have HX2 : Hid (rdUpto b q1 f1 16 = (n2, q2, f2)) := hx2.symm
  have hn2 : n2 ≤ 16 := by have := rdUpto_most b q1 f1 16; rw [HX2.out] at this; exact this
  clear hx2
  go_wp2_with fail
  refine (rUpto_any w2 r a c b q1 f1 16 HRd2.out.1).mono ?_
  rintro e3 w3 ⟨rfl, hr3⟩
  rw [HX2.out] at hr3 ⊢
  have HRd3 : Hid (Reads w r a c b q2 f2 w3) := HRd2.out.trans hr3
  have HBx3 : Hid (PBox w3 w.heap.size ⟨0, 0, 0, 0⟩ none 0 0) := (hr3.2.block _ HBx2.out.lt (fun e => by have := HR.out.lt; simp at e; omega)).trans HBx2.out
  clear hr3 HRd2 HBx2
  obtain ⟨⟨n3, q3, f3⟩, hx3⟩ : ∃ x, x = rdUpto b q2 f2 16 := ⟨_, rfl⟩
  have HX3 : Hid (rdUpto b q2 f2 16 = (n3, q3, f3)) := hx3.symm
  have hn3 : n3 ≤ 16 := by have := rdUpto_most b q2 f2 16; rw [HX3.out] at this; exact this
  clear hx3
  go_wp2_with fail
  refine (rUpto_any w3 r a c b q2 f2 16 HRd3.out.1).mono ?_
  rintro e4 w4 ⟨rfl, hr4⟩
  rw [HX3.out] at hr4 ⊢
  have HRd4 : Hid (Reads w r a c b q3 f3 w4) := HRd3.out.trans hr4
  have HBx4 : Hid (PBox w4 w.heap.size ⟨0, 0, 0, 0⟩ none 0 0) := (hr4.2.block _ HBx3.out.lt (fun e => by have := HR.out.lt; simp at e; omega)).trans HBx3.out
  clear hr4 HRd3 HBx3
  obtain ⟨⟨n4, q4, f4⟩, hx4⟩ : ∃ x, x = rdUpto b q3 f3 256 := ⟨_, rfl⟩
  have HX4 : Hid (rdUpto b q3 f3 256 = (n4, q4, f4)) := hx4.symm
  have hn4 : n4 ≤ 256 := by have := rdUpto_most b q3 f3 256; rw [HX4.out] at this; exact this
  clear hx4
  have HG0 : Hid (GT w (w4.alloc (.cells #[.int .i64 (n0 : Int), .int .i64 (n1 : Int), .int .i64 (n2 : Int), .int .i64 (n3 : Int), .slice none 0 0] 41)) r a c b q3 f3 w4.heap.size ⟨n0, n1, n2, n3⟩ none 0 []) :=
    ⟨HRd4.out.alloc _, HBx4.out.kept ((Below.refl _ _).alloc (Nat.le_refl _) _), PBox.new w4 ⟨n0, n1, n2, n3⟩ none 0 0, OwnK.nil _ _, HR.out.lt, HBx4.out.lt⟩
  go_wp2_with fail
  generalize w4.alloc (.cells #[.int .i64 (n0 : Int), .int .i64 (n1 : Int), .int .i64 (n2 : Int), .int .i64 (n3 : Int), .slice none 0 0] 41) = W4 at *
  generalize w4.heap.size = B3 at *
  refine (rUpto_any W4 r a c b q3 f3 256 HG0.out.rd.1).mono ?_
  rintro e5 w5 ⟨rfl, hr5⟩
  rw [HX4.out] at hr5 ⊢
  have HG5 : Hid (GT w w5 r a c b q4 f4 B3 ⟨n0, n1, n2, n3⟩ none 0 []) := HG0.out.step hr5
  clear hr5 HG0 HRd4 HBx4
  have HHe : Hid (H = (⟨n0, n1, n2, n3⟩, n4, q4, f4)) := by
    show H = _
    rw [HHd.out]
    simp only [getH, HX0.out, HX1.out, HX2.out, HX3.out, HX4.out]
  rw [HHe.out] at HP
  clear HHd HHe HX0 HX1 HX2 HX3 HX4
  simp only at HP
  go_wp2_with fail
  go_loopw [19] (fun x wr => ∃ k : Nat, k ≤ n4 ∧ x = .int .u64 (k : Int) ∧ ∃ av cv, Hid (GT w wr r a c b (getL b q4 f4 k).2.1 (getL b q4 f4 k).2.2 B3 ⟨n0, n1, n2, n3⟩ av cv (getL b q4 f4 k).1)) (fun x _ => n4 - (intOf x).toNat)
  case atStart => exact ⟨0, Nat.zero_le _, rfl, none, 0, HG5⟩
  case round =>
    clear HG5
    obtain ⟨k, hk, rfl, av, cv, HT⟩ := hrel
    by_cases hlt : k < n4
    · have HL1 : Hid (getL b q4 f4 (k + 1) = ((getL b q4 f4 k).1 ++ [(getI b (getL b q4 f4 k).2.1 (getL b q4 f4 k).2.2).1], (getI b (getL b q4 f4 k).2.1 (getL b q4 f4 k).2.2).2.1, (getI b (getL b q4 f4 k).2.1 (getL b q4 f4 k).2.2).2.2)) := rfl
      have hln := getL_length b q4 f4 k
      generalize (getL b q4 f4 k).1 = M at *
      generalize (getL b q4 f4 k).2.1 = pk at *
      generalize (getL b q4 f4 k).2.2 = ek at *
      have HI : Hid (∀ W, IsReader W r a c b pk ek → Calls Tryd.prog 65 #[.pointer (some ⟨r, 0, none⟩)] W fun e' w' => e' = .returned (kv (getI b pk ek).1) ∧ Reads W r a c b (getI b pk ek).2.1 (getI b pk ek).2.2 w') := fun W h => getInstr_any W r a c b pk ek h
      generalize (getI b pk ek).2.1 = pn at *
      generalize (getI b pk ek).2.2 = en at *
      generalize (getI b pk ek).1 = kk at *
      obtain ⟨op, A⟩ := kk
      have HTd : Hid (GT w wr.drew r a c b pk ek B3 ⟨n0, n1, n2, n3⟩ av cv M) := HT.out.kept ⟨rfl, rfl, rfl, Nat.le_refl _, fun _ _ => rfl⟩
      have hM : M.length ≤ 256 := by omega
      have HLn : Hid (M.length = k) := hln
      clear hln
      obtain ⟨_, _, _, _, x4⟩ := HT.out.b3.cells
      obtain ⟨_, _, _, _, y4⟩ := HTd.out.b3.cells
      go_wp2_with fail
      go_region_law (first
        | (refine step_append_keys rfl _ _ rfl (B3 + 1) (.slice av M.length cv) M rfl (HT1.out.own.alloc _) _ _ _ [(op, A)] rfl rfl (key_src w1 _ op A rfl) (by simp) (by simp; omega) (by have := HT1.out.b3.lt; simp; omega) ?_; intro v2 w2 ho2 hg2 _; obtain ⟨a2, c2, hv2, _, _, _⟩ := ho2.slice; subst hv2; have HT2 : Hid (GT w (w2.setCell ⟨B3, 4, none⟩ (.slice a2 (M ++ [(op, A)]).length c2)) r a c b pn en B3 ⟨n0, n1, n2, n3⟩ a2 c2 (M ++ [(op, A)])) := (HT1.out.kept (show Below w1.heap.size w1 _ from (Below.refl _ _).alloc (Nat.le_refl _) _)).put HR.out ho2 hg2; have u4 : w2.cell? ⟨B3, 4, none⟩ = some (.slice av M.length cv) := hg2.cell (Grew.cell ((Grew.refl w1).alloc _) z4) (fun e => by have := (HT1.out.own.lt B3 e.symm).1; omega); have g4 : w2.frozen? ⟨B3, 4, none⟩ = false := (World.frozen?_of_block (hg2.block B3 (by have := HT1.out.b3.lt; simp; omega) (fun e => by have := (HT1.out.own.lt B3 e.symm).1; omega))).trans ((World.frozen?_of_block (heap_alloc_old _ _ HT1.out.b3.lt)).trans (frozen_of_row w1 B3 4 _ _ HT1.out.b3)); clear ho2 hg2)
        | (go_simp; go_at_call 65; go_loud (refine (HI.out wr.drew HTd.out.rd.1).mono ?_; rintro e1 w1 ⟨rfl, hr1⟩; have HT1 : Hid (GT w w1 r a c b pn en B3 ⟨n0, n1, n2, n3⟩ av cv M) := HTd.out.step hr1; have z4 : w1.cell? ⟨B3, 4, none⟩ = some (.slice av M.length cv) := HT1.out.b3.cells.2.2.2.2; have z4a : (w1.alloc (.cells #[.int .i64 op, .int .i64 A] 87)).cell? ⟨B3, 4, none⟩ = some (.slice av M.length cv) := Grew.cell ((Grew.refl w1).alloc _) z4; clear hr1)))
      all_goals
        have HT3 : Hid (GT w (w2.setCell ⟨B3, 4, none⟩ (.slice a2 (M.length + 1) c2)) r a c b pn en B3 ⟨n0, n1, n2, n3⟩ a2 c2 (M ++ [(op, A)])) := by
          have := HT2.out
          rw [show (M ++ [(op, A)]).length = M.length + 1 by simp] at this
          exact this
        clear HT2 HT1
        go_wp2
        go_roundw
        case rel => exact ⟨k + 1, by omega, by go_num, a2, c2, by rw [HL1.out]; exact HT3⟩
        case measure => simp [intOf]; omega
    · obtain rfl : k = n4 := by omega
      have hln := getL_length b q4 f4 k
      generalize (getL b q4 f4 k).1 = M at *
      generalize (getL b q4 f4 k).2.1 = pk at *
      generalize (getL b q4 f4 k).2.2 = ek at *
      have HLn : Hid (M.length = k) := hln
      clear hln
      obtain ⟨x0, x1, x2, x3, x4⟩ := HT.out.b3.cells
      obtain ⟨y0, y1, y2, y3, y4⟩ := HT.out.b2.cells
      have g0 := frozen_of_row wr w.heap.size 0 _ _ HT.out.b2
      have g1 := frozen_of_row wr w.heap.size 1 _ _ HT.out.b2
      have g2 := frozen_of_row wr w.heap.size 2 _ _ HT.out.b2
      have g3 := frozen_of_row wr w.heap.size 3 _ _ HT.out.b2
      have g4 := frozen_of_row wr w.heap.size 4 _ _ HT.out.b2
      simp only at x0 x1 x2 x3 x4 y0 y1 y2 y3 y4
      go_wp2_with fail
      refine (rErr_any wr r a c b pk ek HT.out.rd.1).mono ?_
      rintro e6 w6 ⟨rfl, rfl⟩
      by_cases he : ek = 0
      · have HPe : Hid (getP b p e = (⟨n0, n1, n2, n3⟩, M, pk, ek)) := by rw [HP.out, if_pos he]; rfl
        obtain ⟨hrd, hown, hld⟩ := HT.out.fin HR.out (n0 : Int) (n1 : Int) (n2 : Int) (n3 : Int) av M.length cv
        have HF : Hid (GPost w r a c b p e (.returned (pv ⟨n0, n1, n2, n3⟩ av M.length cv)) (((((w6.setCell ⟨w.heap.size, 0, none⟩ (.int .i64 (n0 : Int))).setCell ⟨w.heap.size, 1, none⟩ (.int .i64 (n1 : Int))).setCell ⟨w.heap.size, 2, none⟩ (.int .i64 (n2 : Int))).setCell ⟨w.heap.size, 3, none⟩ (.int .i64 (n3 : Int))).setCell ⟨w.heap.size, 4, none⟩ (.slice av M.length cv))) := by
          refine ⟨av, cv, ?_, ?_, ?_⟩
          · rw [HPe.out]
          · rw [HPe.out]; exact hown.mono (by have := HT.out.l3; omega)
          · rw [HPe.out]; exact hrd
        have HLd : Hid ((loadVar 41 ⟨w.heap.size, 0, none⟩).run Tryd.prog (((((w6.setCell ⟨w.heap.size, 0, none⟩ (.int .i64 (n0 : Int))).setCell ⟨w.heap.size, 1, none⟩ (.int .i64 (n1 : Int))).setCell ⟨w.heap.size, 2, none⟩ (.int .i64 (n2 : Int))).setCell ⟨w.heap.size, 3, none⟩ (.int .i64 (n3 : Int))).setCell ⟨w.heap.size, 4, none⟩ (.slice av M.length cv)) = .ok (.agg #[.int .i64 (n0 : Int), .int .i64 (n1 : Int), .int .i64 (n2 : Int), .int .i64 (n3 : Int), .slice av M.length cv]) (((((w6.setCell ⟨w.heap.size, 0, none⟩ (.int .i64 (n0 : Int))).setCell ⟨w.heap.size, 1, none⟩ (.int .i64 (n1 : Int))).setCell ⟨w.heap.size, 2, none⟩ (.int .i64 (n2 : Int))).setCell ⟨w.heap.size, 3, none⟩ (.int .i64 (n3 : Int))).setCell ⟨w.heap.size, 4, none⟩ (.slice av M.length cv))) := hld
        subst he
        clear hrd hown hld HP HPe
        go_wp2
        refine bodyPost_ret (v := .agg #[.int .i64 (n0 : Int), .int .i64 (n1 : Int), .int .i64 (n2 : Int), .int .i64 (n3 : Int), .slice av M.length cv]) ?_ rfl HF.out
        simp [results, Tryd.results41, asAddr, HLd.out]
      · have he' : (ek != 0) = true := by simpa using he
        have HPe : Hid (getP b p e = (⟨0, 0, 0, 0⟩, [], pk, ek)) := by rw [HP.out, if_neg he]; rfl
        obtain ⟨hrd, hown, hld⟩ := HT.out.fin HR.out 0 0 0 0 none 0 0
        have HF : Hid (GPost w r a c b p e (.returned (pv ⟨0, 0, 0, 0⟩ none 0 0)) (((((w6.setCell ⟨w.heap.size, 0, none⟩ (.int .i64 0)).setCell ⟨w.heap.size, 1, none⟩ (.int .i64 0)).setCell ⟨w.heap.size, 2, none⟩ (.int .i64 0)).setCell ⟨w.heap.size, 3, none⟩ (.int .i64 0)).setCell ⟨w.heap.size, 4, none⟩ (.slice none 0 0))) := by
          refine ⟨none, 0, ?_, ?_, ?_⟩
          · rw [HPe.out]; rfl
          · rw [HPe.out]; exact OwnK.nil _ _
          · rw [HPe.out]; exact hrd
        have HLd : Hid ((loadVar 41 ⟨w.heap.size, 0, none⟩).run Tryd.prog (((((w6.setCell ⟨w.heap.size, 0, none⟩ (.int .i64 0)).setCell ⟨w.heap.size, 1, none⟩ (.int .i64 0)).setCell ⟨w.heap.size, 2, none⟩ (.int .i64 0)).setCell ⟨w.heap.size, 3, none⟩ (.int .i64 0)).setCell ⟨w.heap.size, 4, none⟩ (.slice none 0 0)) = .ok (.agg #[.int .i64 0, .int .i64 0, .int .i64 0, .int .i64 0, .slice none 0 0]) (((((w6.setCell ⟨w.heap.size, 0, none⟩ (.int .i64 0)).setCell ⟨w.heap.size, 1, none⟩ (.int .i64 0)).setCell ⟨w.heap.size, 2, none⟩ (.int .i64 0)).setCell ⟨w.heap.size, 3, none⟩ (.int .i64 0)).setCell ⟨w.heap.size, 4, none⟩ (.slice none 0 0))) := hld
        clear hrd hown hld HP HPe he
        go_wp2
        refine bodyPost_ret (v := .agg #[.int .i64 0, .int .i64 0, .int .i64 0, .int .i64 0, .slice none 0 0]) ?_ rfl HF.out
        simp [results, Tryd.results41, asAddr, HLd.out]
end Go.Proofs.YtkjmeknaedapjaaDoor
