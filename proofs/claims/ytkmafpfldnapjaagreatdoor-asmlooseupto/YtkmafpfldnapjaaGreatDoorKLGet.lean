import Derived.Test.YtkmafpfldnapjaaGreatDoorKRaw
import Derived.Test.YtkmafpfldnapjaaGreatDoorKLSearch
import Derived.Deep.DeepCutAuto
import Derived.Deep.MidRow
/-
  THE WALKS OF getInstr, Get.
-/
namespace Go.Proofs.YtkmafpfldnapjaaGreatDoor
open Go.RowKit Go.Sort

theorem and63 : ∀ z : Nat, z < 256 → bits .and .u8 (z : Int) 63 = (z : Int) % 64 := by decide +kernel
theorem and128 : ∀ z : Nat, z < 256 → (bits .and .u8 (z : Int) 128 != 0) = decide (128 ≤ z) := by decide +kernel
theorem and64 : ∀ z : Nat, z < 256 → (bits .and .u8 (z : Int) 64 != 0) = decide (z / 64 % 2 = 1) := by decide +kernel
/-- what Fail leaves -/
def failE (e x : Int) : Int := if e = 0 then x else e
/-- the error behind an instruction's byte -/
def getE2 (z : Nat) (e : Int) : Int := if isOpB ((z : Int) % 64) = false ∨ 128 ≤ z then failE e 31 else e
/-- what follows its byte -/
def getT (b : List Nat) (z p : Nat) (e : Int) : K × Nat × Int :=
  if z / 64 % 2 = 1 then (((z : Int) % 64, unfold (rdUpto b p e 18446744073709551615).1), (rdUpto b p e 18446744073709551615).2.1, if unfold (rdUpto b p e 18446744073709551615).1 = 0 then failE (rdUpto b p e 18446744073709551615).2.2 11 else (rdUpto b p e 18446744073709551615).2.2)
  else (((z : Int) % 64, 0), p, e)
/-- an instruction, the place behind it, the error -/
def getI (b : List Nat) (p : Nat) (e : Int) : K × Nat × Int := getT b (rdByte b p e).1 (rdByte b p e).2.1 (getE2 (rdByte b p e).1 (rdByte b p e).2.2)
theorem rdByte_lt {b : List Nat} (hz : ∀ z ∈ b, z < 256) (p : Nat) (e : Int) : (rdByte b p e).1 < 256 := by
  unfold rdByte
  split
  · simp
  · split
    · simp
    · exact getD_lt hz p
/-- what stands while an instruction is read -/
structure IG (w W : World) (r : Nat) (a : Option Addr) (c : Nat) (b : List Nat) (p' : Nat) (e' : Int) (B4 : Nat) (op A : Int) : Prop where
  rd : Reads w r a c b p' e' W
  b2 : W.heap[w.heap.size]? = some (.cells #[.int .i64 0, .int .i64 0] 91 (0, 0))
  b4 : W.heap[B4]? = some (.cells #[.int .i64 op, .int .i64 A] 91 (0, 0))
  r2 : r < w.heap.size
  l4 : w.heap.size < B4
theorem IG.step {w W W' : World} {r : Nat} {a : Option Addr} {c : Nat} {b : List Nat} {p' p2 : Nat} {e' e2 : Int} {B4 : Nat} {op A : Int} (h : IG w W r a c b p' e' B4 op A) (hr : Reads W r a c b p2 e2 W') : IG w W' r a c b p2 e2 B4 op A := by
  have h1 := (Array.getElem?_eq_some_iff.1 h.b2).1
  have h2 := (Array.getElem?_eq_some_iff.1 h.b4).1
  exact ⟨h.rd.trans hr, (hr.2.block _ h1 (fun e => by have := h.r2; simp at e; omega)).trans h.b2, (hr.2.block _ h2 (fun e => by have := h.r2; have := h.l4; simp at e; omega)).trans h.b4, h.r2, h.l4⟩
theorem IG.cells {w W : World} {r : Nat} {a : Option Addr} {c : Nat} {b : List Nat} {p' : Nat} {e' : Int} {B4 : Nat} {op A : Int} (h : IG w W r a c b p' e' B4 op A) : W.cell? ⟨w.heap.size, 0, none⟩ = some (.int .i64 0) ∧ W.cell? ⟨w.heap.size, 1, none⟩ = some (.int .i64 0) ∧ W.cell? ⟨B4, 0, none⟩ = some (.int .i64 op) ∧ W.cell? ⟨B4, 1, none⟩ = some (.int .i64 A) ∧
    W.frozen? ⟨w.heap.size, 0, none⟩ = false ∧ W.frozen? ⟨w.heap.size, 1, none⟩ = false ∧ W.frozen? ⟨B4, 1, none⟩ = false := by
  refine ⟨?_, ?_, ?_, ?_, frozen_of_row W _ 0 _ _ h.b2, frozen_of_row W _ 1 _ _ h.b2, frozen_of_row W _ 1 _ _ h.b4⟩ <;> simp [World.cell?, h.b2, h.b4]
theorem IG.setA {w W : World} {r : Nat} {a : Option Addr} {c : Nat} {b : List Nat} {p' p0 : Nat} {e' e0 : Int} {B4 : Nat} {op A : Int} (h : IG w W r a c b p' e' B4 op A) (h0 : IsReader w r a c b p0 e0) (A' : Int) : IG w (W.setCell ⟨B4, 1, none⟩ (.int .i64 A')) r a c b p' e' B4 op A' := by
  refine ⟨h.rd.setNew h0 B4 1 _ (Nat.le_of_lt h.l4), ?_, ?_, h.r2, h.l4⟩
  · exact (heap_setCell_other W ⟨B4, 1, none⟩ w.heap.size _ (by have := h.l4; simp; omega)).trans h.b2
  · have := heap_setCell_same W B4 1 _ _ (.int .i64 A') h.b4
    simpa using this
theorem IG.fin {w W : World} {r : Nat} {a : Option Addr} {c : Nat} {b : List Nat} {p' p0 : Nat} {e' e0 : Int} {B4 : Nat} {op A : Int} (h : IG w W r a c b p' e' B4 op A) (h0 : IsReader w r a c b p0 e0) :
    Reads w r a c b p' e' ((W.setCell ⟨w.heap.size, 0, none⟩ (.int .i64 op)).setCell ⟨w.heap.size, 1, none⟩ (.int .i64 A)) ∧
    (loadVar 91 ⟨w.heap.size, 0, none⟩).run Tryz.prog ((W.setCell ⟨w.heap.size, 0, none⟩ (.int .i64 op)).setCell ⟨w.heap.size, 1, none⟩ (.int .i64 A)) = .ok (.agg #[.int .i64 op, .int .i64 A]) ((W.setCell ⟨w.heap.size, 0, none⟩ (.int .i64 op)).setCell ⟨w.heap.size, 1, none⟩ (.int .i64 A)) := by
  refine ⟨(h.rd.setNew h0 _ 0 _ (Nat.le_refl _)).setNew h0 _ 1 _ (Nat.le_refl _), ?_⟩
  have h1 := heap_setCell_same W w.heap.size 0 _ _ (.int .i64 op) h.b2
  have h2 := heap_setCell_same _ w.heap.size 1 _ _ (.int .i64 A) h1
  refine run_loadVar_mid (P := Tryz.prog) _ w.heap.size 0 91 [.int .i64 op, .int .i64 A] _ ?_ Tryz.underlying91 rfl (by kernel_rfl)
  intro j v hv
  simp only [World.cell?, h2, Nat.zero_add]
  simpa using hv
/-- what is handed back -/
def IPost (w : World) (r : Nat) (a : Option Addr) (c : Nat) (b : List Nat) (p : Nat) (e : Int) (W : World) : Prop := Reads w r a c b (getI b p e).2.1 (getI b p e).2.2 W

set_option maxRecDepth 100000 in
set_option maxHeartbeats 2000000 in
theorem getInstr_any (w : World) (r : Nat) (a : Option Addr) (c : Nat) (b : List Nat) (p : Nat) (e : Int) (h : IsReader w r a c b p e) :
    Calls Tryz.prog 76 #[.pointer (some ⟨r, 0, none⟩)] w fun e' w' => e' = .returned (kv (getI b p e).1) ∧ Reads w r a c b (getI b p e).2.1 (getI b p e).2.2 w' := by
  have HR : Hid (IsReader w r a c b p e) := h
  have HZ : Hid (∀ z ∈ b, z < 256) := h.2.1.1
  clear h
  go_enter Tryz.func76, Tryz.ntmps76
  go_wp2_with fail
  have HR0 : Hid (Reads w r a c b p e (w.alloc (.cells #[.int .i64 0, .int .i64 0] 91))) := Reads.alloc ⟨HR.out, World.grownBy.refl _ _⟩ _
  refine (rByte_any _ r a c b p e HR0.out.1).mono ?_
  rintro e1 w1 ⟨rfl, hr1⟩
  have hlt := rdByte_lt HZ.out p e
  have HG : Hid (getI b p e = getT b (rdByte b p e).1 (rdByte b p e).2.1 (getE2 (rdByte b p e).1 (rdByte b p e).2.2)) := rfl
  have HI0 : Hid (IG w (w1.alloc (.cells #[.int .i64 (((rdByte b p e).1 : Int) % 64), .int .i64 0] 91)) r a c b (rdByte b p e).2.1 (rdByte b p e).2.2 w1.heap.size (((rdByte b p e).1 : Int) % 64) 0) := by
    have hrl := HR.out.lt
    have hs : w.heap.size + 1 ≤ w1.heap.size := by have := hr1.2.size; simpa using this
    refine ⟨(HR0.out.trans hr1).alloc _, ?_, heap_alloc_new _ _ rfl, hrl, by omega⟩
    rw [heap_alloc_old _ _ (by omega), hr1.2.block w.heap.size (by simp) (fun e => by simp at e; omega)]
    exact heap_alloc_new _ _ rfl
  clear hr1 HR0
  generalize (rdByte b p e).2.1 = p1 at *
  generalize (rdByte b p e).2.2 = e1 at *
  generalize (rdByte b p e).1 = z at *
  have b63 := and63 z hlt
  have b128 := and128 z hlt
  have b64 := and64 z hlt
  obtain ⟨op, hop⟩ : ∃ op, op = (z : Int) % 64 := ⟨_, rfl⟩
  rw [← hop] at b63 HI0
  have HOp : Hid ((z : Int) % 64 = op) := hop.symm
  have hopr : 0 ≤ op ∧ op < 64 := by omega
  clear hop
  go_wp2_with fail
  generalize w1.alloc (.cells #[.int .i64 op, .int .i64 0] 91) = W0 at *
  generalize w1.heap.size = B4 at *
  refine (isOp_any W0 op).mono ?_
  rintro e2' WX ⟨rfl, rfl⟩
  obtain ⟨e2, he2⟩ : ∃ e2, e2 = getE2 z e1 := ⟨_, rfl⟩
  rw [← he2] at HG
  have HE2 : Hid (e2 = (if isOpB op = false ∨ 128 ≤ z then failE e1 31 else e1)) := by rw [he2]; unfold getE2; rw [HOp.out]; rfl
  clear he2
  cases ho : isOpB op with
  | true =>
    cases c128 : decide (128 ≤ z) with
    | false =>
      rw [c128] at b128
      have he : e2 = e1 := by rw [HE2.out, ho, if_neg (by simpa using c128)]
      subst he
      have HI : Hid (IG w WX r a c b p1 e2 B4 op 0) := HI0
      clear HE2 HI0
      cases c64 : decide (z / 64 % 2 = 1) with
      | false =>
        have HE : Hid (getI b p e = ((op, 0), p1, e2)) := by rw [HG.out]; unfold getT; rw [if_neg (by simpa using c64)]; rw [HOp.out]; rfl
        rw [c64] at b64
        clear HG
        obtain ⟨i0, i1, i2, i3, i4, i5, i6⟩ := HI.out.cells
        obtain ⟨hrd, hld⟩ := HI.out.fin HR.out
        have HF : Hid (Reads w r a c b (getI b p e).2.1 (getI b p e).2.2 ((WX.setCell ⟨w.heap.size, 0, none⟩ (.int .i64 op)).setCell ⟨w.heap.size, 1, none⟩ (.int .i64 0))) := by rw [HE.out]; exact hrd
        have HK : Hid ((getI b p e).1 = (op, 0)) := by rw [HE.out]; rfl
        have HLd : Hid ((loadVar 91 ⟨w.heap.size, 0, none⟩).run Tryz.prog ((WX.setCell ⟨w.heap.size, 0, none⟩ (.int .i64 op)).setCell ⟨w.heap.size, 1, none⟩ (.int .i64 0)) = .ok (.agg #[.int .i64 op, .int .i64 0]) ((WX.setCell ⟨w.heap.size, 0, none⟩ (.int .i64 op)).setCell ⟨w.heap.size, 1, none⟩ (.int .i64 0))) := hld
        clear HE hrd hld
        go_wp2
        refine bodyPost_ret (v := .agg #[.int .i64 op, .int .i64 0]) ?_ rfl ⟨by rw [HK.out], HF.out⟩
        simp [results, Tryz.results76, asAddr, HLd.out]
      | true =>
        rw [c64] at b64
        obtain ⟨i0, i1, i2, i3, i4, i5, i6⟩ := HI.out.cells
        go_wp2_with fail
        refine (rInt_any WX r a c b p1 e2 HI.out.rd.1).mono ?_
        rintro e3 w3 ⟨rfl, hr3⟩
        have HG3 : Hid (getI b p e = ((op, unfold (rdUpto b p1 e2 18446744073709551615).1), (rdUpto b p1 e2 18446744073709551615).2.1, if unfold (rdUpto b p1 e2 18446744073709551615).1 = 0 then failE (rdUpto b p1 e2 18446744073709551615).2.2 11 else (rdUpto b p1 e2 18446744073709551615).2.2)) := by rw [HG.out]; unfold getT; rw [if_pos (by simpa using c64)]; rw [HOp.out]; rfl
        have HI3 : Hid (IG w w3 r a c b (rdUpto b p1 e2 18446744073709551615).2.1 (rdUpto b p1 e2 18446744073709551615).2.2 B4 op 0) := HI.out.step hr3
        clear hr3 HI HG i0 i1 i2 i3 i4 i5 i6
        generalize (rdUpto b p1 e2 18446744073709551615).2.1 = p3 at *
        generalize (rdUpto b p1 e2 18446744073709551615).2.2 = e3 at *
        generalize unfold (rdUpto b p1 e2 18446744073709551615).1 = A at *
        obtain ⟨i0, i1, i2, i3, i4, i5, i6⟩ := HI3.out.cells
        have HI4 : Hid (IG w (w3.setCell ⟨B4, 1, none⟩ (.int .i64 A)) r a c b p3 e3 B4 op A) := HI3.out.setA HR.out A
        by_cases hA : A = 0
        · have hA' : (A == 0) = true := by simpa using hA
          have HE0 : Hid (getI b p e = ((op, A), p3, failE e3 11)) := by rw [HG3.out, if_pos hA]; rfl
          clear HG3 hA
          go_wp2_with fail
          generalize w3.setCell ⟨B4, 1, none⟩ (.int .i64 A) = W4 at *
          clear i0 i1 i2 i3 i4 i5 i6
          refine (rFail_any W4 r a c b p3 e3 11 HI4.out.rd.1).mono ?_
          rintro e5 WX ⟨rfl, hr5⟩
          have HI : Hid (IG w WX r a c b p3 (failE e3 11) B4 op A) := HI4.out.step hr5
          have HE : Hid (getI b p e = ((op, A), p3, failE e3 11)) := HE0
          clear hr5 HI4 HI3 HE0
          obtain ⟨i0, i1, i2, i3, i4, i5, i6⟩ := HI.out.cells
          obtain ⟨hrd, hld⟩ := HI.out.fin HR.out
          have HF : Hid (Reads w r a c b (getI b p e).2.1 (getI b p e).2.2 ((WX.setCell ⟨w.heap.size, 0, none⟩ (.int .i64 op)).setCell ⟨w.heap.size, 1, none⟩ (.int .i64 A))) := by rw [HE.out]; exact hrd
          have HK : Hid ((getI b p e).1 = (op, A)) := by rw [HE.out]; rfl
          have HLd : Hid ((loadVar 91 ⟨w.heap.size, 0, none⟩).run Tryz.prog ((WX.setCell ⟨w.heap.size, 0, none⟩ (.int .i64 op)).setCell ⟨w.heap.size, 1, none⟩ (.int .i64 A)) = .ok (.agg #[.int .i64 op, .int .i64 A]) ((WX.setCell ⟨w.heap.size, 0, none⟩ (.int .i64 op)).setCell ⟨w.heap.size, 1, none⟩ (.int .i64 A))) := hld
          clear HE hrd hld
          go_wp2
          refine bodyPost_ret (v := .agg #[.int .i64 op, .int .i64 A]) ?_ rfl ⟨by rw [HK.out], HF.out⟩
          simp [results, Tryz.results76, asAddr, HLd.out]
        · have hA' : (A == 0) = false := by simpa using hA
          have HE : Hid (getI b p e = ((op, A), p3, e3)) := by rw [HG3.out, if_neg hA]; rfl
          have HI : Hid (IG w (w3.setCell ⟨B4, 1, none⟩ (.int .i64 A)) r a c b p3 e3 B4 op A) := HI4
          clear HG3 hA HI4
          obtain ⟨j0, j1, j2, j3, j4, j5, j6⟩ := HI.out.cells
          obtain ⟨hrd, hld⟩ := HI.out.fin HR.out
          have HF : Hid (Reads w r a c b (getI b p e).2.1 (getI b p e).2.2 (((w3.setCell ⟨B4, 1, none⟩ (.int .i64 A)).setCell ⟨w.heap.size, 0, none⟩ (.int .i64 op)).setCell ⟨w.heap.size, 1, none⟩ (.int .i64 A))) := by rw [HE.out]; exact hrd
          have HK : Hid ((getI b p e).1 = (op, A)) := by rw [HE.out]; rfl
          have HLd : Hid ((loadVar 91 ⟨w.heap.size, 0, none⟩).run Tryz.prog (((w3.setCell ⟨B4, 1, none⟩ (.int .i64 A)).setCell ⟨w.heap.size, 0, none⟩ (.int .i64 op)).setCell ⟨w.heap.size, 1, none⟩ (.int .i64 A)) = .ok (.agg #[.int .i64 op, .int .i64 A]) (((w3.setCell ⟨B4, 1, none⟩ (.int .i64 A)).setCell ⟨w.heap.size, 0, none⟩ (.int .i64 op)).setCell ⟨w.heap.size, 1, none⟩ (.int .i64 A))) := hld
          clear HE hrd hld
          go_wp2
          refine bodyPost_ret (v := .agg #[.int .i64 op, .int .i64 A]) ?_ rfl ⟨by rw [HK.out], HF.out⟩
          simp [results, Tryz.results76, asAddr, HLd.out]
    | true =>
      rw [c128] at b128
      have he : e2 = failE e1 31 := by rw [HE2.out, if_pos (by exact .inr (by simpa using c128))]
      have HI0' : Hid (IG w WX r a c b p1 e1 B4 op 0) := HI0
      obtain ⟨i0, i1, i2, i3, i4, i5, i6⟩ := HI0'.out.cells
      go_wp2_with fail
      refine (rFail_any WX r a c b p1 e1 31 HI0'.out.rd.1).mono ?_
      rintro e5 WX ⟨rfl, hr5⟩
      have HI : Hid (IG w WX r a c b p1 e2 B4 op 0) := by rw [he]; exact HI0'.out.step hr5
      clear hr5 HI0' HI0 HE2 he i0 i1 i2 i3 i4 i5 i6
      cases c64 : decide (z / 64 % 2 = 1) with
      | false =>
        have HE : Hid (getI b p e = ((op, 0), p1, e2)) := by rw [HG.out]; unfold getT; rw [if_neg (by simpa using c64)]; rw [HOp.out]; rfl
        rw [c64] at b64
        clear HG
        obtain ⟨i0, i1, i2, i3, i4, i5, i6⟩ := HI.out.cells
        obtain ⟨hrd, hld⟩ := HI.out.fin HR.out
        have HF : Hid (Reads w r a c b (getI b p e).2.1 (getI b p e).2.2 ((WX.setCell ⟨w.heap.size, 0, none⟩ (.int .i64 op)).setCell ⟨w.heap.size, 1, none⟩ (.int .i64 0))) := by rw [HE.out]; exact hrd
        have HK : Hid ((getI b p e).1 = (op, 0)) := by rw [HE.out]; rfl
        have HLd : Hid ((loadVar 91 ⟨w.heap.size, 0, none⟩).run Tryz.prog ((WX.setCell ⟨w.heap.size, 0, none⟩ (.int .i64 op)).setCell ⟨w.heap.size, 1, none⟩ (.int .i64 0)) = .ok (.agg #[.int .i64 op, .int .i64 0]) ((WX.setCell ⟨w.heap.size, 0, none⟩ (.int .i64 op)).setCell ⟨w.heap.size, 1, none⟩ (.int .i64 0))) := hld
        clear HE hrd hld
        go_wp2
        refine bodyPost_ret (v := .agg #[.int .i64 op, .int .i64 0]) ?_ rfl ⟨by rw [HK.out], HF.out⟩
        simp [results, Tryz.results76, asAddr, HLd.out]
      | true =>
        rw [c64] at b64
        obtain ⟨i0, i1, i2, i3, i4, i5, i6⟩ := HI.out.cells
        go_wp2_with fail
        refine (rInt_any WX r a c b p1 e2 HI.out.rd.1).mono ?_
        rintro e3 w3 ⟨rfl, hr3⟩
        have HG3 : Hid (getI b p e = ((op, unfold (rdUpto b p1 e2 18446744073709551615).1), (rdUpto b p1 e2 18446744073709551615).2.1, if unfold (rdUpto b p1 e2 18446744073709551615).1 = 0 then failE (rdUpto b p1 e2 18446744073709551615).2.2 11 else (rdUpto b p1 e2 18446744073709551615).2.2)) := by rw [HG.out]; unfold getT; rw [if_pos (by simpa using c64)]; rw [HOp.out]; rfl
        have HI3 : Hid (IG w w3 r a c b (rdUpto b p1 e2 18446744073709551615).2.1 (rdUpto b p1 e2 18446744073709551615).2.2 B4 op 0) := HI.out.step hr3
        clear hr3 HI HG i0 i1 i2 i3 i4 i5 i6
        generalize (rdUpto b p1 e2 18446744073709551615).2.1 = p3 at *
        generalize (rdUpto b p1 e2 18446744073709551615).2.2 = e3 at *
        generalize unfold (rdUpto b p1 e2 18446744073709551615).1 = A at *
        obtain ⟨i0, i1, i2, i3, i4, i5, i6⟩ := HI3.out.cells
        have HI4 : Hid (IG w (w3.setCell ⟨B4, 1, none⟩ (.int .i64 A)) r a c b p3 e3 B4 op A) := HI3.out.setA HR.out A
        by_cases hA : A = 0
        · have hA' : (A == 0) = true := by simpa using hA
          have HE0 : Hid (getI b p e = ((op, A), p3, failE e3 11)) := by rw [HG3.out, if_pos hA]; rfl
          clear HG3 hA
          go_wp2_with fail
          generalize w3.setCell ⟨B4, 1, none⟩ (.int .i64 A) = W4 at *
          clear i0 i1 i2 i3 i4 i5 i6
          refine (rFail_any W4 r a c b p3 e3 11 HI4.out.rd.1).mono ?_
          rintro e5 WX ⟨rfl, hr5⟩
          have HI : Hid (IG w WX r a c b p3 (failE e3 11) B4 op A) := HI4.out.step hr5
          have HE : Hid (getI b p e = ((op, A), p3, failE e3 11)) := HE0
          clear hr5 HI4 HI3 HE0
          obtain ⟨i0, i1, i2, i3, i4, i5, i6⟩ := HI.out.cells
          obtain ⟨hrd, hld⟩ := HI.out.fin HR.out
          have HF : Hid (Reads w r a c b (getI b p e).2.1 (getI b p e).2.2 ((WX.setCell ⟨w.heap.size, 0, none⟩ (.int .i64 op)).setCell ⟨w.heap.size, 1, none⟩ (.int .i64 A))) := by rw [HE.out]; exact hrd
          have HK : Hid ((getI b p e).1 = (op, A)) := by rw [HE.out]; rfl
          have HLd : Hid ((loadVar 91 ⟨w.heap.size, 0, none⟩).run Tryz.prog ((WX.setCell ⟨w.heap.size, 0, none⟩ (.int .i64 op)).setCell ⟨w.heap.size, 1, none⟩ (.int .i64 A)) = .ok (.agg #[.int .i64 op, .int .i64 A]) ((WX.setCell ⟨w.heap.size, 0, none⟩ (.int .i64 op)).setCell ⟨w.heap.size, 1, none⟩ (.int .i64 A))) := hld
          clear HE hrd hld
          go_wp2
          refine bodyPost_ret (v := .agg #[.int .i64 op, .int .i64 A]) ?_ rfl ⟨by rw [HK.out], HF.out⟩
          simp [results, Tryz.results76, asAddr, HLd.out]
        · have hA' : (A == 0) = false := by simpa using hA
          have HE : Hid (getI b p e = ((op, A), p3, e3)) := by rw [HG3.out, if_neg hA]; rfl
          have HI : Hid (IG w (w3.setCell ⟨B4, 1, none⟩ (.int .i64 A)) r a c b p3 e3 B4 op A) := HI4
          clear HG3 hA HI4
          obtain ⟨j0, j1, j2, j3, j4, j5, j6⟩ := HI.out.cells
          obtain ⟨hrd, hld⟩ := HI.out.fin HR.out
          have HF : Hid (Reads w r a c b (getI b p e).2.1 (getI b p e).2.2 (((w3.setCell ⟨B4, 1, none⟩ (.int .i64 A)).setCell ⟨w.heap.size, 0, none⟩ (.int .i64 op)).setCell ⟨w.heap.size, 1, none⟩ (.int .i64 A))) := by rw [HE.out]; exact hrd
          have HK : Hid ((getI b p e).1 = (op, A)) := by rw [HE.out]; rfl
          have HLd : Hid ((loadVar 91 ⟨w.heap.size, 0, none⟩).run Tryz.prog (((w3.setCell ⟨B4, 1, none⟩ (.int .i64 A)).setCell ⟨w.heap.size, 0, none⟩ (.int .i64 op)).setCell ⟨w.heap.size, 1, none⟩ (.int .i64 A)) = .ok (.agg #[.int .i64 op, .int .i64 A]) (((w3.setCell ⟨B4, 1, none⟩ (.int .i64 A)).setCell ⟨w.heap.size, 0, none⟩ (.int .i64 op)).setCell ⟨w.heap.size, 1, none⟩ (.int .i64 A))) := hld
          clear HE hrd hld
          go_wp2
          refine bodyPost_ret (v := .agg #[.int .i64 op, .int .i64 A]) ?_ rfl ⟨by rw [HK.out], HF.out⟩
          simp [results, Tryz.results76, asAddr, HLd.out]
  | false =>
    have he : e2 = failE e1 31 := by rw [HE2.out, if_pos (by exact .inl ho)]
    have HI0' : Hid (IG w WX r a c b p1 e1 B4 op 0) := HI0
    obtain ⟨i0, i1, i2, i3, i4, i5, i6⟩ := HI0'.out.cells
    go_wp2_with fail
    refine (rFail_any WX r a c b p1 e1 31 HI0'.out.rd.1).mono ?_
    rintro e5 WX ⟨rfl, hr5⟩
    have HI : Hid (IG w WX r a c b p1 e2 B4 op 0) := by rw [he]; exact HI0'.out.step hr5
    clear hr5 HI0' HI0 HE2 he i0 i1 i2 i3 i4 i5 i6
    cases c64 : decide (z / 64 % 2 = 1) with
    | false =>
      have HE : Hid (getI b p e = ((op, 0), p1, e2)) := by rw [HG.out]; unfold getT; rw [if_neg (by simpa using c64)]; rw [HOp.out]; rfl
      rw [c64] at b64
      clear HG
      obtain ⟨i0, i1, i2, i3, i4, i5, i6⟩ := HI.out.cells
      obtain ⟨hrd, hld⟩ := HI.out.fin HR.out
      have HF : Hid (Reads w r a c b (getI b p e).2.1 (getI b p e).2.2 ((WX.setCell ⟨w.heap.size, 0, none⟩ (.int .i64 op)).setCell ⟨w.heap.size, 1, none⟩ (.int .i64 0))) := by rw [HE.out]; exact hrd
      have HK : Hid ((getI b p e).1 = (op, 0)) := by rw [HE.out]; rfl
      have HLd : Hid ((loadVar 91 ⟨w.heap.size, 0, none⟩).run Tryz.prog ((WX.setCell ⟨w.heap.size, 0, none⟩ (.int .i64 op)).setCell ⟨w.heap.size, 1, none⟩ (.int .i64 0)) = .ok (.agg #[.int .i64 op, .int .i64 0]) ((WX.setCell ⟨w.heap.size, 0, none⟩ (.int .i64 op)).setCell ⟨w.heap.size, 1, none⟩ (.int .i64 0))) := hld
      clear HE hrd hld
      go_wp2
      refine bodyPost_ret (v := .agg #[.int .i64 op, .int .i64 0]) ?_ rfl ⟨by rw [HK.out], HF.out⟩
      simp [results, Tryz.results76, asAddr, HLd.out]
    | true =>
      rw [c64] at b64
      obtain ⟨i0, i1, i2, i3, i4, i5, i6⟩ := HI.out.cells
      go_wp2_with fail
      refine (rInt_any WX r a c b p1 e2 HI.out.rd.1).mono ?_
      rintro e3 w3 ⟨rfl, hr3⟩
      have HG3 : Hid (getI b p e = ((op, unfold (rdUpto b p1 e2 18446744073709551615).1), (rdUpto b p1 e2 18446744073709551615).2.1, if unfold (rdUpto b p1 e2 18446744073709551615).1 = 0 then failE (rdUpto b p1 e2 18446744073709551615).2.2 11 else (rdUpto b p1 e2 18446744073709551615).2.2)) := by rw [HG.out]; unfold getT; rw [if_pos (by simpa using c64)]; rw [HOp.out]; rfl
      have HI3 : Hid (IG w w3 r a c b (rdUpto b p1 e2 18446744073709551615).2.1 (rdUpto b p1 e2 18446744073709551615).2.2 B4 op 0) := HI.out.step hr3
      clear hr3 HI HG i0 i1 i2 i3 i4 i5 i6
      generalize (rdUpto b p1 e2 18446744073709551615).2.1 = p3 at *
      generalize (rdUpto b p1 e2 18446744073709551615).2.2 = e3 at *
      generalize unfold (rdUpto b p1 e2 18446744073709551615).1 = A at *
      obtain ⟨i0, i1, i2, i3, i4, i5, i6⟩ := HI3.out.cells
      have HI4 : Hid (IG w (w3.setCell ⟨B4, 1, none⟩ (.int .i64 A)) r a c b p3 e3 B4 op A) := HI3.out.setA HR.out A
      by_cases hA : A = 0
      · have hA' : (A == 0) = true := by simpa using hA
        have HE0 : Hid (getI b p e = ((op, A), p3, failE e3 11)) := by rw [HG3.out, if_pos hA]; rfl
        clear HG3 hA
        go_wp2_with fail
        generalize w3.setCell ⟨B4, 1, none⟩ (.int .i64 A) = W4 at *
        clear i0 i1 i2 i3 i4 i5 i6
        refine (rFail_any W4 r a c b p3 e3 11 HI4.out.rd.1).mono ?_
        rintro e5 WX ⟨rfl, hr5⟩
        have HI : Hid (IG w WX r a c b p3 (failE e3 11) B4 op A) := HI4.out.step hr5
        have HE : Hid (getI b p e = ((op, A), p3, failE e3 11)) := HE0
        clear hr5 HI4 HI3 HE0
        obtain ⟨i0, i1, i2, i3, i4, i5, i6⟩ := HI.out.cells
        obtain ⟨hrd, hld⟩ := HI.out.fin HR.out
        have HF : Hid (Reads w r a c b (getI b p e).2.1 (getI b p e).2.2 ((WX.setCell ⟨w.heap.size, 0, none⟩ (.int .i64 op)).setCell ⟨w.heap.size, 1, none⟩ (.int .i64 A))) := by rw [HE.out]; exact hrd
        have HK : Hid ((getI b p e).1 = (op, A)) := by rw [HE.out]; rfl
        have HLd : Hid ((loadVar 91 ⟨w.heap.size, 0, none⟩).run Tryz.prog ((WX.setCell ⟨w.heap.size, 0, none⟩ (.int .i64 op)).setCell ⟨w.heap.size, 1, none⟩ (.int .i64 A)) = .ok (.agg #[.int .i64 op, .int .i64 A]) ((WX.setCell ⟨w.heap.size, 0, none⟩ (.int .i64 op)).setCell ⟨w.heap.size, 1, none⟩ (.int .i64 A))) := hld
        clear HE hrd hld
        go_wp2
        refine bodyPost_ret (v := .agg #[.int .i64 op, .int .i64 A]) ?_ rfl ⟨by rw [HK.out], HF.out⟩
        simp [results, Tryz.results76, asAddr, HLd.out]
      · have hA' : (A == 0) = false := by simpa using hA
        have HE : Hid (getI b p e = ((op, A), p3, e3)) := by rw [HG3.out, if_neg hA]; rfl
        have HI : Hid (IG w (w3.setCell ⟨B4, 1, none⟩ (.int .i64 A)) r a c b p3 e3 B4 op A) := HI4
        clear HG3 hA HI4
        obtain ⟨j0, j1, j2, j3, j4, j5, j6⟩ := HI.out.cells
        obtain ⟨hrd, hld⟩ := HI.out.fin HR.out
        have HF : Hid (Reads w r a c b (getI b p e).2.1 (getI b p e).2.2 (((w3.setCell ⟨B4, 1, none⟩ (.int .i64 A)).setCell ⟨w.heap.size, 0, none⟩ (.int .i64 op)).setCell ⟨w.heap.size, 1, none⟩ (.int .i64 A))) := by rw [HE.out]; exact hrd
        have HK : Hid ((getI b p e).1 = (op, A)) := by rw [HE.out]; rfl
        have HLd : Hid ((loadVar 91 ⟨w.heap.size, 0, none⟩).run Tryz.prog (((w3.setCell ⟨B4, 1, none⟩ (.int .i64 A)).setCell ⟨w.heap.size, 0, none⟩ (.int .i64 op)).setCell ⟨w.heap.size, 1, none⟩ (.int .i64 A)) = .ok (.agg #[.int .i64 op, .int .i64 A]) (((w3.setCell ⟨B4, 1, none⟩ (.int .i64 A)).setCell ⟨w.heap.size, 0, none⟩ (.int .i64 op)).setCell ⟨w.heap.size, 1, none⟩ (.int .i64 A))) := hld
        clear HE hrd hld
        go_wp2
        refine bodyPost_ret (v := .agg #[.int .i64 op, .int .i64 A]) ?_ rfl ⟨by rw [HK.out], HF.out⟩
        simp [results, Tryz.results76, asAddr, HLd.out]
end Go.Proofs.YtkmafpfldnapjaaGreatDoor
