import Derived.Test.YtkmafpfldnapjaaGreatDoorKLGet
import Derived.Deep.RegionLaw
import Derived.Test.YtkmafpfldnapjaaGreatDoorKRaw
import Derived.Test.YtkmafpfldnapjaaGreatDoorKReader
import Derived.Test.YtkmafpfldnapjaaGreatDoorKAAssem
/-
  THE WALK OF Get.
-/
namespace Go.Proofs.YtkmafpfldnapjaaGreatDoor
open Go.RowKit Go.Sort

/-- k instructions one behind the other -/
def getL (b : List Nat) (p : Nat) (e : Int) : Nat → List K × Nat × Int
  | 0 => ([], p, e)
  | k + 1 => ((getL b p e k).1 ++ [(getI b (getL b p e k).2.1 (getL b p e k).2.2).1], (getI b (getL b p e k).2.1 (getL b p e k).2.2).2.1, (getI b (getL b p e k).2.1 (getL b p e k).2.2).2.2)
theorem getL_length (b : List Nat) (p : Nat) (e : Int) : ∀ k, (getL b p e k).1.length = k
  | 0 => rfl
  | k + 1 => by simp [getL, getL_length b p e k]
/-- the five numbers ahead -/
def getH (b : List Nat) (p : Nat) (e : Int) : Nums × Nat × Nat × Int :=
  let x0 := rdUpto b p e 16
  let x1 := rdUpto b x0.2.1 x0.2.2 16
  let x2 := rdUpto b x1.2.1 x1.2.2 16
  let x3 := rdUpto b x2.2.1 x2.2.2 16
  let x4 := rdUpto b x3.2.1 x3.2.2 256
  (⟨x0.1, x1.1, x2.1, x3.1⟩, x4.1, x4.2.1, x4.2.2)
/-- a program, the place behind it, the error -/
def getP (b : List Nat) (p : Nat) (e : Int) : Nums × List K × Nat × Int :=
  let h := getH b p e
  let l := getL b h.2.2.1 h.2.2.2 h.2.1
  if l.2.2 = 0 then (h.1, l.1, l.2.1, l.2.2) else (⟨0, 0, 0, 0⟩, [], l.2.1, l.2.2)
theorem rdUpto_most (b : List Nat) (p : Nat) (e : Int) (most : Nat) : (rdUpto b p e most).1 ≤ most := by
  unfold rdUpto
  repeat' split
  all_goals (try simp)
  all_goals omega
/-- what stands while a program is read -/
structure GT (w W : World) (r : Nat) (a : Option Addr) (c : Nat) (b : List Nat) (p' : Nat) (e' : Int) (B3 : Nat) (q : Nums) (av : Option Addr) (cv : Nat) (M : List K) : Prop where
  rd : Reads w r a c b p' e' W
  b2 : PBox W w.heap.size ⟨0, 0, 0, 0⟩ none 0 0
  b3 : PBox W B3 q av M.length cv
  own : OwnK W (B3 + 1) (.slice av M.length cv) M
  r2 : r < w.heap.size
  l3 : w.heap.size < B3
theorem GT.step {w W W' : World} {r : Nat} {a : Option Addr} {c : Nat} {b : List Nat} {p' p2 : Nat} {e' e2 : Int} {B3 : Nat} {q : Nums} {av : Option Addr} {cv : Nat} {M : List K} (h : GT w W r a c b p' e' B3 q av cv M) (hr : Reads W r a c b p2 e2 W') : GT w W' r a c b p2 e2 B3 q av cv M := by
  have hr2 := h.r2
  have hl3 := h.l3
  exact ⟨h.rd.trans hr, (hr.2.block _ h.b2.lt (fun e => by simp at e; omega)).trans h.b2, (hr.2.block _ h.b3.lt (fun e => by simp at e; omega)).trans h.b3, h.own.same fun g hg => hr.2.block g (h.own.lt g hg).2 (fun e => by have := (h.own.lt g hg).1; simp at e; omega), h.r2, h.l3⟩
theorem GT.kept {w W W' : World} {r : Nat} {a : Option Addr} {c : Nat} {b : List Nat} {p' : Nat} {e' : Int} {B3 : Nat} {q : Nums} {av : Option Addr} {cv : Nat} {M : List K} (h : GT w W r a c b p' e' B3 q av cv M) (hb : Below W.heap.size W W') : GT w W' r a c b p' e' B3 q av cv M :=
  ⟨h.rd.kept hb, h.b2.kept hb, h.b3.kept hb, h.own.kept hb, h.r2, h.l3⟩
/-- behind the append and the store -/
theorem GT.put {w W W' : World} {r : Nat} {a : Option Addr} {c : Nat} {b : List Nat} {p' p0 : Nat} {e' e0 : Int} {B3 : Nat} {q : Nums} {av av' : Option Addr} {cv cv' : Nat} {M M' : List K} (h : GT w W r a c b p' e' B3 q av cv M) (h0 : IsReader w r a c b p0 e0)
    (ho : OwnK W' (B3 + 1) (.slice av' M'.length cv') M') (hg : W.grownBy W' (Value.slice av M.length cv).ownBlock) : GT w (W'.setCell ⟨B3, 4, none⟩ (.slice av' M'.length cv')) r a c b p' e' B3 q av' cv' M' := by
  have hl3 := h.l3
  have hr2 := h.r2
  have hown : ∀ k, (Value.slice av M.length cv).ownBlock = some k → B3 + 1 ≤ k := fun k hk => (h.own.lt k hk).1
  have hrd : Reads w r a c b p' e' W' := by
    refine ⟨h.rd.1.grown hg (fun e => ?_) ?_, ?_⟩
    · have := hown r e.symm; omega
    · by_cases hn : (Value.slice a b.length c).ownBlock = none
      · exact .inl hn
      · refine .inr fun e => ?_
        cases hk : (Value.slice a b.length c).ownBlock with
        | none => exact hn hk
        | some k =>
          have h1 := (h0.2.1.2.lt k hk).2
          rw [hk] at e
          have := hown k e.symm
          omega
    · exact ⟨hg.os.trans h.rd.2.os, hg.tape.trans h.rd.2.tape, hg.output.trans h.rd.2.output, Nat.le_trans h.rd.2.size hg.size, fun k hk hr => by
        rw [hg.block k (Nat.lt_of_lt_of_le hk h.rd.2.size) (fun e => by have := hown k e.symm; omega), h.rd.2.block k hk hr]⟩
  have hb2 : PBox W' w.heap.size ⟨0, 0, 0, 0⟩ none 0 0 := (hg.block _ h.b2.lt (fun e => by have := hown _ e.symm; omega)).trans h.b2
  have hb3 : PBox W' B3 q av M.length cv := (hg.block _ h.b3.lt (fun e => by have := hown _ e.symm; omega)).trans h.b3
  refine ⟨hrd.setNew h0 B3 4 _ (by omega), (heap_setCell_other W' ⟨B3, 4, none⟩ w.heap.size _ (by simp; omega)).trans hb2, ?_, ho.same (fun g hg' => heap_setCell_other W' ⟨B3, 4, none⟩ g _ (by have := (ho.lt g hg').1; simp; omega)), h.r2, h.l3⟩
  have := heap_setCell_same W' B3 4 _ _ (.slice av' M'.length cv') hb3
  unfold PBox
  rw [this]; rfl
theorem GT.fin {w W : World} {r : Nat} {a : Option Addr} {c : Nat} {b : List Nat} {p' p0 : Nat} {e' e0 : Int} {B3 : Nat} {q : Nums} {av : Option Addr} {cv : Nat} {M : List K} (h : GT w W r a c b p' e' B3 q av cv M) (h0 : IsReader w r a c b p0 e0) (x0 x1 x2 x3 : Int) (ao : Option Addr) (n cap : Nat) :
    Reads w r a c b p' e' (((((W.setCell ⟨w.heap.size, 0, none⟩ (.int .i64 x0)).setCell ⟨w.heap.size, 1, none⟩ (.int .i64 x1)).setCell ⟨w.heap.size, 2, none⟩ (.int .i64 x2)).setCell ⟨w.heap.size, 3, none⟩ (.int .i64 x3)).setCell ⟨w.heap.size, 4, none⟩ (.slice ao n cap)) ∧ OwnK (((((W.setCell ⟨w.heap.size, 0, none⟩ (.int .i64 x0)).setCell ⟨w.heap.size, 1, none⟩ (.int .i64 x1)).setCell ⟨w.heap.size, 2, none⟩ (.int .i64 x2)).setCell ⟨w.heap.size, 3, none⟩ (.int .i64 x3)).setCell ⟨w.heap.size, 4, none⟩ (.slice ao n cap)) (B3 + 1) (.slice av M.length cv) M ∧
    (loadVar 58 ⟨w.heap.size, 0, none⟩).run Tryz.prog (((((W.setCell ⟨w.heap.size, 0, none⟩ (.int .i64 x0)).setCell ⟨w.heap.size, 1, none⟩ (.int .i64 x1)).setCell ⟨w.heap.size, 2, none⟩ (.int .i64 x2)).setCell ⟨w.heap.size, 3, none⟩ (.int .i64 x3)).setCell ⟨w.heap.size, 4, none⟩ (.slice ao n cap)) = .ok (.agg #[.int .i64 x0, .int .i64 x1, .int .i64 x2, .int .i64 x3, .slice ao n cap]) (((((W.setCell ⟨w.heap.size, 0, none⟩ (.int .i64 x0)).setCell ⟨w.heap.size, 1, none⟩ (.int .i64 x1)).setCell ⟨w.heap.size, 2, none⟩ (.int .i64 x2)).setCell ⟨w.heap.size, 3, none⟩ (.int .i64 x3)).setCell ⟨w.heap.size, 4, none⟩ (.slice ao n cap)) := by
  have h1 := heap_setCell_same W w.heap.size 0 _ _ (.int .i64 x0) h.b2
  have h2 := heap_setCell_same _ w.heap.size 1 _ _ (.int .i64 x1) h1
  have h3 := heap_setCell_same _ w.heap.size 2 _ _ (.int .i64 x2) h2
  have h4 := heap_setCell_same _ w.heap.size 3 _ _ (.int .i64 x3) h3
  have h5 := heap_setCell_same _ w.heap.size 4 _ _ (.slice ao n cap) h4
  have hr := ((((h.rd.setNew h0 w.heap.size 0 (.int .i64 x0) (Nat.le_refl _)).setNew h0 w.heap.size 1 (.int .i64 x1) (Nat.le_refl _)).setNew h0 w.heap.size 2 (.int .i64 x2) (Nat.le_refl _)).setNew h0 w.heap.size 3 (.int .i64 x3) (Nat.le_refl _)).setNew h0 w.heap.size 4 (.slice ao n cap) (Nat.le_refl _)
  have hl3 := h.l3
  have ho : ∀ g, g ≠ w.heap.size → (((((W.setCell ⟨w.heap.size, 0, none⟩ (.int .i64 x0)).setCell ⟨w.heap.size, 1, none⟩ (.int .i64 x1)).setCell ⟨w.heap.size, 2, none⟩ (.int .i64 x2)).setCell ⟨w.heap.size, 3, none⟩ (.int .i64 x3)).setCell ⟨w.heap.size, 4, none⟩ (.slice ao n cap)).heap[g]? = W.heap[g]? := fun g hg => by
    rw [heap_setCell_other _ ⟨w.heap.size, 4, none⟩ g _ hg, heap_setCell_other _ ⟨w.heap.size, 3, none⟩ g _ hg, heap_setCell_other _ ⟨w.heap.size, 2, none⟩ g _ hg, heap_setCell_other _ ⟨w.heap.size, 1, none⟩ g _ hg, heap_setCell_other _ ⟨w.heap.size, 0, none⟩ g _ hg]
  refine ⟨hr, h.own.same (fun g hg => ho g (by have := (h.own.lt g hg).1; omega)), ?_⟩
  refine run_loadVar_mid (P := Tryz.prog) _ w.heap.size 0 58 [.int .i64 x0, .int .i64 x1, .int .i64 x2, .int .i64 x3, .slice ao n cap] _ ?_ Tryz.underlying58 rfl (by kernel_rfl)
  intro j v hv
  simp only [World.cell?, h5, Nat.zero_add]
  simpa using hv
def GPost (w : World) (r : Nat) (a : Option Addr) (c : Nat) (b : List Nat) (p : Nat) (e : Int) (e' : Ending) (W : World) : Prop :=
  ∃ ao cap, e' = .returned (pv (getP b p e).1 ao (getP b p e).2.1.length cap) ∧ OwnK W w.heap.size (.slice ao (getP b p e).2.1.length cap) (getP b p e).2.1 ∧ Reads w r a c b (getP b p e).2.2.1 (getP b p e).2.2.2 W

set_option maxRecDepth 100000 in
set_option maxHeartbeats 2000000 in
theorem get_any (w : World) (r : Nat) (a : Option Addr) (c : Nat) (b : List Nat) (p : Nat) (e : Int) (h : IsReader w r a c b p e) :
    Calls Tryz.prog 46 #[.pointer (some ⟨r, 0, none⟩)] w fun e' w' => GPost w r a c b p e e' w' := by
  have HR : Hid (IsReader w r a c b p e) := h
  clear h
  obtain ⟨H, hH⟩ : ∃ H, H = getH b p e := ⟨_, rfl⟩
  have HP : Hid (getP b p e = (if (getL b H.2.2.1 H.2.2.2 H.2.1).2.2 = 0 then (H.1, (getL b H.2.2.1 H.2.2.2 H.2.1).1, (getL b H.2.2.1 H.2.2.2 H.2.1).2.1, (getL b H.2.2.1 H.2.2.2 H.2.1).2.2) else (⟨0, 0, 0, 0⟩, [], (getL b H.2.2.1 H.2.2.2 H.2.1).2.1, (getL b H.2.2.1 H.2.2.2 H.2.1).2.2))) := by rw [hH]; rfl
  have HHd : Hid (H = getH b p e) := hH
  clear hH
  have HRA : Hid (Reads w r a c b p e (w.alloc (.cells #[.int .i64 0, .int .i64 0, .int .i64 0, .int .i64 0, .slice none 0 0] 58))) := Reads.alloc ⟨HR.out, World.grownBy.refl _ _⟩ _
  have HBA : Hid (PBox (w.alloc (.cells #[.int .i64 0, .int .i64 0, .int .i64 0, .int .i64 0, .slice none 0 0] 58)) w.heap.size ⟨0, 0, 0, 0⟩ none 0 0) := PBox.new w ⟨0, 0, 0, 0⟩ none 0 0
  go_enter Tryz.func46, Tryz.ntmps46
  obtain ⟨⟨n0, q0, f0⟩, hx0⟩ : ∃ x, x = rdUpto b p e 16 := ⟨_, rfl⟩
  have HX0 : Hid (rdUpto b p e 16 = (n0, q0, f0)) := hx0.symm
  have hn0 : n0 ≤ 16 := by have := rdUpto_most b p e 16; rw [HX0.out] at this; exact this
  clear hx0
  go_wp2_with fail
  refine (rUpto_any _ r a c b p e 16 HRA.out.1).mono ?_
  rintro e1 w1 ⟨rfl, hr1⟩
  rw [HX0.out] at hr1 ⊢
  have HRd1 : Hid (Reads w r a c b q0 f0 w1) := HRA.out.trans hr1
  have HBx1 : Hid (PBox w1 w.heap.size ⟨0, 0, 0, 0⟩ none 0 0) := (hr1.2.block _ HBA.out.lt (fun e => by have := HR.out.lt; simp at e; omega)).trans HBA.out
  clear hr1 HRA HBA
  obtain ⟨⟨n1, q1, f1⟩, hx1⟩ : ∃ x, x = rdUpto b q0 f0 16 := ⟨_, rfl⟩
  have HX1 : Hid (rdUpto b q0 f0 16 = (n1, q1, f1)) := hx1.symm
  have hn1 : n1 ≤ 16 := by have := rdUpto_most b q0 f0 16; rw [HX1.out] at this; exact this
  clear hx1
  go_wp2_with fail
  refine (rUpto_any w1 r a c b q0 f0 16 HRd1.out.1).mono ?_
  rintro e2 w2 ⟨rfl, hr2⟩
  rw [HX1.out] at hr2 ⊢
  have HRd2 : Hid (Reads w r a c b q1 f1 w2) := HRd1.out.trans hr2
  have HBx2 : Hid (PBox w2 w.heap.size ⟨0, 0, 0, 0⟩ none 0 0) := (hr2.2.block _ HBx1.out.lt (fun e => by have := HR.out.lt; simp at e; omega)).trans HBx1.out
  clear hr2 HRd1 HBx1
  obtain ⟨⟨n2, q2, f2⟩, hx2⟩ : ∃ x, x = rdUpto b q1 f1 16 := ⟨_, rfl⟩
  have HX2 : Hid (rdUpto b q1 f1 16 = (n2, q2, f2)) := hx2.symm
  have hn2 : n2 ≤ 16 := by have := rdUpto_most b q1 f1 16; rw [HX2.out] at this; exact this
  clear hx2
  go_wp2_with fail
  refine (rUpto_any w2 r a c b q1 f1 16 HRd2.out.1).mono ?_
  rintro e3 w3 ⟨rfl, hr3⟩
  rw [HX2.out] at hr3 ⊢
  have HRd3 : Hid (Reads w r a c b q2 f2 w3) := HRd2.out.trans hr3
  have HBx3 : Hid (PBox w3 w.heap.size ⟨0, 0, 0, 0⟩ none 0 0) := (hr3.2.block _ HBx2.out.lt (fun e => by have := HR.out.lt; simp at e; omega)).trans HBx2.out
  clear hr3 HRd2 HBx2
  obtain ⟨⟨n3, q3, f3⟩, hx3⟩ : ∃ x, x = rdUpto b q2 f2 16 := ⟨_, rfl⟩
  have HX3 : Hid (rdUpto b q2 f2 16 = (n3, q3, f3)) := hx3.symm
  have hn3 : n3 ≤ 16 := by have := rdUpto_most b q2 f2 16; rw [HX3.out] at this; exact this
  clear hx3
  go_wp2_with fail
  refine (rUpto_any w3 r a c b q2 f2 16 HRd3.out.1).mono ?_
  rintro e4 w4 ⟨rfl, hr4⟩
  rw [HX3.out] at hr4 ⊢
  have HRd4 : Hid (Reads w r a c b q3 f3 w4) := HRd3.out.trans hr4
  have HBx4 : Hid (PBox w4 w.heap.size ⟨0, 0, 0, 0⟩ none 0 0) := (hr4.2.block _ HBx3.out.lt (fun e => by have := HR.out.lt; simp at e; omega)).trans HBx3.out
  clear hr4 HRd3 HBx3
  obtain ⟨⟨n4, q4, f4⟩, hx4⟩ : ∃ x, x = rdUpto b q3 f3 256 := ⟨_, rfl⟩
  have HX4 : Hid (rdUpto b q3 f3 256 = (n4, q4, f4)) := hx4.symm
  have hn4 : n4 ≤ 256 := by have := rdUpto_most b q3 f3 256; rw [HX4.out] at this; exact this
  clear hx4
  have HG0 : Hid (GT w (w4.alloc (.cells #[.int .i64 (n0 : Int), .int .i64 (n1 : Int), .int .i64 (n2 : Int), .int .i64 (n3 : Int), .slice none 0 0] 58)) r a c b q3 f3 w4.heap.size ⟨n0, n1, n2, n3⟩ none 0 []) :=
    ⟨HRd4.out.alloc _, HBx4.out.kept ((Below.refl _ _).alloc (Nat.le_refl _) _), PBox.new w4 ⟨n0, n1, n2, n3⟩ none 0 0, OwnK.nil _ _, HR.out.lt, HBx4.out.lt⟩
  go_wp2_with fail
  generalize w4.alloc (.cells #[.int .i64 (n0 : Int), .int .i64 (n1 : Int), .int .i64 (n2 : Int), .int .i64 (n3 : Int), .slice none 0 0] 58) = W4 at *
  generalize w4.heap.size = B3 at *
  refine (rUpto_any W4 r a c b q3 f3 256 HG0.out.rd.1).mono ?_
  rintro e5 w5 ⟨rfl, hr5⟩
  rw [HX4.out] at hr5 ⊢
  have HG5 : Hid (GT w w5 r a c b q4 f4 B3 ⟨n0, n1, n2, n3⟩ none 0 []) := HG0.out.step hr5
  clear hr5 HG0 HRd4 HBx4
  have HHe : Hid (H = (⟨n0, n1, n2, n3⟩, n4, q4, f4)) := by
    show H = _
    rw [HHd.out]
    simp only [getH, HX0.out, HX1.out, HX2.out, HX3.out, HX4.out]
  rw [HHe.out] at HP
  clear HHd HHe HX0 HX1 HX2 HX3 HX4
  simp only at HP
  go_wp2_with fail
  go_loopw [19] (fun x wr => ∃ k : Nat, k ≤ n4 ∧ x = .int .u64 (k : Int) ∧ ∃ av cv, Hid (GT w wr r a c b (getL b q4 f4 k).2.1 (getL b q4 f4 k).2.2 B3 ⟨n0, n1, n2, n3⟩ av cv (getL b q4 f4 k).1)) (fun x _ => n4 - (intOf x).toNat)
  case atStart => exact ⟨0, Nat.zero_le _, rfl, none, 0, HG5⟩
  case round =>
    clear HG5
    obtain ⟨k, hk, rfl, av, cv, HT⟩ := hrel
    by_cases hlt : k < n4
    · have HL1 : Hid (getL b q4 f4 (k + 1) = ((getL b q4 f4 k).1 ++ [(getI b (getL b q4 f4 k).2.1 (getL b q4 f4 k).2.2).1], (getI b (getL b q4 f4 k).2.1 (getL b q4 f4 k).2.2).2.1, (getI b (getL b q4 f4 k).2.1 (getL b q4 f4 k).2.2).2.2)) := rfl
      have hln := getL_length b q4 f4 k
      generalize (getL b q4 f4 k).1 = M at *
      generalize (getL b q4 f4 k).2.1 = pk at *
      generalize (getL b q4 f4 k).2.2 = ek at *
      have HI : Hid (∀ W, IsReader W r a c b pk ek → Calls Tryz.prog 76 #[.pointer (some ⟨r, 0, none⟩)] W fun e' w' => e' = .returned (kv (getI b pk ek).1) ∧ Reads W r a c b (getI b pk ek).2.1 (getI b pk ek).2.2 w') := fun W h => getInstr_any W r a c b pk ek h
      generalize (getI b pk ek).2.1 = pn at *
      generalize (getI b pk ek).2.2 = en at *
      generalize (getI b pk ek).1 = kk at *
      obtain ⟨op, A⟩ := kk
      have HTd : Hid (GT w wr.drew r a c b pk ek B3 ⟨n0, n1, n2, n3⟩ av cv M) := HT.out.kept ⟨rfl, rfl, rfl, Nat.le_refl _, fun _ _ => rfl⟩
      have hM : M.length ≤ 256 := by omega
      have HLn : Hid (M.length = k) := hln
      clear hln
      obtain ⟨_, _, _, _, x4⟩ := HT.out.b3.cells
      obtain ⟨_, _, _, _, y4⟩ := HTd.out.b3.cells
      go_wp2_with fail
      go_region_law (first
        | (refine step_append_keys rfl _ _ rfl (B3 + 1) (.slice av M.length cv) M rfl (HT1.out.own.alloc _) _ _ _ [(op, A)] rfl rfl (key_src w1 _ op A rfl) (by simp) (by simp; omega) (by have := HT1.out.b3.lt; simp; omega) ?_; intro v2 w2 ho2 hg2 _; obtain ⟨a2, c2, hv2, _, _, _⟩ := ho2.slice; subst hv2; have HT2 : Hid (GT w (w2.setCell ⟨B3, 4, none⟩ (.slice a2 (M ++ [(op, A)]).length c2)) r a c b pn en B3 ⟨n0, n1, n2, n3⟩ a2 c2 (M ++ [(op, A)])) := (HT1.out.kept (show Below w1.heap.size w1 _ from (Below.refl _ _).alloc (Nat.le_refl _) _)).put HR.out ho2 hg2; have u4 : w2.cell? ⟨B3, 4, none⟩ = some (.slice av M.length cv) := hg2.cell (Grew.cell ((Grew.refl w1).alloc _) z4) (fun e => by have := (HT1.out.own.lt B3 e.symm).1; omega); have g4 : w2.frozen? ⟨B3, 4, none⟩ = false := (World.frozen?_of_block (hg2.block B3 (by have := HT1.out.b3.lt; simp; omega) (fun e => by have := (HT1.out.own.lt B3 e.symm).1; omega))).trans ((World.frozen?_of_block (heap_alloc_old _ _ HT1.out.b3.lt)).trans (frozen_of_row w1 B3 4 _ _ HT1.out.b3)); clear ho2 hg2)
        | (go_simp; go_at_call 76; go_loud (refine (HI.out wr.drew HTd.out.rd.1).mono ?_; rintro e1 w1 ⟨rfl, hr1⟩; have HT1 : Hid (GT w w1 r a c b pn en B3 ⟨n0, n1, n2, n3⟩ av cv M) := HTd.out.step hr1; have z4 : w1.cell? ⟨B3, 4, none⟩ = some (.slice av M.length cv) := HT1.out.b3.cells.2.2.2.2; have z4a : (w1.alloc (.cells #[.int .i64 op, .int .i64 A] 91)).cell? ⟨B3, 4, none⟩ = some (.slice av M.length cv) := Grew.cell ((Grew.refl w1).alloc _) z4; clear hr1)))
      all_goals
        have HT3 : Hid (GT w (w2.setCell ⟨B3, 4, none⟩ (.slice a2 (M.length + 1) c2)) r a c b pn en B3 ⟨n0, n1, n2, n3⟩ a2 c2 (M ++ [(op, A)])) := by
          have := HT2.out
          rw [show (M ++ [(op, A)]).length = M.length + 1 by simp] at this
          exact this
        clear HT2 HT1
        go_wp2
        go_roundw
        case rel => exact ⟨k + 1, by omega, by go_num, a2, c2, by rw [HL1.out]; exact HT3⟩
        case measure => simp [intOf]; omega
    · obtain rfl : k = n4 := by omega
      have hln := getL_length b q4 f4 k
      generalize (getL b q4 f4 k).1 = M at *
      generalize (getL b q4 f4 k).2.1 = pk at *
      generalize (getL b q4 f4 k).2.2 = ek at *
      have HLn : Hid (M.length = k) := hln
      clear hln
      obtain ⟨x0, x1, x2, x3, x4⟩ := HT.out.b3.cells
      obtain ⟨y0, y1, y2, y3, y4⟩ := HT.out.b2.cells
      have g0 := frozen_of_row wr w.heap.size 0 _ _ HT.out.b2
      have g1 := frozen_of_row wr w.heap.size 1 _ _ HT.out.b2
      have g2 := frozen_of_row wr w.heap.size 2 _ _ HT.out.b2
      have g3 := frozen_of_row wr w.heap.size 3 _ _ HT.out.b2
      have g4 := frozen_of_row wr w.heap.size 4 _ _ HT.out.b2
      simp only at x0 x1 x2 x3 x4 y0 y1 y2 y3 y4
      go_wp2_with fail
      refine (rErr_any wr r a c b pk ek HT.out.rd.1).mono ?_
      rintro e6 w6 ⟨rfl, rfl⟩
      by_cases he : ek = 0
      · have HPe : Hid (getP b p e = (⟨n0, n1, n2, n3⟩, M, pk, ek)) := by rw [HP.out, if_pos he]; rfl
        obtain ⟨hrd, hown, hld⟩ := HT.out.fin HR.out (n0 : Int) (n1 : Int) (n2 : Int) (n3 : Int) av M.length cv
        have HF : Hid (GPost w r a c b p e (.returned (pv ⟨n0, n1, n2, n3⟩ av M.length cv)) (((((w6.setCell ⟨w.heap.size, 0, none⟩ (.int .i64 (n0 : Int))).setCell ⟨w.heap.size, 1, none⟩ (.int .i64 (n1 : Int))).setCell ⟨w.heap.size, 2, none⟩ (.int .i64 (n2 : Int))).setCell ⟨w.heap.size, 3, none⟩ (.int .i64 (n3 : Int))).setCell ⟨w.heap.size, 4, none⟩ (.slice av M.length cv))) := by
          refine ⟨av, cv, ?_, ?_, ?_⟩
          · rw [HPe.out]
          · rw [HPe.out]; exact hown.mono (by have := HT.out.l3; omega)
          · rw [HPe.out]; exact hrd
        have HLd : Hid ((loadVar 58 ⟨w.heap.size, 0, none⟩).run Tryz.prog (((((w6.setCell ⟨w.heap.size, 0, none⟩ (.int .i64 (n0 : Int))).setCell ⟨w.heap.size, 1, none⟩ (.int .i64 (n1 : Int))).setCell ⟨w.heap.size, 2, none⟩ (.int .i64 (n2 : Int))).setCell ⟨w.heap.size, 3, none⟩ (.int .i64 (n3 : Int))).setCell ⟨w.heap.size, 4, none⟩ (.slice av M.length cv)) = .ok (.agg #[.int .i64 (n0 : Int), .int .i64 (n1 : Int), .int .i64 (n2 : Int), .int .i64 (n3 : Int), .slice av M.length cv]) (((((w6.setCell ⟨w.heap.size, 0, none⟩ (.int .i64 (n0 : Int))).setCell ⟨w.heap.size, 1, none⟩ (.int .i64 (n1 : Int))).setCell ⟨w.heap.size, 2, none⟩ (.int .i64 (n2 : Int))).setCell ⟨w.heap.size, 3, none⟩ (.int .i64 (n3 : Int))).setCell ⟨w.heap.size, 4, none⟩ (.slice av M.length cv))) := hld
        subst he
        clear hrd hown hld HP HPe
        go_wp2
        refine bodyPost_ret (v := .agg #[.int .i64 (n0 : Int), .int .i64 (n1 : Int), .int .i64 (n2 : Int), .int .i64 (n3 : Int), .slice av M.length cv]) ?_ rfl HF.out
        simp [results, Tryz.results46, asAddr, HLd.out]
      · have he' : (ek != 0) = true := by simpa using he
        have HPe : Hid (getP b p e = (⟨0, 0, 0, 0⟩, [], pk, ek)) := by rw [HP.out, if_neg he]; rfl
        obtain ⟨hrd, hown, hld⟩ := HT.out.fin HR.out 0 0 0 0 none 0 0
        have HF : Hid (GPost w r a c b p e (.returned (pv ⟨0, 0, 0, 0⟩ none 0 0)) (((((w6.setCell ⟨w.heap.size, 0, none⟩ (.int .i64 0)).setCell ⟨w.heap.size, 1, none⟩ (.int .i64 0)).setCell ⟨w.heap.size, 2, none⟩ (.int .i64 0)).setCell ⟨w.heap.size, 3, none⟩ (.int .i64 0)).setCell ⟨w.heap.size, 4, none⟩ (.slice none 0 0))) := by
          refine ⟨none, 0, ?_, ?_, ?_⟩
          · rw [HPe.out]; rfl
          · rw [HPe.out]; exact OwnK.nil _ _
          · rw [HPe.out]; exact hrd
        have HLd : Hid ((loadVar 58 ⟨w.heap.size, 0, none⟩).run Tryz.prog (((((w6.setCell ⟨w.heap.size, 0, none⟩ (.int .i64 0)).setCell ⟨w.heap.size, 1, none⟩ (.int .i64 0)).setCell ⟨w.heap.size, 2, none⟩ (.int .i64 0)).setCell ⟨w.heap.size, 3, none⟩ (.int .i64 0)).setCell ⟨w.heap.size, 4, none⟩ (.slice none 0 0)) = .ok (.agg #[.int .i64 0, .int .i64 0, .int .i64 0, .int .i64 0, .slice none 0 0]) (((((w6.setCell ⟨w.heap.size, 0, none⟩ (.int .i64 0)).setCell ⟨w.heap.size, 1, none⟩ (.int .i64 0)).setCell ⟨w.heap.size, 2, none⟩ (.int .i64 0)).setCell ⟨w.heap.size, 3, none⟩ (.int .i64 0)).setCell ⟨w.heap.size, 4, none⟩ (.slice none 0 0))) := hld
        clear hrd hown hld HP HPe he
        go_wp2
        refine bodyPost_ret (v := .agg #[.int .i64 0, .int .i64 0, .int .i64 0, .int .i64 0, .slice none 0 0]) ?_ rfl HF.out
        simp [results, Tryz.results46, asAddr, HLd.out]
end Go.Proofs.YtkmafpfldnapjaaGreatDoor
/-
  A PROGRAM IS READ BACK OF ITS BYTES.
-/
namespace Go.Proofs.YtkmafpfldnapjaaGreatDoor
open Go.RowKit Go.Sort

theorem fold_zero {a : Int} (h : unfold (fold a) = a) (ha : a ≠ 0) : unfold (fold a) ≠ 0 := by rw [h]; exact ha
theorem drop_at {b X R : List Nat} {p : Nat} (h : b.drop p = X ++ R) : b.drop (p + X.length) = R := by
  rw [← List.drop_drop, h, List.drop_left]
theorem getI_at (b : List Nat) (p : Nat) (k : K) (R : List Nat) (ho : isOpB k.1 = true) (hk : KIn k) (h : b.drop p = instrB k ++ R) : getI b p 0 = (k, p + (instrB k).length, 0) := by
  obtain ⟨op, a⟩ := k
  have ho' := ho
  simp only [isOpB, Bool.and_eq_true, decide_eq_true_eq] at ho'
  obtain ⟨o, rfl⟩ := Int.eq_ofNat_of_zero_le ho'.1
  have ho1 : o < 37 := by omega
  have hu := unfold_fold a hk.2.1 hk.2.2
  by_cases h0 : a = 0
  · subst h0
    have e1 : instrB ((o : Int), 0) = [o] := by simp [instrB]
    rw [e1] at h ⊢
    have hb := rdByte_at b p o R h
    have e2 : (o : Int) % 64 = o := by omega
    unfold getI
    rw [hb]
    simp only [getE2, e2]
    rw [if_neg (by rw [ho]; simp; omega)]
    unfold getT
    rw [if_neg (by omega), e2]
    rfl
  · have e1 : instrB ((o : Int), a) = (o + 64) :: uint 10 (fold a) := by simp [instrB, h0]
    rw [e1] at h ⊢
    have hb := rdByte_at b p (o + 64) (uint 10 (fold a) ++ R) h
    have hd : b.drop (p + 1) = uint 10 (fold a) ++ R := drop_at (X := [o + 64]) h
    have hr := rdUpto_at b (p + 1) (fold a) 18446744073709551615 R (fold_lt a hk.2.1 hk.2.2) (by have := fold_lt a hk.2.1 hk.2.2; omega) hd
    have e2 : ((o + 64 : Nat) : Int) % 64 = o := by omega
    unfold getI
    rw [hb]
    simp only [getE2, e2]
    rw [if_neg (by rw [ho]; simp; omega)]
    unfold getT
    rw [if_pos (by omega), hr, e2]
    simp only [hu]
    rw [if_neg h0]
    simp
    omega
theorem getL_at (b : List Nat) (p : Nat) (L : List K) (R : List Nat) (ho : opsB L = true) (hk : ∀ k ∈ L, KIn k) (h : b.drop p = codeB L ++ R) : ∀ k, k ≤ L.length → getL b p 0 k = (L.take k, p + (codeB (L.take k)).length, 0)
  | 0, _ => by simp [getL, codeB]
  | k + 1, hkl => by
    have ih := getL_at b p L R ho hk h k (by omega)
    have hlt : k < L.length := by omega
    have hc := codeB_take L k hlt
    have hsp : codeB L = codeB (L.take (k + 1)) ++ codeB (L.drop (k + 1)) := by rw [← codeB_append, List.take_append_drop]
    have hd : b.drop (p + (codeB (L.take k)).length) = instrB (cd L k) ++ (codeB (L.drop (k + 1)) ++ R) := by
      refine drop_at (X := codeB (L.take k)) ?_
      rw [h, hsp, hc]; simp
    have hi := getI_at b _ (cd L k) _ (opsB_cd ho hlt) (hk _ (cd_mem hlt)) hd
    simp only [getL, ih, hi]
    have ht : L.take (k + 1) = L.take k ++ [cd L k] := by
      rw [List.take_succ_eq_append_getElem hlt]; simp [cd, List.getD_eq_getElem?_getD, List.getElem?_eq_getElem hlt]
    rw [hc, ht, List.length_append, Nat.add_assoc]
theorem getP_at (b : List Nat) (p : Nat) (q : Nums) (L : List K) (R : List Nat) (hl : limB q L.length = true) (ho : opsB L = true) (hk : ∀ k ∈ L, KIn k) (h : b.drop p = progB q L ++ R) : getP b p 0 = (q, L, p + (progB q L).length, 0) := by
  obtain ⟨⟨a0, a1⟩, ⟨r0, r1⟩, ⟨w0, w1⟩, ⟨l0, l1⟩, hn⟩ := (limB_iff q L.length).1 hl
  have hH : headB q L.length 5 = uint 10 q.args.toNat ++ (uint 10 q.reads.toNat ++ (uint 10 q.writes.toNat ++ (uint 10 q.locals.toNat ++ (uint 10 L.length ++ [])))) := rfl
  have h0 : b.drop p = uint 10 q.args.toNat ++ (uint 10 q.reads.toNat ++ (uint 10 q.writes.toNat ++ (uint 10 q.locals.toNat ++ (uint 10 L.length ++ (codeB L ++ R))))) := by
    rw [h]; unfold progB; rw [hH]; simp
  have x0 := rdUpto_at b p q.args.toNat 16 _ (by omega) (by omega) h0
  have d1 := drop_at h0
  have x1 := rdUpto_at b _ q.reads.toNat 16 _ (by omega) (by omega) d1
  have d2 := drop_at d1
  have x2 := rdUpto_at b _ q.writes.toNat 16 _ (by omega) (by omega) d2
  have d3 := drop_at d2
  have x3 := rdUpto_at b _ q.locals.toNat 16 _ (by omega) (by omega) d3
  have d4 := drop_at d3
  have x4 := rdUpto_at b _ L.length 256 _ (by omega) (by omega) d4
  have d5 := drop_at d4
  have hg := getL_at b _ L R ho hk d5 L.length (Nat.le_refl _)
  rw [List.take_length] at hg
  have hh : getH b p 0 = (⟨(q.args.toNat : Int), (q.reads.toNat : Int), (q.writes.toNat : Int), (q.locals.toNat : Int)⟩, L.length, p + (uint 10 q.args.toNat).length + (uint 10 q.reads.toNat).length + (uint 10 q.writes.toNat).length + (uint 10 q.locals.toNat).length + (uint 10 L.length).length, 0) := by
    simp only [getH, x0, x1, x2, x3, x4]
  have hq : (⟨(q.args.toNat : Int), (q.reads.toNat : Int), (q.writes.toNat : Int), (q.locals.toNat : Int)⟩ : Nums) = q := by
    obtain ⟨y0, y1, y2, y3⟩ := q
    simp only at a0 r0 w0 l0
    simp only [Nums.mk.injEq]; omega
  rw [hq] at hh
  simp only [getP, hh, hg]
  rw [if_pos trivial]
  unfold progB
  rw [hH]
  simp only [List.length_append, List.length_nil, Prod.mk.injEq, true_and, and_true]
  omega
end Go.Proofs.YtkmafpfldnapjaaGreatDoor
/-
  THE WALKS OF codec.Reader's METHODS: End; codec.Read.
-/
namespace Go.Proofs.YtkmafpfldnapjaaGreatDoor
open Go.RowKit

def rdEnd (b : List Nat) (p : Nat) (e : Int) : Int := if e = 0 ∧ p < b.length then 11 else e
theorem rEnd_any (w : World) (r : Nat) (a : Option Addr) (c : Nat) (b : List Nat) (p : Nat) (e : Int) (h : IsReader w r a c b p e) :
    Calls Tryz.prog 47 #[.pointer (some ⟨r, 0, none⟩)] w fun e' w' => e' = .returned (.int .i64 (rdEnd b p e)) ∧ ∃ q, w' = w.drewN q := by
  have HR : Hid (IsReader w r a c b p e) := h
  have h2 := h.c2
  have hp := h.2.2.1
  have hl := h.2.2.2
  clear h
  by_cases he : e = 0
  · subst he
    go_enter Tryz.func47, Tryz.ntmps47
    go_wp2_with fail
    refine (left_any w r a c b p 0 HR.out).mono ?_
    rintro e1 w1 ⟨rfl, q, hq⟩
    have HR1 : Hid (IsReader w1 r a c b p 0) := by rw [hq]; exact HR.out
    have k2 := HR1.out.c2
    have HQ : Hid (w1 = w.drewN q) := hq
    clear hq h2
    by_cases hpl : p < b.length
    · have hz : (0 : Int) < ((b.length - p : Nat) : Int) := by omega
      have HE : Hid (rdEnd b p 0 = 11) := by unfold rdEnd; rw [Hid, if_pos ⟨rfl, hpl⟩]
      clear hpl
      go_wp2
      go_ret
      exact ⟨by rw [HE.out]; rfl, q, HQ.out⟩
    · have hz : ¬ (0 : Int) < ((b.length - p : Nat) : Int) := by omega
      have HE : Hid (rdEnd b p 0 = 0) := by unfold rdEnd; rw [Hid, if_neg (by omega)]
      clear hpl
      go_wp2
      go_ret
      exact ⟨by rw [HE.out]; rfl, q, HQ.out⟩
  · have he' : (e == 0) = false := by rw [beq_eq_false_iff_ne]; exact he
    have HE : Hid (rdEnd b p e = e) := by unfold rdEnd; rw [Hid, if_neg (by omega)]
    clear he
    go_enter Tryz.func47, Tryz.ntmps47
    go_wp2
    go_ret
    exact ⟨by rw [HE.out]; rfl, 0, rfl⟩

theorem read_any (w : World) (ao : Option Addr) (cap n : Nat) (zs : List Nat) (hn : n = zs.length) (h : BytesAt w ao zs) (hm : n ≤ 140737488355328) :
    Calls Tryz.prog 41 #[.slice ao n cap] w fun e w' => e = .returned (.pointer (some ⟨w.heap.size + 1, 0, none⟩)) ∧ IsReader w' (w.heap.size + 1) (some ⟨w.heap.size, 0, none⟩) n zs 0 0 ∧ Below w.heap.size w w' ∧ w'.heap.size = w.heap.size + 2 := by
  subst hn
  have HB : Hid (BytesAt w ao zs) := h
  have HZ : Hid (∀ z ∈ zs, z < 256) := h.1
  clear h
  go_enter Tryz.func41, Tryz.ntmps41
  go_wp2_with fail
  refine (fresh_any w ao cap zs.length zs rfl HB.out (by omega)).mono ?_
  rintro e w1 ⟨rfl, hr, hb, hs⟩
  have HO : Hid (OwnB w1 0 (.slice (some ⟨w.heap.size, 0, none⟩) zs.length zs.length) zs) := OwnB.ofRow hr HZ.out (by unfold maxLen; omega) (Nat.zero_le _)
  have HB1 : Hid (Below w.heap.size w w1) := hb
  have HS : Hid (w1.heap.size = w.heap.size + 1) := hs
  clear hr hb hs
  go_wp2
  go_ret
  refine ⟨by rw [HS.out]; rfl, ⟨?_, HO.out.alloc _, Nat.zero_le _, hm⟩, HB1.out.alloc (by rw [HS.out]; omega) _, by simp [HS.out]⟩
  rw [← HS.out]
  show (w1.heap.push _)[w1.heap.size]? = _
  simp

end Go.Proofs.YtkmafpfldnapjaaGreatDoor
