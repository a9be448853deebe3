import Derived.Test.YtiiplikmoodfnaaGreatDoorKLawAsmH
import Derived.Test.YtiiplikmoodfnaaGreatDoorKARd
import Derived.Deep.RegionHeld
import Derived.Test.YtiiplikmoodfnaaGreatDoorKLSearch
import Derived.Deep.DeepCutAuto
import Derived.Deep.MidRow
import Derived.Deep.RegionLaw
/-
  THE WALK OF landings.
-/
namespace Go.Proofs.YtiiplikmoodfnaaGreatDoor
open Go.RowKit Go.Sort Go.Shelf

def cellsB (L : List Bool) : Array Value := (L.map Value.bool).toArray
theorem infoBl : (Tryz.prog.info? 4).map (fun i => (i.zero, i.size, i.bytes)) = some (some (.bool false), 1, 1) := by kernel_rfl
theorem made_cellsB (n : Nat) : madeCells #[.bool false] n = cellsB (List.replicate n false) := by
  apply Array.ext'
  rw [toList_madeCells_one]
  simp [cellsB]
/-- BLOCK g IS A ROW OF BOOLS -/
def RowBl (w : World) (g : Nat) (L : List Bool) : Prop := w.heap[g]? = some (.cells (cellsB L) 4 (0, 0))
theorem RowBl.lt {w : World} {g : Nat} {L : List Bool} (h : RowBl w g L) : g < w.heap.size := (Array.getElem?_eq_some_iff.1 h).1
theorem RowBl.cell {w : World} {g : Nat} {L : List Bool} (h : RowBl w g L) {j : Nat} {x : Bool} (hx : L[j]? = some x) : w.cell? ⟨g, j, none⟩ = some (.bool x) := by
  simp [World.cell?, show w.heap[g]? = _ from h, cellsB, hx]
theorem RowBl.frozen {w : World} {g : Nat} {L : List Bool} (h : RowBl w g L) (j : Nat) : w.frozen? ⟨g, j, none⟩ = false := frozen_of_row w g j _ _ h
theorem RowBl.kept {w w1 : World} {g : Nat} {L : List Bool} (h : RowBl w g L) (hb : Below w.heap.size w w1) : RowBl w1 g L := (hb.block g h.lt).trans h
theorem RowBl.set {w : World} {g : Nat} {L : List Bool} (h : RowBl w g L) (i : Nat) (z : Bool) : RowBl (w.setCell ⟨g, i, none⟩ (.bool z)) g (L.set i z) := by
  have := heap_setCell_same w g i _ _ (.bool z) h
  unfold RowBl
  rw [this]
  simp [cellsB, List.map_set]
/-- does one of these go to the place? -/
def lndB (L : List K) (a : Nat) : Bool := L.any fun k => jumpB k.1 && decide (k.2 = (a : Int))
def lndL (L : List K) (n : Nat) : List Bool := (List.range (n + 1)).map (lndB L)
theorem lndL_nil (n : Nat) : lndL [] n = List.replicate (n + 1) false := by
  apply List.ext_getElem?
  intro i
  by_cases hi : i < n + 1
  · simp [lndL, lndB, hi]
  · simp [lndL, hi]
theorem lndL_get {L : List K} {n a : Nat} (h : a ≤ n) : (lndL L n)[a]? = some (lndB L a) := by simp [lndL, show a < n + 1 by omega]
theorem lndL_no {L : List K} {n : Nat} {k : K} (h : jumpB k.1 = false) : lndL (L ++ [k]) n = lndL L n := by
  unfold lndL
  refine List.map_congr_left fun a _ => ?_
  simp [lndB, h]
theorem lndL_yes {L : List K} {n a : Nat} {k : K} (h : jumpB k.1 = true) (ha : k.2 = (a : Int)) : lndL (L ++ [k]) n = (lndL L n).set a true := by
  apply List.ext_getElem?
  intro j
  rw [List.getElem?_set]
  by_cases hj : j < n + 1
  · by_cases e : a = j
    · subst e; simp [lndL, lndB, hj, h, ha]
    · have e' : ¬ (k.2 = (j : Int)) := by rw [ha]; omega
      simp [lndL, lndB, hj, h, e', e]
  · by_cases e : a = j
    · subst e; simp [lndL, hj]
    · simp [lndL, hj, e]

end Go.Proofs.YtiiplikmoodfnaaGreatDoor
/-
  ROWS OF TEXTS; THE WALK OF listProc.
-/
namespace Go.Proofs.YtiiplikmoodfnaaGreatDoor
open Go.RowKit Go.Sort Go.Shelf

/-- a row of texts of the call's own -/
def OwnS (w : World) (base : Nat) (v : Value) (xs : List Value) : Prop := w.ownsRow base 9 1 v xs.length xs
theorem OwnS.nil (w : World) (base : Nat) : OwnS w base (.slice none 0 0) [] := World.ownsRow_nil _ _ _ _
theorem OwnS.shape {w : World} {base : Nat} {v : Value} {xs : List Value} (h : OwnS w base v xs) :
    (v = .slice none 0 0 ∧ xs = []) ∨ ∃ g cap, v = .slice (some ⟨g, 0, none⟩) xs.length cap ∧ base ≤ g ∧ g < w.heap.size ∧ xs.length ≤ cap ∧ ∀ j x, xs[j]? = some x → w.cell? ⟨g, j, none⟩ = some x := by
  obtain ⟨hl, h⟩ := h
  rcases h with ⟨rfl, h0⟩ | ⟨g, cap, cur, rfl, hb, hg, hn, hm, hs, ht⟩
  · exact .inl ⟨rfl, List.eq_nil_of_length_eq_zero h0⟩
  · refine .inr ⟨g, cap, rfl, hb, (Array.getElem?_eq_some_iff.1 hg).1, hn, fun j u hu => ?_⟩
    have hj : j < xs.length * 1 := by rw [Nat.mul_one]; exact (List.getElem?_eq_some_iff.1 hu).1
    have e := World.ownsRow.cellAt (w := w) (base := base) (e := 9) (size := 1) (g := g) (cap := cap) ⟨hl, .inr ⟨g, cap, cur, rfl, hb, hg, hn, hm, hs, ht⟩⟩ j hj
    rw [e, hu]
theorem OwnS.lt {w : World} {base : Nat} {v : Value} {xs : List Value} (h : OwnS w base v xs) : ∀ k, v.ownBlock = some k → base ≤ k ∧ k < w.heap.size := World.ownsRow.lt h
theorem OwnS.same {w w1 : World} {base : Nat} {v : Value} {xs : List Value} (h : OwnS w base v xs) (hs : ∀ g, v.ownBlock = some g → w1.heap[g]? = w.heap[g]?) : OwnS w1 base v xs := by
  obtain ⟨hl, h⟩ := h
  refine ⟨hl, ?_⟩
  rcases h with h | ⟨g, cap, cur, rfl, hg, hh, r⟩
  · exact .inl h
  · exact .inr ⟨g, cap, cur, rfl, hg, (hs g rfl).trans hh, r⟩
theorem OwnS.kept {w w1 : World} {base : Nat} {v : Value} {xs : List Value} (h : OwnS w base v xs) (hb : Below w.heap.size w w1) : OwnS w1 base v xs := h.same fun g hg => hb.block g (h.lt g hg).2
theorem OwnS.grown {w w1 : World} {base : Nat} {v : Value} {xs : List Value} {row : Option Nat} (h : OwnS w base v xs) (hg : w.grownBy w1 row) (hne : ∀ b, v.ownBlock = some b → row ≠ some b) : OwnS w1 base v xs :=
  h.same fun g hgg => hg.block g (h.lt g hgg).2 (fun e => hne g hgg e.symm)
theorem infoS : (Tryz.prog.info? 9).map (fun i => (i.zero, i.size, i.bytes)) = some (some (.string ⟨#[]⟩), 1, 16) := by kernel_rfl
/-- the lines of the first k places -/
def bodyL (L : List K) : Nat → List (List UInt8)
  | 0 => []
  | k + 1 => bodyL L k ++ (if lndB L k = true then [labelL (k : Int) ++ [58]] else []) ++ [[32, 32] ++ instrL (cd L k)]
def endlL : List UInt8 := [101, 110, 100]
/-- a procedure's lines -/
def linesP (nm : List UInt8) (p : Nums) (L : List K) : List (List UInt8) := [flL nm p 4] ++ bodyL L L.length ++ (if lndB L L.length = true then [labelL (L.length : Int) ++ [58]] else []) ++ [endlL]
def tv (M : List (List UInt8)) : List Value := M.map fun l => Value.string (S l)
theorem tv_snoc (M : List (List UInt8)) (l : List UInt8) : tv (M ++ [l]) = tv M ++ [.string (S l)] := by simp [tv]
theorem tv_length (M : List (List UInt8)) : (tv M).length = M.length := by simp [tv]
theorem bodyL_length (L : List K) : ∀ k, (bodyL L k).length ≤ 2 * k
  | 0 => by simp [bodyL]
  | k + 1 => by
    have := bodyL_length L k
    simp only [bodyL, List.length_append, List.length_cons, List.length_nil]
    split <;> simp <;> omega
/-- what stands while the lines are laid -/
structure LnS (w W : World) (B g : Nat) (bs : List Bool) (v : Value) (M : List (List UInt8)) : Prop where
  own : OwnS W B v (tv M)
  row : RowBl W g bs
  gb : g < B
  bel : Below w.heap.size w W
  wb : w.heap.size ≤ B
  bw : B ≤ W.heap.size
theorem LnS.kept {w W W' : World} {B g : Nat} {bs : List Bool} {v : Value} {M : List (List UInt8)} (h : LnS w W B g bs v M) (hb : Below W.heap.size W W') : LnS w W' B g bs v M :=
  ⟨h.own.kept hb, h.row.kept hb, h.gb, h.bel.trans (hb.mono h.bel.size), h.wb, Nat.le_trans h.bw hb.size⟩
theorem LnS.put {w W W' : World} {B g : Nat} {bs : List Bool} {v v' : Value} {M : List (List UInt8)} {l : List UInt8} (h : LnS w W B g bs v M) (ho : OwnS W' B v' (tv M ++ [.string (S l)])) (hg : W.grownBy W' v.ownBlock) : LnS w W' B g bs v' (M ++ [l]) := by
  have hv : ∀ k, v.ownBlock = some k → B ≤ k := fun k hk => (h.own.lt k hk).1
  refine ⟨by rw [tv_snoc]; exact ho, (hg.block g h.row.lt (fun e => by have := hv g e.symm; have := h.gb; omega)).trans h.row, h.gb, ?_, h.wb, Nat.le_trans h.bw hg.size⟩
  exact h.bel.trans (below_grown hg (fun k hk => by have := hv k hk; have := h.wb; omega) h.bel.size)
theorem OwnS.opn {w : World} {base : Nat} {v : Value} {xs : List Value} (h : OwnS w base v xs) : ∃ a c, v = .slice a xs.length c := by
  rcases h.shape with ⟨rfl, rfl⟩ | ⟨g, cap, rfl, _⟩
  · exact ⟨none, 0, rfl⟩
  · exact ⟨_, cap, rfl⟩
theorem ls_len {W : World} {B : Nat} {a : Option Addr} {l c : Nat} {xs : List Value} (h : OwnS W B (.slice a l c) xs) : xs.length = l := by
  rcases h.shape with ⟨e, rfl⟩ | ⟨g, cap, e, _⟩
  · injection e with e1 e2 e3; rw [e2]; rfl
  · injection e with e1 e2 e3; exact e2.symm
theorem own_mono {W : World} {B B' : Nat} {v : Value} {xs : List Value} (h : OwnS W B v xs) (hb : B' ≤ B) : OwnS W B' v xs := by
  obtain ⟨hl, h⟩ := h
  refine ⟨hl, ?_⟩
  rcases h with h | ⟨g, cap, cur, e, hg, r⟩
  · exact .inl h
  · exact .inr ⟨g, cap, cur, e, by omega, r⟩
/-- an instruction in a box -/
def KBx (W : World) (B : Nat) (op A : Int) : Prop := W.heap[B]? = some (.cells #[.int .i64 op, .int .i64 A] 76 (0, 0))
theorem KBx.lt {W : World} {B : Nat} {op A : Int} (h : KBx W B op A) : B < W.heap.size := (Array.getElem?_eq_some_iff.1 h).1
theorem KBx.cells {W : World} {B : Nat} {op A : Int} (h : KBx W B op A) : W.cell? ⟨B, 0, none⟩ = some (.int .i64 op) ∧ W.cell? ⟨B, 1, none⟩ = some (.int .i64 A) := by constructor <;> simp [World.cell?, show W.heap[B]? = _ from h]
/-- what every program holds -/
structure PQ (w : World) (ao : Option Addr) (L : List K) : Prop where
  ks : KeysAt w ao L
  kin : ∀ k ∈ L, KIn k
  jmp : ∀ k ∈ L, jumpB k.1 = true → 0 ≤ k.2 ∧ k.2 ≤ (L.length : Int)
  big : L.length ≤ 256
structure Vs (w : World) : Prop where
  nm : NmAt w
  nw : NwAt w
  dv : DigVars w
theorem Vs.kept {w w1 : World} (h : Vs w) (hb : Below w.heap.size w w1) : Vs w1 := ⟨h.nm.kept hb, h.nw.kept hb, h.dv.kept hb⟩

end Go.Proofs.YtiiplikmoodfnaaGreatDoor
/-
  THE WALKS OF codec.Reader's METHODS: Uint, Int, Raw.
-/
namespace Go.Proofs.YtiiplikmoodfnaaGreatDoor
open Go.RowKit


/-- a number without sign as one with -/
def unfold (n : Nat) : Int := if n % 2 = 1 then -1 - ((n / 2 : Nat) : Int) else ((n / 2 : Nat) : Int)

theorem rdUpto_lt (b : List Nat) (hz : ∀ z ∈ b, z < 256) (p : Nat) (e : Int) (most : Nat) : (rdUpto b p e most).1 < 18446744073709551616 := by
  unfold rdUpto
  split
  · simp
  · split
    · simp
    · split
      · simp
      · rename_i _ h _
        have h3 := scan_one (b.drop p) (scan (b.drop p)).1 (scan (b.drop p)).2.1 (fun z hz' => hz z (List.mem_of_mem_drop hz')) (by rw [← Decidable.not_not.1 h])
        exact h3.1


def rdRaw (b : List Nat) (p : Nat) (e : Int) (n : Int) : List Nat × Nat × Int :=
  if e ≠ 0 then ([], p, e) else if n < 0 then ([], p, 11) else if ((b.length - p : Nat) : Int) < n then ([], p, 10) else ((b.drop p).take n.toNat, p + n.toNat, 0)


end Go.Proofs.YtiiplikmoodfnaaGreatDoor
/-
  THE WALKS OF codec.Reader's METHODS: Bytes, End; codec.Read.
-/
namespace Go.Proofs.YtiiplikmoodfnaaGreatDoor
open Go.RowKit

def rdBytes (b : List Nat) (p : Nat) (e : Int) (most : Int) : List Nat × Nat × Int :=
  if e ≠ 0 then ([], p, e) else if (scan (b.drop p)).2.2 ≠ 0 then ([], p, (((scan (b.drop p)).2.2 : Nat) : Int)) else if most < 0 ∨ most < (((scan (b.drop p)).1 : Nat) : Int) then ([], p, 12)
  else if b.length - p - (scan (b.drop p)).2.1 < (scan (b.drop p)).1 then ([], p, 10) else rdRaw b (p + (scan (b.drop p)).2.1) 0 (((scan (b.drop p)).1 : Nat) : Int)


end Go.Proofs.YtiiplikmoodfnaaGreatDoor
/-
  WHAT IS READ BACK OF WHAT WAS WRITTEN.
-/
namespace Go.Proofs.YtiiplikmoodfnaaGreatDoor
open Go.RowKit

theorem unfold_fold (z : Int) (h0 : -9223372036854775808 ≤ z) (h1 : z ≤ 9223372036854775807) : unfold (fold z) = z := by
  unfold unfold fold
  split <;> split <;> omega
theorem rdRaw_ok (b : List Nat) (p n : Nat) (h : n ≤ b.length - p) : rdRaw b p 0 (n : Int) = ((b.drop p).take n, p + n, 0) := by
  unfold rdRaw
  rw [if_neg (by simp), if_neg (by omega), if_neg (by omega)]
  rfl
theorem rdByte_at (b : List Nat) (p z : Nat) (R : List Nat) (h : b.drop p = z :: R) : rdByte b p 0 = (z, p + 1, 0) := by
  have hl : p < b.length := by
    have := congrArg List.length h
    rw [List.length_drop, List.length_cons] at this
    omega
  have hg : b.getD p 0 = z := by
    rw [List.drop_eq_getElem_cons hl] at h
    rw [List.getD_eq_getElem?_getD, List.getElem?_eq_getElem hl]
    exact (List.cons.inj h).1
  unfold rdByte
  rw [if_neg (by simp), if_neg (by omega), hg]
theorem scan_at (n : Nat) (hn : n < 18446744073709551616) (R : List Nat) : scan (uint 10 n ++ R) = (n, (uint 10 n).length, 0) := by
  have h := scan_uint R 9 0 0 n (by omega) (by simpa using hn) (by omega)
  simpa [scan] using h
theorem rdUpto_at (b : List Nat) (p n most : Nat) (R : List Nat) (hn : n < 18446744073709551616) (hm : n ≤ most) (h : b.drop p = uint 10 n ++ R) : rdUpto b p 0 most = (n, p + (uint 10 n).length, 0) := by
  unfold rdUpto
  rw [h, scan_at n hn R]
  simp only [ne_eq, not_true, if_false]
  rw [if_neg (by omega)]
theorem rdRaw_at (b : List Nat) (p : Nat) (bs R : List Nat) (h : b.drop p = bs ++ R) : rdRaw b p 0 (bs.length : Int) = (bs, p + bs.length, 0) := by
  have hl := congrArg List.length h
  rw [List.length_drop, List.length_append] at hl
  rw [rdRaw_ok b p bs.length (by omega), h, List.take_left]
theorem rdBytes_at (b : List Nat) (p : Nat) (bs R : List Nat) (hn : bs.length < 18446744073709551616) (h : b.drop p = uint 10 bs.length ++ bs ++ R) : rdBytes b p 0 (bs.length : Int) = (bs, p + (uint 10 bs.length ++ bs).length, 0) := by
  have hl := congrArg List.length h
  rw [List.length_drop, List.length_append, List.length_append] at hl
  have h2 : b.drop (p + (uint 10 bs.length).length) = bs ++ R := by
    rw [← List.drop_drop, h, List.append_assoc, List.drop_left]
  unfold rdBytes
  rw [h, List.append_assoc, scan_at bs.length hn]
  simp only [ne_eq, not_true, if_false]
  rw [if_neg (by omega), if_neg (by omega), rdRaw_at b _ bs R h2, List.length_append]
  congr 2
  omega
end Go.Proofs.YtiiplikmoodfnaaGreatDoor
/-
  THE WALKS OF Fail, Err.
-/
namespace Go.Proofs.YtiiplikmoodfnaaGreatDoor
open Go.RowKit

end Go.Proofs.YtiiplikmoodfnaaGreatDoor
/-
  WHAT A Reader's CALLS KEEP.
-/
namespace Go.Proofs.YtiiplikmoodfnaaGreatDoor
open Go.RowKit

end Go.Proofs.YtiiplikmoodfnaaGreatDoor
/-
  THE WALKS OF getInstr, Get.
-/
namespace Go.Proofs.YtiiplikmoodfnaaGreatDoor
open Go.RowKit Go.Sort

theorem and63 : ∀ z : Nat, z < 256 → bits .and .u8 (z : Int) 63 = (z : Int) % 64 := by decide +kernel
theorem and128 : ∀ z : Nat, z < 256 → (bits .and .u8 (z : Int) 128 != 0) = decide (128 ≤ z) := by decide +kernel
theorem and64 : ∀ z : Nat, z < 256 → (bits .and .u8 (z : Int) 64 != 0) = decide (z / 64 % 2 = 1) := by decide +kernel
/-- what Fail leaves -/
def failE (e x : Int) : Int := if e = 0 then x else e
/-- the error behind an instruction's byte -/
def getE2 (z : Nat) (e : Int) : Int := if isOpB ((z : Int) % 64) = false ∨ 128 ≤ z then failE e 31 else e
/-- what follows its byte -/
def getT (b : List Nat) (z p : Nat) (e : Int) : K × Nat × Int :=
  if z / 64 % 2 = 1 then (((z : Int) % 64, unfold (rdUpto b p e 18446744073709551615).1), (rdUpto b p e 18446744073709551615).2.1, if unfold (rdUpto b p e 18446744073709551615).1 = 0 then failE (rdUpto b p e 18446744073709551615).2.2 11 else (rdUpto b p e 18446744073709551615).2.2)
  else (((z : Int) % 64, 0), p, e)
/-- an instruction, the place behind it, the error -/
def getI (b : List Nat) (p : Nat) (e : Int) : K × Nat × Int := getT b (rdByte b p e).1 (rdByte b p e).2.1 (getE2 (rdByte b p e).1 (rdByte b p e).2.2)
theorem rdByte_lt {b : List Nat} (hz : ∀ z ∈ b, z < 256) (p : Nat) (e : Int) : (rdByte b p e).1 < 256 := by
  unfold rdByte
  split
  · simp
  · split
    · simp
    · exact getD_lt hz p
end Go.Proofs.YtiiplikmoodfnaaGreatDoor
/-
  THE WALK OF Get.
-/
namespace Go.Proofs.YtiiplikmoodfnaaGreatDoor
open Go.RowKit Go.Sort

/-- k instructions one behind the other -/
def getL (b : List Nat) (p : Nat) (e : Int) : Nat → List K × Nat × Int
  | 0 => ([], p, e)
  | k + 1 => ((getL b p e k).1 ++ [(getI b (getL b p e k).2.1 (getL b p e k).2.2).1], (getI b (getL b p e k).2.1 (getL b p e k).2.2).2.1, (getI b (getL b p e k).2.1 (getL b p e k).2.2).2.2)
theorem getL_length (b : List Nat) (p : Nat) (e : Int) : ∀ k, (getL b p e k).1.length = k
  | 0 => rfl
  | k + 1 => by simp [getL, getL_length b p e k]
/-- the five numbers ahead -/
def getH (b : List Nat) (p : Nat) (e : Int) : Nums × Nat × Nat × Int :=
  let x0 := rdUpto b p e 16
  let x1 := rdUpto b x0.2.1 x0.2.2 16
  let x2 := rdUpto b x1.2.1 x1.2.2 16
  let x3 := rdUpto b x2.2.1 x2.2.2 16
  let x4 := rdUpto b x3.2.1 x3.2.2 256
  (⟨x0.1, x1.1, x2.1, x3.1⟩, x4.1, x4.2.1, x4.2.2)
/-- a program, the place behind it, the error -/
def getP (b : List Nat) (p : Nat) (e : Int) : Nums × List K × Nat × Int :=
  let h := getH b p e
  let l := getL b h.2.2.1 h.2.2.2 h.2.1
  if l.2.2 = 0 then (h.1, l.1, l.2.1, l.2.2) else (⟨0, 0, 0, 0⟩, [], l.2.1, l.2.2)
theorem rdUpto_most (b : List Nat) (p : Nat) (e : Int) (most : Nat) : (rdUpto b p e most).1 ≤ most := by
  unfold rdUpto
  repeat' split
  all_goals (try simp)
  all_goals omega
end Go.Proofs.YtiiplikmoodfnaaGreatDoor
/-
  A PROGRAM IS READ BACK OF ITS BYTES.
-/
namespace Go.Proofs.YtiiplikmoodfnaaGreatDoor
open Go.RowKit Go.Sort

theorem fold_zero {a : Int} (h : unfold (fold a) = a) (ha : a ≠ 0) : unfold (fold a) ≠ 0 := by rw [h]; exact ha
theorem drop_at {b X R : List Nat} {p : Nat} (h : b.drop p = X ++ R) : b.drop (p + X.length) = R := by
  rw [← List.drop_drop, h, List.drop_left]
theorem getI_at (b : List Nat) (p : Nat) (k : K) (R : List Nat) (ho : isOpB k.1 = true) (hk : KIn k) (h : b.drop p = instrB k ++ R) : getI b p 0 = (k, p + (instrB k).length, 0) := by
  obtain ⟨op, a⟩ := k
  have ho' := ho
  simp only [isOpB, Bool.and_eq_true, decide_eq_true_eq] at ho'
  obtain ⟨o, rfl⟩ := Int.eq_ofNat_of_zero_le ho'.1
  have ho1 : o < 37 := by omega
  have hu := unfold_fold a hk.2.1 hk.2.2
  by_cases h0 : a = 0
  · subst h0
    have e1 : instrB ((o : Int), 0) = [o] := by simp [instrB]
    rw [e1] at h ⊢
    have hb := rdByte_at b p o R h
    have e2 : (o : Int) % 64 = o := by omega
    unfold getI
    rw [hb]
    simp only [getE2, e2]
    rw [if_neg (by rw [ho]; simp; omega)]
    unfold getT
    rw [if_neg (by omega), e2]
    rfl
  · have e1 : instrB ((o : Int), a) = (o + 64) :: uint 10 (fold a) := by simp [instrB, h0]
    rw [e1] at h ⊢
    have hb := rdByte_at b p (o + 64) (uint 10 (fold a) ++ R) h
    have hd : b.drop (p + 1) = uint 10 (fold a) ++ R := drop_at (X := [o + 64]) h
    have hr := rdUpto_at b (p + 1) (fold a) 18446744073709551615 R (fold_lt a hk.2.1 hk.2.2) (by have := fold_lt a hk.2.1 hk.2.2; omega) hd
    have e2 : ((o + 64 : Nat) : Int) % 64 = o := by omega
    unfold getI
    rw [hb]
    simp only [getE2, e2]
    rw [if_neg (by rw [ho]; simp; omega)]
    unfold getT
    rw [if_pos (by omega), hr, e2]
    simp only [hu]
    rw [if_neg h0]
    simp
    omega
theorem getL_at (b : List Nat) (p : Nat) (L : List K) (R : List Nat) (ho : opsB L = true) (hk : ∀ k ∈ L, KIn k) (h : b.drop p = codeB L ++ R) : ∀ k, k ≤ L.length → getL b p 0 k = (L.take k, p + (codeB (L.take k)).length, 0)
  | 0, _ => by simp [getL, codeB]
  | k + 1, hkl => by
    have ih := getL_at b p L R ho hk h k (by omega)
    have hlt : k < L.length := by omega
    have hc := codeB_take L k hlt
    have hsp : codeB L = codeB (L.take (k + 1)) ++ codeB (L.drop (k + 1)) := by rw [← codeB_append, List.take_append_drop]
    have hd : b.drop (p + (codeB (L.take k)).length) = instrB (cd L k) ++ (codeB (L.drop (k + 1)) ++ R) := by
      refine drop_at (X := codeB (L.take k)) ?_
      rw [h, hsp, hc]; simp
    have hi := getI_at b _ (cd L k) _ (opsB_cd ho hlt) (hk _ (cd_mem hlt)) hd
    simp only [getL, ih, hi]
    have ht : L.take (k + 1) = L.take k ++ [cd L k] := by
      rw [List.take_succ_eq_append_getElem hlt]; simp [cd, List.getD_eq_getElem?_getD, List.getElem?_eq_getElem hlt]
    rw [hc, ht, List.length_append, Nat.add_assoc]
theorem getP_at (b : List Nat) (p : Nat) (q : Nums) (L : List K) (R : List Nat) (hl : limB q L.length = true) (ho : opsB L = true) (hk : ∀ k ∈ L, KIn k) (h : b.drop p = progB q L ++ R) : getP b p 0 = (q, L, p + (progB q L).length, 0) := by
  obtain ⟨⟨a0, a1⟩, ⟨r0, r1⟩, ⟨w0, w1⟩, ⟨l0, l1⟩, hn⟩ := (limB_iff q L.length).1 hl
  have hH : headB q L.length 5 = uint 10 q.args.toNat ++ (uint 10 q.reads.toNat ++ (uint 10 q.writes.toNat ++ (uint 10 q.locals.toNat ++ (uint 10 L.length ++ [])))) := rfl
  have h0 : b.drop p = uint 10 q.args.toNat ++ (uint 10 q.reads.toNat ++ (uint 10 q.writes.toNat ++ (uint 10 q.locals.toNat ++ (uint 10 L.length ++ (codeB L ++ R))))) := by
    rw [h]; unfold progB; rw [hH]; simp
  have x0 := rdUpto_at b p q.args.toNat 16 _ (by omega) (by omega) h0
  have d1 := drop_at h0
  have x1 := rdUpto_at b _ q.reads.toNat 16 _ (by omega) (by omega) d1
  have d2 := drop_at d1
  have x2 := rdUpto_at b _ q.writes.toNat 16 _ (by omega) (by omega) d2
  have d3 := drop_at d2
  have x3 := rdUpto_at b _ q.locals.toNat 16 _ (by omega) (by omega) d3
  have d4 := drop_at d3
  have x4 := rdUpto_at b _ L.length 256 _ (by omega) (by omega) d4
  have d5 := drop_at d4
  have hg := getL_at b _ L R ho hk d5 L.length (Nat.le_refl _)
  rw [List.take_length] at hg
  have hh : getH b p 0 = (⟨(q.args.toNat : Int), (q.reads.toNat : Int), (q.writes.toNat : Int), (q.locals.toNat : Int)⟩, L.length, p + (uint 10 q.args.toNat).length + (uint 10 q.reads.toNat).length + (uint 10 q.writes.toNat).length + (uint 10 q.locals.toNat).length + (uint 10 L.length).length, 0) := by
    simp only [getH, x0, x1, x2, x3, x4]
  have hq : (⟨(q.args.toNat : Int), (q.reads.toNat : Int), (q.writes.toNat : Int), (q.locals.toNat : Int)⟩ : Nums) = q := by
    obtain ⟨y0, y1, y2, y3⟩ := q
    simp only at a0 r0 w0 l0
    simp only [Nums.mk.injEq]; omega
  rw [hq] at hh
  simp only [getP, hh, hg]
  rw [if_pos trivial]
  unfold progB
  rw [hH]
  simp only [List.length_append, List.length_nil, Prod.mk.injEq, true_and, and_true]
  omega
end Go.Proofs.YtiiplikmoodfnaaGreatDoor
/-
  THE WALKS OF codec.Reader's METHODS: End; codec.Read.
-/
namespace Go.Proofs.YtiiplikmoodfnaaGreatDoor
open Go.RowKit

def rdEnd (b : List Nat) (p : Nat) (e : Int) : Int := if e = 0 ∧ p < b.length then 11 else e


end Go.Proofs.YtiiplikmoodfnaaGreatDoor
