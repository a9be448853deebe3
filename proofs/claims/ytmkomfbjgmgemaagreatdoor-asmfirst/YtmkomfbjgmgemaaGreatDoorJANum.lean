import Derived.Test.YtmkomfbjgmgemaaGreatDoorJBytes
import Derived.Test.YtmkomfbjgmgemaaGreatDoorJARead
import Derived.Deep.RegionHeld3
import Derived.Deep.QuietTactic
import Derived.Test.YtmkomfbjgmgemaaGreatDoorJLStr
/-
  THE WALK OF codec.Number (beside ALBase).
-/
namespace Go.Proofs.YtmkomfbjgmgemaaGreatDoor
open Go.RowKit Go.Shelf

/-- what the library's variables hold -/
def NumVars (w : World) : Prop :=
  Lib.TabIs Tryz.prog w "internal/strconv.uint64pow10" .u64 Lib.pow10Tab ∧ (∃ tp p, w.var? Tryz.prog "strconv.ErrSyntax" = some #[.iface tp p]) ∧ (∃ tp p, w.var? Tryz.prog "strconv.ErrRange" = some #[.iface tp p])

theorem gBad : Tryz.prog.globalNamed "strconv.ErrSyntax" = some 3 := by kernel_rfl
theorem gRange : Tryz.prog.globalNamed "strconv.ErrRange" = some 4 := by kernel_rfl
theorem NumVars.kept {w w1 : World} (h : NumVars w) (hb : Below w.heap.size w w1) : NumVars w1 := by
  obtain ⟨h1, ⟨tp, p, h2⟩, tq, q, h3⟩ := h
  exact ⟨var_kept gPow h1 hb, ⟨tp, p, var_kept gBad h2 hb⟩, tq, q, var_kept gRange h3 hb⟩

theorem digits_anyN (w : World) (n : Int) (h0 : -9223372036854775808 ≤ n) (h1 : n ≤ 9223372036854775807) (hv : NumVars w) :
    Calls Tryz.prog 18 #[.int .i64 n] w fun e w' => e = .returned (.string ⟨(Lib.itoa n).toArray⟩) ∧ Below w.heap.size w w' := by
  have HV : Hid (NumVars w) := hv
  clear hv
  go_enter Tryz.func18, Tryz.ntmps18
  go_wp2_with fail
  refine (formatInt_any w n h0 h1 HV.out.1).mono ?_
  rintro e w1 ⟨rfl, hb⟩
  go_wp2
  go_ret
  exact ⟨rfl, hb⟩

theorem parse_ok (w : World) (s : ByteArray) (hs : s.size ≤ 9223372036854775806) (v : Int) (h : Lib.parseIntB 64 s.data.toList = .ok v) :
    Calls Tryz.prog 17 #[.string s, .int .i64 10, .int .i64 64] w fun e w' => e = .returned (.tuple #[.int .i64 v, .nilIface]) ∧ Below w.heap.size w w' := by
  refine (show Calls Tryz.prog 17 #[.string s, .int .i64 10, .int .i64 64] w _ from Any.strconv_ParseInt_10_at64_ok laysC174 s hs v h w).mono ?_
  rintro e w' ⟨rfl, h1⟩
  refine ⟨rfl, ?_⟩
  rcases h1 with rfl | ⟨t, rfl⟩
  · exact Below.refl _ _
  · exact Lib.bytesWorld_below w _ t
theorem parse_bad (w : World) (s : ByteArray) (hs : s.size ≤ 281474976710656) (h : ∀ v, Lib.parseIntB 64 s.data.toList ≠ .ok v) (hv : NumVars w) :
    Calls Tryz.prog 17 #[.string s, .int .i64 10, .int .i64 64] w fun e w' => ∃ x N, e = .returned (.tuple #[.int .i64 x, .iface 136 (.pointer (some ⟨N, 0, none⟩))]) ∧ Below w.heap.size w w' := by
  obtain ⟨_, ⟨tp, p, h2⟩, tq, q, h3⟩ := hv
  cases hh : Lib.parseIntB 64 s.data.toList with
  | ok v => exact absurd hh (h v)
  | range =>
    refine (show Calls Tryz.prog 17 #[.string s, .int .i64 10, .int .i64 64] w _ from Any.strconv_ParseInt_10_at64_range_var laysC174 s hs hh tq q w h3).mono ?_
    rintro e w' ⟨N, rfl, _, _, hb⟩
    exact ⟨_, N, rfl, hb⟩
  | _ =>
    refine (show Calls Tryz.prog 17 #[.string s, .int .i64 10, .int .i64 64] w _ from Any.strconv_ParseInt_10_at64_syntax_var laysC174 s hs hh tp p w h2).mono ?_
    rintro e w' ⟨N, rfl, _, _, hb⟩
    exact ⟨_, N, rfl, hb⟩

set_option maxHeartbeats 400000 in
theorem number_any (w : World) (s : ByteArray) (hs : s.size ≤ 281474976710656) (hv : NumVars w) :
    Calls Tryz.prog 8 #[.string s] w fun e w' => e = .returned (.tuple #[.int .i64 (Dec.num1 s.data.toList).1, .bool (Dec.num1 s.data.toList).2]) ∧ Below w.heap.size w w' := by
  have HV : Hid (NumVars w) := hv
  clear hv
  by_cases hx : ∃ v, Lib.parseIntB 64 s.data.toList = .ok v
  · obtain ⟨v, hx⟩ := hx
    have HX : Hid (Lib.parseIntB 64 s.data.toList = .ok v) := hx
    have vb := Dec.parse_bounds hx
    clear hx
    go_enter Tryz.func8, Tryz.ntmps8
    go_wp2_with fail
    refine (parse_ok w s (by omega) v HX.out).mono ?_
    rintro e w1 ⟨rfl, hb1⟩
    have HV1 : Hid (NumVars w1) := HV.out.kept hb1
    have HB1 : Hid (Below w.heap.size w w1) := hb1
    clear hb1
    go_wp2_with fail
    refine (digits_anyN w1 v vb.1 vb.2 HV1.out).mono ?_
    rintro e w2 ⟨rfl, hb2⟩
    have HB2 : Hid (Below w.heap.size w w2) := HB1.out.trans (hb2.mono HB1.out.size)
    clear hb2
    by_cases hE : Lib.itoa v = s.data.toList
    · have hB : (!Lib.itoa v == s.toList) = false := by rw [byteList s]; simp [hE]
      have HE : Hid (Dec.num1 s.data.toList = (v, true)) := by unfold Dec.num1; rw [Hid, HX.out]; simp [hE]
      clear hE
      go_wp2
      go_ret2
      exact ⟨by rw [HE.out]; rfl, HB2.out⟩
    · have hB : (!Lib.itoa v == s.toList) = true := by rw [byteList s]; simp [hE]
      have HE : Hid (Dec.num1 s.data.toList = (0, false)) := by unfold Dec.num1; rw [Hid, HX.out]; simp [hE]
      clear hE
      go_wp2
      go_ret2
      exact ⟨by rw [HE.out]; rfl, HB2.out⟩
  · have HX : Hid (∀ v, Lib.parseIntB 64 s.data.toList ≠ .ok v) := fun v h => hx ⟨v, h⟩
    have HE : Hid (Dec.num1 s.data.toList = (0, false)) := by
      unfold Dec.num1; rw [Hid]
      split
      · rename_i v h; exact absurd h (HX.out v)
      · rfl
    clear hx
    go_enter Tryz.func8, Tryz.ntmps8
    go_wp2_with fail
    refine (parse_bad w s (by omega) HX.out HV.out).mono ?_
    rintro e w1 ⟨x, N, rfl, hb1⟩
    go_wp2
    go_ret2
    exact ⟨by rw [HE.out]; rfl, hb1⟩

end Go.Proofs.YtmkomfbjgmgemaaGreatDoor
/-
  A LINE's READER: number.
-/
namespace Go.Proofs.YtmkomfbjgmgemaaGreatDoor
open Go.RowKit Go.Sort

theorem var_keptN {C : Nat} {w w1 : World} {n : String} {cs : Array Value} {g : Nat} (hg : Tryz.prog.globalNamed n = some g) (h : w.var? Tryz.prog n = some cs) (hb : Go.RowKit.Below C w w1) (hC : g < C) : w1.var? Tryz.prog n = some cs := var?_below hb hg hC h
theorem NumVars.bx {r : Nat} {w w1 : World} (h : NumVars w) (hb : Bx r w w1) (hr : 8 ≤ r) (hs : 8 ≤ w.heap.size) : NumVars w1 := by
  have hb' : Go.RowKit.Below 8 w w1 := ⟨hb.os, hb.tape, hb.output, hb.size, fun k hk => hb.block k (by omega) (by omega)⟩
  obtain ⟨h1, ⟨tp, p, h2⟩, tq, q, h3⟩ := h
  exact ⟨var_keptN gPow h1 hb' (by decide), ⟨tp, p, var_keptN gBad h2 hb' (by decide)⟩, tq, q, var_keptN gRange h3 hb' (by decide)⟩
/-- number's answers -/
def NumPost (Z : Nat → Prop) (W : World) (r : Nat) (rd : Rd) (e : Ending) (w' : World) : Prop :=
  (∃ v col n, rNum rd = .error (col, n) ∧ e = .returned (.tuple #[.int .i64 0, v]) ∧ ErrAt w' v 0 col n ∧ Bx r W w') ∨
  (∃ z rd', rNum rd = .ok (z, rd') ∧ e = .returned (.tuple #[.int .i64 z, .nilIface]) ∧ RB Z w' r rd' ∧ Bx r W w')
set_option maxRecDepth 100000 in
set_option maxHeartbeats 1000000 in
theorem number_rd {Z : Nat → Prop} (w : World) (r : Nat) (rd : Rd) (h : RB Z w r rd) (hs : SmallW rd.1) (hv : NumVars w) (hr : 8 ≤ r) (hz : 8 ≤ w.heap.size) : Calls Tryz.prog 48 #[.pointer (some ⟨r, 0, none⟩)] w fun e w' => NumPost Z w r rd e w' := by
  have HC := next_any w r rd h hs
  have HV : Hid (∀ W, Bx r w W → NumVars W) := fun W hb => hv.bx hb hr hz
  have HSm : Hid (∀ x rd', rNext rd = .ok (x, rd') → x.1.length ≤ 1000000) := fun x rd' hx => by
    obtain ⟨ws, bh⟩ := rd
    obtain ⟨ws', bh'⟩ := rd'
    obtain ⟨rfl, _⟩ := next_inv hx
    have := hs.1 x (List.mem_cons_self ..)
    omega
  clear h hs hv
  go_enter Tryz.func48, Tryz.ntmps48
  go_wp2_with fail
  refine HC.mono ?_
  rintro e w1 (⟨v, col, h1, rfl, h3, h4, h5⟩ | ⟨x, rd', h1, rfl, h3, h4⟩)
  · obtain ⟨b, rfl, hb⟩ := h3
    have HE : Hid (NumPost Z w r rd (.returned (.tuple #[.int .i64 0, .iface 58 (.pointer (some ⟨b, 0, none⟩))])) (w1.alloc (.cells #[.string ⟨#[]⟩, .int .i64 0] 76))) := .inl ⟨_, col, 40, by unfold rNum; rw [h1], rfl, ErrAt.kept ⟨b, rfl, hb⟩ (bel_al _ _), h5.trans (Bx.bel (bel_al _ _))⟩
    clear h1 h4 h5 hb
    go_wp2_with fail
    go_ret2
    exact HE.out
  · have HB : Hid (Bx r w (w1.alloc (.cells #[.string (S x.1), .int .i64 (x.2 : Int)] 76))) := h4.trans (Bx.bel (bel_al _ _))
    have hsx := HSm.out x rd' h1
    have HW : Hid (WB (w1.alloc (.cells #[.string (S x.1), .int .i64 (x.2 : Int)] 76)) w1.heap.size (.string (S x.1)) (.int .i64 (x.2 : Int))) := heap_alloc_new _ _ rfl
    have HN := number_any (w1.alloc (.cells #[.string (S x.1), .int .i64 (x.2 : Int)] 76)) (S x.1) (by rw [S_size]; omega) (HV.out _ HB.out)
    rw [show (S x.1).data.toList = x.1 by simp [S]] at HN
    have HRb : Hid (RB Z (w1.alloc (.cells #[.string (S x.1), .int .i64 (x.2 : Int)] 76)) r rd') := h3.kept (bel_al _ _)
    have H1 : Hid (rNext rd = .ok (x, rd')) := h1
    clear h1 h3 h4
    obtain ⟨z, hzz⟩ : ∃ z, z = (Dec.num1 x.1).1 := ⟨_, rfl⟩
    obtain ⟨b, hbb⟩ : ∃ b, b = (Dec.num1 x.1).2 := ⟨_, rfl⟩
    rw [← hzz, ← hbb] at HN
    go_wp2_with fail
    refine HN.mono ?_
    rintro e w2 ⟨rfl, k2⟩
    have HB2 : Hid (Bx r w w2) := HB.out.trans (Bx.bel k2)
    have HW2 : Hid (WB w2 w1.heap.size (.string (S x.1)) (.int .i64 (x.2 : Int))) := (k2.block w1.heap.size (by simp)).trans HW.out
    cases b with
    | true =>
      have HE : Hid (NumPost Z w r rd (.returned (.tuple #[.int .i64 z, .nilIface])) w2) := .inr ⟨z, rd', by unfold rNum; rw [H1.out]; simp [← hbb, hzz], rfl, HRb.out.kept k2, HB2.out⟩
      clear k2 HN hzz hbb
      go_wp2_with fail
      go_ret2
      exact HE.out
    | false =>
      have HE1 : Hid (rNum rd = .error (x.2, 41)) := by show _ = _; unfold rNum; rw [H1.out]; simp [← hbb]
      obtain ⟨q0, q1, _, _⟩ := HW2.out.cells
      have HWr := wrong_any w2 x.2 41
      clear k2 HN hzz hbb
      go_wp2_with fail
      refine HWr.mono ?_
      rintro e w3 ⟨v, rfl, m1, m2⟩
      have HE : Hid (NumPost Z w r rd (.returned (.tuple #[.int .i64 0, v])) w3) := .inl ⟨v, x.2, 41, HE1.out, rfl, m1, HB2.out.trans (Bx.bel m2)⟩
      clear m1 m2 HWr
      go_wp2_with fail
      go_ret2
      exact HE.out
end Go.Proofs.YtmkomfbjgmgemaaGreatDoor
/-
  THE ASSEMBLY's BOX: spot, program.
-/
namespace Go.Proofs.YtmkomfbjgmgemaaGreatDoor
open Go.RowKit Go.Sort

/-- block B is an assembly: line, lib, names, isOpen, begun, labels, jumps -/
def AB (W : World) (B : Nat) (line : Nat) (vl vn : Value) (o : Bool) (b1 b2 : Nat) (vm vj : Value) : Prop := W.heap[B]? = some (.cells #[.int .i64 (line : Int), vl, vn, .bool o, .int .i64 (b1 : Int), .int .i64 (b2 : Int), vm, vj] 53 (0, 0))
section
variable {W W' : World} {B line b1 b2 : Nat} {vl vn vm vj : Value} {o : Bool}
theorem AB.cells (h : AB W B line vl vn o b1 b2 vm vj) : W.cell? ⟨B, 0, none⟩ = some (.int .i64 (line : Int)) ∧ W.cell? ⟨B, 1, none⟩ = some vl ∧ W.cell? ⟨B, 2, none⟩ = some vn ∧ W.cell? ⟨B, 3, none⟩ = some (.bool o) ∧ W.cell? ⟨B, 4, none⟩ = some (.int .i64 (b1 : Int)) ∧ W.cell? ⟨B, 5, none⟩ = some (.int .i64 (b2 : Int)) ∧ W.cell? ⟨B, 6, none⟩ = some vm ∧ W.cell? ⟨B, 7, none⟩ = some vj := by
  refine ⟨?_, ?_, ?_, ?_, ?_, ?_, ?_, ?_⟩ <;> simp [World.cell?, show W.heap[B]? = _ from h]
theorem AB.frozen (h : AB W B line vl vn o b1 b2 vm vj) (i : Nat) : W.frozen? ⟨B, i, none⟩ = false := frozen_of_row W B i _ _ h
theorem AB.lt (h : AB W B line vl vn o b1 b2 vm vj) : B < W.heap.size := (Array.getElem?_eq_some_iff.1 h).1
theorem AB.kept (h : AB W B line vl vn o b1 b2 vm vj) (hb : Go.RowKit.Below W.heap.size W W') : AB W' B line vl vn o b1 b2 vm vj := (hb.block B h.lt).trans h
end
/-- a place's box -/
def SB (W : World) (b : Nat) (u v : Value) : Prop := W.heap[b]? = some (.cells #[u, v] 49 (0, 0))
theorem load_spot {W : World} {b : Nat} {u v : Value} (h : SB W b u v) : (loadVar 49 ⟨b, 0, none⟩).run Tryz.prog W = .ok (.agg #[u, v]) W := by
  have q0 : W.cell? ⟨b, 0, none⟩ = some u := by simp [World.cell?, show W.heap[b]? = _ from h]
  have q1 : W.cell? ⟨b, 1, none⟩ = some v := by simp [World.cell?, show W.heap[b]? = _ from h]
  simp [go_sem, q0, q1]
set_option maxRecDepth 100000 in
theorem spot_any (w : World) (B line b1 b2 : Nat) (vl vn vm vj : Value) (o : Bool) (h : AB w B line vl vn o b1 b2 vm vj) (x : Wd) :
    Calls Tryz.prog 46 #[.pointer (some ⟨B, 0, none⟩), .agg #[.string (S x.1), .int .i64 (x.2 : Int)]] w fun e w' => e = .returned (.agg #[.int .i64 (line : Int), .int .i64 (x.2 : Int)]) ∧ Go.RowKit.Below w.heap.size w w' := by
  obtain ⟨x0, _⟩ := h.cells
  have hB := h.lt
  have HB2 : Hid (Go.RowKit.Below w.heap.size w ((w.alloc (.cells #[.string (S x.1), .int .i64 (x.2 : Int)] 76)).alloc (.cells #[.int .i64 0, .int .i64 0] 49))) := ((Below.refl _ _).alloc (Nat.le_refl _) _).alloc (by simp) _
  have HW : Hid (WB ((w.alloc (.cells #[.string (S x.1), .int .i64 (x.2 : Int)] 76)).alloc (.cells #[.int .i64 0, .int .i64 0] 49)) w.heap.size (.string (S x.1)) (.int .i64 (x.2 : Int))) := (heap_alloc_old _ _ (by simp)).trans (heap_alloc_new _ _ rfl)
  have HS : Hid (SB ((w.alloc (.cells #[.string (S x.1), .int .i64 (x.2 : Int)] 76)).alloc (.cells #[.int .i64 0, .int .i64 0] 49)) (w.heap.size + 1) (.int .i64 0) (.int .i64 0)) := heap_alloc_new _ _ (by simp)
  have HA : Hid (AB w B line vl vn o b1 b2 vm vj) := h
  clear h
  go_enter Tryz.func46, Tryz.ntmps46
  go_upto_region 1 with fail
  clear x0
  generalize (w.alloc (.cells #[.string (S x.1), .int .i64 (x.2 : Int)] 76)).alloc (.cells #[.int .i64 0, .int .i64 0] 49) = W2 at *
  obtain ⟨x0, _⟩ := (HA.out.kept HB2.out).cells
  obtain ⟨_, y1, _, _⟩ := HW.out.cells
  have z0 : W2.cell? ⟨w.heap.size + 1, 0, none⟩ = some (.int .i64 0) := by simp [World.cell?, show W2.heap[w.heap.size + 1]? = _ from HS.out]
  have z1 : W2.cell? ⟨w.heap.size + 1, 1, none⟩ = some (.int .i64 0) := by simp [World.cell?, show W2.heap[w.heap.size + 1]? = _ from HS.out]
  have f0 : W2.frozen? ⟨w.heap.size + 1, 0, none⟩ = false := frozen_of_row W2 _ 0 _ _ HS.out
  have f1 : W2.frozen? ⟨w.heap.size + 1, 1, none⟩ = false := frozen_of_row W2 _ 1 _ _ HS.out
  have hn : B ≠ w.heap.size + 1 := by omega
  have hn' : ¬ B = w.heap.size + 1 := hn
  have HE : Hid (SB (((W2.drew).setCell ⟨w.heap.size + 1, 0, none⟩ (.int .i64 (line : Int))).setCell ⟨w.heap.size + 1, 1, none⟩ (.int .i64 (x.2 : Int))) (w.heap.size + 1) (.int .i64 (line : Int)) (.int .i64 (x.2 : Int))) := heap_setCell_same _ _ 1 _ _ _ (heap_setCell_same W2.drew _ 0 _ _ _ HS.out)
  have HB3 : Hid (Go.RowKit.Below w.heap.size w (((W2.drew).setCell ⟨w.heap.size + 1, 0, none⟩ (.int .i64 (line : Int))).setCell ⟨w.heap.size + 1, 1, none⟩ (.int .i64 (x.2 : Int)))) := ((HB2.out.trans (((Grew.refl W2).drewN 1).below.mono HB2.out.size)).trans (below_setC _ _ (by show w.heap.size ≤ w.heap.size + 1; omega))).trans (below_setC _ _ (by show w.heap.size ≤ w.heap.size + 1; omega))
  go_region
  all_goals (
    go_wp2_with fail
    refine bodyPost_ret (v := .agg #[.int .i64 (line : Int), .int .i64 (x.2 : Int)]) ?_ rfl ?_
    · simp [results, Tryz.results46, asAddr]
      exact load_spot (W := ((W2.setCell ⟨w.heap.size + 1, 0, none⟩ (.int .i64 (line : Int))).setCell ⟨w.heap.size + 1, 1, none⟩ (.int .i64 (x.2 : Int))).drew) HE.out
    · exact ⟨rfl, HB3.out⟩)
end Go.Proofs.YtmkomfbjgmgemaaGreatDoor
/-
  PROCEDURES IN MEMORY.
-/
namespace Go.Proofs.YtmkomfbjgmgemaaGreatDoor
open Go.RowKit Go.Sort

/-- a procedure: its name, its program -/
structure Pr where
  name : ByteArray
  p : Nums
  ao : Option Addr
  n : Nat
  cap : Nat
  L : List K
def prc (x : Pr) : List Value := [.string x.name, .int .i64 x.p.args, .int .i64 x.p.reads, .int .i64 x.p.writes, .int .i64 x.p.locals, .slice x.ao x.n x.cap]
abbrev prv (x : Pr) : Value := .agg #[.string x.name, .int .i64 x.p.args, .int .i64 x.p.reads, .int .i64 x.p.writes, .int .i64 x.p.locals, .slice x.ao x.n x.cap]
def prcs : List Pr → List Value
  | [] => []
  | x :: Ps => prc x ++ prcs Ps
theorem prcs_length : ∀ Ps : List Pr, (prcs Ps).length = Ps.length * 6
  | [] => rfl
  | x :: Ps => by simp [prcs, prc, prcs_length Ps]; omega
def prD : Pr := ⟨⟨#[]⟩, ⟨0, 0, 0, 0⟩, none, 0, 0, []⟩
def pd (Ps : List Pr) (j : Nat) : Pr := Ps.getD j prD
theorem pd_mem {Ps : List Pr} {j : Nat} (h : j < Ps.length) : pd Ps j ∈ Ps := by
  simp [pd, List.getD_eq_getElem?_getD, List.getElem?_eq_getElem h]
theorem pd_take (Ps : List Pr) (j : Nat) (h : j < Ps.length) : Ps.take (j + 1) = Ps.take j ++ [pd Ps j] := by
  rw [List.take_succ_eq_append_getElem h]
  simp [pd, List.getD_eq_getElem?_getD, List.getElem?_eq_getElem h]
theorem pd_takeD (Ps : List Pr) (j k : Nat) (h : j < k) : pd (Ps.take k) j = pd Ps j := by
  simp [pd, List.getD_eq_getElem?_getD, h]
theorem prcs_at : ∀ (Ps : List Pr) (j i : Nat), j < Ps.length → i < 6 → (prcs Ps)[j * 6 + i]? = (prc (pd Ps j))[i]?
  | [], j, i, h, _ => by simp at h
  | x :: Ps, 0, i, _, hi => by
    have hl : (prc x).length = 6 := rfl
    simp only [prcs, pd, Nat.zero_mul, Nat.zero_add]
    rw [List.getElem?_append_left (by rw [hl]; exact hi)]; rfl
  | x :: Ps, j + 1, i, h, hi => by
    have hl : (prc x).length = 6 := rfl
    have ih := prcs_at Ps j i (by simp at h; omega) hi
    simp only [prcs]
    rw [List.getElem?_append_right (by rw [hl]; omega), hl, show (j + 1) * 6 + i - 6 = j * 6 + i by omega, ih]
    simp [pd]
/-- WHERE PROCEDURES LIE -/
def ProcsAt (W : World) (ao : Option Addr) (Ps : List Pr) : Prop :=
  Ps = [] ∨ ∃ b off, ao = some ⟨b, off, none⟩ ∧ ∀ j u, (prcs Ps)[j]? = some u → W.cell? ⟨b, off + j, none⟩ = some u
theorem ProcsAt.get {W : World} {ao : Option Addr} {Ps : List Pr} (h : ProcsAt W ao Ps) (j : Nat) (hj : j < Ps.length) : ∃ b off, ao = some ⟨b, off, none⟩ ∧ W.cell? ⟨b, off + j * 6, none⟩ = some (.string (pd Ps j).name) ∧
    W.cell? ⟨b, off + j * 6 + 1, none⟩ = some (.int .i64 (pd Ps j).p.args) ∧ W.cell? ⟨b, off + j * 6 + 2, none⟩ = some (.int .i64 (pd Ps j).p.reads) ∧ W.cell? ⟨b, off + j * 6 + 3, none⟩ = some (.int .i64 (pd Ps j).p.writes) ∧
    W.cell? ⟨b, off + j * 6 + 4, none⟩ = some (.int .i64 (pd Ps j).p.locals) ∧ W.cell? ⟨b, off + j * 6 + 5, none⟩ = some (.slice (pd Ps j).ao (pd Ps j).n (pd Ps j).cap) := by
  rcases h with rfl | ⟨b, off, rfl, hc⟩
  · simp at hj
  · refine ⟨b, off, rfl, ?_, ?_, ?_, ?_, ?_, ?_⟩
    · exact hc (j * 6) _ (prcs_at Ps j 0 hj (by omega))
    · exact hc (j * 6 + 1) _ (prcs_at Ps j 1 hj (by omega))
    · exact hc (j * 6 + 2) _ (prcs_at Ps j 2 hj (by omega))
    · exact hc (j * 6 + 3) _ (prcs_at Ps j 3 hj (by omega))
    · exact hc (j * 6 + 4) _ (prcs_at Ps j 4 hj (by omega))
    · exact hc (j * 6 + 5) _ (prcs_at Ps j 5 hj (by omega))
theorem ProcsAt.lt {W : World} {ao : Option Addr} {Ps : List Pr} (h : ProcsAt W ao Ps) : ∀ a, Ps ≠ [] → ao = some a → a.block < W.heap.size := by
  intro a hne e
  have h0 : 0 < Ps.length := by cases Ps with | nil => exact absurd rfl hne | cons _ _ => simp
  obtain ⟨b, off, e1, hc, _⟩ := h.get 0 h0
  rw [e1] at e
  cases e
  exact cell_lt hc
theorem ProcsAt.below {W W' : World} {ao : Option Addr} {Ps : List Pr} {B : Nat} (h : ProcsAt W ao Ps) (hb : Below B W W') (hlt : ∀ a, Ps ≠ [] → ao = some a → a.block < B) : ProcsAt W' ao Ps := by
  rcases h with rfl | ⟨b, off, rfl, hc⟩
  · exact .inl rfl
  · refine .inr ⟨b, off, rfl, fun j u hu => ?_⟩
    have hne : Ps ≠ [] := by intro e; rw [e] at hu; simp [prcs] at hu
    have h1 := hc j u hu
    simp only [World.cell?] at h1 ⊢
    rw [hb.block b (hlt _ hne rfl)]; exact h1
theorem ProcsAt.kept {W W' : World} {ao : Option Addr} {Ps : List Pr} (h : ProcsAt W ao Ps) (hb : Below W.heap.size W W') : ProcsAt W' ao Ps := h.below hb h.lt
theorem ProcsAt.grew {W W' : World} {ao : Option Addr} {Ps : List Pr} (h : ProcsAt W ao Ps) (hg : Grew W W') : ProcsAt W' ao Ps := h.kept hg.below
theorem prcs_append (A B : List Pr) : prcs (A ++ B) = prcs A ++ prcs B := by
  induction A with
  | nil => rfl
  | cons k A ih => simp [prcs, ih]
theorem ProcsAt.take {W : World} {ao : Option Addr} {Ps : List Pr} (h : ProcsAt W ao Ps) (k : Nat) : ProcsAt W ao (Ps.take k) := by
  rcases h with rfl | ⟨b, off, rfl, hc⟩
  · left; simp
  · right
    refine ⟨b, off, rfl, fun j u hu => hc j u ?_⟩
    have e : prcs Ps = prcs (Ps.take k) ++ prcs (Ps.drop k) := by rw [← prcs_append, List.take_append_drop]
    rw [e, List.getElem?_append_left (List.getElem?_eq_some_iff.1 hu).1]; exact hu
/-- what a procedure holds -/
structure PrOK (W : World) (x : Pr) : Prop where
  len : x.n = x.L.length
  ks : KeysAt W x.ao x.L
  nin : NIn x.p
  kin : ∀ k ∈ x.L, KIn k
  nil : x.ao = none → x.cap = 0
  str : x.name.size ≤ 140737488351232
  big : x.n * 16 ≤ 140737488351232
theorem PrOK.kept {W W' : World} {x : Pr} (h : PrOK W x) (hb : Below W.heap.size W W') : PrOK W' x := ⟨h.len, h.ks.kept hb, h.nin, h.kin, h.nil, h.str, h.big⟩
/-- A LIBRARY -/
structure LibAt (W : World) (ao : Option Addr) (Ps : List Pr) : Prop where
  at_ : ProcsAt W ao Ps
  ok : ∀ x ∈ Ps, PrOK W x
theorem LibAt.kept {W W' : World} {ao : Option Addr} {Ps : List Pr} (h : LibAt W ao Ps) (hb : Below W.heap.size W W') : LibAt W' ao Ps := ⟨h.at_.kept hb, fun x hx => (h.ok x hx).kept hb⟩

/-- the first that is not 0, and its place -/
def firstP (f : Nat → Int) : Nat → Nat × Int
  | 0 => (0, 0)
  | k + 1 => if (firstP f k).2 ≠ 0 then firstP f k else if f k ≠ 0 then (k, f k) else (0, 0)
theorem firstP_zero {f : Nat → Int} {k : Nat} (h : ∀ i, i < k → f i = 0) : firstP f k = (0, 0) := by
  induction k with
  | zero => rfl
  | succ k ih =>
    have e := ih (fun i hi => h i (by omega))
    simp only [firstP, e, h k (by omega)]; rfl
theorem firstP_stop {f : Nat → Int} {k n : Nat} (h : ∀ i, i < k → f i = 0) (hk : f k ≠ 0) (hn : k < n) : firstP f n = (k, f k) := by
  induction n with
  | zero => omega
  | succ n ih =>
    by_cases e : k = n
    · subst e; simp only [firstP, firstP_zero h]; rw [if_neg (by simp), if_pos hk]
    · have := ih (by omega)
      simp only [firstP, this]; rw [if_pos hk]
end Go.Proofs.YtmkomfbjgmgemaaGreatDoor
