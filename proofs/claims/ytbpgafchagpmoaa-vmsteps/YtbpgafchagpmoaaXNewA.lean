/-
  WHAT New IS GIVEN AND ANSWERS; ITS CLONES.
-/
import Derived.Test.YtbpgafchagpmoaaXNewH
import Derived.Deep.RegionHeld
import Derived.Deep.DeepCutAuto
namespace Go.Proofs.Ytbpgafchagpmoaa
open Go.RowKit Go.Sort

/-- A SLICE THAT CAME IN: its cells -/
structure SlIn (w : World) (ao : Option Addr) (n cap : Nat) (xs : List Value) : Prop where
  at_ : CellsAt w ao xs
  nil : ao = none → n = 0 ∧ cap = 0
/-- A CALL's ARGUMENTS -/
structure CallIn (w : World) (p : Nums) (ao : Option Addr) (n cap : Nat) (L : List K) (aa : Option Addr) (na ca : Nat) (A : List Int) (ra : Option Addr) (nr cr : Nat) (R : List C) : Prop where
  nin : NIn p
  keys : KeysAt w ao L
  ln : n = L.length
  cnil : ao = none → cap = 0
  args : SlIn w aa na ca (A.map iv)
  la : na = A.length
  reads : SlIn w ra nr cr (ccs R)
  lr : nr = R.length
theorem CallIn.kept {w w1 : World} {p : Nums} {ao : Option Addr} {n cap : Nat} {L : List K} {aa : Option Addr} {na ca : Nat} {A : List Int} {ra : Option Addr} {nr cr : Nat} {R : List C} (h : CallIn w p ao n cap L aa na ca A ra nr cr R) (hb : Go.RowKit.Below w.heap.size w w1) : CallIn w1 p ao n cap L aa na ca A ra nr cr R :=
  ⟨h.nin, h.keys.kept hb, h.ln, h.cnil, ⟨h.args.at_.below hb, h.args.nil⟩, h.la, ⟨h.reads.at_.below hb, h.reads.nil⟩, h.lr⟩
def fedB (p : Nums) (A : List Int) (R : List C) : Bool := decide ((A.length : Int) = p.args) && decide ((R.length : Int) = p.reads)
/-- New's error -/
def newE (p : Nums) (L : List K) (A : List Int) (R : List C) : Int := if verifyN p L ≠ 0 then verifyN p L else if fedB p A R = false then 50 else 0
def NewPost (w : World) (p : Nums) (L : List K) (A : List Int) (R : List C) (e : Ending) (w' : World) : Prop :=
  (newE p L A R ≠ 0 ∧ e = .returned (.tuple #[.pointer none, .int .i64 (newE p L A R)])) ∨
  (newE p L A R = 0 ∧ ∃ B Z, e = .returned (.tuple #[pm B, .int .i64 0]) ∧ w.heap.size ≤ B ∧ MSt w' (fun k => k < w.heap.size) B Z L A R (startM p))
section
variable {w1 X : World} {L : List K} {A : List Int} {R : List C} {c a r l p : Rw} {ao : Option Addr} {n cap : Nat}
theorem cloneC (h : NS w1 X c a r l p) (hk : KeysAt w1 ao L) (hn : n = L.length) (hc : ao = none → cap = 0) (hm : n ≤ 256) :
    Calls Try.prog 31 #[.slice ao n cap] X fun e W => ∃ b m k, e = .returned (.slice b m k) ∧ NS w1 W ⟨.slice b m k, L.length, cks L⟩ a r l p := by
  subst hn
  refine (clone_instr X ao L.length cap (cks L) (cks_length L) (hk.kept h.bel).cells (fun e => ⟨?_, hc e⟩) (cks_one L) (by omega)).mono ?_
  · rcases hk with rfl | ⟨b, off, e1, _⟩
    · rfl
    · rw [e] at e1; cases e1
  · rintro e W ⟨v, rfl, ho, hb⟩
    obtain ⟨b, k, rfl, _⟩ := own_slice ho
    exact ⟨b, _, k, rfl, h.addC hb ho⟩
theorem cloneA (h : NS w1 X c a r l p) (hs : SlIn w1 ao n cap (A.map iv)) (hn : n = A.length) (hm : n ≤ 256) :
    Calls Try.prog 32 #[.slice ao n cap] X fun e W => ∃ b m k, e = .returned (.slice b m k) ∧ NS w1 W c ⟨.slice b m k, A.length, A.map iv⟩ r l p := by
  subst hn
  refine (clone_i64 X ao A.length cap (A.map iv) (by simp) (hs.at_.below h.bel) hs.nil (oneI A) (by omega)).mono ?_
  rintro e W ⟨v, rfl, ho, hb⟩
  obtain ⟨b, k, rfl, _⟩ := own_slice ho
  exact ⟨b, _, k, rfl, h.addA hb ho⟩
theorem cloneR (h : NS w1 X c a r l p) (hs : SlIn w1 ao n cap (ccs R)) (hn : n = R.length) (hm : n ≤ 256) :
    Calls Try.prog 33 #[.slice ao n cap] X fun e W => ∃ b m k, e = .returned (.slice b m k) ∧ NS w1 W c a ⟨.slice b m k, R.length, ccs R⟩ l p := by
  subst hn
  refine (clone_cell X ao R.length cap (ccs R) (ccs_length R) (hs.at_.below h.bel) hs.nil (ccs_one R) (by omega)).mono ?_
  rintro e W ⟨v, rfl, ho, hb⟩
  obtain ⟨b, k, rfl, _⟩ := own_slice ho
  exact ⟨b, _, k, rfl, h.addR hb ho⟩
end
theorem al {W : World} {a : Addr} {v : Value} {o : Obj} (h : W.cell? a = some v) : (W.alloc o).cell? a = some v := Lib.cell?_alloc_some o h
theorem keepA {W : World} {a1 a2 a3 : Addr} {v1 v2 v3 : Value} {o : Obj} (h : W.cell? a1 = some v1 ∧ W.cell? a2 = some v2 ∧ W.cell? a3 = some v3) : (W.alloc o).cell? a1 = some v1 ∧ (W.alloc o).cell? a2 = some v2 ∧ (W.alloc o).cell? a3 = some v3 := ⟨al h.1, al h.2.1, al h.2.2⟩
theorem keepD {W : World} {a1 a2 a3 : Addr} {v1 v2 v3 : Value} {o : Obj} (h : W.drew.cell? a1 = some v1 ∧ W.drew.cell? a2 = some v2 ∧ W.drew.cell? a3 = some v3) : (W.alloc o).drew.cell? a1 = some v1 ∧ (W.alloc o).drew.cell? a2 = some v2 ∧ (W.alloc o).drew.cell? a3 = some v3 := ⟨al (W := W) h.1, al (W := W) h.2.1, al (W := W) h.2.2⟩
theorem hidNS {w1 X : World} {c a r l p : Rw} (h : NS w1 X c a r l p) : Hid (NS w1 X c a r l p) := h
theorem NS.pcell {w1 X : World} {c a r l p : Rw} (h : NS w1 X c a r l p) {b i : Nat} {v : Value} (hlt : b < w1.heap.size) (hc : w1.cell? ⟨b, i, none⟩ = some v) : X.cell? ⟨b, i, none⟩ = some v := (h.bel.cell (p := ⟨b, i, none⟩) hlt).trans hc
def NewOut (w w1 : World) (p : Nums) (L : List K) (A : List Int) (R : List C) (v6 : Value) (wx : World) : Prop := ∃ B Z, v6 = pm B ∧ w.heap.size ≤ B ∧ MSt wx (fun k => k < w.heap.size) B Z L A R (startM p) ∧ Go.RowKit.Below w1.heap.size w1 wx

theorem newOut {w w1 X : World} {p : Nums} {L : List K} {A : List Int} {R : List C} {c a r : Value} {gl gp gB gl' gp' nl np : Nat} (h : NS w1 X ⟨c, L.length, cks L⟩ ⟨a, A.length, A.map iv⟩ ⟨r, R.length, ccs R⟩ (rwL gl' nl) (rwP gp' np)) (e1 : gl = gl') (e2 : gp = gp') (e3 : gB = X.heap.size) (hw : w.heap.size ≤ w1.heap.size) (hn : p.locals = (nl : Int) ∧ p.writes = (np : Int)) :
    NewOut w w1 p L A R (pm gB) (X.alloc (.cells #[c, a, r, .int .i64 0, .slice none 0 0, .slice (some ⟨gl, 0, none⟩) nl nl, .slice none 0 0, .slice (some ⟨gp, 0, none⟩) np np, .int .i64 0, .bool false, .int .i64 0, .int .i64 0] 81)) := by
  subst e1 e2 e3
  obtain ⟨h1, h2, h3⟩ := h.machine (F := fun k => k < w.heap.size) (fun k hk => Nat.lt_of_lt_of_le hk hw) p hn.1 hn.2
  exact ⟨_, _, rfl, Nat.le_trans hw h2, h1, h3⟩
end Go.Proofs.Ytbpgafchagpmoaa
