/-
  SOURCE: what the document's Tokens knows in its loop; fault.
-/
import Derived.Test.YtlabofafmcbfmaaGreatDoorSrTkH
import Derived.Test.YtlabofafmcbfmaaGreatDoorSrOver
import Derived.Test.YtlabofafmcbfmaaGreatDoorSrOwn
import Derived.Test.YtlabofafmcbfmaaGreatDoorSrSgn
import Derived.Test.YtlabofafmcbfmaaGreatDoorSrNmD
namespace Go.Proofs.YtlabofafmcbfmaaGreatDoor
open Go.RowKit Go.Sort Go.Shelf

theorem rfault_any (w : World) (line col : Nat) (n : Int) : Calls Tryz.prog 9 #[.agg #[.int .i64 (line : Int), .int .i64 (col : Int)], .int .i64 n] w fun e w' => e = .returned (.agg #[.int .i64 (line : Int), .int .i64 (col : Int), .int .i64 n]) ∧ Below w.heap.size w w' := by
  have hb : ∀ o1 o2, Below w.heap.size w ((w.alloc o1).alloc o2) := fun o1 o2 => (bel_al w o1).alloc (by simp) o2
  have HB := hidS hb
  clear hb
  go_enter Tryz.func9, Tryz.ntmps9
  go_wp2
  exact bodyPost_ret (v := .agg #[.int .i64 (line : Int), .int .i64 (col : Int), .int .i64 n]) (by simp [results, Tryz.results9, go_sem]) rfl ⟨rfl, HB.out _ _⟩
theorem spO_next (L : List UInt8) (j : Nat) (h : j < L.length) : spO L (j + 1) = if L[j].toNat = 10 then ((spO L j).1 + 1, 1) else ((spO L j).1, (spO L j).2 + 1) := by
  unfold spO
  rw [List.take_succ_eq_append_getElem h, spL_app]
  rfl
/-- what the loop of the document's Tokens knows -/
structure DI (w : World) (F P : Nat) (L : List UInt8) (U : World) (m : Nat) (av : Value) (acc : List Tok) : Prop where
  fb : U.heap[F]? = some (.cells #[.int .i64 0, .int .i64 0, .int .i64 0] 24 (0, 0))
  pb : U.heap[P]? = some (.cells #[.int .i64 ((spO L m).1 : Int), .int .i64 ((spO L m).2 : Int)] 34 (0, 0))
  own : OwnT U (P + 1) av acc
  bel : Below w.heap.size w U
  lo : w.heap.size ≤ F
  fp : F < P
theorem DI.below {w : World} {F P : Nat} {L : List UInt8} {U U' : World} {m : Nat} {av : Value} {acc : List Tok} (h : DI w F P L U m av acc) (hb : Below U.heap.size U U') : DI w F P L U' m av acc :=
  ⟨(hb.block _ (blk_lt h.fb)).trans h.fb, (hb.block _ (blk_lt h.pb)).trans h.pb, h.own.kept hb, h.bel.trans (hb.mono h.bel.size), h.lo, h.fp⟩
theorem DI.pcells {w : World} {F P : Nat} {L : List UInt8} {U : World} {m : Nat} {av : Value} {acc : List Tok} (h : DI w F P L U m av acc) : U.cell? ⟨P, 0, none⟩ = some (.int .i64 ((spO L m).1 : Int)) ∧ U.cell? ⟨P, 1, none⟩ = some (.int .i64 ((spO L m).2 : Int)) ∧ U.frozen? ⟨P, 0, none⟩ = false ∧ U.frozen? ⟨P, 1, none⟩ = false := by
  have h1 := h.pb
  exact ⟨by simp [World.cell?, h1], by simp [World.cell?, h1], frozen_of_row U P 0 _ _ h1, frozen_of_row U P 1 _ _ h1⟩
theorem DI.fcells {w : World} {F P : Nat} {L : List UInt8} {U : World} {m : Nat} {av : Value} {acc : List Tok} (h : DI w F P L U m av acc) : U.cell? ⟨F, 0, none⟩ = some (.int .i64 0) ∧ U.cell? ⟨F, 1, none⟩ = some (.int .i64 0) ∧ U.cell? ⟨F, 2, none⟩ = some (.int .i64 0) ∧ U.frozen? ⟨F, 0, none⟩ = false ∧ U.frozen? ⟨F, 1, none⟩ = false ∧ U.frozen? ⟨F, 2, none⟩ = false := by
  have h1 := h.fb
  exact ⟨by simp [World.cell?, h1], by simp [World.cell?, h1], by simp [World.cell?, h1], frozen_of_row U F 0 _ _ h1, frozen_of_row U F 1 _ _ h1, frozen_of_row U F 2 _ _ h1⟩
/-- only the place's box turns -/
theorem DI.pset {w : World} {F P : Nat} {L : List UInt8} {U U' : World} {m m' : Nat} {av : Value} {acc : List Tok} (h : DI w F P L U m av acc) (ht : T1 P U U') (hp : U'.heap[P]? = some (.cells #[.int .i64 ((spO L m').1 : Int), .int .i64 ((spO L m').2 : Int)] 34 (0, 0))) : DI w F P L U' m' av acc :=
  ⟨(ht.block F (blk_lt h.fb) (by have := h.fp; omega)).trans h.fb, hp, ownsRow_same h.own (fun g hg => ht.block g (World.ownsRow.lt h.own g hg).2 (by have := (World.ownsRow.lt h.own g hg).1; omega)), ⟨ht.os.trans h.bel.os, ht.tape.trans h.bel.tape, ht.output.trans h.bel.output, Nat.le_trans h.bel.size ht.size, fun q hq => (ht.block q (Nat.lt_of_lt_of_le hq h.bel.size) (by have := h.lo; have := h.fp; omega)).trans (h.bel.block q hq)⟩, h.lo, h.fp⟩
theorem pset1 {U : World} {P : Nat} {a b : Value} (h : U.heap[P]? = some (.cells #[a, b] 34 (0, 0))) (c : Value) : T1 P U (U.setCell ⟨P, 1, none⟩ c) ∧ (U.setCell ⟨P, 1, none⟩ c).heap[P]? = some (.cells #[a, c] 34 (0, 0)) := ⟨T1.set, heap_setCell_same U P 1 _ _ c h⟩
theorem pset0 {U : World} {P : Nat} {a b : Value} (h : U.heap[P]? = some (.cells #[a, b] 34 (0, 0))) (c : Value) : T1 P U (U.setCell ⟨P, 0, none⟩ c) ∧ (U.setCell ⟨P, 0, none⟩ c).heap[P]? = some (.cells #[c, b] 34 (0, 0)) := ⟨T1.set, heap_setCell_same U P 0 _ _ c h⟩
theorem DI.app {w : World} {F P : Nat} {L : List UInt8} {U U' : World} {m : Nat} {av av' : Value} {acc acc' : List Tok} (h : DI w F P L U m av acc) (ho : OwnT U' (P + 1) av' acc') (hg : U.grownBy U' av.ownBlock) : DI w F P L U' m av' acc' :=
  ⟨(hg.block F (blk_lt h.fb) (fun e => by have := (World.ownsRow.lt h.own F e.symm).1; have := h.fp; omega)).trans h.fb, (hg.block P (blk_lt h.pb) (fun e => by have := (World.ownsRow.lt h.own P e.symm).1; omega)).trans h.pb, ho, h.bel.trans ((below_grownS hg (B := P + 1) (fun g hg2 => (World.ownsRow.lt h.own g hg2).1) (blk_lt h.pb)).mono (by have := h.lo; have := h.fp; omega)), h.lo, h.fp⟩
/-- a fault's cells, stored -/
theorem DI.fset {w : World} {F P : Nat} {L : List UInt8} {U : World} {m : Nat} {av : Value} {acc : List Tok} (h : DI w F P L U m av acc) (a b c : Value) : (((U.setCell ⟨F, 0, none⟩ a).setCell ⟨F, 1, none⟩ b).setCell ⟨F, 2, none⟩ c).cell? ⟨F, 0, none⟩ = some a ∧ (((U.setCell ⟨F, 0, none⟩ a).setCell ⟨F, 1, none⟩ b).setCell ⟨F, 2, none⟩ c).cell? ⟨F, 1, none⟩ = some b ∧ (((U.setCell ⟨F, 0, none⟩ a).setCell ⟨F, 1, none⟩ b).setCell ⟨F, 2, none⟩ c).cell? ⟨F, 2, none⟩ = some c ∧ Below w.heap.size w (((U.setCell ⟨F, 0, none⟩ a).setCell ⟨F, 1, none⟩ b).setCell ⟨F, 2, none⟩ c) ∧ OwnT (((U.setCell ⟨F, 0, none⟩ a).setCell ⟨F, 1, none⟩ b).setCell ⟨F, 2, none⟩ c) (P + 1) av acc := by
  have k1 := heap_setCell_same _ F 2 _ _ c (heap_setCell_same _ F 1 _ _ b (heap_setCell_same U F 0 _ _ a h.fb))
  refine ⟨by simp [World.cell?, k1], by simp [World.cell?, k1], by simp [World.cell?, k1], ((h.bel.setCell (p := ⟨F, 0, none⟩) h.lo a).setCell (p := ⟨F, 1, none⟩) h.lo b).setCell (p := ⟨F, 2, none⟩) h.lo c, ownsRow_same h.own (fun g hg => ?_)⟩
  have hgF : g ≠ F := by have := (World.ownsRow.lt h.own g hg).1; have := h.fp; omega
  exact (heap_setCell_other _ ⟨F, 2, none⟩ g _ hgF).trans ((heap_setCell_other _ ⟨F, 1, none⟩ g _ hgF).trans (heap_setCell_other _ ⟨F, 0, none⟩ g _ hgF))
theorem DI.other {w : World} {F P : Nat} {L : List UInt8} {U U' : World} {m B : Nat} {av : Value} {acc : List Tok} (h : DI w F P L U m av acc) (ht : T1 B U U') (hB : P < B) (hob : ∀ g, av.ownBlock = some g → g < B) : DI w F P L U' m av acc :=
  ⟨(ht.block F (blk_lt h.fb) (by have := h.fp; omega)).trans h.fb, (ht.block P (blk_lt h.pb) (by omega)).trans h.pb, ownsRow_same h.own (fun g hg => ht.block g (World.ownsRow.lt h.own g hg).2 (by have := hob g hg; omega)), ⟨ht.os.trans h.bel.os, ht.tape.trans h.bel.tape, ht.output.trans h.bel.output, Nat.le_trans h.bel.size ht.size, fun q hq => (ht.block q (Nat.lt_of_lt_of_le hq h.bel.size) (by have := h.lo; have := h.fp; omega)).trans (h.bel.block q hq)⟩, h.lo, h.fp⟩
/-- beside it a token's box -/
structure DB (w : World) (F P : Nat) (L : List UInt8) (U : World) (m : Nat) (av : Value) (acc : List Tok) (B : Nat) (v0 v1 v2 v3 v4 : Value) : Prop where
  di : DI w F P L U m av acc
  rw : Row5 U B v0 v1 v2 v3 v4
  pb : P < B
  ob : ∀ g, av.ownBlock = some g → g < B
theorem DI.box {w : World} {F P : Nat} {L : List UInt8} {U : World} {m : Nat} {av : Value} {acc : List Tok} (h : DI w F P L U m av acc) (v0 v1 v2 v3 v4 : Value) : DB w F P L (U.alloc (.cells #[v0, v1, v2, v3, v4] 36)) m av acc U.heap.size v0 v1 v2 v3 v4 :=
  ⟨h.below (bel_al U _), Row5.al _ _ _ _ _ _, blk_lt h.pb, fun g hg => (World.ownsRow.lt h.own g hg).2⟩
theorem DB.below {w : World} {F P : Nat} {L : List UInt8} {U U' : World} {m : Nat} {av : Value} {acc : List Tok} {B : Nat} {v0 v1 v2 v3 v4 : Value} (h : DB w F P L U m av acc B v0 v1 v2 v3 v4) (hb : Below U.heap.size U U') : DB w F P L U' m av acc B v0 v1 v2 v3 v4 := ⟨h.di.below hb, h.rw.kept hb, h.pb, h.ob⟩
theorem DB.set0 {w : World} {F P : Nat} {L : List UInt8} {U : World} {m : Nat} {av : Value} {acc : List Tok} {B : Nat} {v0 v1 v2 v3 v4 : Value} (h : DB w F P L U m av acc B v0 v1 v2 v3 v4) (x : Value) : DB w F P L (U.setCell ⟨B, 0, none⟩ x) m av acc B x v1 v2 v3 v4 := ⟨h.di.other T1.set h.pb h.ob, heap_setCell_same U B 0 _ _ x h.rw, h.pb, h.ob⟩
theorem DB.set1 {w : World} {F P : Nat} {L : List UInt8} {U : World} {m : Nat} {av : Value} {acc : List Tok} {B : Nat} {v0 v1 v2 v3 v4 : Value} (h : DB w F P L U m av acc B v0 v1 v2 v3 v4) (x : Value) : DB w F P L (U.setCell ⟨B, 1, none⟩ x) m av acc B v0 x v2 v3 v4 := ⟨h.di.other T1.set h.pb h.ob, heap_setCell_same U B 1 _ _ x h.rw, h.pb, h.ob⟩
theorem DB.set2 {w : World} {F P : Nat} {L : List UInt8} {U : World} {m : Nat} {av : Value} {acc : List Tok} {B : Nat} {v0 v1 v2 v3 v4 : Value} (h : DB w F P L U m av acc B v0 v1 v2 v3 v4) (x : Value) : DB w F P L (U.setCell ⟨B, 2, none⟩ x) m av acc B v0 v1 x v3 v4 := ⟨h.di.other T1.set h.pb h.ob, heap_setCell_same U B 2 _ _ x h.rw, h.pb, h.ob⟩
theorem tokA_com {l : List UInt8} (h : [47, 42].isPrefixOf l = true) : tokA l = .er 180 := by
  obtain ⟨r, hr⟩ := List.isPrefixOf_iff_prefix.1 h
  have e : c0 l = 47 := by rw [← hr]; rfl
  unfold tokA
  rw [e, h]
  simp [leC, diC]
theorem own_digit {t : List UInt8} (h : diC (c0 t) = true) : isOwn t = false := by
  cases hc : isOwn t with
  | false => rfl
  | true =>
    exfalso
    have key : ∀ x ∈ ownL, diC (c0 x) = false := by decide
    unfold isOwn at hc
    rw [key t (List.contains_iff_mem.1 hc)] at h
    cases h
theorem c0_take {l : List UInt8} {n : Nat} (h : 0 < n) : c0 (l.take n) = c0 l := by
  cases l with
  | nil => simp
  | cons c r =>
    obtain ⟨k, rfl⟩ : ∃ k, n = k + 1 := ⟨n - 1, by omega⟩
    rfl
theorem cell_blk {W W' : World} {b : Nat} (h : W'.heap[b]? = W.heap[b]?) (i : Nat) : W'.cell? ⟨b, i, none⟩ = W.cell? ⟨b, i, none⟩ := by simp only [World.cell?]; rw [h]
/-- what the document's Tokens leaves -/
def RtkPost (w : World) (r : TR) (e : Ending) (w' : World) : Prop := match r with
  | .ok ts => ∃ a c, e = .returned (.tuple #[.slice a ts.length c, .agg #[.int .i64 0, .int .i64 0, .int .i64 0]]) ∧ OwnT w' w.heap.size (.slice a ts.length c) ts ∧ Below w.heap.size w w'
  | .er p x => e = .returned (.tuple #[.slice none 0 0, .agg #[.int .i64 (p.1 : Int), .int .i64 (p.2 : Int), .int .i64 (x : Int)]]) ∧ Below w.heap.size w w'
end Go.Proofs.YtlabofafmcbfmaaGreatDoor
