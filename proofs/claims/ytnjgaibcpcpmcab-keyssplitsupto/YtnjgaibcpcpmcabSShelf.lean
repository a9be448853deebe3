/-
  THE LAW's SHELF: what was handed out, and what each list must hold.
-/
import Derived.Test.YtnjgaibcpcpmcabKApart
namespace Go.Proofs.Ytnjgaibcpcpmcab
open Go.RowKit Go.Sort

/-- what else the shelf holds: its rows of rows, and a frame of blocks that stay as they are -/
structure Xt where
  F : Nat → Option Obj
  ov : Value
  sv : Value
/-- THE SHELF at the block SB; O: whose a block is (0 the shelf, 1 and 2 its rows, 3 + 2 i and 4 + 2 i the i-th lists) -/
structure Sh (w : World) (base SB : Nat) (X : Xt) (O : Nat → Option Nat) (lv wv : Value) (xs ys : List Value) (Ms : Nat → List K) : Prop where
  cell : w.heap[SB]? = some (.cells #[lv, wv, X.ov, X.sv] 47 (0, 0))
  sb : base ≤ SB ∧ O SB = some 0
  lists : OwnR w base lv xs
  lO : ∀ b, lv.ownBlock = some b → O b = some 1
  want : OwnR w base wv ys
  wO : ∀ b, wv.ownBlock = some b → O b = some 2
  x : ∀ i e, xs[i]? = some e → OwnK w base e (Ms i) ∧ ∀ b, e.ownBlock = some b → O b = some (4 + 2 * i)
  y : ∀ i e, ys[i]? = some e → OwnK w base e (Ms i) ∧ ∀ b, e.ownBlock = some b → O b = some (5 + 2 * i)
  fresh : ∀ b, w.heap.size ≤ b → O b = none
  fr : ∀ b o, X.F b = some o → w.heap[b]? = some o ∧ O b = some 3

theorem Sh.grown {w w1 : World} {base SB : Nat} {X : Xt} {O : Nat → Option Nat} {lv wv : Value} {xs ys : List Value} {Ms : Nat → List K} {row : Option Nat} (h : Sh w base SB X O lv wv xs ys Ms) (hg : w.grownBy w1 row) (hr : ∀ b, row = some b → O b = none) : Sh w1 base SB X O lv wv xs ys Ms := by
  have hl : SB < w.heap.size := (Array.getElem?_eq_some_iff.1 h.cell).1
  have hne : ∀ b l, O b = some l → row ≠ some b := fun b l hb e => by rw [hr b e] at hb; cases hb
  exact ⟨(hg.block SB hl (fun e => hne SB 0 h.sb.2 e.symm)).trans h.cell, h.sb, h.lists.grown hg (fun b hb => hne b 1 (h.lO b hb)), h.lO, h.want.grown hg (fun b hb => hne b 2 (h.wO b hb)), h.wO,
    fun i e he => ⟨(h.x i e he).1.grown hg (fun b hb => hne b _ ((h.x i e he).2 b hb)), (h.x i e he).2⟩, fun i e he => ⟨(h.y i e he).1.grown hg (fun b hb => hne b _ ((h.y i e he).2 b hb)), (h.y i e he).2⟩, fun b hb => h.fresh b (Nat.le_trans hg.size hb), fun b o ho => ⟨(hg.block b (Array.getElem?_eq_some_iff.1 (h.fr b o ho).1).1 (fun e => hne b 3 (h.fr b o ho).2 e.symm)).trans (h.fr b o ho).1, (h.fr b o ho).2⟩⟩
theorem Sh.below {w w1 : World} {base SB : Nat} {X : Xt} {O : Nat → Option Nat} {lv wv : Value} {xs ys : List Value} {Ms : Nat → List K} (h : Sh w base SB X O lv wv xs ys Ms) (hb : Below w.heap.size w w1) : Sh w1 base SB X O lv wv xs ys Ms :=
  h.grown (row := none) ⟨hb.os, hb.tape, hb.output, hb.size, fun k hk _ => hb.block k hk⟩ (fun b e => by cases e)

/-- a list is put into the first row -/
theorem Sh.putX {w w1 : World} {base SB : Nat} {X : Xt} {O : Nat → Option Nat} {lv wv v e : Value} {xs ys : List Value} {Ms : Nat → List K} {M : List K} (h : Sh w base SB X O lv wv xs ys Ms) (hy : ys.length ≤ xs.length) (hown : OwnK w base e M) (hO : ∀ b, e.ownBlock = some b → O b = none)
    (hrow : OwnR w1 base v (xs ++ [e])) (hg : w.grownBy w1 lv.ownBlock) (hat : v.ownBlock = lv.ownBlock ∨ v.ownBlock = some w.heap.size) :
    ∃ O', Sh (w1.setCell ⟨SB, 0, none⟩ v) base SB X O' v wv (xs ++ [e]) ys (fun j => if j = xs.length then M else Ms j) ∧ ∀ b, b < w.heap.size → e.ownBlock ≠ some b → O' b = O b := by
  have hlS : SB < w.heap.size := (Array.getElem?_eq_some_iff.1 h.cell).1
  have hlO : ∀ b l, O b = some l → l ≠ 1 → lv.ownBlock ≠ some b := fun b l hb hl e => by rw [h.lO b e] at hb; cases hb; exact hl rfl
  have hc1 : w1.heap[SB]? = some (.cells #[lv, wv, X.ov, X.sv] 47 (0, 0)) := (hg.block SB hlS (fun e => hlO SB 0 h.sb.2 (by omega) e.symm)).trans h.cell
  have hso : ∀ b, b ≠ SB → (w1.setCell ⟨SB, 0, none⟩ v).heap[b]? = w1.heap[b]? := fun b hb => heap_setCell_other w1 ⟨SB, 0, none⟩ b v hb
  have hvS : v.ownBlock ≠ some SB := by
    rcases hat with e | e
    · rw [e]; exact hlO SB 0 h.sb.2 (by omega)
    · rw [e]; intro e2; have := Option.some.inj e2; omega
  have hlt : ∀ b, e.ownBlock = some b → b < w.heap.size := fun b hb => (hown.lt b hb).2
  have heS : e.ownBlock ≠ some SB := fun e2 => by have := hO SB e2; rw [h.sb.2] at this; cases this
  -- what lay, in the new world
  have keep : ∀ (u : Value) (L : List K), OwnK w base u L → (∀ b, u.ownBlock = some b → lv.ownBlock ≠ some b ∧ b ≠ SB) → OwnK (w1.setCell ⟨SB, 0, none⟩ v) base u L := fun u L hu hn =>
    OwnK.same (w := w1) (hu.grown hg (fun b hb => (hn b hb).1)) fun g hgg => hso g (hn g hgg).2
  refine ⟨fun b => if e.ownBlock = some b then some (4 + 2 * xs.length) else if b = w.heap.size then (if v.ownBlock = some b then some 1 else none) else O b, ⟨?_, ⟨h.sb.1, ?_⟩, ?_, ?_, ?_, ?_, ?_, ?_, ?_, ?_⟩, ?_⟩
  · have := heap_setCell_same w1 SB 0 _ _ v hc1
    simpa using this
  · rw [if_neg heS, if_neg (by omega)]; exact h.sb.2
  · exact OwnR.same (w := w1) hrow fun g hgg => hso g (fun e => hvS (by rw [hgg, e]))
  · intro b hb
    have h1 : e.ownBlock ≠ some b := fun e2 => by
      rcases hat with e3 | e3
      · rw [e3] at hb; have := hO b e2; rw [h.lO b hb] at this; cases this
      · rw [e3] at hb; cases hb; have := hlt _ e2; omega
    rw [if_neg h1]
    rcases hat with e3 | e3
    · rw [e3] at hb
      have := (h.lists.lt b hb).2
      rw [if_neg (by omega)]; exact h.lO b hb
    · rw [e3] at hb; cases hb; rw [if_pos rfl, if_pos e3]
  · refine OwnR.same (w := w1) (h.want.grown hg (fun b hb => hlO b 2 (h.wO b hb) (by omega))) fun g hgg => hso g (fun e => ?_)
    subst e
    have := h.wO _ hgg; rw [h.sb.2] at this; cases this
  · intro b hb
    have h1 : e.ownBlock ≠ some b := fun e2 => by have := hO b e2; rw [h.wO b hb] at this; cases this
    have := (h.want.lt b hb).2
    rw [if_neg h1, if_neg (by omega)]; exact h.wO b hb
  · intro i u hu
    rw [List.getElem?_append] at hu
    split at hu
    · rename_i hi
      obtain ⟨h1, h2⟩ := h.x i u hu
      refine ⟨by rw [if_neg (show i ≠ xs.length by omega)]; exact keep u _ h1 fun b hb => ⟨hlO b _ (h2 b hb) (by omega), fun e => by subst e; have := h2 _ hb; rw [h.sb.2] at this; have := Option.some.inj this; omega⟩, fun b hb => ?_⟩
      have h3 : e.ownBlock ≠ some b := fun e2 => by have := hO b e2; rw [h2 b hb] at this; cases this
      have := (h1.lt b hb).2
      rw [if_neg h3, if_neg (by omega)]; exact h2 b hb
    · rename_i hi
      have hq : i = xs.length := by
        by_cases e2 : i - xs.length = 0
        · omega
        · rw [List.getElem?_eq_none (by simp; omega)] at hu; cases hu
      subst hq
      rw [Nat.sub_self] at hu
      cases hu
      refine ⟨by rw [if_pos rfl]; exact keep _ _ hown (fun b hb => ⟨(fun e2 => by have := hO b hb; rw [h.lO b e2] at this; exact absurd this (by simp)), (fun e2 => heS (by rw [hb, e2]))⟩), fun b hb => if_pos hb⟩
  · intro i u hu
    have hi : i < ys.length := (List.getElem?_eq_some_iff.1 hu).1
    obtain ⟨h1, h2⟩ := h.y i u hu
    refine ⟨by rw [if_neg (show i ≠ xs.length by omega)]; exact keep u _ h1 fun b hb => ⟨hlO b _ (h2 b hb) (by omega), fun e => by subst e; have := h2 _ hb; rw [h.sb.2] at this; have := Option.some.inj this; omega⟩, fun b hb => ?_⟩
    have h3 : e.ownBlock ≠ some b := fun e2 => by have := hO b e2; rw [h2 b hb] at this; cases this
    have := (h1.lt b hb).2
    rw [if_neg h3, if_neg (by omega)]; exact h2 b hb
  · intro b hb
    have hsz : w.heap.size ≤ b := by have := hg.size; simp [World.setCell] at hb; omega
    have h1 : e.ownBlock ≠ some b := fun e2 => by have := hlt b e2; omega
    rw [if_neg h1]
    by_cases hb2 : b = w.heap.size
    · have : v.ownBlock ≠ some b := fun e2 => by have := (hrow.lt b e2).2; simp [World.setCell] at hb; omega
      rw [if_pos hb2, if_neg this]
    · rw [if_neg hb2]; exact h.fresh b hsz
  · intro b o ho
    obtain ⟨h1, h2⟩ := h.fr b o ho
    have hlb : b < w.heap.size := (Array.getElem?_eq_some_iff.1 h1).1
    have h3 : e.ownBlock ≠ some b := fun e2 => by have := hO b e2; rw [h2] at this; cases this
    refine ⟨(hso b (fun e => by subst e; rw [h.sb.2] at h2; cases h2)).trans ((hg.block b hlb (fun e => hlO b 3 h2 (by omega) e.symm)).trans h1), ?_⟩
    rw [if_neg h3, if_neg (by omega)]; exact h2
  · intro b hb hne
    simp only
    rw [if_neg hne, if_neg (by omega)]

/-- a list is put into the second row -/
theorem Sh.putY {w w1 : World} {base SB : Nat} {X : Xt} {O : Nat → Option Nat} {lv wv v e : Value} {xs ys : List Value} {Ms : Nat → List K} (h : Sh w base SB X O lv wv xs ys Ms) (hown : OwnK w base e (Ms ys.length)) (hO : ∀ b, e.ownBlock = some b → O b = none)
    (hrow : OwnR w1 base v (ys ++ [e])) (hg : w.grownBy w1 wv.ownBlock) (hat : v.ownBlock = wv.ownBlock ∨ v.ownBlock = some w.heap.size) :
    ∃ O', Sh (w1.setCell ⟨SB, 1, none⟩ v) base SB X O' lv v xs (ys ++ [e]) Ms ∧ ∀ b, b < w.heap.size → e.ownBlock ≠ some b → O' b = O b := by
  have hlS : SB < w.heap.size := (Array.getElem?_eq_some_iff.1 h.cell).1
  have hlO : ∀ b l, O b = some l → l ≠ 2 → wv.ownBlock ≠ some b := fun b l hb hl e => by rw [h.wO b e] at hb; cases hb; exact hl rfl
  have hc1 : w1.heap[SB]? = some (.cells #[lv, wv, X.ov, X.sv] 47 (0, 0)) := (hg.block SB hlS (fun e => hlO SB 0 h.sb.2 (by omega) e.symm)).trans h.cell
  have hso : ∀ b, b ≠ SB → (w1.setCell ⟨SB, 1, none⟩ v).heap[b]? = w1.heap[b]? := fun b hb => heap_setCell_other w1 ⟨SB, 1, none⟩ b v hb
  have hvS : v.ownBlock ≠ some SB := by
    rcases hat with e | e
    · rw [e]; exact hlO SB 0 h.sb.2 (by omega)
    · rw [e]; intro e2; have := Option.some.inj e2; omega
  have hlt : ∀ b, e.ownBlock = some b → b < w.heap.size := fun b hb => (hown.lt b hb).2
  have heS : e.ownBlock ≠ some SB := fun e2 => by have := hO SB e2; rw [h.sb.2] at this; cases this
  -- what lay, in the new world
  have keep : ∀ (u : Value) (L : List K), OwnK w base u L → (∀ b, u.ownBlock = some b → wv.ownBlock ≠ some b ∧ b ≠ SB) → OwnK (w1.setCell ⟨SB, 1, none⟩ v) base u L := fun u L hu hn =>
    OwnK.same (w := w1) (hu.grown hg (fun b hb => (hn b hb).1)) fun g hgg => hso g (hn g hgg).2
  refine ⟨fun b => if e.ownBlock = some b then some (5 + 2 * ys.length) else if b = w.heap.size then (if v.ownBlock = some b then some 2 else none) else O b, ⟨?_, ⟨h.sb.1, ?_⟩, ?_, ?_, ?_, ?_, ?_, ?_, ?_, ?_⟩, ?_⟩
  · have := heap_setCell_same w1 SB 1 _ _ v hc1
    simpa using this
  · rw [if_neg heS, if_neg (by omega)]; exact h.sb.2
  · refine OwnR.same (w := w1) (h.lists.grown hg (fun b hb => hlO b 1 (h.lO b hb) (by omega))) fun g hgg => hso g (fun e => ?_)
    subst e
    have := h.lO _ hgg; rw [h.sb.2] at this; cases this
  · intro b hb
    have h1 : e.ownBlock ≠ some b := fun e2 => by have := hO b e2; rw [h.lO b hb] at this; cases this
    have := (h.lists.lt b hb).2
    rw [if_neg h1, if_neg (by omega)]; exact h.lO b hb
  · exact OwnR.same (w := w1) hrow fun g hgg => hso g (fun e => hvS (by rw [hgg, e]))
  · intro b hb
    have h1 : e.ownBlock ≠ some b := fun e2 => by
      rcases hat with e3 | e3
      · rw [e3] at hb; have := hO b e2; rw [h.wO b hb] at this; cases this
      · rw [e3] at hb; cases hb; have := hlt _ e2; omega
    rw [if_neg h1]
    rcases hat with e3 | e3
    · rw [e3] at hb
      have := (h.want.lt b hb).2
      rw [if_neg (by omega)]; exact h.wO b hb
    · rw [e3] at hb; cases hb; rw [if_pos rfl, if_pos e3]
  · intro i u hu
    obtain ⟨h1, h2⟩ := h.x i u hu
    refine ⟨keep u _ h1 fun b hb => ⟨hlO b _ (h2 b hb) (by omega), fun e => by subst e; have := h2 _ hb; rw [h.sb.2] at this; have := Option.some.inj this; omega⟩, fun b hb => ?_⟩
    have h3 : e.ownBlock ≠ some b := fun e2 => by have := hO b e2; rw [h2 b hb] at this; cases this
    have := (h1.lt b hb).2
    rw [if_neg h3, if_neg (by omega)]; exact h2 b hb
  · intro i u hu
    rw [List.getElem?_append] at hu
    split at hu
    · rename_i hi
      obtain ⟨h1, h2⟩ := h.y i u hu
      refine ⟨keep u _ h1 fun b hb => ⟨hlO b _ (h2 b hb) (by omega), fun e => by subst e; have := h2 _ hb; rw [h.sb.2] at this; have := Option.some.inj this; omega⟩, fun b hb => ?_⟩
      have h3 : e.ownBlock ≠ some b := fun e2 => by have := hO b e2; rw [h2 b hb] at this; cases this
      have := (h1.lt b hb).2
      rw [if_neg h3, if_neg (by omega)]; exact h2 b hb
    · rename_i hi
      have hq : i = ys.length := by
        by_cases e2 : i - ys.length = 0
        · omega
        · rw [List.getElem?_eq_none (by simp; omega)] at hu; cases hu
      subst hq
      rw [Nat.sub_self] at hu
      cases hu
      refine ⟨keep _ _ hown (fun b hb => ⟨(fun e2 => by have := hO b hb; rw [h.wO b e2] at this; exact absurd this (by simp)), (fun e2 => heS (by rw [hb, e2]))⟩), fun b hb => if_pos hb⟩
  · intro b hb
    have hsz : w.heap.size ≤ b := by have := hg.size; simp [World.setCell] at hb; omega
    have h1 : e.ownBlock ≠ some b := fun e2 => by have := hlt b e2; omega
    rw [if_neg h1]
    by_cases hb2 : b = w.heap.size
    · have : v.ownBlock ≠ some b := fun e2 => by have := (hrow.lt b e2).2; simp [World.setCell] at hb; omega
      rw [if_pos hb2, if_neg this]
    · rw [if_neg hb2]; exact h.fresh b hsz
  · intro b o ho
    obtain ⟨h1, h2⟩ := h.fr b o ho
    have hlb : b < w.heap.size := (Array.getElem?_eq_some_iff.1 h1).1
    have h3 : e.ownBlock ≠ some b := fun e2 => by have := hO b e2; rw [h2] at this; cases this
    refine ⟨(hso b (fun e => by subst e; rw [h.sb.2] at h2; cases h2)).trans ((hg.block b hlb (fun e => hlO b 3 h2 (by omega) e.symm)).trans h1), ?_⟩
    rw [if_neg h3, if_neg (by omega)]; exact h2
  · intro b hb hne
    simp only
    rw [if_neg hne, if_neg (by omega)]

theorem Sh.row1 {w w1 : World} {base SB : Nat} {X : Xt} {O : Nat → Option Nat} {lv wv : Value} {xs ys : List Value} {Ms : Nat → List K} (h : Sh w base SB X O lv wv xs ys Ms) (hg : w.grownBy w1 lv.ownBlock) : (w1.cell? ⟨SB, 0, none⟩ = some lv ∧ w1.cell? ⟨SB, 1, none⟩ = some wv) ∧ w1.frozen? ⟨SB, 0, none⟩ = false ∧ w1.frozen? ⟨SB, 1, none⟩ = false := by
  have hc : w1.heap[SB]? = some (.cells #[lv, wv, X.ov, X.sv] 47 (0, 0)) := (hg.block SB (Array.getElem?_eq_some_iff.1 h.cell).1 (fun e => by have := h.lO SB e.symm; rw [h.sb.2] at this; cases this)).trans h.cell
  refine ⟨⟨?_, ?_⟩, ?_, ?_⟩ <;> simp [World.cell?, World.frozen?, hc]
theorem Sh.row2 {w w1 : World} {base SB : Nat} {X : Xt} {O : Nat → Option Nat} {lv wv : Value} {xs ys : List Value} {Ms : Nat → List K} (h : Sh w base SB X O lv wv xs ys Ms) (hg : w.grownBy w1 wv.ownBlock) : (w1.cell? ⟨SB, 0, none⟩ = some lv ∧ w1.cell? ⟨SB, 1, none⟩ = some wv) ∧ w1.frozen? ⟨SB, 0, none⟩ = false ∧ w1.frozen? ⟨SB, 1, none⟩ = false := by
  have hc : w1.heap[SB]? = some (.cells #[lv, wv, X.ov, X.sv] 47 (0, 0)) := (hg.block SB (Array.getElem?_eq_some_iff.1 h.cell).1 (fun e => by have := h.wO SB e.symm; rw [h.sb.2] at this; cases this)).trans h.cell
  refine ⟨⟨?_, ?_⟩, ?_, ?_⟩ <;> simp [World.cell?, World.frozen?, hc]
/-- a list that is nobody's lies on -/
theorem Sh.keepX {w w1 : World} {base bs SB o : Nat} {X : Xt} {O : Nat → Option Nat} {lv wv v u : Value} {xs ys : List Value} {Ms : Nat → List K} {L : List K} (h : Sh w base SB X O lv wv xs ys Ms) (hg : w.grownBy w1 lv.ownBlock) (hu : OwnK w bs u L) (hO : ∀ b, u.ownBlock = some b → O b ≠ some 1 ∧ b ≠ SB) : OwnK (w1.setCell ⟨SB, o, none⟩ v) bs u L :=
  OwnK.same (w := w1) (hu.grown hg (fun b hb e => (hO b hb).1 (h.lO b e))) fun g hgg => heap_setCell_other w1 ⟨SB, o, none⟩ g v (hO g hgg).2
theorem Sh.keepY {w w1 : World} {base bs SB o : Nat} {X : Xt} {O : Nat → Option Nat} {lv wv v u : Value} {xs ys : List Value} {Ms : Nat → List K} {L : List K} (h : Sh w base SB X O lv wv xs ys Ms) (hg : w.grownBy w1 wv.ownBlock) (hu : OwnK w bs u L) (hO : ∀ b, u.ownBlock = some b → O b ≠ some 2 ∧ b ≠ SB) : OwnK (w1.setCell ⟨SB, o, none⟩ v) bs u L :=
  OwnK.same (w := w1) (hu.grown hg (fun b hb e => (hO b hb).1 (h.wO b e))) fun g hgg => heap_setCell_other w1 ⟨SB, o, none⟩ g v (hO g hgg).2
theorem below_set {w w1 w2 : World} {base SB o : Nat} {v : Value} {row : Option Nat} (h : Below base w w1) (hg : w1.grownBy w2 row) (hr : ∀ k, row = some k → base ≤ k) (hB : base ≤ w1.heap.size) (hS : base ≤ SB) : Below base w (w2.setCell ⟨SB, o, none⟩ v) :=
  (h.trans (grown_below hg hr hB)).setCell (p := ⟨SB, o, none⟩) hS v

end Go.Proofs.Ytnjgaibcpcpmcab
