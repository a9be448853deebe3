/-
  A BOOK OF SLICES OF BYTES (preludelaw01.book): what it is; put.
-/
import Derived.Test.YthdlilekilkogaaKeep
import Derived.Test.YthdlilekilkogaaCopied
import Derived.Test.YthdlilekilkogaaSame
import Derived.Deep.AppendLies
import Derived.Deep.RegionLaw
namespace Go.Proofs.Ythdlilekilkogaa
open Go.RowKit

def nilV : Value := .slice none 0 0
def Apart (u v : Value) : Prop := ∀ k, u.ownBlock = some k → v.ownBlock ≠ some k
theorem Apart.symm {u v : Value} (h : Apart u v) : Apart v u := fun k hk hu => h k hu hk
theorem Apart.nil (v : Value) : Apart nilV v := fun k hk => by simp [nilV, Value.ownBlock] at hk

/-- what another world must keep of an object -/
theorem OwnB.same {w w1 : World} {base : Nat} {v : Value} {L : List Nat} (h : OwnB w base v L) (hs : ∀ k, v.ownBlock = some k → w1.heap[k]? = w.heap[k]?) : OwnB w1 base v L := by
  obtain ⟨hz, hl, h0 | ⟨g, cap, cur, rfl, hb, hg, r⟩⟩ := h
  · exact ⟨hz, hl, .inl h0⟩
  · exact ⟨hz, hl, .inr ⟨g, cap, cur, rfl, hb, by rw [hs g rfl]; exact hg, r⟩⟩
theorem ownsRow_same {w w1 : World} {base : Nat} {e : TypeId} {n : Nat} {v : Value} {xs : List Value} (h : w.ownsRow base e 1 v n xs) (hs : ∀ k, v.ownBlock = some k → w1.heap[k]? = w.heap[k]?) : w1.ownsRow base e 1 v n xs := by
  obtain ⟨hl, h0 | ⟨g, cap, cur, rfl, hb, hg, r⟩⟩ := h
  · exact ⟨hl, .inl h0⟩
  · exact ⟨hl, .inr ⟨g, cap, cur, rfl, hb, by rw [hs g rfl]; exact hg, r⟩⟩
theorem OwnB.typ {w : World} {base : Nat} {v : Value} {L : List Nat} (h : OwnB w base v L) : ∀ k, v.ownBlock = some k → ∃ cur, w.heap[k]? = some (.cells cur 5 (0, 0)) := by
  intro k hk
  obtain ⟨_, _, h0 | ⟨g, cap, cur, rfl, hb, hg, r⟩⟩ := h
  · rw [h0.1] at hk; simp [Value.ownBlock] at hk
  · simp only [Value.ownBlock, Option.some.injEq] at hk
    subst hk; exact ⟨cur, hg⟩
theorem ownsRow_typ {w : World} {base : Nat} {e : TypeId} {n : Nat} {v : Value} {xs : List Value} (h : w.ownsRow base e 1 v n xs) : ∀ k, v.ownBlock = some k → ∃ cur, w.heap[k]? = some (.cells cur e (0, 0)) := by
  intro k hk
  obtain ⟨_, h0 | ⟨g, cap, cur, rfl, hb, hg, r⟩⟩ := h
  · rw [h0.1] at hk; simp [Value.ownBlock] at hk
  · simp only [Value.ownBlock, Option.some.injEq] at hk
    subst hk; exact ⟨cur, hg⟩
theorem heap_lt {w : World} {k : Nat} {o : Obj} (h : w.heap[k]? = some o) : k < w.heap.size := (Array.getElem?_eq_some_iff.1 h).1

/-- a slice of slices of bytes: its row, and each one's bytes, no two in one row -/
structure Half (w : World) (v : Value) (xs : List Value) (Xs : List (List Nat)) : Prop where
  row : w.ownsRow 0 26 1 v xs.length xs
  len : Xs.length = xs.length
  own : ∀ i, i < xs.length → OwnB w 0 (xs.getD i nilV) (Xs.getD i [])
  apart : ∀ i j, i < xs.length → j < xs.length → i ≠ j → Apart (xs.getD i nilV) (xs.getD j nilV)
def HalfSet (v : Value) (xs : List Value) (k : Nat) : Prop := v.ownBlock = some k ∨ ∃ i, i < xs.length ∧ (xs.getD i nilV).ownBlock = some k

theorem Half.same {w w1 : World} {v : Value} {xs : List Value} {Xs : List (List Nat)} (h : Half w v xs Xs) (hs : ∀ k, HalfSet v xs k → w1.heap[k]? = w.heap[k]?) : Half w1 v xs Xs :=
  ⟨ownsRow_same h.row fun k hk => hs k (.inl hk), h.len, fun i hi => (h.own i hi).same fun k hk => hs k (.inr ⟨i, hi, hk⟩), h.apart⟩
theorem Half.lt {w : World} {v : Value} {xs : List Value} {Xs : List (List Nat)} (h : Half w v xs Xs) : ∀ k, HalfSet v xs k → k < w.heap.size := by
  rintro k (hk | ⟨i, hi, hk⟩)
  · obtain ⟨_, h1⟩ := ownsRow_typ h.row k hk; exact heap_lt h1
  · obtain ⟨_, h1⟩ := (h.own i hi).typ k hk; exact heap_lt h1
theorem getD_snoc {α : Type} (xs : List α) (x d : α) (i : Nat) : (xs ++ [x]).getD i d = if i < xs.length then xs.getD i d else if i = xs.length then x else d := by
  rw [List.getD_eq_getElem?_getD, List.getD_eq_getElem?_getD]
  split
  · rename_i h; rw [List.getElem?_append_left h]
  · rename_i h
    split
    · rename_i h2; subst h2; simp
    · rw [List.getElem?_eq_none (by simp; omega)]; rfl
/-- one more -/
theorem Half.push {w w1 : World} {v v1 x : Value} {xs : List Value} {Xs : List (List Nat)} {X : List Nat} (h : Half w v xs Xs) (hr : w1.ownsRow 0 26 1 v1 (xs.length + 1) (xs ++ [x])) (hx : OwnB w1 0 x X)
    (hs : ∀ i, i < xs.length → ∀ k, (xs.getD i nilV).ownBlock = some k → w1.heap[k]? = w.heap[k]?) (ha : ∀ i, i < xs.length → Apart (xs.getD i nilV) x) : Half w1 v1 (xs ++ [x]) (Xs ++ [X]) := by
  refine ⟨by rw [List.length_append]; exact hr, by simp [h.len], fun i hi => ?_, fun i j hi hj hij => ?_⟩
  · rw [getD_snoc, getD_snoc, h.len]
    split
    · rename_i h1; exact (h.own i h1).same (hs i h1)
    · rw [List.length_append, List.length_singleton] at hi
      rw [if_pos (by omega), if_pos (by omega)]; exact hx
  · rw [List.length_append, List.length_singleton] at hi hj
    rw [getD_snoc, getD_snoc]
    split
    · split
      · exact h.apart i j ‹_› ‹_› hij
      · rw [if_pos (by omega)]; exact ha i ‹_›
    · rw [if_pos (by omega)]
      split
      · exact (ha j ‹_›).symm
      · omega

/-- A BOOK -/
structure IsBook (w : World) (kb : Nat) (vl vw : Value) (ls ws : List Value) (Ls Ws : List (List Nat)) : Prop where
  blk : w.heap[kb]? = some (.cells #[vl, vw] 31 (0, 0))
  hl : Half w vl ls Ls
  hw : Half w vw ws Ws
  rows : Apart vl vw
  cross : ∀ i j, i < ls.length → j < ws.length → Apart (ls.getD i nilV) (ws.getD j nilV)
def BookSet (kb : Nat) (vl vw : Value) (ls ws : List Value) (k : Nat) : Prop := k = kb ∨ HalfSet vl ls k ∨ HalfSet vw ws k

theorem IsBook.same {w w1 : World} {kb : Nat} {vl vw : Value} {ls ws : List Value} {Ls Ws : List (List Nat)} (h : IsBook w kb vl vw ls ws Ls Ws) (hs : ∀ k, BookSet kb vl vw ls ws k → w1.heap[k]? = w.heap[k]?) : IsBook w1 kb vl vw ls ws Ls Ws :=
  ⟨by rw [hs kb (.inl rfl)]; exact h.blk, h.hl.same fun k hk => hs k (.inr (.inl hk)), h.hw.same fun k hk => hs k (.inr (.inr hk)), h.rows, h.cross⟩
theorem IsBook.lt {w : World} {kb : Nat} {vl vw : Value} {ls ws : List Value} {Ls Ws : List (List Nat)} (h : IsBook w kb vl vw ls ws Ls Ws) : ∀ k, BookSet kb vl vw ls ws k → k < w.heap.size := by
  rintro k (rfl | hk | hk)
  · exact heap_lt h.blk
  · exact h.hl.lt k hk
  · exact h.hw.lt k hk
theorem IsBook.kept {w w1 : World} {kb : Nat} {vl vw : Value} {ls ws : List Value} {Ls Ws : List (List Nat)} (h : IsBook w kb vl vw ls ws Ls Ws) (hb : Below w.heap.size w w1) : IsBook w1 kb vl vw ls ws Ls Ws :=
  h.same fun k hk => hb.block k (h.lt k hk)
theorem IsBook.c0 {w : World} {kb : Nat} {vl vw : Value} {ls ws : List Value} {Ls Ws : List (List Nat)} (h : IsBook w kb vl vw ls ws Ls Ws) : w.cell? ⟨kb, 0, none⟩ = some vl := by simp [World.cell?, h.blk]
theorem IsBook.c1 {w : World} {kb : Nat} {vl vw : Value} {ls ws : List Value} {Ls Ws : List (List Nat)} (h : IsBook w kb vl vw ls ws Ls Ws) : w.cell? ⟨kb, 1, none⟩ = some vw := by simp [World.cell?, h.blk]
theorem IsBook.frozen {w : World} {kb : Nat} {vl vw : Value} {ls ws : List Value} {Ls Ws : List (List Nat)} (h : IsBook w kb vl vw ls ws Ls Ws) (j : Nat) : w.frozen? ⟨kb, j, none⟩ = false := frozen_of_row w kb j _ _ h.blk

theorem infoS : (Try.prog.info? 26).map (fun i => (i.zero, i.size, i.bytes)) = some (some (.slice none 0 0), 1, 24) := by kernel_rfl

/-- WHAT A STEP THAT TOUCHES SOME BLOCKS LEAVES -/
structure Touch (S : Nat → Prop) (w w1 : World) : Prop where
  os : w1.os = w.os
  tape : w1.tape = w.tape
  output : w1.output = w.output
  size : w.heap.size ≤ w1.heap.size
  block : ∀ k, k < w.heap.size → ¬ S k → w1.heap[k]? = w.heap[k]?

theorem slice_one (a : Option Addr) (n c : Nat) : (Value.slice a n c).oneCell' = true := rfl

section
variable {w : World} {kb : Nat} {vl vw : Value} {ls ws : List Value} {Ls Ws : List (List Nat)} (h : IsBook w kb vl vw ls ws Ls Ws)
include h
theorem IsBook.ne_l : ∀ k, vl.ownBlock = some k → k ≠ kb := by
  rintro k hk rfl
  obtain ⟨_, h1⟩ := ownsRow_typ h.hl.row k hk
  rw [h.blk] at h1; simp at h1
theorem IsBook.ne_w : ∀ k, vw.ownBlock = some k → k ≠ kb := by
  rintro k hk rfl
  obtain ⟨_, h1⟩ := ownsRow_typ h.hw.row k hk
  rw [h.blk] at h1; simp at h1
theorem IsBook.ne_b {x : Value} {X : List Nat} (hx : OwnB w 0 x X) : ∀ k, x.ownBlock = some k → k ≠ kb ∧ vl.ownBlock ≠ some k ∧ vw.ownBlock ≠ some k := by
  intro k hk
  obtain ⟨_, h1⟩ := hx.typ k hk
  refine ⟨?_, fun e => ?_, fun e => ?_⟩
  · rintro rfl; rw [h.blk] at h1; simp at h1
  · obtain ⟨_, h2⟩ := ownsRow_typ h.hl.row k e; rw [h1] at h2; simp at h2
  · obtain ⟨_, h2⟩ := ownsRow_typ h.hw.row k e; rw [h1] at h2; simp at h2

/-- the first statement of put -/
theorem push_lists {w2 : World} {l : Value} {L : List Nat} {g cap : Nat} (hx : OwnB w 0 l L) (hap : ∀ k, l.ownBlock = some k → ¬ BookSet kb vl vw ls ws k)
    (hown : w2.ownsRow 0 26 1 (.slice (some ⟨g, 0, none⟩) (ls.length + 1) cap) (ls.length + 1) (ls ++ [l])) (hgrow : ∀ k, k < w.heap.size → vl.ownBlock ≠ some k → w2.heap[k]? = w.heap[k]?) (hat : vl.ownBlock = some g ∨ w.heap.size ≤ g) :
    IsBook (w2.setCell ⟨kb, 0, none⟩ (.slice (some ⟨g, 0, none⟩) (ls.length + 1) cap)) kb (.slice (some ⟨g, 0, none⟩) (ls.length + 1) cap) vw (ls ++ [l]) ws (Ls ++ [L]) Ws := by
  have hkb := heap_lt h.blk
  have hk0 : w2.heap[kb]? = w.heap[kb]? := hgrow kb hkb (fun e => h.ne_l kb e rfl)
  have hgk : g ≠ kb := by
    rcases hat with e | e
    · exact h.ne_l g e
    · omega
  have hother : ∀ k, k < w.heap.size → vl.ownBlock ≠ some k → k ≠ kb → (w2.setCell ⟨kb, 0, none⟩ (.slice (some ⟨g, 0, none⟩) (ls.length + 1) cap)).heap[k]? = w.heap[k]? :=
    fun k h1 h2 h3 => (heap_setCell_other w2 ⟨kb, 0, none⟩ k _ h3).trans (hgrow k h1 h2)
  refine ⟨?_, ?_, ?_, ?_, ?_⟩
  · have := heap_setCell_same w2 kb 0 _ _ (.slice (some ⟨g, 0, none⟩) (ls.length + 1) cap) (hk0.trans h.blk)
    rw [this]; rfl
  · refine h.hl.push (ownsRow_setCell_other hown (by simp [Value.ownBlock]; exact hgk) _) (hx.same fun k hk => ?_) (fun i hi k hk => ?_) (fun i hi k hk hl => ?_)
    · have h1 := hap k hk
      obtain ⟨_, h2⟩ := hx.typ k hk
      exact hother k (heap_lt h2) (fun e => h1 (.inr (.inl (.inl e)))) (fun e => h1 (.inl e))
    · have h1 := h.ne_b (h.hl.own i hi) k hk
      obtain ⟨_, h2⟩ := (h.hl.own i hi).typ k hk
      exact hother k (heap_lt h2) h1.2.1 h1.1
    · exact hap k hl (.inr (.inl (.inr ⟨i, hi, hk⟩)))
  · refine h.hw.same fun k hk => ?_
    have h2 := h.hw.lt k hk
    rcases hk with hk | ⟨i, hi, hk⟩
    · exact hother k h2 (fun e => h.rows k e hk) (h.ne_w k hk)
    · have h1 := h.ne_b (h.hw.own i hi) k hk
      exact hother k h2 h1.2.1 h1.1
  · intro k hk hw
    simp only [Value.ownBlock, Option.some.injEq] at hk
    subst hk
    rcases hat with e | e
    · exact h.rows g e hw
    · have := h.hw.lt g (.inl hw); omega
  · intro i j hi hj
    rw [getD_snoc]
    split
    · exact h.cross i j ‹_› hj
    · rw [List.length_append, List.length_singleton] at hi
      rw [if_pos (by omega)]
      exact fun k hk hw => hap k hk (.inr (.inr (.inr ⟨j, hj, hw⟩)))
/-- the second statement of put -/
theorem push_want {w2 : World} {l : Value} {L : List Nat} {g cap : Nat} (hx : OwnB w2 0 l L) (hnew : ∀ k, l.ownBlock = some k → w.heap.size ≤ k ∧ k ≠ g)
    (hown : w2.ownsRow 0 26 1 (.slice (some ⟨g, 0, none⟩) (ws.length + 1) cap) (ws.length + 1) (ws ++ [l])) (hgrow : ∀ k, k < w.heap.size → vw.ownBlock ≠ some k → w2.heap[k]? = w.heap[k]?) (hat : vw.ownBlock = some g ∨ w.heap.size ≤ g) :
    IsBook (w2.setCell ⟨kb, 1, none⟩ (.slice (some ⟨g, 0, none⟩) (ws.length + 1) cap)) kb vl (.slice (some ⟨g, 0, none⟩) (ws.length + 1) cap) ls (ws ++ [l]) Ls (Ws ++ [L]) := by
  have hkb := heap_lt h.blk
  have hk0 : w2.heap[kb]? = w.heap[kb]? := hgrow kb hkb (fun e => h.ne_w kb e rfl)
  have hgk : g ≠ kb := by
    rcases hat with e | e
    · exact h.ne_w g e
    · omega
  have hother : ∀ k, k < w.heap.size → vw.ownBlock ≠ some k → k ≠ kb → (w2.setCell ⟨kb, 1, none⟩ (.slice (some ⟨g, 0, none⟩) (ws.length + 1) cap)).heap[k]? = w.heap[k]? :=
    fun k h1 h2 h3 => (heap_setCell_other w2 ⟨kb, 1, none⟩ k _ h3).trans (hgrow k h1 h2)
  refine ⟨?_, ?_, ?_, ?_, ?_⟩
  · have := heap_setCell_same w2 kb 1 _ _ (.slice (some ⟨g, 0, none⟩) (ws.length + 1) cap) (hk0.trans h.blk)
    rw [this]; rfl
  · refine h.hl.same fun k hk => ?_
    have h2 := h.hl.lt k hk
    rcases hk with hk | ⟨i, hi, hk⟩
    · exact hother k h2 (fun e => h.rows k hk e) (h.ne_l k hk)
    · have h1 := h.ne_b (h.hl.own i hi) k hk
      exact hother k h2 h1.2.2 h1.1
  · refine h.hw.push (ownsRow_setCell_other hown (by simp [Value.ownBlock]; exact hgk) _) (hx.same fun k hk => ?_) (fun i hi k hk => ?_) (fun i hi k hk hl => ?_)
    · exact heap_setCell_other w2 ⟨kb, 1, none⟩ k _ (by have := (hnew k hk).1; show k ≠ kb; omega)
    · have h1 := h.ne_b (h.hw.own i hi) k hk
      obtain ⟨_, h2⟩ := (h.hw.own i hi).typ k hk
      exact hother k (heap_lt h2) h1.2.2 h1.1
    · have h1 := (hnew k hl).1
      have h2 := h.hw.lt k (.inr ⟨i, hi, hk⟩)
      omega
  · intro k hk hw
    simp only [Value.ownBlock, Option.some.injEq] at hw
    subst hw
    rcases hat with e | e
    · exact h.rows g hk e
    · have := h.hl.lt g (.inl hk); omega
  · intro i j hi hj
    rw [getD_snoc]
    split
    · exact h.cross i j hi ‹_›
    · rw [List.length_append, List.length_singleton] at hj
      rw [if_pos (by omega)]
      intro k hk hl
      have h1 := (hnew k hl).1
      have h2 := h.hl.lt k (.inr ⟨i, hi, hk⟩)
      omega
end

theorem grown_alloc_b {w : World} {o : Obj} {row : Option Nat} (w1 : World) (h : (w.alloc o).grownBy w1 row) : w.grownBy w1 row :=
  ⟨h.os, h.tape, h.output, Nat.le_trans (by simp) h.size, fun k hk hne => (h.block k (by simp; omega) hne).trans (Below.heap_alloc w o k hk)⟩
theorem grown_far {w w1 : World} {v : Value} (h : w.grownBy w1 v.ownBlock) : ∀ k, k < w.heap.size → v.ownBlock ≠ some k → w1.heap[k]? = w.heap[k]? := fun k hk hne => h.block k hk (fun e => hne e.symm)

set_option maxHeartbeats 1000000 in
theorem put_any (w : World) (kb : Nat) (vl vw : Value) (ls ws : List Value) (Ls Ws : List (List Nat)) (ao : Option Addr) (m c : Nat) (L : List Nat) (h : IsBook w kb vl vw ls ws Ls Ws) (hx : OwnB w 0 (.slice ao m c) L) (hap : ∀ k, (Value.slice ao m c).ownBlock = some k → ¬ BookSet kb vl vw ls ws k)
    (hn : ls.length + 1 ≤ 4194304) (hw : ws.length = ls.length) (hL : L.length ≤ 140737488355328) :
    Calls Try.prog 12 #[.pointer (some ⟨kb, 0, none⟩), .slice ao m c] w fun e w' => e = .returned (.tuple #[]) ∧ ∃ vl' vw' x, IsBook w' kb vl' vw' (ls ++ [.slice ao m c]) (ws ++ [x]) (Ls ++ [L]) (Ws ++ [L]) ∧
      Touch (fun k => k = kb ∨ vl.ownBlock = some k ∨ vw.ownBlock = some k) w w' ∧ (∀ k, BookSet kb vl' vw' (ls ++ [.slice ao m c]) (ws ++ [x]) k → BookSet kb vl vw ls ws k ∨ (Value.slice ao m c).ownBlock = some k ∨ w.heap.size ≤ k) := by
  obtain ⟨i0, hi, hz0, hz1, hz2⟩ := info_parts infoS
  have HB : Hid (IsBook w kb vl vw ls ws Ls Ws) := h
  have HX : Hid (OwnB w 0 (.slice ao m c) L) := hx
  have HAP : Hid (∀ k, (Value.slice ao m c).ownBlock = some k → ¬ BookSet kb vl vw ls ws k) := hap
  have HWL : Hid (ws.length = ls.length) := hw
  have c0 := h.c0
  have c1 := h.c1
  have f0 := h.frozen 0
  have f1 := h.frozen 1
  have hkl := heap_lt h.blk
  clear h hx hap hw
  go_enter Try.func12, Try.ntmps12
  go_wp2_with (at_builtin; refine wpList_append_lies _ rfl _ _ 29 rfl 0 26 i0 (.slice none 0 0) 1 24 Try.underlying29 hi hz0 hz1 hz2 rfl (by decide) vl ls.length ls rfl (HB.out.hl.row.alloc _) _ 1 1 [.slice ao m c] rfl rfl (cell_one_new _ _ _) (by simp [slice_one]) (by omega) (by unfold maxLen; omega) (by omega) (Nat.zero_le _) (w.heap.size + 1) (by simp) ?_; intro g cap w1 hown1 hgrow1 hat1 hlt1; have hg1 := grown_alloc_b w1 hgrow1; have hk1 : w1.heap[kb]? = w.heap[kb]? := grown_far hg1 kb hkl (fun e => HB.out.ne_l kb e rfl); have hc1 : w1.cell? ⟨kb, 0, none⟩ = some vl := (by simp only [World.cell?]; rw [hk1]; exact c0); have hf1 : w1.frozen? ⟨kb, 0, none⟩ = false := (World.frozen?_of_block hk1).trans f0; have HG1 : Hid (w.grownBy w1 vl.ownBlock) := hg1; have HB2 : Hid (IsBook (w1.setCell ⟨kb, 0, none⟩ (.slice (some ⟨g, 0, none⟩) (ls.length + 1) cap)) kb (.slice (some ⟨g, 0, none⟩) (ls.length + 1) cap) vw (ls ++ [.slice ao m c]) ws (Ls ++ [L]) Ws) := push_lists HB.out HX.out HAP.out hown1 (grown_far hg1) (hat1.imp id (fun e => by omega)); have HAT1 : Hid (vl.ownBlock = some g ∨ w.heap.size ≤ g) := hat1.imp id (fun e => by omega); clear hown1 hgrow1 hat1 hlt1 hg1 hk1)
  have HT2 : Hid (Touch (fun k => k = kb ∨ vl.ownBlock = some k ∨ vw.ownBlock = some k) w (w1.setCell ⟨kb, 0, none⟩ (.slice (some ⟨g, 0, none⟩) (ls.length + 1) cap))) :=
    ⟨HG1.out.os, HG1.out.tape, HG1.out.output, by simpa using HG1.out.size, fun k hk hS => (heap_setCell_other w1 ⟨kb, 0, none⟩ k _ (fun e => hS (.inl e))).trans (grown_far HG1.out k hk (fun e => hS (.inr (.inl e))))⟩
  have HX2 : Hid (BytesAt (w1.setCell ⟨kb, 0, none⟩ (.slice (some ⟨g, 0, none⟩) (ls.length + 1) cap)) ao L ∧ m = L.length) := by
    have h1 := HB2.out.hl.own ls.length (by simp)
    rw [getD_snoc, getD_snoc, HB.out.hl.len, if_neg (by omega), if_pos rfl, if_neg (by omega), if_pos rfl] at h1
    exact h1.bytes
  generalize hvl' : Value.slice (some ⟨g, 0, none⟩) (ls.length + 1) cap = vl' at *
  have HVL : Hid (∀ k, vl'.ownBlock = some k → vl.ownBlock = some k ∨ w.heap.size ≤ k) := by
    intro k hk
    rw [← hvl'] at hk
    simp only [Value.ownBlock, Option.some.injEq] at hk
    subst hk; exact HAT1.out
  generalize w1.setCell ⟨kb, 0, none⟩ vl' = w2 at *
  clear hvl' hc1 hf1 c0 c1 f0 f1 HG1 HAT1 HX
  have c1 := HB2.out.c1
  have f1 := HB2.out.frozen 1
  have hkl2 := heap_lt HB2.out.blk
  have hwl : ws.length + 1 ≤ 4194304 := by rw [HWL.out]; exact hn
  have hml : m = L.length := HX2.out.2
  have hml' : m ≤ 281474976710656 := by omega
  clear hml
  have HAFT : Hid (∀ w3 w5 g5 cap5, RowAt w3 w2.heap.size L → Below w2.heap.size w2.drew w3 → w3.heap.size = w2.heap.size + 1 → w5.ownsRow 0 26 1 (.slice (some ⟨g5, 0, none⟩) (ws.length + 1) cap5) (ws.length + 1) (ws ++ [.slice (some ⟨w2.heap.size, 0, none⟩) m m]) → w3.grownBy w5 vw.ownBlock →
      (vw.ownBlock = some g5 ∨ g5 = (w3.alloc (.cells #[.slice (some ⟨w2.heap.size, 0, none⟩) m m] 26)).heap.size) → w5.cell? ⟨kb, 1, none⟩ = some vw ∧ w5.frozen? ⟨kb, 1, none⟩ = false ∧
      IsBook (w5.setCell ⟨kb, 1, none⟩ (.slice (some ⟨g5, 0, none⟩) (ws.length + 1) cap5)) kb vl' (.slice (some ⟨g5, 0, none⟩) (ws.length + 1) cap5) (ls ++ [.slice ao m c]) (ws ++ [.slice (some ⟨w2.heap.size, 0, none⟩) m m]) (Ls ++ [L]) (Ws ++ [L]) ∧
      Touch (fun k => k = kb ∨ vl.ownBlock = some k ∨ vw.ownBlock = some k) w (w5.setCell ⟨kb, 1, none⟩ (.slice (some ⟨g5, 0, none⟩) (ws.length + 1) cap5)) ∧ (vw.ownBlock = some g5 ∨ w2.heap.size ≤ g5)) := by
    intro w3 w5 g5 cap5 hrow hbel hs3 hown hgr hat
    have hb3 : ∀ k, k < w2.heap.size → w3.heap[k]? = w2.heap[k]? := fun k hk => hbel.block k hk
    have hfar : ∀ k, k < w2.heap.size → vw.ownBlock ≠ some k → w5.heap[k]? = w2.heap[k]? := fun k hk hne => (grown_far hgr k (by omega) hne).trans (hb3 k hk)
    have hk5 : w5.heap[kb]? = w2.heap[kb]? := hfar kb hkl2 (fun e => HB2.out.ne_w kb e rfl)
    have hat' : vw.ownBlock = some g5 ∨ w2.heap.size + 2 ≤ g5 := hat.imp id (fun e => by rw [e]; simp [hs3])
    have hvw : vw.ownBlock ≠ some w2.heap.size := fun e => by have := HB2.out.hw.lt _ (.inl e); omega
    refine ⟨by simp only [World.cell?]; rw [hk5]; exact c1, (World.frozen?_of_block hk5).trans f1, ?_, ?_, hat'.imp id (fun e => by omega)⟩
    · refine push_want HB2.out (L := L) ?_ ?_ hown hfar (hat'.imp id (fun e => by omega))
      · have h1 : OwnB w3 0 (.slice (some ⟨w2.heap.size, 0, none⟩) L.length L.length) L := OwnB.ofRow hrow HX2.out.1.1 (by unfold maxLen; omega) (Nat.zero_le _)
        rw [← HX2.out.2] at h1
        exact h1.grown hgr (.inr (by simp only [Value.ownBlock]; exact fun e => hvw e.symm))
      · intro k hk
        simp only [Value.ownBlock, Option.some.injEq] at hk
        subst hk
        refine ⟨Nat.le_refl _, fun e => ?_⟩
        rcases hat' with h1 | h1
        · rw [← e] at h1; exact hvw h1
        · omega
    · have hT := HT2.out
      refine ⟨(hgr.os.trans hbel.os).trans hT.os, (hgr.tape.trans hbel.tape).trans hT.tape, (hgr.output.trans hbel.output).trans hT.output, by have h1 := hgr.size; have h2 := hT.size; simp; omega, fun k hk hS => ?_⟩
      have h2 := hT.size
      rw [heap_setCell_other w5 ⟨kb, 1, none⟩ k _ (fun e => hS (.inl e)), hfar k (by omega) (fun e => hS (.inr (.inr e)))]
      exact hT.block k hk hS
  go_region_law (first
    | (refine step_append_lies _ rfl _ _ 29 rfl 0 26 i0 (.slice none 0 0) 1 24 Try.underlying29 hi hz0 hz1 hz2 rfl (by decide) vw ws.length ws rfl (HR3.out.alloc _) _ 1 1 [.slice (some ⟨w2.heap.size, 0, none⟩) m m] rfl rfl (cell_one_new _ _ _) (by simp [slice_one]) (by omega) (by unfold maxLen; omega) (by omega) (Nat.zero_le _) _ rfl ?_; intro g5 cap5 w5 hown5 hgrow5 hat5 hlt5; have HQ := HAFT.out w3 w5 g5 cap5 HRow3.out HB3.out HS3.out hown5 (grown_alloc_b w5 hgrow5) hat5; have hc5 := HQ.1; have hf5 := HQ.2.1; have HQQ : Hid (IsBook (w5.setCell ⟨kb, 1, none⟩ (.slice (some ⟨g5, 0, none⟩) (ws.length + 1) cap5)) kb vl' (.slice (some ⟨g5, 0, none⟩) (ws.length + 1) cap5) (ls ++ [.slice ao m c]) (ws ++ [.slice (some ⟨w2.heap.size, 0, none⟩) m m]) (Ls ++ [L]) (Ws ++ [L]) ∧ Touch (fun k => k = kb ∨ vl.ownBlock = some k ∨ vw.ownBlock = some k) w (w5.setCell ⟨kb, 1, none⟩ (.slice (some ⟨g5, 0, none⟩) (ws.length + 1) cap5)) ∧ (vw.ownBlock = some g5 ∨ w2.heap.size ≤ g5)) := HQ.2.2; clear HQ hown5 hgrow5 hat5 hlt5)
    | (go_simp; go_at_call 17; go_loud (refine (copied_any w2.drew ao c m L HX2.out.2 HX2.out.1 hml').mono ?_; rintro e3 w3 ⟨rfl, hr3, hb3, hs3⟩; have HR3 : Hid (w3.ownsRow 0 26 1 vw ws.length ws) := (HB2.out.kept (w1 := w3) ⟨hb3.os, hb3.tape, hb3.output, hb3.size, hb3.block⟩).hw.row; have c3 : w3.cell? ⟨kb, 1, none⟩ = some vw := (hb3.cell (p := ⟨kb, 1, none⟩) hkl2).trans c1; have c3a : (w3.alloc (.cells #[.slice (some ⟨w2.heap.size, 0, none⟩) m m] 26)).cell? ⟨kb, 1, none⟩ = some vw := (World.cell?_alloc_lt _ _ _ (World.block_lt_of_cell? w3 ⟨kb, 1, none⟩ c3)).trans c3; have HRow3 : Hid (RowAt w3 w2.heap.size L) := hr3; have HB3 : Hid (Below w2.heap.size w2.drew w3) := hb3; have HS3 : Hid (w3.heap.size = w2.heap.size + 1) := hs3; clear hr3 hb3 hs3)))
  all_goals go_wp2
  all_goals go_end0
  all_goals
    refine ⟨rfl, _, _, _, HQQ.out.1, HQQ.out.2.1, ?_⟩
    have hs2 := HT2.out.size
    rintro k (hk | (hk | ⟨i, hi, hk⟩) | (hk | ⟨i, hi, hk⟩))
    · exact .inl (.inl hk)
    · exact (HVL.out k hk).elim (fun e => .inl (.inr (.inl (.inl e)))) (fun e => .inr (.inr e))
    · rw [getD_snoc] at hk
      split at hk
      · exact .inl (.inr (.inl (.inr ⟨i, ‹_›, hk⟩)))
      · rw [List.length_append, List.length_singleton] at hi
        rw [if_pos (by omega)] at hk
        exact .inr (.inl hk)
    · simp only [Value.ownBlock, Option.some.injEq] at hk
      subst hk
      exact HQQ.out.2.2.elim (fun e => .inl (.inr (.inr (.inl e)))) (fun e => .inr (.inr (by omega)))
    · rw [getD_snoc] at hk
      split at hk
      · exact .inl (.inr (.inr (.inr ⟨i, ‹_›, hk⟩)))
      · rw [List.length_append, List.length_singleton] at hi
        rw [if_pos (by omega)] at hk
        simp only [Value.ownBlock, Option.some.injEq] at hk
        exact .inr (.inr (by omega))

end Go.Proofs.Ythdlilekilkogaa
