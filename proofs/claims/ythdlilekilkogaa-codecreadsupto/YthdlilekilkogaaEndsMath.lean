/-
  STEPS OF (*book).ends, AS WORLDS.
-/
import Derived.Test.YthdlilekilkogaaWhole
namespace Go.Proofs.Ythdlilekilkogaa
open Go.RowKit

theorem getD_set' {α : Type} (xs : List α) (i : Nat) (x d : α) (j : Nat) : (xs.set i x).getD j d = if i = j ∧ j < xs.length then x else xs.getD j d := by
  rw [List.getD_eq_getElem?_getD, List.getD_eq_getElem?_getD, List.getElem?_set]
  by_cases h : i = j
  · subst h
    by_cases h2 : i < xs.length
    · simp [h2]
    · simp [h2]
  · simp [h]

theorem Touch.refl (S : Nat → Prop) (w : World) : Touch S w w := ⟨rfl, rfl, rfl, Nat.le_refl _, fun _ _ _ => rfl⟩
theorem Touch.trans {S : Nat → Prop} {w w1 w2 : World} (h : Touch S w w1) (k : Touch S w1 w2) : Touch S w w2 :=
  ⟨k.os.trans h.os, k.tape.trans h.tape, k.output.trans h.output, Nat.le_trans h.size k.size, fun i hi hS => (k.block i (Nat.lt_of_lt_of_le hi h.size) hS).trans (h.block i hi hS)⟩
theorem Touch.drewN {S : Nat → Prop} {w w1 : World} (h : Touch S w w1) (q : Nat) : Touch S w (w1.drewN q) := ⟨h.os, h.tape, h.output, h.size, h.block⟩
theorem Touch.alloc {S : Nat → Prop} {w w1 : World} (h : Touch S w w1) (o : Obj) : Touch S w (w1.alloc o) :=
  ⟨h.os, h.tape, h.output, by have := h.size; simp; omega, fun k hk hS => (Below.heap_alloc w1 o k (Nat.lt_of_lt_of_le hk h.size)).trans (h.block k hk hS)⟩
theorem Touch.setCell {S : Nat → Prop} {w w1 : World} (h : Touch S w w1) (a : Addr) (v : Value) (ha : S a.block ∨ w.heap.size ≤ a.block) : Touch S w (w1.setCell a v) :=
  ⟨h.os, h.tape, h.output, by simpa using h.size, fun k hk hS => (heap_setCell_other w1 a k v (fun e => ha.elim (fun e2 => hS (by rw [e]; exact e2)) (fun e2 => by omega))).trans (h.block k hk hS)⟩
theorem Touch.grown {S : Nat → Prop} {w w1 w2 : World} {row : Option Nat} (h : Touch S w w1) (hg : w1.grownBy w2 row) (hr : ∀ k, row = some k → S k ∨ w.heap.size ≤ k) : Touch S w w2 :=
  ⟨hg.os.trans h.os, hg.tape.trans h.tape, hg.output.trans h.output, Nat.le_trans h.size hg.size, fun k hk hS => (hg.block k (Nat.lt_of_lt_of_le hk h.size) (fun e => (hr k e.symm).elim hS (fun e2 => by omega))).trans (h.block k hk hS)⟩

/-- a byte of one of the slices is written -/
theorem Half.set {w : World} {v : Value} {xs : List Value} {Xs : List (List Nat)} (h : Half w v xs Xs) {i g m c : Nat} (hi : i < xs.length) (hv : xs.getD i nilV = .slice (some ⟨g, 0, none⟩) m c) (j z : Nat) (hz : z < 256) :
    Half (w.setCell ⟨g, j, none⟩ (.int .u8 (z : Int))) v xs (Xs.set i ((Xs.getD i []).set j z)) := by
  have hgi : (xs.getD i nilV).ownBlock = some g := by rw [hv]; rfl
  have hvg : v.ownBlock ≠ some g := by
    intro e
    obtain ⟨_, h1⟩ := ownsRow_typ h.row g e
    obtain ⟨_, h2⟩ := (h.own i hi).typ g hgi
    rw [h1] at h2; simp at h2
  refine ⟨ownsRow_setCell_other h.row hvg _, by simp [h.len], fun k hk => ?_, h.apart⟩
  rw [getD_set']
  by_cases e : i = k
  · subst e
    rw [if_pos ⟨rfl, by rw [h.len]; exact hi⟩]
    have h1 := h.own i hi
    rw [hv] at h1 ⊢
    exact h1.set j z hz
  · rw [if_neg (fun h => e h.1)]
    refine (h.own k hk).same fun b hb => heap_setCell_other w ⟨g, j, none⟩ b _ (fun e2 => ?_)
    have e3 : b = g := e2
    exact h.apart k i hk hi (fun e4 => e e4.symm) b hb (by rw [hgi, e3])

section
variable {w : World} {kb : Nat} {vl vw : Value} {ls ws : List Value} {Ls Ws : List (List Nat)} (h : IsBook w kb vl vw ls ws Ls Ws) {i g m c : Nat}
include h
theorem IsBook.setL (hi : i < ls.length) (hv : ls.getD i nilV = .slice (some ⟨g, 0, none⟩) m c) (j z : Nat) (hz : z < 256) :
    IsBook (w.setCell ⟨g, j, none⟩ (.int .u8 (z : Int))) kb vl vw ls ws (Ls.set i ((Ls.getD i []).set j z)) Ws := by
  have hgi : (ls.getD i nilV).ownBlock = some g := by rw [hv]; rfl
  have hne := h.ne_b (h.hl.own i hi) g hgi
  refine ⟨?_, h.hl.set hi hv j z hz, h.hw.same fun k hk => ?_, h.rows, h.cross⟩
  · rw [heap_setCell_other w ⟨g, j, none⟩ kb _ (fun e => hne.1 e.symm)]; exact h.blk
  · refine heap_setCell_other w ⟨g, j, none⟩ k _ (fun e => ?_)
    have e3 : k = g := e
    rcases hk with hk | ⟨t, ht, hk⟩
    · exact hne.2.2 (by rw [← e3]; exact hk)
    · exact h.cross i t hi ht g hgi (by rw [← e3]; exact hk)
theorem IsBook.setW (hi : i < ws.length) (hv : ws.getD i nilV = .slice (some ⟨g, 0, none⟩) m c) (j z : Nat) (hz : z < 256) :
    IsBook (w.setCell ⟨g, j, none⟩ (.int .u8 (z : Int))) kb vl vw ls ws Ls (Ws.set i ((Ws.getD i []).set j z)) := by
  have hgi : (ws.getD i nilV).ownBlock = some g := by rw [hv]; rfl
  have hne := h.ne_b (h.hw.own i hi) g hgi
  refine ⟨?_, h.hl.same fun k hk => ?_, h.hw.set hi hv j z hz, h.rows, h.cross⟩
  · rw [heap_setCell_other w ⟨g, j, none⟩ kb _ (fun e => hne.1 e.symm)]; exact h.blk
  · refine heap_setCell_other w ⟨g, j, none⟩ k _ (fun e => ?_)
    have e3 : k = g := e
    rcases hk with hk | ⟨t, ht, hk⟩
    · exact hne.2.1 (by rw [← e3]; exact hk)
    · exact h.cross t i ht hi g (by rw [← e3]; exact hk) hgi
end

/-! ### the lists grow -/
/-- what is appended to the t-th, cnt times -/
def grownList (Ms : List (List Nat)) (J i0 t : Nat) : List Nat := Ms.getD t [] ++ List.replicate (if t < i0 then J + 1 else J) ((100 + t * 3) % 256)
theorem grownList_step (Ms : List (List Nat)) (J t : Nat) : grownList Ms J t t ++ [(100 + t * 3) % 256] = grownList Ms J (t + 1) t := by
  unfold grownList
  rw [if_neg (by omega), if_pos (by omega), List.append_assoc]
  congr 1
  rw [List.replicate_succ']
theorem grownList_other (Ms : List (List Nat)) (J t s : Nat) (h : s ≠ t) : grownList Ms J (t + 1) s = grownList Ms J t s := by
  unfold grownList
  by_cases h1 : s < t
  · rw [if_pos h1, if_pos (by omega)]
  · rw [if_neg h1, if_neg (by omega)]
theorem grownList_next (Ms : List (List Nat)) (J n t : Nat) (h : t < n) : grownList Ms J n t = grownList Ms (J + 1) 0 t := by
  unfold grownList
  rw [if_pos h, if_neg (by omega)]

/-- the book and its growing copy: H0: where new blocks begin -/
structure Grows (wr : World) (kb : Nat) (vl vw : Value) (ls ws : List Value) (Ms : List (List Nat)) (vm : Value) (ms : List Value) (H0 J i0 : Nat) : Prop where
  book : IsBook wr kb vl vw ls ws Ms Ms
  row : wr.ownsRow 0 26 1 vm ms.length ms
  len : ms.length = ls.length
  own : ∀ t, t < ms.length → OwnB wr 0 (ms.getD t nilV) (grownList Ms J i0 t)
  apart : ∀ s t, s < ms.length → t < ms.length → s ≠ t → Apart (ms.getD s nilV) (ms.getD t nilV)
  lists : ∀ s t, s < ms.length → t < ms.length → s ≠ t → Apart (ms.getD s nilV) (ls.getD t nilV)
  wants : ∀ s t, s < ms.length → t < ms.length → Apart (ms.getD s nilV) (ws.getD t nilV)
  lies : ∀ t, t < ms.length → ∀ k, (ms.getD t nilV).ownBlock = some k → (ls.getD t nilV).ownBlock = some k ∨ H0 ≤ k
  mine : ∀ k, vm.ownBlock = some k → H0 ≤ k
  old : ∀ k, BookSet kb vl vw ls ws k → k < H0
  top : H0 ≤ wr.heap.size

/-- one more byte -/
theorem Grows.step {wr w2 : World} {kb : Nat} {vl vw : Value} {ls ws : List Value} {Ms : List (List Nat)} {ms : List Value} {H0 J i0 : Nat} {gm nm cm : Nat} {m' : Value} (h : Grows wr kb vl vw ls ws Ms (.slice (some ⟨gm, 0, none⟩) nm cm) ms H0 J i0) (hlen : ws.length = ls.length) (hi : i0 < ms.length)
    (hown : OwnB w2 0 m' (grownList Ms J i0 i0 ++ [(100 + i0 * 3) % 256])) (hgrow : wr.grownBy w2 (ms.getD i0 nilV).ownBlock) (hat : ∀ k, m'.ownBlock = some k → (ms.getD i0 nilV).ownBlock = some k ∨ wr.heap.size ≤ k)
    (hkeep : ∀ u M, OwnB wr 0 u M → u.ownBlock = (ms.getD i0 nilV).ownBlock → M.length ≤ (grownList Ms J i0 i0).length → OwnB w2 0 u M) :
    Grows (w2.setCell ⟨gm, i0, none⟩ m') kb vl vw ls ws Ms (.slice (some ⟨gm, 0, none⟩) nm cm) (ms.set i0 m') H0 J (i0 + 1) := by
  have hnm : nm = ms.length := by
    obtain ⟨_, ⟨h1, _⟩ | ⟨g', cap', cur, e, _⟩⟩ := h.row
    · cases h1
    · simp only [Value.slice.injEq] at e; exact e.2.1
  subst hnm
  have hgm0 := h.mine gm rfl
  obtain ⟨curm, hgmr⟩ := ownsRow_typ h.row gm rfl
  have hgml := heap_lt hgmr
  have hmi := h.own i0 hi
  have hmtyp := hmi.typ
  /- the row of more -/
  have hmr : (ms.getD i0 nilV).ownBlock ≠ some gm := fun e => by obtain ⟨_, h1⟩ := hmtyp gm e; rw [hgmr] at h1; simp at h1
  have hm'r : m'.ownBlock ≠ some gm := fun e => (hat gm e).elim hmr (fun e2 => by omega)
  /- blocks that are neither the grown row nor more's own -/
  have hfar : ∀ k, k < wr.heap.size → (ms.getD i0 nilV).ownBlock ≠ some k → w2.heap[k]? = wr.heap[k]? := grown_far hgrow
  have hfar' : ∀ k, k < wr.heap.size → (ms.getD i0 nilV).ownBlock ≠ some k → k ≠ gm → (w2.setCell ⟨gm, i0, none⟩ m').heap[k]? = wr.heap[k]? :=
    fun k h1 h2 h3 => (heap_setCell_other w2 ⟨gm, i0, none⟩ k _ h3).trans (hfar k h1 h2)
  have hold : ∀ k, BookSet kb vl vw ls ws k → k ≠ gm := fun k hk e => by have := h.old k hk; omega
  have hrow2 : (w2.setCell ⟨gm, i0, none⟩ m').ownsRow 0 26 1 (.slice (some ⟨gm, 0, none⟩) ms.length cm) (ms.set i0 m').length (ms.set i0 m') := by
    have h1 : w2.ownsRow 0 26 1 (.slice (some ⟨gm, 0, none⟩) ms.length cm) ms.length ms := ownsRow_same h.row fun k hk => by
      simp only [Value.ownBlock, Option.some.injEq] at hk
      subst hk; exact hfar gm hgml hmr
    rw [List.length_set]
    exact (h1.stored i0 m').1
  have hownT : ∀ t, t < ms.length → OwnB (w2.setCell ⟨gm, i0, none⟩ m') 0 ((ms.set i0 m').getD t nilV) (grownList Ms J (i0 + 1) t) := by
    intro t ht
    rw [getD_set']
    by_cases e : i0 = t
    · subst e
      rw [if_pos ⟨rfl, ht⟩, ← grownList_step]
      exact hown.same fun k hk => heap_setCell_other w2 ⟨gm, i0, none⟩ k _ (fun e2 => hm'r (by rw [hk, show k = gm from e2]))
    · rw [if_neg (fun h => e h.1), grownList_other Ms J i0 t (fun e2 => e e2.symm)]
      refine (h.own t ht).same fun k hk => ?_
      obtain ⟨_, h1⟩ := (h.own t ht).typ k hk
      refine hfar' k (heap_lt h1) (fun e2 => h.apart t i0 ht hi (fun e3 => e e3.symm) k hk e2) (fun e2 => ?_)
      subst e2
      rw [hgmr] at h1; simp at h1
  have hlists : ∀ t, t < ls.length → OwnB (w2.setCell ⟨gm, i0, none⟩ m') 0 (ls.getD t nilV) (Ms.getD t []) := by
    intro t ht
    have ho := h.book.hl.own t ht
    have h2 : OwnB w2 0 (ls.getD t nilV) (Ms.getD t []) := by
      by_cases e : (ls.getD t nilV).ownBlock = (ms.getD i0 nilV).ownBlock
      · by_cases e2 : t = i0
        · subst e2
          exact hkeep _ _ ho e (by unfold grownList; rw [List.length_append]; omega)
        · refine ho.same fun k hk => ?_
          exact absurd (by rw [← hk, e] : (ms.getD i0 nilV).ownBlock = some k) (fun e3 => h.lists i0 t hi (by rw [h.len]; exact ht) (fun e4 => e2 e4.symm) k e3 hk)
      · refine ho.same fun k hk => ?_
        obtain ⟨_, h1⟩ := ho.typ k hk
        exact hfar k (heap_lt h1) (fun e2 => e (by rw [hk, e2]))
    exact h2.same fun k hk => heap_setCell_other w2 ⟨gm, i0, none⟩ k _ (hold k (.inr (.inl (.inr ⟨t, ht, hk⟩))))
  have hbook : IsBook (w2.setCell ⟨gm, i0, none⟩ m') kb vl vw ls ws Ms Ms := by
    refine ⟨?_, ⟨ownsRow_same h.book.hl.row fun k hk => ?_, h.book.hl.len, hlists, h.book.hl.apart⟩, h.book.hw.same fun k hk => ?_, h.book.rows, h.book.cross⟩
    · rw [hfar' kb (heap_lt h.book.blk) (fun e => (h.book.ne_b hmi kb e).1 rfl) (hold kb (.inl rfl))]; exact h.book.blk
    · exact hfar' k (h.book.hl.lt k (.inl hk)) (fun e => (h.book.ne_b hmi k e).2.1 hk) (hold k (.inr (.inl (.inl hk))))
    · refine hfar' k (h.book.hw.lt k hk) (fun e => ?_) (hold k (.inr (.inr hk)))
      rcases hk with hk | ⟨t, ht, hk⟩
      · exact (h.book.ne_b hmi k e).2.2 hk
      · exact h.wants i0 t hi (by rw [h.len, ← hlen]; exact ht) k e hk
  /- m' is apart from all that ms i0 was apart from, if that is old -/
  have hsub : ∀ (x : Value) (X : List Nat), OwnB wr 0 x X → Apart (ms.getD i0 nilV) x → Apart m' x := by
    intro x X hx ha k hk hxk
    rcases hat k hk with e | e
    · exact ha k e hxk
    · obtain ⟨_, h1⟩ := hx.typ k hxk
      have := heap_lt h1; omega
  refine ⟨hbook, hrow2, by rw [List.length_set]; exact h.len, fun t ht => hownT t (by rw [List.length_set] at ht; exact ht), fun s t hs ht hst => ?_, fun s t hs ht hst => ?_, fun s t hs ht => ?_, fun t ht k hk => ?_, h.mine, h.old, ?_⟩
  · rw [List.length_set] at hs ht
    rw [getD_set', getD_set']
    by_cases e : i0 = s
    · subst e
      rw [if_pos ⟨rfl, hs⟩, if_neg (fun h => hst h.1)]
      exact hsub _ _ (h.own t ht) (h.apart i0 t hs ht hst)
    · rw [if_neg (fun h => e h.1)]
      by_cases e2 : i0 = t
      · subst e2
        rw [if_pos ⟨rfl, ht⟩]
        exact (hsub _ _ (h.own s hs) (h.apart i0 s ht hs (fun e3 => hst e3.symm))).symm
      · rw [if_neg (fun h => e2 h.1)]
        exact h.apart s t hs ht hst
  · rw [List.length_set] at hs ht
    rw [getD_set']
    by_cases e : i0 = s
    · subst e
      rw [if_pos ⟨rfl, hs⟩]
      exact hsub _ _ (h.book.hl.own t (by rw [← h.len]; exact ht)) (h.lists i0 t hs ht hst)
    · rw [if_neg (fun h => e h.1)]
      exact h.lists s t hs ht hst
  · rw [List.length_set] at hs ht
    rw [getD_set']
    by_cases e : i0 = s
    · subst e
      rw [if_pos ⟨rfl, hs⟩]
      exact hsub _ _ (h.book.hw.own t (by rw [hlen, ← h.len]; exact ht)) (h.wants i0 t hs ht)
    · rw [if_neg (fun h => e h.1)]
      exact h.wants s t hs ht
  · rw [List.length_set] at ht
    rw [getD_set'] at hk
    by_cases e : i0 = t
    · subst e
      rw [if_pos ⟨rfl, ht⟩] at hk
      rcases hat k hk with e2 | e2
      · exact h.lies i0 ht k e2
      · exact .inr (Nat.le_trans h.top e2)
    · rw [if_neg (fun h => e h.1)] at hk
      exact h.lies t ht k hk
  · have h1 := hgrow.size
    have h2 := h.top
    simp; omega

end Go.Proofs.Ythdlilekilkogaa
