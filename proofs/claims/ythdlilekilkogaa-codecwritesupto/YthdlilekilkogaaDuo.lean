/-
  TWO Writers, WHAT IS WANTED OF EACH, AND A BOOK (preludelaw01.CodecWrites).
-/
import Derived.Test.YthdlilekilkogaaHeld
import Derived.Test.YthdlilekilkogaaWritten
namespace Go.Proofs.Ythdlilekilkogaa
open Go.RowKit

def WriterSet (R : Nat) (v : Value) (k : Nat) : Prop := k = R ∨ v.ownBlock = some k
theorem Held.writer {lab : Nat → Nat} {i : Nat} {w : World} {base R : Nat} {v : Value} {L : List Nat} (h : IsWriter w base R v L) (hl : ∀ k, WriterSet R v k → lab k = i) : Held lab i w (WriterSet R v) (fun w' => IsWriter w' base R v L) := by
  refine ⟨h, hl, ?_, fun w1 w2 h1 hs => ⟨(hs R (.inl rfl)).trans h1.1, h1.2.1.same (fun k hk => hs k (.inr hk)), h1.2.2⟩⟩
  rintro k (rfl | hk)
  · exact h.lt
  · exact (h.2.1.2.lt k hk).2
theorem Tch.ofWrote {lab : Nat → Nat} {w w1 : World} {i R : Nat} {v v' : Value} (h : Wrote w w1 R v v') (hl : ∀ k, WriterSet R v k → lab k = i) : Tch lab (fun j => j = i) w w1 :=
  ⟨h.os, h.tape, h.output, h.size, fun k hk hn => h.block k hk (fun e => hn (hl k (.inl e))) (fun e => hn (hl k (.inr e)))⟩

structure Duo (w : World) (R0 R1 A3 A4 kb : Nat) (lab : Nat → Nat) (wr : World) (v0 v1 x0 x1 : Value) (L0 L1 M0 M1 : List Nat) (vl vw : Value) (ls ws : List Value) (Ls : List (List Nat)) : Prop where
  w0 : Held lab 0 wr (WriterSet R0 v0) (fun w' => IsWriter w' w.heap.size R0 v0 L0)
  w1 : Held lab 1 wr (WriterSet R1 v1) (fun w' => IsWriter w' w.heap.size R1 v1 L1)
  c3 : Held lab 2 wr (fun k => k = A3) (fun w' => w'.heap[A3]? = some (.cells #[.pointer (some ⟨R0, 0, none⟩), .pointer (some ⟨R1, 0, none⟩)] 25 (0, 0)))
  c4 : Held lab 3 wr (fun k => k = A4) (fun w' => w'.heap[A4]? = some (.cells #[x0, x1] 27 (0, 0)))
  o0 : Held lab 4 wr (BytesSet x0) (fun w' => OwnB w' w.heap.size x0 M0)
  o1 : Held lab 5 wr (BytesSet x1) (fun w' => OwnB w' w.heap.size x1 M1)
  bk : Held lab 6 wr (BookSet kb vl vw ls ws) (fun w' => IsBook w' kb vl vw ls ws Ls Ls)
  below : Below w.heap.size w wr
  old : ∀ k, k < w.heap.size → lab k = 9
section
variable {w : World} {R0 R1 A3 A4 kb : Nat} {lab : Nat → Nat} {wr : World} {v0 v1 x0 x1 : Value} {L0 L1 M0 M1 : List Nat} {vl vw : Value} {ls ws : List Value} {Ls : List (List Nat)}
theorem Duo.kept {lab' : Nat → Nat} {wn : World} (h : Duo w R0 R1 A3 A4 kb lab wr v0 v1 x0 x1 L0 L1 M0 M1 vl vw ls ws Ls) (hb : Below wr.heap.size wr wn) (hl : ∀ k, k < wr.heap.size → lab' k = lab k) :
    Duo w R0 R1 A3 A4 kb lab' wn v0 v1 x0 x1 L0 L1 M0 M1 vl vw ls ws Ls := by
  have ht : Tch lab (fun _ => False) wr wn := Tch.ofBelow hb
  have hl' : ∀ i k, k < wr.heap.size → lab k = i → lab' k = i := fun i k hk e => (hl k hk).trans e
  exact ⟨h.w0.far ht id (hl' 0), h.w1.far ht id (hl' 1), h.c3.far ht id (hl' 2), h.c4.far ht id (hl' 3), h.o0.far ht id (hl' 4), h.o1.far ht id (hl' 5), h.bk.far ht id (hl' 6), h.below.trans (hb.mono h.below.size), fun k hk => (hl k (Nat.lt_of_lt_of_le hk h.below.size)).trans (h.old k hk)⟩

/-- a call of the Writer 0 -/
theorem Duo.wrote0 {wn : World} {v' : Value} {L' : List Nat} (h : Duo w R0 R1 A3 A4 kb lab wr v0 v1 x0 x1 L0 L1 M0 M1 vl vw ls ws Ls) (hw : IsWriter wn w.heap.size R0 v' L') (hf : Wrote wr wn R0 v0 v') :
    ∃ lab', Duo w R0 R1 A3 A4 kb lab' wn v' v1 x0 x1 L' L1 M0 M1 vl vw ls ws Ls := by
  have ht : Tch lab (fun j => j = 0) wr wn := Tch.ofWrote hf h.w0.labs
  have hl : ∀ i k, k < wr.heap.size → lab k = i → relab lab wr.heap.size 0 k = i := fun i k hk e => (relab_old _ _ _ _ hk).trans e
  have hme : Held (relab lab wr.heap.size 0) 0 wn (WriterSet R0 v') (fun w' => IsWriter w' w.heap.size R0 v' L') := by
    refine Held.writer hw ?_
    rintro k (rfl | hk)
    · exact relab_mine (.inl ⟨h.w0.lts _ (.inl rfl), h.w0.labs _ (.inl rfl)⟩)
    · rcases hf.lies k hk with e | e
      · exact relab_mine (.inl ⟨h.w0.lts _ (.inr e), h.w0.labs _ (.inr e)⟩)
      · exact relab_mine (.inr e)
  exact ⟨_, hme, h.w1.far ht (by decide) (hl 1), h.c3.far ht (by decide) (hl 2), h.c4.far ht (by decide) (hl 3), h.o0.far ht (by decide) (hl 4), h.o1.far ht (by decide) (hl 5), h.bk.far ht (by decide) (hl 6), h.below.trans (ht.below h.old (by decide) h.below.size), fun k hk => hl 9 k (Nat.lt_of_lt_of_le hk h.below.size) (h.old k hk)⟩

/-- a call of the Writer 1 -/
theorem Duo.wrote1 {wn : World} {v' : Value} {L' : List Nat} (h : Duo w R0 R1 A3 A4 kb lab wr v0 v1 x0 x1 L0 L1 M0 M1 vl vw ls ws Ls) (hw : IsWriter wn w.heap.size R1 v' L') (hf : Wrote wr wn R1 v1 v') :
    ∃ lab', Duo w R0 R1 A3 A4 kb lab' wn v0 v' x0 x1 L0 L' M0 M1 vl vw ls ws Ls := by
  have ht : Tch lab (fun j => j = 1) wr wn := Tch.ofWrote hf h.w1.labs
  have hl : ∀ i k, k < wr.heap.size → lab k = i → relab lab wr.heap.size 1 k = i := fun i k hk e => (relab_old _ _ _ _ hk).trans e
  have hme : Held (relab lab wr.heap.size 1) 1 wn (WriterSet R1 v') (fun w' => IsWriter w' w.heap.size R1 v' L') := by
    refine Held.writer hw ?_
    rintro k (rfl | hk)
    · exact relab_mine (.inl ⟨h.w1.lts _ (.inl rfl), h.w1.labs _ (.inl rfl)⟩)
    · rcases hf.lies k hk with e | e
      · exact relab_mine (.inl ⟨h.w1.lts _ (.inr e), h.w1.labs _ (.inr e)⟩)
      · exact relab_mine (.inr e)
  exact ⟨_, h.w0.far ht (by decide) (hl 0), hme, h.c3.far ht (by decide) (hl 2), h.c4.far ht (by decide) (hl 3), h.o0.far ht (by decide) (hl 4), h.o1.far ht (by decide) (hl 5), h.bk.far ht (by decide) (hl 6), h.below.trans (ht.below h.old (by decide) h.below.size), fun k hk => hl 9 k (Nat.lt_of_lt_of_le hk h.below.size) (h.old k hk)⟩

/-- what is wanted of the Writer 0 grows -/
theorem Duo.want0 {wn : World} {v' : Value} {M' : List Nat} (h : Duo w R0 R1 A3 A4 kb lab wr v0 v1 x0 x1 L0 L1 M0 M1 vl vw ls ws Ls) (hown : OwnB wn w.heap.size v' M') (hg : wr.grownBy wn x0.ownBlock) (hat : v'.ownBlock = x0.ownBlock ∨ v'.ownBlock = some wr.heap.size) :
    wn.cell? ⟨A4, 0, none⟩ = some x0 ∧ wn.frozen? ⟨A4, 0, none⟩ = false ∧ ∃ lab', Duo w R0 R1 A3 A4 kb lab' (wn.setCell ⟨A4, 0, none⟩ v') v0 v1 v' x1 L0 L1 M' M1 vl vw ls ws Ls := by
  have h4 := h.c4.holds
  have hA4 : A4 < wr.heap.size := heap_lt h4
  have hne : x0.ownBlock ≠ some A4 := fun e => by have h1 := h.o0.labs A4 e; have h2 := h.c4.labs A4 rfl; omega
  have hn4 : wn.heap[A4]? = some (.cells #[x0, x1] 27 (0, 0)) := (hg.block A4 hA4 (fun e => hne e.symm)).trans h4
  have hs := hg.size
  have hv' : ∀ k, v'.ownBlock = some k → (k < wr.heap.size ∧ lab k = 4) ∨ wr.heap.size ≤ k := by
    intro k hk
    rcases hat with e | e
    · rw [e] at hk; exact .inl ⟨h.o0.lts k hk, h.o0.labs k hk⟩
    · rw [e] at hk; simp only [Option.some.injEq] at hk; exact .inr (by omega)
  have hne' : v'.ownBlock ≠ some A4 := fun e => by
    rcases hv' A4 e with h1 | h1
    · have h2 := h.c4.labs A4 rfl; omega
    · omega
  refine ⟨by simp [World.cell?, hn4], frozen_of_row wn A4 0 _ _ hn4, ?_⟩
  have ht : Tch lab (fun j => j = 4 ∨ j = 3) wr (wn.setCell ⟨A4, 0, none⟩ v') :=
    ⟨hg.os, hg.tape, hg.output, by simpa using hs, fun k hk hn => (heap_setCell_other wn ⟨A4, 0, none⟩ k _ (fun e => hn (.inr (by rw [show k = A4 from e]; exact h.c4.labs A4 rfl)))).trans (hg.block k hk (fun e => hn (.inl (h.o0.labs k e.symm))))⟩
  have hl : ∀ i k, k < wr.heap.size → lab k = i → relab lab wr.heap.size 4 k = i := fun i k hk e => (relab_old _ _ _ _ hk).trans e
  have hme : Held (relab lab wr.heap.size 4) 4 (wn.setCell ⟨A4, 0, none⟩ v') (BytesSet v') (fun w' => OwnB w' w.heap.size v' M') :=
    Held.bytes (hown.same fun k hk => heap_setCell_other wn ⟨A4, 0, none⟩ k _ (fun e => hne' (by rw [show A4 = k from e.symm]; exact hk))) (fun k hk => relab_mine (hv' k hk))
  have hc4 : Held (relab lab wr.heap.size 4) 3 (wn.setCell ⟨A4, 0, none⟩ v') (fun k => k = A4) (fun w' => w'.heap[A4]? = some (.cells #[v', x1] 27 (0, 0))) :=
    Held.block (by rw [heap_setCell_same wn A4 0 _ _ v' hn4]; rfl) (hl 3 A4 hA4 (h.c4.labs A4 rfl))
  exact ⟨_, h.w0.far ht (by decide) (hl 0), h.w1.far ht (by decide) (hl 1), h.c3.far ht (by decide) (hl 2), hc4, hme, h.o1.far ht (by decide) (hl 5), h.bk.far ht (by decide) (hl 6), h.below.trans (ht.below h.old (by decide) h.below.size), fun k hk => hl 9 k (Nat.lt_of_lt_of_le hk h.below.size) (h.old k hk)⟩

/-- what is wanted of the Writer 1 grows -/
theorem Duo.want1 {wn : World} {v' : Value} {M' : List Nat} (h : Duo w R0 R1 A3 A4 kb lab wr v0 v1 x0 x1 L0 L1 M0 M1 vl vw ls ws Ls) (hown : OwnB wn w.heap.size v' M') (hg : wr.grownBy wn x1.ownBlock) (hat : v'.ownBlock = x1.ownBlock ∨ v'.ownBlock = some wr.heap.size) :
    wn.cell? ⟨A4, 1, none⟩ = some x1 ∧ wn.frozen? ⟨A4, 1, none⟩ = false ∧ ∃ lab', Duo w R0 R1 A3 A4 kb lab' (wn.setCell ⟨A4, 1, none⟩ v') v0 v1 x0 v' L0 L1 M0 M' vl vw ls ws Ls := by
  have h4 := h.c4.holds
  have hA4 : A4 < wr.heap.size := heap_lt h4
  have hne : x1.ownBlock ≠ some A4 := fun e => by have h1 := h.o1.labs A4 e; have h2 := h.c4.labs A4 rfl; omega
  have hn4 : wn.heap[A4]? = some (.cells #[x0, x1] 27 (0, 0)) := (hg.block A4 hA4 (fun e => hne e.symm)).trans h4
  have hs := hg.size
  have hv' : ∀ k, v'.ownBlock = some k → (k < wr.heap.size ∧ lab k = 5) ∨ wr.heap.size ≤ k := by
    intro k hk
    rcases hat with e | e
    · rw [e] at hk; exact .inl ⟨h.o1.lts k hk, h.o1.labs k hk⟩
    · rw [e] at hk; simp only [Option.some.injEq] at hk; exact .inr (by omega)
  have hne' : v'.ownBlock ≠ some A4 := fun e => by
    rcases hv' A4 e with h1 | h1
    · have h2 := h.c4.labs A4 rfl; omega
    · omega
  refine ⟨by simp [World.cell?, hn4], frozen_of_row wn A4 1 _ _ hn4, ?_⟩
  have ht : Tch lab (fun j => j = 5 ∨ j = 3) wr (wn.setCell ⟨A4, 1, none⟩ v') :=
    ⟨hg.os, hg.tape, hg.output, by simpa using hs, fun k hk hn => (heap_setCell_other wn ⟨A4, 1, none⟩ k _ (fun e => hn (.inr (by rw [show k = A4 from e]; exact h.c4.labs A4 rfl)))).trans (hg.block k hk (fun e => hn (.inl (h.o1.labs k e.symm))))⟩
  have hl : ∀ i k, k < wr.heap.size → lab k = i → relab lab wr.heap.size 5 k = i := fun i k hk e => (relab_old _ _ _ _ hk).trans e
  have hme : Held (relab lab wr.heap.size 5) 5 (wn.setCell ⟨A4, 1, none⟩ v') (BytesSet v') (fun w' => OwnB w' w.heap.size v' M') :=
    Held.bytes (hown.same fun k hk => heap_setCell_other wn ⟨A4, 1, none⟩ k _ (fun e => hne' (by rw [show A4 = k from e.symm]; exact hk))) (fun k hk => relab_mine (hv' k hk))
  have hc4 : Held (relab lab wr.heap.size 5) 3 (wn.setCell ⟨A4, 1, none⟩ v') (fun k => k = A4) (fun w' => w'.heap[A4]? = some (.cells #[x0, v'] 27 (0, 0))) :=
    Held.block (by rw [heap_setCell_same wn A4 1 _ _ v' hn4]; rfl) (hl 3 A4 hA4 (h.c4.labs A4 rfl))
  exact ⟨_, h.w0.far ht (by decide) (hl 0), h.w1.far ht (by decide) (hl 1), h.c3.far ht (by decide) (hl 2), hc4, h.o0.far ht (by decide) (hl 4), hme, h.bk.far ht (by decide) (hl 6), h.below.trans (ht.below h.old (by decide) h.below.size), fun k hk => hl 9 k (Nat.lt_of_lt_of_le hk h.below.size) (h.old k hk)⟩

/-- a list of the label j (7 or 8) goes into the book -/
theorem Duo.put {wn : World} {vl' vw' y x : Value} {L : List Nat} {j : Nat} {S : Nat → Prop} {P : World → Prop} (h : Duo w R0 R1 A3 A4 kb lab wr v0 v1 x0 x1 L0 L1 M0 M1 vl vw ls ws Ls) (hj : j = 7 ∨ j = 8) (hy : Held lab j wr (BytesSet y) (fun w' => OwnB w' 0 y L)) (hz : j = 7 → Held lab 8 wr S P)
    (hb : IsBook wn kb vl' vw' (ls ++ [y]) (ws ++ [x]) (Ls ++ [L]) (Ls ++ [L])) (hT : Touch (fun k => k = kb ∨ vl.ownBlock = some k ∨ vw.ownBlock = some k) wr wn)
    (hsub : ∀ k, BookSet kb vl' vw' (ls ++ [y]) (ws ++ [x]) k → BookSet kb vl vw ls ws k ∨ y.ownBlock = some k ∨ wr.heap.size ≤ k) :
    ∃ lab', Duo w R0 R1 A3 A4 kb lab' wn v0 v1 x0 x1 L0 L1 M0 M1 vl' vw' (ls ++ [y]) (ws ++ [x]) (Ls ++ [L]) ∧ (j = 7 → Held lab' 8 wn S P) := by
  obtain ⟨lab', hlab⟩ : ∃ lab' : Nat → Nat, lab' = fun k => if k < wr.heap.size then (if lab k = j then 6 else lab k) else 6 := ⟨_, rfl⟩
  have hl : ∀ i, i ≠ j → ∀ k, k < wr.heap.size → lab k = i → lab' k = i := by
    intro i hi k hk e
    rw [hlab]
    simp only [if_pos hk, e, if_neg hi]
  have ht : Tch lab (fun i => i = 6) wr wn := by
    refine ⟨hT.os, hT.tape, hT.output, hT.size, fun k hk hn => hT.block k hk ?_⟩
    rintro (e | e | e)
    · exact hn (h.bk.labs k (.inl e))
    · exact hn (h.bk.labs k (.inr (.inl (.inl e))))
    · exact hn (h.bk.labs k (.inr (.inr (.inl e))))
  have hme : Held lab' 6 wn (BookSet kb vl' vw' (ls ++ [y]) (ws ++ [x])) (fun w' => IsBook w' kb vl' vw' (ls ++ [y]) (ws ++ [x]) (Ls ++ [L]) (Ls ++ [L])) := by
    refine Held.book hb fun k hk => ?_
    rcases hsub k hk with e | e | e
    · exact hl 6 (by omega) k (h.bk.lts k e) (h.bk.labs k e)
    · rw [hlab]; simp only [if_pos (hy.lts k e), hy.labs k e, if_true]
    · rw [hlab]; simp only [if_neg (show ¬ k < wr.heap.size by omega)]
  exact ⟨lab', ⟨h.w0.far ht (by omega) (hl 0 (by omega)), h.w1.far ht (by omega) (hl 1 (by omega)), h.c3.far ht (by omega) (hl 2 (by omega)), h.c4.far ht (by omega) (hl 3 (by omega)), h.o0.far ht (by omega) (hl 4 (by omega)), h.o1.far ht (by omega) (hl 5 (by omega)), hme, h.below.trans (ht.below h.old (by decide) h.below.size), fun k hk => hl 9 (by omega) k (Nat.lt_of_lt_of_le hk h.below.size) (h.old k hk)⟩, fun h7 => (hz h7).far ht (by decide) (hl 8 (by omega))⟩
end

end Go.Proofs.Ythdlilekilkogaa
