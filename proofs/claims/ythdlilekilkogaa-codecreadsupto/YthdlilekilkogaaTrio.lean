/-
  A Reader, ITS MODEL AND A BOOK.
-/
import Derived.Test.YthdlilekilkogaaHeld
import Derived.Test.YthdlilekilkogaaMBytes
import Derived.Test.YthdlilekilkogaaBackMath
namespace Go.Proofs.Ythdlilekilkogaa
open Go.RowKit

def ReaderSet (R : Nat) (v : Value) (k : Nat) : Prop := k = R ∨ v.ownBlock = some k
theorem Held.reader {lab : Nat → Nat} {i : Nat} {w : World} {R : Nat} {a : Option Addr} {c : Nat} {b : List Nat} {p : Nat} {e : Int} (h : IsReader w R a c b p e) (hl : ∀ k, ReaderSet R (.slice a b.length c) k → lab k = i) :
    Held lab i w (ReaderSet R (.slice a b.length c)) (fun w' => IsReader w' R a c b p e) := by
  refine ⟨h, hl, ?_, fun w1 w2 h1 hs => ⟨(hs R (.inl rfl)).trans h1.1, h1.2.1.same (fun k hk => hs k (.inr hk)), h1.2.2⟩⟩
  rintro k (rfl | hk)
  · exact h.lt
  · exact (h.2.1.2.lt k hk).2
theorem Held.model {lab : Nat → Nat} {i : Nat} {w : World} {R : Nat} {a : Option Addr} {c : Nat} {b : List Nat} {p : Nat} {e : Int} (h : IsModel w R a c b p e) (hl : ∀ k, ReaderSet R (.slice a b.length c) k → lab k = i) :
    Held lab i w (ReaderSet R (.slice a b.length c)) (fun w' => IsModel w' R a c b p e) := by
  refine ⟨h, hl, ?_, fun w1 w2 h1 hs => ⟨(hs R (.inl rfl)).trans h1.1, h1.2.1.same (fun k hk => hs k (.inr hk)), h1.2.2⟩⟩
  rintro k (rfl | hk)
  · exact h.lt
  · exact (h.2.1.2.lt k hk).2

theorem Tch.mono {lab : Nat → Nat} {T U : Nat → Prop} {w w1 : World} (h : Tch lab T w w1) (hu : ∀ j, T j → U j) : Tch lab U w w1 := ⟨h.os, h.tape, h.output, h.size, fun k hk hn => h.block k hk (fun t => hn (hu _ t))⟩
theorem Tch.trans {lab lab' : Nat → Nat} {T : Nat → Prop} {w w1 w2 : World} (h : Tch lab T w w1) (k : Tch lab' T w1 w2) (hl : ∀ n, n < w.heap.size → lab' n = lab n) : Tch lab T w w2 :=
  ⟨k.os.trans h.os, k.tape.trans h.tape, k.output.trans h.output, Nat.le_trans h.size k.size, fun n hn ht => (k.block n (Nat.lt_of_lt_of_le hn h.size) (by rw [hl n hn]; exact ht)).trans (h.block n hn ht)⟩
theorem Tch.refl (lab : Nat → Nat) (T : Nat → Prop) (w : World) : Tch lab T w w := ⟨rfl, rfl, rfl, Nat.le_refl _, fun _ _ _ => rfl⟩

structure Trio (lab : Nat → Nat) (i j : Nat) (w : World) (R : Nat) (a : Option Addr) (c : Nat) (b : List Nat) (p : Nat) (e : Int) (M g d : Nat) (q : Nat) (x : Int) (kb : Nat) (vl vw : Value) (ls ws : List Value) (Ls : List (List Nat)) : Prop where
  r : Held lab i w (ReaderSet R (.slice a b.length c)) (fun w' => IsReader w' R a c b p e)
  m : Held lab j w (ReaderSet M (.slice (some ⟨g, 0, none⟩) b.length d)) (fun w' => IsModel w' M (some ⟨g, 0, none⟩) d b q x)
  k : Held lab 6 w (BookSet kb vl vw ls ws) (fun w' => IsBook w' kb vl vw ls ws Ls Ls)
  hij : i ≠ j
  hi : i ≠ 6
  hj : j ≠ 6
def IJK (i j : Nat) (l : Nat) : Prop := l = i ∨ l = j ∨ l = 6
section
variable {lab : Nat → Nat} {i j : Nat} {w w1 : World} {R : Nat} {a : Option Addr} {c : Nat} {b : List Nat} {p : Nat} {e : Int} {M g d : Nat} {q : Nat} {x : Int} {kb : Nat} {vl vw : Value} {ls ws : List Value} {Ls : List (List Nat)}
theorem Trio.kept (h : Trio lab i j w R a c b p e M g d q x kb vl vw ls ws Ls) (hb : Below w.heap.size w w1) : Trio lab i j w1 R a c b p e M g d q x kb vl vw ls ws Ls :=
  ⟨h.r.far (Tch.ofBelow hb) id (fun _ _ e => e), h.m.far (Tch.ofBelow hb) id (fun _ _ e => e), h.k.far (Tch.ofBelow hb) id (fun _ _ e => e), h.hij, h.hi, h.hj⟩
theorem Trio.reads {p' : Nat} {e' : Int} (h : Trio lab i j w R a c b p e M g d q x kb vl vw ls ws Ls) (hr : Reads w R a c b p' e' w1) : Trio lab i j w1 R a c b p' e' M g d q x kb vl vw ls ws Ls ∧ Tch lab (IJK i j) w w1 := by
  have ht : Tch lab (fun l => l = i) w w1 := Tch.ofGrown hr.2 (fun k hk => by cases hk; exact h.r.labs _ (.inl rfl))
  exact ⟨⟨Held.reader hr.1 h.r.labs, h.m.far ht (fun e => h.hij e.symm) (fun _ _ e => e), h.k.far ht (fun e => h.hi e.symm) (fun _ _ e => e), h.hij, h.hi, h.hj⟩, ht.mono (fun _ e => .inl e)⟩
theorem Trio.models {q' : Nat} {x' : Int} (h : Trio lab i j w R a c b p e M g d q x kb vl vw ls ws Ls) (hr : Models w M (some ⟨g, 0, none⟩) d b q' x' w1) : Trio lab i j w1 R a c b p e M g d q' x' kb vl vw ls ws Ls ∧ Tch lab (IJK i j) w w1 := by
  have ht : Tch lab (fun l => l = j) w w1 := Tch.ofGrown hr.2 (fun k hk => by cases hk; exact h.m.labs _ (.inl rfl))
  exact ⟨⟨h.r.far ht h.hij (fun _ _ e => e), Held.model hr.1 h.m.labs, h.k.far ht (fun e => h.hj e.symm) (fun _ _ e => e), h.hij, h.hi, h.hj⟩, ht.mono (fun _ e => .inr (.inl e))⟩
/-- a list that is newer than n goes into the book -/
theorem Trio.put {vl' vw' y z : Value} {L : List Nat} {n : Nat} (h : Trio lab i j w R a c b p e M g d q x kb vl vw ls ws Ls) (hn : n ≤ w.heap.size) (hr : ∀ k, ReaderSet R (.slice a b.length c) k → k < n) (hm : ∀ k, ReaderSet M (.slice (some ⟨g, 0, none⟩) b.length d) k → k < n) (hk : ∀ k, BookSet kb vl vw ls ws k → k < n)
    (hy : ∀ k, y.ownBlock = some k → n ≤ k) (hb : IsBook w1 kb vl' vw' (ls ++ [y]) (ws ++ [z]) (Ls ++ [L]) (Ls ++ [L])) (hT : Touch (fun k => k = kb ∨ vl.ownBlock = some k ∨ vw.ownBlock = some k) w w1)
    (hsub : ∀ k, BookSet kb vl' vw' (ls ++ [y]) (ws ++ [z]) k → BookSet kb vl vw ls ws k ∨ y.ownBlock = some k ∨ w.heap.size ≤ k) :
    Trio (relab lab n 6) i j w1 R a c b p e M g d q x kb vl' vw' (ls ++ [y]) (ws ++ [z]) (Ls ++ [L]) ∧ Tch lab (IJK i j) w w1 := by
  have ht : Tch lab (fun l => l = 6) w w1 := by
    refine ⟨hT.os, hT.tape, hT.output, hT.size, fun k hk hn => hT.block k hk ?_⟩
    rintro (e | e | e)
    · exact hn (h.k.labs k (.inl e))
    · exact hn (h.k.labs k (.inr (.inl (.inl e))))
    · exact hn (h.k.labs k (.inr (.inr (.inl e))))
  refine ⟨⟨?_, ?_, ?_, h.hij, h.hi, h.hj⟩, ht.mono (fun _ e => .inr (.inr e))⟩
  · have h1 := h.r.far (lab' := lab) ht h.hi (fun _ _ e => e)
    exact ⟨h1.holds, fun k hk => (relab_old _ _ _ _ (hr k hk)).trans (h1.labs k hk), h1.lts, h1.dep⟩
  · have h1 := h.m.far (lab' := lab) ht h.hj (fun _ _ e => e)
    exact ⟨h1.holds, fun k hk => (relab_old _ _ _ _ (hm k hk)).trans (h1.labs k hk), h1.lts, h1.dep⟩
  · refine Held.book hb fun k hk' => ?_
    rcases hsub k hk' with e | e | e
    · exact relab_mine (.inl ⟨hk k e, h.k.labs k e⟩)
    · exact relab_mine (.inr (hy k e))
    · exact relab_mine (.inr (by omega))
end
theorem rdRaw_len (b : List Nat) (p : Nat) (e n : Int) : (rdRaw b p e n).1.length ≤ b.length := by
  unfold rdRaw
  split
  · simp
  · split
    · simp
    · split
      · simp
      · simp only [List.length_take, List.length_drop]; omega
theorem rdBytes_len (b : List Nat) (p : Nat) (e n : Int) : (rdBytes b p e n).1.length ≤ b.length := by
  unfold rdBytes
  split
  · simp
  · split
    · simp
    · split
      · simp
      · split
        · simp
        · exact rdRaw_len b _ _ _

end Go.Proofs.Ythdlilekilkogaa
