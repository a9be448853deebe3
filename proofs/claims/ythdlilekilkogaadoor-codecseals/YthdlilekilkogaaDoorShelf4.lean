/-
  A BOOK WHOSE LISTS LIE BELOW A NUMBER, AND ALL ELSE OF IT ABOVE.
-/
import Derived.Test.YthdlilekilkogaaDoorEnds
namespace Go.Proofs.YthdlilekilkogaaDoor
open Go.RowKit

structure Bk (w : World) (K0 kb : Nat) (ls : List Value) (Ls : List (List Nat)) (vl vw : Value) (ws : List Value) : Prop where
  book : IsBook w kb vl vw ls ws Ls Ls
  len : ws.length = ls.length
  set : ∀ k, BookSet kb vl vw ls ws k → K0 ≤ k ∨ ∃ i, i < ls.length ∧ (ls.getD i nilV).ownBlock = some k
  top : K0 ≤ w.heap.size

theorem Bk.new (w : World) : Bk (w.alloc (.cells #[.slice none 0 0, .slice none 0 0] 40)) w.heap.size w.heap.size [] [] (.slice none 0 0) (.slice none 0 0) [] := by
  refine ⟨⟨?_, ⟨World.ownsRow_nil _ _ _ _, rfl, fun i hi => absurd hi (by simp), fun i j hi => absurd hi (by simp)⟩, ⟨World.ownsRow_nil _ _ _ _, rfl, fun i hi => absurd hi (by simp), fun i j hi => absurd hi (by simp)⟩, fun k hk => by simp [Value.ownBlock] at hk, fun i j hi => absurd hi (by simp)⟩, rfl, ?_, by simp⟩
  · show (w.heap.push _)[w.heap.size]? = _
    simp
  · rintro k (rfl | (hk | ⟨i, hi, _⟩) | (hk | ⟨i, hi, _⟩))
    · exact .inl (Nat.le_refl _)
    · simp [Value.ownBlock] at hk
    · simp at hi
    · simp [Value.ownBlock] at hk
    · simp at hi

theorem put_bk (w : World) (K0 kb : Nat) (ls : List Value) (Ls : List (List Nat)) (vl vw : Value) (ws : List Value) (ao : Option Addr) (m c : Nat) (L : List Nat) (h : Bk w K0 kb ls Ls vl vw ws) (hx : OwnB w 0 (.slice ao m c) L) (hlt : ∀ k, (Value.slice ao m c).ownBlock = some k → k < K0)
    (hap : ∀ i, i < ls.length → Apart (ls.getD i nilV) (.slice ao m c)) (hn : ls.length + 1 ≤ 4194304) (hL : L.length ≤ 140737488355328) :
    Calls Tryd.prog 15 #[.pointer (some ⟨kb, 0, none⟩), .slice ao m c] w fun e w' => e = .returned (.tuple #[]) ∧ (∃ vl' vw' ws', Bk w' K0 kb (ls ++ [.slice ao m c]) (Ls ++ [L]) vl' vw' ws') ∧ Below K0 w w' := by
  refine (put_any w kb vl vw ls ws Ls Ls ao m c L h.book hx (fun k hk hS => ?_) hn h.len hL).mono ?_
  · rcases h.set k hS with h1 | ⟨i, hi, h1⟩
    · have := hlt k hk; omega
    · exact hap i hi k h1 hk
  · rintro e w' ⟨rfl, vl', vw', x, hb, hT, hsub⟩
    refine ⟨rfl, ⟨vl', vw', ws ++ [x], hb, by simp [h.len], fun k hk => ?_, Nat.le_trans h.top hT.size⟩, hT.os, hT.tape, hT.output, hT.size, fun k hk => ?_⟩
    · rcases hsub k hk with h1 | h1 | h1
      · rcases h.set k h1 with h2 | ⟨i, hi, h2⟩
        · exact .inl h2
        · exact .inr ⟨i, by simp; omega, by rw [getD_snoc, if_pos hi]; exact h2⟩
      · exact .inr ⟨ls.length, by simp, by rw [getD_snoc, if_neg (by omega), if_pos rfl]; exact h1⟩
      · exact .inl (Nat.le_trans h.top h1)
    · have htop := h.top
      refine hT.block k (by omega) ?_
      rintro (h1 | h1 | h1)
      · subst h1
        rcases h.set k (.inl rfl) with h2 | ⟨i, hi, h2⟩
        · omega
        · exact (h.book.ne_b (h.book.hl.own i hi) k h2).1 rfl
      · rcases h.set k (.inr (.inl (.inl h1))) with h2 | ⟨i, hi, h2⟩
        · omega
        · exact (h.book.ne_b (h.book.hl.own i hi) k h2).2.1 h1
      · rcases h.set k (.inr (.inr (.inl h1))) with h2 | ⟨i, hi, h2⟩
        · omega
        · exact (h.book.ne_b (h.book.hl.own i hi) k h2).2.2 h1

theorem ends_bk (w : World) (K0 kb : Nat) (ls : List Value) (Ls : List (List Nat)) (vl vw : Value) (ws : List Value) (h : Bk w K0 kb ls Ls vl vw ws) (hn : ls.length ≤ 4194304) (hL : ∀ i, (Ls.getD i []).length ≤ 70368744177664) :
    Calls Tryd.prog 16 #[.pointer (some ⟨kb, 0, none⟩)] w fun e w' => e = .returned (.bool true) ∧ Touch (fun k => K0 ≤ k ∨ ∃ i, i < ls.length ∧ (ls.getD i nilV).ownBlock = some k) w w' := by
  refine (ends_any w kb vl vw ls ws Ls h.book h.len hn hL).mono ?_
  rintro e w' ⟨rfl, hT⟩
  exact ⟨rfl, hT.os, hT.tape, hT.output, hT.size, fun k hk hS => hT.block k hk (fun hs => hS (h.set k hs))⟩

end Go.Proofs.YthdlilekilkogaaDoor
