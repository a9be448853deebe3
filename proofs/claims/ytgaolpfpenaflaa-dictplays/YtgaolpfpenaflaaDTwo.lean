/-
  Two sides: each nothing, or a Dict beside the document's.
-/
import Derived.Test.YtgaolpfpenaflaaDPlay5
import Derived.Test.YtgaolpfpenaflaaDNew
namespace Go.Proofs.Ytgaolpfpenaflaa
open Go.RowKit Go.Sort

/-- one side: nothing, or a Dict beside the document's, all in S -/
def Sd (w0 : Nat) (w : World) (f : Nat) (d r : Value) (c : Nat) (S : Nat → Prop) : Prop :=
  (d = .pointer none ∧ r = .pointer none) ∨ ∃ D M L P R base v es, d = ptr D ∧ r = ptr R ∧ PL w D M L f P R base v es ∧ es.length ≤ c ∧ ∀ k, SP D M L R v es k → S k ∧ w0 ≤ k
/-- both sides -/
structure Two (w0 : Nat) (w : World) (f g : Nat) (a x b y : Value) (c : Nat) (S T : Nat → Prop) : Prop where
  a : Sd w0 w f a x c S
  b : Sd w0 w g b y c T
  sl : ∀ k, S k → k < w.heap.size
  tl : ∀ k, T k → k < w.heap.size
  st : ∀ k, S k → ¬ T k
theorem Sd.same {w0 : Nat} {w w' : World} {f : Nat} {d r : Value} {c c' : Nat} {S : Nat → Prop} (h : Sd w0 w f d r c S) (hz : w.heap.size ≤ w'.heap.size) (hs : ∀ k, S k → w'.heap[k]? = w.heap[k]?) (hc : c ≤ c') : Sd w0 w' f d r c' S := by
  rcases h with h | ⟨D, M, L, P, R, base, v, es, h1, h2, h3, h4, h5⟩
  · exact .inl h
  · exact .inr ⟨D, M, L, P, R, base, v, es, h1, h2, h3.same hz (fun k hk => hs k (h5 k hk).1), Nat.le_trans h4 hc, h5⟩
theorem Two.kept {w0 : Nat} {w w' : World} {f g : Nat} {a x b y : Value} {c : Nat} {S T : Nat → Prop} (h : Two w0 w f g a x b y c S T) (hb : Below w.heap.size w w') : Two w0 w' f g a x b y c S T :=
  ⟨h.a.same hb.size (fun k hk => hb.block k (h.sl k hk)) (Nat.le_refl _), h.b.same hb.size (fun k hk => hb.block k (h.tl k hk)) (Nat.le_refl _), fun k hk => Nat.lt_of_lt_of_le (h.sl k hk) hb.size, fun k hk => Nat.lt_of_lt_of_le (h.tl k hk) hb.size, h.st⟩
/-- a call on the first -/
theorem Two.playA {w0 : Nat} {w w' : World} {f g : Nat} {x b y : Value} {c D M L P R base : Nat} {v : Value} {es : List En} {S T : Nat → Prop} (h : Two w0 w f g (ptr D) x b y c S T) (hx : x = ptr R) (hw0 : w0 ≤ w.heap.size) (hc : es.length ≤ c) (hsp : ∀ k, SP D M L R v es k → S k ∧ w0 ≤ k) (hp : PP w D M L f P R base v es w') :
    (∃ S', Two w0 w' f g (ptr D) x b y (c + 1) S' T) ∧ Below w0 w w' := by
  obtain ⟨v', es', h1, h2, h3, h4⟩ := hp
  refine ⟨⟨fun k => S k ∨ (w.heap.size ≤ k ∧ k < w'.heap.size), .inr ⟨D, M, L, P, R, base, v', es', rfl, hx, h1, by omega, fun k hk => ?_⟩, h.b.same h2.size (fun k hk => h2.block k (h.tl k hk) (fun hs => h.st k (hsp k hs).1 hk)) (by omega), fun k hk => ?_, fun k hk => Nat.lt_of_lt_of_le (h.tl k hk) h2.size, fun k hk ht => ?_⟩, h2.below hw0 (fun k hk => (hsp k hk).2)⟩
  · have hl := h1.lt hk
    rcases h3 k hk with h5 | h5
    · exact ⟨.inl (hsp k h5).1, (hsp k h5).2⟩
    · exact ⟨.inr ⟨h5, hl⟩, Nat.le_trans hw0 h5⟩
  · rcases hk with hk | hk
    · exact Nat.lt_of_lt_of_le (h.sl k hk) h2.size
    · exact hk.2
  · rcases hk with hk | hk
    · exact h.st k hk ht
    · have := h.tl k ht; omega
theorem Two.swap {w0 : Nat} {w : World} {f g : Nat} {a x b y : Value} {c : Nat} {S T : Nat → Prop} (h : Two w0 w f g a x b y c S T) : Two w0 w g f b y a x c T S := ⟨h.b, h.a, h.tl, h.sl, fun k hk hs => h.st k hs hk⟩

theorem mkSd {w w1 w2 : World} {f D M L P R : Nat} (hd : DA w1 D M L (hfn f) P []) (h0 : w.heap.size ≤ D ∧ w.heap.size ≤ M ∧ w.heap.size ≤ L) (hs : D < R ∧ M < R ∧ L < R) (h2 : DA w2 D M L (hfn f) P []) (hr : RA w2 R R P (.slice none 0 0) []) (hR : w.heap.size ≤ R) : Sd w.heap.size w2 f (ptr D) (ptr R) 0 (fun k => k = D ∨ k = M ∨ k = L ∨ k = R) := by
  refine .inr ⟨D, M, L, P, R, R, .slice none 0 0, [], rfl, rfl, ⟨h2, hr, Nat.le_of_lt (blk_lt hr.blk), fun k hk => ⟨?_, by simp [Value.ownBlock]⟩⟩, Nat.le_refl _, fun k hk => ?_⟩
  · rcases hk with rfl | rfl | rfl | ⟨e, he, _⟩
    · omega
    · omega
    · omega
    · cases he
  · rcases hk with (rfl | rfl | rfl | ⟨e, he, _⟩) | rfl | hk
    · exact ⟨.inl rfl, h0.1⟩
    · exact ⟨.inr (.inl rfl), h0.2.1⟩
    · exact ⟨.inr (.inr (.inl rfl)), h0.2.2⟩
    · cases he
    · exact ⟨.inr (.inr (.inr rfl)), hR⟩
    · cases hk
end Go.Proofs.Ytgaolpfpenaflaa
