/-
  THE SHELF's LISTS OF LISTS.
-/
import Derived.Test.YtnjgaibcpcpmcabSAskH
import Derived.Test.YtnjgaibcpcpmcabKRowsR
namespace Go.Proofs.Ytnjgaibcpcpmcab
open Go.RowKit Go.Sort

theorem Sh.reframe {w w' : World} {base SB : Nat} {X : Xt} {O O' : Nat → Option Nat} {lv wv : Value} {xs ys : List Value} {Ms : Nat → List K} (X' : Xt) (h : Sh w base SB X O lv wv xs ys Ms)
    (hc : w'.heap[SB]? = some (.cells #[lv, wv, X'.ov, X'.sv] 47 (0, 0))) (hk : ∀ b l, O b = some l → l ≠ 3 → b ≠ SB → w'.heap[b]? = w.heap[b]?) (hO : ∀ b l, O b = some l → l ≠ 3 → O' b = some l)
    (hf : ∀ b, w'.heap.size ≤ b → O' b = none) (hF : ∀ b o, X'.F b = some o → w'.heap[b]? = some o ∧ O' b = some 3) : Sh w' base SB X' O' lv wv xs ys Ms := by
  have hn : ∀ b l, O b = some l → l ≠ 0 → b ≠ SB := fun b l hb hl e => by subst e; rw [h.sb.2] at hb; exact hl (Option.some.inj hb).symm
  refine ⟨hc, ⟨h.sb.1, hO _ _ h.sb.2 (by omega)⟩, h.lists.same fun g hg => hk g 1 (h.lO g hg) (by omega) (hn g 1 (h.lO g hg) (by omega)), fun b hb => hO b 1 (h.lO b hb) (by omega), h.want.same fun g hg => hk g 2 (h.wO g hg) (by omega) (hn g 2 (h.wO g hg) (by omega)), fun b hb => hO b 2 (h.wO b hb) (by omega), fun i e he => ?_, fun i e he => ?_, hf, hF⟩
  · obtain ⟨h1, h2⟩ := h.x i e he
    exact ⟨h1.same fun g hg => hk g _ (h2 g hg) (by omega) (hn g _ (h2 g hg) (by omega)), fun b hb => hO b _ (h2 b hb) (by omega)⟩
  · obtain ⟨h1, h2⟩ := h.y i e he
    exact ⟨h1.same fun g hg => hk g _ (h2 g hg) (by omega) (hn g _ (h2 g hg) (by omega)), fun b hb => hO b _ (h2 b hb) (by omega)⟩
open Classical in
/-- everything that lies is framed, but for E -/
noncomputable def lab (w : World) (O : Nat → Option Nat) (E : Nat → Prop) : Nat → Option Nat := fun b => if b < w.heap.size ∧ O b = none ∧ ¬ E b then some 3 else O b
/-- the frame of what has the label 3 -/
def frm (w : World) (O : Nat → Option Nat) : Nat → Option Obj := fun b => if O b = some 3 then w.heap[b]? else none
theorem frm_some {w : World} {O : Nat → Option Nat} {b : Nat} {o : Obj} (h : frm w O b = some o) : w.heap[b]? = some o ∧ O b = some 3 := by
  unfold frm at h
  split at h
  · exact ⟨h, by assumption⟩
  · cases h
theorem frm_of {w : World} {O : Nat → Option Nat} {b : Nat} {o : Obj} (h : w.heap[b]? = some o) (h3 : O b = some 3) : frm w O b = some o := by unfold frm; rw [if_pos h3]; exact h
theorem lab_old {w : World} {O : Nat → Option Nat} {E : Nat → Prop} {b l : Nat} (h : O b = some l) : lab w O E b = some l := by
  unfold lab; rw [if_neg (by rw [h]; simp)]; exact h
theorem lab_new {w : World} {O : Nat → Option Nat} {E : Nat → Prop} {b : Nat} (hb : b < w.heap.size) (h : O b = none) (hE : ¬ E b) : lab w O E b = some 3 := by
  unfold lab; rw [if_pos ⟨hb, h, hE⟩]
theorem lab_none {w : World} {O : Nat → Option Nat} {E : Nat → Prop} {b : Nat} (h : O b = none) (hE : w.heap.size ≤ b ∨ E b) : lab w O E b = none := by
  unfold lab
  rw [if_neg (fun hx => by rcases hE with h1 | h1; omega; exact hx.2.2 h1)]; exact h
theorem Sh.framed {w : World} {base SB : Nat} {X : Xt} {O : Nat → Option Nat} {lv wv : Value} {xs ys : List Value} {Ms : Nat → List K} (h : Sh w base SB X O lv wv xs ys Ms) (E : Nat → Prop) : Sh w base SB ⟨frm w (lab w O E), X.ov, X.sv⟩ (lab w O E) lv wv xs ys Ms :=
  h.reframe ⟨frm w (lab w O E), X.ov, X.sv⟩ h.cell (fun _ _ _ _ _ => rfl) (fun _ _ hb _ => lab_old hb) (fun b hb => lab_none (h.fresh b hb) (.inl hb)) (fun _ _ ho => frm_some ho)
theorem Sh.fix {w : World} {base SB : Nat} {X : Xt} {O : Nat → Option Nat} {lv wv : Value} {xs ys : List Value} {Ms : Nat → List K} (h : Sh w base SB X O lv wv xs ys Ms) : Sh w base SB ⟨frm w O, X.ov, X.sv⟩ O lv wv xs ys Ms :=
  h.reframe ⟨frm w O, X.ov, X.sv⟩ h.cell (fun _ _ _ _ _ => rfl) (fun _ _ hb _ => hb) h.fresh (fun _ _ ho => frm_some ho)
/-- what the frame keeps -/
theorem Sh.keep3 {w w' : World} {base SB : Nat} {ov sv : Value} {O O' : Nat → Option Nat} {lv wv : Value} {xs ys : List Value} {Ms : Nat → List K} (h : Sh w' base SB ⟨frm w O, ov, sv⟩ O' lv wv xs ys Ms) (hfr : ∀ b, w.heap.size ≤ b → O b = none) (b : Nat) (hb : O b = some 3) : w'.heap[b]? = w.heap[b]? ∧ O' b = some 3 := by
  have hl : b < w.heap.size := by
    by_cases h1 : b < w.heap.size
    · exact h1
    · have := hfr b (by omega); rw [hb] at this; cases this
  have e : w.heap[b]? = some w.heap[b] := Array.getElem?_eq_getElem hl
  obtain ⟨h1, h2⟩ := h.fr b _ (frm_of e hb)
  exact ⟨h1.trans e.symm, h2⟩

/-- THE LISTS OF LISTS; Q: whose a framed block is (0 and 1 the rows, 2 the document's, 3 + i the i-th that was handed out) -/
structure Out (w : World) (base : Nat) (O : Nat → Option Nat) (Q : Nat → Nat) (ov sv : Value) (us zs : List Value) (es fs : Nat → List Value) (Cs : Nat → Nat → List K) : Prop where
  o1 : OwnRR w base ov us
  o2 : ∀ b, ov.ownBlock = some b → O b = some 3 ∧ Q b = 0
  s1 : OwnRR w base sv zs
  s2 : ∀ b, sv.ownBlock = some b → O b = some 3 ∧ Q b = 1
  u : ∀ i e, us[i]? = some e → OwnR w base e (es i) ∧ ∀ b, e.ownBlock = some b → O b = some 3 ∧ Q b = 3 + i
  z : ∀ i e, zs[i]? = some e → OwnR w base e (fs i) ∧ ∀ b, e.ownBlock = some b → O b = some 3 ∧ Q b = 2
  f : ∀ i, i < zs.length → ∀ p x, (fs i)[p]? = some x → OwnK w base x (Cs i p) ∧ ∀ b, x.ownBlock = some b → O b = some 3 ∧ Q b = 2
theorem Out.keep {w w' : World} {base : Nat} {O O' : Nat → Option Nat} {Q : Nat → Nat} {ov sv : Value} {us zs : List Value} {es fs : Nat → List Value} {Cs : Nat → Nat → List K} (h : Out w base O Q ov sv us zs es fs Cs) (hk : ∀ b, O b = some 3 → w'.heap[b]? = w.heap[b]? ∧ O' b = some 3) : Out w' base O' Q ov sv us zs es fs Cs :=
  ⟨h.o1.same fun g hg => (hk g (h.o2 g hg).1).1, fun b hb => ⟨(hk b (h.o2 b hb).1).2, (h.o2 b hb).2⟩, h.s1.same fun g hg => (hk g (h.s2 g hg).1).1, fun b hb => ⟨(hk b (h.s2 b hb).1).2, (h.s2 b hb).2⟩,
    fun i e he => ⟨(h.u i e he).1.same fun g hg => (hk g ((h.u i e he).2 g hg).1).1, fun b hb => ⟨(hk b ((h.u i e he).2 b hb).1).2, ((h.u i e he).2 b hb).2⟩⟩,
    fun i e he => ⟨(h.z i e he).1.same fun g hg => (hk g ((h.z i e he).2 g hg).1).1, fun b hb => ⟨(hk b ((h.z i e he).2 b hb).1).2, ((h.z i e he).2 b hb).2⟩⟩,
    fun i hi p x hx => ⟨(h.f i hi p x hx).1.same fun g hg => (hk g ((h.f i hi p x hx).2 g hg).1).1, fun b hb => ⟨(hk b ((h.f i hi p x hx).2 b hb).1).2, ((h.f i hi p x hx).2 b hb).2⟩⟩⟩
/-- each list of a list of lists lies in the row of lists -/
def Link (n : Nat) (es : Nat → List Value) (Cs : Nat → Nat → List K) (xs : List Value) (Ms : Nat → List K) : Prop := ∀ i, i < n → ∀ p x, (es i)[p]? = some x → ∃ j, j < xs.length ∧ xs[j]? = some x ∧ Ms j = Cs i p
theorem Link.more {n : Nat} {es : Nat → List Value} {Cs : Nat → Nat → List K} {xs t : List Value} {Ms Ms' : Nat → List K} (h : Link n es Cs xs Ms) (hM : ∀ j, j < xs.length → Ms' j = Ms j) : Link n es Cs (xs ++ t) Ms' := fun i hi p x hx => by
  obtain ⟨j, h1, h2, h3⟩ := h i hi p x hx
  exact ⟨j, by rw [List.length_append]; omega, by rw [List.getElem?_append_left h1]; exact h2, (hM j h1).trans h3⟩
/-- as many of the document's as were handed out -/
def Even (us zs : List Value) (es fs : Nat → List Value) : Prop := zs.length = us.length ∧ ∀ i, i < us.length → (fs i).length = (es i).length ∧ (es i).length ≤ 256
/-- THE SHELF -/
def ShP (w : World) (base SB : Nat) (O : Nat → Option Nat) (nx nu : Nat) : Prop := ∃ X lv wv xs ys Ms Q us zs es fs Cs, Sh w base SB X O lv wv xs ys Ms ∧ Out w base O Q X.ov X.sv us zs es fs Cs ∧ Link us.length es Cs xs Ms ∧ Even us zs es fs ∧ ys.length = xs.length ∧ xs.length ≤ nx ∧ us.length ≤ nu ∧ ∀ j, j < xs.length → (Ms j).length ≤ 2097152
/-- behind i calls -/
def ShO (w : World) (base SB i : Nat) : Prop := ∃ O, ShP w base SB O (257 * i) i
theorem ShO.start (w : World) : ShO (w.alloc (.cells #[.slice none 0 0, .slice none 0 0, .slice none 0 0, .slice none 0 0] 47)) w.heap.size w.heap.size 0 := by
  have nn : ∀ b, (Value.slice none 0 0).ownBlock = some b → False := fun b hb => by simp [Value.ownBlock] at hb
  exact ⟨fun b => if b = w.heap.size then some 0 else none, ⟨fun _ => none, .slice none 0 0, .slice none 0 0⟩, .slice none 0 0, .slice none 0 0, [], [], fun _ => [], fun _ => 0, [], [], fun _ => [], fun _ => [], fun _ _ => [],
    ⟨heap_alloc_new _ _ rfl, ⟨Nat.le_refl _, if_pos rfl⟩, OwnR.nil _ _, fun b hb => (nn b hb).elim, OwnR.nil _ _, fun b hb => (nn b hb).elim, fun i e he => by simp at he, fun i e he => by simp at he, fun b hb => if_neg (by simp at hb; omega), fun b o ho => by cases ho⟩,
    ⟨OwnRR.nil _ _, fun b hb => (nn b hb).elim, OwnRR.nil _ _, fun b hb => (nn b hb).elim, fun i e he => by simp at he, fun i e he => by simp at he, fun i hi => by simp at hi⟩,
    fun i hi => by simp at hi, ⟨rfl, fun i hi => by simp at hi⟩, rfl, Nat.zero_le _, Nat.zero_le _, fun j hj => by simp at hj⟩
theorem ShP.grown {w w1 : World} {base SB nx nu : Nat} {O : Nat → Option Nat} {row : Option Nat} (h : ShP w base SB O nx nu) (hg : w.grownBy w1 row) (hr : ∀ b, row = some b → O b = none) : ShP w1 base SB O nx nu := by
  obtain ⟨X, lv, wv, xs, ys, Ms, Q, us, zs, es, fs, Cs, h1, h2, h3, h4⟩ := h
  refine ⟨X, lv, wv, xs, ys, Ms, Q, us, zs, es, fs, Cs, h1.grown hg hr, h2.keep (fun b hb => ⟨hg.block b ?_ (fun e => ?_), hb⟩), h3, h4⟩
  · by_cases h5 : b < w.heap.size
    · exact h5
    · have := h1.fresh b (by omega); rw [hb] at this; cases this
  · have := hr b e.symm; rw [hb] at this; cases this
theorem ShP.below {w w1 : World} {base SB nx nu : Nat} {O : Nat → Option Nat} (h : ShP w base SB O nx nu) (hb : Below w.heap.size w w1) : ShP w1 base SB O nx nu :=
  h.grown (row := none) ⟨hb.os, hb.tape, hb.output, hb.size, fun k hk _ => hb.block k hk⟩ (fun b e => by cases e)
theorem ShP.fresh {w : World} {base SB nx nu : Nat} {O : Nat → Option Nat} (h : ShP w base SB O nx nu) : ∀ b, w.heap.size ≤ b → O b = none := by
  obtain ⟨X, lv, wv, xs, ys, Ms, Q, us, zs, es, fs, Cs, h1, _⟩ := h
  exact h1.fresh
/-- a list more -/
theorem ShO.more {w w' : World} {base SB i nx : Nat} {X Xf : Xt} {O O' : Nat → Option Nat} {Q : Nat → Nat} {lv wv lv' wv' g e : Value} {xs ys us zs : List Value} {Ms : Nat → List K} {es fs : Nat → List Value} {Cs : Nat → Nat → List K} {M : List K} (h1 : Sh w base SB X O lv wv xs ys Ms) (h2 : Out w base O Q X.ov X.sv us zs es fs Cs) (h3 : Link us.length es Cs xs Ms) (h4 : Even us zs es fs) (h5 : ys.length = xs.length) (h6 : xs.length ≤ nx) (h7 : us.length ≤ i) (h8 : ∀ j, j < xs.length → (Ms j).length ≤ 2097152)
    (hX : Xf = ⟨frm w O, X.ov, X.sv⟩) (hS : Sh w' base SB Xf O' lv' wv' (xs ++ [g]) (ys ++ [e]) (fun j => if j = xs.length then M else Ms j)) (hM : M.length ≤ 2097152) (hnx : nx + 1 ≤ 257 * i) : ShO w' base SB i := by
  subst hX
  refine ⟨O', ⟨frm w O, X.ov, X.sv⟩, lv', wv', xs ++ [g], ys ++ [e], _, Q, us, zs, es, fs, Cs, hS, h2.keep (fun b hb => hS.keep3 h1.fresh b hb), h3.more (fun j hj => if_neg (by omega)), h4, by simp; omega, by rw [List.length_append, List.length_singleton]; omega, by omega, fun j hj => ?_⟩
  by_cases e : j = xs.length
  · rw [if_pos e]; omega
  · rw [if_neg e]; exact h8 j (by rw [List.length_append, List.length_singleton] at hj; omega)
/-- THE CONTRACT OF ask on that shelf -/
def AskO (kind : Int) : Prop := ∀ (w : World) (base SB i : Nat) (t r parts : Int) (aA aB : Option Addr) (nA cA nB cB : Nat) (A B : List K),
    ShO w base SB i → Lst w aA nA cA A → Lst w aB nB cB B → (∀ k ∈ A, In64 k.2) → (∀ a, A ≠ [] → aA = some a → a.block < base) → (∀ a, B ≠ [] → aB = some a → a.block < base) → nA + nB ≤ 2097152 → i ≤ 2097152 → base ≤ w.heap.size →
    Calls Try.prog 15 #[.pointer (some ⟨SB, 0, none⟩), .agg #[.int .i64 kind, .slice aA nA cA, .slice aB nB cB, .int .i64 t, .int .i64 r, .int .i64 parts]] w fun e w' => e = .returned (.bool true) ∧ Hid (ShO w' base SB (i + 1)) ∧ Below base w w'
theorem ask_of {k : Int} (h : AskOK k) : AskO k := by
  intro w base SB i t r parts aA aB nA cA nB cB A B hS hA hB _ _ _ hn hi hb
  obtain ⟨O, X, lv, wv, xs, ys, Ms, Q, us, zs, es, fs, Cs, h1, h2, h3, hev, h4, h5, h6, h7⟩ := hS
  refine (h w base SB ⟨frm w O, X.ov, X.sv⟩ O lv wv xs ys Ms t r parts aA aB nA cA nB cB A B h1.fix h4 hA hB hn (by omega) hb).mono ?_
  rintro e w' ⟨rfl, hq, hbl⟩
  obtain ⟨O', lv', wv', xs', ys', Ms', g1, g2, ⟨g, rfl⟩, M, g4, g5⟩ := hq.out
  refine ⟨rfl, ⟨O', ⟨frm w O, X.ov, X.sv⟩, lv', wv', _, ys', Ms', Q, us, zs, es, fs, Cs, g1, h2.keep (fun b hb => g1.keep3 h1.fresh b hb), h3.more (fun j hj => by rw [g5, if_neg (by omega)]), hev, g2, by rw [List.length_append, List.length_singleton]; omega, by omega, fun j hj => ?_⟩, hbl⟩
  rw [g5]
  by_cases e : j = xs.length
  · rw [if_pos e]; omega
  · rw [if_neg e]; exact h7 j (by rw [List.length_append, List.length_singleton] at hj; omega)

end Go.Proofs.Ytnjgaibcpcpmcab
