/-
  WHAT THE WALK OF kept LEANS ON.
-/
import Derived.Test.YtnjgaibcpcpmcabSSplit
namespace Go.Proofs.Ytnjgaibcpcpmcab
open Go.RowKit Go.Sort

theorem OwnRR.listsAt {w : World} {base n c : Nat} {a : Option Addr} {xs : List Value} (h : OwnRR w base (.slice a n c) xs) : n = xs.length ∧ ListsAt w a xs.length (nth xs) := by
  rcases h.shape with ⟨e, rfl⟩ | ⟨g, cap, e, _, _, _, hc⟩
  · cases e; exact ⟨rfl, .inl rfl⟩
  · cases e; exact ⟨rfl, .inr ⟨g, 0, rfl, fun i hi => by rw [Nat.zero_add]; exact hc i _ (nth_get hi)⟩⟩
theorem Sh.shelf0 {w : World} {base SB n c : Nat} {X : Xt} {O : Nat → Option Nat} {a : Option Addr} {wv : Value} {xs ys : List Value} {Ms : Nat → List K} (h : Sh w base SB X O (.slice a n c) wv xs ys Ms) : Shelf0 w base xs.length a (nth xs) Ms := by
  refine ⟨h.lists.listsAt.2, fun j hj => (h.x j _ (nth_get hj)).1, fun i j hi hj hne b h1 h2 => ?_, fun j hj a' ha h1 => ?_, by have := h.sb.1; have := h.lt; omega⟩
  · have e1 := (h.x i _ (nth_get hi)).2 b h1
    have e2 := (h.x j _ (nth_get hj)).2 b h2
    rw [e1] at e2
    have := Option.some.inj e2
    omega
  · have e1 := (h.x j _ (nth_get hj)).2 _ h1
    have e2 := h.lO a'.block (by rw [ha]; rfl)
    rw [e1] at e2
    have := Option.some.inj e2
    omega
theorem cell_set_other (w : World) (G k : Nat) (x : Value) (g j : Nat) (h : g ≠ G) : (w.setCell ⟨G, k, none⟩ x).cell? ⟨g, j, none⟩ = w.cell? ⟨g, j, none⟩ := by
  have := heap_setCell_other w ⟨G, k, none⟩ g x h
  simp only [World.cell?, this]
theorem OwnR.set {w : World} {base g n cap : Nat} {L : List Value} (h : OwnR w base (.slice (some ⟨g, 0, none⟩) n cap) L) (k : Nat) (x : Value) : OwnR (w.setCell ⟨g, k, none⟩ x) base (.slice (some ⟨g, 0, none⟩) n cap) (L.set k x) := by
  obtain ⟨rfl, _⟩ := h.listsAt
  have h1 := (World.ownsRow.stored h k x).1
  unfold OwnR
  rw [List.length_set]
  exact h1
theorem OwnR.frozen {w : World} {base g n cap : Nat} {L : List Value} (h : OwnR w base (.slice (some ⟨g, 0, none⟩) n cap) L) (j : Nat) : w.frozen? ⟨g, j, none⟩ = false := by
  obtain ⟨_, h | ⟨g', cap', cur, e, _, hg, _⟩⟩ := h
  · cases h.1
  · cases e; exact frozen_of_row _ _ _ _ _ hg
/-- where a row that isn't empty lies -/
theorem OwnR.at_some {w : World} {base n cap : Nat} {a : Option Addr} {L : List Value} (h : OwnR w base (.slice a n cap) L) (hn : 0 < n) : ∃ g, a = some ⟨g, 0, none⟩ ∧ ∀ (j : Nat) (x : Value), L[j]? = some x → w.cell? ⟨g, j, none⟩ = some x := by
  rcases h.shape with ⟨e, _⟩ | ⟨g, cap', e, _, _, _, hc⟩
  · cases e; omega
  · cases e; exact ⟨g, rfl, hc⟩
/-- one of the rows that were handed out, its members the marks as far as they are written -/
def Marked (w wr : World) (base j m i k : Nat) (e : Value) : Prop := ∃ L, OwnR wr base e L ∧ L.length = m ∧ ∀ (p : Nat) (x : Value), L[p]? = some x → (j < i ∨ j = i ∧ p < k) → ∃ g, x = .slice (some ⟨g, 0, none⟩) 1 1 ∧ w.heap.size ≤ g ∧ wr.cell? ⟨g, 0, none⟩ = some (.int .i64 (mkK j).1) ∧ wr.cell? ⟨g, 1, none⟩ = some (.int .i64 (mkK j).2)
/-- while the lists of lists are written over -/
structure Mk (w wr : World) (base : Nat) (O : Nat → Option Nat) (Q : Nat → Nat) (us : List Value) (es : Nat → List Value) (i k : Nat) : Prop where
  same : ∀ b, b < w.heap.size → ¬ (O b = some 3 ∧ 3 ≤ Q b) → wr.heap[b]? = w.heap[b]?
  siz : w.heap.size ≤ wr.heap.size
  rows : ∀ (j : Nat) (e : Value), us[j]? = some e → Marked w wr base j (es j).length i k e
  bel : Below base w wr
theorem Mk.start {w : World} {base : Nat} {O : Nat → Option Nat} {Q : Nat → Nat} {ov sv : Value} {us zs : List Value} {es fs : Nat → List Value} {Cs : Nat → Nat → List K} (h : Out w base O Q ov sv us zs es fs Cs) : Mk w w base O Q us es 0 0 :=
  ⟨fun _ _ _ => rfl, Nat.le_refl _, fun j e he => ⟨es j, (h.u j e he).1, rfl, fun p x _ hp => by omega⟩, Below.refl _ _⟩
theorem Mk.below {w wr w1 : World} {base : Nat} {O : Nat → Option Nat} {Q : Nat → Nat} {us : List Value} {es : Nat → List Value} {i k : Nat} (h : Mk w wr base O Q us es i k) (hb : Below wr.heap.size wr w1) (hB : base ≤ w.heap.size) : Mk w w1 base O Q us es i k := by
  refine ⟨fun b h1 h2 => (hb.block b (Nat.lt_of_lt_of_le h1 h.siz)).trans (h.same b h1 h2), Nat.le_trans h.siz hb.size, fun j e he => ?_, h.bel.trans (hb.mono (Nat.le_trans hB h.siz))⟩
  obtain ⟨L, h1, h2, h3⟩ := h.rows j e he
  refine ⟨L, h1.kept hb, h2, fun p x hx hp => ?_⟩
  obtain ⟨g, e1, e2, e3, e4⟩ := h3 p x hx hp
  exact ⟨g, e1, e2, (hb.cell (p := ⟨g, 0, none⟩) (cell_lt e3)).trans e3, (hb.cell (p := ⟨g, 1, none⟩) (cell_lt e4)).trans e4⟩
theorem Mk.next {w wr : World} {base : Nat} {O : Nat → Option Nat} {Q : Nat → Nat} {us : List Value} {es : Nat → List Value} {i k : Nat} (h : Mk w wr base O Q us es i k) (hk : (es i).length ≤ k) : Mk w wr base O Q us es (i + 1) 0 := by
  refine ⟨h.same, h.siz, fun j e he => ?_, h.bel⟩
  obtain ⟨L, h1, h2, h3⟩ := h.rows j e he
  refine ⟨L, h1, h2, fun p x hx hp => h3 p x hx ?_⟩
  have hl := (List.getElem?_eq_some_iff.1 hx).1
  by_cases hj : j < i
  · exact .inl hj
  · have : j = i := by omega
    subst this
    exact .inr ⟨rfl, by omega⟩
theorem Mk.set {w W : World} {base G n c g : Nat} {O : Nat → Option Nat} {Q : Nat → Nat} {ov sv : Value} {us zs : List Value} {es fs : Nat → List Value} {Cs : Nat → Nat → List K} {i k : Nat} (hO : Out w base O Q ov sv us zs es fs Cs) (h : Mk w W base O Q us es i k) (hu : us[i]? = some (.slice (some ⟨G, 0, none⟩) n c))
    (hg : w.heap.size ≤ g) (c0 : W.cell? ⟨g, 0, none⟩ = some (.int .i64 (mkK i).1)) (c1 : W.cell? ⟨g, 1, none⟩ = some (.int .i64 (mkK i).2)) : Mk w (W.setCell ⟨G, k, none⟩ (.slice (some ⟨g, 0, none⟩) 1 1)) base O Q us es i (k + 1) := by
  obtain ⟨q1, q2⟩ := hO.u i _ hu
  have hG := q2 G rfl
  have hl := q1.lt G rfl
  have hso : ∀ b, b ≠ G → (W.setCell ⟨G, k, none⟩ (.slice (some ⟨g, 0, none⟩) 1 1)).heap[b]? = W.heap[b]? := fun b hb => heap_setCell_other W ⟨G, k, none⟩ b _ hb
  have hgc : ∀ (x : Nat) (j : Nat), w.heap.size ≤ x → (W.setCell ⟨G, k, none⟩ (.slice (some ⟨g, 0, none⟩) 1 1)).cell? ⟨x, j, none⟩ = W.cell? ⟨x, j, none⟩ := fun x j hx => cell_set_other W G k _ x j (by omega)
  refine ⟨fun b h1 h2 => (hso b (fun e => h2 (by rw [e]; exact ⟨hG.1, by omega⟩))).trans (h.same b h1 h2), by have := h.siz; simp [World.setCell]; omega, fun j e he => ?_, h.bel.setCell (p := ⟨G, k, none⟩) hl.1 _⟩
  obtain ⟨L, h1, h2, h3⟩ := h.rows j e he
  by_cases hj : j = i
  · subst hj
    rw [hu] at he
    cases he
    refine ⟨L.set k (.slice (some ⟨g, 0, none⟩) 1 1), h1.set k _, by rw [List.length_set]; exact h2, fun p x hx hp => ?_⟩
    by_cases hpk : p = k
    · subst hpk
      have hlp : p < L.length := by have := (List.getElem?_eq_some_iff.1 hx).1; rwa [List.length_set] at this
      rw [List.getElem?_set_self hlp] at hx
      cases hx
      exact ⟨g, rfl, hg, (hgc g 0 hg).trans c0, (hgc g 1 hg).trans c1⟩
    · rw [List.getElem?_set_ne (Ne.symm hpk)] at hx
      obtain ⟨g', e1, e2, e3, e4⟩ := h3 p x hx (by omega)
      exact ⟨g', e1, e2, (hgc g' 0 e2).trans e3, (hgc g' 1 e2).trans e4⟩
  · refine ⟨L, h1.same fun b hb => hso b (fun e => ?_), h2, fun p x hx hp => ?_⟩
    · have h4 := ((hO.u j _ he).2 b hb).2
      rw [e, hG.2] at h4
      omega
    · obtain ⟨g', e1, e2, e3, e4⟩ := h3 p x hx (by omega)
      exact ⟨g', e1, e2, (hgc g' 0 e2).trans e3, (hgc g' 1 e2).trans e4⟩
theorem Mk.sh {w wr : World} {base SB i k : Nat} {X : Xt} {O : Nat → Option Nat} {Q : Nat → Nat} {lv wv : Value} {xs ys us : List Value} {Ms : Nat → List K} {es : Nat → List Value} (h : Mk w wr base O Q us es i k) (hS : Sh w base SB X O lv wv xs ys Ms) : Sh wr base SB ⟨fun _ => none, X.ov, X.sv⟩ O lv wv xs ys Ms :=
  hS.reframe ⟨fun _ => none, X.ov, X.sv⟩ ((h.same SB hS.lt (fun hq => by rw [hS.sb.2] at hq; cases hq.1)).trans hS.cell) (fun b l hb hl _ => h.same b (hS.lt_of hb) (fun hq => by rw [hq.1] at hb; exact hl (Option.some.inj hb).symm)) (fun _ _ hb _ => hb) (fun b hb => hS.fresh b (Nat.le_trans h.siz hb)) (fun b o ho => by cases ho)
theorem Mk.ov {w wr : World} {base SB i k : Nat} {X : Xt} {O : Nat → Option Nat} {Q : Nat → Nat} {lv wv ov sv : Value} {xs ys us zs : List Value} {Ms : Nat → List K} {es fs : Nat → List Value} {Cs : Nat → Nat → List K} (h : Mk w wr base O Q us es i k) (hS : Sh w base SB X O lv wv xs ys Ms) (hO : Out w base O Q ov sv us zs es fs Cs) : OwnRR wr base ov us :=
  hO.o1.same fun b hb => h.same b (hS.lt_of (hO.o2 b hb).1) (fun hq => by have := (hO.o2 b hb).2; omega)

end Go.Proofs.Ytnjgaibcpcpmcab
