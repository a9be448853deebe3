/-
  apart: WHAT HOLDS WHILE LISTS ARE WRITTEN FULL AND GROWN.
-/
import Derived.Test.YtnjgaibcpcpmcabKMarks
namespace Go.Proofs.Ytnjgaibcpcpmcab
open Go.RowKit Go.Sort

/-- lists that were handed out, apart from each other and from their row -/
structure Shelf0 (w : World) (base N : Nat) (ao : Option Addr) (vs : Nat → Value) (Ms : Nat → List K) : Prop where
  at_ : ListsAt w ao N vs
  own : ∀ j, j < N → OwnK w base (vs j) (Ms j)
  apart : ∀ i j, i < N → j < N → i ≠ j → ∀ b, (vs i).ownBlock = some b → (vs j).ownBlock ≠ some b
  notRow : ∀ j, j < N → ∀ a, ao = some a → (vs j).ownBlock ≠ some a.block
  base_ : base ≤ w.heap.size

theorem ListsAt.same {w w1 : World} {ao : Option Addr} {n : Nat} {vs : Nat → Value} (h : ListsAt w ao n vs) (hs : ∀ a, ao = some a → a.block < w.heap.size → w1.heap[a.block]? = w.heap[a.block]?) : ListsAt w1 ao n vs := by
  rcases h with h0 | ⟨b, off, rfl, hc⟩
  · exact .inl h0
  · by_cases h0 : n = 0
    · exact .inl h0
    · refine .inr ⟨b, off, rfl, fun i hi => ?_⟩
      have hl : b < w.heap.size := cell_lt (hc 0 (by omega))
      have := hs _ rfl hl
      have e : w1.cell? ⟨b, off + i, none⟩ = w.cell? ⟨b, off + i, none⟩ := by simp only [World.cell?, this]
      rw [e]; exact hc i hi
theorem ListsAt.kept {w w1 : World} {ao : Option Addr} {n : Nat} {vs : Nat → Value} (h : ListsAt w ao n vs) (hb : Below w.heap.size w w1) : ListsAt w1 ao n vs := h.same fun _ _ hl => hb.block _ hl

/-- the first loops -/
structure Ph1 (w wr : World) (base N : Nat) (ao : Option Addr) (vs : Nat → Value) (m : Nat → Nat) (i k : Nat) : Prop where
  at_ : ListsAt wr ao N vs
  bel : Below base w wr
  own : ∀ j, j < N → ∃ C, OwnK wr base (vs j) C ∧ C.length = m j ∧ (j < i → C = List.replicate (m j) (mkK j)) ∧ (j = i → ∀ x, x < k → kd C x = mkK i)
theorem Ph1.start {w : World} {base N : Nat} {ao : Option Addr} {vs : Nat → Value} {Ms : Nat → List K} (h : Shelf0 w base N ao vs Ms) : Ph1 w w base N ao vs (fun j => (Ms j).length) 0 0 :=
  ⟨h.at_, Below.refl _ _, fun j hj => ⟨Ms j, h.own j hj, rfl, fun h => by omega, fun _ x hx => by omega⟩⟩
theorem list_full {C : List K} {n : Nat} {x : K} (hl : C.length = n) (h : ∀ j, j < n → kd C j = x) : C = List.replicate n x := by
  apply List.ext_getElem
  · simp [hl]
  · intro j h1 h2
    have := h j (by omega)
    have hg := kd_get h1
    rw [List.getElem?_eq_getElem h1, Option.some.injEq] at hg
    rw [hg, this]; simp
theorem Ph1.next {w wr : World} {base N : Nat} {ao : Option Addr} {vs : Nat → Value} {m : Nat → Nat} {i : Nat} (h : Ph1 w wr base N ao vs m i (m i)) : Ph1 w wr base N ao vs m (i + 1) 0 :=
  ⟨h.at_, h.bel, fun j hj => by
    obtain ⟨C, h1, h2, h3, h4⟩ := h.own j hj
    refine ⟨C, h1, h2, fun hlt => ?_, fun _ x hx => by omega⟩
    by_cases e : j = i
    · subst e; exact list_full h2 (h4 rfl)
    · exact h3 (by omega)⟩
theorem Ph1.below {w wr w1 : World} {base N : Nat} {ao : Option Addr} {vs : Nat → Value} {m : Nat → Nat} {i k : Nat} (h : Ph1 w wr base N ao vs m i k) (hb : Below wr.heap.size wr w1) (hB : base ≤ w.heap.size) : Ph1 w w1 base N ao vs m i k :=
  ⟨h.at_.kept hb, h.bel.trans (hb.mono (Nat.le_trans hB h.bel.size)), fun j hj => by
    obtain ⟨C, h1, h2⟩ := h.own j hj
    exact ⟨C, h1.kept hb, h2⟩⟩
theorem Ph1.set {w wr : World} {base N : Nat} {ao : Option Addr} {vs : Nat → Value} {Ms : Nat → List K} {i k g n cap : Nat} (h0 : Shelf0 w base N ao vs Ms) (h : Ph1 w wr base N ao vs (fun j => (Ms j).length) i k) (hi : i < N) (hv : vs i = .slice (some ⟨g, 0, none⟩) n cap) (hk : k < n) :
    Ph1 w ((wr.setCell ⟨g, k * 2, none⟩ (.int .i64 (mkK i).1)).setCell ⟨g, k * 2 + 1, none⟩ (.int .i64 (mkK i).2)) base N ao vs (fun j => (Ms j).length) i (k + 1) := by
  obtain ⟨C, h1, h2, h3, h4⟩ := h.own i hi
  rw [hv] at h1
  obtain ⟨h5, h6⟩ := h1.set k hk (mkK i).1 (mkK i).2
  have hg := (h1.lt g rfl)
  refine ⟨h.at_.same fun a ha hl => h6.block _ hl (fun e => ?_), h.bel.trans (grown_below h6 (fun b e => by cases e; exact hg.1) (Nat.le_trans h0.base_ h.bel.size)), fun j hj => ?_⟩
  · have := h0.notRow i hi a ha
    rw [hv] at this
    exact this (by simp [Value.ownBlock]; exact (Option.some.inj e).symm)
  · by_cases e : j = i
    · subst e
      refine ⟨C.set k (mkK j), by rw [hv]; exact h5, by simpa using h2, fun h => by omega, fun _ x hx => ?_⟩
      have hkl : k < C.length := by have := h1.len.1; omega
      rw [kd_set _ _ _ _ hkl]
      by_cases e : k = x
      · rw [if_pos e]
      · rw [if_neg e]; exact h4 rfl x (by omega)
    · obtain ⟨C', h7, h8, h9, h10⟩ := h.own j hj
      refine ⟨C', h7.grown h6 (fun b hb e2 => ?_), h8, h9, fun e2 => absurd e2 e⟩
      have := h0.apart j i hj hi e b hb
      rw [hv] at this
      cases e2
      exact this rfl

/-- the loops that grow -/
structure Ph2 (w wr : World) (base N : Nat) (ao : Option Addr) (vs : Nat → Value) (m : Nat → Nat) (T : Value → Nat → Nat → Prop) (O : Nat → Option Nat) (gv : Value) (es : List Value) (i k u : Nat) : Prop where
  at_ : ListsAt wr ao N vs
  bel : Below base w wr
  mks : Mks wr base T O
  lists : ∀ j, j < N → T (vs j) j (m j)
  row : OwnR wr base gv es
  rowO : ∀ b, gv.ownBlock = some b → O b = none
  lO : 0 < N → ∀ a, ao = some a → O a.block = none
  ents : ∀ q e, es[q]? = some e → ∃ n, T e (q / 21) n
  ne : ∀ b, gv.ownBlock = some b → ∀ a, ao = some a → 0 < N → a.block ≠ b
  len : es.length = 21 * i + k
  upto : ∀ v j n, T v j n → n ≤ m j + 64 ∧ (j = i → n ≤ m j + u) ∧ (i < j → n ≤ m j)
theorem Ph2.start {w wr : World} {base N : Nat} {ao : Option Addr} {vs : Nat → Value} {Ms : Nat → List K} (h0 : Shelf0 w base N ao vs Ms) (h : Ph1 w wr base N ao vs (fun j => (Ms j).length) N 0) :
    ∃ T O, Ph2 w wr base N ao vs (fun j => (Ms j).length) T O (.slice none 0 0) [] 0 0 0 := by
  classical
  have hex : ∀ j, j < N → OwnK wr base (vs j) (List.replicate (Ms j).length (mkK j)) := fun j hj => by
    obtain ⟨C, h1, _, h3, _⟩ := h.own j hj
    rw [← h3 hj]; exact h1
  refine ⟨fun v j n => j < N ∧ v = vs j ∧ n = (Ms j).length, fun b => if hb : ∃ j, j < N ∧ (vs j).ownBlock = some b then some hb.choose else none, h.at_, h.bel, ⟨?_, ?_⟩, fun j hj => ⟨hj, rfl, rfl⟩, OwnR.nil _ _, fun b hb => by simp [Value.ownBlock] at hb, ?_, fun q e he => by simp at he, fun b hb => by simp [Value.ownBlock] at hb, rfl, ?_⟩
  · rintro v j n ⟨hj, rfl, rfl⟩
    refine ⟨hex j hj, fun b hb => ?_⟩
    have hh : ∃ j, j < N ∧ (vs j).ownBlock = some b := ⟨j, hj, hb⟩
    rw [dif_pos hh]
    obtain ⟨h1, h2⟩ := hh.choose_spec
    by_cases e : hh.choose = j
    · rw [e]
    · exact absurd hb (h0.apart _ _ h1 hj e b h2)
  · intro b hb
    refine dif_neg fun ⟨j, hj, hjb⟩ => ?_
    have := ((hex j hj).lt b hjb).2
    omega
  · intro hN a ha
    refine dif_neg fun ⟨j, hj, hjb⟩ => h0.notRow j hj a ha hjb
  · rintro v j n ⟨hj, rfl, rfl⟩
    exact ⟨by omega, fun _ => by omega, fun _ => Nat.le_refl _⟩
theorem Ph2.below {w wr w1 : World} {base N : Nat} {ao : Option Addr} {vs : Nat → Value} {m : Nat → Nat} {T : Value → Nat → Nat → Prop} {O : Nat → Option Nat} {gv : Value} {es : List Value} {i k u : Nat} (h : Ph2 w wr base N ao vs m T O gv es i k u) (hb : Below wr.heap.size wr w1) (hB : base ≤ w.heap.size) : Ph2 w w1 base N ao vs m T O gv es i k u :=
  ⟨h.at_.kept hb, h.bel.trans (hb.mono (Nat.le_trans hB h.bel.size)), h.mks.below hb, h.lists, h.row.kept hb, h.rowO, h.lO, h.ents, h.ne, h.len, h.upto⟩
/-- a block that is nobody's, and not a row's -/
theorem Ph2.other {w wr w1 : World} {base N : Nat} {ao : Option Addr} {vs : Nat → Value} {m : Nat → Nat} {T : Value → Nat → Nat → Prop} {O : Nat → Option Nat} {gv : Value} {es : List Value} {i k u : Nat} {row : Option Nat} (h : Ph2 w wr base N ao vs m T O gv es i k u) (hB : base ≤ w.heap.size) (hg : wr.grownBy w1 row)
    (hr : ∀ b, row = some b → O b = none ∧ base ≤ b ∧ gv.ownBlock ≠ some b ∧ ∀ a, ao = some a → a.block ≠ b) : Ph2 w w1 base N ao vs m T O gv es i k u :=
  ⟨h.at_.same fun a ha hl => hg.block _ hl (fun e => (hr _ e.symm).2.2.2 a ha rfl), h.bel.trans (grown_below hg (fun b e => (hr b e).2.1) (Nat.le_trans hB h.bel.size)), h.mks.other hg (fun b e => (hr b e).1), h.lists, h.row.grown hg (fun b hb e => (hr b e).2.2.1 hb), h.rowO, h.lO, h.ents, h.ne, h.len, h.upto⟩
/-- a list grows -/
theorem Ph2.grow {w wr w1 : World} {base N : Nat} {ao : Option Addr} {vs : Nat → Value} {m : Nat → Nat} {T : Value → Nat → Nat → Prop} {O : Nat → Option Nat} {gv : Value} {es : List Value} {i k u u' : Nat} (h : Ph2 w wr base N ao vs m T O gv es i k u) (hB : base ≤ w.heap.size) (hi : i < N) {v v' : Value} {n c : Nat} (ht : T v i n) (hu : u ≤ u') (hu' : u' ≤ 64)
    (hn : n + c = m i + u') (hown : OwnK w1 base v' (List.replicate (n + c) (mkK i)))
    (hg : (v'.ownBlock = v.ownBlock ∧ wr.grownBy w1 v.ownBlock ∧ ∀ g n cap, v = own g n cap → ∃ n', v' = own g n' cap) ∨ (v'.ownBlock = some wr.heap.size ∧ wr.grownBy w1 none)) :
    ∃ T' O', Ph2 w w1 base N ao vs m T' O' gv es i k u' ∧ T' v' i (m i + u') ∧ ∀ x j y, T x j y → T' x j y := by
  obtain ⟨O', h1, h2, h3, h4⟩ := h.mks.grow ht hown (fun x y hx => by have := (h.upto x i y hx).2.1 rfl; omega) hg
  have hbel : Below base wr w1 := by
    have hlt := (h.mks.items v i n ht).1.lt
    rcases hg with ⟨_, g2, _⟩ | ⟨_, g2⟩
    · exact grown_below g2 (fun b e => (hlt b e).1) (Nat.le_trans hB h.bel.size)
    · exact grown_below g2 (fun b e => by cases e) (Nat.le_trans hB h.bel.size)
  refine ⟨_, O', ⟨h.at_.same fun a ha hl => h3 _ hl (by rw [h.lO (by omega) a ha]; simp), h.bel.trans hbel, h1, fun j hj => .inl (h.lists j hj), h.row.same fun g hg' => h3 g (h.row.lt g hg').2 (by rw [h.rowO g hg']; simp), fun b hb => by rw [h2 b (h.row.lt b hb).2]; exact h.rowO b hb, ?_, fun q e he => ?_, h.ne, h.len, ?_⟩, ?_, fun x j y hx => .inl hx⟩
  · intro hN a ha
    have hl : a.block < wr.heap.size := by
      rcases h.at_ with h0 | ⟨b, off, e, hc⟩
      · omega
      · rw [e] at ha; cases ha; exact cell_lt (hc 0 hN)
    rw [h2 _ hl]; exact h.lO hN a ha
  · obtain ⟨n', hn'⟩ := h.ents q e he
    exact ⟨n', .inl hn'⟩
  · rintro x j y (hx | ⟨rfl, rfl, rfl⟩)
    · have := h.upto x j y hx
      exact ⟨this.1, fun e => by have := this.2.1 e; omega, this.2.2⟩
    · exact ⟨by omega, fun _ => by omega, fun h => by omega⟩
  · exact .inr ⟨rfl, rfl, hn.symm⟩
/-- the row grows -/
theorem Ph2.put {w wr w1 : World} {base N : Nat} {ao : Option Addr} {vs : Nat → Value} {m : Nat → Nat} {T : Value → Nat → Nat → Prop} {O : Nat → Option Nat} {gv gv' e : Value} {es : List Value} {i k u : Nat} (h : Ph2 w wr base N ao vs m T O gv es i k u) (hB : base ≤ w.heap.size) {n : Nat} (ht : T e i n) (hk : k < 21)
    (hrow : OwnR w1 base gv' (es ++ [e])) (hg : wr.grownBy w1 gv.ownBlock) (hat : gv'.ownBlock = gv.ownBlock ∨ ∃ b, gv'.ownBlock = some b ∧ wr.heap.size ≤ b) :
    Ph2 w w1 base N ao vs m T O gv' (es ++ [e]) i (k + 1) u := by
  refine ⟨?_, h.bel.trans (grown_below hg (fun b e => (h.row.lt b e).1) (Nat.le_trans hB h.bel.size)), h.mks.other hg (fun b e => h.rowO b e), h.lists, hrow, fun b hb => ?_, h.lO, fun q x hx => ?_, fun b hb a ha hN => ?_, by rw [List.length_append, h.len]; simp; omega, h.upto⟩
  · by_cases hN : 0 < N
    · exact h.at_.same fun a ha hl => hg.block _ hl (fun e => h.ne _ e.symm a ha hN rfl)
    · exact .inl (by omega)
  · rcases hat with e | ⟨b', e, hb'⟩
    · exact h.rowO b (e ▸ hb)
    · rw [e] at hb; cases hb; exact h.mks.fresh b hb'
  · rw [List.getElem?_append] at hx
    split at hx
    · exact h.ents q x hx
    · rename_i hlt
      have hq : q = es.length := by
        by_cases e : q - es.length = 0
        · omega
        · rw [List.getElem?_eq_none (by simp; omega)] at hx; cases hx
      subst hq
      rw [Nat.sub_self] at hx
      cases hx
      rw [h.len, show (21 * i + k) / 21 = i by omega]
      exact ⟨n, ht⟩
  · rcases hat with e | ⟨b', e, hb'⟩
    · exact h.ne b (e ▸ hb) a ha hN
    · rw [e] at hb; cases hb
      rcases h.at_ with h0 | ⟨b2, off, e2, hc⟩
      · omega
      · rw [e2] at ha; cases ha
        have := cell_lt (hc 0 hN)
        simp only at this ⊢
        omega
theorem Ph2.next {w wr : World} {base N : Nat} {ao : Option Addr} {vs : Nat → Value} {m : Nat → Nat} {T : Value → Nat → Nat → Prop} {O : Nat → Option Nat} {gv : Value} {es : List Value} {i : Nat} (h : Ph2 w wr base N ao vs m T O gv es i 21 64) : Ph2 w wr base N ao vs m T O gv es (i + 1) 0 0 :=
  ⟨h.at_, h.bel, h.mks, h.lists, h.row, h.rowO, h.lO, h.ents, h.ne, by rw [h.len]; omega, fun v j n ht => ⟨(h.upto v j n ht).1, fun e => by have := (h.upto v j n ht).2.2 (by omega); omega, fun hlt => (h.upto v j n ht).2.2 (by omega)⟩⟩

end Go.Proofs.Ytnjgaibcpcpmcab
