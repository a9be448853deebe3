import Derived.Test.YtbcmmeajglilbaaGreatKSpAskC
/-
  StorePlays: WHAT THE LAW'S LOOPS KEEP.
-/
namespace Go.Proofs.YtbcmmeajglilbaaGreat
open Go.RowKit Go.Sort

/-- a script as it lies -/
def OqsAt (w : World) (ao : Option Addr) (l : List Oq) : Prop := ∀ i (hi : i < l.length), ∃ b off, ao = some ⟨b, off, none⟩ ∧ ∀ j u, (oqC l[i])[j]? = some u → w.cell? ⟨b, off + i * 10 + j, none⟩ = some u
/-- the law's state behind the first loop: pairs, book, the counted lists; G' stays outside, G has not changed since W -/
def LR (G' G : Nat → Prop) (B : Nat) (ss rs : Nat → Value) (W : World) (ls : Nat → Int) (c : Nat) (U : World) : Prop := ∃ N M, N ≤ c ∧ M ≤ 2 * c ∧ LSa G' B ss rs U ls N M ∧ FrG G W U
section
variable {G' G : Nat → Prop} {B : Nat} {ss rs : Nat → Value} {W U U' : World} {ls : Nat → Int} {c : Nat}
theorem LR.mono (h : LR G' G B ss rs W ls c U) {c' : Nat} (hc : c ≤ c') : LR G' G B ss rs W ls c' U := by
  obtain ⟨N, M, h1, h2, h3, h4⟩ := h
  exact ⟨N, M, by omega, by omega, h3, h4⟩
theorem LR.kept (h : LR G' G B ss rs W ls c U) (hb : Below U.heap.size U U') : LR G' G B ss rs W ls c U' := by
  obtain ⟨N, M, h1, h2, h3, h4⟩ := h
  exact ⟨N, M, h1, h2, h3.kept hb, h4.trans (FrG.bel hb)⟩
theorem LR.fr (h : LR G' G B ss rs W ls c U) : FrG G W U := by obtain ⟨N, M, h1, h2, h3, h4⟩ := h; exact h4
theorem LR.gl (h : LR G' G B ss rs W ls c U) : ∀ k, G' k → k < U.heap.size := by obtain ⟨N, M, h1, h2, ⟨_, _, _, _, _, _, h⟩, h4⟩ := h; exact h
theorem LR.more (h : LR G' G B ss rs W ls c U) (hb : Below U.heap.size U U') {H : Nat → Prop} (hg : ∀ k, H k → (G' k ∨ U.heap.size ≤ k) ∧ k < U'.heap.size) : LR H G B ss rs W ls c U' := by
  obtain ⟨N, M, h1, h2, h3, h4⟩ := h
  exact ⟨N, M, h1, h2, h3.more hb hg, h4.trans (FrG.bel hb)⟩
theorem LR.sub (h : LR G' G B ss rs W ls c U) {H : Nat → Prop} (hg : ∀ k, H k → G' k) : LR H G B ss rs W ls c U := by
  obtain ⟨N, M, h1, h2, h3, h4⟩ := h
  exact ⟨N, M, h1, h2, h3.sub hg, h4⟩
theorem LR.turn (h : LR G' G B ss rs W ls c U) {Z : Nat → Prop} (ht : Tn Z U U') (hz : ∀ k, Z k → G' k ∧ ¬ G k) : LR G' G B ss rs W ls c U' := by
  obtain ⟨N, M, h1, h2, h3, h4⟩ := h
  exact ⟨N, M, h1, h2, h3.turn ht (fun k hk => (hz k hk).1), h4.trans (FrG.tn ht (fun k hk => (hz k hk).2))⟩
theorem LR.cases (h : LR G' G B ss rs W ls c U) {t : Nat} (ht : t < 2) : (ss t = .pointer none) ∨ ∃ S R, ss t = ptr S ∧ rs t = ptr R := by
  obtain ⟨N, M, h1, h2, h3, h4⟩ := h
  exact h3.cases ht
theorem LR.l0 (h : LR G' G B ss rs W ls c U) {t : Nat} (ht : t < 2) : 0 ≤ ls t := by
  obtain ⟨N, M, h1, h2, h3, h4⟩ := h
  exact h3.l0 ht
theorem LR.last (h : LR G' G B ss rs W ls c U) {t : Nat} (ht : t < 2) {R : Nat} (hr : rs t = ptr R) : U.cell? ⟨R, 3, none⟩ = some (.int .i64 (ls t)) := by
  obtain ⟨N, M, h1, h2, h3, h4⟩ := h
  exact h3.last ht hr
theorem LR.asked (h : LR G' G B ss rs W ls c U) (hsub : ∀ k, G k → G' k) {t : Nat} (ht : t < 2) {S R : Nat} (hs : ss t = ptr S) (hr : rs t = ptr R) (hc : c ≤ 4000000) (o : Oq) (ho : OqIn o) :
    Calls Tryz.prog 7 #[ptr S, ptr R, .agg (oqC o), ptr B] U fun e w' => e = .returned (.bool true) ∧ LR G' G B ss rs W ls (c + 1) w' ∧ FrG G' U w' := by
  obtain ⟨N, M, h1, h2, h3, h4⟩ := h
  have hx := h3.asked ht (by rw [hs]; intro e; cases e) (by omega) (by omega) o ho
  rw [hs, hr] at hx
  exact hx.mono fun e w' ⟨a1, a2, N', M', a3, a4, a5⟩ => ⟨a1, ⟨N', M', by omega, by omega, a5, h4.trans (a2.sub hsub)⟩, a2⟩
theorem LR.changed (h : LR G' G B ss rs W ls c U) (hsub : ∀ k, G k → G' k) {t : Nat} (ht : t < 2) {S R : Nat} (hs : ss t = ptr S) (hr : rs t = ptr R) {b : Nat} (hb : ∀ t, t < 2 → ls t ≤ (b : Int)) (hb2 : b ≤ 4000000) (o : Oq) (ho : OqIn o) :
    Calls Tryz.prog 6 #[ptr S, ptr R, .agg (oqC o)] U fun e w' => e = .returned (.bool true) ∧ (∃ ls', (∀ t, t < 2 → ls' t ≤ ((b + 1 : Nat) : Int)) ∧ LR G' G B ss rs W ls' c w') ∧ FrG G' U w' := by
  obtain ⟨N, M, h1, h2, h3, h4⟩ := h
  have hx := h3.changed ht (by rw [hs]; intro e; cases e) (by have := hb t ht; omega) o ho
  rw [hs, hr] at hx
  refine hx.mono fun e w' ⟨a1, a2, l', a3, a4⟩ => ⟨a1, ⟨_, fun s h5 => ?_, N, M, h1, h2, a4, h4.trans (a2.sub hsub)⟩, a2⟩
  have h6 := hb s h5
  have h7 := hb t ht
  unfold updN
  split <;> omega
theorem LR.part (h : LR G' G B ss rs W ls c U) {t : Nat} (ht : t < 2) {S R : Nat} (hs : ss t = ptr S) (hr : rs t = ptr R) (k1 k2 : Int) (hk : KIn (k1, k2)) :
    Calls Tryz.prog 8 #[ptr R, .agg #[.int .i64 k1, .int .i64 k2]] U fun e w' => ∃ x, e = .returned (.int .i64 x) ∧ Below U.heap.size U w' := by
  obtain ⟨N, M, h1, h2, h3, h4⟩ := h
  have hx := h3.part ht (by rw [hs]; intro e; cases e) k1 k2 hk
  rw [hr] at hx
  exact hx
theorem LR.whole (h : LR G' G B ss rs W ls c U) (hc : c ≤ 4000000) :
    Calls Tryz.prog 9 #[ptr B] U fun e w' => e = .returned (.bool true) ∧ Below U.heap.size U w' := by
  obtain ⟨N, M, h1, h2, h3, h4⟩ := h
  exact h3.whole (by omega) (by omega)
end
/-- the law's state in the first loop -/
def L1 (n0 g7 g8 g9 : Nat) (pa ca pb cb : Int) (w0 U : World) : Prop := ∃ ss rs Xs,
  U.heap[g7]? = some (.cells #[.int .i64 pa, .int .i64 ca, .int .i64 pb, .int .i64 cb] 25 (0, 0)) ∧
  U.heap[g8]? = some (.cells #[ss 0, ss 1] 27 (0, 0)) ∧ U.heap[g9]? = some (.cells #[rs 0, rs 1] 29 (0, 0)) ∧
  LP (fun k => k < n0 ∨ k = g7 ∨ k = g8 ∨ k = g9) ss rs U (fun _ => 0) Xs ∧ Below n0 w0 U
theorem two_set {ss : Nat → Value} {i : Nat} (hi : i < 2) (v : Value) : (#[ss 0, ss 1] : Array Value).setIfInBounds i v = #[updN ss i v 0, updN ss i v 1] := by
  obtain rfl | rfl : i = 0 ∨ i = 1 := by omega
  · simp [updN]
  · simp [updN]
theorem two_at {ss : Nat → Value} {i : Nat} (hi : i < 2) : (#[ss 0, ss 1] : Array Value)[i]? = some (ss i) := by
  obtain rfl | rfl : i = 0 ∨ i = 1 := by omega <;> rfl
  all_goals rfl
theorem L1.step {n0 g7 g8 g9 : Nat} {pa ca pb cb : Int} {w0 wr U : World} (h : L1 n0 g7 g8 g9 pa ca pb cb w0 wr) (hb : Below wr.heap.size wr U) (hn : n0 ≤ wr.heap.size) (h78 : g7 ≠ g8) (h79 : g7 ≠ g9) (h89 : g8 ≠ g9) (hg : n0 ≤ g8 ∧ n0 ≤ g9) {i : Nat} (hi : i < 2) {s r : Value} {X : Nat → Prop} (hp : PT X U s r 0) (hx : ∀ k, X k → wr.heap.size ≤ k) :
    (∃ u, U.cell? ⟨g8, i, none⟩ = some u) ∧ U.frozen? ⟨g8, i, none⟩ = false ∧ (∃ u, (U.setCell ⟨g8, i, none⟩ s).cell? ⟨g9, i, none⟩ = some u) ∧ (U.setCell ⟨g8, i, none⟩ s).frozen? ⟨g9, i, none⟩ = false ∧ L1 n0 g7 g8 g9 pa ca pb cb w0 ((U.setCell ⟨g8, i, none⟩ s).setCell ⟨g9, i, none⟩ r) := by
  obtain ⟨ss, rs, Xs, h7, h8, h9, hL, hB⟩ := h
  have k7 := (hb.block _ (blk_lt h7)).trans h7
  have k8 := (hb.block _ (blk_lt h8)).trans h8
  have k9 := (hb.block _ (blk_lt h9)).trans h9
  have e1 : ∀ k, k ≠ g8 → (U.setCell ⟨g8, i, none⟩ s).heap[k]? = U.heap[k]? := fun k hk => heap_setCell_other U ⟨g8, i, none⟩ k s hk
  have e2 : ∀ k, k ≠ g9 → ((U.setCell ⟨g8, i, none⟩ s).setCell ⟨g9, i, none⟩ r).heap[k]? = (U.setCell ⟨g8, i, none⟩ s).heap[k]? := fun k hk => heap_setCell_other _ ⟨g9, i, none⟩ k r hk
  have m8 := heap_setCell_same U g8 i _ _ s k8
  have m9 := (e1 g9 (Ne.symm h89)).trans k9
  have n9 := heap_setCell_same _ g9 i _ _ r m9
  have hT : Tn (fun k => k = g8 ∨ k = g9) U ((U.setCell ⟨g8, i, none⟩ s).setCell ⟨g9, i, none⟩ r) := ⟨by first | rfl | simp, by first | rfl | simp, by first | rfl | simp, by simp, fun k hk hn => (e2 k (fun e => hn (.inr e))).trans (e1 k (fun e => hn (.inl e)))⟩
  refine ⟨⟨_, by simp only [World.cell?, k8]; exact two_at hi⟩, frozen_of_row U g8 i _ _ k8, ⟨_, by simp only [World.cell?, m9]; exact two_at hi⟩, frozen_of_row _ g9 i _ _ m9, updN ss i s, updN rs i r, updN Xs i X, (e2 _ h79).trans ((e1 _ h78).trans k7), ?_, ?_, ⟨fun t ht => ?_, fun a b k ha hb' hne hxa hxb => ?_, fun t k ht hxt hG => ?_⟩, ?_⟩
  · rw [← two_set hi]
    exact (e2 _ h89).trans m8
  · rw [← two_set hi]
    exact n9
  · by_cases e : t = i
    · subst e
      simp only [updN, if_pos]
      exact hp.tn hT (fun k hk hz => by
        have h1 := hx k hk
        have h2 := blk_lt h8
        have h3 := blk_lt h9
        rcases hz with rfl | rfl <;> omega)
    · simp only [updN, if_neg e]
      exact ((hL.1 t ht).tn (Tn.bel (X := fun _ => False) hb) (fun _ _ h => h)).tn hT (fun k hk hz => hL.2.2 t k ht hk (by rcases hz with h | h; exact .inr (.inr (.inl h)); exact .inr (.inr (.inr h))))
  · by_cases ea : a = i
    · subst ea
      simp only [updN, if_pos] at hxa
      simp only [updN, if_neg (Ne.symm hne)] at hxb
      have h1 := hx k hxa
      have h2 := (hL.1 b hb').lt k hxb
      omega
    · simp only [updN, if_neg ea] at hxa
      by_cases eb : b = i
      · subst eb
        simp only [updN, if_pos] at hxb
        have h1 := hx k hxb
        have h2 := (hL.1 a ha).lt k hxa
        omega
      · simp only [updN, if_neg eb] at hxb
        exact hL.2.1 a b k ha hb' hne hxa hxb
  · by_cases e : t = i
    · subst e
      simp only [updN, if_pos] at hxt
      have h1 := hx k hxt
      have h2 := blk_lt h7
      have h3 := blk_lt h8
      have h4 := blk_lt h9
      rcases hG with h | rfl | rfl | rfl <;> omega
    · simp only [updN, if_neg e] at hxt
      exact hL.2.2 t k ht hxt hG
  · exact (hB.trans (hb.mono hn)).trans (hT.below (Nat.le_trans hn hb.size) (fun k hk => by rcases hk with rfl | rfl <;> omega))
end Go.Proofs.YtbcmmeajglilbaaGreat
