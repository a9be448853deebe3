/-
  THE STATES OF split.
-/
import Derived.Test.YtnjgaibcpcpmcabSPut
namespace Go.Proofs.Ytnjgaibcpcpmcab
open Go.RowKit Go.Sort

/-- the two lists of lists are answered -/
structure S3 (w W : World) (base SB : Nat) (X : Xt) (O : Nat → Option Nat) (Q : Nat → Nat) (lv wv l m : Value) (xs ys us zs es1 fs1 : List Value) (Ms C1 : Nat → List K) (es fs : Nat → List Value) (Cs : Nat → Nat → List K) (b1 b2 : Nat) : Prop where
  sh : Sh W base SB X O lv wv xs ys Ms
  out : Out W base O Q X.ov X.sv us zs es fs Cs
  fl : Fam W b1 l es1 C1
  fm : Fam W b2 m fs1 C1
  bel : Below w.heap.size w W
  le1 : w.heap.size ≤ b1
  le2 : b1 ≤ b2
  lt1 : ∀ b, l.ownBlock = some b → b < b2
  lt2 : ∀ (p : Nat) (x : Value), es1[p]? = some x → ∀ b, x.ownBlock = some b → b < b2
  fr : ∀ b, w.heap.size ≤ b → O b = none
  base_ : base ≤ w.heap.size
theorem Out.kept {w w1 : World} {base SB : Nat} {X : Xt} {O : Nat → Option Nat} {Q : Nat → Nat} {lv wv ov sv : Value} {xs ys us zs : List Value} {Ms : Nat → List K} {es fs : Nat → List Value} {Cs : Nat → Nat → List K} (h : Out w base O Q ov sv us zs es fs Cs) (hS : Sh w base SB X O lv wv xs ys Ms) (hb : Below w.heap.size w w1) : Out w1 base O Q ov sv us zs es fs Cs :=
  h.keep fun b h3 => ⟨hb.block b (hS.lt_of h3), h3⟩
theorem S3.start {w W0 W1 W2 W3 : World} {base SB : Nat} {X : Xt} {O : Nat → Option Nat} {Q : Nat → Nat} {lv wv l m : Value} {xs ys us zs es1 fs1 : List Value} {Ms C1 : Nat → List K} {es fs : Nat → List Value} {Cs : Nat → Nat → List K} (hS : Sh w base SB X O lv wv xs ys Ms) (hO : Out w base O Q X.ov X.sv us zs es fs Cs) (hb : base ≤ w.heap.size)
    (h0 : Below w.heap.size w W0) (h1 : Below W0.heap.size W0 W1) (h2 : Below W1.heap.size W1 W2) (h3 : Below W2.heap.size W2 W3) (hl : Fam W1 W0.heap.size l es1 C1) (hm : Fam W2 W1.heap.size m fs1 C1) : S3 w W3 base SB X O Q lv wv l m xs ys us zs es1 fs1 Ms C1 es fs Cs W0.heap.size W1.heap.size := by
  have b02 : Below W1.heap.size W1 W3 := h2.trans (h3.mono h2.size)
  have bw : Below w.heap.size w W3 := h0.trans ((h1.trans (b02.mono h1.size)).mono h0.size)
  exact ⟨hS.below bw, hO.kept hS bw, hl.kept b02, hm.kept h3, bw, h0.size, h1.size, fun b hb => (hl.row.lt b hb).2, fun p x hx b hb => ((hl.mem p x hx).lt b hb).2, hS.fresh, hb⟩
theorem OwnR.mono {w : World} {base base' : Nat} {v : Value} {xs : List Value} (h : OwnR w base v xs) (hb : base' ≤ base) : OwnR w base' v xs := by
  obtain ⟨hl, h⟩ := h
  refine ⟨hl, ?_⟩
  rcases h with h | ⟨g, cap, cur, rfl, hg, r⟩
  · exact .inl h
  · exact .inr ⟨g, cap, cur, rfl, Nat.le_trans hb hg, r⟩
/-- behind the first append -/
structure S4 (w W W4 : World) (base SB : Nat) (O : Nat → Option Nat) (lv wv l m v sv : Value) (xs ys us zs es1 fs1 : List Value) (Ms : Nat → List K) (es fs : Nat → List Value) (Cs : Nat → Nat → List K) : Prop where
  ex : ∃ X' O' Q', X'.ov = v ∧ X'.sv = sv ∧ Sh W4 base SB X' O' lv wv xs ys Ms ∧ Out W4 base O' Q' v sv (us ++ [l]) zs (updf es us.length es1) fs Cs ∧ ∀ b, b < W.heap.size → O b = none → l.ownBlock ≠ some b → O' b = none ∧ W4.heap[b]? = W.heap[b]?
  s1 : OwnRR W4 base sv zs
  bel : Below base w W4
  siz : W.heap.size ≤ W4.heap.size
  row : ∀ o w5, (W4.alloc o).grownBy w5 sv.ownBlock → w5.heap[SB]? = some (.cells #[lv, wv, v, sv] 47 (0, 0))
theorem S3.four {w W w4 : World} {base SB : Nat} {X : Xt} {O : Nat → Option Nat} {Q : Nat → Nat} {lv wv l m v : Value} {xs ys us zs es1 fs1 : List Value} {Ms C1 : Nat → List K} {es fs : Nat → List Value} {Cs : Nat → Nat → List K} {b1 b2 : Nat} {o : Obj} (h : S3 w W base SB X O Q lv wv l m xs ys us zs es1 fs1 Ms C1 es fs Cs b1 b2) (h4 : OwnRR w4 base v (us ++ [l])) (hg : (W.alloc o).grownBy w4 X.ov.ownBlock) (hat : v.ownBlock = X.ov.ownBlock ∨ v.ownBlock = some (W.alloc o).heap.size) :
    S4 w W (w4.setCell ⟨SB, 2, none⟩ v) base SB O lv wv l m v X.sv xs ys us zs es1 fs1 Ms es fs Cs := by
  have ba := below_alloc W o
  have hSa := h.sh.below ba
  have hOa := h.out.kept h.sh ba
  have hbb : base ≤ b1 := Nat.le_trans h.base_ h.le1
  obtain ⟨X', O', Q', e1, e2, g1, g2, g3⟩ := Out.putO hSa hOa ((h.fl.row.kept ba).mono hbb) (fun b hb => h.fr b (by have := (h.fl.row.lt b hb).1; have := h.le1; omega)) h4 hg hat
  have hs : W.heap.size ≤ (W.alloc o).heap.size := ba.size
  have hs4 : (w4.setCell ⟨SB, 2, none⟩ v).heap.size = w4.heap.size := by simp [World.setCell]
  refine ⟨⟨X', O', Q', e1, e2, g1, g2, fun b hb hn hne => ?_⟩, g2.s1, below_set ((h.bel.mono h.base_).trans (ba.mono (Nat.le_trans h.base_ h.bel.size))) hg (fun b hb => (h.out.o1.lt b hb).1) (by have := h.base_; have := h.bel.size; omega) h.sh.sb.1, by rw [hs4]; exact Nat.le_trans hs hg.size, fun o5 w5 hg5 => ?_⟩
  · obtain ⟨q1, q2⟩ := g3 b (by omega) hn hne
    exact ⟨q1, q2.trans (ba.block b hb)⟩
  · have := (g1.below (below_alloc _ o5)).row3 (fun b hb => (g2.s2 b hb).1) hg5
    rwa [e1, e2] at this
theorem S4.cell {w W : World} {base SB : Nat} {O : Nat → Option Nat} {lv wv l m v : Value} {xs ys us zs es1 fs1 : List Value} {Ms : Nat → List K} {es fs : Nat → List Value} {Cs : Nat → Nat → List K} {W4 : World} {sv : Value} (h : S4 w W W4 base SB O lv wv l m v sv xs ys us zs es1 fs1 Ms es fs Cs) : W4.heap[SB]? = some (.cells #[lv, wv, v, sv] 47 (0, 0)) := by
  obtain ⟨X', O', Q', e1, e2, g1, _⟩ := h.ex
  have := g1.cell
  rwa [e1, e2] at this
/-- behind the second -/
structure S5 (w W W5 : World) (base SB : Nat) (O : Nat → Option Nat) (lv wv l m v4 v5 : Value) (xs ys us zs es1 fs1 : List Value) (Ms C1 : Nat → List K) (es fs : Nat → List Value) (Cs : Nat → Nat → List K) (X5 : Xt) (O5 : Nat → Option Nat) (Q5 : Nat → Nat) : Prop where
  e1 : X5.ov = v4
  e2 : X5.sv = v5
  sh : Sh W5 base SB X5 O5 lv wv xs ys Ms
  out : Out W5 base O5 Q5 v4 v5 (us ++ [l]) (zs ++ [m]) (updf es us.length es1) (updf fs zs.length fs1) (updf Cs zs.length C1)
  keep : ∀ b, b < W.heap.size → O b = none → l.ownBlock ≠ some b → m.ownBlock ≠ some b → (∀ x ∈ fs1, x.ownBlock ≠ some b) → O5 b = none ∧ W5.heap[b]? = W.heap[b]?
  bel : Below base w W5
theorem S3.five {w W w5 : World} {base SB : Nat} {X : Xt} {O : Nat → Option Nat} {Q : Nat → Nat} {lv wv l m v5 : Value} {xs ys us zs es1 fs1 : List Value} {Ms C1 : Nat → List K} {es fs : Nat → List Value} {Cs : Nat → Nat → List K} {b1 b2 : Nat} {o5 : Obj} {W4 : World} {v4 : Value} (h : S3 w W base SB X O Q lv wv l m xs ys us zs es1 fs1 Ms C1 es fs Cs b1 b2) (h4 : S4 w W W4 base SB O lv wv l m v4 X.sv xs ys us zs es1 fs1 Ms es fs Cs)
    (h5 : OwnRR w5 base v5 (zs ++ [m])) (hg : (W4.alloc o5).grownBy w5 X.sv.ownBlock) (hat : v5.ownBlock = X.sv.ownBlock ∨ v5.ownBlock = some (W4.alloc o5).heap.size) :
    ∃ X5 O5 Q5, S5 w W (w5.setCell ⟨SB, 3, none⟩ v5) base SB O lv wv l m v4 v5 xs ys us zs es1 fs1 Ms C1 es fs Cs X5 O5 Q5 := by
  obtain ⟨X', O', Q', e1, e2, g1, g2, g3⟩ := h4.ex
  have ba := below_alloc W4 o5
  have hSa := g1.below ba
  have hOa := g2.kept g1 ba
  have hbb : base ≤ b2 := Nat.le_trans h.base_ (Nat.le_trans h.le1 h.le2)
  -- what the document's lists lie in
  have hmb : ∀ b, b2 ≤ b → b < W.heap.size → O' b = none ∧ W4.heap[b]? = W.heap[b]? := fun b hb hl => g3 b hl (h.fr b (by have := h.le1; have := h.le2; omega)) (fun e => by have := h.lt1 b e; omega)
  have hm1 : OwnR W4 b2 m fs1 := h.fm.row.same fun g hgg => (hmb g (h.fm.row.lt g hgg).1 (h.fm.row.lt g hgg).2).2
  have hf1 : ∀ (p : Nat) (x : Value), fs1[p]? = some x → OwnK W4 b2 x (C1 p) := fun p x hx => (h.fm.mem p x hx).same fun g hgg => (hmb g ((h.fm.mem p x hx).lt g hgg).1 ((h.fm.mem p x hx).lt g hgg).2).2
  have hX : X'.sv.ownBlock = X.sv.ownBlock := by rw [e2]
  obtain ⟨X5, O5, Q5, q1, q2, q3, q4, q5⟩ := Out.putW (X := X') (v := v5) (l := m) (es1 := fs1) (C1 := C1) hSa (by rw [e1, e2]; exact hOa) ((hm1.kept ba).mono hbb) (fun b hb => (hmb b (h.fm.row.lt b hb).1 (h.fm.row.lt b hb).2).1)
    (fun p x hx => ⟨((hf1 p x hx).kept ba).mono hbb, fun b hb => (hmb b ((h.fm.mem p x hx).lt b hb).1 ((h.fm.mem p x hx).lt b hb).2).1⟩) h5 (by rw [hX]; exact hg) (by rw [hX]; exact hat)
  rw [e1] at q1 q4
  refine ⟨X5, O5, Q5, ⟨q1, q2, q3, q4, fun b hb hn h1 h2 h3 => ?_, below_set (h4.bel.trans (ba.mono (by have := h4.siz; have := h.bel.size; have := h.base_; omega))) hg (fun b hb => (h4.s1.lt b hb).1) (by have := h4.siz; have := h.bel.size; have := h.base_; have := ba.size; omega) h.sh.sb.1⟩⟩
  obtain ⟨p1, p2⟩ := g3 b hb hn h1
  have hb4 : b < W4.heap.size := Nat.lt_of_lt_of_le hb h4.siz
  obtain ⟨p3, p4⟩ := q5 b (by have := ba.size; omega) p1 h2 h3
  exact ⟨p3, p4.trans ((ba.block b hb4).trans p2)⟩
/-- whose the lists that are to be put away are -/
def E1 (es1 : List Value) : Nat → Prop := fun b => ∃ x ∈ es1, x.ownBlock = some b
noncomputable def X6 (W5 : World) (O5 : Nat → Option Nat) (es1 : List Value) (v4 v5 : Value) : Xt := ⟨frm W5 (lab W5 O5 (E1 es1)), v4, v5⟩
theorem S3.loop {w W : World} {base SB : Nat} {X : Xt} {O : Nat → Option Nat} {Q : Nat → Nat} {lv wv l m v5 : Value} {xs ys us zs es1 fs1 : List Value} {Ms C1 : Nat → List K} {es fs : Nat → List Value} {Cs : Nat → Nat → List K} {b1 b2 : Nat} {W5 : World} {v4 : Value} {X5 : Xt} {O5 : Nat → Option Nat} {Q5 : Nat → Nat} (h : S3 w W base SB X O Q lv wv l m xs ys us zs es1 fs1 Ms C1 es fs Cs b1 b2) (h5 : S5 w W W5 base SB O lv wv l m v4 v5 xs ys us zs es1 fs1 Ms C1 es fs Cs X5 O5 Q5) (hy : ys.length = xs.length) :
    LI w W5 base SB (X6 W5 O5 es1 v4 v5) (lab W5 O5 (E1 es1)) lv wv xs es1 ys Ms Ms C1 0 0 := by
  have hs := h5.sh.framed (E1 es1)
  rw [h5.e1, h5.e2] at hs
  refine ⟨by rw [List.take_zero, List.append_nil]; exact hs, by omega, fun _ _ => rfl, fun p hp => by omega, fun p x _ hx => ?_, h5.bel⟩
  have hk : ∀ b, x.ownBlock = some b → O5 b = none ∧ W5.heap[b]? = W.heap[b]? := fun b hb => by
    have h1 := (h.fl.mem p x hx).lt b hb
    have h2 := h.lt2 p x hx b hb
    refine h5.keep b h1.2 (h.fr b (by have := h.le1; omega)) (h.fl.nr p x hx b hb) (fun e => by have := (h.fm.row.lt b e).1; omega) (fun y hy' e => ?_)
    obtain ⟨q, hq⟩ := List.mem_iff_getElem?.1 hy'
    have := ((h.fm.mem q y hq).lt b e).1
    omega
  exact ⟨((h.fl.mem p x hx).mono (Nat.le_trans h.base_ h.le1)).same fun g hg => (hk g hg).2, fun b hb => lab_none (hk b hb).1 (.inr ⟨x, List.mem_iff_getElem?.2 ⟨p, hx⟩, hb⟩)⟩
theorem LI.out {w W : World} {base SB : Nat} {O : Nat → Option Nat} {lv wv l m v5 : Value} {xs ys us zs es1 fs1 : List Value} {Ms C1 : Nat → List K} {es fs : Nat → List Value} {Cs : Nat → Nat → List K} {W5 wr : World} {v4 : Value} {X5 : Xt} {O5 O6 : Nat → Option Nat} {Q5 : Nat → Nat} {lv' wv' : Value} {ys' : List Value} {Ms' : Nat → List K} {kx ky : Nat} (h5 : S5 w W W5 base SB O lv wv l m v4 v5 xs ys us zs es1 fs1 Ms C1 es fs Cs X5 O5 Q5) (h : LI w wr base SB (X6 W5 O5 es1 v4 v5) O6 lv' wv' xs es1 ys' Ms Ms' C1 kx ky) :
    ∀ b, O5 b = some 3 → wr.heap[b]? = W5.heap[b]? ∧ O6 b = some 3 := fun b hb =>
  Sh.keep3 (O := lab W5 O5 (E1 es1)) h.sh (fun b hb => lab_none (h5.sh.fresh b hb) (.inl hb)) b (lab_old hb)
theorem LI.rows {w W : World} {base SB : Nat} {O : Nat → Option Nat} {lv wv l m v5 : Value} {xs ys us zs es1 fs1 : List Value} {Ms C1 : Nat → List K} {es fs : Nat → List Value} {Cs : Nat → Nat → List K} {W5 wr : World} {v4 : Value} {X5 : Xt} {O5 O6 : Nat → Option Nat} {Q5 : Nat → Nat} {lv' wv' : Value} {ys' : List Value} {Ms' : Nat → List K} {kx ky : Nat} (h5 : S5 w W W5 base SB O lv wv l m v4 v5 xs ys us zs es1 fs1 Ms C1 es fs Cs X5 O5 Q5) (h : LI w wr base SB (X6 W5 O5 es1 v4 v5) O6 lv' wv' xs es1 ys' Ms Ms' C1 kx ky) :
    OwnR wr base l es1 ∧ OwnR wr base m fs1 ∧ ∀ (p : Nat) (x : Value), fs1[p]? = some x → OwnK wr base x (C1 p) := by
  have ho := h5.out.keep (LI.out h5 h)
  have h1 := (ho.u us.length l (by simp)).1
  have h2 := (ho.z zs.length m (by simp)).1
  rw [updf_same] at h1 h2
  refine ⟨h1, h2, fun p x hx => ?_⟩
  have h3 := (ho.f zs.length (by simp) p x (by rw [updf_same]; exact hx)).1
  rwa [updf_same] at h3
/-- what split leaves -/
theorem LI.fin {w W : World} {base SB : Nat} {X : Xt} {O : Nat → Option Nat} {Q : Nat → Nat} {lv wv l m v5 : Value} {xs ys us zs es1 fs1 : List Value} {Ms C1 : Nat → List K} {es fs : Nat → List Value} {Cs : Nat → Nat → List K} {b1 b2 : Nat} {W5 wr : World} {v4 : Value} {X5 : Xt} {O5 O6 : Nat → Option Nat} {Q5 : Nat → Nat} {lv' wv' : Value} {ys' : List Value} {Ms' : Nat → List K} {N nx nu : Nat} (h3 : S3 w W base SB X O Q lv wv l m xs ys us zs es1 fs1 Ms C1 es fs Cs b1 b2) (h5 : S5 w W W5 base SB O lv wv l m v4 v5 xs ys us zs es1 fs1 Ms C1 es fs Cs X5 O5 Q5) (h : LI w wr base SB (X6 W5 O5 es1 v4 v5) O6 lv' wv' xs es1 ys' Ms Ms' C1 N N)
    (hN : N = es1.length) (hN2 : N = fs1.length) (hN3 : N ≤ 256) (hL : Link us.length es Cs xs Ms) (hE : Even us zs es fs) (hx : xs.length ≤ nx) (hu : us.length ≤ nu) (hM : ∀ j, j < xs.length → (Ms j).length ≤ 2097152) (hC : ∀ p, (C1 p).length ≤ 2097152) :
    ∃ O', ShP wr base SB O' (nx + 256) (nu + 1) ∧ ∀ b, b < w.heap.size → O b = none → O' b = none ∧ wr.heap[b]? = w.heap[b]? := by
  have hlen : (xs ++ es1.take N).length = xs.length + N := by rw [List.length_append, List.length_take]; omega
  -- what was nobody's
  have old : ∀ b, b < w.heap.size → O b = none → O5 b = none ∧ W5.heap[b]? = w.heap[b]? ∧ ¬ E1 es1 b := fun b hb hn => by
    obtain ⟨q1, q2⟩ := h5.keep b (Nat.lt_of_lt_of_le hb h3.bel.size) hn (fun e => by have := (h3.fl.row.lt b e).1; have := h3.le1; omega) (fun e => by have := (h3.fm.row.lt b e).1; have := h3.le1; have := h3.le2; omega) (fun x hx' e => by
      obtain ⟨p, hp⟩ := List.mem_iff_getElem?.1 hx'
      have := ((h3.fm.mem p x hp).lt b e).1; have := h3.le1; have := h3.le2; omega)
    refine ⟨q1, q2.trans (h3.bel.block b hb), fun ⟨x, hx', e⟩ => ?_⟩
    obtain ⟨p, hp⟩ := List.mem_iff_getElem?.1 hx'
    have := ((h3.fl.mem p x hp).lt b e).1; have := h3.le1; omega
  have hw5 : ∀ b, b < w.heap.size → O b = none → wr.heap[b]? = w.heap[b]? ∧ O6 b = some 3 := fun b hb hn => by
    obtain ⟨q1, q2, q3⟩ := old b hb hn
    have hl5 : b < W5.heap.size := Nat.lt_of_lt_of_le hb h5.bel.size
    obtain ⟨p1, p2⟩ := Sh.keep3 (O := lab W5 O5 (E1 es1)) h.sh (fun b hb => lab_none (h5.sh.fresh b hb) (.inl hb)) b (lab_new hl5 q1 q3)
    exact ⟨p1.trans q2, p2⟩
  have hout := LI.out h5 h
  refine ⟨fun b => if b < w.heap.size ∧ O b = none then none else O6 b, ⟨⟨fun _ => none, v4, v5⟩, lv', wv', xs ++ es1.take N, ys', Ms', Q5, us ++ [l], zs ++ [m], updf es us.length es1, updf fs zs.length fs1, updf Cs zs.length C1, h.sh.reframe ⟨fun _ => none, v4, v5⟩ h.sh.cell (fun _ _ _ _ _ => rfl) (fun b l' hb hl' => ?_) (fun b hb => ?_) (fun b o ho => by cases ho), h5.out.keep (fun b hb => ⟨(hout b hb).1, ?_⟩), ?_, ⟨?_, fun i hi => ?_⟩, by rw [h.yl, hlen], by rw [hlen]; omega, by rw [List.length_append, List.length_singleton]; omega, fun j hj => ?_⟩, fun b hb hn => ⟨if_pos ⟨hb, hn⟩, (hw5 b hb hn).1⟩⟩
  · rw [if_neg (fun hq => ?_)]; exact hb
    rw [(hw5 b hq.1 hq.2).2] at hb; exact hl' (Option.some.inj hb).symm
  · split
    · rfl
    · exact h.sh.fresh b hb
  · rw [if_neg (fun hq => ?_)]; exact (hout b hb).2
    rw [(old b hq.1 hq.2).1] at hb; cases hb
  · intro i hi p x hx'
    rw [List.length_append, List.length_singleton] at hi
    by_cases e : i = us.length
    · subst e
      rw [updf_same] at hx'
      have hp : p < N := by rw [hN]; exact (List.getElem?_eq_some_iff.1 hx').1
      refine ⟨xs.length + p, by rw [hlen]; omega, ?_, ?_⟩
      · rw [List.getElem?_append_right (by omega), Nat.add_sub_cancel_left, List.getElem?_take, if_pos hp]; exact hx'
      · rw [← hE.1, updf_same]; exact h.m1 p hp
    · rw [updf_other _ _ _ _ e] at hx'
      rw [updf_other _ _ _ _ (by rw [hE.1]; exact e)]
      exact hL.more h.m0 i (by omega) p x hx'
  · rw [List.length_append, List.length_append, hE.1]; rfl
  · rw [List.length_append, List.length_singleton] at hi
    by_cases e : i = us.length
    · subst e
      rw [updf_same, ← hE.1, updf_same]
      omega
    · rw [updf_other _ _ _ _ e, updf_other _ _ _ _ (by rw [hE.1]; exact e)]
      exact hE.2 i (by omega)
  · rw [hlen] at hj
    by_cases e : j < xs.length
    · rw [h.m0 j e]; exact hM j e
    · obtain ⟨p, rfl⟩ : ∃ p, j = xs.length + p := ⟨j - xs.length, by omega⟩
      rw [h.m1 p (by omega)]; exact hC p

end Go.Proofs.Ytnjgaibcpcpmcab
