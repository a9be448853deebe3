/-
  DictWalks: WHAT STANDS WHILE THE ITERATOR IS GONE OVER.
-/
import Derived.Test.YtenmkigoohpfmaaDWalkS
import Derived.Test.YtenmkigoohpfmaaKNe
namespace Go.Proofs.Ytenmkigoohpfmaa
open Go.RowKit Go.Sort Go.Shelf

abbrev TInt : TypeId := 3
abbrev TSeq : TypeId := 36
/-- all that is no cells stays, but for the map -/
def NcM (M : Nat) (W W' : World) : Prop := ∀ (k : Nat) (o : Obj), W.heap[k]? = some o → o.isCells = false → k ≠ M → W'.heap[k]? = some o
theorem WD.nc {W W' : World} {base D M L : Nat} {es : List En} (h : WD W base D M L es) (hf : Fr (Ft M L es) W W') : NcM M W W' := fun k o hk ho hM => by
  refine (hf.block k (blk_lt hk) (fun hx => ?_)).trans hk
  rcases hx with rfl | rfl | ⟨e, he, rfl⟩
  · exact hM rfl
  · obtain ⟨_, h1, _⟩ := h.da.ln
    rw [hk] at h1; cases h1; cases ho
  · obtain ⟨_, _, h1⟩ := h.da.entry he
    rw [hk] at h1; cases h1; cases ho
/-- one Put, and what is no cells -/
theorem wputN_any (W : World) (base D M L : Nat) (es : List En) (x : K) (v : Int) (h : WD W base D M L es) (hx : KIn x) (hv : In64 v) (hl : es.length ≤ 140737488355328) :
    Calls Try.prog 5 #[ptr D, kv x, .int .i64 v] W fun e w' => (∃ a b, e = .returned (.tuple #[.int .i64 a, .bool b])) ∧ FrK base W w' ∧ NcM M W w' ∧ ∃ es', WD w' base D M L es' ∧ es'.length ≤ es.length + 1 := by
  cases hf : fd es x with
  | some e0 =>
    refine (put_old W D M L 3 _ es x v h.da hx hv e0 hf).mono ?_
    rintro e w' ⟨rfl, hd, hF⟩
    have f := h.frk hF
    refine ⟨⟨_, _, rfl⟩, f, h.nc hF, _, ⟨hd, ⟨h.ge.1, h.ge.2.1, h.ge.2.2.1, fun e he => ?_⟩, fun e he => ?_, Nat.le_trans h.sz f.size⟩, by simp⟩
    · obtain ⟨y, hy, rfl⟩ := List.mem_map.1 he
      rw [ud_b]; exact h.ge.2.2.2 y hy
    · obtain ⟨y, hy, rfl⟩ := List.mem_map.1 he
      rw [ud_p]; exact h.p0 y hy
  | none =>
    refine (put_new W D M L 3 fNil hash0 part_ok es x v h.da hx hv hf hl).mono ?_
    rintro e w' ⟨E, rfl, hd, hE, hF⟩
    have f := h.frk hF
    have hz : hash0 x % 3 = 0 := by simp [hash0]
    rw [hz] at hd
    refine ⟨⟨_, _, rfl⟩, f, h.nc hF, _, ⟨hd, ⟨h.ge.1, h.ge.2.1, h.ge.2.2.1, fun e he => ?_⟩, fun e he => ?_, Nat.le_trans h.sz f.size⟩, by simp⟩
    · rcases List.mem_append.1 he with he | he
      · exact h.ge.2.2.2 e he
      · simp only [List.mem_singleton] at he
        subst he
        exact Nat.le_trans h.sz hE
    · rcases List.mem_append.1 he with he | he
      · exact h.p0 e he
      · simp only [List.mem_singleton] at he
        subst he
        rfl
/-- Put into what is empty -/
theorem wput1_any (W : World) (base D M L : Nat) (x : K) (v : Int) (h : WD W base D M L []) (hx : KIn x) (hv : In64 v) :
    Calls Try.prog 5 #[ptr D, kv x, .int .i64 v] W fun e w' => (∃ a b, e = .returned (.tuple #[.int .i64 a, .bool b])) ∧ FrK base W w' ∧ NcM M W w' ∧ ∃ E, WD w' base D M L [⟨E, x, v, 0⟩] := by
  refine (put_new W D M L 3 fNil hash0 part_ok [] x v h.da hx hv rfl (by simp)).mono ?_
  rintro e w' ⟨E, rfl, hd, hE, hF⟩
  have f := h.frk hF
  have hz : hash0 x % 3 = 0 := by simp [hash0]
  rw [hz] at hd
  refine ⟨⟨_, _, rfl⟩, f, h.nc hF, E, by simpa using hd, ⟨h.ge.1, h.ge.2.1, h.ge.2.2.1, fun e he => ?_⟩, fun e he => ?_, Nat.le_trans h.sz f.size⟩
  · simp only [List.mem_singleton] at he
    subst he
    exact Nat.le_trans h.sz hE
  · simp only [List.mem_singleton] at he
    subst he
    rfl
/-- one Take, and what is no cells -/
theorem wtakeN_any (W : World) (base D M L : Nat) (es : List En) (x : K) (h : WD W base D M L es) (hx : KIn x) (hl : es.length ≤ 140737488355328) :
    Calls Try.prog 6 #[ptr D, kv x] W fun e w' => (∃ a b, e = .returned (.tuple #[.int .i64 a, .bool b])) ∧ FrK base W w' ∧ NcM M W w' ∧ ∃ es', WD w' base D M L es' ∧ es'.length ≤ es.length := by
  cases hf : fd es x with
  | none =>
    refine (take_none W D M L 3 _ es x h.da hx hf).mono ?_
    rintro e w' ⟨rfl, hb⟩
    exact ⟨⟨_, _, rfl⟩, FrK.bel hb h.sz, fun k o hk _ _ => (hb.block k (blk_lt hk)).trans hk, es, h.kept hb, Nat.le_refl _⟩
  | some e0 =>
    refine (take_some W D M L 3 _ es x h.da hx e0 hf hl).mono ?_
    rintro e w' ⟨rfl, ⟨A, C, he, hd⟩, hF⟩
    have f := h.frk hF
    refine ⟨⟨_, _, rfl⟩, f, h.nc hF, A ++ C, ⟨hd, ⟨h.ge.1, h.ge.2.1, h.ge.2.2.1, fun e hm => h.ge.2.2.2 e ?_⟩, fun e hm => h.p0 e ?_, Nat.le_trans h.sz f.size⟩, by rw [he]; simp⟩
    · rw [he]
      rcases List.mem_append.1 hm with hm | hm
      · simp [hm]
      · simp [hm]
    · rw [he]
      rcases List.mem_append.1 hm with hm | hm
      · simp [hm]
      · simp [hm]
/-- Clear, and what is no cells -/
theorem wclearN_any (W : World) (base D M L : Nat) (es : List En) (h : WD W base D M L es) : Calls Try.prog 9 #[ptr D] W fun e w' => (∃ v, e = .returned v) ∧ FrK base W w' ∧ NcM M W w' ∧ WD w' base D M L [] := by
  refine (clear_any W D M L 3 _ es h.da).mono ?_
  rintro e w' ⟨rfl, hd, hF⟩
  have f := h.frk hF
  exact ⟨⟨_, rfl⟩, f, h.nc hF, hd, ⟨h.ge.1, h.ge.2.1, h.ge.2.2.1, fun e he => (by cases he)⟩, fun e he => (by cases he), Nat.le_trans h.sz f.size⟩
/-- Each, whichever partition -/
theorem weachN_any (W : World) (base D M L : Nat) (es : List En) (p : Int) (h : WD W base D M L es) (hl : es.length ≤ 1000000000) : Calls Try.prog 7 #[ptr D, .int .i64 p] W fun e w' => ∃ B g, e = .returned (.func (.func fEach) #[] #[ptr B]) ∧ (IL w' B g (ptI 3 p es) ∧ ∃ cur, w'.heap[g]? = some (.cells cur TP (0, 0))) ∧ Below W.heap.size W w' := by
  have hq := each_any W D M L 3 _ es p h.da (by have : (ptI 3 p es).length ≤ es.length := (by unfold ptI pt; split <;> simp [List.length_filter_le]); omega)
  refine hq.mono ?_
  rintro e w' ⟨B, g, rfl, HE⟩
  refine ⟨B, g, rfl, ⟨HE.out.il, ?_⟩, HE.out.bel⟩
  rcases HE.out.row.2 with ⟨h0, _⟩ | ⟨g', cap, cur, hv, _, hg, _⟩
  · cases h0
  · cases hv; exact ⟨cur, hg⟩

/-- int boxes from base on may turn, new blocks may come -/
structure FrI (base : Nat) (W W' : World) : Prop where
  os : W'.os = W.os
  tape : W'.tape = W.tape
  output : W'.output = W.output
  size : W.heap.size ≤ W'.heap.size
  low : ∀ k, k < base → W'.heap[k]? = W.heap[k]?
  oth : ∀ (k : Nat) (o : Obj), W.heap[k]? = some o → (∀ cur, o ≠ .cells cur TInt (0, 0)) → W'.heap[k]? = some o
theorem FrI.refl (base : Nat) (W : World) : FrI base W W := ⟨rfl, rfl, rfl, Nat.le_refl _, fun _ _ => rfl, fun _ _ h _ => h⟩
theorem FrI.trans {base : Nat} {a b c : World} (h : FrI base a b) (k : FrI base b c) : FrI base a c := ⟨k.os.trans h.os, k.tape.trans h.tape, k.output.trans h.output, Nat.le_trans h.size k.size, fun i hi => (k.low i hi).trans (h.low i hi), fun i o hi ho => k.oth i o (h.oth i o hi ho) ho⟩
theorem FrI.bel {base : Nat} {a b : World} (h : Below a.heap.size a b) (hb : base ≤ a.heap.size) : FrI base a b := ⟨h.os, h.tape, h.output, h.size, fun k hk => h.block k (by omega), fun k o hk _ => (h.block k (blk_lt hk)).trans hk⟩
theorem FrI.drewN (base : Nat) (W : World) (q : Nat) : FrI base W (W.drewN q) := ⟨rfl, rfl, rfl, Nat.le_refl _, fun _ _ => rfl, fun _ _ h _ => h⟩
theorem FrI.set {base : Nat} {W : World} {B : Nat} {u : Value} (hb : Boxed W B TInt u) (hB : base ≤ B) (v : Value) : FrI base W (W.setCell ⟨B, 0, none⟩ v) :=
  ⟨rfl, rfl, rfl, by simp, fun k hk => heap_setCell_other _ _ _ _ (by show k ≠ B; omega), fun k o hk ho => (heap_setCell_other _ _ _ _ (show k ≠ B from fun e => by
    rw [e] at hk
    exact ho _ (Option.some.inj (hk.symm.trans hb)))).trans hk⟩
theorem FrI.below {base : Nat} {a b : World} (h : FrI base a b) : Below base a b := ⟨h.os, h.tape, h.output, h.size, h.low⟩
theorem FrI.others {base : Nat} {a b : World} (h : FrI base a b) : KeepsOthers a b := ⟨h.size, fun k o hk ho => h.oth k o hk (fun cur e => by rw [e] at ho; cases ho)⟩

theorem FrI.own {base : Nat} {A X Y : World} {row : Option Nat} (h : FrI base A X) (hb : base ≤ A.heap.size) (hg : X.grownBy Y row) (hr : ∀ r, row = some r → A.heap.size ≤ r ∧ ∃ o : Obj, X.heap[r]? = some o ∧ o.isCells = false) : FrI base A Y :=
  ⟨hg.os.trans h.os, hg.tape.trans h.tape, hg.output.trans h.output, Nat.le_trans h.size hg.size, fun k hk => (hg.block k (by have := h.size; omega) (fun e => by have := (hr k e.symm).1; omega)).trans (h.low k hk),
    fun k o hk ho => (hg.block k (by have := h.size; have := blk_lt hk; omega) (fun e => by have := (hr k e.symm).1; have := blk_lt hk; omega)).trans (h.oth k o hk ho)⟩
/-- what stands -/
structure WX (w W : World) (D M L B3 B4 B5 B7 B13 B g : Nat) (es es' ws : List En) (mv wv : Value) : Prop where
  s : WS w W D M L B3 B4 B5 B7 es' ws mv wv
  il : IL W B g es
  gt : ∃ cur, W.heap[g]? = some (.cells cur TP (0, 0))
  b13 : W.heap[B13]? = some (.cells #[.func (.func fEach) #[] #[ptr B]] TSeq (0, 0))
theorem IL.same {w w' : World} {B g : Nat} {l : List En} (h : IL w B g l) (h1 : w'.heap[B]? = w.heap[B]?) (h2 : w'.heap[g]? = w.heap[g]?) (hs : w.heap.size ≤ w'.heap.size) : IL w' B g l := h.kbg ⟨hs, h1, h2⟩
theorem WS.oth {w W W' : World} {D M L B3 B4 B5 B7 : Nat} {es ws : List En} {mv wv : Value} (h : WS w W D M L B3 B4 B5 B7 es ws mv wv) (hs : W.heap.size ≤ W'.heap.size) (hb : Below w.heap.size w W') (hM : W'.heap[M]? = W.heap[M]?)
    (f : ∀ (k : Nat) (cur : Array Value) (t : TypeId), W.heap[k]? = some (.cells cur t (0, 0)) → t ≠ TInt → W'.heap[k]? = some (.cells cur t (0, 0))) : WS w W' D M L B3 B4 B5 B7 es ws mv wv := by
  refine ⟨⟨h.wd.da.same (fun k hk => ?_), h.wd.ge, h.wd.p0, Nat.le_trans h.wd.sz hs⟩, f _ _ _ h.b3 (by decide), f _ _ _ h.b4 (by decide), f _ _ _ h.b5 (by decide), f _ _ _ h.b7 (by decide), h.wr.same (fun g hg => ?_), hb⟩
  · rcases hk with rfl | rfl | rfl | ⟨x, he, rfl⟩
    · exact (f _ _ _ h.wd.da.dc (by decide)).trans h.wd.da.dc.symm
    · exact hM
    · obtain ⟨_, h1, _⟩ := h.wd.da.ln
      exact (f _ _ _ h1 (by decide)).trans h1.symm
    · obtain ⟨_, _, h1⟩ := h.wd.da.entry he
      exact (f _ _ _ h1 (by decide)).trans h1.symm
  · obtain ⟨cur, hc⟩ := h.wr.blk hg
    exact (f _ _ _ hc (by decide)).trans hc.symm
theorem WX.oth {w W W' : World} {D M L B3 B4 B5 B7 B13 B g : Nat} {es es' ws : List En} {mv wv : Value} (h : WX w W D M L B3 B4 B5 B7 B13 B g es es' ws mv wv) (hs : W.heap.size ≤ W'.heap.size) (hb : Below w.heap.size w W') (hM : W'.heap[M]? = W.heap[M]?)
    (f : ∀ (k : Nat) (cur : Array Value) (t : TypeId), W.heap[k]? = some (.cells cur t (0, 0)) → t ≠ TInt → W'.heap[k]? = some (.cells cur t (0, 0))) : WX w W' D M L B3 B4 B5 B7 B13 B g es es' ws mv wv := by
  obtain ⟨cur, hg⟩ := h.gt
  exact ⟨h.s.oth hs hb hM f, h.il.same ((f _ _ _ h.il.box (by decide)).trans h.il.box.symm) ((f _ _ _ hg (by decide)).trans hg.symm) hs, ⟨cur, f _ _ _ hg (by decide)⟩, f _ _ _ h.b13 (by decide)⟩
theorem WX.fri {w W W' : World} {D M L B3 B4 B5 B7 B13 B g : Nat} {es es' ws : List En} {mv wv : Value} (h : WX w W D M L B3 B4 B5 B7 B13 B g es es' ws mv wv) (f : FrI w.heap.size W W') : WX w W' D M L B3 B4 B5 B7 B13 B g es es' ws mv wv := by
  obtain ⟨ms, c, hm, _⟩ := h.s.wd.da.mp
  exact h.oth f.size (h.s.bel.trans f.below) ((f.oth _ _ hm (fun _ e => by cases e)).trans hm.symm) (fun k cur t hk ht => f.oth _ _ hk (fun cur' e => by simp only [Obj.cells.injEq] at e; exact ht e.2.1))
theorem WX.own {w W W' : World} {D M L B3 B4 B5 B7 B13 B g : Nat} {es es' ws : List En} {mv wv : Value} (h : WX w W D M L B3 B4 B5 B7 B13 B g es es' ws mv wv) {base : Nat} {row : Option Nat} (hM : M < base) (hw : w.heap.size ≤ base) (hg : W.grownBy W' row) (hr : ∀ r, row = some r → base ≤ r ∧ ∃ o : Obj, W.heap[r]? = some o ∧ o.isCells = false) : WX w W' D M L B3 B4 B5 B7 B13 B g es es' ws mv wv := by
  refine h.oth hg.size (h.s.bel.grown hg h.s.bel.size (fun k e => by have := (hr k e).1; omega)) (hg.block _ (by obtain ⟨_, _, hm, _⟩ := h.s.wd.da.mp; exact blk_lt hm) (fun e => by have := (hr _ e.symm).1; omega)) (fun k cur t hk ht => (hg.block _ (blk_lt hk) (fun e => ?_)).trans hk)
  obtain ⟨_, o, ho, hc⟩ := hr k e.symm
  rw [hk] at ho; cases ho; cases hc
theorem WX.kbg {w W W' : World} {D M L B3 B4 B5 B7 B13 B g : Nat} {es es' ws : List En} {mv wv : Value} (h : WX w W D M L B3 B4 B5 B7 B13 B g es es' ws mv wv) {es2 : List En} (h' : WX w W' D M L B3 B4 B5 B7 B13 B g es es2 ws mv wv) (hs : W.heap.size ≤ W'.heap.size) (hg : W'.heap[g]? = W.heap[g]?) : KBG B g W W' := ⟨hs, h'.il.box.trans h.il.box.symm, hg⟩
theorem WX.kfri {w W W' : World} {D M L B3 B4 B5 B7 B13 B g : Nat} {es es' ws : List En} {mv wv : Value} (h : WX w W D M L B3 B4 B5 B7 B13 B g es es' ws mv wv) (f : FrI w.heap.size W W') : KBG B g W W' := by
  obtain ⟨cur, hg⟩ := h.gt
  exact h.kbg (h.fri f) f.size ((f.oth _ _ hg (fun _ e => by simp only [Obj.cells.injEq] at e; exact absurd e.2.1 (by decide))).trans hg.symm)
/-- the Dict has turned -/
theorem WX.dict {w W W' : World} {D M L B3 B4 B5 B7 B13 B g : Nat} {es es' es2 ws : List En} {mv wv : Value} (h : WX w W D M L B3 B4 B5 B7 B13 B g es es' ws mv wv) (f : FrK w.heap.size W W') (hd : WD W' w.heap.size D M L es2) : WX w W' D M L B3 B4 B5 B7 B13 B g es es2 ws mv wv ∧ KBG B g W W' := by
  obtain ⟨cur, hg⟩ := h.gt
  have h1 := f.oth _ _ _ h.il.box (by decide) (by decide)
  have h2 := f.oth _ _ _ hg (by decide) (by decide)
  exact ⟨⟨h.s.dict f hd, h.il.same h1 h2 f.size, ⟨cur, h2.trans hg⟩, (f.oth _ _ _ h.b13 (by decide) (by decide)).trans h.b13⟩, f.size, h1, h2⟩
theorem NcM.from {M : Nat} {W W' : World} (h : NcM M W W') (hs : W.heap.size ≤ W'.heap.size) {base : Nat} (hM : M < base) : KeepsFrom base W W' := ⟨hs, fun k o hB hk ho => h k o hk ho (by omega)⟩
theorem FrK.boxed {base : Nat} {W W' : World} (f : FrK base W W') {B : Nat} {t : TypeId} {v : Value} (h : Boxed W B t v) (h1 : t ≠ 52) (h2 : t ≠ 49) : Boxed W' B t v := (f.oth _ _ _ h h1 h2).trans h

/-- what is wanted at a place -/
theorem WX.want {w W : World} {D M L B3 B4 B5 B7 B13 B g : Nat} {es es' ws : List En} {mv : Value} {wo : Option Addr} {wn wc : Nat} (h : WX w W D M L B3 B4 B5 B7 B13 B g es es' ws mv (.slice wo wn wc)) (hq : ws.map pq = es.map pq) (j : Nat) (hj : j < es.length) :
    ∃ gq oq, wo = some ⟨gq, oq, none⟩ ∧ W.cell? ⟨gq, oq + j * 4, none⟩ = some (.int .i64 es[j].k.1) ∧ W.cell? ⟨gq, oq + j * 4 + 1, none⟩ = some (.int .i64 es[j].k.2) ∧ W.cell? ⟨gq, oq + j * 4 + 2, none⟩ = some (.int .i64 es[j].v) := by
  have hl : ws.length = es.length := by simpa using congrArg List.length hq
  have hjw : j < ws.length := by omega
  obtain ⟨ao9, cap9, he9, hpr, _⟩ := h.s.wr.slice
  obtain ⟨rfl, _, rfl⟩ : wo = ao9 ∧ wn = ws.length ∧ wc = cap9 := by simp only [Value.slice.injEq] at he9; exact he9
  obtain ⟨g9, o9, hao, hc⟩ : ∃ g9 o9, wo = some ⟨g9, o9, none⟩ ∧ ∀ j u, (cpq ws)[j]? = some u → W.cell? ⟨g9, o9 + j, none⟩ = some u := by
    rcases hpr with h0 | h0
    · rw [h0] at hjw; simp at hjw
    · exact h0
  obtain ⟨y0, y1, y2, _⟩ := PrAt.cells hc j hjw
  have hp : pq ws[j] = pq es[j] := by
    have h1 : (ws.map pq)[j]'(by simpa using hjw) = (es.map pq)[j]'(by simpa using hj) := by simp only [hq]
    simpa using h1
  simp only [pq, Prod.mk.injEq] at hp
  rw [hp.1] at y0 y1
  rw [hp.2.1] at y2
  exact ⟨g9, o9, hao, y0, y1, y2⟩
/-- what has come is the list's beginning -/
def Chn (l : List En) (hl : ∀ e ∈ l, KIn e.k ∧ In64 e.v) (pre : List PX) : Prop := pre = upto (pd l hl) pre.length
theorem chn_nil (l : List En) (hl : ∀ e ∈ l, KIn e.k ∧ In64 e.v) : Chn l hl [] := rfl
theorem chn_upto (l : List En) (hl : ∀ e ∈ l, KIn e.k ∧ In64 e.v) (k : Nat) : Chn l hl (upto (pd l hl) k) := by unfold Chn; rw [upto_length]
theorem chn_snoc {l : List En} {hl : ∀ e ∈ l, KIn e.k ∧ In64 e.v} {pre : List PX} {x : PX} (h : Chn l hl pre) (hq : pre.length < l.length) : Chn l hl (pre ++ [x]) ↔ x.1 = (l[pre.length].k, l[pre.length].v) := by
  unfold Chn at *
  rw [List.length_append, List.length_singleton, upto_succ, ← h, List.append_cancel_left_eq, List.cons.injEq, ← pd_at hl hq]
  exact ⟨fun h => congrArg Subtype.val h.1, fun h => ⟨Subtype.ext h, rfl⟩⟩
theorem keeps_drewN (W : World) (q : Nat) : KeepsOthers W (W.drewN q) := ⟨Nat.le_refl _, fun _ _ h _ => h⟩
/-- a frame, slot by slot -/
def lit (f : Nat → Value) : Array Value := #[f 0, f 1, f 2, f 3, f 4, f 5, f 6, f 7, f 8, f 9, f 10, f 11, f 12, f 13, f 14, f 15, f 16, f 17, f 18, f 19, f 20, f 21, f 22, f 23, f 24, f 25, f 26, f 27, f 28, f 29, f 30, f 31, f 32, f 33, f 34, f 35, f 36, f 37, f 38, f 39, f 40, f 41, f 42, f 43, f 44, f 45, f 46, f 47, f 48, f 49, f 50, f 51, f 52, f 53, f 54, f 55, f 56, f 57, f 58, f 59, f 60, f 61, f 62, f 63, f 64, f 65, f 66, f 67, f 68, f 69, f 70, f 71, f 72, f 73, f 74, f 75, f 76, f 77, f 78, f 79, f 80, f 81, f 82, f 83, f 84, f 85, f 86, f 87, f 88, f 89, f 90, f 91, f 92, f 93, f 94, f 95, f 96, f 97, f 98, f 99, f 100, f 101, f 102, f 103, f 104, f 105, f 106, f 107, f 108, f 109, f 110, f 111, f 112, f 113, f 114, f 115, f 116, f 117, f 118, f 119, f 120, f 121, f 122, f 123, f 124, f 125, f 126, f 127, f 128, f 129, f 130, f 131, f 132, f 133, f 134, f 135, f 136, f 137, f 138, f 139, f 140, f 141, f 142, f 143, f 144, f 145, f 146, f 147, f 148, f 149, f 150, f 151, f 152, f 153, f 154, f 155, f 156, f 157, f 158, f 159, f 160, f 161, f 162, f 163, f 164, f 165, f 166, f 167, f 168, f 169, f 170, f 171, f 172, f 173, f 174, f 175, f 176, f 177, f 178, f 179, f 180, f 181, f 182, f 183, f 184, f 185, f 186, f 187, f 188, f 189, f 190, f 191, f 192, f 193, f 194, f 195, f 196, f 197, f 198, f 199, f 200, f 201, f 202, f 203, f 204, f 205, f 206, f 207, f 208, f 209, f 210, f 211, f 212, f 213, f 214, f 215, f 216, f 217, f 218, f 219, f 220, f 221, f 222, f 223, f 224, f 225, f 226, f 227, f 228, f 229, f 230, f 231, f 232, f 233, f 234, f 235, f 236, f 237, f 238, f 239, f 240, f 241, f 242, f 243, f 244, f 245, f 246, f 247, f 248, f 249, f 250, f 251, f 252, f 253, f 254, f 255, f 256, f 257, f 258, f 259, f 260, f 261]
theorem arr_eq (arr : Array Value) : arr = ((List.range arr.size).map (fun i => arr.getD i undef)).toArray := by
  apply Array.ext'
  apply List.ext_getElem?
  intro i
  by_cases hi : i < arr.size
  · simp [hi, Array.getD]
  · simp [hi]
set_option maxRecDepth 100000 in
theorem lit_eq (arr : Array Value) (h : arr.size = 262) : arr = lit (fun i => arr.getD i undef) := by
  have h1 := arr_eq arr
  rw [h] at h1
  exact h1
/-- how many keys there are at most behind so many rounds -/
def bnd (j : Nat) : Nat := 1000000000 + min j 3 * 1000000000
theorem bnd_ge {n : Nat} (j : Nat) (h : n ≤ 1000000000) : n ≤ bnd j := by unfold bnd; omega
theorem bnd_le (j : Nat) : bnd j ≤ 4000000000 := by unfold bnd; omega
theorem bnd_mono (j : Nat) : bnd j ≤ bnd (j + 1) := by unfold bnd; omega
theorem bnd_step {j : Nat} (h : j < 3) : bnd j + 1000000000 ≤ bnd (j + 1) := by unfold bnd; omega
/-- a loop's mark -/
abbrev mk (d : Nat) : Deferred := { target := .collected d, args := #[] }
/-- the marks of the loops that are over -/
structure Mks (lo : Nat) (W : World) (Ds : List Nat) : Prop where
  al : ∀ d ∈ Ds, lo ≤ d ∧ W.heap[d]? = some (.deferred (some []))
  pw : Ds.Pairwise (· > ·)
theorem Mks.fri {lo base : Nat} {W W' : World} {Ds : List Nat} (h : Mks lo W Ds) (f : FrI base W W') : Mks lo W' Ds := ⟨fun d hd => ⟨(h.al d hd).1, f.others.same _ _ (h.al d hd).2 rfl⟩, h.pw⟩
theorem Mks.cons {lo base D : Nat} {V W : World} {Ds : List Nat} (h : Mks lo V Ds) (f : FrI base V W) (hlo : lo ≤ V.heap.size) (hD : V.heap.size ≤ D) (hK : W.heap[D]? = some (.deferred (some []))) : Mks lo W (D :: Ds) := by
  refine ⟨fun d hd => ?_, List.Pairwise.cons (fun d hd => ?_) h.pw⟩
  · rcases List.mem_cons.1 hd with rfl | hd
    · exact ⟨by omega, hK⟩
    · exact (h.fri f).al d hd
  · have := blk_lt (h.al d hd).2
    omega
theorem Mks.one {lo D : Nat} {W : World} (hD : lo ≤ D) (hK : W.heap[D]? = some (.deferred (some []))) : Mks lo W [D] := ⟨fun d hd => by simp only [List.mem_singleton] at hd; subst hd; exact ⟨hD, hK⟩, List.pairwise_singleton _ _⟩
theorem Mks.nc {lo M : Nat} {W W' : World} {Ds : List Nat} (h : Mks lo W Ds) (f : NcM M W W') (hM : ∀ d, W.heap[d]? = some (.deferred (some [])) → d ≠ M) : Mks lo W' Ds := ⟨fun d hd => ⟨(h.al d hd).1, f _ _ (h.al d hd).2 rfl (hM d (h.al d hd).2)⟩, h.pw⟩
theorem WD.notM {W : World} {base D M L : Nat} {es : List En} (h : WD W base D M L es) : ∀ d, W.heap[d]? = some (.deferred (some [])) → d ≠ M := fun d hd e => by
  obtain ⟨_, _, hm, _⟩ := h.da.mp
  rw [← e, hd] at hm; cases hm
/-- one mark is taken -/
theorem Mks.take {lo D : Nat} {W : World} {Ds : List Nat} (h : Mks lo W (D :: Ds)) : W.heap[D]? = some (.deferred (some [])) ∧ lo ≤ D ∧ Mks lo (W.putObj D (.deferred none)) Ds := by
  refine ⟨(h.al D (by simp)).2, (h.al D (by simp)).1, fun d hd => ?_, (List.pairwise_cons.1 h.pw).2⟩
  have h1 := h.al d (by simp [hd])
  have h2 := (List.pairwise_cons.1 h.pw).1 d hd
  exact ⟨h1.1, ((grownBy_putObj' W D _).block d (blk_lt h1.2) (by simp; omega)).trans h1.2⟩
theorem ptI_nil (p : Int) : ptI 3 p [] = [] := by unfold ptI pt; split <;> rfl
/-- the slots that are used again -/
structure FX (B3 B4 B5 B7 B13 B14 : Nat) (a : Act) : Prop where
  sz : a.tmps.size = 262
  t3 : a.tmps.getD 3 undef = ptr B3
  t4 : a.tmps.getD 4 undef = ptr B4
  t5 : a.tmps.getD 5 undef = ptr B5
  t7 : a.tmps.getD 7 undef = ptr B7
  t13 : a.tmps.getD 13 undef = ptr B13
  t14 : a.tmps.getD 14 undef = ptr B14
theorem wp_gen {P : Program} {c : Code} {Q : Exit → Act → World → Prop} {a : Act} {W : World} (R : Act → Prop) (hR : R a) (h : ∀ a', R a' → Code.wp P c Q a' W) : Code.wp P c Q a W := h a hR
/-- a loop over a function that can't be left -/
theorem loop_cut0 {F : Fence} {n : Nat} {P : Program} {c : Code} {Q : Exit → Act → World → Prop} {a : Act} {w : World} (Post : World → Prop)
    (h : c.wpIn F n P (fun e a' w' => e = .normal ∧ ∃ D, w.heap.size ≤ D ∧ a' = { a with defers := mk D :: a.defers } ∧ Post w' ∧ w'.heap[D]? = some (.deferred (some []))) a w)
    (hk : ∀ D W, w.heap.size ≤ D → Post W → W.heap[D]? = some (.deferred (some [])) → Q .normal { a with defers := mk D :: a.defers } W) : c.wpIn F n P Q a w := by
  refine Code.wpIn_mono ?_ h
  rintro e a' w' ⟨rfl, D, hD, rfl, hp, hd⟩
  exact hk D w' hD hp hd
end Go.Proofs.Ytenmkigoohpfmaa
