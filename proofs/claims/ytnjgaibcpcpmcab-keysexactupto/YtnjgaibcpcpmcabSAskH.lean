/-
  WHAT THE WALK OF ask LEANS ON.
-/
import Derived.Test.YtnjgaibcpcpmcabSShelf
import Derived.Test.YtnjgaibcpcpmcabKRefSort
import Derived.Test.YtnjgaibcpcpmcabKUnion
import Derived.Test.YtnjgaibcpcpmcabKSort
namespace Go.Proofs.Ytnjgaibcpcpmcab
open Go.RowKit Go.Sort

theorem Lent.grown {w w1 : World} {base n c : Nat} {a ao : Option Addr} {L : List K} {row : Option Nat} (h : Lent w base a n c ao L) (hg : w.grownBy w1 row) (hne : ∀ x, a = some x → row ≠ some x.block) : Lent w1 base a n c ao L := by
  rcases h with h | ⟨g, h1, h2, h3, h4, h⟩
  · exact .inl h
  · exact .inr ⟨g, h1, h2, h3, h4, h.grown hg (fun b hb e => by cases hb; exact hne _ h1 e)⟩
theorem Lst.grown {w w1 : World} {ao : Option Addr} {n cap : Nat} {L : List K} {row : Option Nat} (h : Lst w ao n cap L) (hg : w.grownBy w1 row) (hne : ∀ a, L ≠ [] → ao = some a → row ≠ some a.block) : Lst w1 ao n cap L := by
  refine ⟨h.len, ?_, h.nil, h.cap⟩
  rcases h.at_ with h0 | ⟨b, off, e, hc⟩
  · exact .inl h0
  · by_cases h0 : L = []
    · exact .inl h0
    · exact .inr ⟨b, off, e, fun j u hu => hg.cell (hc j u hu) (fun e2 => hne _ h0 e e2.symm)⟩
/-- a call, in its box -/
def OBox (w : World) (b : Nat) (o : Array Value) : Prop := w.heap[b]? = some (.cells o 49 (0, 0))
theorem OBox.cell {w : World} {b : Nat} {o : Array Value} (h : OBox w b o) (j : Nat) (v : Value) (hv : o[j]? = some v) : w.cell? ⟨b, j, none⟩ = some v := by simp only [World.cell?, show w.heap[b]? = _ from h]; exact hv
theorem OBox.lt {w : World} {b : Nat} {o : Array Value} (h : OBox w b o) : b < w.heap.size := (Array.getElem?_eq_some_iff.1 h).1
theorem OBox.below {w w1 : World} {b : Nat} {o : Array Value} (h : OBox w b o) (hb : Below w.heap.size w w1) : OBox w1 b o := (hb.block b h.lt).trans h
theorem OBox.grown {w w1 : World} {b : Nat} {o : Array Value} {row : Option Nat} (h : OBox w b o) (hg : w.grownBy w1 row) (hne : row ≠ some b) : OBox w1 b o := (hg.block b h.lt (fun e => hne e.symm)).trans h
/-- what a call answered, and what the document's did -/
structure Got (W wx : World) (bound : Nat) (g h : Value) (M : List K) : Prop where
  got : OwnK wx W.heap.size g M
  want : OwnK wx W.heap.size h M
  ne : ∀ b, g.ownBlock = some b → h.ownBlock ≠ some b
  len : M.length ≤ bound
  bel : Below W.heap.size W wx
theorem Got.nil {W wx : World} (n : Nat) (h : Below W.heap.size W wx) : Got W wx n (.slice none 0 0) (.slice none 0 0) [] := ⟨OwnK.nil _ _, OwnK.nil _ _, fun b hb => by simp [Value.ownBlock] at hb, Nat.zero_le _, h⟩
theorem Got.two {W w1 w2 : World} {n : Nat} {g h : Value} {M : List K} (h1 : OwnK w1 W.heap.size g M) (hb : Below W.heap.size W w1) (h2 : OwnK w2 w1.heap.size h M) (hb2 : Below w1.heap.size w1 w2) (hl : M.length ≤ n) : Got W w2 n g h M :=
  ⟨h1.kept hb2, h2.mono hb.size, fun b hb1 hb3 => by have e1 := (h1.lt b hb1).2; have e2 := (h2.lt b hb3).1; omega, hl, hb.trans (hb2.mono hb.size)⟩
theorem own_lst {w : World} {base : Nat} {v : Value} {L : List K} (h : OwnK w base v L) : ∃ a n c, v = .slice a n c := by
  obtain ⟨a, c, e, _⟩ := own_shape h
  exact ⟨a, _, c, e⟩
theorem step_append_rows {w : World} {ops : Array Oper} {o : Oper} {a : Act} {K' : Act → World → Prop} {Q : Exit → Act → World → Prop} {E : Prop} (hgd : o.guard = none) (s x : Operand)
    (ho : o.op = .call { callee := .builtin .append, args := #[s, x], argTypes := #[23, 23] }) (base : Nat) (v : Value) (xs : List Value) (hs : a.eval s = v) (hown : OwnR w base v xs)
    (B : Nat) (y : Value) (hx : a.eval x = .slice (some ⟨B, 0, none⟩) 1 1) (hy : w.cell? ⟨B, 0, none⟩ = some y) (h1 : y.oneCell' = true) (hlen : (xs.length + 1) * 24 ≤ 140737488355328) (hbase : base ≤ w.heap.size)
    (h : ∀ v' w', OwnR w' base v' (xs ++ [y]) → w.grownBy w' v.ownBlock → (v'.ownBlock = v.ownBlock ∨ v'.ownBlock = some w.heap.size) → K' (a.put o.dst v') w') :
    if Region.wanted o (yielded ops a.tmps) = true then Oper.wp Try.prog o a w K' Q else E := by
  have hw : Region.wanted o (yielded ops a.tmps) = true := by simp [Region.wanted, hgd]
  rw [if_pos hw]
  obtain ⟨v', w', hr, h2, h3, h4⟩ := run_append_rows o.type base v xs hown B y hy h1 hlen hbase
  unfold Oper.wp execOp
  simp only [ho, resolve, invoke, builtin, Sem.run_bind, Sem.run_pure, Result.andThen_ok, List.map_toArray, List.map_cons, List.map_nil, hs, hx, hr]
  exact h v' w' h2 h3 h4

/-- the answers of the calls on lists -/
def resS (A : List K) : List K := if A.all isKey = true then sortK A else []
def codeS (A : List K) : Int := if A.all isKey = true then 0 else 20
open Classical in
noncomputable def resU (A B : List K) : List K := if Rise A ∧ Rise B then sortK (A ++ B) else []
open Classical in
noncomputable def resM (A B : List K) : List K := if Rise A ∧ Rise B then A.filter (fun k => decide (k ∈ B)) else []
open Classical in
noncomputable def resD (A B : List K) : List K := if Rise A ∧ Rise B then A.filter (fun k => !decide (k ∈ B)) else []
open Classical in
noncomputable def codeU (A B : List K) : Int := if Rise A ∧ Rise B then 0 else 22
theorem resS_len (A : List K) : (resS A).length ≤ A.length := by unfold resS; split; exact sortK_length A; simp
theorem resU_len (A B : List K) : (resU A B).length ≤ A.length + B.length := by unfold resU; split; (have := sortK_length (A ++ B); rwa [List.length_append] at this); simp
theorem resM_len (A B : List K) : (resM A B).length ≤ A.length := by unfold resM; split; exact List.length_filter_le _ _; simp
theorem resD_len (A B : List K) : (resD A B).length ≤ A.length := by unfold resD; split; exact List.length_filter_le _ _; simp
theorem sort_r (w : World) (ao : Option Addr) (n cap : Nat) (A : List K) (h : Lst w ao n cap A) (hf : Flat ao) (hm : n * 16 ≤ 140737488355328) :
    Calls Try.prog 9 #[.slice ao n cap] w fun e w' => ∃ a n c, e = .returned (.tuple #[.slice a n c, .int .i64 (codeS A)]) ∧ Hid (OwnK w' w.heap.size (.slice a n c) (resS A)) ∧ Below w.heap.size w w' :=
  (sort_any w ao cap n A h.len h.at_ hf hm).mono fun e w' ⟨h1, h2⟩ => by
    rcases h1 with ⟨h3, v, rfl, h4⟩ | ⟨h3, rfl⟩
    · obtain ⟨a, n, c, rfl⟩ := own_lst h4
      exact ⟨a, n, c, by unfold codeS; rw [if_pos h3], by unfold resS; rw [if_pos h3]; exact h4, h2⟩
    · exact ⟨none, 0, 0, by unfold codeS; rw [if_neg (by rw [h3]; decide)], by unfold resS; rw [if_neg (by rw [h3]; decide)]; exact OwnK.nil _ _, h2⟩
theorem refSort_r (w : World) (ao : Option Addr) (n cap : Nat) (A : List K) (h : Lst w ao n cap A) (hm : n * 16 ≤ 140737488355328) :
    Calls Try.prog 27 #[.slice ao n cap] w fun e w' => ∃ a n c, e = .returned (.tuple #[.slice a n c, .int .i64 (codeS A)]) ∧ Hid (OwnK w' w.heap.size (.slice a n c) (resS A)) ∧ Below w.heap.size w w' :=
  (refSort_any w ao cap n A h.len h.at_ hm).mono fun e w' ⟨h1, h2⟩ => by
    rcases h1 with ⟨h3, a, n, c, rfl, h4⟩ | ⟨h3, rfl⟩
    · exact ⟨a, n, c, by unfold codeS; rw [if_pos h3], by unfold resS; rw [if_pos h3]; exact h4, h2⟩
    · exact ⟨none, 0, 0, by unfold codeS; rw [if_neg (by rw [h3]; decide)], by unfold resS; rw [if_neg (by rw [h3]; decide)]; exact OwnK.nil _ _, h2⟩
theorem union_r (w : World) (ao bo : Option Addr) (n m ca cb : Nat) (A B : List K) (hA : Lst w ao n ca A) (hB : Lst w bo m cb B) (_ : Flat ao) (hm : (n + m) * 16 ≤ 140737488355328) :
    Calls Try.prog 30 #[.slice ao n ca, .slice bo m cb] w fun e w' => ∃ a n c, e = .returned (.tuple #[.slice a n c, .int .i64 (codeU A B)]) ∧ Hid (OwnK w' w.heap.size (.slice a n c) (resU A B)) ∧ Below w.heap.size w w' :=
  (union_any w ao bo n m ca cb A B hA.len hB.len hA.at_ hB.at_ hA.cap hB.cap hm).mono fun e w' ⟨h1, h2⟩ => by
    rcases h1 with ⟨h3, h3', v, rfl, h4⟩ | ⟨h3, rfl⟩
    · obtain ⟨a, n, c, rfl⟩ := own_lst h4
      exact ⟨a, n, c, by unfold codeU; rw [if_pos ⟨h3, h3'⟩], by unfold resU; rw [if_pos ⟨h3, h3'⟩]; exact h4, h2⟩
    · exact ⟨none, 0, 0, by unfold codeU; rw [if_neg h3], by unfold resU; rw [if_neg h3]; exact OwnK.nil _ _, h2⟩
theorem refUnion_r (w : World) (ao bo : Option Addr) (n m ca cb : Nat) (A B : List K) (hA : Lst w ao n ca A) (hB : Lst w bo m cb B) (hm : (n + m) * 16 ≤ 140737488355328) :
    Calls Try.prog 31 #[.slice ao n ca, .slice bo m cb] w fun e w' => ∃ a n c, e = .returned (.tuple #[.slice a n c, .int .i64 (codeU A B)]) ∧ Hid (OwnK w' w.heap.size (.slice a n c) (resU A B)) ∧ Below w.heap.size w w' :=
  (refUnion_any w ao bo n m ca cb A B hA hB hm).mono fun e w' ⟨h1, h2⟩ => by
    rcases h1 with ⟨h3, a, n, c, rfl, h4⟩ | ⟨h3, rfl⟩
    · exact ⟨a, n, c, by unfold codeU; rw [if_pos h3], by unfold resU; rw [if_pos h3]; exact h4, h2⟩
    · exact ⟨none, 0, 0, by unfold codeU; rw [if_neg h3], by unfold resU; rw [if_neg h3]; exact OwnK.nil _ _, h2⟩
theorem meet_r (w : World) (ao bo : Option Addr) (n m ca cb : Nat) (A B : List K) (hA : Lst w ao n ca A) (hB : Lst w bo m cb B) (_ : Flat ao) (hm : (n + m) * 16 ≤ 140737488355328) :
    Calls Try.prog 32 #[.slice ao n ca, .slice bo m cb] w fun e w' => ∃ a n c, e = .returned (.tuple #[.slice a n c, .int .i64 (codeU A B)]) ∧ Hid (OwnK w' w.heap.size (.slice a n c) (resM A B)) ∧ Below w.heap.size w w' :=
  (meet_any w ao bo n m ca cb A B hA.len hB.len hA.at_ hB.at_ hA.cap hB.cap hm).mono fun e w' ⟨h1, h2⟩ => by
    rcases h1 with ⟨h3, h3', v, rfl, h4⟩ | ⟨h3, rfl⟩
    · obtain ⟨a, n, c, rfl⟩ := own_lst h4
      exact ⟨a, n, c, by unfold codeU; rw [if_pos ⟨h3, h3'⟩], by unfold resM; rw [if_pos ⟨h3, h3'⟩]; exact h4, h2⟩
    · exact ⟨none, 0, 0, by unfold codeU; rw [if_neg h3], by unfold resM; rw [if_neg h3]; exact OwnK.nil _ _, h2⟩
theorem refMeet_r (w : World) (ao bo : Option Addr) (n m ca cb : Nat) (A B : List K) (hA : Lst w ao n ca A) (hB : Lst w bo m cb B) (hm : (n + m) * 16 ≤ 140737488355328) :
    Calls Try.prog 33 #[.slice ao n ca, .slice bo m cb] w fun e w' => ∃ a n c, e = .returned (.tuple #[.slice a n c, .int .i64 (codeU A B)]) ∧ Hid (OwnK w' w.heap.size (.slice a n c) (resM A B)) ∧ Below w.heap.size w w' :=
  (refMeet_any w ao bo n m ca cb A B hA hB hm).mono fun e w' ⟨h1, h2⟩ => by
    rcases h1 with ⟨h3, a, n, c, rfl, h4⟩ | ⟨h3, rfl⟩
    · exact ⟨a, n, c, by unfold codeU; rw [if_pos h3], by unfold resM; rw [if_pos h3]; exact h4, h2⟩
    · exact ⟨none, 0, 0, by unfold codeU; rw [if_neg h3], by unfold resM; rw [if_neg h3]; exact OwnK.nil _ _, h2⟩
theorem minus_r (w : World) (ao bo : Option Addr) (n m ca cb : Nat) (A B : List K) (hA : Lst w ao n ca A) (hB : Lst w bo m cb B) (_ : Flat ao) (hm : (n + m) * 16 ≤ 140737488355328) :
    Calls Try.prog 34 #[.slice ao n ca, .slice bo m cb] w fun e w' => ∃ a n c, e = .returned (.tuple #[.slice a n c, .int .i64 (codeU A B)]) ∧ Hid (OwnK w' w.heap.size (.slice a n c) (resD A B)) ∧ Below w.heap.size w w' :=
  (minus_any w ao bo n m ca cb A B hA.len hB.len hA.at_ hB.at_ hA.cap hB.cap hm).mono fun e w' ⟨h1, h2⟩ => by
    rcases h1 with ⟨h3, h3', v, rfl, h4⟩ | ⟨h3, rfl⟩
    · obtain ⟨a, n, c, rfl⟩ := own_lst h4
      exact ⟨a, n, c, by unfold codeU; rw [if_pos ⟨h3, h3'⟩], by unfold resD; rw [if_pos ⟨h3, h3'⟩]; exact h4, h2⟩
    · exact ⟨none, 0, 0, by unfold codeU; rw [if_neg h3], by unfold resD; rw [if_neg h3]; exact OwnK.nil _ _, h2⟩
theorem refMinus_r (w : World) (ao bo : Option Addr) (n m ca cb : Nat) (A B : List K) (hA : Lst w ao n ca A) (hB : Lst w bo m cb B) (hm : (n + m) * 16 ≤ 140737488355328) :
    Calls Try.prog 35 #[.slice ao n ca, .slice bo m cb] w fun e w' => ∃ a n c, e = .returned (.tuple #[.slice a n c, .int .i64 (codeU A B)]) ∧ Hid (OwnK w' w.heap.size (.slice a n c) (resD A B)) ∧ Below w.heap.size w w' :=
  (refMinus_any w ao bo n m ca cb A B hA hB hm).mono fun e w' ⟨h1, h2⟩ => by
    rcases h1 with ⟨h3, a, n, c, rfl, h4⟩ | ⟨h3, rfl⟩
    · exact ⟨a, n, c, by unfold codeU; rw [if_pos h3], by unfold resD; rw [if_pos h3]; exact h4, h2⟩
    · exact ⟨none, 0, 0, by unfold codeU; rw [if_neg h3], by unfold resD; rw [if_neg h3]; exact OwnK.nil _ _, h2⟩
theorem Sh.cells {w : World} {base SB : Nat} {X : Xt} {O : Nat → Option Nat} {lv wv : Value} {xs ys : List Value} {Ms : Nat → List K} (h : Sh w base SB X O lv wv xs ys Ms) : w.cell? ⟨SB, 0, none⟩ = some lv ∧ w.cell? ⟨SB, 1, none⟩ = some wv := by
  constructor <;> simp [World.cell?, h.cell]
theorem Sh.lt {w : World} {base SB : Nat} {X : Xt} {O : Nat → Option Nat} {lv wv : Value} {xs ys : List Value} {Ms : Nat → List K} (h : Sh w base SB X O lv wv xs ys Ms) : SB < w.heap.size := (Array.getElem?_eq_some_iff.1 h.cell).1
/-- behind the first back -/
structure St5 (w : World) (base SB : Nat) (X : Xt) (O : Nat → Option Nat) (lv wv : Value) (xs ys : List Value) (Ms : Nat → List K) (W0 W1 W2 W5 : World) (a1 a2 aB : Option Addr) (b0 nB c2 cB nA : Nat) (B : List K) (ob : Array Value) (g h : Value) (MM : List K) : Prop where
  sh : Sh W5 base SB X O lv wv xs ys Ms
  lent : Lent W5 W1.heap.size a2 nB c2 aB B
  lst : Lst W5 aB nB cB B
  box : OBox W5 b0 ob
  got : OwnK W5 W2.heap.size g MM
  want : OwnK W5 W2.heap.size h MM
  bel : Below w.heap.size w W5
  siz : W2.heap.size ≤ W5.heap.size ∧ w.heap.size ≤ W1.heap.size
  fr : ∀ b, w.heap.size ≤ b → O b = none
theorem St5.one {w : World} {base SB : Nat} {X : Xt} {O : Nat → Option Nat} {lv wv : Value} {xs ys : List Value} {Ms : Nat → List K} {W0 W1 W2 W4 W5 : World} {a1 a2 aA aB : Option Addr} {b0 nB c1 c2 cB nA bound : Nat} {A B : List K} {ob : Array Value} {g h : Value} {MM : List K}
    (hS : Sh w base SB X O lv wv xs ys Ms) (hb0 : b0 = w.heap.size) (hB0 : Below w.heap.size w W0) (hB1 : Below W0.heap.size W0 W1) (hT2 : Lent W2 W1.heap.size a2 nB c2 aB B ∧ Below W1.heap.size W1 W2) (hT1 : Lent W2 W0.heap.size a1 nA c1 aA A) (hX : OBox W2 b0 ob) (hLB : Lst W2 aB nB cB B)
    (hE : Got W2 W4 bound g h MM) (hz : W0.heap.size = w.heap.size + 1) (hLw : ∀ a, B ≠ [] → aB = some a → a.block < w.heap.size) (hg : W4.grownBy W5 (a1.map (·.block))) (hL1 : ∀ x, a1 = some x → x.block < W1.heap.size) : St5 w base SB X O lv wv xs ys Ms W0 W1 W2 W5 a1 a2 aB b0 nB c2 cB nA B ob g h MM := by
  have s01 := hB1.size
  have s12 := hT2.2.size
  have sw0 := hB0.size
  have hr : ∀ k, a1.map (·.block) = some k → W0.heap.size ≤ k ∧ k < W1.heap.size := by
    intro k hk
    cases a1 with
    | none => cases hk
    | some x => cases hk; exact ⟨(hT1.lt x rfl).1, hL1 x rfl⟩
  have bw2 : Below w.heap.size w W2 := hB0.trans ((hB1.trans (hT2.2.mono hB1.size)).mono hB0.size)
  have bw4 : Below w.heap.size w W4 := bw2.trans (hE.bel.mono bw2.size)
  refine ⟨(hS.below bw4).grown hg (fun b hb => hS.fresh b (by have := (hr b hb).1; omega)), (hT2.1.kept hE.bel).grown hg (fun x hx e => ?_), (hLB.kept hE.bel).grown hg (fun a h1 h2 e => ?_), (hX.below hE.bel).grown hg (fun e => ?_), hE.got.grown hg (fun b hb e => ?_), hE.want.grown hg (fun b hb e => ?_), bw4.trans (grown_below hg (fun k hk => by have := (hr k hk).1; omega) bw4.size), ⟨Nat.le_trans hE.bel.size hg.size, by omega⟩, hS.fresh⟩
  · have h1 := (hr _ e).2; have h2 := (hT2.1.lt x hx).1; omega
  · have h3 := (hr _ e).1; have h4 := hLw a h1 h2; omega
  · have h3 := (hr _ e).1; omega
  · have h3 := (hr _ e).2; have h4 := (hE.got.lt b hb).1; omega
  · have h3 := (hr _ e).2; have h4 := (hE.want.lt b hb).1; omega
theorem St5.two {w : World} {base SB : Nat} {X : Xt} {O : Nat → Option Nat} {lv wv : Value} {xs ys : List Value} {Ms : Nat → List K} {W0 W1 W2 W5 W6 : World} {a1 a2 aB : Option Addr} {b0 nB c2 cB nA : Nat} {B : List K} {ob : Array Value} {g h : Value} {MM : List K}
    (hs : St5 w base SB X O lv wv xs ys Ms W0 W1 W2 W5 a1 a2 aB b0 nB c2 cB nA B ob g h MM) (hT2 : Lent W2 W1.heap.size a2 nB c2 aB B) (hg : W5.grownBy W6 (a2.map (·.block))) :
    Sh W6 base SB X O lv wv xs ys Ms ∧ OwnK W6 W2.heap.size g MM ∧ OwnK W6 W2.heap.size h MM ∧ Below w.heap.size w W6 ∧ W2.heap.size ≤ W6.heap.size := by
  have hr : ∀ k, a2.map (·.block) = some k → W1.heap.size ≤ k ∧ k < W2.heap.size := by
    intro k hk
    cases a2 with
    | none => cases hk
    | some x => cases hk; exact hT2.lt x rfl
  have h0 := hs.siz
  refine ⟨hs.sh.grown hg (fun b hb => hs.fr b (by have := (hr b hb).1; omega)), hs.got.grown hg (fun b hb e => ?_), hs.want.grown hg (fun b hb e => ?_), hs.bel.trans (grown_below hg (fun k hk => by have := (hr k hk).1; omega) hs.bel.size), Nat.le_trans h0.1 hg.size⟩
  · have h3 := (hr _ e).2; have h4 := (hs.got.lt b hb).1; omega
  · have h3 := (hr _ e).2; have h4 := (hs.want.lt b hb).1; omega

theorem putX_all {w w1 w7 : World} {base SB : Nat} {X : Xt} {O : Nat → Option Nat} {lv wv v g h : Value} {xs ys : List Value} {Ms : Nat → List K} {MM : List K} {S2 : Nat} (hS : Sh w1 base SB X O lv wv xs ys Ms) (hlen : ys.length = xs.length) (hg : OwnK w1 S2 g MM) (hh : OwnK w1 S2 h MM) (hfr : ∀ b, S2 ≤ b → O b = none) (hb2 : base ≤ S2) (hne : ∀ b, g.ownBlock = some b → h.ownBlock ≠ some b) (hbel : Below base w w1)
    (h7 : OwnR w7 base v (xs ++ [g])) (hg7 : w1.grownBy w7 lv.ownBlock) (hat : v.ownBlock = lv.ownBlock ∨ v.ownBlock = some w1.heap.size) :
    (∃ O', Sh (w7.setCell ⟨SB, 0, none⟩ v) base SB X O' v wv (xs ++ [g]) ys (fun j => if j = xs.length then MM else Ms j) ∧ ∀ b, (h.ownBlock = some b ∨ (w7.setCell ⟨SB, 0, none⟩ v).heap.size ≤ b) → O' b = none) ∧ OwnK (w7.setCell ⟨SB, 0, none⟩ v) S2 g MM ∧ OwnK (w7.setCell ⟨SB, 0, none⟩ v) S2 h MM ∧ Below base w (w7.setCell ⟨SB, 0, none⟩ v) := by
  have hn : ∀ (u : Value) (L : List K), OwnK w1 S2 u L → ∀ b, u.ownBlock = some b → O b ≠ some 1 ∧ b ≠ SB := fun u L hu b hb => by
    have h1 := hfr b (hu.lt b hb).1
    exact ⟨by rw [h1]; simp, fun e => by rw [e, hS.sb.2] at h1; cases h1⟩
  obtain ⟨O', h1, h2⟩ := hS.putX (by omega) (hg.mono hb2) (fun b hb => hfr b (hg.lt b hb).1) h7 hg7 hat
  refine ⟨⟨O', h1, fun b hb => ?_⟩, hS.keepX hg7 hg (hn g _ hg), hS.keepX hg7 hh (hn h _ hh), below_set hbel hg7 (fun k hk => (hS.lists.lt k hk).1) (by have := (hS.lists).lt; have := hS.sb.1; have := hS.lt; omega) hS.sb.1⟩
  rcases hb with hb | hb
  · rw [h2 b (hh.lt b hb).2 (fun e => hne b e hb)]; exact hfr b (hh.lt b hb).1
  · exact h1.fresh b hb

theorem own_lst2 {w : World} {base n c : Nat} {a : Option Addr} {L : List K} (h : OwnK w base (.slice a n c) L) : Lst w a n c L := by
  obtain ⟨a', n', c', e, hl, _⟩ := h.lst
  cases e; exact hl
theorem putY_all {w W7 w8 w9 : World} {base SB S2 : Nat} {X : Xt} {O : Nat → Option Nat} {lv wv v g h e : Value} {o : Obj} {xs ys : List Value} {Ms : Nat → List K} {MM : List K} (hlen : ys.length = xs.length) (hS : Sh W7 base SB X O lv wv (xs ++ [g]) ys (fun j => if j = xs.length then MM else Ms j))
    (hfr : ∀ b, (h.ownBlock = some b ∨ W7.heap.size ≤ b) → O b = none) (hg : OwnK W7 S2 g MM) (hh : OwnK W7 S2 h MM) (hbel : Below base w W7) (hb7 : base ≤ W7.heap.size) (hb8 : Below W7.heap.size W7 w8) (ho : OwnK w8 W7.heap.size e MM)
    (h9 : OwnR w9 base v (ys ++ [e])) (hg9 : (w8.alloc o).grownBy w9 wv.ownBlock) (hat : v.ownBlock = wv.ownBlock ∨ v.ownBlock = some (w8.alloc o).heap.size) :
    ∃ O' v9 e9, Sh (w9.setCell ⟨SB, 1, none⟩ v) base SB X O' lv v9 (xs ++ [g]) (ys ++ [e9]) (fun j => if j = xs.length then MM else Ms j) ∧ OwnK (w9.setCell ⟨SB, 1, none⟩ v) S2 g MM ∧ OwnK (w9.setCell ⟨SB, 1, none⟩ v) S2 h MM ∧ Below base w (w9.setCell ⟨SB, 1, none⟩ v) := by
  have hba : Below W7.heap.size W7 (w8.alloc o) := hb8.trans ((below_alloc w8 o).mono hb8.size)
  have hS1 := hS.below hba
  have hgl : ∀ b, g.ownBlock = some b → O b ≠ some 2 ∧ b ≠ SB := fun b hb => by
    have h1 := (hS.x xs.length g (by simp)).2 b hb
    exact ⟨by rw [h1]; intro e; have := Option.some.inj e; omega, fun e => by rw [e, hS.sb.2] at h1; have := Option.some.inj h1; omega⟩
  have hhl : ∀ b, h.ownBlock = some b → O b ≠ some 2 ∧ b ≠ SB := fun b hb => by
    have h1 := hfr b (.inl hb)
    exact ⟨by rw [h1]; simp, fun e => by rw [e, hS.sb.2] at h1; cases h1⟩
  obtain ⟨O', h1, _⟩ := hS1.putY (e := e) (by rw [if_pos hlen]; exact (ho.mono hb7).alloc o) (fun b hb => hfr b (.inr (ho.lt b hb).1)) h9 hg9 hat
  exact ⟨O', v, e, h1, hS1.keepY hg9 (hg.kept hba) hgl, hS1.keepY hg9 (hh.kept hba) hhl, below_set (hbel.trans (hba.mono hb7)) hg9 (fun k hk => (hS1.want.lt k hk).1) (Nat.le_trans hb7 hba.size) hS.sb.1⟩

/-- THE CONTRACT OF ask, at one kind of call -/
def AskOK (kind : Int) : Prop := ∀ (w : World) (base SB : Nat) (X : Xt) (O : Nat → Option Nat) (lv wv : Value) (xs ys : List Value) (Ms : Nat → List K) (t r parts : Int) (aA aB : Option Addr) (nA cA nB cB : Nat) (A B : List K),
    Sh w base SB X O lv wv xs ys Ms → ys.length = xs.length → Lst w aA nA cA A → Lst w aB nB cB B → nA + nB ≤ 2097152 → xs.length ≤ 1073741824 → base ≤ w.heap.size →
    Calls Try.prog 15 #[.pointer (some ⟨SB, 0, none⟩), .agg #[.int .i64 kind, .slice aA nA cA, .slice aB nB cB, .int .i64 t, .int .i64 r, .int .i64 parts]] w fun e w' => e = .returned (.bool true) ∧
      Hid (∃ O' lv' wv' xs' ys' Ms', Sh w' base SB X O' lv' wv' xs' ys' Ms' ∧ ys'.length = xs'.length ∧ (∃ g, xs' = xs ++ [g]) ∧ ∃ M : List K, M.length ≤ nA + nB ∧ ∀ j, Ms' j = if j = xs.length then M else Ms j) ∧ Below base w w'

end Go.Proofs.Ytnjgaibcpcpmcab
