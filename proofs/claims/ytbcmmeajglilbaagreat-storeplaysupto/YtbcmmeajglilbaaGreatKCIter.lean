import Derived.Test.YtbcmmeajglilbaaGreatKSpFil
import Derived.Test.YtbcmmeajglilbaaGreatKKMath
import Derived.Test.YtbcmmeajglilbaaGreatKSpBel
import Derived.Test.YtbcmmeajglilbaaGreatKSMath
import Derived.Test.YtbcmmeajglilbaaGreatKSpMath
import Derived.Shelf.GgSortFunc.RowK
import Derived.Laws.IdiomCopy
import Derived.Laws.OwnMore
import Derived.Shelf.SlLaysE0
import Derived.Shelf.SlLaysF0
import Derived.Shelf.SlicesE.Clone
import Derived.Shelf.SlSortCmp.NoneTotal
import Derived.Test.YtbcmmeajglilbaaGreatProg
/-
  THE ITERATOR OF Each.
-/
namespace Go.Proofs.YtbcmmeajglilbaaGreat
open Go.RowKit Go.Sort Go.Shelf

attribute [local go_sem] Oper.semAt_some

/-- what has come when k rounds are over -/
def upto {α : Type} (f : Nat → α) (k : Nat) : List α := (List.range k).map f
theorem upto_succ {α : Type} (f : Nat → α) (k : Nat) : upto f (k + 1) = upto f k ++ [f k] := by simp [upto, List.range_succ]
theorem upto_length {α : Type} (f : Nat → α) (k : Nat) : (upto f k).length = k := by simp [upto]
/-- a key and a value -/
abbrev PX := { x : K × Nat // KIn x.1 ∧ True }
abbrev encPX (x : PX) : Array Value := #[.agg #[.int .i64 x.1.1.1, .int .i64 x.1.1.2], ptr x.1.2]
def px0 : PX := ⟨((0, 0), 0), by refine ⟨⟨⟨?_, ?_⟩, ⟨?_, ?_⟩⟩, trivial⟩ <;> simp⟩
/-- the j-th pair -/
noncomputable def pd (l : List En) (hl : ∀ e ∈ l, KIn e.k ∧ True) (j : Nat) : PX := if h : j < l.length then ⟨(l[j].k, l[j].v), hl _ (List.getElem_mem h)⟩ else px0
theorem pd_at {l : List En} (hl : ∀ e ∈ l, KIn e.k ∧ True) {j : Nat} (h : j < l.length) : (pd l hl j).1 = (l[j].k, l[j].v) := by unfold pd; rw [dif_pos h]
theorem cps_length (l : List En) : (cps l).length = l.length * 3 := by
  induction l with
  | nil => rfl
  | cons e l ih => simp only [cps, List.length_cons, ih]; omega
theorem cps_at (l : List En) (j : Nat) (h : j < l.length) : (cps l)[j * 3]? = some (.int .i64 l[j].k.1) ∧ (cps l)[j * 3 + 1]? = some (.int .i64 l[j].k.2) ∧ (cps l)[j * 3 + 2]? = some (ptr l[j].v) := by
  induction l generalizing j with
  | nil => simp at h
  | cons e l ih =>
    cases j with
    | zero => simp [cps]
    | succ j =>
      have := ih j (by simp at h; omega)
      rw [show (j + 1) * 3 = j * 3 + 1 + 1 + 1 by omega]
      simpa [cps] using this
/-- the iterator's list, as it stays -/
structure IL (w : World) (B g : Nat) (l : List En) : Prop where
  box : w.heap[B]? = some (.cells #[.slice (some ⟨g, 0, none⟩) l.length l.length] TPs (0, 0))
  at_ : ∀ j u, (cps l)[j]? = some u → w.cell? ⟨g, j, none⟩ = some u
  gl : g < w.heap.size
theorem EL.il {w wr : World} {B g : Nat} {l : List En} (h : EL w wr B g l.length l.length l) : IL wr B g l := by
  refine ⟨h.box, ?_, (h.row.lt g rfl).2⟩
  have hr := h.row
  rw [List.take_length] at hr
  rcases hr.2 with ⟨h0, _⟩ | ⟨g', cap, cur, hv, _, hg, _, _, _, htk⟩
  · cases h0
  · cases hv
    intro j u hu
    rw [World.cell?, hg]
    show cur[j]? = some u
    rw [← htk, List.getElem?_take] at hu
    split at hu
    · simpa using hu
    · cases hu
/-- blocks B and g stay -/
def KBG (B g : Nat) (W W' : World) : Prop := W.heap.size ≤ W'.heap.size ∧ W'.heap[B]? = W.heap[B]? ∧ W'.heap[g]? = W.heap[g]?
theorem KBG.refl (B g : Nat) (W : World) : KBG B g W W := ⟨Nat.le_refl _, rfl, rfl⟩
theorem KBG.trans {B g : Nat} {X Y Z : World} (h : KBG B g X Y) (k : KBG B g Y Z) : KBG B g X Z := ⟨Nat.le_trans h.1 k.1, k.2.1.trans h.2.1, k.2.2.trans h.2.2⟩
theorem KBG.grown {B g : Nat} {W W' : World} {row : Option Nat} (hg : W.grownBy W' row) (h1 : B < W.heap.size) (h2 : g < W.heap.size) (n1 : some B ≠ row) (n2 : some g ≠ row) : KBG B g W W' := ⟨hg.size, hg.block B h1 n1, hg.block g h2 n2⟩
theorem KBG.alloc {B g : Nat} {W : World} (h1 : B < W.heap.size) (h2 : g < W.heap.size) (o : Obj) : KBG B g W (W.alloc o) := KBG.grown (World.grownBy_alloc W o none) h1 h2 (by simp) (by simp)
theorem KBG.below {B g : Nat} {W W' : World} (h : Below W.heap.size W W') (h1 : B < W.heap.size) (h2 : g < W.heap.size) : KBG B g W W' := ⟨h.size, h.block B h1, h.block g h2⟩
theorem KBG.put {B g : Nat} {w : World} (h1 : B < w.heap.size) (h2 : g < w.heap.size) (W : World) (l : Nat) (o o' : Obj) (hl : w.heap.size ≤ l) (_ : W.heap[l]? = some o) (_ : o.isCells = false) (_ : o.isWalk = false) : KBG B g W (W.putObj l o') :=
  ⟨by simp, World.putObj_heap_other (by omega), World.putObj_heap_other (by omega)⟩
theorem KBG.lt {B g : Nat} {W W' : World} (h : KBG B g W W') {k : Nat} (hk : k < W.heap.size) : k < W'.heap.size := Nat.lt_of_lt_of_le hk h.1
theorem IL.kbg {w w' : World} {B g : Nat} {l : List En} (h : IL w B g l) (hb : KBG B g w w') : IL w' B g l :=
  ⟨hb.2.1.trans h.box, fun j u hu => by
    have h1 := h.at_ j u hu
    unfold World.cell? at h1 ⊢
    simp only at h1 ⊢
    rw [hb.2.2]
    exact h1, Nat.lt_of_lt_of_le h.gl hb.1⟩
theorem IL.below {w w' : World} {B g n : Nat} {l : List En} (h : IL w B g l) (hb : Below n w w') (hB : B < n) (hg : g < n) : IL w' B g l :=
  ⟨(hb.block B hB).trans h.box, fun j u hu => (hb.cell (p := ⟨g, j, none⟩) hg).trans (h.at_ j u hu), Nat.lt_of_lt_of_le h.gl hb.size⟩

set_option maxRecDepth 100000 in
set_option maxHeartbeats 4000000 in
theorem each1_in (F : Fence) (n : Nat) (hf : F.fn 81) (hro : F.round = none) (hn : 1 ≤ n) (ly B g m : Nat) (l : List En) (hl : ∀ e ∈ l, KIn e.k ∧ True) (hml : m = l.length) (hm : m * 16 ≤ 140737488355328) (J Jx : List PX → World → Prop)
    (hY : ∀ pre x W, J pre W → pre.length < m → YieldAt F (n - 1) Tryz.prog ly (encPX x) W fun e W' =>
      (e = .returned (.bool true) ∧ J (pre ++ [x]) W' ∧ KBG B g W W') ∨ (e = .returned (.bool false) ∧ Jx (pre ++ [x]) W'))
    (W : World) (hJ : AbidesFrom W.heap.size J) (hI : IL W B g l) (h0 : J [] W) :
    CallsIn F n Tryz.prog 81 #[.func (.yield ly) #[] #[], ptr B] W fun e W' => (∃ v, e = .returned v) ∧
      ((∃ ys, ys = upto (pd l hl) m ∧ J ys W') ∨ (∃ pre, (∃ k, k ≤ m ∧ pre = upto (pd l hl) k) ∧ Jx pre W')) := by
  have HI : Hid (∀ W', KBG B g W W' → IL W' B g l) := fun W' hW => hI.kbg hW
  have hBs : W.cell? ⟨B, 0, none⟩ = some (.slice (some ⟨g, 0, none⟩) m m) := by rw [World.cell?, hI.box, hml]; rfl
  have HM : Hid (m = l.length) := hml
  clear hI hml
  refine callsIn_of_wp Tryz.func81 rfl hf ?_ hro
  simp only [Tryz.ntmps81, List.size_toArray, List.length_cons, List.length_nil, Nat.reduceAdd, Nat.reduceSub, Array.replicate_succ, Array.replicate_zero, List.push_toArray, List.append_toArray, List.nil_append, List.cons_append]
  gi_wp2
  gi_loopw [7] (fun i wr => ∃ k : Nat, k ≤ m ∧ i = .int .i64 k ∧ J (upto (pd l hl) k) wr ∧ KBG B g W wr ∧ W.heap.size ≤ wr.heap.size)
    (fun i _ => m - (intOf i).toNat)
  case atStart => exact ⟨0, Nat.zero_le _, rfl, h0, KBG.refl _ _ _, Nat.le_refl _⟩
  case round =>
    obtain ⟨k, hk, rfl, hJs, hnx, hsz⟩ := hrel
    by_cases hlt : k < m
    · have hkl : k < l.length := by have := HM.out; omega
      obtain ⟨c1, c2, c3⟩ := cps_at l k hkl
      have a1 := (HI.out wr hnx).at_ _ _ c1
      have a2 := (HI.out wr hnx).at_ _ _ c2
      have a3 := (HI.out wr hnx).at_ _ _ c3
      have HX : Hid ((pd l hl k).1 = (l[k].k, l[k].v)) := pd_at hl hkl
      have e1 : l[k].k.1 = (pd l hl k).1.1.1 := by rw [HX.out]
      have e2 : l[k].k.2 = (pd l hl k).1.1.2 := by rw [HX.out]
      have e3 : l[k].v = (pd l hl k).1.2 := by rw [HX.out]
      rw [e1] at a1
      rw [e2] at a2
      rw [e3] at a3
      clear c1 c2 c3 e1 e2 e3
      have hJ2 : J (upto (pd l hl) k) (wr.alloc (.cells #[.int .i64 (pd l hl k).1.1.1, .int .i64 (pd l hl k).1.1.2, ptr (pd l hl k).1.2] TP)) := hJ _ _ _ none hJs (World.grownBy_alloc wr _ none) (fun r e => by cases e)
      have hb2 : KBG B g wr (wr.alloc (.cells #[.int .i64 (pd l hl k).1.1.1, .int .i64 (pd l hl k).1.1.2, ptr (pd l hl k).1.2] TP)) := KBG.alloc (blk_lt (HI.out wr hnx).box) (HI.out wr hnx).gl _
      obtain ⟨fn, tmps, assign, body, hy, hR⟩ := hY _ (pd l hl k) _ hJ2 (by rw [upto_length]; exact hlt)
      simp only [encPX] at hy
      gi_wp2
      refine hR.mono ?_
      rintro e W3 (⟨rfl, hJ3, hk3⟩ | ⟨rfl, hJx3⟩)
      · have hs3 := hk3.1
        gi_wp2
        go_roundw
        case rel => exact ⟨k + 1, by omega, by go_num, by rw [upto_succ]; exact hJ3, hnx.trans (hb2.trans hk3), by simp at hs3; omega⟩
        case measure => simp [intOf]; omega
      · gi_wp2
        refine bodyPost_ret (results_none rfl _ _ _) rfl ?_
        exact ⟨⟨_, rfl⟩, .inr ⟨_, ⟨k + 1, by omega, (upto_succ _ _).symm⟩, hJx3⟩⟩
    · obtain rfl : k = m := by omega
      gi_wp2
      go_end0
      exact ⟨⟨_, rfl⟩, .inl ⟨_, rfl, hJs⟩⟩

/-- Each hands back a value that goes over the list -/
theorem each_stops (F : Fence) (n : Nat) (hf : F.fn 81) (hro : F.round = none) (hn : 1 ≤ n) (B g m : Nat) (l : List En) (hl : ∀ e ∈ l, KIn e.k ∧ True) (hml : m = l.length) (hm : m * 16 ≤ 140737488355328) (w : World) (hI : IL w B g l) :
    SeqStopsK F n Tryz.prog 81 #[ptr B] encPX (KBG B g) (fun ys => ys = upto (pd l hl) m) (fun pre => ∃ k, k ≤ m ∧ pre = upto (pd l hl) k) m w := fun ly J Jx W hW hJ _ hY h0 =>
  each1_in F n hf hro hn ly B g m l hl hml hm J Jx hY W hJ (hI.below (n := w.heap.size) hW (blk_lt hI.box) hI.gl) h0
end Go.Proofs.YtbcmmeajglilbaaGreat
/-
  THE WALK OF sound.
-/
namespace Go.Proofs.YtbcmmeajglilbaaGreat
open Go.RowKit Go.Sort

theorem all_take (L : List K) (k : Nat) (h : (L.take k).all isKey = true) (hk : k < L.length) (h2 : isKey (kd L k) = true) : (L.take (k + 1)).all isKey = true := by
  rw [take_kd L k hk, List.all_append, h]; simp [h2]
theorem all_false {L : List K} {k : Nat} (hk : k < L.length) (h : isKey (kd L k) = false) : L.all isKey = false := by
  rw [List.all_eq_false]
  exact ⟨kd L k, kd_mem hk, by rw [h]; decide⟩


end Go.Proofs.YtbcmmeajglilbaaGreat
/-
  THE WALK OF Rises.
-/
namespace Go.Proofs.YtbcmmeajglilbaaGreat
open Go.RowKit Go.Sort

theorem rise_not_key {L : List K} {k : Nat} (hk : k < L.length) (h : isKey (kd L k) = false) : ¬ Rise L := fun hr => by
  have := hr.1 _ (kd_mem hk)
  rw [h] at this; cases this
theorem rise_pair {L : List K} {i j : Nat} (hij : i < j) (hj : j < L.length) (hr : Rise L) : lt (kd L i) (kd L j) = true := by
  have hi : i < L.length := by omega
  have h := (List.pairwise_iff_getElem.1 hr.2) i j hi hj hij
  have e1 := kd_get hi
  have e2 := kd_get hj
  rw [List.getElem?_eq_getElem hi] at e1
  rw [List.getElem?_eq_getElem hj] at e2
  rw [← Option.some.inj e1, ← Option.some.inj e2]
  exact h
theorem rise_next {L : List K} {k : Nat} (hk : k < L.length) (hr : Rise (L.take k)) (hi : isKey (kd L k) = true) (h : ∀ j, j + 1 = k → lt (kd L j) (kd L k) = true) : Rise (L.take (k + 1)) := by
  rw [take_kd L k hk]
  refine rise_snoc hr hi fun i y hil hy => ?_
  have hlen : (L.take k).length = k := by simp; omega
  rw [hlen] at hil
  have h1 := h i hil
  rw [List.getElem?_take, if_pos (by omega)] at hy
  rw [kd_get (by omega)] at hy
  rw [← Option.some.inj hy]; exact h1

end Go.Proofs.YtbcmmeajglilbaaGreat
/-
  A ROW OF KEYS OF THE CALL's OWN, WRITTEN INTO; slices.Compact AT []api.Key.
-/
namespace Go.Proofs.YtbcmmeajglilbaaGreat
open Go.RowKit Go.Sort

theorem cks_set (M : List K) (i : Nat) (k : K) (h : i < M.length) : cks (M.set i k) = ((cks M).set (i * 2) (.int .i64 k.1)).set (i * 2 + 1) (.int .i64 k.2) := by
  induction M generalizing i with
  | nil => simp at h
  | cons m M ih =>
    cases i with
    | zero => simp [cks]
    | succ i =>
      have := ih i (by simp at h; omega)
      rw [List.set_cons_succ, show (i + 1) * 2 = i * 2 + 1 + 1 by omega]
      simp only [cks, List.set_cons_succ]
      rw [this]
theorem cks_take (M : List K) (m : Nat) : cks (M.take m) = (cks M).take (m * 2) := by
  induction M generalizing m with
  | nil => simp [cks]
  | cons k M ih =>
    cases m with
    | zero => simp [cks]
    | succ m =>
      rw [show (m + 1) * 2 = m * 2 + 1 + 1 by omega]
      simp only [cks, List.take_succ_cons, ih]
theorem kd_set (M : List K) (i j : Nat) (k : K) (h : i < M.length) : kd (M.set i k) j = if i = j then k else kd M j := by
  unfold kd
  rw [List.getD_eq_getElem?_getD, List.getD_eq_getElem?_getD, List.getElem?_set]
  by_cases hij : i = j
  · subst hij; rw [if_pos rfl, if_pos h, if_pos rfl]; rfl
  · rw [if_neg hij, if_neg hij]

abbrev own (g n cap : Nat) : Value := .slice (some ⟨g, 0, none⟩) n cap
theorem OwnK.len {w : World} {base g n cap : Nat} {M : List K} (h : OwnK w base (own g n cap) M) : n = M.length ∧ n ≤ cap ∧ cap ≤ maxLen := by
  rcases h.shape with ⟨e, _⟩ | ⟨g', c', e, _, _, h1, h2, _⟩
  · cases e
  · cases e; exact ⟨rfl, h1, h2⟩
theorem OwnK.at {w : World} {base g n cap : Nat} {M : List K} (h : OwnK w base (own g n cap) M) (i : Nat) (hi : i < n) :
    w.cell? ⟨g, i * 2, none⟩ = some (.int .i64 (kd M i).1) ∧ w.cell? ⟨g, i * 2 + 1, none⟩ = some (.int .i64 (kd M i).2) := by
  obtain ⟨hn, _⟩ := h.len
  rcases h.shape with ⟨e, _⟩ | ⟨g', c', e, _, _, _, _, hk⟩
  · cases e
  · cases e
    rcases hk with h0 | ⟨b, off, e, hc⟩
    · rw [h0] at hi; simp at hi
    · cases e
      have := KeysAt.at hc i hi
      simpa using this
theorem OwnK.frozen {w : World} {base g n cap : Nat} {M : List K} (h : OwnK w base (own g n cap) M) (j : Nat) : w.frozen? ⟨g, j, none⟩ = false := by
  obtain ⟨rfl, _⟩ := h.len
  exact World.ownsRow.frozenAt h j
theorem OwnK.set {w : World} {base g n cap : Nat} {M : List K} (h : OwnK w base (own g n cap) M) (i : Nat) (hi : i < n) (x y : Int) :
    OwnK ((w.setCell ⟨g, i * 2, none⟩ (.int .i64 x)).setCell ⟨g, i * 2 + 1, none⟩ (.int .i64 y)) base (own g n cap) (M.set i (x, y)) ∧ w.grownBy ((w.setCell ⟨g, i * 2, none⟩ (.int .i64 x)).setCell ⟨g, i * 2 + 1, none⟩ (.int .i64 y)) (some g) := by
  obtain ⟨rfl, _⟩ := h.len
  obtain ⟨h1, h2⟩ := World.ownsRow.stored h (i * 2) (.int .i64 x)
  obtain ⟨h3, h4⟩ := World.ownsRow.stored h1 (i * 2 + 1) (.int .i64 y)
  refine ⟨?_, ⟨h4.os.trans h2.os, h4.tape.trans h2.tape, h4.output.trans h2.output, Nat.le_trans h2.size h4.size, fun k hk hne => (h4.block k (Nat.lt_of_lt_of_le hk h2.size) hne).trans (h2.block k hk hne)⟩⟩
  unfold OwnK
  rw [List.length_set, cks_set M i (x, y) hi]
  exact h3
theorem OwnK.prefix {w : World} {base g n cap : Nat} {M : List K} (h : OwnK w base (own g n cap) M) (m : Nat) (hm : m ≤ n) : OwnK w base (own g m cap) (M.take m) := by
  obtain ⟨rfl, _⟩ := h.len
  obtain ⟨hl, h⟩ := h
  rcases h with ⟨e, _⟩ | ⟨g', c', cur, e, hb, hg, hnc, hcm, hs, ht⟩
  · cases e
  · cases e
    have hlen : (M.take m).length = m := by simp; omega
    unfold OwnK
    rw [hlen]
    refine ⟨by rw [cks_length, hlen], .inr ⟨g, cap, cur, rfl, hb, hg, by omega, hcm, hs, ?_⟩⟩
    rw [cks_take, ← ht, List.take_take]
    congr 1
    omega
/-- cells written behind the m-th -/
theorem ownsRow_setCells {base : Nat} {e : TypeId} {size g n cap : Nat} : ∀ (vs : List Value) (o : Nat) (w : World) (xs : List Value), w.ownsRow base e size (.slice (some ⟨g, 0, none⟩) n cap) n xs →
    ∃ xs', (w.setCells g o vs).ownsRow base e size (.slice (some ⟨g, 0, none⟩) n cap) n xs' ∧ xs'.take o = xs.take o ∧ w.grownBy (w.setCells g o vs) (some g)
  | [], o, w, xs, h => ⟨xs, h, rfl, World.grownBy.refl _ _⟩
  | v :: vs, o, w, xs, h => by
    obtain ⟨h1, h2⟩ := World.ownsRow.stored h o v
    obtain ⟨xs', h3, h4, h5⟩ := ownsRow_setCells vs (o + 1) (w.setCell ⟨g, o, none⟩ v) _ h1
    refine ⟨xs', h3, ?_, ⟨h5.os.trans h2.os, h5.tape.trans h2.tape, h5.output.trans h2.output, Nat.le_trans h2.size h5.size, fun k hk hne => (h5.block k (Nat.lt_of_lt_of_le hk h2.size) hne).trans (h2.block k hk hne)⟩⟩
    have := congrArg (List.take o) h4
    rw [List.take_take, List.take_take, Nat.min_eq_left (by omega), List.take_set_of_le (by omega)] at this
    exact this
theorem OwnK.cleared {w : World} {base g n cap : Nat} {M : List K} (h : OwnK w base (own g n cap) M) (m : Nat) (hm : m ≤ n) (vs : List Value) :
    OwnK (w.setCells g (m * 2) vs) base (own g m cap) (M.take m) ∧ w.grownBy (w.setCells g (m * 2) vs) (some g) := by
  obtain ⟨rfl, _⟩ := h.len
  obtain ⟨xs', h1, h2, h3⟩ := ownsRow_setCells vs (m * 2) w _ h
  refine ⟨?_, h3⟩
  obtain ⟨hl, h⟩ := h1
  rcases h with ⟨e, _⟩ | ⟨g', c', cur, e, hb, hg, hnc, hcm, hs, ht⟩
  · cases e
  · cases e
    have hlen : (M.take m).length = m := by simp; omega
    unfold OwnK
    rw [hlen]
    refine ⟨by rw [cks_length, hlen], .inr ⟨g, cap, cur, rfl, hb, hg, by omega, hcm, hs, ?_⟩⟩
    rw [cks_take, ← h2, ← ht, List.take_take]
    congr 1
    omega
/-- clear -/
theorem run_clear_keys (w : World) (ty : TypeId) (b o n c : Nat) (hn : 0 < n) (hc : ∀ j, j < n * 2 → (w.cell? ⟨b, o + j, none⟩).isSome = true) (hf : ∀ j, j < n * 2 → w.frozen? ⟨b, o + j, none⟩ = false) :
    ∃ vs, (Builtin.clear_ #[85] ty #[.slice (some ⟨b, o, none⟩) n c]).run Tryz.prog w = .ok (.tuple #[]) (w.setCells b o vs) := by
  have hz : ∀ w, (zeroValue 41).run Tryz.prog w = .ok (.agg #[.int .i64 0, .int .i64 0]) w := Tryz.zeroValue41
  have hst := run_storeCells_cells (P := Tryz.prog) b o (Builtin.zeroCells #[.int .i64 0, .int .i64 0] n).toList 0 w (by simpa [Builtin.zeroCells] using hc) (by simpa [Builtin.zeroCells] using hf) (by
    intro v hv
    simp only [Builtin.zeroCells, Array.toList_map, List.mem_map] at hv
    obtain ⟨i, _, rfl⟩ := hv
    have : i % 2 = 0 ∨ i % 2 = 1 := by omega
    rcases this with h | h <;> simp [h] <;> rfl)
  simp only [Nat.add_zero] at hst
  obtain ⟨m, rfl⟩ : ∃ m, n = m + 1 := ⟨n - 1, by omega⟩
  exact ⟨_, by simp [Builtin.clear_, run_underlying Tryz.underlying85, hz, Value.cells, hst]; rfl⟩

/-- the same members -/
def SameMem (A B : List K) : Prop := ∀ x, x ∈ A ↔ x ∈ B
/-- a list that does not fall -/
def Asc (S : List K) : Prop := ∀ i j, i < j → j < S.length → lt (kd S j) (kd S i) = false
/-- what is kept of the first j -/
structure Comp (S : List K) (j : Nat) (C : List K) : Prop where
  rise : Rise C
  mem : ∀ x, x ∈ C ↔ x ∈ S.take j
  last : ∀ i, i + 1 = C.length → kd C i = kd S (j - 1)
theorem Comp.same {S C : List K} {j : Nat} (h : Comp S j C) (hj : 1 ≤ j) (hl : j < S.length) (he : kd S j = kd S (j - 1)) : Comp S (j + 1) C := by
  refine ⟨h.rise, fun x => ?_, fun i hi => by rw [h.last i hi, ← he]; rfl⟩
  rw [h.mem, take_kd S j hl, List.mem_append, List.mem_singleton]
  constructor
  · exact .inl
  · rintro (h1 | h1)
    · exact h1
    · rw [h1, he]
      have h2 : (S.take j)[j - 1]? = some (kd S (j - 1)) := by rw [List.getElem?_take, if_pos (by omega)]; exact kd_get (by omega)
      exact List.mem_of_getElem? h2
theorem Comp.more {S C : List K} {j : Nat} (h : Comp S j C) (hj : 1 ≤ j) (hl : j < S.length) (hs : Asc S) (hk : ∀ x ∈ S, isKey x = true) (he : kd S j ≠ kd S (j - 1)) : Comp S (j + 1) (C ++ [kd S j]) := by
  refine ⟨rise_snoc h.rise (hk _ (kd_mem hl)) fun i y hi hy => ?_, fun x => ?_, fun i hi => ?_⟩
  · have e1 : kd C i = y := by have := kd_get (L := C) (j := i) (by omega); rw [this] at hy; exact Option.some.inj hy
    rw [← e1, h.last i hi]
    have := hs (j - 1) j (by omega) hl
    cases h1 : lt (kd S (j - 1)) (kd S j) with
    | true => rfl
    | false => exact absurd (eq_of_not_lt this h1) he
  · rw [take_kd S j hl, List.mem_append, List.mem_append, h.mem]
  · have hi' : i = C.length := by simp at hi; omega
    subst hi'
    have := kd_right C [kd S j] 0 (by simp)
    rw [Nat.add_zero] at this
    rw [this]; simp [kd]
theorem Comp.start {S : List K} (h : 1 ≤ S.length) (hk : ∀ x ∈ S, isKey x = true) : Comp S 1 (S.take 1) := by
  obtain ⟨a, S, rfl⟩ : ∃ a T, S = a :: T := by cases S with | nil => simp at h | cons a T => exact ⟨a, T, rfl⟩
  refine ⟨⟨by simpa using (hk a (by simp)), by simp⟩, fun x => Iff.rfl, fun i hi => ?_⟩
  simp at hi; subst hi; simp [kd]
theorem Comp.ne {S C : List K} {j : Nat} (h : Comp S j C) (hj : 1 ≤ j) (hl : j ≤ S.length) : 1 ≤ C.length := by
  have h2 : (S.take j)[0]? = some (kd S 0) := by rw [List.getElem?_take, if_pos (by omega)]; exact kd_get (by omega)
  have := (h.mem _).2 (List.mem_of_getElem? h2)
  cases C with | nil => simp at this | cons => simp

set_option maxHeartbeats 4000000 in
set_option maxRecDepth 100000 in
theorem compact_any (w : World) (base g n cap : Nat) (S : List K) (h : OwnK w base (own g n cap) S) (hs : Asc S) (hk : ∀ x ∈ S, isKey x = true) (hm : n ≤ 8796093022208) :
    Calls Tryz.prog 85 #[own g n cap] w fun e w' => ∃ m, e = .returned (own g m cap) ∧ ∃ C, OwnK w' base (own g m cap) C ∧ Rise C ∧ SameMem C S ∧ w.grownBy w' (some g) := by
  have HO : Hid (OwnK w base (own g n cap) S) := h
  have HA : Hid (Asc S) := hs
  have HK : Hid (∀ x ∈ S, isKey x = true) := hk
  have HL : Hid (n = S.length) := h.len.1
  have hnc := h.len.2.1
  have hcm := h.len.2.2
  clear h hs hk
  by_cases h2 : n < 2
  · go_enter Tryz.func85, Tryz.ntmps85
    go_wp2
    go_ret
    refine ⟨n, rfl, S, HO.out, ?_, fun x => Iff.rfl, World.grownBy.refl _ _⟩
    have hL := HL.out
    match S, hL, HK.out with
    | [], _, _ => exact rise_nil
    | [a], _, hk => exact ⟨by simpa using hk a (by simp), by simp⟩
    | a :: b :: S, hL, _ => simp at hL; omega
  · go_enter Tryz.func85, Tryz.ntmps85
    go_wp2_with fail
    go_loopw [3] (fun x wr => ∃ k q : Nat, 1 ≤ k ∧ k ≤ n ∧ x = .int .i64 (k : Int) ∧ wr = w.drewN q ∧ Hid (Comp S k (S.take k))) (fun x _ => n - (intOf x).toNat)
    case atStart => exact ⟨1, 0, Nat.le_refl _, by omega, rfl, rfl, Comp.start (by have := HL.out; omega) HK.out⟩
    case round =>
      obtain ⟨k, q, hk1, hk, rfl, rfl, HC⟩ := hrel
      by_cases hlt : k < n
      · obtain ⟨c1, c2⟩ := HO.out.at k hlt
        obtain ⟨d1, d2⟩ := HO.out.at (k - 1) (by omega)
        have HS1 : Hid (kd S k = kd S (k - 1) → Comp S (k + 1) (S.take k)) := fun he => HC.out.same hk1 (by have := HL.out; omega) he
        have HS2 : Hid (kd S k ≠ kd S (k - 1) → Comp S (k + 1) (S.take (k + 1))) := fun he => by rw [take_kd S k (by have := HL.out; omega)]; exact HC.out.more hk1 (by have := HL.out; omega) HA.out HK.out he
        have hkm : (k : Int) - 1 = ((k - 1 : Nat) : Int) := by omega
        generalize kd S k = kk at *
        generalize kd S (k - 1) = pk at *
        obtain ⟨t, r⟩ := kk
        obtain ⟨u, s⟩ := pk
        simp only at c1 c2 d1 d2
        by_cases he : (t, r) = (u, s)
        · have HC1 : Hid (Comp S (k + 1) (S.take k)) := HS1.out he
          have hq := run_eqKey t r u s
          rw [show decide ((t, r) = (u, s)) = true by simpa using he] at hq
          have hgd := fun op x y => run_eqGuard op x y t r u s
          clear he HS1 HS2 HC
          go_wp2_with fail
          go_quiet (fail)
          go_wp2_with fail
          have HI0 : Hid (OwnK (w.drewN (q + nq)) base (own g n cap) S ∧ w.grownBy (w.drewN (q + nq)) (some g)) := ⟨HO.out, ⟨rfl, rfl, rfl, Nat.le_refl _, fun _ _ _ => rfl⟩⟩
          generalize w.drewN (q + nq) = W1 at *
          clear hq hgd c1 c2 d1 d2
          go_loopw [3, 5] (fun x y wr => ∃ (kk k2 : Nat) (M C : List K), x = .int .i64 (kk : Int) ∧ y = .int .i64 (k2 : Int) ∧ 1 ≤ k2 ∧ k + k2 ≤ n ∧ kk < k + k2 ∧ Hid (OwnK wr base (own g n cap) M ∧ w.grownBy wr (some g)) ∧ Hid (Comp S (k + k2) C ∧ C = M.take kk ∧ ∀ i, kk ≤ i → kd M i = kd S i)) (fun _ y _ => n - (intOf y).toNat)
          case atStart => exact ⟨k, 1, S, S.take k, rfl, rfl, Nat.le_refl _, by omega, by omega, HI0, HC1.out, rfl, fun _ _ => rfl⟩
          case round =>
            clear HI0 HC1
            obtain ⟨kk, k2, M, C, rfl, rfl, hk2, hkn, hkk, HI, HCM⟩ := hrel
            have HML : Hid (n = M.length) := HI.out.1.len.1
            by_cases hlt2 : k2 < n - k
            · obtain ⟨c1, c2⟩ := HI.out.1.at (k + k2) (by omega)
              obtain ⟨d1, d2⟩ := HI.out.1.at (k + k2 - 1) (by omega)
              obtain ⟨e1, e2⟩ := HI.out.1.at kk (by omega)
              have f1 := HI.out.1.frozen (kk * 2)
              have f2 := HI.out.1.frozen (kk * 2 + 1)
              rw [HCM.out.2.2 (k + k2) (by omega), show (k + k2) * 2 = k * 2 + k2 * 2 by omega] at c1 c2
              rw [HCM.out.2.2 (k + k2 - 1) (by omega), show (k + k2 - 1) * 2 = k * 2 + (k2 - 1) * 2 by omega] at d1 d2
              have HS1 : Hid (kd S (k + k2) = kd S (k + k2 - 1) → Comp S (k + (k2 + 1)) C) := fun he => HCM.out.1.same (by omega) (by have := HL.out; omega) he
              have HS2 : Hid (kd S (k + k2) ≠ kd S (k + k2 - 1) → Comp S (k + (k2 + 1)) (C ++ [kd S (k + k2)])) := fun he => HCM.out.1.more (by omega) (by have := HL.out; omega) HA.out HK.out he
              have hkm : (k2 : Int) - 1 = ((k2 - 1 : Nat) : Int) := by omega
              generalize kd S (k + k2) = xk at *
              generalize kd S (k + k2 - 1) = pk at *
              generalize kd M kk = ok at *
              obtain ⟨t, r⟩ := xk
              obtain ⟨u, s⟩ := pk
              obtain ⟨o1, o2⟩ := ok
              simp only at c1 c2 d1 d2 e1 e2
              by_cases he : (t, r) = (u, s)
              · have HC1 : Hid (Comp S (k + (k2 + 1)) C ∧ C = M.take kk ∧ ∀ i, kk ≤ i → kd M i = kd S i) := ⟨HS1.out he, HCM.out.2⟩
                have hq := run_neKey t r u s
                rw [show decide ((t, r) = (u, s)) = true by simpa using he] at hq
                simp only [Bool.not_true] at hq
                have hgd := fun op x y => run_eqGuard op x y t r u s
                clear he HS1 HS2 HCM
                go_wp2_with fail
                go_quiet (fail)
                have HI1 : Hid (OwnK (wr.drewN nq) base (own g n cap) M ∧ w.grownBy (wr.drewN nq) (some g)) := ⟨HI.out.1, ⟨HI.out.2.os, HI.out.2.tape, HI.out.2.output, HI.out.2.size, HI.out.2.block⟩⟩
                go_wp2_with fail
                go_roundw
                case rel => exact ⟨kk, k2 + 1, M, C, rfl, by go_num, by omega, by omega, by omega, HI1, HC1⟩
                case measure => simp [intOf]; omega
              · have HC1 : Hid (Comp S (k + (k2 + 1)) (C ++ [(t, r)]) ∧ C ++ [(t, r)] = (M.set kk (t, r)).take (kk + 1) ∧ ∀ i, kk + 1 ≤ i → kd (M.set kk (t, r)) i = kd S i) := by
                  have hm := HML.out
                  refine ⟨HS2.out he, ?_, fun i hi => ?_⟩
                  · rw [take_kd _ kk (by simp; omega), kd_set _ _ _ _ (by omega), if_pos rfl, HCM.out.2.1, List.take_set_of_le (by omega)]
                  · rw [kd_set _ _ _ _ (by omega), if_neg (by omega)]; exact HCM.out.2.2 i (by omega)
                have hq := run_neKey t r u s
                rw [show decide ((t, r) = (u, s)) = false by simpa using he] at hq
                simp only [Bool.not_false] at hq
                have hgd := fun op x y => run_eqGuard op x y t r u s
                clear he HS1 HS2 HCM
                go_wp2_with fail
                go_quiet (fail)
                have HI1 : Hid (OwnK (wr.drewN nq) base (own g n cap) M ∧ w.grownBy (wr.drewN nq) (some g)) := ⟨HI.out.1, ⟨HI.out.2.os, HI.out.2.tape, HI.out.2.output, HI.out.2.size, HI.out.2.block⟩⟩
                have c1' : (wr.drewN nq).cell? ⟨g, k * 2 + k2 * 2, none⟩ = some (.int .i64 t) := c1
                have c2' : (wr.drewN nq).cell? ⟨g, k * 2 + k2 * 2 + 1, none⟩ = some (.int .i64 r) := c2
                have e1' : (wr.drewN nq).cell? ⟨g, kk * 2, none⟩ = some (.int .i64 o1) := e1
                have e2' : (wr.drewN nq).cell? ⟨g, kk * 2 + 1, none⟩ = some (.int .i64 o2) := e2
                have f1' : (wr.drewN nq).frozen? ⟨g, kk * 2, none⟩ = false := f1
                have f2' : (wr.drewN nq).frozen? ⟨g, kk * 2 + 1, none⟩ = false := f2
                clear c1 c2 e1 e2 f1 f2 d1 d2 hq hgd HI
                generalize wr.drewN nq = W2 at *
                have HI2 : Hid (OwnK ((W2.setCell ⟨g, kk * 2, none⟩ (.int .i64 t)).setCell ⟨g, kk * 2 + 1, none⟩ (.int .i64 r)) base (own g n cap) (M.set kk (t, r)) ∧ w.grownBy ((W2.setCell ⟨g, kk * 2, none⟩ (.int .i64 t)).setCell ⟨g, kk * 2 + 1, none⟩ (.int .i64 r)) (some g)) := by
                  obtain ⟨h1, h2⟩ := HI1.out.1.set kk (by omega) t r
                  have h0 := HI1.out.2
                  exact ⟨h1, ⟨h2.os.trans h0.os, h2.tape.trans h0.tape, h2.output.trans h0.output, Nat.le_trans h0.size h2.size, fun b hb hne => (h2.block b (Nat.lt_of_lt_of_le hb h0.size) hne).trans (h0.block b hb hne)⟩⟩
                go_wp2_with fail
                go_roundw
                case rel => exact ⟨kk + 1, k2 + 1, M.set kk (t, r), C ++ [(t, r)], by go_num, by go_num, by omega, by omega, by omega, HI2, HC1⟩
                case measure => simp [intOf]; omega
            · have hkk' : k2 = n - k := by omega
              subst hkk'
              have HE : Hid (Rise C ∧ SameMem C S ∧ C = M.take kk) := by
                obtain ⟨h1, h2, _⟩ := HCM.out
                refine ⟨h1.rise, fun x => ?_, h2⟩
                rw [h1.mem, show k + (n - k) = S.length by have := HL.out; omega, List.take_length]
              have HCl : Hid (∀ ty, ∃ vs, (Builtin.clear_ #[85] ty #[.slice (some ⟨g, kk * 2, none⟩) (n - kk) (cap - kk)]).run Tryz.prog wr = .ok (.tuple #[]) (wr.setCells g (kk * 2) vs)) := fun ty => by
                refine run_clear_keys wr ty g (kk * 2) (n - kk) (cap - kk) (by omega) (fun j hj => ?_) (fun j hj => HI.out.1.frozen _)
                have h1 := HI.out.1.at (kk + j / 2) (by omega)
                have : j % 2 = 0 ∨ j % 2 = 1 := by omega
                rcases this with h | h
                · rw [show kk * 2 + j = (kk + j / 2) * 2 by omega, h1.1]; rfl
                · rw [show kk * 2 + j = (kk + j / 2) * 2 + 1 by omega, h1.2]; rfl
              obtain ⟨vs, hcl⟩ := HCl.out 0
              clear HCM HCl
              go_wp2_with fail
              go_ret
              obtain ⟨h1, h2⟩ := HI.out.1.cleared kk (by omega) vs
              have h0 := HI.out.2
              rw [← HE.out.2.2] at h1
              exact ⟨_, rfl, C, h1, HE.out.1, HE.out.2.1, ⟨h2.os.trans h0.os, h2.tape.trans h0.tape, h2.output.trans h0.output, Nat.le_trans h0.size h2.size, fun b hb hne => (h2.block b (Nat.lt_of_lt_of_le hb h0.size) hne).trans (h0.block b hb hne)⟩⟩
        · have HC1 : Hid (Comp S (k + 1) (S.take (k + 1))) := HS2.out he
          have hq := run_eqKey t r u s
          rw [show decide ((t, r) = (u, s)) = false by simpa using he] at hq
          have hgd := fun op x y => run_eqGuard op x y t r u s
          clear he HS1 HS2 HC
          go_wp2_with fail
          go_quiet (fail)
          go_wp2_with fail
          go_roundw
          case rel => exact ⟨k + 1, q + nq, by omega, by omega, by go_num, rfl, HC1⟩
          case measure => simp [intOf]; omega
      · obtain rfl : k = n := by omega
        have HE : Hid (Rise S ∧ SameMem S S) := ⟨by have := HC.out.rise; rwa [HL.out, List.take_length] at this, fun x => Iff.rfl⟩
        go_wp2
        go_ret
        exact ⟨_, rfl, S, HO.out, HE.out.1, HE.out.2, ⟨rfl, rfl, rfl, Nat.le_refl _, fun _ _ _ => rfl⟩⟩

end Go.Proofs.YtbcmmeajglilbaaGreat
/-
  THE LIBRARY's CONTRACTS OF slices AT THIS DUMP: tables of numbers and theorems of closed facts, by program.
-/
namespace Go.Proofs.YtbcmmeajglilbaaGreat
open Go.Shelf
def laysClone_ren : Go.Shelf.Ren := ⟨fun | 41 => 82 | n => n, fun | 22 => 85 | 23 => 41 | 4 => 4 | n => n, fun | n => n⟩
theorem laysClone : Go.Proofs.SlLaysE0.n41 Tryz.prog laysClone_ren := {
  mixed := by kernel_rfl
  f41 := ⟨Tryz.f82.name, by decide, Tryz.func82.trans (congrArg some (by kernel_rfl))⟩
  t4 := Tryz.underlying4
  a4 := Tryz.isAgg4
  z4 := Tryz.sizeOf4
  v4 := Tryz.zeroValue4
  t22 := Tryz.underlying85
  a22 := Tryz.isAgg85
  z22 := Tryz.sizeOf85
  v22 := Tryz.zeroValue85 }
def laysSort_ren : Go.Shelf.Ren := ⟨fun | 6 => 83 | 15 => 93 | 14 => 92 | 28 => 103 | 29 => 104 | 20 => 95 | 21 => 96 | 22 => 97 | 23 => 98 | 24 => 99 | 25 => 100 | 26 => 101 | 27 => 102 | 46 => 105 | 47 => 106 | 48 => 107 | 49 => 108 | 50 => 109 | 57 => 110 | n => n, fun | 22 => 85 | 24 => 41 | 25 => 151 | 3 => 3 | 39 => 128 | 0 => 0 | 53 => 167 | 55 => 91 | 4 => 4 | 46 => 160 | 45 => 159 | 50 => 164 | 5 => 5 | 9 => 9 | 66 => 169 | 70 => 173 | 76 => 175 | 77 => 64 | n => n, fun | n => n⟩
theorem laysSort : Go.Proofs.SlLaysF0.n6 Tryz.prog laysSort_ren := {
  mixed := by kernel_rfl
  f6 := ⟨Tryz.f83.name, by decide, Tryz.func83.trans (congrArg some (by kernel_rfl))⟩
  f14 := ⟨Tryz.f92.name, by decide, Tryz.func92.trans (congrArg some (by kernel_rfl))⟩
  f15 := Tryz.func93.trans (congrArg some (by kernel_rfl))
  f20 := ⟨Tryz.f95.name, by decide, Tryz.func95.trans (congrArg some (by kernel_rfl))⟩
  f21 := ⟨Tryz.f96.name, by decide, Tryz.func96.trans (congrArg some (by kernel_rfl))⟩
  f22 := ⟨Tryz.f97.name, by decide, Tryz.func97.trans (congrArg some (by kernel_rfl))⟩
  f23 := ⟨Tryz.f98.name, by decide, Tryz.func98.trans (congrArg some (by kernel_rfl))⟩
  f24 := ⟨Tryz.f99.name, by decide, Tryz.func99.trans (congrArg some (by kernel_rfl))⟩
  f25 := ⟨Tryz.f100.name, by decide, Tryz.func100.trans (congrArg some (by kernel_rfl))⟩
  f26 := ⟨Tryz.f101.name, by decide, Tryz.func101.trans (congrArg some (by kernel_rfl))⟩
  f27 := ⟨Tryz.f102.name, by decide, Tryz.func102.trans (congrArg some (by kernel_rfl))⟩
  f28 := Tryz.func103.trans (congrArg some (by kernel_rfl))
  f29 := Tryz.func104.trans (congrArg some (by kernel_rfl))
  f46 := ⟨Tryz.f105.name, by decide, Tryz.func105.trans (congrArg some (by kernel_rfl))⟩
  f47 := Tryz.func106.trans (congrArg some (by kernel_rfl))
  f48 := Tryz.func107.trans (congrArg some (by kernel_rfl))
  f49 := ⟨Tryz.f108.name, by decide, Tryz.func108.trans (congrArg some (by kernel_rfl))⟩
  f50 := ⟨Tryz.f109.name, by decide, Tryz.func109.trans (congrArg some (by kernel_rfl))⟩
  f57 := ⟨Tryz.f110.name, by decide, Tryz.func110.trans (congrArg some (by kernel_rfl))⟩
  t0 := Tryz.underlying0
  a0 := Tryz.isAgg0
  z0 := Tryz.sizeOf0
  v0 := Tryz.zeroValue0
  t3 := Tryz.underlying3
  a3 := Tryz.isAgg3
  z3 := Tryz.sizeOf3
  v3 := Tryz.zeroValue3
  t4 := Tryz.underlying4
  a4 := Tryz.isAgg4
  z4 := Tryz.sizeOf4
  v4 := Tryz.zeroValue4
  t5 := Tryz.underlying5
  a5 := Tryz.isAgg5
  z5 := Tryz.sizeOf5
  v5 := Tryz.zeroValue5
  t9 := Tryz.underlying9
  a9 := Tryz.isAgg9
  z9 := Tryz.sizeOf9
  v9 := Tryz.zeroValue9
  t22 := Tryz.underlying85
  a22 := Tryz.isAgg85
  z22 := Tryz.sizeOf85
  v22 := Tryz.zeroValue85
  t25 := Tryz.underlying151
  a25 := Tryz.isAgg151
  z25 := Tryz.sizeOf151
  v25 := Tryz.zeroValue151
  t39 := Tryz.underlying128
  a39 := Tryz.isAgg128
  z39 := Tryz.sizeOf128
  v39 := Tryz.zeroValue128
  t45 := Tryz.underlying159
  a45 := Tryz.isAgg159
  z45 := Tryz.sizeOf159
  v45 := Tryz.zeroValue159
  t46 := Tryz.underlying160
  a46 := Tryz.isAgg160
  z46 := Tryz.sizeOf160
  v46 := Tryz.zeroValue160
  t50 := Tryz.underlying164
  a50 := Tryz.isAgg164
  z50 := Tryz.sizeOf164
  v50 := Tryz.zeroValue164
  t53 := Tryz.underlying167
  a53 := Tryz.isAgg167
  z53 := Tryz.sizeOf167
  v53 := Tryz.zeroValue167
  t55 := Tryz.underlying91
  a55 := Tryz.isAgg91
  z55 := Tryz.sizeOf91
  v55 := Tryz.zeroValue91
  t66 := Tryz.underlying169
  a66 := Tryz.isAgg169
  z66 := Tryz.sizeOf169
  v66 := Tryz.zeroValue169
  t70 := Tryz.underlying173
  a70 := Tryz.isAgg173
  z70 := Tryz.sizeOf173
  v70 := Tryz.zeroValue173
  t76 := Tryz.underlying175
  a76 := Tryz.isAgg175
  z76 := Tryz.sizeOf175
  v76 := Tryz.zeroValue175
  t77 := Tryz.underlying64
  a77 := Tryz.isAgg64
  z77 := Tryz.sizeOf64
  v77 := Tryz.zeroValue64 }
end Go.Proofs.YtbcmmeajglilbaaGreat
