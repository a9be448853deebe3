/-
  THE ITERATOR OF Each.
-/
import Derived.Test.YtenmkigoohpfmaaDRound
namespace Go.Proofs.Ytenmkigoohpfmaa
open Go.RowKit Go.Sort Go.Shelf

attribute [local go_sem] Oper.semAt_some

/-- what has come when k rounds are over -/
def upto {α : Type} (f : Nat → α) (k : Nat) : List α := (List.range k).map f
theorem upto_succ {α : Type} (f : Nat → α) (k : Nat) : upto f (k + 1) = upto f k ++ [f k] := by simp [upto, List.range_succ]
theorem upto_length {α : Type} (f : Nat → α) (k : Nat) : (upto f k).length = k := by simp [upto]
/-- a key and a value -/
abbrev PX := { x : K × Int // KIn x.1 ∧ In64 x.2 }
abbrev encPX (x : PX) : Array Value := #[.agg #[.int .i64 x.1.1.1, .int .i64 x.1.1.2], .int .i64 x.1.2]
def px0 : PX := ⟨((0, 0), 0), by refine ⟨⟨⟨?_, ?_⟩, ⟨?_, ?_⟩⟩, ⟨?_, ?_⟩⟩ <;> simp⟩
/-- the j-th pair -/
noncomputable def pd (l : List En) (hl : ∀ e ∈ l, KIn e.k ∧ In64 e.v) (j : Nat) : PX := if h : j < l.length then ⟨(l[j].k, l[j].v), hl _ (List.getElem_mem h)⟩ else px0
theorem pd_at {l : List En} (hl : ∀ e ∈ l, KIn e.k ∧ In64 e.v) {j : Nat} (h : j < l.length) : (pd l hl j).1 = (l[j].k, l[j].v) := by unfold pd; rw [dif_pos h]
theorem cps_length (l : List En) : (cps l).length = l.length * 3 := by
  induction l with
  | nil => rfl
  | cons e l ih => simp only [cps, List.length_cons, ih]; omega
theorem cps_at (l : List En) (j : Nat) (h : j < l.length) : (cps l)[j * 3]? = some (.int .i64 l[j].k.1) ∧ (cps l)[j * 3 + 1]? = some (.int .i64 l[j].k.2) ∧ (cps l)[j * 3 + 2]? = some (.int .i64 l[j].v) := by
  induction l generalizing j with
  | nil => simp at h
  | cons e l ih =>
    cases j with
    | zero => simp [cps]
    | succ j =>
      have := ih j (by simp at h; omega)
      rw [show (j + 1) * 3 = j * 3 + 1 + 1 + 1 by omega]
      simpa [cps] using this
/-- the iterator's list, as it stays -/
structure IL (w : World) (B g : Nat) (l : List En) : Prop where
  box : w.heap[B]? = some (.cells #[.slice (some ⟨g, 0, none⟩) l.length l.length] TPs (0, 0))
  at_ : ∀ j u, (cps l)[j]? = some u → w.cell? ⟨g, j, none⟩ = some u
  gl : g < w.heap.size
theorem EL.il {w wr : World} {B g : Nat} {l : List En} (h : EL w wr B g l.length l.length l) : IL wr B g l := by
  refine ⟨h.box, ?_, (h.row.lt g rfl).2⟩
  have hr := h.row
  rw [List.take_length] at hr
  rcases hr.2 with ⟨h0, _⟩ | ⟨g', cap, cur, hv, _, hg, _, _, _, htk⟩
  · cases h0
  · cases hv
    intro j u hu
    rw [World.cell?, hg]
    show cur[j]? = some u
    rw [← htk, List.getElem?_take] at hu
    split at hu
    · simpa using hu
    · cases hu
/-- blocks B and g stay -/
def KBG (B g : Nat) (W W' : World) : Prop := W.heap.size ≤ W'.heap.size ∧ W'.heap[B]? = W.heap[B]? ∧ W'.heap[g]? = W.heap[g]?
theorem KBG.refl (B g : Nat) (W : World) : KBG B g W W := ⟨Nat.le_refl _, rfl, rfl⟩
theorem KBG.trans {B g : Nat} {X Y Z : World} (h : KBG B g X Y) (k : KBG B g Y Z) : KBG B g X Z := ⟨Nat.le_trans h.1 k.1, k.2.1.trans h.2.1, k.2.2.trans h.2.2⟩
theorem KBG.grown {B g : Nat} {W W' : World} {row : Option Nat} (hg : W.grownBy W' row) (h1 : B < W.heap.size) (h2 : g < W.heap.size) (n1 : some B ≠ row) (n2 : some g ≠ row) : KBG B g W W' := ⟨hg.size, hg.block B h1 n1, hg.block g h2 n2⟩
theorem KBG.alloc {B g : Nat} {W : World} (h1 : B < W.heap.size) (h2 : g < W.heap.size) (o : Obj) : KBG B g W (W.alloc o) := KBG.grown (World.grownBy_alloc W o none) h1 h2 (by simp) (by simp)
theorem KBG.below {B g : Nat} {W W' : World} (h : Below W.heap.size W W') (h1 : B < W.heap.size) (h2 : g < W.heap.size) : KBG B g W W' := ⟨h.size, h.block B h1, h.block g h2⟩
theorem KBG.put {B g : Nat} {w : World} (h1 : B < w.heap.size) (h2 : g < w.heap.size) (W : World) (l : Nat) (o o' : Obj) (hl : w.heap.size ≤ l) (_ : W.heap[l]? = some o) (_ : o.isCells = false) (_ : o.isWalk = false) : KBG B g W (W.putObj l o') :=
  ⟨by simp, World.putObj_heap_other (by omega), World.putObj_heap_other (by omega)⟩
theorem KBG.lt {B g : Nat} {W W' : World} (h : KBG B g W W') {k : Nat} (hk : k < W.heap.size) : k < W'.heap.size := Nat.lt_of_lt_of_le hk h.1
theorem IL.kbg {w w' : World} {B g : Nat} {l : List En} (h : IL w B g l) (hb : KBG B g w w') : IL w' B g l :=
  ⟨hb.2.1.trans h.box, fun j u hu => by
    have h1 := h.at_ j u hu
    unfold World.cell? at h1 ⊢
    simp only at h1 ⊢
    rw [hb.2.2]
    exact h1, Nat.lt_of_lt_of_le h.gl hb.1⟩
theorem IL.below {w w' : World} {B g n : Nat} {l : List En} (h : IL w B g l) (hb : Below n w w') (hB : B < n) (hg : g < n) : IL w' B g l :=
  ⟨(hb.block B hB).trans h.box, fun j u hu => (hb.cell (p := ⟨g, j, none⟩) hg).trans (h.at_ j u hu), Nat.lt_of_lt_of_le h.gl hb.size⟩

set_option maxRecDepth 100000 in
set_option maxHeartbeats 4000000 in
theorem each1_in (F : Fence) (n : Nat) (hf : F.fn 17) (hro : F.round = none) (hn : 1 ≤ n) (ly B g m : Nat) (l : List En) (hl : ∀ e ∈ l, KIn e.k ∧ In64 e.v) (hml : m = l.length) (hm : m * 16 ≤ 140737488355328) (J Jx : List PX → World → Prop)
    (hY : ∀ pre x W, J pre W → pre.length < m → YieldAt F (n - 1) Try.prog ly (encPX x) W fun e W' =>
      (e = .returned (.bool true) ∧ J (pre ++ [x]) W' ∧ KBG B g W W') ∨ (e = .returned (.bool false) ∧ Jx (pre ++ [x]) W'))
    (W : World) (hJ : AbidesFrom W.heap.size J) (hI : IL W B g l) (h0 : J [] W) :
    CallsIn F n Try.prog 17 #[.func (.yield ly) #[] #[], ptr B] W fun e W' => (∃ v, e = .returned v) ∧
      ((∃ ys, ys = upto (pd l hl) m ∧ J ys W') ∨ (∃ pre, (∃ k, k ≤ m ∧ pre = upto (pd l hl) k) ∧ Jx pre W')) := by
  have HI : Hid (∀ W', KBG B g W W' → IL W' B g l) := fun W' hW => hI.kbg hW
  have hBs : W.cell? ⟨B, 0, none⟩ = some (.slice (some ⟨g, 0, none⟩) m m) := by rw [World.cell?, hI.box, hml]; rfl
  have HM : Hid (m = l.length) := hml
  clear hI hml
  refine callsIn_of_wp Try.func17 rfl hf ?_ hro
  simp only [Try.ntmps17, List.size_toArray, List.length_cons, List.length_nil, Nat.reduceAdd, Nat.reduceSub, Array.replicate_succ, Array.replicate_zero, List.push_toArray, List.append_toArray, List.nil_append, List.cons_append]
  gi_wp2
  gi_loopw [7] (fun i wr => ∃ k : Nat, k ≤ m ∧ i = .int .i64 k ∧ J (upto (pd l hl) k) wr ∧ KBG B g W wr ∧ W.heap.size ≤ wr.heap.size)
    (fun i _ => m - (intOf i).toNat)
  case atStart => exact ⟨0, Nat.zero_le _, rfl, h0, KBG.refl _ _ _, Nat.le_refl _⟩
  case round =>
    obtain ⟨k, hk, rfl, hJs, hnx, hsz⟩ := hrel
    by_cases hlt : k < m
    · have hkl : k < l.length := by have := HM.out; omega
      obtain ⟨c1, c2, c3⟩ := cps_at l k hkl
      have a1 := (HI.out wr hnx).at_ _ _ c1
      have a2 := (HI.out wr hnx).at_ _ _ c2
      have a3 := (HI.out wr hnx).at_ _ _ c3
      have HX : Hid ((pd l hl k).1 = (l[k].k, l[k].v)) := pd_at hl hkl
      have e1 : l[k].k.1 = (pd l hl k).1.1.1 := by rw [HX.out]
      have e2 : l[k].k.2 = (pd l hl k).1.1.2 := by rw [HX.out]
      have e3 : l[k].v = (pd l hl k).1.2 := by rw [HX.out]
      rw [e1] at a1
      rw [e2] at a2
      rw [e3] at a3
      clear c1 c2 c3 e1 e2 e3
      have hJ2 : J (upto (pd l hl) k) (wr.alloc (.cells #[.int .i64 (pd l hl k).1.1.1, .int .i64 (pd l hl k).1.1.2, .int .i64 (pd l hl k).1.2] TP)) := hJ _ _ _ none hJs (World.grownBy_alloc wr _ none) (fun r e => by cases e)
      have hb2 : KBG B g wr (wr.alloc (.cells #[.int .i64 (pd l hl k).1.1.1, .int .i64 (pd l hl k).1.1.2, .int .i64 (pd l hl k).1.2] TP)) := KBG.alloc (blk_lt (HI.out wr hnx).box) (HI.out wr hnx).gl _
      obtain ⟨fn, tmps, assign, body, hy, hR⟩ := hY _ (pd l hl k) _ hJ2 (by rw [upto_length]; exact hlt)
      simp only [encPX] at hy
      gi_wp2
      refine hR.mono ?_
      rintro e W3 (⟨rfl, hJ3, hk3⟩ | ⟨rfl, hJx3⟩)
      · have hs3 := hk3.1
        gi_wp2
        go_roundw
        case rel => exact ⟨k + 1, by omega, by go_num, by rw [upto_succ]; exact hJ3, hnx.trans (hb2.trans hk3), by simp at hs3; omega⟩
        case measure => simp [intOf]; omega
      · gi_wp2
        refine bodyPost_ret (results_none rfl _ _ _) rfl ?_
        exact ⟨⟨_, rfl⟩, .inr ⟨_, ⟨k + 1, by omega, (upto_succ _ _).symm⟩, hJx3⟩⟩
    · obtain rfl : k = m := by omega
      gi_wp2
      go_end0
      exact ⟨⟨_, rfl⟩, .inl ⟨_, rfl, hJs⟩⟩

/-- Each hands back a value that goes over the list -/
theorem each_stops (F : Fence) (n : Nat) (hf : F.fn 17) (hro : F.round = none) (hn : 1 ≤ n) (B g m : Nat) (l : List En) (hl : ∀ e ∈ l, KIn e.k ∧ In64 e.v) (hml : m = l.length) (hm : m * 16 ≤ 140737488355328) (w : World) (hI : IL w B g l) :
    SeqStopsK F n Try.prog 17 #[ptr B] encPX (KBG B g) (fun ys => ys = upto (pd l hl) m) (fun pre => ∃ k, k ≤ m ∧ pre = upto (pd l hl) k) m w := fun ly J Jx W hW hJ _ hY h0 =>
  each1_in F n hf hro hn ly B g m l hl hml hm J Jx hY W hJ (hI.below (n := w.heap.size) hW (blk_lt hI.box) hI.gl) h0
end Go.Proofs.Ytenmkigoohpfmaa
