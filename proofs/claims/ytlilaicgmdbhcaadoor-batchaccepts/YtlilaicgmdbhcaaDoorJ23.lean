import Derived.Test.YtlilaicgmdbhcaaDoorJ21
import Derived.Deep.RegionHeld3
import Derived.Test.YtlilaicgmdbhcaaDoorJ22
/-
  THE WALK OF layer 6's lent.
-/
namespace Go.Proofs.YtlilaicgmdbhcaaDoor.Kk
open Go.RowKit Go.Sort

def padB : Bx := ⟨⟨-31, [], [], []⟩, none, 0, none, 0, none, 0⟩
/-- a transaction that was lent -/
def LnT (W : World) (lo hi : Nat) (x y : Bx) : Prop :=
  y.t = x.t ∧ ∃ m1 m2, lo ≤ m1 ∧ m1 ≤ m2 ∧ m2 ≤ hi ∧ LnI W lo m1 x.aA y.aA y.cA x.t.args ∧ LnK W m1 m2 x.aR y.aR y.cR x.t.reads ∧ LnK W m2 hi x.aW y.aW y.cW x.t.writes
theorem LnT.same {W W' : World} {lo hi : Nat} {x y : Bx} (h : LnT W lo hi x y) (hs : ∀ G, lo ≤ G → G < hi → G < W.heap.size → W'.heap[G]? = W.heap[G]?) : LnT W' lo hi x y := by
  obtain ⟨h0, m1, m2, h1, h2, h3, h4, h5, h6⟩ := h
  exact ⟨h0, m1, m2, h1, h2, h3, h4.same (fun G a b => hs G a (by omega)), h5.same (fun G a b => hs G (by omega) (by omega)), h6.same (fun G a b => hs G (by omega) b)⟩
/-- what stands while a batch is laid: k of its transactions are there -/
structure LtS (w W : World) (n k : Nat) (Bs Qs : List Bx) (lo : Nat → Nat) : Prop where
  row : RT W w.heap.size Qs
  len : Qs.length = n + 3
  bel : Below w.heap.size w W
  pad : ∀ i, k ≤ i → i < n + 3 → bd Qs i = padB
  one : ∀ i, i < k → LnT W (lo i) (lo (i + 1)) (bd Bs i) (bd Qs i)
  lo0 : lo 0 = w.heap.size + 1
  lok : lo k ≤ W.heap.size
  mono : ∀ i, i < k → lo i ≤ lo (i + 1)
theorem LtS.ge {w W : World} {n k : Nat} {Bs Qs : List Bx} {lo : Nat → Nat} (h : LtS w W n k Bs Qs lo) : ∀ i, i ≤ k → w.heap.size + 1 ≤ lo i
  | 0, _ => Nat.le_of_eq h.lo0.symm
  | i + 1, hi => Nat.le_trans (h.ge i (by omega)) (h.mono i (by omega))
theorem LtS.le {w W : World} {n k : Nat} {Bs Qs : List Bx} {lo : Nat → Nat} (h : LtS w W n k Bs Qs lo) (i : Nat) (hi : i ≤ k) : lo i ≤ lo k := by
  obtain ⟨d, rfl⟩ : ∃ d, k = i + d := ⟨k - i, by omega⟩
  suffices ∀ e, e ≤ d → lo i ≤ lo (i + e) from this d (Nat.le_refl _)
  intro e
  induction e with
  | zero => intro _; exact Nat.le_refl _
  | succ e ih => intro he; exact Nat.le_trans (ih (by omega)) (h.mono (i + e) (by omega))
theorem LtS.kept {w W W' : World} {n k : Nat} {Bs Qs : List Bx} {lo : Nat → Nat} (h : LtS w W n k Bs Qs lo) (hb : Below W.heap.size W W') : LtS w W' n k Bs Qs lo :=
  ⟨h.row.same (hb.block _ h.row.lt), h.len, h.bel.trans (hb.mono h.bel.size), h.pad, fun i hi => (h.one i hi).same (fun G _ _ hG => hb.block G hG), h.lo0, Nat.le_trans h.lok hb.size, h.mono⟩
structure Lt1 (w W : World) (n k : Nat) (Qs : List Bx) : Prop where
  row : RT W w.heap.size Qs
  len : Qs.length = n + 3
  bel : Below w.heap.size w W
  pad : ∀ i, i < k → bd Qs i = padB
theorem Lt1.put {w W : World} {n k : Nat} {Qs : List Bx} (h : Lt1 w W n k Qs) (hk : k < n + 3) :
    Lt1 w ((((W.setCell ⟨w.heap.size, k * 4, none⟩ (.int .i64 (-31))).setCell ⟨w.heap.size, k * 4 + 1, none⟩ (.slice none 0 0)).setCell ⟨w.heap.size, k * 4 + 2, none⟩ (.slice none 0 0)).setCell ⟨w.heap.size, k * 4 + 3, none⟩ (.slice none 0 0)) n (k + 1) (Qs.set k padB) := by
  have hkl : k < Qs.length := by have := h.len; omega
  have hR := h.row.put hkl padB
  refine ⟨hR, by rw [List.length_set]; exact h.len, bset (bset (bset (bset h.bel _ (Nat.le_refl _)) _ (Nat.le_refl _)) _ (Nat.le_refl _)) _ (Nat.le_refl _), fun i hi => ?_⟩
  by_cases e : i = k
  · subst e; rw [bd_set_eq _ _ _ hkl]
  · rw [bd_set_ne _ _ _ _ e]; exact h.pad i (by omega)
theorem Lt1.fin {w W : World} {n : Nat} {Bs Qs : List Bx} (h : Lt1 w W n (n + 3) Qs) : LtS w W n 0 Bs Qs (fun _ => w.heap.size + 1) :=
  ⟨h.row, h.len, h.bel, fun i _ hi => h.pad i hi, fun i hi => by omega, rfl, h.row.lt, fun i hi => by omega⟩
/-- one more is stored -/
theorem LtS.put {w W W3 : World} {n k : Nat} {Bs Qs : List Bx} {lo : Nat → Nat} (h : LtS w W n k Bs Qs lo) (hk : k < n) (hb : Below W.heap.size W W3) (x : Bx) (hx : bd Bs k = x) (aA aR aW : Option Addr) (cA cR cW m1 m2 : Nat)
    (h1 : W.heap.size ≤ m1) (h2 : m1 ≤ m2) (h3 : m2 ≤ W3.heap.size) (hA : LnI W3 W.heap.size m1 x.aA aA cA x.t.args) (hR : LnK W3 m1 m2 x.aR aR cR x.t.reads) (hW : LnK W3 m2 W3.heap.size x.aW aW cW x.t.writes) :
    ∃ Qs' lo', LtS w ((((W3.setCell ⟨w.heap.size, k * 4, none⟩ (.int .i64 x.t.proc)).setCell ⟨w.heap.size, k * 4 + 1, none⟩ (.slice aA x.t.args.length cA)).setCell ⟨w.heap.size, k * 4 + 2, none⟩ (.slice aR x.t.reads.length cR)).setCell ⟨w.heap.size, k * 4 + 3, none⟩ (.slice aW x.t.writes.length cW)) n (k + 1) Bs Qs' lo' := by
  have hS := h.kept hb
  have hkl : k < Qs.length := by have := h.len; omega
  have hP := hS.row.put hkl ⟨x.t, aA, cA, aR, cR, aW, cW⟩
  simp only at hP
  have hoth : ∀ G, G ≠ w.heap.size → ((((W3.setCell ⟨w.heap.size, k * 4, none⟩ (.int .i64 x.t.proc)).setCell ⟨w.heap.size, k * 4 + 1, none⟩ (.slice aA x.t.args.length cA)).setCell ⟨w.heap.size, k * 4 + 2, none⟩ (.slice aR x.t.reads.length cR)).setCell ⟨w.heap.size, k * 4 + 3, none⟩ (.slice aW x.t.writes.length cW)).heap[G]? = W3.heap[G]? := fun G hG => by
    rw [heap_setCell_other _ _ G _ (by exact hG), heap_setCell_other _ _ G _ (by exact hG), heap_setCell_other _ _ G _ (by exact hG), heap_setCell_other _ _ G _ (by exact hG)]
  have hlt := h.row.lt
  refine ⟨Qs.set k ⟨x.t, aA, cA, aR, cR, aW, cW⟩, fun i => if i ≤ k then lo i else W3.heap.size, hP, by rw [List.length_set]; exact h.len, bset (bset (bset (bset hS.bel _ (Nat.le_refl _)) _ (Nat.le_refl _)) _ (Nat.le_refl _)) _ (Nat.le_refl _), fun i h4 h5 => ?_, fun i hi => ?_, ?_, ?_, fun i hi => ?_⟩
  · rw [bd_set_ne _ _ _ _ (by omega)]; exact h.pad i (by omega) h5
  · by_cases e : i = k
    · subst e
      rw [bd_set_eq _ _ _ hkl, hx]
      have hge := h.ge i (Nat.le_refl _)
      have hlk := h.lok
      simp only [Nat.le_refl, if_true, if_neg (show ¬ i + 1 ≤ i by omega)]
      exact LnT.same (W := W3) ⟨rfl, m1, m2, by omega, h2, h3, hA.wide hlk (Nat.le_refl _), hR, hW⟩ (fun G g1 _ _ => hoth G (by omega))
    · rw [bd_set_ne _ _ _ _ e]
      have hge := h.ge i (by omega)
      simp only [if_pos (show i ≤ k by omega), if_pos (show i + 1 ≤ k by omega)]
      exact LnT.same (W := W3) (hS.one i (by omega)) (fun G g1 _ _ => hoth G (by omega))
  · simp only [Nat.zero_le, if_true]; exact h.lo0
  · simp only [if_neg (show ¬ k + 1 ≤ k by omega)]; simp
  · by_cases e : i = k
    · subst e
      have hlk := h.lok
      have hbs := hb.size
      simp only [Nat.le_refl, if_true, if_neg (show ¬ i + 1 ≤ i by omega)]; omega
    · simp only [if_pos (show i ≤ k by omega), if_pos (show i + 1 ≤ k by omega)]
      exact h.mono i (by omega)
theorem keepS {W : World} {b o g i0 i1 i2 i3 : Nat} {u v0 v1 v2 v3 : Value} (h : W.cell? ⟨b, o, none⟩ = some u) (hb : b ≠ g) : ((((W.setCell ⟨g, i0, none⟩ v0).setCell ⟨g, i1, none⟩ v1).setCell ⟨g, i2, none⟩ v2).setCell ⟨g, i3, none⟩ v3).cell? ⟨b, o, none⟩ = some u := by
  simp only [World.cell?] at h ⊢
  rw [heap_setCell_other _ _ b _ (by exact hb), heap_setCell_other _ _ b _ (by exact hb), heap_setCell_other _ _ b _ (by exact hb), heap_setCell_other _ _ b _ (by exact hb)]; exact h
def LentB (w : World) (ao : Option Addr) (n : Nat) (Bs : List Bx) (e : Ending) (w' : World) : Prop :=
  (ao = none ∧ Bs = [] ∧ e = .returned (.slice none 0 0) ∧ w' = w) ∨ (ao ≠ none ∧ ∃ Qs lo, e = .returned (.slice (some ⟨w.heap.size, 0, none⟩) n (n + 3)) ∧ LtS w w' n n Bs Qs lo)

end Go.Proofs.YtlilaicgmdbhcaaDoor.Kk
/-
  THE WALKS OF layer 6's tail, wipe.
-/
namespace Go.Proofs.YtlilaicgmdbhcaaDoor.Kk
open Go.RowKit Go.Sort

theorem kd_pad (L : List K) (j : Nat) (hj : j < 3) : kd (L ++ padK3 3) (L.length + j) = (-31, 0) := by
  rw [kd_right _ _ _ (by rw [padK3_len]; exact hj)]
  revert hj; revert j; decide
theorem ad_pad (L : List Int) (j : Nat) (hj : j < 3) : ad (L ++ pad3 3) (L.length + j) = -31 := by
  have : ad (L ++ pad3 3) (L.length + j) = ad (pad3 3) j := by simp [ad, List.getD_eq_getElem?_getD, List.getElem?_append_right]
  rw [this]
  clear this
  revert hj; revert j; decide


/-- rows that may be written over -/
def WI (W : World) (lo hi : Nat) (a : Option Addr) (n : Nat) : Prop := n = 0 ∨ ∃ G M, a = some ⟨G, 0, none⟩ ∧ lo ≤ G ∧ G < hi ∧ R64 W G M ∧ n ≤ M.length
def WK (W : World) (lo hi : Nat) (a : Option Addr) (n : Nat) : Prop := n = 0 ∨ ∃ G M, a = some ⟨G, 0, none⟩ ∧ lo ≤ G ∧ G < hi ∧ RK W G M ∧ n ≤ M.length
theorem LnI.wi {W : World} {lo hi : Nat} {ao a : Option Addr} {c : Nat} {A : List Int} (h : LnI W lo hi ao a c A) : WI W lo hi a A.length := by
  rcases h with ⟨_, _, _, rfl⟩ | ⟨_, G, e, _, h1, h2, h3⟩
  · exact .inl rfl
  · exact .inr ⟨G, _, e, h1, h2, h3, by simp⟩
theorem LnK.wk {W : World} {lo hi : Nat} {ao a : Option Addr} {c : Nat} {A : List K} (h : LnK W lo hi ao a c A) : WK W lo hi a A.length := by
  rcases h with ⟨_, _, _, rfl⟩ | ⟨_, G, e, _, h1, h2, h3⟩
  · exact .inl rfl
  · exact .inr ⟨G, _, e, h1, h2, h3, by simp⟩
theorem WK.same {W W' : World} {lo hi : Nat} {a : Option Addr} {n : Nat} (h : WK W lo hi a n) (hs : ∀ G, lo ≤ G → G < hi → G < W.heap.size → W'.heap[G]? = W.heap[G]?) : WK W' lo hi a n := by
  rcases h with h | ⟨G, M, e, h1, h2, h3, h4⟩
  · exact .inl h
  · exact .inr ⟨G, M, e, h1, h2, h3.same (hs G h1 h2 h3.lt), h4⟩
theorem WI.same {W W' : World} {lo hi : Nat} {a : Option Addr} {n : Nat} (h : WI W lo hi a n) (hs : ∀ G, lo ≤ G → G < hi → G < W.heap.size → W'.heap[G]? = W.heap[G]?) : WI W' lo hi a n := by
  rcases h with h | ⟨G, M, e, h1, h2, h3, h4⟩
  · exact .inl h
  · exact .inr ⟨G, M, e, h1, h2, h3.same (hs G h1 h2 h3.lt), h4⟩
theorem Mid.cell {g h : Nat} {W W' : World} (m : Mid g h W W') {b i : Nat} {v : Value} (hc : W.cell? ⟨b, i, none⟩ = some v) (hb : b < g ∨ h ≤ b) : W'.cell? ⟨b, i, none⟩ = some v := by
  have := cell_lt hc
  simp only [World.cell?] at hc ⊢
  rw [m.block b this hb]; exact hc

end Go.Proofs.YtlilaicgmdbhcaaDoor.Kk
/-
  THE WALK OF layer 6's back.
-/
namespace Go.Proofs.YtlilaicgmdbhcaaDoor.Kk
open Go.RowKit Go.Sort

theorem LnI.nums {W : World} {lo hi : Nat} {ao a : Option Addr} {c : Nat} {A : List Int} (h : LnI W lo hi ao a c A) : NumsAt W a A ∧ (a = none → c = 0) ∧ A.length ≤ c := by
  rcases h with ⟨_, rfl, rfl, rfl⟩ | ⟨_, G, rfl, rfl, _, _, hr⟩
  · exact ⟨.inl rfl, fun _ => rfl, Nat.le_refl _⟩
  · exact ⟨hr.nums, by simp, by omega⟩
theorem LnK.keys {W : World} {lo hi : Nat} {ao a : Option Addr} {c : Nat} {A : List K} (h : LnK W lo hi ao a c A) : KeysAt W a A ∧ (a = none → c = 0) ∧ A.length ≤ c := by
  rcases h with ⟨_, rfl, rfl, rfl⟩ | ⟨_, G, rfl, rfl, _, _, hr⟩
  · exact ⟨.inl rfl, fun _ => rfl, Nat.le_refl _⟩
  · exact ⟨hr.keys, by simp, by omega⟩
/-- a transaction that was lent is as it was -/
theorem LnT.ok {W : World} {lo hi : Nat} {x y : Bx} (h : LnT W lo hi x y) (hx : BxOK W x) : BxOK W y := by
  obtain ⟨h0, m1, m2, _, _, _, h4, h5, h6⟩ := h
  obtain ⟨a1, a2, a3⟩ := h4.nums
  obtain ⟨b1, b2, b3⟩ := h5.keys
  obtain ⟨c1, c2, c3⟩ := h6.keys
  obtain ⟨t, aA, cA, aR, cR, aW, cW⟩ := y
  simp only at *
  subst h0
  exact ⟨a1, b1, c1, hx.pin, hx.ain, hx.rin, hx.win, a2, b2, c2, a3, b3, c3, hx.bigA, hx.bigR, hx.bigW⟩
theorem LtS.bat {w W : World} {n : Nat} {Bs Qs : List Bx} {lo : Nat → Nat} {ao : Option Addr} (h : LtS w W n n Bs Qs lo) (hn : n = Bs.length) (hb : BatAt W ao Bs) : BatAt W (some ⟨w.heap.size, 0, none⟩) (Qs.take n) ∧ (Qs.take n).map Bx.t = Bs.map Bx.t := by
  have hl : (Qs.take n).length = n := by rw [List.length_take, h.len]; omega
  refine ⟨⟨?_, fun x hx => ?_⟩, ?_⟩
  · have : RT W w.heap.size (Qs.take n ++ Qs.drop n) := by rw [List.take_append_drop]; exact h.row
    exact this.txs
  · obtain ⟨i, hi, rfl⟩ := List.mem_iff_getElem.1 hx
    have hi' : i < n := by omega
    have h1 := (h.one i hi').ok (hb.lst i (by omega))
    have e : bd Qs i = (Qs.take n)[i] := by
      rw [← bd_tk hi']; simp [bd, List.getD_eq_getElem?_getD, List.getElem?_eq_getElem hi]
    rw [e] at h1; exact h1
  · apply List.ext_getElem
    · rw [List.length_map, List.length_map, hl, hn]
    · intro i h1 h2
      simp only [List.length_map] at h1 h2
      have hi' : i < n := by omega
      have e1 : bd (Qs.take n) i = (Qs.take n)[i] := by simp [bd, List.getD_eq_getElem?_getD, List.getElem?_eq_getElem h1]
      have e2 : bd Bs i = Bs[i] := by simp [bd, List.getD_eq_getElem?_getD, List.getElem?_eq_getElem h2]
      simp only [List.getElem_map]
      rw [← e1, ← e2, bd_tk hi', (h.one i hi').1]

theorem neNil64 (ao : Option Addr) (n c : Nat) (w : World) : (binOp .neq 59 (.slice ao n c) (.slice none 0 0)).run Tryd.prog w = .ok (.bool (!ao.isNone)) w := by
  have h := eqNil64 ao n c w
  simp only [binOp] at h ⊢
  simp [run_equal_slice_nil w 59 2 ao n c Tryd.underlying59]
/-- what stands while a batch is given back: k of it are looked at and written over -/
structure BkS (w W1 W : World) (n k : Nat) (Bs Qs Rs : List Bx) (lo : Nat → Nat) : Prop where
  row : RT W w.heap.size Rs
  len : Rs.length = n + 3
  one : ∀ i, k ≤ i → i < n → bd Rs i = bd Qs i ∧ LnT W (lo i) (lo (i + 1)) (bd Bs i) (bd Rs i)
  mid : Mid w.heap.size (lo n) W1 W
theorem BkS.start {w W1 W : World} {n : Nat} {Bs Qs : List Bx} {lo : Nat → Nat} (h : LtS w W1 n n Bs Qs lo) (hg : Grew W1 W) : BkS w W1 W n 0 Bs Qs Qs lo := by
  have h2 := h.kept hg.below
  exact ⟨h2.row, h2.len, fun i _ hi => ⟨rfl, h2.one i hi⟩, Mid.of_below hg.below⟩
theorem BkS.kept {w W1 W W' : World} {n k : Nat} {Bs Qs Rs : List Bx} {lo : Nat → Nat} (h : BkS w W1 W n k Bs Qs Rs lo) (hg : Grew W W') : BkS w W1 W' n k Bs Qs Rs lo :=
  ⟨h.row.same (hg.heap h.row.lt), h.len, fun i h1 h2 => ⟨(h.one i h1 h2).1, (h.one i h1 h2).2.same (fun _ _ _ hG => hg.heap hG)⟩, h.mid.trans (Mid.of_below hg.below)⟩
/-- behind wipe and the store -/
theorem BkS.next {w W1 W W' : World} {n k : Nat} {Bs Qs Rs : List Bx} {lo : Nat → Nat} (h0 : LtS w W1 n n Bs Qs lo) (h : BkS w W1 W n k Bs Qs Rs lo) (hk : k < n) (hm : Mid (lo k) (lo (k + 1)) W W') :
    RT W' w.heap.size Rs ∧ BkS w W1 ((((W'.setCell ⟨w.heap.size, k * 4, none⟩ (.int .i64 (-32))).setCell ⟨w.heap.size, k * 4 + 1, none⟩ (.slice none 0 0)).setCell ⟨w.heap.size, k * 4 + 2, none⟩ (.slice none 0 0)).setCell ⟨w.heap.size, k * 4 + 3, none⟩ (.slice none 0 0)) n (k + 1) Bs Qs (Rs.set k ⟨⟨-32, [], [], []⟩, none, 0, none, 0, none, 0⟩) lo := by
  have hge : ∀ i, i ≤ n → w.heap.size + 1 ≤ lo i := fun i hi => h0.ge i hi
  have hle : ∀ i, i ≤ n → lo i ≤ lo n := fun i hi => h0.le i hi
  have hrow : RT W' w.heap.size Rs := h.row.same (hm.block _ h.row.lt (.inl (by have := hge k (by omega); omega)))
  have hkl : k < Rs.length := by have := h.len; omega
  have hP := hrow.put hkl ⟨⟨-32, [], [], []⟩, none, 0, none, 0, none, 0⟩
  refine ⟨hrow, hP, by rw [List.length_set]; exact h.len, fun i h1 h2 => ?_, ?_⟩
  · rw [bd_set_ne _ _ _ _ (by omega)]
    refine ⟨(h.one i (by omega) h2).1, (h.one i (by omega) h2).2.same (fun G g1 _ hG => ?_)⟩
    have hg := hge i (by omega)
    have hmono : lo (k + 1) ≤ lo i := by
      obtain ⟨d, rfl⟩ : ∃ d, i = k + 1 + d := ⟨i - (k + 1), by omega⟩
      suffices ∀ e, e ≤ d → lo (k + 1) ≤ lo (k + 1 + e) from this d (Nat.le_refl _)
      intro e
      induction e with
      | zero => intro _; exact Nat.le_refl _
      | succ e ih => intro he; exact Nat.le_trans (ih (by omega)) (h0.mono (k + 1 + e) (by omega))
    rw [heap_setCell_other _ _ G _ (by show G ≠ w.heap.size; omega), heap_setCell_other _ _ G _ (by show G ≠ w.heap.size; omega), heap_setCell_other _ _ G _ (by show G ≠ w.heap.size; omega), heap_setCell_other _ _ G _ (by show G ≠ w.heap.size; omega)]
    exact hm.block G hG (.inr (by omega))
  · have h5 := hge n (Nat.le_refl _)
    have h6 := hge k (by omega)
    have h7 : Mid w.heap.size (lo n) W1 W' := h.mid.trans (hm.wide (by omega) (hle (k + 1) (by omega)))
    exact (((h7.set _ _ _ (Nat.le_refl _) (by omega)).set _ _ _ (Nat.le_refl _) (by omega)).set _ _ _ (Nat.le_refl _) (by omega)).set _ _ _ (Nat.le_refl _) (by omega)

end Go.Proofs.YtlilaicgmdbhcaaDoor.Kk
