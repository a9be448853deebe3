import Derived.Test.YtglodmmmcdjgcaaJ29
import Derived.Test.YtglodmmmcdjgcaaJ24
import Derived.Deep.DeepAppendRoom
/-
  THE WALKS OF slices.Clone of keys AND OF Writes.
-/
namespace Go.Proofs.Ytglodmmmcdjgcaa.Kk
open Go.RowKit Go.Sort

set_option maxRecDepth 100000 in
theorem clone_kq (w : World) (ao : Option Addr) (n cap : Nat) (L : List K) (hn : n = L.length) (h : KeysAt w ao L) (hnil : ao = none → cap = 0) (hm : n ≤ 1000000) :
    Calls Try.prog 16 #[.slice ao n cap] w fun e w' => ∃ v, e = .returned v ∧ OwnK w' w.heap.size v L ∧ Below w.heap.size w w' := by
  have q22 : ∀ (w : World) (a : Option Addr) (n c n' c' : Nat), (binOp .eql 30 (.slice a n c) (.slice none n' c')).run Try.prog w = .ok (.bool a.isNone) w := fun w a n c n' c' => Lib.run_eql_slice_nil w _ _ a n c n' c' Try.underlying30
  cases ao with
  | none =>
    have h0 : L = [] := by
      rcases h with h | ⟨b, off, e, _⟩
      · exact h
      · cases e
    subst h0
    clear h hnil
    go_enter Try.func16, Try.ntmps16
    go_wp2
    go_ret
    exact ⟨_, rfl, OwnK.nil _ _, Below.refl _ _⟩
  | some ad =>
    have HX : Hid (∀ j u, (cks L)[j]? = some u → (w.alloc (.cells #[] 47)).cell? (ad.add j) = some u) := fun j u hu => by
      rcases h with h0 | ⟨b, off, e, hc⟩
      · subst h0; simp [cks] at hu
      · cases e; rw [addr_add]; exact Lib.cell?_alloc_some _ (hc j u hu)
    have HL : Hid (n = L.length) := hn
    have HO : Hid ((w.alloc (.cells #[] 47)).ownsRow w.heap.size 47 2 (.slice (some ⟨w.heap.size, 0, none⟩) 0 0) 0 []) := World.ownsRow_made w #[] 0 (Nat.le_refl _) (Nat.zero_le _) (by simp)
    clear h hn hnil
    go_enter Try.func16, Try.ntmps16
    go_wp2_with (at_builtin; refine wpL_app rfl _ _ 30 rfl (.slice (some ⟨w.heap.size, 0, none⟩) 0 0) (.slice (some ad) n cap) rfl rfl (post := fun v' w' => w'.ownsRow w.heap.size 47 2 v' (0 + n) ([] ++ cks L) ∧ (w.alloc (.cells #[] 47)).grownBy w' (some w.heap.size)) (fun ty => by obtain ⟨v', w', hr, h2, h3, _⟩ := run_append_E elK ty w.heap.size _ 0 [] HO.out ad n cap (cks L) (by rw [cks_length, HL.out]) HX.out (cks_one L) (by omega) (by simp); exact ⟨v', w', hr, h2, h3⟩) ?_; rintro v' w1 ⟨hown, hgrow⟩)
    go_ret
    exact ⟨v', rfl, by rw [Nat.zero_add, List.nil_append, HL.out] at hown; exact hown, ((Below.refl _ w).alloc (Nat.le_refl _) _).grown hgrow (by simp) (by intro k hk; simp at hk; omega)⟩
theorem infoLs : (Try.prog.info? 30).map (fun i => (i.zero, i.size, i.bytes)) = some (some (.slice none 0 0), 1, 24) := by kernel_rfl
theorem make_ls (c : Nat) (hc : c ≤ 100000) (u : World) : (Instr.makeSlice 26 (.int .i64 (c : Int)) (.int .i64 (c : Int))).run Try.prog u =
    .ok (.slice (some ⟨u.heap.size, 0, none⟩) c c) (u.alloc (.cells ((List.range c).map fun _ => Value.slice none 0 0).toArray 30)) := by
  obtain ⟨i0, hi, hz0, hz1, hz2⟩ := info_parts infoLs
  have h := run_make (P := Try.prog) u 26 30 i0 (.slice none 0 0) Try.underlying26 hi hz0 .i64 .i64 (c : Int) (c : Int) (by omega) (Int.le_refl _) (by rw [hz2]; omega) (by omega)
  have e : madeCells #[.slice none 0 0] c = ((List.range c).map fun _ => Value.slice none 0 0).toArray := by
    apply Array.ext'
    apply List.ext_getElem?
    intro j
    by_cases hj : j < c
    · simp [madeCells, hj, Nat.mod_one]
    · simp [madeCells, hj]
  rw [← e]
  simpa [hz1, Value.cells] using h
/-- k of the n sets are laid -/
structure WsAt (w W : World) (n k : Nat) (Bs : List Bx) (vs : Nat → Value) (lo : Nat → Nat) : Prop where
  row : W.heap[w.heap.size]? = some (.cells ((List.range n).map fun i => if i < k then vs i else .slice none 0 0).toArray 30 (0, 0))
  own : ∀ i, i < k → OwnK W (lo i) (vs i) (bd Bs i).t.writes ∧ ∀ g, (vs i).ownBlock = some g → g < lo (i + 1)
  lo0 : w.heap.size + 1 ≤ lo 0
  mono : ∀ i, i < k → lo i ≤ lo (i + 1)
  lok : lo k ≤ W.heap.size
  bel : Below w.heap.size w W
theorem WsAt.lt {w W : World} {n k : Nat} {Bs : List Bx} {vs : Nat → Value} {lo : Nat → Nat} (h : WsAt w W n k Bs vs lo) : w.heap.size < W.heap.size := (Array.getElem?_eq_some_iff.1 h.row).1
theorem WsAt.ge {w W : World} {n k : Nat} {Bs : List Bx} {vs : Nat → Value} {lo : Nat → Nat} (h : WsAt w W n k Bs vs lo) : ∀ i, i ≤ k → w.heap.size + 1 ≤ lo i
  | 0, _ => h.lo0
  | i + 1, hi => Nat.le_trans (h.ge i (by omega)) (h.mono i (by omega))
theorem WsAt.kept {w W W' : World} {n k : Nat} {Bs : List Bx} {vs : Nat → Value} {lo : Nat → Nat} (h : WsAt w W n k Bs vs lo) (hb : Below W.heap.size W W') : WsAt w W' n k Bs vs lo :=
  ⟨(hb.block _ h.lt).trans h.row, fun i hi => ⟨(h.own i hi).1.kept hb, (h.own i hi).2⟩, h.lo0, h.mono, Nat.le_trans h.lok hb.size, h.bel.trans (hb.mono h.bel.size)⟩
theorem WsAt.put {w W : World} {n k : Nat} {Bs : List Bx} {vs : Nat → Value} {lo : Nat → Nat} (h : WsAt w W n k Bs vs lo) (hk : k < n) {v : Value} {base : Nat} (hb : lo k ≤ base) (ho : OwnK W base v (bd Bs k).t.writes) :
    WsAt w (W.setCell ⟨w.heap.size, k, none⟩ v) n (k + 1) Bs (fun i => if i = k then v else vs i) (fun i => if i ≤ k then lo i else W.heap.size) := by
  have hs : ∀ G, G ≠ w.heap.size → (W.setCell ⟨w.heap.size, k, none⟩ v).heap[G]? = W.heap[G]? := fun G hG => heap_setCell_other W ⟨w.heap.size, k, none⟩ G v hG
  refine ⟨?_, fun i hi => ?_, ?_, fun i hi => ?_, ?_, bset h.bel _ (Nat.le_refl _)⟩
  · have := heap_setCell_same W w.heap.size k _ _ v h.row
    rw [this]
    congr 2
    apply Array.ext'
    apply List.ext_getElem?
    intro j
    by_cases hj : j < n
    · by_cases hjk : j = k
      · subst hjk; simp [hj]
      · simp only [Array.toList_setIfInBounds, List.getElem?_set_ne (Ne.symm hjk), List.getElem?_map, List.getElem?_range hj, Option.map_some, if_neg hjk]
        by_cases h1 : j < k
        · rw [if_pos h1, if_pos (by omega)]
        · rw [if_neg h1, if_neg (by omega)]
    · simp [hj]
  · by_cases e : i = k
    · subst e
      simp only [if_true, Nat.le_refl, if_neg (show ¬ i + 1 ≤ i by omega)]
      have hlt := World.ownsRow.lt ho
      exact ⟨(ho.mono hb).same (fun g hg => hs g (by have := (hlt g hg).1; have := h.ge i (Nat.le_refl _); omega)), fun g hg => (hlt g hg).2⟩
    · have hi' : i < k := by omega
      simp only [if_neg e, if_pos (show i ≤ k by omega), if_pos (show i + 1 ≤ k by omega)]
      have hlt := (h.own i hi').1.lt
      exact ⟨(h.own i hi').1.same (fun g hg => hs g (by have := (hlt g hg).1; have := h.ge i (by omega); omega)), (h.own i hi').2⟩
  · simp only [Nat.zero_le, if_true]; exact h.lo0
  · by_cases e : i = k
    · subst e
      simp only [Nat.le_refl, if_true, if_neg (show ¬ i + 1 ≤ i by omega)]
      exact h.lok
    · simp only [if_pos (show i ≤ k by omega), if_pos (show i + 1 ≤ k by omega)]
      exact h.mono i (by omega)
  · simp only [if_neg (show ¬ k + 1 ≤ k by omega)]
    simp

set_option maxRecDepth 100000 in
set_option maxHeartbeats 2000000 in
theorem writes_any (w : World) (ao : Option Addr) (n cap : Nat) (Bs : List Bx) (h : BatAt w ao Bs) (hn : n = Bs.length) (hs : Sm n Bs) :
    Calls Try.prog 7 #[.slice ao n cap] w fun e w' => e = .returned (.slice (some ⟨w.heap.size, 0, none⟩) n n) ∧ ∃ vs lo, WsAt w w' n n Bs vs lo := by
  have H : Hid (∀ W, Below w.heap.size w W → BatAt W ao Bs) := fun W hW => h.kept hW
  have HN : Hid (n = Bs.length) := hn
  have HS : Hid (Sm n Bs) := hs
  have hm := hs.1
  clear h hn hs
  have hmk := make_ls n hm
  have HW0 : Hid (WsAt w (w.alloc (.cells ((List.range n).map fun _ => Value.slice none 0 0).toArray 30)) n 0 Bs (fun _ => .slice none 0 0) (fun _ => w.heap.size + 1)) :=
    ⟨(heap_alloc_new _ _ rfl).trans (by simp), fun i hi => by omega, Nat.le_refl _, fun i hi => by omega, by simp, (Below.refl _ _).alloc (Nat.le_refl _) _⟩
  go_enter Try.func7, Try.ntmps7
  go_wp2_with fail
  clear hmk
  go_loopw [11] (fun x wr => ∃ k : Nat, k ≤ n ∧ x = .int .i64 (k : Int) ∧ Hid (∃ vs lo, WsAt w wr n k Bs vs lo)) (fun x _ => n - (intOf x).toNat)
  case atStart => exact ⟨0, Nat.zero_le _, rfl, _, _, HW0.out⟩
  case round =>
    clear HW0
    obtain ⟨k, hk, rfl, HW⟩ := hrel
    by_cases hlt : k < n
    · have hlt' : k < Bs.length := by have := HN.out; omega
      obtain ⟨vs, lo, hws⟩ := HW.out
      have HWs : Hid (WsAt w wr n k Bs vs lo) := hws
      have hbt := H.out wr hws.bel
      obtain ⟨b, off, rfl, c0, c1, c2, c3⟩ := TxsAt.get hbt.at_ k hlt'
      have HO : Hid (BxOK wr (bd Bs k)) := hbt.lst k hlt'
      have hw : (bd Bs k).t.writes.length ≤ 100000 := (HS.out.2 _ (bd_mem hlt')).2.2
      have HP : Hid (∀ (W : World) base v, WsAt w W n k Bs vs lo → lo k ≤ base → OwnK W base v (bd Bs k).t.writes → ∃ vs lo, WsAt w (W.setCell ⟨w.heap.size, k, none⟩ v) n (k + 1) Bs vs lo) := fun W base v h1 h2 h3 => ⟨_, _, h1.put hlt h2 h3⟩
      clear hws hbt HW
      generalize bd Bs k = x at *
      obtain ⟨⟨proc, args, reads, writes⟩, aA, cA, aR, cR, aW, cW⟩ := x
      simp only at c0 c1 c2 c3 hw
      generalize args.length = na at *
      generalize reads.length = nr at *
      obtain ⟨nw, hnw⟩ : ∃ nw, nw = writes.length := ⟨_, rfl⟩
      rw [← hnw] at c3 hw
      have HNw : Hid (nw = writes.length) := hnw
      clear hnw
      have HB1 : Hid (Below wr.heap.size wr (wr.alloc (.cells #[.int .i64 proc, .slice aA na cA, .slice aR nr cR, .slice aW nw cW] 43))) := (Below.refl _ _).alloc (Nat.le_refl _) _
      have HW1 : Hid (WsAt w (wr.alloc (.cells #[.int .i64 proc, .slice aA na cA, .slice aR nr cR, .slice aW nw cW] 43)) n k Bs vs lo) := HWs.out.kept HB1.out
      have HK1 : Hid (KeysAt (wr.alloc (.cells #[.int .i64 proc, .slice aA na cA, .slice aR nr cR, .slice aW nw cW] 43)) aW writes ∧ (aW = none → cW = 0)) := ⟨(HO.out.kept HB1.out).writes, HO.out.nilW⟩
      have HLk : Hid (lo k ≤ (wr.alloc (.cells #[.int .i64 proc, .slice aA na cA, .slice aR nr cR, .slice aW nw cW] 43)).heap.size) := HW1.out.lok
      go_wp2_with fail
      refine (clone_kq _ aW nw cW writes HNw.out HK1.out.1 HK1.out.2 (by omega)).mono ?_
      rintro e w2 ⟨v, rfl, ho2, hb2⟩
      have HW2 : Hid (WsAt w w2 n k Bs vs lo) := HW1.out.kept hb2
      have HF : Hid (∃ vs lo, WsAt w (w2.setCell ⟨w.heap.size, k, none⟩ v) n (k + 1) Bs vs lo) := HP.out w2 _ v HW2.out HLk.out ho2
      have hfz := frozen_of_row w2 w.heap.size k _ _ HW2.out.row
      obtain ⟨av, cv, ev, _, _, _⟩ := ho2.slice
      rw [← HNw.out] at ev
      subst ev
      have hcl : ∃ u, w2.cell? ⟨w.heap.size, k, none⟩ = some u := by
        simp only [World.cell?, HW2.out.row]
        simp [hlt]
      obtain ⟨u, hcl⟩ := hcl
      clear ho2 hb2 HW1 HB1 HK1 HLk HP HWs c0 c1 c2 c3
      go_wp2_with fail
      go_roundw
      case rel => exact ⟨k + 1, by omega, by go_num, HF⟩
      case measure => simp [intOf]; omega
    · obtain rfl : k = n := by omega
      go_wp2
      go_ret
      exact ⟨rfl, HW.out⟩
end Go.Proofs.Ytglodmmmcdjgcaa.Kk
/-
  THE SHELF WITH SETS THAT MAY HAVE ROOM BEHIND THEM, AND LISTS OF SETS (layer 6, Writes).
-/
namespace Go.Proofs.Ytglodmmmcdjgcaa.Kk
open Go.RowKit Go.Sort

/-- a list that was handed out: its block, its length, its room -/
abbrev Ic := Option Nat × Nat × Nat
def icv (x : Ic) : Value := .slice (x.1.map fun g => ⟨g, 0, none⟩) x.2.1 x.2.2
/-- its row -/
def Rc (W : World) (lo hi : Nat) (x : Ic) : Prop := match x.1 with
  | none => x.2.1 = 0 ∧ x.2.2 = 0
  | some g => lo ≤ g ∧ g < hi ∧ x.2.1 ≤ x.2.2 ∧ x.2.2 ≤ maxLen ∧ ∃ cur, W.heap[g]? = some (.cells cur 47 (0, 0)) ∧ cur.size = x.2.2 * 2
theorem Rc.at {W : World} {lo hi g n c : Nat} (h : Rc W lo hi (some g, n, c)) : lo ≤ g ∧ g < hi ∧ n ≤ c ∧ c ≤ maxLen ∧ ∃ cur, W.heap[g]? = some (.cells cur 47 (0, 0)) ∧ cur.size = c * 2 := h
theorem Rc.nat0 {W : World} {lo hi n c : Nat} (h : Rc W lo hi (none, n, c)) : n = 0 ∧ c = 0 := h
theorem Rc.below {W W' : World} {lo hi B : Nat} {x : Ic} (h : Rc W lo hi x) (hb : Below B W W') (hB : hi ≤ B) : Rc W' lo hi x := by
  obtain ⟨o, n, c⟩ := x
  cases o with
  | none => exact h
  | some g =>
    obtain ⟨h1, h2, h5, h6, cur, h3, h4⟩ := h.at
    exact ⟨h1, h2, h5, h6, cur, (hb.block g (by omega)).trans h3, h4⟩
theorem Rc.set {W : World} {lo hi : Nat} {x : Ic} (h : Rc W lo hi x) (a : Nat) (j : Nat) (v : Value) : Rc (W.setCell ⟨a, j, none⟩ v) lo hi x := by
  obtain ⟨o, n, c⟩ := x
  cases o with
  | none => exact h
  | some g =>
    obtain ⟨h1, h2, h5, h6, cur, h3, h4⟩ := h.at
    by_cases e : g = a
    · subst e
      exact ⟨h1, h2, h5, h6, _, heap_setCell_same W g j _ _ v h3, by simpa using h4⟩
    · exact ⟨h1, h2, h5, h6, cur, (heap_setCell_other W ⟨a, j, none⟩ g v e).trans h3, h4⟩
theorem Rc.lo {W : World} {lo hi g : Nat} {x : Ic} (h : Rc W lo hi x) (e : x.1 = some g) : lo ≤ g ∧ g < hi := by
  obtain ⟨o, n⟩ := x
  simp only at e
  subst e
  exact ⟨h.at.1, h.at.2.1⟩
/-- a set of one's own, as an item -/
theorem OwnK.ic {W : World} {base : Nat} {v : Value} {L : List K} (h : OwnK W base v L) : ∃ x : Ic, v = icv x ∧ x.2.1 = L.length ∧ ∀ hi, (∀ g, v.ownBlock = some g → g < hi) → Rc W base hi x := by
  rcases h.2 with ⟨rfl, h0⟩ | ⟨g, cap, cur, rfl, hb, hh, hn, hm, hs, _⟩
  · exact ⟨(none, 0, 0), rfl, h0.symm, fun hi _ => ⟨rfl, rfl⟩⟩
  · exact ⟨(some g, L.length, cap), rfl, rfl, fun hi hg => ⟨hb, hg g rfl, hn, hm, cur, hh, hs⟩⟩
theorem Rc.own {W : World} {lo hi : Nat} {x : Ic} (h : Rc W lo hi x) : ∃ xs, W.ownsRow lo 47 2 (icv x) x.2.1 xs := by
  obtain ⟨o, n, c⟩ := x
  cases o with
  | none =>
    obtain ⟨h1, h2⟩ := h.nat0
    subst h1 h2
    exact ⟨[], World.ownsRow_nil _ _ _ _⟩
  | some g =>
    obtain ⟨h1, h2, h5, h6, cur, h3, h4⟩ := h.at
    refine ⟨cur.toList.take (n * 2), ?_, .inr ⟨g, c, cur, rfl, h1, h3, h5, h6, h4, rfl⟩⟩
    show (cur.toList.take (n * 2)).length = n * 2
    rw [List.length_take, Array.length_toList, h4]; omega
def RsC (L : List Ic) : Prop := L.Pairwise fun x y => ∀ g h, x.1 = some g → y.1 = some h → g < h
theorem RsC.ne {L : List Ic} (h : RsC L) {i j : Nat} (hi : i < L.length) (hj : j < L.length) (hij : i ≠ j) {g k : Nat} (e1 : L[i].1 = some g) (e2 : L[j].1 = some k) : g ≠ k := by
  rcases Nat.lt_or_ge i j with h1 | h1
  · have := (List.pairwise_iff_getElem.1 h) i j hi hj h1 g k e1 e2; omega
  · have := (List.pairwise_iff_getElem.1 h) j i hj hi (by omega) k g e2 e1; omega
theorem RsC.snoc {L : List Ic} {x : Ic} (h : RsC L) (hx : ∀ y ∈ L, ∀ g k, y.1 = some g → x.1 = some k → g < k) : RsC (L ++ [x]) := by
  unfold RsC at *
  rw [List.pairwise_append]
  exact ⟨h, List.pairwise_singleton _ _, fun y hy z hz => by simp at hz; subst hz; exact hx y hy⟩
/-- the first i sets are marked -/
def UpC (W : World) (L : List Ic) (i : Nat) : Prop := ∀ i' (h : i' < L.length), i' < i → ∀ g, L[i'].1 = some g → Mrk W g 2 L[i'].2.1 (patK i')
theorem UpC.other {W W' : World} {L : List Ic} {i : Nat} (h : UpC W L i) (hs : ∀ i' (h : i' < L.length), i' < i → ∀ g, L[i'].1 = some g → W'.heap[g]? = W.heap[g]?) : UpC W' L i := fun i' hl hi g e => (h i' hl hi g e).other (hs i' hl hi g e)
theorem UpC.step {W : World} {L : List Ic} {i : Nat} (h : UpC W L i) (hi : i < L.length) (hm : ∀ g, L[i].1 = some g → Mrk W g 2 L[i].2.1 (patK i)) : UpC W L (i + 1) := fun i' hl hi' g e => by
  by_cases e2 : i' = i
  · subst e2; exact hm g e
  · exact h i' hl (by omega) g e
theorem UpC.zero (W : World) (L : List Ic) : UpC W L 0 := fun i' _ h => by omega
/-- the first k of a list of sets hold one key each, the i-th mark, in blocks from H on -/
def OMk (W : World) (H g k i : Nat) : Prop := ∀ j, j < k → ∃ h, W.cell? ⟨g, j, none⟩ = some (.slice (some ⟨h, 0, none⟩) 1 1) ∧ H ≤ h ∧ W.heap[h]? = some (.cells #[.int .i64 (-50 - (i : Int)), .int .i64 0] 47 (0, 0))
def OUp (W : World) (H : Nat) (L : List It) (i : Nat) : Prop := ∀ i' (h : i' < L.length), i' < i → ∀ g, L[i'].1 = some g → OMk W H g L[i'].2 i'
theorem OMk.same {W W' : World} {H g k i : Nat} (h : OMk W H g k i) (hs : W'.heap[g]? = W.heap[g]?) (hH : ∀ G, H ≤ G → G < W.heap.size → W'.heap[G]? = W.heap[G]?) : OMk W' H g k i := fun j hj => by
  obtain ⟨x, h1, h2, h3⟩ := h j hj
  refine ⟨x, ?_, h2, (hH x h2 (Array.getElem?_eq_some_iff.1 h3).1).trans h3⟩
  simp only [World.cell?] at h1 ⊢
  rw [hs]; exact h1
/-- THE SHELF -/
structure SW (w0 W : World) (B : Nat) (aK : Option Addr) (cK : Nat) (aO : Option Addr) (cO : Nat) (Ks : List Ic) (Os : List It) : Prop where
  bx : W.heap[B]? = some (.cells #[.slice none 0 0, .slice aK Ks.length cK, .slice none 0 0, .slice aO Os.length cO, .slice none 0 0] 37 (0, 0))
  oK : W.ownsRow (B + 1) 30 1 (.slice aK Ks.length cK) Ks.length (Ks.map icv)
  oO : OwnS 26 W (B + 1) (.slice aO Os.length cO) Os
  rK : ∀ x ∈ Ks, Rc W w0.heap.size B x
  rO : ∀ x ∈ Os, Rw W 30 1 w0.heap.size B x
  sK : RsC Ks
  sO : Rs Os
  lK : ∀ x ∈ Ks, x.2.1 ≤ 100000
  lO : ∀ x ∈ Os, x.2 ≤ 100000
  n : Ks.length ≤ 200000 ∧ Os.length ≤ 2
  bel : Below w0.heap.size w0 W
  ge : w0.heap.size ≤ B
section
variable {w0 W W' : World} {B : Nat} {aK : Option Addr} {cK : Nat} {aO : Option Addr} {cO : Nat} {Ks : List Ic} {Os : List It}
theorem SW.lt (h : SW w0 W B aK cK aO cO Ks Os) : B < W.heap.size := (Array.getElem?_eq_some_iff.1 h.bx).1
theorem SW.kept (h : SW w0 W B aK cK aO cO Ks Os) (hb : Below W.heap.size W W') : SW w0 W' B aK cK aO cO Ks Os :=
  have hB := Nat.le_of_lt h.lt
  ⟨(hb.block _ h.lt).trans h.bx, ownsRow_same h.oK fun g hg => hb.block g (World.ownsRow.lt h.oK g hg).2, h.oO.kept hb, fun x hx => (h.rK x hx).below hb hB, fun x hx => (h.rO x hx).below hb hB, h.sK, h.sO, h.lK, h.lO, h.n, h.bel.trans (hb.mono h.bel.size), h.ge⟩
theorem SW.cells (h : SW w0 W B aK cK aO cO Ks Os) : W.cell? ⟨B, 0, none⟩ = some (.slice none 0 0) ∧ W.cell? ⟨B, 1, none⟩ = some (.slice aK Ks.length cK) ∧ W.cell? ⟨B, 2, none⟩ = some (.slice none 0 0) ∧ W.cell? ⟨B, 3, none⟩ = some (.slice aO Os.length cO) ∧ W.cell? ⟨B, 4, none⟩ = some (.slice none 0 0) := by
  refine ⟨?_, ?_, ?_, ?_, ?_⟩ <;> simp [World.cell?, h.bx]
theorem SW.elK (h : SW w0 W B aK cK aO cO Ks Os) (i : Nat) (hi : i < Ks.length) : ∃ hg, aK = some ⟨hg, 0, none⟩ ∧ W.cell? ⟨hg, i, none⟩ = some (icv Ks[i]) := by
  obtain ⟨hl, h⟩ := h.oK
  rcases h with ⟨h1, h2⟩ | ⟨g, cap, cur, e, hb, hg, hn, hm, hs, ht⟩
  · omega
  · simp only [Value.slice.injEq] at e
    obtain ⟨rfl, _, _⟩ := e
    refine ⟨g, rfl, ?_⟩
    have e2 := World.ownsRow.cellAt (w := W) (base := B + 1) (e := 30) (size := 1) (g := g) (cap := cap) (n := Ks.length) (xs := Ks.map icv) ⟨hl, .inr ⟨g, cap, cur, rfl, hb, hg, hn, hm, hs, ht⟩⟩ i (by omega)
    rw [e2]
    simp [hi]
/-- a store into a list's row -/
theorem SW.set (h : SW w0 W B aK cK aO cO Ks Os) (g j : Nat) (v : Value) (h1 : w0.heap.size ≤ g) (h2 : g < B) : SW w0 (W.setCell ⟨g, j, none⟩ v) B aK cK aO cO Ks Os := by
  have hs : ∀ k, B ≤ k → (W.setCell ⟨g, j, none⟩ v).heap[k]? = W.heap[k]? := fun k hk => heap_setCell_other W ⟨g, j, none⟩ k v (by show k ≠ g; omega)
  exact ⟨(hs B (Nat.le_refl _)).trans h.bx, ownsRow_same h.oK fun k hk => hs k (by have := (World.ownsRow.lt h.oK k hk).1; omega), h.oO.same fun k hk => hs k (by have := (h.oO.lt k hk).1; omega), fun x hx => (h.rK x hx).set _ _ _, fun x hx => (h.rO x hx).set _ _ _, h.sK, h.sO, h.lK, h.lO, h.n, bset h.bel _ h1, h.ge⟩
end
/-- append to a row of the call's own: in its room, or to a new row -/
theorem run_append_C {TS TE : TypeId} {z : Value} {sz by_ : Nat} (E : El TS TE z sz by_) {w : World} (ty : TypeId) (base : Nat) (v : Value) (n : Nat) (xs : List Value) (hown : w.ownsRow base TE sz v n xs) (a : Addr) (m c : Nat) (news : List Value) (hl : news.length = m * sz) (hnews : ∀ j u, news[j]? = some u → w.cell? (a.add j) = some u) (h1 : ∀ u ∈ news, u.oneCell' = true) (hn : n + m ≤ 1000000000) (hbase : base ≤ w.heap.size) :
    ∃ v' w', (Builtin.append_ #[TS, TS] ty #[v, .slice (some a) m c]).run Try.prog w = .ok v' w' ∧ w'.ownsRow base TE sz v' (n + m) (xs ++ news) ∧
      ((∃ g cap, v = .slice (some ⟨g, 0, none⟩) n cap ∧ v' = .slice (some ⟨g, 0, none⟩) (n + m) cap ∧ w.grownBy w' (some g)) ∨ (w'.ownsRow w.heap.size TE sz v' (n + m) (xs ++ news) ∧ w.grownBy w' none)) := by
  have hown0 := hown
  obtain ⟨i0, hi', hz0, hz1, hz2⟩ := info_parts E.i
  have hb := E.b
  have hm : (n + m) * by_ ≤ 1000000000 * 80 := Nat.mul_le_mul hn hb
  rcases hown with ⟨hlx, ⟨rfl, rfl⟩ | ⟨g, cap, cur, rfl, hbg, hh, hnc, hcm, hcs, ht⟩⟩
  · have h0 : xs = [] := List.eq_nil_of_length_eq_zero (by rw [hlx, Nat.zero_mul])
    subst h0
    obtain ⟨v', w', hr, h2, h3, _⟩ := run_append_E E (w := w) ty w.heap.size (.slice none 0 0) 0 [] (World.ownsRow_nil _ _ _ _) a m c news hl hnews h1 hn (Nat.le_refl _)
    exact ⟨v', w', hr, ownsRow_mono h2 hbase, .inr ⟨h2, h3⟩⟩
  · by_cases hroom : n + m ≤ cap
    · obtain ⟨w', hr, h2, h3⟩ := run_append_own_spare (P := Try.prog) (w := w) base TS ty TE i0 sz E.u hi' hz1 g n cap xs hown0 a m c news hl hnews h1 hroom
      exact ⟨_, w', hr, h2, .inl ⟨g, cap, rfl, rfl, h3⟩⟩
    · have hfit : Builtin.nextslicecap (n + m) cap * i0.bytes ≤ 281474976710656 := growslice_fits (by omega) (by rw [hz2]; omega)
      have hr := run_append_grow (P := Try.prog) w TS ty TE i0 z E.u hi' hz0 ⟨g, 0, none⟩ n cap xs (by rw [hz1]; exact hlx) (World.ownsRow.cells hown0 rfl) a m c news (by rw [hz1]; exact hl) hnews (by omega) (by omega) hfit
      have hlen : (xs ++ news).length = (n + m) * sz := by rw [List.length_append, hl, hlx, Nat.add_mul]
      have hO : (w.drew.alloc (.cells (xs.toArray ++ news.toArray ++ Builtin.zeroCells z.cells (grownCap w (n + m) cap TE - (n + m))) TE)).ownsRow w.heap.size TE sz (.slice (some ⟨w.heap.size, 0, none⟩) (n + m) (grownCap w (n + m) cap TE)) (n + m) (xs ++ news) := by
        refine ⟨hlen, .inr ⟨w.heap.size, _, _, rfl, Nat.le_refl _, Go.heap_alloc_new w.drew _, grownCap_ge w (n + m) cap TE, grownCap_le_maxLen w (n + m) cap TE (by unfold maxLen; omega), ?_, ?_⟩⟩
        · have hge := grownCap_ge w (n + m) cap TE
          simp only [Array.size_append, List.size_toArray, size_zeroCells, E.c, hl, hlx]
          generalize grownCap w (n + m) cap TE = G at *
          rw [← Nat.add_mul, ← Nat.add_mul, show n + m + (G - (n + m)) = G by omega]
        · simp only [Array.toList_append, List.append_assoc]
          rw [← List.append_assoc, ← hlen]
          exact List.take_left
      exact ⟨_, _, hr, ownsRow_mono hO hbase, .inr ⟨hO, ⟨rfl, rfl, rfl, by simp, fun k hk _ => Go.heap_alloc_old w.drew _ hk⟩⟩⟩
/-- what the room behind the sets hides -/
structure Spr (w W : World) (Ks : List Ic) : Prop where
  os : W.os = w.os
  tape : W.tape = w.tape
  output : W.output = w.output
  size : w.heap.size ≤ W.heap.size
  block : ∀ G, G < w.heap.size → (∀ x ∈ Ks, x.1 ≠ some G) → W.heap[G]? = w.heap[G]?
  row : ∀ i (h : i < Ks.length), ∀ g, Ks[i].1 = some g → g < w.heap.size → ∀ cur, w.heap[g]? = some (.cells cur 47 (0, 0)) → ∃ cur', W.heap[g]? = some (.cells cur' 47 (0, 0)) ∧ cur'.size = cur.size ∧ ∀ j, j < Ks[i].2.1 * 2 → cur'[j]? = cur[j]?
theorem Spr.refl (w : World) (Ks : List Ic) : Spr w w Ks := ⟨rfl, rfl, rfl, Nat.le_refl _, fun _ _ _ => rfl, fun _ _ _ _ _ cur h => ⟨cur, h, rfl, fun _ _ => rfl⟩⟩
theorem Spr.up {w W W' : World} {Ks : List Ic} (h : Spr w W Ks) (hb : Below w.heap.size W W') : Spr w W' Ks :=
  ⟨hb.os.trans h.os, hb.tape.trans h.tape, hb.output.trans h.output, Nat.le_trans h.size hb.size, fun G hG hx => (hb.block G hG).trans (h.block G hG hx), fun i hi g e hg cur hc => by
    obtain ⟨cur', h1, h2⟩ := h.row i hi g e hg cur hc
    exact ⟨cur', (hb.block g hg).trans h1, h2⟩⟩
/-- the i-th set's row turns, behind its end -/
theorem Spr.room {w W W' : World} {Ks : List Ic} (h : Spr w W Ks) (hr : RsC Ks) {i : Nat} (hi : i < Ks.length) {g : Nat} (e : Ks[i].1 = some g) (hg : W.grownBy W' (some g)) {cu cu' : Array Value} (h1 : W.heap[g]? = some (.cells cu 47 (0, 0))) (h2 : W'.heap[g]? = some (.cells cu' 47 (0, 0))) (h3 : cu'.size = cu.size) (h4 : ∀ j, j < Ks[i].2.1 * 2 → cu'[j]? = cu[j]?) : Spr w W' Ks := by
  refine ⟨hg.os.trans h.os, hg.tape.trans h.tape, hg.output.trans h.output, Nat.le_trans h.size hg.size, fun G hG hx => ?_, fun i' hi' g' e' hg' cur hc => ?_⟩
  · refine (hg.block G (Nat.lt_of_lt_of_le hG h.size) (fun e2 => ?_)).trans (h.block G hG hx)
    cases e2
    exact hx _ (List.getElem_mem hi) e
  · obtain ⟨cur', h5, h6, h7⟩ := h.row i' hi' g' e' hg' cur hc
    by_cases hii : i' = i
    · subst hii
      rw [e] at e'
      cases e'
      rw [h1] at h5
      simp only [Option.some.injEq, Obj.cells.injEq, and_true] at h5
      subst h5
      exact ⟨cu', h2, h3.trans h6, fun j hj => (h4 j hj).trans (h7 j hj)⟩
    · have hne := hr.ne hi' hi hii e' e
      exact ⟨cur', (hg.block g' (Nat.lt_of_lt_of_le hg' h.size) (fun e2 => by cases e2; exact hne rfl)).trans h5, h6, h7⟩
theorem Spr.rc {w W : World} {Ks : List Ic} (h : Spr w W Ks) {lo hi : Nat} {i : Nat} (hil : i < Ks.length) (hr : Rc w lo hi Ks[i]) (hh : hi ≤ w.heap.size) : Rc W lo hi Ks[i] := by
  generalize hx : Ks[i] = x at *
  obtain ⟨o, n, c⟩ := x
  cases o with
  | none => exact hr
  | some g =>
    obtain ⟨h1, h2, h3, h4, cur, h5, h6⟩ := hr.at
    obtain ⟨cur', h7, h8, _⟩ := h.row i hil g (by rw [hx]) (by omega) cur h5
    exact ⟨h1, h2, h3, h4, cur', h7, h8.trans h6⟩
end Go.Proofs.Ytglodmmmcdjgcaa.Kk
