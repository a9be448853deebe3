import Derived.Test.YtlilaicgmdbhcaaJ03
import Derived.Deep.QuietTactic
import Derived.Test.YtlilaicgmdbhcaaJ12
import Derived.Test.YtlilaicgmdbhcaaJ22
import Derived.Deep.RegionHeld3
/-
  THE WALK OF sameBytes.
-/
namespace Go.Proofs.Ytlilaicgmdbhcaa
open Go.RowKit

theorem list_eq_of_getD {xs ys : List Nat} (hl : xs.length = ys.length) (h : ∀ j, j < xs.length → xs.getD j 0 = ys.getD j 0) : xs = ys := by
  apply List.ext_getElem hl
  intro i h1 h2
  have := h i h1
  simpa [List.getD_eq_getElem?_getD, List.getElem?_eq_getElem h1, List.getElem?_eq_getElem h2] using this

set_option maxHeartbeats 400000 in
theorem same_cells (w : World) (b off ca d doff cb : Nat) (xs ys : List Nat) (hl : xs.length = ys.length) (hm : xs.length ≤ maxLen)
    (hca : ∀ j, j < xs.length → w.cell? ⟨b, off + j, none⟩ = some (.int .u8 ((xs.getD j 0 : Nat) : Int)))
    (hcb : ∀ j, j < ys.length → w.cell? ⟨d, doff + j, none⟩ = some (.int .u8 ((ys.getD j 0 : Nat) : Int))) :
    Calls Try.prog 12 #[.slice (some ⟨b, off, none⟩) xs.length ca, .slice (some ⟨d, doff, none⟩) xs.length cb] w fun e w' => e = .returned (.bool (decide (xs = ys))) ∧ ∃ n, w' = w.drewN n := by
  unfold maxLen at hm
  go_enter Try.func12, Try.ntmps12
  go_wp2
  go_loopw [5] (fun i wr => ∃ k n : Nat, k ≤ xs.length ∧ i = .int .i64 k ∧ Hid (∀ j, j < k → xs.getD j 0 = ys.getD j 0) ∧ wr = w.drewN n) (fun i _ => xs.length - (intOf i).toNat)
  case atStart => exact ⟨0, 0, Nat.zero_le _, rfl, fun j hj => by omega, rfl⟩
  case round =>
    obtain ⟨k, n, hk, rfl, hall, rfl⟩ := hrel
    by_cases hlt : k < xs.length
    · have h1 := hca k hlt
      have h2 := hcb k (by omega)
      clear hca hcb
      have HT : Hid (∀ j, j < k + 1 → xs.getD j 0 = ys.getD j 0) ∨ xs.getD k 0 ≠ ys.getD k 0 := by
        by_cases e : xs.getD k 0 = ys.getD k 0
        · refine .inl fun j hj => ?_
          by_cases hj' : j = k
          · rw [hj', e]
          · exact hall.out j (by omega)
        · exact .inr e
      have HF : Hid (xs.getD k 0 ≠ ys.getD k 0 → decide (xs = ys) = false) := fun h => by
        rw [decide_eq_false_iff_not]; intro e; exact h (by rw [e])
      clear hall
      by_cases e : xs.getD k 0 = ys.getD k 0
      · have hT : (((xs.getD k 0 : Nat) : Int) != ((ys.getD k 0 : Nat) : Int)) = false := by rw [e]; simp
        have HE : Hid (∀ j, j < k + 1 → xs.getD j 0 = ys.getD j 0) := by
          rcases HT with h | h
          · exact h
          · exact absurd e h
        clear HT HF e
        generalize xs.getD k 0 = x at *
        generalize ys.getD k 0 = y at *
        go_wp2
        go_quiet (fail)
        go_wp2
        go_roundw
        case rel => exact ⟨k + 1, _, by omega, by go_num, HE, rfl⟩
        case measure => simp [intOf]; omega
      · have hT : (((xs.getD k 0 : Nat) : Int) != ((ys.getD k 0 : Nat) : Int)) = true := by rw [bne_iff_ne]; omega
        have HE : Hid (decide (xs = ys) = false) := HF.out e
        clear HT HF e
        generalize xs.getD k 0 = x at *
        generalize ys.getD k 0 = y at *
        go_wp2
        go_quiet (fail)
        go_wp2
        go_ret
        exact ⟨by rw [HE.out]; rfl, _, World.drewN_drewN _ _ _⟩
    · have HE : Hid (decide (xs = ys) = true) := by
        rw [Hid, decide_eq_true_iff]
        exact list_eq_of_getD hl fun j hj => hall.out j (by omega)
      clear hca hcb hall
      go_wp2
      go_ret
      exact ⟨by rw [HE.out]; rfl, _, rfl⟩

/-- same, whatever two slices of bytes. -/
theorem same_any (w : World) (ao bo : Option Addr) (ca cb na nb : Nat) (xs ys : List Nat) (hna : na = xs.length) (hnb : nb = ys.length) (hx : BytesAt w ao xs) (hy : BytesAt w bo ys) (hm : xs.length ≤ maxLen) :
    Calls Try.prog 12 #[.slice ao na ca, .slice bo nb cb] w fun e w' => e = .returned (.bool (decide (xs = ys))) ∧ ∃ n, w' = w.drewN n := by
  subst hna hnb
  by_cases hl : xs.length = ys.length
  · by_cases h0 : xs = []
    · subst h0
      have h1 : ys = [] := List.eq_nil_of_length_eq_zero hl.symm
      subst h1
      go_enter Try.func12, Try.ntmps12
      go_wp2
      go_loop [5] (fun i => i = .int .i64 0) (fun i => 0 - (intOf i).toNat)
      case atStart => rfl
      case round =>
        subst hrel
        go_wp2
        go_ret
        exact ⟨rfl, 0, rfl⟩
    · obtain ⟨_, rfl | ⟨b, off, rfl, hc⟩⟩ := hx
      · exact absurd rfl h0
      · obtain ⟨_, rfl | ⟨d, doff, rfl, hd⟩⟩ := hy
        · exact absurd (List.eq_nil_of_length_eq_zero hl) h0
        · rw [← hl]
          exact same_cells w b off ca d doff cb xs ys hl hm hc hd
  · have HE : Hid (decide (xs = ys) = false) := by
      rw [Hid, decide_eq_false_iff_not]; intro e; exact hl (by rw [e])
    have hT : ((xs.length : Int) != (ys.length : Int)) = true := by rw [bne_iff_ne]; omega
    clear hl hx hy
    go_enter Try.func12, Try.ntmps12
    go_wp2
    go_ret
    exact ⟨by rw [HE.out]; rfl, 0, rfl⟩

end Go.Proofs.Ytlilaicgmdbhcaa
/-
  THE WALKS OF THE DOCUMENT's Parts.
-/
namespace Go.Proofs.Ytlilaicgmdbhcaa.Kk
open Go.RowKit Go.Sort

/-- what a library's parts come to -/
def used : List Pr → Nat
  | [] => 0
  | x :: Ps => 1 + x.name.size + x.n + used Ps
theorem used_append (A B : List Pr) : used (A ++ B) = used A + used B := by
  induction A with
  | nil => simp [used]
  | cons x A ih => simp [used, ih]; omega
theorem used_take (Ps : List Pr) (k : Nat) (h : k < Ps.length) : used (Ps.take (k + 1)) = used (Ps.take k) + (1 + (pd Ps k).name.size + (pd Ps k).n) := by
  rw [pd_take Ps k h, used_append]; simp [used]
theorem used_all {Ps : List Pr} : Ps.length ≤ used Ps ∧ ∀ x ∈ Ps, x.name.size ≤ used Ps ∧ x.n ≤ used Ps := by
  induction Ps with
  | nil => simp [used]
  | cons y Ps ih =>
    refine ⟨by simp [used]; omega, fun x hx => ?_⟩
    rcases List.mem_cons.1 hx with rfl | hx
    · simp [used]; omega
    · have := ih.2 x hx
      simp [used]; omega
def PartsPost (n : Nat) (Ps : List Pr) (e : Ending) : Prop := ∃ r : Int, e = .returned (.int .i64 r) ∧ (0 ≤ r → n ≤ 100000 ∧ ∀ x ∈ Ps, x.name.size ≤ 100000 ∧ x.n ≤ 100000) ∧ r ≤ 100000 ∧ -300000000000000 ≤ r
/-- what a batch's parts come to -/
def usedB : List Bx → Nat
  | [] => 0
  | x :: Bs => 1 + x.t.args.length + x.t.reads.length + x.t.writes.length + usedB Bs
theorem usedB_append (A B : List Bx) : usedB (A ++ B) = usedB A + usedB B := by
  induction A with
  | nil => simp [usedB]
  | cons x A ih => simp [usedB, ih]; omega
theorem usedB_take (Bs : List Bx) (k : Nat) (h : k < Bs.length) : usedB (Bs.take (k + 1)) = usedB (Bs.take k) + (1 + (bd Bs k).t.args.length + (bd Bs k).t.reads.length + (bd Bs k).t.writes.length) := by
  rw [bd_take Bs k h, usedB_append]; simp [usedB]
theorem usedB_all {Bs : List Bx} : Bs.length ≤ usedB Bs ∧ ∀ x ∈ Bs, x.t.args.length ≤ usedB Bs ∧ x.t.reads.length ≤ usedB Bs ∧ x.t.writes.length ≤ usedB Bs := by
  induction Bs with
  | nil => simp [usedB]
  | cons y Bs ih =>
    refine ⟨by simp [usedB]; omega, fun x hx => ?_⟩
    rcases List.mem_cons.1 hx with rfl | hx
    · simp [usedB]; omega
    · have := ih.2 x hx
      simp [usedB]; omega
def PartsB (left : Int) (n : Nat) (Bs : List Bx) (e : Ending) : Prop := ∃ r : Int, e = .returned (.int .i64 r) ∧ (0 ≤ r → 0 ≤ left ∧ n ≤ 100000 ∧ ∀ x ∈ Bs, x.t.args.length ≤ 100000 ∧ x.t.reads.length ≤ 100000 ∧ x.t.writes.length ≤ 100000)
set_option maxRecDepth 100000 in
set_option maxHeartbeats 1000000 in
theorem partsB_any (w : World) (ao : Option Addr) (n cap : Nat) (Bs : List Bx) (left : Int) (h : BatAt w ao Bs) (hn : n = Bs.length) (hm : n ≤ 140737488351232) (l1 : left ≤ 100000) (l2 : -300000000000000 ≤ left) :
    Calls Try.prog 6 #[.slice ao n cap, .int .i64 left] w fun e w' => PartsB left n Bs e ∧ ∃ q, w' = w.drewN q := by
  have H : Hid (BatAt w ao Bs) := h
  have HN : Hid (n = Bs.length) := hn
  clear h hn
  go_enter Try.func6, Try.ntmps6
  go_wp2_with fail
  go_loopw [1, 5] (fun x y wr => ∃ (k q : Nat) (r : Int), k ≤ n ∧ x = .int .i64 r ∧ y = .int .i64 (k : Int) ∧ Hid (r = left - (usedB (Bs.take k) : Int)) ∧ r ≤ 100000 ∧ -300000000000000 ≤ r ∧ wr = w.drewN q) (fun _ y _ => n - (intOf y).toNat)
  case atStart => exact ⟨0, 0, left, Nat.zero_le _, rfl, rfl, by simp [Hid, usedB], l1, l2, rfl⟩
  case round =>
    obtain ⟨k, q, r, hk, rfl, rfl, HRe, hr1, hr2, rfl⟩ := hrel
    by_cases hlt : k < n
    · by_cases hr0 : 0 ≤ r
      · have hlt' : k < Bs.length := by have := HN.out; omega
        obtain ⟨b, off, rfl, c0, c1, c2, c3⟩ := TxsAt.get H.out.at_ k hlt'
        have HU : Hid (usedB (Bs.take (k + 1)) = usedB (Bs.take k) + (1 + (bd Bs k).t.args.length + (bd Bs k).t.reads.length + (bd Bs k).t.writes.length)) := usedB_take Bs k hlt'
        have HOk := H.out.lst k hlt'
        have hb1 := HOk.bigA
        have hb2 := HOk.bigR
        have hb3 := HOk.bigW
        clear HOk
        generalize bd Bs k = x at *
        generalize x.t.args.length = na at *
        generalize x.t.reads.length = nr at *
        generalize x.t.writes.length = nw at *
        have d1 : (w.drewN q).cell? ⟨b, off + k * 4 + 1, none⟩ = some (.slice x.aA na x.cA) := c1
        have d2 : (w.drewN q).cell? ⟨b, off + k * 4 + 2, none⟩ = some (.slice x.aR nr x.cR) := c2
        have d3 : (w.drewN q).cell? ⟨b, off + k * 4 + 3, none⟩ = some (.slice x.aW nw x.cW) := c3
        have HW1 : Hid (∀ m, (w.drewN q).drewN m = w.drewN (q + m)) := fun m => World.drewN_drewN _ _ _
        generalize w.drewN q = w1 at *
        have hw1 : IntKind.i64.wrap (r - 1) = r - 1 := by rw [IntKind.wrap_i64]; omega
        have hw2 : IntKind.i64.wrap (r - 1 - (na : Int)) = r - 1 - (na : Int) := by rw [IntKind.wrap_i64]; omega
        have hw3 : IntKind.i64.wrap (r - 1 - (na : Int) - (nr : Int)) = r - 1 - (na : Int) - (nr : Int) := by rw [IntKind.wrap_i64]; omega
        have hw4 : IntKind.i64.wrap (r - 1 - (na : Int) - (nr : Int) - (nw : Int)) = r - 1 - (na : Int) - (nr : Int) - (nw : Int) := by rw [IntKind.wrap_i64]; omega
        have HR2 : Hid (r - 1 - (na : Int) - (nr : Int) - (nw : Int) = left - (usedB (Bs.take (k + 1)) : Int)) := by rw [HU.out, HRe.out]; show _ = _; omega
        clear HU c0 c1 c2 c3
        go_wp2_with fail
        go_quiet (fail)
        go_wp2_with fail
        go_roundw
        case rel => exact ⟨k + 1, q + nq, r - 1 - (na : Int) - (nr : Int) - (nw : Int), by omega, rfl, by go_num, HR2, by omega, by omega, HW1.out nq⟩
        case measure => simp [intOf]; omega
      · have hr0' : ¬ (r ≥ 0) := by omega
        have hrn : r < 0 := by omega
        have HPp : Hid (PartsB left n Bs (.returned (.int .i64 r))) := ⟨r, rfl, fun h => absurd h (by omega)⟩
        clear HRe
        go_wp2
        go_ret
        exact ⟨HPp.out, q, rfl⟩
    · obtain rfl : k = n := by omega
      have HPp : Hid (PartsB left k Bs (.returned (.int .i64 r))) := ⟨r, rfl, fun h => by
        have hu := HRe.out
        rw [HN.out, List.take_length] at hu
        obtain ⟨h1, h2⟩ := usedB_all (Bs := Bs)
        refine ⟨by omega, by rw [HN.out]; omega, fun x hx => ?_⟩
        have := h2 x hx
        omega⟩
      clear HRe
      go_wp2
      go_ret
      exact ⟨HPp.out, q, rfl⟩
end Go.Proofs.Ytlilaicgmdbhcaa.Kk
/-
  THE WALK OF layer 6's lent.
-/
namespace Go.Proofs.Ytlilaicgmdbhcaa.Kk
open Go.RowKit Go.Sort

def padB : Bx := ⟨⟨-31, [], [], []⟩, none, 0, none, 0, none, 0⟩
/-- a transaction that was lent -/
def LnT (W : World) (lo hi : Nat) (x y : Bx) : Prop :=
  y.t = x.t ∧ ∃ m1 m2, lo ≤ m1 ∧ m1 ≤ m2 ∧ m2 ≤ hi ∧ LnI W lo m1 x.aA y.aA y.cA x.t.args ∧ LnK W m1 m2 x.aR y.aR y.cR x.t.reads ∧ LnK W m2 hi x.aW y.aW y.cW x.t.writes
theorem LnT.same {W W' : World} {lo hi : Nat} {x y : Bx} (h : LnT W lo hi x y) (hs : ∀ G, lo ≤ G → G < hi → G < W.heap.size → W'.heap[G]? = W.heap[G]?) : LnT W' lo hi x y := by
  obtain ⟨h0, m1, m2, h1, h2, h3, h4, h5, h6⟩ := h
  exact ⟨h0, m1, m2, h1, h2, h3, h4.same (fun G a b => hs G a (by omega)), h5.same (fun G a b => hs G (by omega) (by omega)), h6.same (fun G a b => hs G (by omega) b)⟩
/-- what stands while a batch is laid: k of its transactions are there -/
structure LtS (w W : World) (n k : Nat) (Bs Qs : List Bx) (lo : Nat → Nat) : Prop where
  row : RT W w.heap.size Qs
  len : Qs.length = n + 3
  bel : Below w.heap.size w W
  pad : ∀ i, k ≤ i → i < n + 3 → bd Qs i = padB
  one : ∀ i, i < k → LnT W (lo i) (lo (i + 1)) (bd Bs i) (bd Qs i)
  lo0 : lo 0 = w.heap.size + 1
  lok : lo k ≤ W.heap.size
  mono : ∀ i, i < k → lo i ≤ lo (i + 1)
theorem LtS.ge {w W : World} {n k : Nat} {Bs Qs : List Bx} {lo : Nat → Nat} (h : LtS w W n k Bs Qs lo) : ∀ i, i ≤ k → w.heap.size + 1 ≤ lo i
  | 0, _ => Nat.le_of_eq h.lo0.symm
  | i + 1, hi => Nat.le_trans (h.ge i (by omega)) (h.mono i (by omega))
theorem LtS.le {w W : World} {n k : Nat} {Bs Qs : List Bx} {lo : Nat → Nat} (h : LtS w W n k Bs Qs lo) (i : Nat) (hi : i ≤ k) : lo i ≤ lo k := by
  obtain ⟨d, rfl⟩ : ∃ d, k = i + d := ⟨k - i, by omega⟩
  suffices ∀ e, e ≤ d → lo i ≤ lo (i + e) from this d (Nat.le_refl _)
  intro e
  induction e with
  | zero => intro _; exact Nat.le_refl _
  | succ e ih => intro he; exact Nat.le_trans (ih (by omega)) (h.mono (i + e) (by omega))
theorem LtS.kept {w W W' : World} {n k : Nat} {Bs Qs : List Bx} {lo : Nat → Nat} (h : LtS w W n k Bs Qs lo) (hb : Below W.heap.size W W') : LtS w W' n k Bs Qs lo :=
  ⟨h.row.same (hb.block _ h.row.lt), h.len, h.bel.trans (hb.mono h.bel.size), h.pad, fun i hi => (h.one i hi).same (fun G _ _ hG => hb.block G hG), h.lo0, Nat.le_trans h.lok hb.size, h.mono⟩
structure Lt1 (w W : World) (n k : Nat) (Qs : List Bx) : Prop where
  row : RT W w.heap.size Qs
  len : Qs.length = n + 3
  bel : Below w.heap.size w W
  pad : ∀ i, i < k → bd Qs i = padB
theorem Lt1.put {w W : World} {n k : Nat} {Qs : List Bx} (h : Lt1 w W n k Qs) (hk : k < n + 3) :
    Lt1 w ((((W.setCell ⟨w.heap.size, k * 4, none⟩ (.int .i64 (-31))).setCell ⟨w.heap.size, k * 4 + 1, none⟩ (.slice none 0 0)).setCell ⟨w.heap.size, k * 4 + 2, none⟩ (.slice none 0 0)).setCell ⟨w.heap.size, k * 4 + 3, none⟩ (.slice none 0 0)) n (k + 1) (Qs.set k padB) := by
  have hkl : k < Qs.length := by have := h.len; omega
  have hR := h.row.put hkl padB
  refine ⟨hR, by rw [List.length_set]; exact h.len, bset (bset (bset (bset h.bel _ (Nat.le_refl _)) _ (Nat.le_refl _)) _ (Nat.le_refl _)) _ (Nat.le_refl _), fun i hi => ?_⟩
  by_cases e : i = k
  · subst e; rw [bd_set_eq _ _ _ hkl]
  · rw [bd_set_ne _ _ _ _ e]; exact h.pad i (by omega)
theorem Lt1.fin {w W : World} {n : Nat} {Bs Qs : List Bx} (h : Lt1 w W n (n + 3) Qs) : LtS w W n 0 Bs Qs (fun _ => w.heap.size + 1) :=
  ⟨h.row, h.len, h.bel, fun i _ hi => h.pad i hi, fun i hi => by omega, rfl, h.row.lt, fun i hi => by omega⟩
/-- one more is stored -/
theorem LtS.put {w W W3 : World} {n k : Nat} {Bs Qs : List Bx} {lo : Nat → Nat} (h : LtS w W n k Bs Qs lo) (hk : k < n) (hb : Below W.heap.size W W3) (x : Bx) (hx : bd Bs k = x) (aA aR aW : Option Addr) (cA cR cW m1 m2 : Nat)
    (h1 : W.heap.size ≤ m1) (h2 : m1 ≤ m2) (h3 : m2 ≤ W3.heap.size) (hA : LnI W3 W.heap.size m1 x.aA aA cA x.t.args) (hR : LnK W3 m1 m2 x.aR aR cR x.t.reads) (hW : LnK W3 m2 W3.heap.size x.aW aW cW x.t.writes) :
    ∃ Qs' lo', LtS w ((((W3.setCell ⟨w.heap.size, k * 4, none⟩ (.int .i64 x.t.proc)).setCell ⟨w.heap.size, k * 4 + 1, none⟩ (.slice aA x.t.args.length cA)).setCell ⟨w.heap.size, k * 4 + 2, none⟩ (.slice aR x.t.reads.length cR)).setCell ⟨w.heap.size, k * 4 + 3, none⟩ (.slice aW x.t.writes.length cW)) n (k + 1) Bs Qs' lo' := by
  have hS := h.kept hb
  have hkl : k < Qs.length := by have := h.len; omega
  have hP := hS.row.put hkl ⟨x.t, aA, cA, aR, cR, aW, cW⟩
  simp only at hP
  have hoth : ∀ G, G ≠ w.heap.size → ((((W3.setCell ⟨w.heap.size, k * 4, none⟩ (.int .i64 x.t.proc)).setCell ⟨w.heap.size, k * 4 + 1, none⟩ (.slice aA x.t.args.length cA)).setCell ⟨w.heap.size, k * 4 + 2, none⟩ (.slice aR x.t.reads.length cR)).setCell ⟨w.heap.size, k * 4 + 3, none⟩ (.slice aW x.t.writes.length cW)).heap[G]? = W3.heap[G]? := fun G hG => by
    rw [heap_setCell_other _ _ G _ (by exact hG), heap_setCell_other _ _ G _ (by exact hG), heap_setCell_other _ _ G _ (by exact hG), heap_setCell_other _ _ G _ (by exact hG)]
  have hlt := h.row.lt
  refine ⟨Qs.set k ⟨x.t, aA, cA, aR, cR, aW, cW⟩, fun i => if i ≤ k then lo i else W3.heap.size, hP, by rw [List.length_set]; exact h.len, bset (bset (bset (bset hS.bel _ (Nat.le_refl _)) _ (Nat.le_refl _)) _ (Nat.le_refl _)) _ (Nat.le_refl _), fun i h4 h5 => ?_, fun i hi => ?_, ?_, ?_, fun i hi => ?_⟩
  · rw [bd_set_ne _ _ _ _ (by omega)]; exact h.pad i (by omega) h5
  · by_cases e : i = k
    · subst e
      rw [bd_set_eq _ _ _ hkl, hx]
      have hge := h.ge i (Nat.le_refl _)
      have hlk := h.lok
      simp only [Nat.le_refl, if_true, if_neg (show ¬ i + 1 ≤ i by omega)]
      exact LnT.same (W := W3) ⟨rfl, m1, m2, by omega, h2, h3, hA.wide hlk (Nat.le_refl _), hR, hW⟩ (fun G g1 _ _ => hoth G (by omega))
    · rw [bd_set_ne _ _ _ _ e]
      have hge := h.ge i (by omega)
      simp only [if_pos (show i ≤ k by omega), if_pos (show i + 1 ≤ k by omega)]
      exact LnT.same (W := W3) (hS.one i (by omega)) (fun G g1 _ _ => hoth G (by omega))
  · simp only [Nat.zero_le, if_true]; exact h.lo0
  · simp only [if_neg (show ¬ k + 1 ≤ k by omega)]; simp
  · by_cases e : i = k
    · subst e
      have hlk := h.lok
      have hbs := hb.size
      simp only [Nat.le_refl, if_true, if_neg (show ¬ i + 1 ≤ i by omega)]; omega
    · simp only [if_pos (show i ≤ k by omega), if_pos (show i + 1 ≤ k by omega)]
      exact h.mono i (by omega)
theorem keepS {W : World} {b o g i0 i1 i2 i3 : Nat} {u v0 v1 v2 v3 : Value} (h : W.cell? ⟨b, o, none⟩ = some u) (hb : b ≠ g) : ((((W.setCell ⟨g, i0, none⟩ v0).setCell ⟨g, i1, none⟩ v1).setCell ⟨g, i2, none⟩ v2).setCell ⟨g, i3, none⟩ v3).cell? ⟨b, o, none⟩ = some u := by
  simp only [World.cell?] at h ⊢
  rw [heap_setCell_other _ _ b _ (by exact hb), heap_setCell_other _ _ b _ (by exact hb), heap_setCell_other _ _ b _ (by exact hb), heap_setCell_other _ _ b _ (by exact hb)]; exact h
def LentB (w : World) (ao : Option Addr) (n : Nat) (Bs : List Bx) (e : Ending) (w' : World) : Prop :=
  (ao = none ∧ Bs = [] ∧ e = .returned (.slice none 0 0) ∧ w' = w) ∨ (ao ≠ none ∧ ∃ Qs lo, e = .returned (.slice (some ⟨w.heap.size, 0, none⟩) n (n + 3)) ∧ LtS w w' n n Bs Qs lo)

set_option maxRecDepth 100000 in
set_option maxHeartbeats 4000000 in
theorem lent_b (w : World) (ao : Option Addr) (n cap : Nat) (Bs : List Bx) (h : BatAt w ao Bs) (hn : n = Bs.length) (hm : n ≤ 100000) (hx : ∀ x ∈ Bs, x.t.args.length ≤ 100000 ∧ x.t.reads.length ≤ 100000 ∧ x.t.writes.length ≤ 100000) :
    Calls Try.prog 7 #[.slice ao n cap] w fun e w' => LentB w ao n Bs e w' := by
  have H : Hid (BatAt w ao Bs) := h
  have HN : Hid (n = Bs.length) := hn
  have HM : Hid (∀ x ∈ Bs, x.t.args.length ≤ 100000 ∧ x.t.reads.length ≤ 100000 ∧ x.t.writes.length ≤ 100000) := hx
  clear h hn hx
  cases ao with
  | none =>
    have HP : Hid (LentB w none n Bs (.returned (.slice none 0 0)) w) := .inl ⟨rfl, bxcs_nil (CellsAt.nil H.out.at_), rfl, rfl⟩
    have hnil := eqNilT none n cap
    go_enter Try.func7, Try.ntmps7
    go_wp2
    go_ret
    exact HP.out
  | some a =>
  have hnil := eqNilT (some a) n cap
  have hmk := make_txs (n + 3) ((n : Int) + 3) (by omega) (by omega)
  go_enter Try.func7, Try.ntmps7
  go_upto_region 4 with fail
  have HR0 : Hid (Lt1 w (w.alloc (.cells (bxcs (List.replicate (n + 3) bxD)).toArray 57)) n 0 (List.replicate (n + 3) bxD)) := ⟨heap_alloc_new _ _ rfl, by simp, (Below.refl _ _).alloc (Nat.le_refl _) _, fun i hi => by omega⟩
  generalize w.alloc (.cells (bxcs (List.replicate (n + 3) bxD)).toArray 57) = W0 at *
  clear hmk hnil
  go_wp2_with fail
  go_loopw [4] (fun x wr => ∃ k : Nat, k ≤ n + 3 ∧ x = .int .i64 (k : Int) ∧ ∃ Qs, Hid (Lt1 w wr n k Qs)) (fun x _ => n + 3 - (intOf x).toNat)
  case atStart => exact ⟨0, Nat.zero_le _, rfl, _, HR0⟩
  case round =>
    clear HR0
    obtain ⟨k, hk, rfl, Qs, HQ⟩ := hrel
    by_cases hlt : k < n + 3
    · have hlti : (k : Int) < (n : Int) + 3 := by omega
      obtain ⟨s0, s1, s2, s3⟩ := HQ.out.row.cell k (by have := HQ.out.len; omega)
      have f0 := HQ.out.row.frozen (k * 4)
      have f1 := HQ.out.row.frozen (k * 4 + 1)
      have f2 := HQ.out.row.frozen (k * 4 + 2)
      have f3 := HQ.out.row.frozen (k * 4 + 3)
      have HP : Hid (Lt1 w _ n (k + 1) _) := HQ.out.put hlt
      go_wp2_with fail
      exact ⟨⟨k + 1, by omega, by go_num, _, HP⟩, by simp [intOf]; omega⟩
    · have HT0 : Hid (LtS w wr n 0 Bs Qs (fun _ => w.heap.size + 1)) := by
        have e : k = n + 3 := by omega
        have := HQ.out
        rw [e] at this
        exact this.fin
      have hlti : ¬ (k : Int) < (n : Int) + 3 := by omega
      generalize k = kk at *
      clear HQ
      go_wp2_with fail
      generalize wr = wx at *
      go_loopw [5] (fun x wr => ∃ k : Nat, k ≤ n ∧ x = .int .i64 (k : Int) ∧ ∃ Qs lo, Hid (LtS w wr n k Bs Qs lo)) (fun x _ => n - (intOf x).toNat)
      case atStart => exact ⟨0, Nat.zero_le _, rfl, _, _, HT0⟩
      case round =>
        clear HT0 Qs hlti hlt hk
        obtain ⟨k, hk, rfl, Qs, lo, HQ⟩ := hrel
        by_cases hlt : k < n
        · have hlt' : k < Bs.length := by have := HN.out; omega
          have hxs := HM.out _ (bd_mem hlt')
          have HXe : Hid (BxOK w (bd Bs k)) := H.out.lst k hlt'
          obtain ⟨b, off, e, c0, c1, c2, c3⟩ := TxsAt.get (H.out.at_.kept HQ.out.bel) k hlt'
          cases e
          have HA : Hid (∀ W', Below w.heap.size w W' → W'.cell? ⟨b, off + k * 4, none⟩ = some (.int .i64 (bd Bs k).t.proc) ∧ W'.cell? ⟨b, off + k * 4 + 1, none⟩ = some (.slice (bd Bs k).aA (bd Bs k).t.args.length (bd Bs k).cA) ∧ W'.cell? ⟨b, off + k * 4 + 2, none⟩ = some (.slice (bd Bs k).aR (bd Bs k).t.reads.length (bd Bs k).cR) ∧ W'.cell? ⟨b, off + k * 4 + 3, none⟩ = some (.slice (bd Bs k).aW (bd Bs k).t.writes.length (bd Bs k).cW)) := fun W' hb => by
            obtain ⟨b', off', e', d⟩ := TxsAt.get (H.out.at_.kept hb) k hlt'
            cases e'
            exact d
          have HNe : Hid (b ≠ w.heap.size) := fun e => by
            obtain ⟨b', off', e', d0, _⟩ := TxsAt.get H.out.at_ k hlt'
            cases e'
            have := cell_lt d0
            simp only at this; omega
          have hk3 : (k : Int) < (n : Int) + 3 := by omega
          have hk0 : (0 : Int) ≤ (k : Int) := by omega
          have HBk : Hid (∃ x, bd Bs k = x) := ⟨_, rfl⟩
          obtain ⟨x, hx⟩ := HBk.out
          rw [hx] at c0 c1 c2 c3 hxs HXe HA
          have HX : Hid (bd Bs k = x) := hx
          clear hx HBk
          have HCi : Hid (∀ W, Below w.heap.size w W → Calls Try.prog 24 #[.slice x.aA x.t.args.length x.cA] W fun e w' => ∃ a c, e = .returned (.slice a x.t.args.length c) ∧ LnI w' W.heap.size w'.heap.size x.aA a c x.t.args ∧ Below W.heap.size W w') := fun W hW => ints_any W x.aA _ x.cA x.t.args ((HXe.out.kept hW).args) rfl (by omega)
          have HCr : Hid (∀ W, Below w.heap.size w W → Calls Try.prog 25 #[.slice x.aR x.t.reads.length x.cR] W fun e w' => ∃ a c, e = .returned (.slice a x.t.reads.length c) ∧ LnK w' W.heap.size w'.heap.size x.aR a c x.t.reads ∧ Below W.heap.size W w') := fun W hW => keyList_any W x.aR _ x.cR x.t.reads ((HXe.out.kept hW).reads) rfl (by omega)
          have HCw : Hid (∀ W, Below w.heap.size w W → Calls Try.prog 25 #[.slice x.aW x.t.writes.length x.cW] W fun e w' => ∃ a c, e = .returned (.slice a x.t.writes.length c) ∧ LnK w' W.heap.size w'.heap.size x.aW a c x.t.writes ∧ Below W.heap.size W w') := fun W hW => keyList_any W x.aW _ x.cW x.t.writes ((HXe.out.kept hW).writes) rfl (by omega)
          have HPut : Hid (∀ (W3 : World) (_ : Below wr.heap.size wr W3) (aA aR aW : Option Addr) (cA cR cW m1 m2 : Nat) (_ : wr.heap.size ≤ m1) (_ : m1 ≤ m2) (_ : m2 ≤ W3.heap.size) (_ : LnI W3 wr.heap.size m1 x.aA aA cA x.t.args) (_ : LnK W3 m1 m2 x.aR aR cR x.t.reads) (_ : LnK W3 m2 W3.heap.size x.aW aW cW x.t.writes),
              ∃ Qs' lo', LtS w ((((W3.setCell ⟨w.heap.size, k * 4, none⟩ (.int .i64 x.t.proc)).setCell ⟨w.heap.size, k * 4 + 1, none⟩ (.slice aA x.t.args.length cA)).setCell ⟨w.heap.size, k * 4 + 2, none⟩ (.slice aR x.t.reads.length cR)).setCell ⟨w.heap.size, k * 4 + 3, none⟩ (.slice aW x.t.writes.length cW)) n (k + 1) Bs Qs' lo') := fun W3 hb aA aR aW cA cR cW m1 m2 h1 h2 h3 hA hR hW => HQ.out.put hlt hb x HX.out aA aR aW cA cR cW m1 m2 h1 h2 h3 hA hR hW
          have HRow : Hid (∀ W3, Below wr.heap.size wr W3 → RT W3 w.heap.size Qs) := fun W3 hb => (HQ.out.kept hb).row
          have HLn : Hid (k < Qs.length) := by have := HQ.out.len; simp only [Hid]; omega
          have HBw : Hid (Below w.heap.size w wr) := HQ.out.bel
          have HD : Hid (Below wr.heap.size wr wr.drew) := ((Grew.refl wr).drewN 1).below
          clear HXe HQ
          obtain ⟨⟨proc, args, reads, writes⟩, xA, kA, xR, kR, xW, kW⟩ := x
          simp only at c0 c1 c2 c3 hxs HA HCi HCr HCw HPut
          go_upto_region 11 with fail
          go_region_held3 (fun w' => w'.cell? ⟨b, off + k * 4, none⟩ = some (.int .i64 proc) ∧ w'.cell? ⟨b, off + k * 4 + 1, none⟩ = some (.slice xA args.length kA) ∧ w'.cell? ⟨b, off + k * 4 + 2, none⟩ = some (.slice xR reads.length kR) ∧ w'.cell? ⟨b, off + k * 4 + 3, none⟩ = some (.slice xW writes.length kW)) (first | with_reducible exact y3 | with_reducible exact ⟨keepS y3.1 HNe.out, keepS y3.2.1 HNe.out, keepS y3.2.2.1 HNe.out, keepS y3.2.2.2 HNe.out⟩ | with_reducible exact y2 | with_reducible exact y1 | go_keep) (first
            | (go_at_call 25; refine (HCw.out _ (HBw.out.trans (HB2.out.mono HBw.out.size))).mono ?_; rintro e w3 ⟨a3, k3, rfl, hl3, hb3⟩; have HB3 : Hid (Below wr.heap.size wr w3) := HB2.out.trans (hb3.mono HB2.out.size); have HL3 : Hid (LnI w3 wr.heap.size w1.heap.size xA a1 k1 args ∧ LnK w3 w1.heap.size w2.heap.size xR a2 k2 reads ∧ LnK w3 w2.heap.size w3.heap.size xW a3 k3 writes ∧ w1.heap.size ≤ w2.heap.size ∧ wr.heap.size ≤ w1.heap.size ∧ w2.heap.size ≤ w3.heap.size) := ⟨HL2.out.1.same (fun G _ _ hG => hb3.block G hG), HL2.out.2.1.same (fun G _ _ hG => hb3.block G hG), hl3, HL2.out.2.2.1, HL2.out.2.2.2, hb3.size⟩; have y3 := HA.out w3 (HBw.out.trans (HB3.out.mono HBw.out.size)); obtain ⟨s0, s1, s2, s3⟩ := (HRow.out w3 HB3.out).cell k HLn.out; have f0 := (HRow.out w3 HB3.out).frozen (k * 4); have f1 := (HRow.out w3 HB3.out).frozen (k * 4 + 1); have f2 := (HRow.out w3 HB3.out).frozen (k * 4 + 2); have f3 := (HRow.out w3 HB3.out).frozen (k * 4 + 3); clear hl3 hb3)
            | (go_at_call 25; refine (HCr.out _ (HBw.out.trans (HB1.out.mono HBw.out.size))).mono ?_; rintro e w2 ⟨a2, k2, rfl, hl2, hb2⟩; have HB2 : Hid (Below wr.heap.size wr w2) := HB1.out.trans (hb2.mono HB1.out.size); have HL2 : Hid (LnI w2 wr.heap.size w1.heap.size xA a1 k1 args ∧ LnK w2 w1.heap.size w2.heap.size xR a2 k2 reads ∧ w1.heap.size ≤ w2.heap.size ∧ wr.heap.size ≤ w1.heap.size) := ⟨HL1.out.1.same (fun G _ _ hG => hb2.block G hG), hl2, hb2.size, HL1.out.2⟩; have y2 := HA.out w2 (HBw.out.trans (HB2.out.mono HBw.out.size)); clear hl2 hb2)
            | (go_at_call 24; refine (HCi.out _ (HBw.out.trans (HD.out.mono HBw.out.size))).mono ?_; rintro e w1 ⟨a1, k1, rfl, hl1, hb1⟩; have HB1 : Hid (Below wr.heap.size wr w1) := HD.out.trans hb1; have HL1 : Hid (LnI w1 wr.heap.size w1.heap.size xA a1 k1 args ∧ wr.heap.size ≤ w1.heap.size) := ⟨hl1, hb1.size⟩; have y1 := HA.out w1 (HBw.out.trans (HB1.out.mono HBw.out.size)); clear hl1 hb1))
          all_goals (
            obtain ⟨Qs', lo', hq⟩ := HPut.out w3 HB3.out a1 a2 a3 k1 k2 k3 w1.heap.size w2.heap.size HL3.out.2.2.2.2.1 HL3.out.2.2.2.1 HL3.out.2.2.2.2.2 HL3.out.1 HL3.out.2.1 HL3.out.2.2.1
            have HQ2 : Hid (LtS w _ n (k + 1) Bs Qs' lo') := hq
            clear hq HCi HCr HCw HPut HRow c0 c1 c2 c3
            go_wp2
            go_roundw
            case rel => exact ⟨k + 1, by omega, by go_num, _, _, HQ2⟩
            case measure => simp [intOf]; omega)
        · obtain rfl : k = n := by omega
          have HPp : Hid (LentB w (some a) k Bs (.returned (.slice (some ⟨w.heap.size, 0, none⟩) k (k + 3))) wr) := .inr ⟨by simp, Qs, lo, rfl, HQ.out⟩
          clear HQ
          go_wp2
          go_ret
          exact HPp.out
end Go.Proofs.Ytlilaicgmdbhcaa.Kk
