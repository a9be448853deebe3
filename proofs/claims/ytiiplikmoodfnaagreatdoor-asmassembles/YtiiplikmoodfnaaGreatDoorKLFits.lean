import Derived.Test.YtiiplikmoodfnaaGreatDoorKAMath
import Derived.Laws.OwnMore
import Derived.Laws.AppendOwnNone
import Derived.Maps.AppendAt
import Derived.Deep.DeepAppendRoom
import Derived.Laws.CopyOwn
import Derived.Laws.CopyRow
import Derived.WalkSmall
import Derived.Deep.RegionLaw
/-
  THE WALKS OF withinLimits, fits.
-/
namespace Go.Proofs.YtiiplikmoodfnaaGreatDoor
open Go.RowKit Go.Sort


set_option maxHeartbeats 2000000 in
theorem withinLimits_any (w : World) (p : Nums) (ao : Option Addr) (n cap : Nat) :
    Calls Tryz.prog 82 #[pv p ao n cap] w fun e w' => e = .returned (.bool (limB p n)) ∧ ∃ q os, w' = grow (w.drewN q) os := by
  have HE : Hid (∀ b : Bool, limB p n = b → limB p n = b) := fun b h => h
  obtain ⟨x1, x2, x3, x4⟩ := p
  go_enter Tryz.func82, Tryz.ntmps82
  by_cases h0 : 0 ≤ x1
  case neg =>
    have h0b : decide (0 ≤ x1) = false := by simpa using h0
    go_wp2
    go_ret
    refine ⟨by rw [HE.out false (by rw [← Bool.not_eq_true, limB_iff]; simp only; omega)]; rfl, Grew.alloc (Grew.refl _) _⟩
  by_cases h1 : x1 ≤ 16
  case neg =>
    have h1b : decide (x1 ≤ 16) = false := by simpa using h1
    go_wp2
    go_ret
    refine ⟨by rw [HE.out false (by rw [← Bool.not_eq_true, limB_iff]; simp only; omega)]; rfl, Grew.alloc (Grew.refl _) _⟩
  by_cases h2 : 0 ≤ x2
  case neg =>
    have h2b : decide (0 ≤ x2) = false := by simpa using h2
    go_wp2
    go_ret
    refine ⟨by rw [HE.out false (by rw [← Bool.not_eq_true, limB_iff]; simp only; omega)]; rfl, Grew.alloc (Grew.refl _) _⟩
  by_cases h3 : x2 ≤ 16
  case neg =>
    have h3b : decide (x2 ≤ 16) = false := by simpa using h3
    go_wp2
    go_ret
    refine ⟨by rw [HE.out false (by rw [← Bool.not_eq_true, limB_iff]; simp only; omega)]; rfl, Grew.alloc (Grew.refl _) _⟩
  by_cases h4 : 0 ≤ x3
  case neg =>
    have h4b : decide (0 ≤ x3) = false := by simpa using h4
    go_wp2
    go_ret
    refine ⟨by rw [HE.out false (by rw [← Bool.not_eq_true, limB_iff]; simp only; omega)]; rfl, Grew.alloc (Grew.refl _) _⟩
  by_cases h5 : x3 ≤ 16
  case neg =>
    have h5b : decide (x3 ≤ 16) = false := by simpa using h5
    go_wp2
    go_ret
    refine ⟨by rw [HE.out false (by rw [← Bool.not_eq_true, limB_iff]; simp only; omega)]; rfl, Grew.alloc (Grew.refl _) _⟩
  by_cases h6 : 0 ≤ x4
  case neg =>
    have h6b : decide (0 ≤ x4) = false := by simpa using h6
    go_wp2
    go_ret
    refine ⟨by rw [HE.out false (by rw [← Bool.not_eq_true, limB_iff]; simp only; omega)]; rfl, Grew.alloc (Grew.refl _) _⟩
  by_cases h7 : x4 ≤ 16
  case neg =>
    have h7b : decide (x4 ≤ 16) = false := by simpa using h7
    go_wp2
    go_ret
    refine ⟨by rw [HE.out false (by rw [← Bool.not_eq_true, limB_iff]; simp only; omega)]; rfl, Grew.alloc (Grew.refl _) _⟩
  by_cases h8 : (n : Int) ≤ 256
  case neg =>
    have h8b : decide ((n : Int) ≤ 256) = false := by simpa using h8
    go_wp2
    go_ret
    refine ⟨by rw [HE.out false (by rw [← Bool.not_eq_true, limB_iff]; simp only; omega)]; rfl, Grew.alloc (Grew.refl _) _⟩
  go_wp2
  go_ret
  refine ⟨by rw [HE.out true (by rw [limB_iff]; simp only; omega)]; rfl, Grew.alloc (Grew.refl _) _⟩

theorem room_kinds (op : Int) : (op = 1 ∨ op = 30 ∨ op = 31) ∨ (op = 4 ∨ op = 5) ∨ op = 6 ∨ (op = 7 ∨ op = 8) ∨ (op = 32 ∨ op = 33) ∨ (op ≠ 1 ∧ op ≠ 30 ∧ op ≠ 31 ∧ op ≠ 4 ∧ op ≠ 5 ∧ op ≠ 6 ∧ op ≠ 7 ∧ op ≠ 8 ∧ op ≠ 32 ∧ op ≠ 33) := by omega

set_option maxHeartbeats 2000000 in
theorem fits_any (w : World) (p : Nums) (ao : Option Addr) (n cap : Nat) (op a : Int) (hp : In64 p.args ∧ In64 p.reads ∧ In64 p.writes ∧ In64 p.locals) :
    Calls Tryz.prog 89 #[pv p ao n cap, .agg #[.int .i64 op, .int .i64 a]] w fun e w' => e = .returned (.bool (fitsB p op a)) ∧ ∃ q os, w' = grow (w.drewN q) os := by
  have HE : Hid (∀ b : Bool, fitsB p op a = b → fitsB p op a = b) := fun b h => h
  have HP : Hid (In64 p.args ∧ In64 p.reads ∧ In64 p.writes ∧ In64 p.locals) := hp
  clear hp
  obtain ⟨x1, x2, x3, x4⟩ := p
  rcases room_kinds op with h | h | h | h | h | h
  · rcases h with rfl | rfl | rfl <;>
    (go_enter Tryz.func89, Tryz.ntmps89
     go_wp2
     go_ret
     refine ⟨by rw [HE.out true (by simp [fitsB])]; rfl, Grew.alloc (Grew.alloc (Grew.refl _) _) _⟩)
  · rcases h with rfl | rfl
    · by_cases h0 : 0 ≤ a
      · by_cases h1 : a < x4
        · go_enter Tryz.func89, Tryz.ntmps89
          go_wp2
          go_ret
          refine ⟨by rw [HE.out true (by simp [fitsB, roomN]; omega)]; rfl, Grew.alloc (Grew.alloc (Grew.refl _) _) _⟩
        · have h1' : decide (a < x4) = false := by simpa using h1
          go_enter Tryz.func89, Tryz.ntmps89
          go_wp2
          go_ret
          refine ⟨by rw [HE.out false (by simp [fitsB, roomN]; omega)]; rfl, Grew.alloc (Grew.alloc (Grew.refl _) _) _⟩
      · have h0' : decide (0 ≤ a) = false := by simpa using h0
        go_enter Tryz.func89, Tryz.ntmps89
        go_wp2
        go_ret
        refine ⟨by rw [HE.out false (by simp [fitsB, roomN]; omega)]; rfl, Grew.alloc (Grew.alloc (Grew.refl _) _) _⟩
    · by_cases h0 : 0 ≤ a
      · by_cases h1 : a < x4
        · go_enter Tryz.func89, Tryz.ntmps89
          go_wp2
          go_ret
          refine ⟨by rw [HE.out true (by simp [fitsB, roomN]; omega)]; rfl, Grew.alloc (Grew.alloc (Grew.refl _) _) _⟩
        · have h1' : decide (a < x4) = false := by simpa using h1
          go_enter Tryz.func89, Tryz.ntmps89
          go_wp2
          go_ret
          refine ⟨by rw [HE.out false (by simp [fitsB, roomN]; omega)]; rfl, Grew.alloc (Grew.alloc (Grew.refl _) _) _⟩
      · have h0' : decide (0 ≤ a) = false := by simpa using h0
        go_enter Tryz.func89, Tryz.ntmps89
        go_wp2
        go_ret
        refine ⟨by rw [HE.out false (by simp [fitsB, roomN]; omega)]; rfl, Grew.alloc (Grew.alloc (Grew.refl _) _) _⟩
  · subst h
    by_cases h0 : 0 ≤ a
    · by_cases h1 : a < x1
      · go_enter Tryz.func89, Tryz.ntmps89
        go_wp2
        go_ret
        refine ⟨by rw [HE.out true (by simp [fitsB, roomN]; omega)]; rfl, Grew.alloc (Grew.alloc (Grew.refl _) _) _⟩
      · have h1' : decide (a < x1) = false := by simpa using h1
        go_enter Tryz.func89, Tryz.ntmps89
        go_wp2
        go_ret
        refine ⟨by rw [HE.out false (by simp [fitsB, roomN]; omega)]; rfl, Grew.alloc (Grew.alloc (Grew.refl _) _) _⟩
    · have h0' : decide (0 ≤ a) = false := by simpa using h0
      go_enter Tryz.func89, Tryz.ntmps89
      go_wp2
      go_ret
      refine ⟨by rw [HE.out false (by simp [fitsB, roomN]; omega)]; rfl, Grew.alloc (Grew.alloc (Grew.refl _) _) _⟩
  · rcases h with rfl | rfl
    · by_cases h0 : 0 ≤ a
      · by_cases h1 : a < x2
        · go_enter Tryz.func89, Tryz.ntmps89
          go_wp2
          go_ret
          refine ⟨by rw [HE.out true (by simp [fitsB, roomN]; omega)]; rfl, Grew.alloc (Grew.alloc (Grew.refl _) _) _⟩
        · have h1' : decide (a < x2) = false := by simpa using h1
          go_enter Tryz.func89, Tryz.ntmps89
          go_wp2
          go_ret
          refine ⟨by rw [HE.out false (by simp [fitsB, roomN]; omega)]; rfl, Grew.alloc (Grew.alloc (Grew.refl _) _) _⟩
      · have h0' : decide (0 ≤ a) = false := by simpa using h0
        go_enter Tryz.func89, Tryz.ntmps89
        go_wp2
        go_ret
        refine ⟨by rw [HE.out false (by simp [fitsB, roomN]; omega)]; rfl, Grew.alloc (Grew.alloc (Grew.refl _) _) _⟩
    · by_cases h0 : 0 ≤ a
      · by_cases h1 : a < x2
        · go_enter Tryz.func89, Tryz.ntmps89
          go_wp2
          go_ret
          refine ⟨by rw [HE.out true (by simp [fitsB, roomN]; omega)]; rfl, Grew.alloc (Grew.alloc (Grew.refl _) _) _⟩
        · have h1' : decide (a < x2) = false := by simpa using h1
          go_enter Tryz.func89, Tryz.ntmps89
          go_wp2
          go_ret
          refine ⟨by rw [HE.out false (by simp [fitsB, roomN]; omega)]; rfl, Grew.alloc (Grew.alloc (Grew.refl _) _) _⟩
      · have h0' : decide (0 ≤ a) = false := by simpa using h0
        go_enter Tryz.func89, Tryz.ntmps89
        go_wp2
        go_ret
        refine ⟨by rw [HE.out false (by simp [fitsB, roomN]; omega)]; rfl, Grew.alloc (Grew.alloc (Grew.refl _) _) _⟩
  · rcases h with rfl | rfl
    · by_cases h0 : 0 ≤ a
      · by_cases h1 : a < x3
        · go_enter Tryz.func89, Tryz.ntmps89
          go_wp2
          go_ret
          refine ⟨by rw [HE.out true (by simp [fitsB, roomN]; omega)]; rfl, Grew.alloc (Grew.alloc (Grew.refl _) _) _⟩
        · have h1' : decide (a < x3) = false := by simpa using h1
          go_enter Tryz.func89, Tryz.ntmps89
          go_wp2
          go_ret
          refine ⟨by rw [HE.out false (by simp [fitsB, roomN]; omega)]; rfl, Grew.alloc (Grew.alloc (Grew.refl _) _) _⟩
      · have h0' : decide (0 ≤ a) = false := by simpa using h0
        go_enter Tryz.func89, Tryz.ntmps89
        go_wp2
        go_ret
        refine ⟨by rw [HE.out false (by simp [fitsB, roomN]; omega)]; rfl, Grew.alloc (Grew.alloc (Grew.refl _) _) _⟩
    · by_cases h0 : 0 ≤ a
      · by_cases h1 : a < x3
        · go_enter Tryz.func89, Tryz.ntmps89
          go_wp2
          go_ret
          refine ⟨by rw [HE.out true (by simp [fitsB, roomN]; omega)]; rfl, Grew.alloc (Grew.alloc (Grew.refl _) _) _⟩
        · have h1' : decide (a < x3) = false := by simpa using h1
          go_enter Tryz.func89, Tryz.ntmps89
          go_wp2
          go_ret
          refine ⟨by rw [HE.out false (by simp [fitsB, roomN]; omega)]; rfl, Grew.alloc (Grew.alloc (Grew.refl _) _) _⟩
      · have h0' : decide (0 ≤ a) = false := by simpa using h0
        go_enter Tryz.func89, Tryz.ntmps89
        go_wp2
        go_ret
        refine ⟨by rw [HE.out false (by simp [fitsB, roomN]; omega)]; rfl, Grew.alloc (Grew.alloc (Grew.refl _) _) _⟩
  · obtain ⟨g1, g2, g3, g4, g5, g6, g7, g8, g9, g10⟩ := h
    by_cases h0 : 0 ≤ a
    · by_cases h1 : a < 1
      · go_enter Tryz.func89, Tryz.ntmps89
        go_wp2
        go_ret
        refine ⟨by rw [HE.out true (by simp [fitsB, roomN, g1, g2, g3, g4, g5, g6, g7, g8, g9, g10]; omega)]; rfl, Grew.alloc (Grew.alloc (Grew.refl _) _) _⟩
      · have h1' : decide (a < 1) = false := by simpa using h1
        go_enter Tryz.func89, Tryz.ntmps89
        go_wp2
        go_ret
        refine ⟨by rw [HE.out false (by simp [fitsB, roomN, g1, g2, g3, g4, g5, g6, g7, g8, g9, g10]; omega)]; rfl, Grew.alloc (Grew.alloc (Grew.refl _) _) _⟩
    · have h0' : decide (0 ≤ a) = false := by simpa using h0
      go_enter Tryz.func89, Tryz.ntmps89
      go_wp2
      go_ret
      refine ⟨by rw [HE.out false (by simp [fitsB, roomN, g1, g2, g3, g4, g5, g6, g7, g8, g9, g10]; omega)]; rfl, Grew.alloc (Grew.alloc (Grew.refl _) _) _⟩

end Go.Proofs.YtiiplikmoodfnaaGreatDoor
/-
  ROWS OF ONE's OWN, AND CELLS THAT CAN BE READ.
-/
namespace Go.Proofs.YtiiplikmoodfnaaGreatDoor
open Go.RowKit Go.Sort

theorem ownsRow_same {w w1 : World} {base e size n : Nat} {v : Value} {xs : List Value} (h : w.ownsRow base e size v n xs) (hs : ∀ g, v.ownBlock = some g → w1.heap[g]? = w.heap[g]?) : w1.ownsRow base e size v n xs := by
  obtain ⟨hl, h⟩ := h
  refine ⟨hl, ?_⟩
  rcases h with h | ⟨g, cap, cur, rfl, hg, hh, r⟩
  · exact .inl h
  · exact .inr ⟨g, cap, cur, rfl, hg, (hs g rfl).trans hh, r⟩
theorem ownsRow_mono {w : World} {base base' e size n : Nat} {v : Value} {xs : List Value} (h : w.ownsRow base e size v n xs) (hb : base' ≤ base) : w.ownsRow base' e size v n xs := by
  obtain ⟨hl, h⟩ := h
  refine ⟨hl, ?_⟩
  rcases h with h | ⟨g, cap, cur, rfl, hg, r⟩
  · exact .inl h
  · exact .inr ⟨g, cap, cur, rfl, by omega, r⟩
theorem own_slice {w : World} {base e size n : Nat} {v : Value} {xs : List Value} (h : w.ownsRow base e size v n xs) : ∃ ao cap, v = .slice ao n cap ∧ (ao = none → cap = 0 ∧ n = 0) ∧ n ≤ cap ∧ (∀ a, ao = some a → a = ⟨a.block, 0, none⟩ ∧ base ≤ a.block ∧ a.block < w.heap.size) := by
  obtain ⟨_, ⟨rfl, rfl⟩ | ⟨g, cap, cur, rfl, hb, hg, hn, _⟩⟩ := h
  · exact ⟨none, 0, rfl, fun _ => ⟨rfl, rfl⟩, Nat.le_refl _, fun a e => by cases e⟩
  · exact ⟨some ⟨g, 0, none⟩, cap, rfl, fun e => (by cases e), hn, fun a e => by cases e; exact ⟨rfl, hb, (Array.getElem?_eq_some_iff.1 hg).1⟩⟩
theorem own_some {w : World} {base e size n : Nat} {v : Value} {xs : List Value} (h : w.ownsRow base e size v n xs) (hn : 0 < n) : ∃ g cap, v = .slice (some ⟨g, 0, none⟩) n cap ∧ n ≤ cap := by
  obtain ⟨_, ⟨rfl, rfl⟩ | ⟨g, cap, cur, rfl, hb, hg, hn, _⟩⟩ := h
  · omega
  · exact ⟨g, cap, rfl, hn⟩
theorem wpList_append_gen {w : World} {ops : Array Oper} {rest : List Oper} {o : Oper} {a : Act} {Q : Exit → Act → World → Prop} (hgd : o.guard = none) (s x : Operand) (t e : TypeId) (i0 : TypeInfo) (z : Value) (size bytes : Nat) (ht : Tryz.prog.underlying t = some (.slice e)) (hi : Tryz.prog.info? e = some i0) (hz0 : i0.zero = some z) (hz1 : i0.size = size) (hz2 : i0.bytes = bytes) (hzs : z.cells.size = size) (hsz : 0 < size)
    (ho : o.op = .call { callee := .builtin .append, args := #[s, x], argTypes := #[t, t] }) (base : Nat) (v : Value) (n : Nat) (xs : List Value) (hs : a.eval s = v) (hown : w.ownsRow base e size v n xs)
    (ad : Addr) (m c : Nat) (ys : List Value) (hx : a.eval x = .slice (some ad) m c) (hl : ys.length = m * size) (hc : ∀ j u, ys[j]? = some u → w.cell? (ad.add j) = some u) (h1 : ∀ u ∈ ys, u.oneCell' = true) (hm : n + m ≤ maxLen) (hb : (n + m) * bytes ≤ 140737488355328) (hbase : base ≤ w.heap.size)
    (h : ∀ v' w', w'.ownsRow base e size v' (n + m) (xs ++ ys) → w.grownBy w' v.ownBlock → wpList Tryz.prog ops Q rest (a.put o.dst v') w') : wpList Tryz.prog ops Q (o :: rest) a w := by
  obtain ⟨v', w', hr, h2, h3, _, h5⟩ := run_append_own_at (P := Tryz.prog) w base t o.type e i0 z size bytes ht hi hz0 hz1 hz2 hzs hsz v n xs hown ad m c ys hl hc h1 hm hb hbase
  refine wpList_plain hgd fun K hK' => ?_
  unfold Oper.wp
  simp [execOp, ho, resolve, invoke, builtin, hs, hx, hr, Result.andThen]
  exact hK' _ _ (h v' w' h2 h3)
def CellsAt (w : World) (ao : Option Addr) (xs : List Value) : Prop := xs = [] ∨ ∃ b off, ao = some ⟨b, off, none⟩ ∧ ∀ j u, xs[j]? = some u → w.cell? ⟨b, off + j, none⟩ = some u
theorem CellsAt.below {w w1 : World} {ao : Option Addr} {xs : List Value} (h : CellsAt w ao xs) (hb : Go.RowKit.Below w.heap.size w w1) : CellsAt w1 ao xs := by
  rcases h with h | ⟨b, off, rfl, hc⟩
  · exact .inl h
  · refine .inr ⟨b, off, rfl, fun j u hu => ?_⟩
    have := hc j u hu
    exact (hb.cell (p := ⟨b, off + j, none⟩) (cell_lt this)).trans this
theorem own_read {w : World} {base e size n cap : Nat} {ao : Option Addr} {xs : List Value} (h : w.ownsRow base e size (.slice ao n cap) n xs) : CellsAt w ao xs := by
  have h0 := h
  obtain ⟨hl, ⟨h1, h2⟩ | ⟨g, cap', cur, e1, _⟩⟩ := h
  · subst h2; exact .inl (List.eq_nil_of_length_eq_zero (by rw [hl, Nat.zero_mul]))
  · cases e1
    refine .inr ⟨g, 0, rfl, fun j u hu => ?_⟩
    have hj : j < n * size := by rw [← hl]; exact (List.getElem?_eq_some_iff.1 hu).1
    rw [Nat.zero_add, World.ownsRow.cellAt h0 j hj, hu]
theorem own_prefix {w : World} {base e size g n nx cap : Nat} {xs ys : List Value} (h : w.ownsRow base e size (.slice (some ⟨g, 0, none⟩) nx cap) nx (xs ++ ys)) (hl : xs.length = n * size) (hn : n ≤ nx) : w.ownsRow base e size (.slice (some ⟨g, 0, none⟩) n cap) n xs := by
  obtain ⟨_, ⟨e1, _⟩ | ⟨g', cap', cur, e1, hb, hg, h1, h2, h3, h4⟩⟩ := h
  · cases e1
  · cases e1
    refine ⟨hl, .inr ⟨g, cap, cur, rfl, hb, hg, by omega, h2, h3, ?_⟩⟩
    have h5 := congrArg (List.take (n * size)) h4
    rw [List.take_take, Nat.min_eq_left (Nat.mul_le_mul_right _ hn)] at h5
    rw [h5, ← hl, List.take_left']
    rfl
theorem own_apart {W : World} {base base' e e' size size' n n' : Nat} {v v' : Value} {xs xs' : List Value} (h : W.ownsRow base e size v n xs) (h' : W.ownsRow base' e' size' v' n' xs') (he : e ≠ e') {g : Nat} (hg : v.ownBlock = some g) : v'.ownBlock ≠ some g := by
  intro hg'
  obtain ⟨_, ⟨rfl, _⟩ | ⟨g1, c1, cur1, rfl, _, hh, _⟩⟩ := h
  · cases hg
  · obtain ⟨_, ⟨rfl, _⟩ | ⟨g2, c2, cur2, rfl, _, hh', _⟩⟩ := h'
    · cases hg'
    · cases hg
      cases hg'
      have := hh.symm.trans hh'
      simp only [Option.some.injEq, Obj.cells.injEq] at this
      exact he this.2.1
end Go.Proofs.YtiiplikmoodfnaaGreatDoor
/-
  THE WALKS OF onward, fits, withinLimits, look.
-/
namespace Go.Proofs.YtiiplikmoodfnaaGreatDoor
open Go.RowKit Go.Sort

/-- what onward answers -/
def onw (i : Nat) (op a : Int) : Int × Int × Int := if op = 0 ∨ op = 36 then (0, 0, 0) else if op = 31 then ((i : Int) + 1, a, 2) else if op = 30 then (a, 0, 1) else ((i : Int) + 1, 0, 1)
theorem onw_kinds (op : Int) : (op = 0 ∨ op = 36) ∨ op = 31 ∨ op = 30 ∨ (op ≠ 0 ∧ op ≠ 36 ∧ op ≠ 31 ∧ op ≠ 30) := by omega
def tripleV (x : Int × Int × Int) : Value := .tuple #[.agg #[.int .i64 x.1, .int .i64 x.2.1], .int .i64 x.2.2]
theorem below_set {w w1 : World} {B : Nat} (h : Below B w w1) (a : Addr) (v : Value) (ha : B ≤ a.block) : Below B w (w1.setCell a v) :=
  ⟨h.os, h.tape, h.output, by simpa using h.size, fun k hk => (heap_setCell_other w1 a k v (by omega)).trans (h.block k hk)⟩

set_option maxHeartbeats 1000000 in
theorem onward_any (w : World) (op a : Int) (i : Nat) (hi : i ≤ 1000000) :
    Calls Tryz.prog 93 #[.agg #[.int .i64 op, .int .i64 a], .int .i64 (i : Int)] w fun e w' => e = .returned (tripleV (onw i op a)) ∧ Below w.heap.size w w' := by
  have HE : Hid (∀ x, onw i op a = x → tripleV (onw i op a) = tripleV x) := fun x h => by rw [h]
  rcases onw_kinds op with h | h | h | h
  · rcases h with rfl | rfl <;>
    (go_enter Tryz.func93, Tryz.ntmps93
     go_wp2
     refine bodyPost_ret (v := .tuple #[.agg #[.int .i64 0, .int .i64 0], .int .i64 0]) (by simp [results, Tryz.results93, go_sem]) rfl ?_
     refine ⟨by rw [HE.out (0, 0, 0) (by simp [onw])]; rfl, ?_⟩
     repeat (first | exact Below.refl _ _ | refine below_set ?_ _ _ (by simp <;> omega) | refine Below.alloc ?_ (by simp <;> omega) _))
  · subst h
    go_enter Tryz.func93, Tryz.ntmps93
    go_wp2
    refine bodyPost_ret (v := .tuple #[.agg #[.int .i64 ((i : Int) + 1), .int .i64 a], .int .i64 2]) (by simp [results, Tryz.results93, go_sem]) rfl ?_
    refine ⟨by rw [HE.out ((i : Int) + 1, a, 2) (by simp [onw])]; rfl, ?_⟩
    repeat (first | exact Below.refl _ _ | refine below_set ?_ _ _ (by simp <;> omega) | refine Below.alloc ?_ (by simp <;> omega) _)
  · subst h
    go_enter Tryz.func93, Tryz.ntmps93
    go_wp2
    refine bodyPost_ret (v := .tuple #[.agg #[.int .i64 a, .int .i64 0], .int .i64 1]) (by simp [results, Tryz.results93, go_sem]) rfl ?_
    refine ⟨by rw [HE.out (a, 0, 1) (by simp [onw])]; rfl, ?_⟩
    repeat (first | exact Below.refl _ _ | refine below_set ?_ _ _ (by simp <;> omega) | refine Below.alloc ?_ (by simp <;> omega) _)
  · obtain ⟨h1, h2, h3, h4⟩ := h
    go_enter Tryz.func93, Tryz.ntmps93
    go_wp2
    refine bodyPost_ret (v := .tuple #[.agg #[.int .i64 ((i : Int) + 1), .int .i64 0], .int .i64 1]) (by simp [results, Tryz.results93, go_sem]) rfl ?_
    refine ⟨by rw [HE.out ((i : Int) + 1, 0, 1) (by simp [onw, h1, h2, h3, h4])]; rfl, ?_⟩
    repeat (first | exact Below.refl _ _ | refine below_set ?_ _ _ (by simp <;> omega) | refine Below.alloc ?_ (by simp <;> omega) _)

end Go.Proofs.YtiiplikmoodfnaaGreatDoor
/-
  ROWS OF NUMBERS THAT A CALL HAS MADE; make, copy, append.
-/
namespace Go.Proofs.YtiiplikmoodfnaaGreatDoor
open Go.RowKit Go.Sort

abbrev iv (z : Int) : Value := .int .i64 z
def cellsI (L : List Int) : Array Value := (L.map iv).toArray
theorem size_cellsI (L : List Int) : (cellsI L).size = L.length := by simp [cellsI]
theorem get_cellsI (L : List Int) (j : Nat) (h : j < L.length) : (cellsI L)[j]? = some (.int .i64 (L.getD j 0)) := by
  simp [cellsI, List.getD_eq_getElem?_getD, List.getElem?_eq_getElem h]
theorem set_cellsI (L : List Int) (i : Nat) (z : Int) : (cellsI L).setIfInBounds i (.int .i64 z) = cellsI (L.set i z) := by
  apply Array.ext'
  simp [cellsI, List.map_set]
theorem made_cellsI (n : Nat) : madeCells #[.int .i64 0] n = cellsI (List.replicate n 0) := by
  apply Array.ext'
  rw [toList_madeCells_one]
  simp [cellsI]
theorem oneI (L : List Int) : ∀ v ∈ L.map iv, v.oneCell' = true := by
  intro v hv
  obtain ⟨z, _, rfl⟩ := List.mem_map.1 hv
  rfl

/-- BLOCK g IS A ROW OF NUMBERS, L -/
def RowI (w : World) (g : Nat) (L : List Int) : Prop := w.heap[g]? = some (.cells (cellsI L) 3 (0, 0))
theorem RowI.cell {w : World} {g : Nat} {L : List Int} (h : RowI w g L) (j : Nat) (hj : j < L.length) : w.cell? ⟨g, j, none⟩ = some (.int .i64 (L.getD j 0)) := by
  have := get_cellsI L j hj
  simp [World.cell?, show w.heap[g]? = _ from h, this]
theorem RowI.frozen {w : World} {g : Nat} {L : List Int} (h : RowI w g L) (j : Nat) : w.frozen? ⟨g, j, none⟩ = false := frozen_of_row w g j _ _ h
theorem RowI.set {w : World} {g : Nat} {L : List Int} (h : RowI w g L) (i : Nat) (z : Int) : RowI (w.setCell ⟨g, i, none⟩ (.int .i64 z)) g (L.set i z) := by
  have := heap_setCell_same w g i _ _ (.int .i64 z) h
  rw [set_cellsI] at this
  exact this
theorem RowI.lt {w : World} {g : Nat} {L : List Int} (h : RowI w g L) : g < w.heap.size := (Array.getElem?_eq_some_iff.1 h).1
theorem RowI.other {w : World} {g : Nat} {L : List Int} (h : RowI w g L) {a : Addr} (v : Value) (hne : g ≠ a.block) : RowI (w.setCell a v) g L := by
  unfold RowI; rw [heap_setCell_other w a g v hne]; exact h
theorem RowI.below {w w1 : World} {g B : Nat} {L : List Int} (h : RowI w g L) (hb : Below B w w1) (hg : g < B) : RowI w1 g L := by
  unfold RowI; rw [hb.block g hg]; exact h
theorem RowI.kept {w w1 : World} {g : Nat} {L : List Int} (h : RowI w g L) (hb : Below w.heap.size w w1) : RowI w1 g L := h.below hb h.lt
theorem RowI.alloc {w : World} {g : Nat} {L : List Int} (h : RowI w g L) (o : Obj) : RowI (w.alloc o) g L := h.kept ((Below.refl _ _).alloc (Nat.le_refl _) _)
theorem RowI.new (w : World) (L : List Int) : RowI (w.alloc (.cells (cellsI L) 3)) w.heap.size L := by
  show (w.heap.push _)[w.heap.size]? = _
  simp
theorem RowI.setRow {w : World} {g : Nat} {L : List Int} (h : RowI w g L) (M : List Int) : RowI (w.setRow g (cellsI M)) g M := by
  unfold RowI at *
  simp [World.setRow, Array.getElem?_modify, h]
theorem below_setRow {w : World} {g B : Nat} (c : Array Value) (hg : B ≤ g) : Below B w (w.setRow g c) := by
  refine ⟨rfl, rfl, rfl, by simp [World.setRow], fun k hk => ?_⟩
  simp [World.setRow, Array.getElem?_modify, show g ≠ k by omega]

theorem infoI : (Tryz.prog.info? 3).map (fun i => (i.zero, i.size, i.bytes)) = some (some (.int .i64 0), 1, 8) := by kernel_rfl
theorem sizeI : (Tryz.prog.info? 3).map (·.size) = some 1 := by kernel_rfl
/-- make([]int, n) -/
theorem make_ints (c : Nat) (C : Int) (hC : C = c) (hc : c ≤ 1000000) (u : World) : (Instr.makeSlice 120 (.int .i64 C) (.int .i64 C)).run Tryz.prog u =
    .ok (.slice (some ⟨u.heap.size, 0, none⟩) c c) (u.alloc (.cells (cellsI (List.replicate c 0)) 3)) := by
  obtain ⟨i0, hi, hz0, hz1, hz2⟩ := info_parts infoI
  subst hC
  have h := run_make (P := Tryz.prog) u 120 3 i0 (.int .i64 0) Tryz.underlying120 hi hz0 .i64 .i64 (c : Int) (c : Int) (by omega) (Int.le_refl _) (by rw [hz2]; omega) (by omega)
  rw [← made_cellsI]
  simpa [hz1, Value.cells] using h

theorem step_copy_ints {w : World} {ops : Array Oper} {o : Oper} {a : Act} {K' : Act → World → Prop} {Q : Exit → Act → World → Prop} {E : Prop} (hgd : o.guard = none) (s x : Operand)
    (ho : o.op = .call { callee := .builtin .copy, args := #[s, x], argTypes := #[120, 120] }) (v1 v2 r : Value) (w' : World) (hs : a.eval s = v1) (hx : a.eval x = v2)
    (hr : (Builtin.copy_ #[120, 120] o.type #[v1, v2]).run Tryz.prog w = .ok r w') (h : K' (a.put o.dst r) w') :
    if Region.wanted o (yielded ops a.tmps) = true then Oper.wp Tryz.prog o a w K' Q else E := by
  have hw : Region.wanted o (yielded ops a.tmps) = true := by simp [Region.wanted, hgd]
  rw [if_pos hw]
  unfold Oper.wp execOp
  simp only [ho, resolve, invoke, builtin, Sem.run_bind, Sem.run_pure, Result.andThen_ok, List.map_toArray, List.map_cons, List.map_nil, hs, hx, hr]
  exact h

/-- copy of a row's beginning behind it -/
def half (m k : Nat) : List Int := List.replicate k (-1) ++ List.replicate (m - k) 0
theorem half_length (m k : Nat) (h : k ≤ m) : (half m k).length = m := by simp [half]; omega
theorem half_full (m : Nat) : half m m = List.replicate m (-1) := by simp [half]
theorem half_get (m k j : Nat) (h : j < k) : (half m k).getD j 0 = -1 := by
  simp [half, List.getD_eq_getElem?_getD, List.getElem?_append_left, h]
theorem half_copy (m k c : Nat) : (half m k).take k ++ List.replicate c (-1) ++ (half m k).drop (k + c) = half m (k + c) := by
  unfold half
  rw [List.take_left' (by simp), List.replicate_append_replicate, List.drop_append, List.drop_eq_nil_of_le (by simp), List.nil_append, List.drop_replicate]
  congr 2
  simp; omega
theorem copy_half (w : World) (ty : TypeId) (g m k dLen dCap sCap : Nat) (h : RowI w g (half m k)) (hk : k < m) (hd : dLen = m - k) :
    (Builtin.copy_ #[120, 120] ty #[.slice (some ⟨g, k, none⟩) dLen dCap, .slice (some ⟨g, 0, none⟩) k sCap]).run Tryz.prog w =
      .ok (.int .i64 ((min k (m - k) : Nat) : Int)) (w.setRow g (cellsI (half m (k + min k (m - k))))) := by
  have h1 := run_copy_row (P := Tryz.prog) w 120 120 ty 3 g k dLen dCap ⟨g, 0, none⟩ k sCap (cellsI (half m k)) 3 (List.replicate (min k (m - k)) (iv (-1))) Tryz.underlying120 sizeI h
    (by rw [List.length_replicate, hd])
    (fun j v hv => by
      have hj : j < min k (m - k) := by have := (List.getElem?_eq_some_iff.1 hv).1; simpa using this
      rw [List.getElem?_replicate, if_pos hj] at hv
      cases hv
      rw [addr_add, Nat.zero_add, h.cell j (by rw [half_length m k (by omega)]; omega), half_get m k j (by omega)])
    (by rw [size_cellsI, half_length m k (by omega), List.length_replicate]; omega)
    (by intro v hv; rw [List.eq_of_mem_replicate hv]; rfl)
  have e : ((cellsI (half m k)).toList.take k ++ List.replicate (min k (m - k)) (iv (-1)) ++ (cellsI (half m k)).toList.drop (k + (List.replicate (min k (m - k)) (iv (-1))).length)).toArray = cellsI (half m (k + min k (m - k))) := by
    rw [List.length_replicate, ← half_copy m k (min k (m - k))]
    simp [cellsI, List.map_append, List.map_take, List.map_drop]
  rw [h1, e, List.length_replicate]
  rfl

end Go.Proofs.YtiiplikmoodfnaaGreatDoor
/-
  THE WALKS OF bits.Mul, slices.Repeat.
-/
namespace Go.Proofs.YtiiplikmoodfnaaGreatDoor
open Go.RowKit Go.Sort

theorem and32 (m : Nat) (h : m < 4294967296) : bits .and .u64 (m : Int) 4294967295 = (m : Int) := by
  have := u64_and_nat m 4294967295 (by omega) (by omega)
  rw [show (4294967295 : Nat) = 2 ^ 32 - 1 from rfl, Nat.and_two_pow_sub_one_eq_mod, Nat.mod_eq_of_lt (by omega)] at this
  exact this
theorem mul64_any (w : World) (m : Nat) (hm : m ≤ 1000000) :
    Calls Tryz.prog 110 #[.int .u64 1, .int .u64 (m : Int)] w fun e w' => e = .returned (.tuple #[.int .u64 0, .int .u64 (m : Int)]) ∧ w' = w := by
  have h1 := and32 m (by omega)
  have h2 : bits .and .u64 1 4294967295 = 1 := by decide +kernel
  have h3 : bits .and .u64 0 4294967295 = 0 := by decide +kernel
  have h4 : (m : Int) / 4294967296 = 0 := by omega
  go_enter Tryz.func110, Tryz.ntmps110
  go_wp2
  go_ret2
  exact ⟨rfl, rfl⟩
theorem mul_any (w : World) (m : Nat) (hm : m ≤ 1000000) :
    Calls Tryz.prog 100 #[.int .u64 1, .int .u64 (m : Int)] w fun e w' => e = .returned (.tuple #[.int .u64 0, .int .u64 (m : Int)]) ∧ w' = w := by
  go_enter Tryz.func100, Tryz.ntmps100
  go_wp2_with fail
  refine (mul64_any _ m hm).mono ?_
  rintro e w1 ⟨rfl, rfl⟩
  go_wp2
  go_ret2
  exact ⟨rfl, rfl⟩

theorem copy_first (w : World) (ty : TypeId) (g b m dCap sCap : Nat) (h : RowI w g (half m 0)) (hc : w.cell? ⟨b, 0, none⟩ = some (.int .i64 (-1))) (hm : 1 ≤ m) :
    (Builtin.copy_ #[120, 120] ty #[.slice (some ⟨g, 0, none⟩) m dCap, .slice (some ⟨b, 0, none⟩) 1 sCap]).run Tryz.prog w = .ok (.int .i64 1) (w.setRow g (cellsI (half m 1))) := by
  have h1 := run_copy_row (P := Tryz.prog) w 120 120 ty 3 g 0 m dCap ⟨b, 0, none⟩ 1 sCap (cellsI (half m 0)) 3 [iv (-1)] Tryz.underlying120 sizeI h
    (by show 1 = min 1 m; omega)
    (fun j v hv => by
      match j, hv with
      | 0, hv => simp at hv; rw [← hv, addr_add]; exact hc
      | j + 1, hv => simp at hv)
    (by rw [size_cellsI, half_length m 0 (by omega)]; simpa using hm)
    (by intro v hv; simp at hv; rw [hv]; rfl)
  have e : ((cellsI (half m 0)).toList.take 0 ++ [iv (-1)] ++ (cellsI (half m 0)).toList.drop (0 + [iv (-1)].length)).toArray = cellsI (half m 1) := by
    have := half_copy m 0 1
    rw [show half m 1 = half m (0 + 1) from rfl, ← this]
    simp [cellsI]
  rw [h1, e]
  rfl

set_option maxHeartbeats 300000 in
theorem repeat_any (w : World) (b m : Nat) (hc : w.cell? ⟨b, 0, none⟩ = some (.int .i64 (-1))) (h1 : 1 ≤ m) (hm : m ≤ 1000000) :
    Calls Tryz.prog 90 #[.slice (some ⟨b, 0, none⟩) 1 1, .int .i64 (m : Int)] w fun e w' => e = .returned (.slice (some ⟨w.heap.size, 0, none⟩) m m) ∧ RowI w' w.heap.size (List.replicate m (-1)) ∧ Below w.heap.size w w' := by
  have hlt : b < w.heap.size := cell_lt hc
  have hmk := make_ints m (m : Int) rfl hm
  have hr0 : RowI (w.alloc (.cells (cellsI (List.replicate m 0)) 3)) w.heap.size (half m 0) := by have := RowI.new w (List.replicate m 0); simpa [half] using this
  have hcp := fun ty => copy_first (w.alloc (.cells (cellsI (List.replicate m 0)) 3)) ty w.heap.size b m m 1 hr0 (((Grew.refl w).alloc _).cell hc) h1
  have HR1 : Hid (RowI ((w.alloc (.cells (cellsI (List.replicate m 0)) 3)).setRow w.heap.size (cellsI (half m 1))) w.heap.size (half m 1)) := hr0.setRow _
  have HB1 : Hid (Below w.heap.size w ((w.alloc (.cells (cellsI (List.replicate m 0)) 3)).setRow w.heap.size (cellsI (half m 1)))) := ((Below.refl _ _).alloc (Nat.le_refl _) _).trans (below_setRow _ (Nat.le_refl _))
  have hk0 : ¬ ((m : Int) < 0) := by omega
  clear hr0
  go_enter Tryz.func90, Tryz.ntmps90
  go_wp2_with fail
  refine (mul_any _ m hm).mono ?_
  rintro e w1 ⟨rfl, rfl⟩
  go_wp2_with fail
  generalize (w1.alloc (.cells (cellsI (List.replicate m 0)) 3)).setRow w1.heap.size (cellsI (half m 1)) = W1 at *
  obtain ⟨G, hG⟩ : ∃ G, G = w1.heap.size := ⟨_, rfl⟩
  rw [← hG] at HR1 ⊢
  have HG : Hid (G = w1.heap.size) := hG
  clear hG hcp hmk
  go_loopw [8] (fun x wr => ∃ k : Nat, 1 ≤ k ∧ k ≤ m ∧ x = .int .i64 (k : Int) ∧ Hid (RowI wr G (half m k)) ∧ Hid (Below w1.heap.size w1 wr)) (fun x _ => m - (intOf x).toNat)
  case atStart => exact ⟨1, by omega, h1, rfl, HR1, HB1⟩
  case round =>
    clear HR1 HB1
    obtain ⟨k, hk1, hk, rfl, HR, HB⟩ := hrel
    by_cases hlt : k < m
    · have hne : k ≠ m := by omega
      have hlt' : (k : Int) < (m : Int) := by omega
      have HR2 : Hid (RowI (wr.drew.setRow G (cellsI (half m (k + min k (m - k))))) G (half m (k + min k (m - k)))) := RowI.setRow (w := wr.drew) HR.out _
      have HB2 : Hid (Below w1.heap.size w1 (wr.drew.setRow G (cellsI (half m (k + min k (m - k)))))) := HB.out.trans ((show Below w1.heap.size wr wr.drew from ⟨rfl, rfl, rfl, Nat.le_refl _, fun _ _ => rfl⟩).trans (below_setRow _ (by rw [HG.out]; exact Nat.le_refl _)))
      go_wp2_with fail
      have hne' : ¬ m = k := by omega
      have hcp := fun ty => copy_half wr.drew ty G m k (m - k) (m - k) m HR.out hlt rfl
      go_region
      all_goals go_wp2
      all_goals go_roundw
      all_goals first | exact ⟨k + min k (m - k), by omega, by omega, by go_num, HR2, HB2⟩ | (simp [intOf]; omega)
    · obtain rfl : k = m := by omega
      go_wp2
      go_ret
      refine ⟨by rw [HG.out]; rfl, ?_, HB.out⟩
      have := HR.out
      rwa [half_full, HG.out] at this

end Go.Proofs.YtiiplikmoodfnaaGreatDoor
/-
  THE WALKS OF look, Depths' first loop.
-/
namespace Go.Proofs.YtiiplikmoodfnaaGreatDoor
open Go.RowKit Go.Sort

theorem KeysAt.get {w : World} {ao : Option Addr} {L : List K} (h : KeysAt w ao L) (j : Nat) (hj : j < L.length) : ∃ b off, ao = some ⟨b, off, none⟩ ∧ w.cell? ⟨b, off + j * 2, none⟩ = some (.int .i64 (cd L j).1) ∧ w.cell? ⟨b, off + j * 2 + 1, none⟩ = some (.int .i64 (cd L j).2) := by
  rcases h with rfl | ⟨b, off, rfl, hc⟩
  · simp at hj
  · exact ⟨b, off, rfl, KeysAt.at hc j hj⟩

set_option maxHeartbeats 2000000 in
theorem look_any (w : World) (p : Nums) (ao : Option Addr) (n cap i : Nat) (L : List K) (hp : NIn p) (h : KeysAt w ao L) (hn : n = L.length) (hi : i < n) :
    Calls Tryz.prog 83 #[pv p ao n cap, .int .i64 (i : Int)] w fun e w' => e = .returned (.int .i64 (lookN p n i (cd L i))) ∧ Below w.heap.size w w' := by
  obtain ⟨b, off, rfl, c1, c2⟩ := h.get i (by omega)
  have hlt : b < w.heap.size := cell_lt c1
  have HP : Hid (NIn p) := hp
  clear hp h hn
  generalize hk : cd L i = k at *
  obtain ⟨op, a⟩ := k
  simp only at c1 c2
  have HE : Hid (∀ x, lookN p n i (op, a) = x → lookN p n i (op, a) = x) := fun x h => h
  clear hk
  have HB : ∀ (q : Nat) (os : Array Obj) (W : World), Below w.heap.size w W → Below w.heap.size w (grow (W.drewN q) os) := fun q os W h => h.trans ((Grew.grow (Grew.refl W) q os).below.mono h.size)
  go_enter Tryz.func83, Tryz.ntmps83
  go_wp2_with fail
  refine (isOp_any _ _).mono ?_
  rintro e w1 ⟨rfl, rfl⟩
  cases ho : isOpB op with
  | false =>
    go_wp2
    go_ret
    refine ⟨by rw [HE.out 31 (by simp [lookN, ho])]; rfl, ?_⟩
    repeat (first | exact Below.refl _ _ | refine below_set ?_ _ _ (by simp <;> omega) | refine Below.alloc ?_ (by simp <;> omega) _)
  | true =>
    by_cases hj : op = 30 ∨ op = 31
    · by_cases ha : a ≤ (i : Int)
      · have HX : Hid (lookN p n i (op, a) = 33) := by rcases hj with rfl | rfl <;> simp [lookN, ho, jumpB, Hid] <;> omega
        rcases hj with rfl | rfl <;>
        (go_wp2
         go_ret
         refine ⟨by rw [HE.out 33 HX.out]; rfl, ?_⟩
         repeat (first | exact Below.refl _ _ | refine below_set ?_ _ _ (by simp <;> omega) | refine Below.alloc ?_ (by simp <;> omega) _))
      · have ha' : decide (a ≤ (i : Int)) = false := by simpa using ha
        by_cases hb : (n : Int) < a
        · have HX : Hid (lookN p n i (op, a) = 33) := by rcases hj with rfl | rfl <;> simp [lookN, ho, jumpB, Hid] <;> omega
          rcases hj with rfl | rfl <;>
          (go_wp2
           go_ret
           refine ⟨by rw [HE.out 33 HX.out]; rfl, ?_⟩
           repeat (first | exact Below.refl _ _ | refine below_set ?_ _ _ (by simp <;> omega) | refine Below.alloc ?_ (by simp <;> omega) _))
        · have hb' : decide ((n : Int) < a) = false := by simpa using hb
          have HX : Hid (lookN p n i (op, a) = 0) := by rcases hj with rfl | rfl <;> simp [lookN, ho, jumpB, fitsB, Hid] <;> omega
          have HF : Hid (fitsB p op a = true) := by rcases hj with rfl | rfl <;> simp [fitsB, Hid]
          rcases hj with rfl | rfl <;>
          (go_wp2_with fail
           refine (fits_any _ p _ _ _ _ _ HP.out).mono ?_
           rintro e w2 ⟨rfl, q, os, rfl⟩
           rw [HF.out]
           go_wp2
           go_ret
           refine ⟨by rw [HE.out 0 HX.out]; rfl, HB _ _ _ ?_⟩
           repeat (first | exact Below.refl _ _ | refine below_set ?_ _ _ (by simp <;> omega) | refine Below.alloc ?_ (by simp <;> omega) _))
    · have h30 : (op == 30) = false := by simp; omega
      have h31 : (op == 31) = false := by simp; omega
      have h30' : op ≠ 30 := by omega
      have h31' : op ≠ 31 := by omega
      clear hj
      go_wp2_with fail
      refine (fits_any _ p _ _ _ _ _ HP.out).mono ?_
      rintro e w2 ⟨rfl, q, os, rfl⟩
      cases hf : fitsB p op a with
      | false =>
        have HX : Hid (lookN p n i (op, a) = 32) := by simp [lookN, ho, jumpB, hf, h30', h31', Hid]
        go_wp2
        go_ret
        refine ⟨by rw [HE.out 32 HX.out]; rfl, HB _ _ _ ?_⟩
        repeat (first | exact Below.refl _ _ | refine below_set ?_ _ _ (by simp <;> omega) | refine Below.alloc ?_ (by simp <;> omega) _)
      | true =>
        have HX : Hid (lookN p n i (op, a) = 0) := by simp [lookN, ho, jumpB, hf, h30', h31', Hid]
        go_wp2
        go_ret
        refine ⟨by rw [HE.out 0 HX.out]; rfl, HB _ _ _ ?_⟩
        repeat (first | exact Below.refl _ _ | refine below_set ?_ _ _ (by simp <;> omega) | refine Below.alloc ?_ (by simp <;> omega) _)

end Go.Proofs.YtiiplikmoodfnaaGreatDoor
/-
  DEPTHS: what the search keeps.
-/
namespace Go.Proofs.YtiiplikmoodfnaaGreatDoor
open Go.RowKit Go.Sort

/-- instructions that were looked over -/
def Sane (L : List K) : Prop := ∀ i, i < L.length → isOpB (cd L i).1 = true ∧ (jumpB (cd L i).1 = true → (i : Int) < (cd L i).2 ∧ (cd L i).2 ≤ (L.length : Int))
theorem sane_of {p : Nums} {L : List K} (h : lookAll p L L.length = 0) : Sane L := by
  intro i hi
  have h1 := firstE_zero h i hi
  simp only [lookN] at h1
  cases ho : isOpB (cd L i).1 with
  | false => rw [if_pos ho] at h1; simp at h1
  | true =>
    rw [if_neg (by simp [ho])] at h1
    refine ⟨rfl, fun hj => ?_⟩
    by_cases hc : (cd L i).2 ≤ (i : Int) ∨ (L.length : Int) < (cd L i).2
    · rw [if_pos ⟨hj, hc⟩] at h1; simp at h1
    · omega
theorem next_lt {L : List K} (h : Sane L) {i : Nat} (hi : i < L.length) : ∀ t ∈ nextN i (cd L i).1 (cd L i).2, i < t ∧ t ≤ L.length := by
  obtain ⟨h1, h2⟩ := h i hi
  intro t ht
  unfold nextN at ht
  by_cases c1 : (cd L i).1 = 0 ∨ (cd L i).1 = 36
  · rw [if_pos c1] at ht; simp at ht
  · rw [if_neg c1] at ht
    by_cases c2 : (cd L i).1 = 31
    · have h3 := h2 (by simp [jumpB, c2])
      rw [if_pos c2] at ht
      simp at ht
      omega
    · rw [if_neg c2] at ht
      by_cases c3 : (cd L i).1 = 30
      · have h3 := h2 (by simp [jumpB, c3])
        rw [if_pos c3] at ht
        simp at ht
        omega
      · rw [if_neg c3] at ht
        simp at ht
        omega
theorem onw_next {L : List K} (h : Sane L) {i : Nat} (hi : i < L.length) : (onw i (cd L i).1 (cd L i).2).2.2 = ((nextN i (cd L i).1 (cd L i).2).length : Int) ∧
    (∀ t r, nextN i (cd L i).1 (cd L i).2 = t :: r → (onw i (cd L i).1 (cd L i).2).1 = (t : Int)) ∧ (∀ t u r, nextN i (cd L i).1 (cd L i).2 = t :: u :: r → (onw i (cd L i).1 (cd L i).2).2.1 = (u : Int)) := by
  obtain ⟨h1, h2⟩ := h i hi
  unfold nextN onw
  by_cases c1 : (cd L i).1 = 0 ∨ (cd L i).1 = 36
  · rw [if_pos c1, if_pos c1]; simp
  · rw [if_neg c1, if_neg c1]
    by_cases c2 : (cd L i).1 = 31
    · have h3 := h2 (by simp [jumpB, c2])
      rw [if_pos c2, if_pos c2]
      simp
      intro t u r _ h5 _
      omega
    · rw [if_neg c2, if_neg c2]
      by_cases c3 : (cd L i).1 = 30
      · have h3 := h2 (by simp [jumpB, c3])
        rw [if_pos c3, if_pos c3]
        simp
        omega
      · rw [if_neg c3, if_neg c3]
        simp
theorem next_two (i : Nat) (op a : Int) : (nextN i op a).length ≤ 2 := by
  unfold nextN; repeat (split; simp)
  simp
theorem putD_length {d d' : List Int} {x : Int} {r : List Nat} (h : putD d x r = some d') : d'.length = d.length := by
  induction r generalizing d with
  | nil => simp [putD] at h; rw [h]
  | cons t r ih =>
    unfold putD at h
    split at h
    · simp at h
    · rw [ih h, List.length_set]
theorem stepD_length {d d' : List Int} {k : K} {i : Nat} (h : stepD k i d = some d') : d'.length = d.length := by
  unfold stepD at h
  split at h
  · simp at h; rw [h]
  · split at h
    · simp at h
    · exact putD_length h
theorem runD_length {L : List K} {k : Nat} {d : List Int} (h : runD L k = some d) : d.length = L.length + 1 := by
  induction k generalizing d with
  | zero => simp [runD, startD] at h; rw [← h]; simp
  | succ k ih =>
    unfold runD at h
    cases h1 : runD L k with
    | none => rw [h1] at h; simp at h
    | some d1 => rw [h1] at h; simp at h; rw [stepD_length h, ih h1]
/-- depths are at least -1, at most 32 -/
def Mild (d : List Int) : Prop := ∀ j, j < d.length → -1 ≤ d.getD j 0 ∧ d.getD j 0 ≤ 32
theorem getD_set (d : List Int) (t j : Nat) (x : Int) (h : j < d.length) : (d.set t x).getD j 0 = if t = j then x else d.getD j 0 := by
  simp only [List.getD_eq_getElem?_getD, List.getElem?_set]
  by_cases e : t = j
  · subst e; simp [h]
  · simp [e]
theorem Mild.set {d : List Int} (h : Mild d) (t : Nat) {x : Int} (hx : -1 ≤ x ∧ x ≤ 32) : Mild (d.set t x) := by
  intro j hj
  rw [List.length_set] at hj
  rw [getD_set d t j x hj]
  split
  · exact hx
  · exact h j hj
theorem Mild.put {d d' : List Int} {x : Int} {r : List Nat} (h : Mild d) (hx : -1 ≤ x ∧ x ≤ 32) (hp : putD d x r = some d') : Mild d' := by
  induction r generalizing d with
  | nil => simp [putD] at hp; rw [← hp]; exact h
  | cons t r ih =>
    unfold putD at hp
    split at hp
    · simp at hp
    · exact ih (h.set t hx) hp
theorem Mild.step {d d' : List Int} {k : K} {i : Nat} (h : Mild d) (hk : isOpB k.1 = true) (hp : stepD k i d = some d') : Mild d' := by
  unfold stepD at hp
  split at hp
  · simp at hp; rw [← hp]; exact h
  · split at hp
    · simp at hp
    · have := leaves_bound hk
      exact h.put (by omega) hp
theorem Mild.run {L : List K} (hs : Sane L) {k : Nat} (hk : k ≤ L.length) {d : List Int} (h : runD L k = some d) : Mild d := by
  induction k generalizing d with
  | zero =>
    simp [runD, startD] at h
    rw [← h]
    intro j hj
    cases j with
    | zero => simp
    | succ j => simp at hj; simp [List.getD_eq_getElem?_getD, hj]
  | succ k ih =>
    unfold runD at h
    cases h1 : runD L k with
    | none => rw [h1] at h; simp at h
    | some d1 => rw [h1] at h; simp at h; exact (ih (by omega) h1).step (hs k (by omega)).1 h
theorem runD_stuck {L : List K} {k : Nat} (h : runD L k = none) (n : Nat) (hn : k ≤ n) : runD L n = none := by
  induction n with
  | zero => obtain rfl : k = 0 := by omega
            exact h
  | succ n ih =>
    by_cases e : k = n + 1
    · rw [← e]; exact h
    · unfold runD; rw [ih (by omega)]; rfl

end Go.Proofs.YtiiplikmoodfnaaGreatDoor
