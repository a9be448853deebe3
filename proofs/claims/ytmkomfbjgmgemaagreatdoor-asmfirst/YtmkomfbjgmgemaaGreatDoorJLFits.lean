import Derived.Test.YtmkomfbjgmgemaaGreatDoorJLList
import Derived.Laws.OwnMore
import Derived.Laws.AppendOwnNone
import Derived.Maps.AppendAt
import Derived.Deep.DeepAppendRoom
/-
  THE WALKS OF withinLimits, fits.
-/
namespace Go.Proofs.YtmkomfbjgmgemaaGreatDoor
open Go.RowKit Go.Sort


set_option maxHeartbeats 2000000 in
theorem withinLimits_any (w : World) (p : Nums) (ao : Option Addr) (n cap : Nat) :
    Calls Tryz.prog 78 #[pv p ao n cap] w fun e w' => e = .returned (.bool (limB p n)) ∧ ∃ q os, w' = grow (w.drewN q) os := by
  have HE : Hid (∀ b : Bool, limB p n = b → limB p n = b) := fun b h => h
  obtain ⟨x1, x2, x3, x4⟩ := p
  go_enter Tryz.func78, Tryz.ntmps78
  by_cases h0 : 0 ≤ x1
  case neg =>
    have h0b : decide (0 ≤ x1) = false := by simpa using h0
    go_wp2
    go_ret
    refine ⟨by rw [HE.out false (by rw [← Bool.not_eq_true, limB_iff]; simp only; omega)]; rfl, Grew.alloc (Grew.refl _) _⟩
  by_cases h1 : x1 ≤ 16
  case neg =>
    have h1b : decide (x1 ≤ 16) = false := by simpa using h1
    go_wp2
    go_ret
    refine ⟨by rw [HE.out false (by rw [← Bool.not_eq_true, limB_iff]; simp only; omega)]; rfl, Grew.alloc (Grew.refl _) _⟩
  by_cases h2 : 0 ≤ x2
  case neg =>
    have h2b : decide (0 ≤ x2) = false := by simpa using h2
    go_wp2
    go_ret
    refine ⟨by rw [HE.out false (by rw [← Bool.not_eq_true, limB_iff]; simp only; omega)]; rfl, Grew.alloc (Grew.refl _) _⟩
  by_cases h3 : x2 ≤ 16
  case neg =>
    have h3b : decide (x2 ≤ 16) = false := by simpa using h3
    go_wp2
    go_ret
    refine ⟨by rw [HE.out false (by rw [← Bool.not_eq_true, limB_iff]; simp only; omega)]; rfl, Grew.alloc (Grew.refl _) _⟩
  by_cases h4 : 0 ≤ x3
  case neg =>
    have h4b : decide (0 ≤ x3) = false := by simpa using h4
    go_wp2
    go_ret
    refine ⟨by rw [HE.out false (by rw [← Bool.not_eq_true, limB_iff]; simp only; omega)]; rfl, Grew.alloc (Grew.refl _) _⟩
  by_cases h5 : x3 ≤ 16
  case neg =>
    have h5b : decide (x3 ≤ 16) = false := by simpa using h5
    go_wp2
    go_ret
    refine ⟨by rw [HE.out false (by rw [← Bool.not_eq_true, limB_iff]; simp only; omega)]; rfl, Grew.alloc (Grew.refl _) _⟩
  by_cases h6 : 0 ≤ x4
  case neg =>
    have h6b : decide (0 ≤ x4) = false := by simpa using h6
    go_wp2
    go_ret
    refine ⟨by rw [HE.out false (by rw [← Bool.not_eq_true, limB_iff]; simp only; omega)]; rfl, Grew.alloc (Grew.refl _) _⟩
  by_cases h7 : x4 ≤ 16
  case neg =>
    have h7b : decide (x4 ≤ 16) = false := by simpa using h7
    go_wp2
    go_ret
    refine ⟨by rw [HE.out false (by rw [← Bool.not_eq_true, limB_iff]; simp only; omega)]; rfl, Grew.alloc (Grew.refl _) _⟩
  by_cases h8 : (n : Int) ≤ 256
  case neg =>
    have h8b : decide ((n : Int) ≤ 256) = false := by simpa using h8
    go_wp2
    go_ret
    refine ⟨by rw [HE.out false (by rw [← Bool.not_eq_true, limB_iff]; simp only; omega)]; rfl, Grew.alloc (Grew.refl _) _⟩
  go_wp2
  go_ret
  refine ⟨by rw [HE.out true (by rw [limB_iff]; simp only; omega)]; rfl, Grew.alloc (Grew.refl _) _⟩

theorem room_kinds (op : Int) : (op = 1 ∨ op = 30 ∨ op = 31) ∨ (op = 4 ∨ op = 5) ∨ op = 6 ∨ (op = 7 ∨ op = 8) ∨ (op = 32 ∨ op = 33) ∨ (op ≠ 1 ∧ op ≠ 30 ∧ op ≠ 31 ∧ op ≠ 4 ∧ op ≠ 5 ∧ op ≠ 6 ∧ op ≠ 7 ∧ op ≠ 8 ∧ op ≠ 32 ∧ op ≠ 33) := by omega

set_option maxHeartbeats 2000000 in
theorem fits_any (w : World) (p : Nums) (ao : Option Addr) (n cap : Nat) (op a : Int) (hp : In64 p.args ∧ In64 p.reads ∧ In64 p.writes ∧ In64 p.locals) :
    Calls Tryz.prog 89 #[pv p ao n cap, .agg #[.int .i64 op, .int .i64 a]] w fun e w' => e = .returned (.bool (fitsB p op a)) ∧ ∃ q os, w' = grow (w.drewN q) os := by
  have HE : Hid (∀ b : Bool, fitsB p op a = b → fitsB p op a = b) := fun b h => h
  have HP : Hid (In64 p.args ∧ In64 p.reads ∧ In64 p.writes ∧ In64 p.locals) := hp
  clear hp
  obtain ⟨x1, x2, x3, x4⟩ := p
  rcases room_kinds op with h | h | h | h | h | h
  · rcases h with rfl | rfl | rfl <;>
    (go_enter Tryz.func89, Tryz.ntmps89
     go_wp2
     go_ret
     refine ⟨by rw [HE.out true (by simp [fitsB])]; rfl, Grew.alloc (Grew.alloc (Grew.refl _) _) _⟩)
  · rcases h with rfl | rfl
    · by_cases h0 : 0 ≤ a
      · by_cases h1 : a < x4
        · go_enter Tryz.func89, Tryz.ntmps89
          go_wp2
          go_ret
          refine ⟨by rw [HE.out true (by simp [fitsB, roomN]; omega)]; rfl, Grew.alloc (Grew.alloc (Grew.refl _) _) _⟩
        · have h1' : decide (a < x4) = false := by simpa using h1
          go_enter Tryz.func89, Tryz.ntmps89
          go_wp2
          go_ret
          refine ⟨by rw [HE.out false (by simp [fitsB, roomN]; omega)]; rfl, Grew.alloc (Grew.alloc (Grew.refl _) _) _⟩
      · have h0' : decide (0 ≤ a) = false := by simpa using h0
        go_enter Tryz.func89, Tryz.ntmps89
        go_wp2
        go_ret
        refine ⟨by rw [HE.out false (by simp [fitsB, roomN]; omega)]; rfl, Grew.alloc (Grew.alloc (Grew.refl _) _) _⟩
    · by_cases h0 : 0 ≤ a
      · by_cases h1 : a < x4
        · go_enter Tryz.func89, Tryz.ntmps89
          go_wp2
          go_ret
          refine ⟨by rw [HE.out true (by simp [fitsB, roomN]; omega)]; rfl, Grew.alloc (Grew.alloc (Grew.refl _) _) _⟩
        · have h1' : decide (a < x4) = false := by simpa using h1
          go_enter Tryz.func89, Tryz.ntmps89
          go_wp2
          go_ret
          refine ⟨by rw [HE.out false (by simp [fitsB, roomN]; omega)]; rfl, Grew.alloc (Grew.alloc (Grew.refl _) _) _⟩
      · have h0' : decide (0 ≤ a) = false := by simpa using h0
        go_enter Tryz.func89, Tryz.ntmps89
        go_wp2
        go_ret
        refine ⟨by rw [HE.out false (by simp [fitsB, roomN]; omega)]; rfl, Grew.alloc (Grew.alloc (Grew.refl _) _) _⟩
  · subst h
    by_cases h0 : 0 ≤ a
    · by_cases h1 : a < x1
      · go_enter Tryz.func89, Tryz.ntmps89
        go_wp2
        go_ret
        refine ⟨by rw [HE.out true (by simp [fitsB, roomN]; omega)]; rfl, Grew.alloc (Grew.alloc (Grew.refl _) _) _⟩
      · have h1' : decide (a < x1) = false := by simpa using h1
        go_enter Tryz.func89, Tryz.ntmps89
        go_wp2
        go_ret
        refine ⟨by rw [HE.out false (by simp [fitsB, roomN]; omega)]; rfl, Grew.alloc (Grew.alloc (Grew.refl _) _) _⟩
    · have h0' : decide (0 ≤ a) = false := by simpa using h0
      go_enter Tryz.func89, Tryz.ntmps89
      go_wp2
      go_ret
      refine ⟨by rw [HE.out false (by simp [fitsB, roomN]; omega)]; rfl, Grew.alloc (Grew.alloc (Grew.refl _) _) _⟩
  · rcases h with rfl | rfl
    · by_cases h0 : 0 ≤ a
      · by_cases h1 : a < x2
        · go_enter Tryz.func89, Tryz.ntmps89
          go_wp2
          go_ret
          refine ⟨by rw [HE.out true (by simp [fitsB, roomN]; omega)]; rfl, Grew.alloc (Grew.alloc (Grew.refl _) _) _⟩
        · have h1' : decide (a < x2) = false := by simpa using h1
          go_enter Tryz.func89, Tryz.ntmps89
          go_wp2
          go_ret
          refine ⟨by rw [HE.out false (by simp [fitsB, roomN]; omega)]; rfl, Grew.alloc (Grew.alloc (Grew.refl _) _) _⟩
      · have h0' : decide (0 ≤ a) = false := by simpa using h0
        go_enter Tryz.func89, Tryz.ntmps89
        go_wp2
        go_ret
        refine ⟨by rw [HE.out false (by simp [fitsB, roomN]; omega)]; rfl, Grew.alloc (Grew.alloc (Grew.refl _) _) _⟩
    · by_cases h0 : 0 ≤ a
      · by_cases h1 : a < x2
        · go_enter Tryz.func89, Tryz.ntmps89
          go_wp2
          go_ret
          refine ⟨by rw [HE.out true (by simp [fitsB, roomN]; omega)]; rfl, Grew.alloc (Grew.alloc (Grew.refl _) _) _⟩
        · have h1' : decide (a < x2) = false := by simpa using h1
          go_enter Tryz.func89, Tryz.ntmps89
          go_wp2
          go_ret
          refine ⟨by rw [HE.out false (by simp [fitsB, roomN]; omega)]; rfl, Grew.alloc (Grew.alloc (Grew.refl _) _) _⟩
      · have h0' : decide (0 ≤ a) = false := by simpa using h0
        go_enter Tryz.func89, Tryz.ntmps89
        go_wp2
        go_ret
        refine ⟨by rw [HE.out false (by simp [fitsB, roomN]; omega)]; rfl, Grew.alloc (Grew.alloc (Grew.refl _) _) _⟩
  · rcases h with rfl | rfl
    · by_cases h0 : 0 ≤ a
      · by_cases h1 : a < x3
        · go_enter Tryz.func89, Tryz.ntmps89
          go_wp2
          go_ret
          refine ⟨by rw [HE.out true (by simp [fitsB, roomN]; omega)]; rfl, Grew.alloc (Grew.alloc (Grew.refl _) _) _⟩
        · have h1' : decide (a < x3) = false := by simpa using h1
          go_enter Tryz.func89, Tryz.ntmps89
          go_wp2
          go_ret
          refine ⟨by rw [HE.out false (by simp [fitsB, roomN]; omega)]; rfl, Grew.alloc (Grew.alloc (Grew.refl _) _) _⟩
      · have h0' : decide (0 ≤ a) = false := by simpa using h0
        go_enter Tryz.func89, Tryz.ntmps89
        go_wp2
        go_ret
        refine ⟨by rw [HE.out false (by simp [fitsB, roomN]; omega)]; rfl, Grew.alloc (Grew.alloc (Grew.refl _) _) _⟩
    · by_cases h0 : 0 ≤ a
      · by_cases h1 : a < x3
        · go_enter Tryz.func89, Tryz.ntmps89
          go_wp2
          go_ret
          refine ⟨by rw [HE.out true (by simp [fitsB, roomN]; omega)]; rfl, Grew.alloc (Grew.alloc (Grew.refl _) _) _⟩
        · have h1' : decide (a < x3) = false := by simpa using h1
          go_enter Tryz.func89, Tryz.ntmps89
          go_wp2
          go_ret
          refine ⟨by rw [HE.out false (by simp [fitsB, roomN]; omega)]; rfl, Grew.alloc (Grew.alloc (Grew.refl _) _) _⟩
      · have h0' : decide (0 ≤ a) = false := by simpa using h0
        go_enter Tryz.func89, Tryz.ntmps89
        go_wp2
        go_ret
        refine ⟨by rw [HE.out false (by simp [fitsB, roomN]; omega)]; rfl, Grew.alloc (Grew.alloc (Grew.refl _) _) _⟩
  · obtain ⟨g1, g2, g3, g4, g5, g6, g7, g8, g9, g10⟩ := h
    by_cases h0 : 0 ≤ a
    · by_cases h1 : a < 1
      · go_enter Tryz.func89, Tryz.ntmps89
        go_wp2
        go_ret
        refine ⟨by rw [HE.out true (by simp [fitsB, roomN, g1, g2, g3, g4, g5, g6, g7, g8, g9, g10]; omega)]; rfl, Grew.alloc (Grew.alloc (Grew.refl _) _) _⟩
      · have h1' : decide (a < 1) = false := by simpa using h1
        go_enter Tryz.func89, Tryz.ntmps89
        go_wp2
        go_ret
        refine ⟨by rw [HE.out false (by simp [fitsB, roomN, g1, g2, g3, g4, g5, g6, g7, g8, g9, g10]; omega)]; rfl, Grew.alloc (Grew.alloc (Grew.refl _) _) _⟩
    · have h0' : decide (0 ≤ a) = false := by simpa using h0
      go_enter Tryz.func89, Tryz.ntmps89
      go_wp2
      go_ret
      refine ⟨by rw [HE.out false (by simp [fitsB, roomN, g1, g2, g3, g4, g5, g6, g7, g8, g9, g10]; omega)]; rfl, Grew.alloc (Grew.alloc (Grew.refl _) _) _⟩

end Go.Proofs.YtmkomfbjgmgemaaGreatDoor
/-
  ROWS OF ONE's OWN, AND CELLS THAT CAN BE READ.
-/
namespace Go.Proofs.YtmkomfbjgmgemaaGreatDoor
open Go.RowKit Go.Sort

theorem ownsRow_same {w w1 : World} {base e size n : Nat} {v : Value} {xs : List Value} (h : w.ownsRow base e size v n xs) (hs : ∀ g, v.ownBlock = some g → w1.heap[g]? = w.heap[g]?) : w1.ownsRow base e size v n xs := by
  obtain ⟨hl, h⟩ := h
  refine ⟨hl, ?_⟩
  rcases h with h | ⟨g, cap, cur, rfl, hg, hh, r⟩
  · exact .inl h
  · exact .inr ⟨g, cap, cur, rfl, hg, (hs g rfl).trans hh, r⟩
theorem ownsRow_mono {w : World} {base base' e size n : Nat} {v : Value} {xs : List Value} (h : w.ownsRow base e size v n xs) (hb : base' ≤ base) : w.ownsRow base' e size v n xs := by
  obtain ⟨hl, h⟩ := h
  refine ⟨hl, ?_⟩
  rcases h with h | ⟨g, cap, cur, rfl, hg, r⟩
  · exact .inl h
  · exact .inr ⟨g, cap, cur, rfl, by omega, r⟩
theorem own_slice {w : World} {base e size n : Nat} {v : Value} {xs : List Value} (h : w.ownsRow base e size v n xs) : ∃ ao cap, v = .slice ao n cap ∧ (ao = none → cap = 0 ∧ n = 0) ∧ n ≤ cap ∧ (∀ a, ao = some a → a = ⟨a.block, 0, none⟩ ∧ base ≤ a.block ∧ a.block < w.heap.size) := by
  obtain ⟨_, ⟨rfl, rfl⟩ | ⟨g, cap, cur, rfl, hb, hg, hn, _⟩⟩ := h
  · exact ⟨none, 0, rfl, fun _ => ⟨rfl, rfl⟩, Nat.le_refl _, fun a e => by cases e⟩
  · exact ⟨some ⟨g, 0, none⟩, cap, rfl, fun e => (by cases e), hn, fun a e => by cases e; exact ⟨rfl, hb, (Array.getElem?_eq_some_iff.1 hg).1⟩⟩
theorem own_some {w : World} {base e size n : Nat} {v : Value} {xs : List Value} (h : w.ownsRow base e size v n xs) (hn : 0 < n) : ∃ g cap, v = .slice (some ⟨g, 0, none⟩) n cap ∧ n ≤ cap := by
  obtain ⟨_, ⟨rfl, rfl⟩ | ⟨g, cap, cur, rfl, hb, hg, hn, _⟩⟩ := h
  · omega
  · exact ⟨g, cap, rfl, hn⟩
theorem wpList_append_gen {w : World} {ops : Array Oper} {rest : List Oper} {o : Oper} {a : Act} {Q : Exit → Act → World → Prop} (hgd : o.guard = none) (s x : Operand) (t e : TypeId) (i0 : TypeInfo) (z : Value) (size bytes : Nat) (ht : Tryz.prog.underlying t = some (.slice e)) (hi : Tryz.prog.info? e = some i0) (hz0 : i0.zero = some z) (hz1 : i0.size = size) (hz2 : i0.bytes = bytes) (hzs : z.cells.size = size) (hsz : 0 < size)
    (ho : o.op = .call { callee := .builtin .append, args := #[s, x], argTypes := #[t, t] }) (base : Nat) (v : Value) (n : Nat) (xs : List Value) (hs : a.eval s = v) (hown : w.ownsRow base e size v n xs)
    (ad : Addr) (m c : Nat) (ys : List Value) (hx : a.eval x = .slice (some ad) m c) (hl : ys.length = m * size) (hc : ∀ j u, ys[j]? = some u → w.cell? (ad.add j) = some u) (h1 : ∀ u ∈ ys, u.oneCell' = true) (hm : n + m ≤ maxLen) (hb : (n + m) * bytes ≤ 140737488355328) (hbase : base ≤ w.heap.size)
    (h : ∀ v' w', w'.ownsRow base e size v' (n + m) (xs ++ ys) → w.grownBy w' v.ownBlock → wpList Tryz.prog ops Q rest (a.put o.dst v') w') : wpList Tryz.prog ops Q (o :: rest) a w := by
  obtain ⟨v', w', hr, h2, h3, _, h5⟩ := run_append_own_at (P := Tryz.prog) w base t o.type e i0 z size bytes ht hi hz0 hz1 hz2 hzs hsz v n xs hown ad m c ys hl hc h1 hm hb hbase
  refine wpList_plain hgd fun K hK' => ?_
  unfold Oper.wp
  simp [execOp, ho, resolve, invoke, builtin, hs, hx, hr, Result.andThen]
  exact hK' _ _ (h v' w' h2 h3)
def CellsAt (w : World) (ao : Option Addr) (xs : List Value) : Prop := xs = [] ∨ ∃ b off, ao = some ⟨b, off, none⟩ ∧ ∀ j u, xs[j]? = some u → w.cell? ⟨b, off + j, none⟩ = some u
theorem CellsAt.below {w w1 : World} {ao : Option Addr} {xs : List Value} (h : CellsAt w ao xs) (hb : Go.RowKit.Below w.heap.size w w1) : CellsAt w1 ao xs := by
  rcases h with h | ⟨b, off, rfl, hc⟩
  · exact .inl h
  · refine .inr ⟨b, off, rfl, fun j u hu => ?_⟩
    have := hc j u hu
    exact (hb.cell (p := ⟨b, off + j, none⟩) (cell_lt this)).trans this
theorem own_read {w : World} {base e size n cap : Nat} {ao : Option Addr} {xs : List Value} (h : w.ownsRow base e size (.slice ao n cap) n xs) : CellsAt w ao xs := by
  have h0 := h
  obtain ⟨hl, ⟨h1, h2⟩ | ⟨g, cap', cur, e1, _⟩⟩ := h
  · subst h2; exact .inl (List.eq_nil_of_length_eq_zero (by rw [hl, Nat.zero_mul]))
  · cases e1
    refine .inr ⟨g, 0, rfl, fun j u hu => ?_⟩
    have hj : j < n * size := by rw [← hl]; exact (List.getElem?_eq_some_iff.1 hu).1
    rw [Nat.zero_add, World.ownsRow.cellAt h0 j hj, hu]
theorem own_prefix {w : World} {base e size g n nx cap : Nat} {xs ys : List Value} (h : w.ownsRow base e size (.slice (some ⟨g, 0, none⟩) nx cap) nx (xs ++ ys)) (hl : xs.length = n * size) (hn : n ≤ nx) : w.ownsRow base e size (.slice (some ⟨g, 0, none⟩) n cap) n xs := by
  obtain ⟨_, ⟨e1, _⟩ | ⟨g', cap', cur, e1, hb, hg, h1, h2, h3, h4⟩⟩ := h
  · cases e1
  · cases e1
    refine ⟨hl, .inr ⟨g, cap, cur, rfl, hb, hg, by omega, h2, h3, ?_⟩⟩
    have h5 := congrArg (List.take (n * size)) h4
    rw [List.take_take, Nat.min_eq_left (Nat.mul_le_mul_right _ hn)] at h5
    rw [h5, ← hl, List.take_left']
    rfl
theorem own_apart {W : World} {base base' e e' size size' n n' : Nat} {v v' : Value} {xs xs' : List Value} (h : W.ownsRow base e size v n xs) (h' : W.ownsRow base' e' size' v' n' xs') (he : e ≠ e') {g : Nat} (hg : v.ownBlock = some g) : v'.ownBlock ≠ some g := by
  intro hg'
  obtain ⟨_, ⟨rfl, _⟩ | ⟨g1, c1, cur1, rfl, _, hh, _⟩⟩ := h
  · cases hg
  · obtain ⟨_, ⟨rfl, _⟩ | ⟨g2, c2, cur2, rfl, _, hh', _⟩⟩ := h'
    · cases hg'
    · cases hg
      cases hg'
      have := hh.symm.trans hh'
      simp only [Option.some.injEq, Obj.cells.injEq] at this
      exact he this.2.1
end Go.Proofs.YtmkomfbjgmgemaaGreatDoor
/-
  THE WALKS OF onward, fits, withinLimits, look.
-/
namespace Go.Proofs.YtmkomfbjgmgemaaGreatDoor
open Go.RowKit Go.Sort

/-- what onward answers -/
def onw (i : Nat) (op a : Int) : Int × Int × Int := if op = 0 ∨ op = 36 then (0, 0, 0) else if op = 31 then ((i : Int) + 1, a, 2) else if op = 30 then (a, 0, 1) else ((i : Int) + 1, 0, 1)
theorem onw_kinds (op : Int) : (op = 0 ∨ op = 36) ∨ op = 31 ∨ op = 30 ∨ (op ≠ 0 ∧ op ≠ 36 ∧ op ≠ 31 ∧ op ≠ 30) := by omega
def tripleV (x : Int × Int × Int) : Value := .tuple #[.agg #[.int .i64 x.1, .int .i64 x.2.1], .int .i64 x.2.2]
theorem below_set {w w1 : World} {B : Nat} (h : Below B w w1) (a : Addr) (v : Value) (ha : B ≤ a.block) : Below B w (w1.setCell a v) :=
  ⟨h.os, h.tape, h.output, by simpa using h.size, fun k hk => (heap_setCell_other w1 a k v (by omega)).trans (h.block k hk)⟩

set_option maxHeartbeats 1000000 in
theorem onward_any (w : World) (op a : Int) (i : Nat) (hi : i ≤ 1000000) :
    Calls Tryz.prog 93 #[.agg #[.int .i64 op, .int .i64 a], .int .i64 (i : Int)] w fun e w' => e = .returned (tripleV (onw i op a)) ∧ Below w.heap.size w w' := by
  have HE : Hid (∀ x, onw i op a = x → tripleV (onw i op a) = tripleV x) := fun x h => by rw [h]
  rcases onw_kinds op with h | h | h | h
  · rcases h with rfl | rfl <;>
    (go_enter Tryz.func93, Tryz.ntmps93
     go_wp2
     refine bodyPost_ret (v := .tuple #[.agg #[.int .i64 0, .int .i64 0], .int .i64 0]) (by simp [results, Tryz.results93, go_sem]) rfl ?_
     refine ⟨by rw [HE.out (0, 0, 0) (by simp [onw])]; rfl, ?_⟩
     repeat (first | exact Below.refl _ _ | refine below_set ?_ _ _ (by simp <;> omega) | refine Below.alloc ?_ (by simp <;> omega) _))
  · subst h
    go_enter Tryz.func93, Tryz.ntmps93
    go_wp2
    refine bodyPost_ret (v := .tuple #[.agg #[.int .i64 ((i : Int) + 1), .int .i64 a], .int .i64 2]) (by simp [results, Tryz.results93, go_sem]) rfl ?_
    refine ⟨by rw [HE.out ((i : Int) + 1, a, 2) (by simp [onw])]; rfl, ?_⟩
    repeat (first | exact Below.refl _ _ | refine below_set ?_ _ _ (by simp <;> omega) | refine Below.alloc ?_ (by simp <;> omega) _)
  · subst h
    go_enter Tryz.func93, Tryz.ntmps93
    go_wp2
    refine bodyPost_ret (v := .tuple #[.agg #[.int .i64 a, .int .i64 0], .int .i64 1]) (by simp [results, Tryz.results93, go_sem]) rfl ?_
    refine ⟨by rw [HE.out (a, 0, 1) (by simp [onw])]; rfl, ?_⟩
    repeat (first | exact Below.refl _ _ | refine below_set ?_ _ _ (by simp <;> omega) | refine Below.alloc ?_ (by simp <;> omega) _)
  · obtain ⟨h1, h2, h3, h4⟩ := h
    go_enter Tryz.func93, Tryz.ntmps93
    go_wp2
    refine bodyPost_ret (v := .tuple #[.agg #[.int .i64 ((i : Int) + 1), .int .i64 0], .int .i64 1]) (by simp [results, Tryz.results93, go_sem]) rfl ?_
    refine ⟨by rw [HE.out ((i : Int) + 1, 0, 1) (by simp [onw, h1, h2, h3, h4])]; rfl, ?_⟩
    repeat (first | exact Below.refl _ _ | refine below_set ?_ _ _ (by simp <;> omega) | refine Below.alloc ?_ (by simp <;> omega) _)

end Go.Proofs.YtmkomfbjgmgemaaGreatDoor
