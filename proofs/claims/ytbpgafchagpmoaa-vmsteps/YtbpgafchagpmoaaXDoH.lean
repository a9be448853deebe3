/-
  THE WALK OF do, INSTRUCTION BY INSTRUCTION.
-/
import Derived.Test.YtbpgafchagpmoaaXSmall
import Derived.Deep.RegionHeld
namespace Go.Proofs.Ytbpgafchagpmoaa
open Go.RowKit Go.Sort

/-- what fits a machine's rows -/
def fitN (A : List Int) (R : List C) (m : M) (op a : Int) : Prop :=
  ((op = 4 ∨ op = 5) → 0 ≤ a ∧ a < (m.lo.length : Int)) ∧ (op = 6 → 0 ≤ a ∧ a < (A.length : Int)) ∧ (op = 8 → 0 ≤ a ∧ a < (R.length : Int))
abbrev DoOK (op : Int) : Prop := ∀ (w : World) (F : Nat → Prop) (B : Nat) (Z : MZ) (L : List K) (A : List Int) (R : List C) (m : M) (a : Int), MSt w F B Z L A R m → takesN op ≤ (m.st.length : Int) → m.st.length ≤ 100 → m.ou.length ≤ 100 → fitN A R m op a →
    Calls Try.prog 42 #[pm B, .agg #[.int .i64 op, .int .i64 a]] w fun e w' => e = .returned (.int .i64 (doN A R op a m).2) ∧ MSt w' F B Z L A R (doN A R op a m).1 ∧ Fr F w w'
/-- a world with the instruction's box -/
abbrev wb (w : World) (op a : Int) : World := w.alloc (.cells #[.int .i64 op, .int .i64 a] 66)
abbrev FB (F : Nat → Prop) (w : World) : Nat → Prop := fun k => F k ∨ k = w.heap.size
/-- the state inside do: the machine, and the box -/
structure DS (w w1 : World) (F : Nat → Prop) (B : Nat) (Z : MZ) (L : List K) (A : List Int) (R : List C) (a : Int) (m : M) : Prop where
  mst : MSt w1 (FB F w) B Z L A R m
  fr : Fr F w w1
  d1 : w1.cell? ⟨w.heap.size, 1, none⟩ = some (.int .i64 a)
section
variable {w w1 w2 : World} {F : Nat → Prop} {B : Nat} {Z : MZ} {L : List K} {A : List Int} {R : List C} {a : Int} {m m' : M}
theorem DS.start (hm : MSt w F B Z L A R m) (op a : Int) : DS w (wb w op a) F B Z L A R a m :=
  ⟨hm.add _, (hm.alloc _).2, (Box.new (w := w) (x := op) (y := a) rfl).2⟩
theorem DS.next (h : DS w w1 F B Z L A R a m) (hm : MSt w2 (FB F w) B Z L A R m') (hf : Fr (FB F w) w1 w2) : DS w w2 F B Z L A R a m' :=
  ⟨hm, h.fr.trans (hf.mono fun _ hk => .inl hk), hf.cell (.inr rfl) h.d1⟩
theorem DS.end (h : DS w w1 F B Z L A R a m) : MSt w1 F B Z L A R m ∧ Fr F w w1 := ⟨h.mst.mono fun _ hk => .inl hk, h.fr⟩
theorem DS.drew (h : DS w w1 F B Z L A R a m) : DS w w1.drew F B Z L A R a m := h.next (h.mst.drewN 1).1 (h.mst.drewN 1).2
/-- a number of the machine's is stored -/
theorem MSt.put (x : MSt w F B Z L A R m) (i : Nat) (v : Value) (m' : M) (hb : ∀ h, (boxOf h m).setIfInBounds i v = boxOf h m') (hs : m'.st = m.st) (ho : m'.ou = m.ou) (hlo : m'.lo = m.lo) (hpu : m'.pu = m.pu) :
    w.frozen? ⟨B, i, none⟩ = false ∧ MSt (w.setCell ⟨B, i, none⟩ v) F B Z L A R m' ∧ Fr F w (w.setCell ⟨B, i, none⟩ v) := by
  obtain ⟨O, h, x, hF, hz⟩ := x
  exact ⟨x.frozen i, ⟨O, h, x.put i v m' (hb h) hs ho hlo hpu, fun k hk => ⟨(hF k hk).1, by have := (hF k hk).2; simpa using this⟩, hz⟩, (Fr.refl F w).set _ _ (fun hk => by have := (hF B hk).1; rw [x.oB] at this; cases this)⟩
theorem MSt.cells (x : MSt w F B Z L A R m) : w.cell? ⟨B, 3, none⟩ = some (.int .i64 (m.at_ : Int)) ∧ w.cell? ⟨B, 8, none⟩ = some (.int .i64 (m.steps : Int)) ∧ w.cell? ⟨B, 9, none⟩ = some (.bool m.ended) ∧ w.cell? ⟨B, 10, none⟩ = some (.int .i64 m.fault) ∧ w.cell? ⟨B, 11, none⟩ = some (.int .i64 m.user) := by
  obtain ⟨O, h, x, hF, hz⟩ := x
  exact ⟨x.cell 3, x.cell 8, x.cell 9, x.cell 10, x.cell 11⟩
theorem MSt.slices (x : MSt w F B Z L A R m) : w.cell? ⟨B, 0, none⟩ = some Z.cv ∧ w.cell? ⟨B, 1, none⟩ = some Z.av ∧ w.cell? ⟨B, 2, none⟩ = some Z.rv ∧ w.cell? ⟨B, 5, none⟩ = some Z.lv ∧ w.cell? ⟨B, 7, none⟩ = some Z.pv := by
  obtain ⟨O, h, x, hF, rfl⟩ := x
  exact ⟨x.cell 0, x.cell 1, x.cell 2, x.cell 5, x.cell 7⟩
/-- a local -/
theorem MSt.loc (x : MSt w F B Z L A R m) (j : Nat) (hj : j < m.lo.length) : ∃ g cap, Z.lv = .slice (some ⟨g, 0, none⟩) m.lo.length cap ∧ m.lo.length ≤ cap ∧ w.cell? ⟨g, j, none⟩ = some (.int .i64 (m.lo.getD j 0)) := by
  obtain ⟨O, h, x, hF, rfl⟩ := x
  obtain ⟨g, cap, hv, hc⟩ := own_some x.locs (by omega)
  have hl := x.locs
  rw [hv] at hl
  exact ⟨g, cap, hv, hc, hl.cell j hj⟩
theorem MSt.arg (x : MSt w F B Z L A R m) (j : Nat) (hj : j < A.length) : ∃ g cap, Z.av = .slice (some ⟨g, 0, none⟩) A.length cap ∧ A.length ≤ cap ∧ w.cell? ⟨g, j, none⟩ = some (.int .i64 (A.getD j 0)) := by
  obtain ⟨O, h, x, hF, rfl⟩ := x
  obtain ⟨g, cap, hv, hc⟩ := own_some x.args (by omega)
  have hl := x.args
  rw [hv] at hl
  exact ⟨g, cap, hv, hc, hl.cell j hj⟩
theorem MSt.rd (x : MSt w F B Z L A R m) (j : Nat) (hj : j < R.length) : ∃ g cap, Z.rv = .slice (some ⟨g, 0, none⟩) R.length cap ∧ R.length ≤ cap ∧ w.cell? ⟨g, j * 2, none⟩ = some (.bool (rd R j).1) := by
  obtain ⟨O, h, x, hF, rfl⟩ := x
  obtain ⟨g, cap, hv, hc⟩ := own_some x.reads (by omega)
  have hl := x.reads
  rw [hv] at hl
  exact ⟨g, cap, hv, hc, (hl.cell j hj).1⟩
/-- a local is stored -/
theorem MSt.save (x : MSt w F B Z L A R m) {g n cap : Nat} (hv : Z.lv = .slice (some ⟨g, 0, none⟩) n cap) (j : Nat) (hj : j < m.lo.length) (z : Int) :
    w.cell? ⟨g, j, none⟩ = some (.int .i64 (m.lo.getD j 0)) ∧ w.frozen? ⟨g, j, none⟩ = false ∧ MSt (w.setCell ⟨g, j, none⟩ (.int .i64 z)) F B Z L A R { m with lo := m.lo.set j z } ∧ Fr F w (w.setCell ⟨g, j, none⟩ (.int .i64 z)) := by
  obtain ⟨O, h, x, hF, rfl⟩ := x
  have hv' : h.lv = .slice (some ⟨g, 0, none⟩) n cap := hv
  have hl := x.locs
  rw [hv'] at hl
  refine ⟨hl.cell j hj, ?_, ⟨O, h, x.local_ hv' j z, fun k hk => ⟨(hF k hk).1, by have := (hF k hk).2; simpa using this⟩, rfl⟩, (Fr.refl F w).set _ _ (fun hk => by have := (hF g hk).1; rw [x.ol g (by rw [hv']; rfl)] at this; cases this)⟩
  obtain ⟨_, ⟨h', _⟩ | ⟨g', cap', cur, e, hb, hg, _⟩⟩ := hl
  · cases h'
  · cases e; exact frozen_of_row w g j _ _ hg
end
theorem len_pop (m : M) : m.pop.st.length = m.st.length - 1 := by simp [M.pop]
theorem len_push (m : M) (x : Int) : (m.push x).st.length = m.st.length + 1 := rfl
end Go.Proofs.Ytbpgafchagpmoaa
