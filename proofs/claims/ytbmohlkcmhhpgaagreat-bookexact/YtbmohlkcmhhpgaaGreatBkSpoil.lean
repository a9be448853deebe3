/-
  spoil.
-/
import Derived.Test.YtbmohlkcmhhpgaaGreatBkApp
namespace Go.Proofs.YtbmohlkcmhhpgaaGreat
open Go.RowKit Go.Sort

/-- a row that may be written over, in a block from n0 on, below n1 -/
def Shp (n0 n1 : Nat) (w : World) (ao : Option Addr) (n : Nat) (T : TypeId) (sz : Nat) : Prop := n = 0 ∨ ∃ g cur, ao = some ⟨g, 0, none⟩ ∧ w.heap[g]? = some (.cells cur T (0, 0)) ∧ n * sz ≤ cur.size ∧ n0 ≤ g ∧ g < n1
theorem Shp.set {n0 n1 : Nat} {w : World} {ao : Option Addr} {n : Nat} {T : TypeId} {sz : Nat} (h : Shp n0 n1 w ao n T sz) (b i : Nat) (v : Value) : Shp n0 n1 (w.setCell ⟨b, i, none⟩ v) ao n T sz := by
  rcases h with h | ⟨g, cur, h1, h2, h3, h4, h5⟩
  · exact .inl h
  · by_cases e : g = b
    · subst e
      exact .inr ⟨g, _, h1, heap_setCell_same w g i _ _ v h2, by simpa using h3, h4, h5⟩
    · exact .inr ⟨g, cur, h1, (heap_setCell_other _ _ _ _ (fun e' => e e')).trans h2, h3, h4, h5⟩
theorem Shp.below {n0 n1 : Nat} {w w' : World} {ao : Option Addr} {n : Nat} {T : TypeId} {sz : Nat} (h : Shp n0 n1 w ao n T sz) (hb : Below n1 w w') : Shp n0 n1 w' ao n T sz := by
  rcases h with h | ⟨g, cur, h1, h2, h3, h4, h5⟩
  · exact .inl h
  · exact .inr ⟨g, cur, h1, (hb.block g h5).trans h2, h3, h4, h5⟩
theorem Shp.at {n0 n1 : Nat} {w : World} {ao : Option Addr} {n : Nat} {T : TypeId} {sz : Nat} (h : Shp n0 n1 w ao n T sz) {i : Nat} (hi : i < n) : ∃ g, ao = some ⟨g, 0, none⟩ ∧ (n0 ≤ g ∧ g < n1) ∧ ∀ j, j < sz → (∃ u, w.cell? ⟨g, i * sz + j, none⟩ = some u) ∧ w.frozen? ⟨g, i * sz + j, none⟩ = false := by
  rcases h with h | ⟨g, cur, h1, h2, h3, h4, h5⟩
  · omega
  · refine ⟨g, h1, ⟨h4, h5⟩, fun j hj => ⟨?_, frozen_of_row _ _ _ _ _ h2⟩⟩
    have h6 : i * sz + j < cur.size := by
      have h7 : (i + 1) * sz ≤ n * sz := Nat.mul_le_mul_right sz hi
      rw [Nat.add_mul, Nat.one_mul] at h7
      omega
    refine ⟨cur[i * sz + j], ?_⟩
    simp [World.cell?, h2, h6]
/-- only blocks from n0 on, below n1, and new ones, turn -/
structure Spl (n0 n1 : Nat) (w w' : World) : Prop where
  fr : Fr (fun k => n0 ≤ k ∧ k < n1) w w'
theorem Spl.refl (n0 n1 : Nat) (w : World) : Spl n0 n1 w w := ⟨Fr.refl _ _⟩
theorem Spl.set {n0 n1 : Nat} {a b : World} (h : Spl n0 n1 a b) (g i : Nat) (v : Value) (hg : n0 ≤ g ∧ g < n1) : Spl n0 n1 a (b.setCell ⟨g, i, none⟩ v) := ⟨h.fr.set _ _ (.inr hg)⟩
/-- a snapshot that may be written over -/
structure SnSh (n0 n1 : Nat) (w : World) (s : Sn) : Prop where
  ps : Shp n0 n1 w s.pa s.pins.length 92 2
  cs : Shp n0 n1 w s.ca s.chs.length 50 3
  vs : ∀ c ∈ s.chs, Shp n0 n1 w c.a c.l.length 96 4
theorem SnSh.set {n0 n1 : Nat} {w : World} {s : Sn} (h : SnSh n0 n1 w s) (b i : Nat) (v : Value) : SnSh n0 n1 (w.setCell ⟨b, i, none⟩ v) s := ⟨h.ps.set b i v, h.cs.set b i v, fun c hc => (h.vs c hc).set b i v⟩
theorem SnSh.below {n0 n1 : Nat} {w w' : World} {s : Sn} (h : SnSh n0 n1 w s) (hb : Below n1 w w') : SnSh n0 n1 w' s := ⟨h.ps.below hb, h.cs.below hb, fun c hc => (h.vs c hc).below hb⟩
/-- the chains from the i-th on stand as they stood -/
def Rest (w : World) (s : Sn) (i : Nat) : Prop := ∀ k (hk : k < s.chs.length), i ≤ k → ∃ g, s.ca = some ⟨g, 0, none⟩ ∧ w.cell? ⟨g, k * 3 + 2, none⟩ = some (.slice s.chs[k].a s.chs[k].l.length s.chs[k].c)
def SpPost (n0 n1 : Nat) (w : World) (e : Ending) (w' : World) : Prop := (∃ x, e = .returned x) ∧ Spl n0 n1 w w'
end Go.Proofs.YtbmohlkcmhhpgaaGreat
