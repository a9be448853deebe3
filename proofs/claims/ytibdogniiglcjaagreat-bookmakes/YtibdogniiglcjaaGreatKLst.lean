/-
  LISTS OF KEYS AS ARGUMENTS; stands, sameKeys.
-/
import Derived.Test.YtibdogniiglcjaaGreatKRises
import Derived.Test.YtibdogniiglcjaaGreatKNe
namespace Go.Proofs.YtibdogniiglcjaaGreat
open Go.RowKit Go.Sort

/-- A LIST OF KEYS: a slice, its length, its cells -/
structure Lst (w : World) (ao : Option Addr) (n cap : Nat) (L : List K) : Prop where
  len : n = L.length
  at_ : KeysAt w ao L
  nil : ao = none → cap = 0
  cap : n ≤ cap
theorem Lst.kept {w w1 : World} {ao : Option Addr} {n cap : Nat} {L : List K} (h : Lst w ao n cap L) (hb : Below w.heap.size w w1) : Lst w1 ao n cap L := ⟨h.len, h.at_.kept hb, h.nil, h.cap⟩
theorem Lst.far {w w1 : World} {ao : Option Addr} {n cap B : Nat} {L : List K} (h : Lst w ao n cap L) (hb : Below B w w1) (hB : ∀ a, L ≠ [] → ao = some a → a.block < B) : Lst w1 ao n cap L := ⟨h.len, h.at_.below hb hB, h.nil, h.cap⟩
def Flat (ao : Option Addr) : Prop := ∀ a, ao = some a → a.spot = none
theorem OwnK.lst {w : World} {base : Nat} {v : Value} {L : List K} (h : OwnK w base v L) : ∃ ao n cap, v = .slice ao n cap ∧ Lst w ao n cap L ∧ Flat ao := by
  rcases h.shape with ⟨rfl, rfl⟩ | ⟨g, cap, rfl, _, _, hc, _, hk⟩
  · exact ⟨none, 0, 0, rfl, ⟨rfl, .inl rfl, fun _ => rfl, Nat.le_refl _⟩, fun _ e => by cases e⟩
  · exact ⟨_, _, cap, rfl, ⟨rfl, hk, by simp, hc⟩, fun a e => by cases e; rfl⟩
theorem Lst.at {w : World} {ao : Option Addr} {n cap : Nat} {L : List K} (h : Lst w ao n cap L) (k : Nat) (hk : k < n) : ∃ b off, ao = some ⟨b, off, none⟩ ∧ w.cell? ⟨b, off + k * 2, none⟩ = some (.int .i64 (kd L k).1) ∧ w.cell? ⟨b, off + k * 2 + 1, none⟩ = some (.int .i64 (kd L k).2) := by
  have hl : k < L.length := by have := h.len; omega
  rcases h.at_ with h0 | ⟨b, off, rfl, hc⟩
  · rw [h0] at hl; simp at hl
  · exact ⟨b, off, rfl, KeysAt.at hc k hl⟩

theorem eq_of_takes {A B : List K} (hl : A.length = B.length) (k : Nat) (hk : k < A.length) : (A.take (k + 1) = B.take (k + 1)) ↔ (A.take k = B.take k ∧ kd A k = kd B k) := by
  rw [take_kd A k hk, take_kd B k (by omega)]
  constructor
  · intro h
    have := List.append_inj h (by simp; omega)
    exact ⟨this.1, by simpa using this.2⟩
  · rintro ⟨h1, h2⟩; rw [h1, h2]

end Go.Proofs.YtibdogniiglcjaaGreat
