/-
  The four New's.
-/
import Derived.Test.YtgaolpfpenaflaaDTwo
namespace Go.Proofs.Ytgaolpfpenaflaa
open Go.RowKit Go.Sort

def NA (w w' : World) (p : Int) (f : Nat) (o : Option Addr) (cd : Int) : Prop :=
  (o = none ∧ cd = 21 ∧ w' = w ∧ (p < 1 ∨ 256 < p)) ∨ ∃ P D M L : Nat, p = (P : Int) ∧ o = some ⟨D, 0, none⟩ ∧ cd = 0 ∧ (1 ≤ P ∧ P ≤ 256) ∧ DA w' D M L (hfn f) P [] ∧ (w.heap.size ≤ D ∧ w.heap.size ≤ M ∧ w.heap.size ≤ L) ∧ Below w.heap.size w w'
def NR (w w' : World) (p : Int) (o : Option Addr) (cd : Int) : Prop :=
  (o = none ∧ cd = 21 ∧ w' = w ∧ (p < 1 ∨ 256 < p)) ∨ ∃ P : Nat, p = (P : Int) ∧ o = some ⟨w.heap.size, 0, none⟩ ∧ cd = 0 ∧ (1 ≤ P ∧ P ≤ 256) ∧ RA w' w.heap.size w.heap.size P (.slice none 0 0) [] ∧ Below w.heap.size w w'
theorem na_any (w : World) (p : Int) (f : Nat) : Calls Try.prog 7 #[.int .i64 p, hfn f] w fun e w' => ∃ o cd, e = .returned (.tuple #[.pointer o, .int .i64 cd]) ∧ NA w w' p f o cd := by
  by_cases h : p < 1 ∨ 256 < p
  · refine (new_bad w p f h).mono ?_
    rintro e w' ⟨rfl, rfl⟩
    exact ⟨none, 21, rfl, .inl ⟨rfl, rfl, rfl, h⟩⟩
  · obtain ⟨P, rfl⟩ : ∃ P : Nat, p = (P : Int) := ⟨p.toNat, by omega⟩
    refine (new_fn w f P (by omega) (by omega)).mono ?_
    rintro e w' ⟨D, M, L, rfl, h1, h2, h3⟩
    exact ⟨_, 0, rfl, .inr ⟨P, D, M, L, rfl, rfl, rfl, ⟨by omega, by omega⟩, h1, h2, h3⟩⟩
theorem nr_any (w : World) (p : Int) : Calls Try.prog 10 #[.int .i64 p] w fun e w' => ∃ o cd, e = .returned (.tuple #[.pointer o, .int .i64 cd]) ∧ NR w w' p o cd := by
  by_cases h : p < 1 ∨ 256 < p
  · refine (rnew_bad w p h).mono ?_
    rintro e w' ⟨rfl, rfl⟩
    exact ⟨none, 21, rfl, .inl ⟨rfl, rfl, rfl, h⟩⟩
  · obtain ⟨P, rfl⟩ : ∃ P : Nat, p = (P : Int) := ⟨p.toNat, by omega⟩
    refine (rnew_ok w P (by omega) (by omega)).mono ?_
    rintro e w' ⟨rfl, h1, h3⟩
    exact ⟨_, 0, rfl, .inr ⟨P, rfl, rfl, rfl, ⟨by omega, by omega⟩, h1, h3⟩⟩
theorem NA.below {w w' : World} {p : Int} {f : Nat} {o : Option Addr} {cd : Int} (h : NA w w' p f o cd) : Below w.heap.size w w' := by
  rcases h with ⟨_, _, rfl, _⟩ | ⟨_, _, _, _, _, _, _, _, _, _, h⟩
  · exact Below.refl _ _
  · exact h
theorem NR.below {w w' : World} {p : Int} {o : Option Addr} {cd : Int} (h : NR w w' p o cd) : Below w.heap.size w w' := by
  rcases h with ⟨_, _, rfl, _⟩ | ⟨_, _, _, _, _, _, h⟩
  · exact Below.refl _ _
  · exact h
/-- one side: New at w, the document's at w2, seen at w4 -/
theorem side {w0 : Nat} {w w1 w2 w3 w4 : World} {p : Int} {f : Nat} {o o' : Option Addr} {cd cd' : Int} (ha : NA w w1 p f o cd) (h12 : Below w1.heap.size w1 w2) (hr : NR w2 w3 p o' cd') (h34 : Below w3.heap.size w3 w4) (hw0 : w0 ≤ w.heap.size) :
    cd' = cd ∧ ((o = none ∧ o' = none) ∨ (∃ a b, o = some a ∧ o' = some b)) ∧ Sd w0 w4 f (.pointer o) (.pointer o') 0 (fun k => (w.heap.size ≤ k ∧ k < w1.heap.size) ∨ (w2.heap.size ≤ k ∧ k < w3.heap.size)) := by
  rcases ha with ⟨rfl, rfl, rfl, hp⟩ | ⟨P, D, M, L, rfl, rfl, rfl, hP, hd, hg, hb⟩
  · rcases hr with ⟨rfl, rfl, rfl, _⟩ | ⟨P, rfl, _, _, hP, _⟩
    · exact ⟨rfl, .inl ⟨rfl, rfl⟩, .inl ⟨rfl, rfl⟩⟩
    · omega
  · rcases hr with ⟨_, _, _, hp⟩ | ⟨P', hPP, rfl, rfl, _, hra, hb2⟩
    · omega
    · obtain rfl : P = P' := by omega
      have hd4 : DA w4 D M L (hfn f) P [] := ((hd.kept h12).kept hb2).kept h34
      have hr4 : RA w4 w2.heap.size w2.heap.size P (.slice none 0 0) [] := hra.kept h34
      have l1 := hd.lt (k := D) (.inl rfl)
      have l2 := hd.lt (k := M) (.inr (.inl rfl))
      have l3 := hd.lt (k := L) (.inr (.inr (.inl rfl)))
      have l4 := blk_lt hra.blk
      have s1 := h12.size
      have s0 := hb.size
      refine ⟨rfl, .inr ⟨_, _, rfl, rfl⟩, .inr ⟨D, M, L, P, w2.heap.size, w2.heap.size, .slice none 0 0, [], rfl, rfl, ⟨hd4, hr4, Nat.le_of_lt (blk_lt hr4.blk), fun k hk => ⟨?_, by simp [Value.ownBlock]⟩⟩, Nat.le_refl _, fun k hk => ?_⟩⟩
      · rcases hk with rfl | rfl | rfl | ⟨e, he, _⟩
        · omega
        · omega
        · omega
        · cases he
      · rcases hk with (rfl | rfl | rfl | ⟨e, he, _⟩) | rfl | hk
        · exact ⟨.inl ⟨hg.1, l1⟩, by omega⟩
        · exact ⟨.inl ⟨hg.2.1, l2⟩, by omega⟩
        · exact ⟨.inl ⟨hg.2.2, l3⟩, by omega⟩
        · cases he
        · exact ⟨.inr ⟨Nat.le_refl _, l4⟩, by omega⟩
        · cases hk
theorem four {w w1 w2 w3 w4 : World} {p q : Int} {f g : Nat} {oa ob ox oy : Option Addr} {ca cb cx cy : Int} (h1 : NA w w1 p f oa ca) (h2 : NA w1 w2 q g ob cb) (h3 : NR w2 w3 p ox cx) (h4 : NR w3 w4 q oy cy) :
    cx = ca ∧ cy = cb ∧ ((oa = none ∧ ox = none) ∨ (∃ a b, oa = some a ∧ ox = some b)) ∧ ((ob = none ∧ oy = none) ∨ (∃ a b, ob = some a ∧ oy = some b)) ∧ (∃ S T, Two w.heap.size w4 f g (.pointer oa) (.pointer ox) (.pointer ob) (.pointer oy) 0 S T) ∧ Below w.heap.size w w4 := by
  have b1 := h1.below
  have b2 := h2.below
  have b3 := h3.below
  have b4 := h4.below
  have s1 := b1.size
  have s2 := b2.size
  have s3 := b3.size
  have s4 := b4.size
  obtain ⟨e1, e2, e3⟩ := side (w0 := w.heap.size) h1 b2 h3 b4 (Nat.le_refl _)
  obtain ⟨f1, f2, f3⟩ := side (w0 := w.heap.size) h2 b3 h4 (Below.refl w4.heap.size w4) s1
  refine ⟨e1, f1, e2, f2, ⟨_, _, e3, f3, fun k hk => ?_, fun k hk => ?_, fun k hk hk' => ?_⟩, b1.trans ((b2.trans ((b3.trans (b4.mono s3)).mono s2)).mono s1)⟩
  · omega
  · omega
  · omega
end Go.Proofs.Ytgaolpfpenaflaa
