/-
  BatchChecks.
-/
import Derived.Test.YtonefdbfodjadaaTxParts
import Derived.Test.YtonefdbfodjadaaTxBack
import Derived.Test.YtonefdbfodjadaaTxEach
import Derived.Test.YtonefdbfodjadaaTxRef
namespace Go.Proofs.Ytonefdbfodjadaa.Kk
open Go.RowKit Go.Sort

theorem num_b (w : World) (x : Int) : Calls Try.prog 13 #[.int .i64 x] w fun e w' => e = .returned (.int .i64 x) ∧ w' = w := by
  go_enter Try.func13, Try.ntmps13
  go_wp2
  go_ret
  exact ⟨rfl, rfl⟩

set_option maxRecDepth 100000 in
set_option maxHeartbeats 1000000 in
theorem lawBChecks (w : World) (lo ao : Option Addr) (n lc m cap : Nat) (Ps : List Pr) (Bs : List Bx) (hl : LibAt w lo Ps) (hn : n = Ps.length) (hb : BatAt w ao Bs) (hn' : m = Bs.length) (hm : n ≤ 140737488351232) (hm' : m ≤ 140737488351232) :
    Calls Try.prog 3 #[.slice lo n lc, .slice ao m cap] w fun e w' => e = .returned (.bool true) ∧ Below w.heap.size w w' := by
  have HL : Hid (LibAt w lo Ps ∧ n = Ps.length) := ⟨hl, hn⟩
  have HB : Hid (BatAt w ao Bs ∧ m = Bs.length) := ⟨hb, hn'⟩
  clear hl hn hb hn'
  go_enter Try.func3, Try.ntmps3
  go_wp2_with fail
  refine (parts_any w lo n lc Ps HL.out.1 HL.out.2 hm).mono ?_
  rintro e w1 ⟨⟨r, rfl, _, r1, r2⟩, q, hw1⟩
  have HG1 : Hid (Grew w w1) := by rw [hw1]; exact (Grew.refl w).drewN q
  clear hw1
  go_wp2_with fail
  refine (partsB_any w1 ao m cap Bs r (HB.out.1.kept HG1.out.below) HB.out.2 hm' r1 r2).mono ?_
  rintro e w2 ⟨⟨r', rfl, hr'⟩, q2, hw2⟩
  have HG2 : Hid (Grew w w2) := HG1.out.trans (by rw [hw2]; exact (Grew.refl w1).drewN q2)
  clear hw2 HG1
  by_cases h0 : r' < 0
  · go_wp2
    go_ret
    exact ⟨rfl, HG2.out.below⟩
  have HX : Hid (m ≤ 100000 ∧ ∀ x ∈ Bs, x.t.args.length ≤ 100000 ∧ x.t.reads.length ≤ 100000 ∧ x.t.writes.length ≤ 100000) := (hr' (by omega)).2
  clear hr'
  go_wp2_with fail
  refine (lent_b w2 ao m cap Bs (HB.out.1.kept HG2.out.below) HB.out.2 HX.out.1 HX.out.2).mono ?_
  rintro e w3 (⟨rfl, rfl, rfl, hw3⟩ | ⟨hne, Qs, lf, rfl, hlt⟩)
  · have hw3' := hw3.symm
    subst hw3'
    have HM : Hid (m = 0) := HB.out.2
    obtain rfl := HM.out
    have HC : Hid (Calls Try.prog 11 #[.slice lo n lc, .slice none 0 0] w2 fun e w' => e = .returned (.tuple #[.int .i64 ((eachN (soundN Ps) ([] : List Tp)).1 : Int), .int .i64 (eachN (soundN Ps) ([] : List Tp)).2]) ∧ Grew w2 w') := check_b w2 lo none n lc 0 0 Ps [] (HL.out.1.at_.grew HG2.out) HL.out.2 (HB.out.1.kept HG2.out.below) rfl (by omega)
    have HC2 : Hid (∀ W, Grew w2 W → Calls Try.prog 12 #[.slice lo n lc, .slice none 0 cap] W fun e w' => e = .returned (.tuple #[.int .i64 ((eachN (soundN Ps) ([] : List Tp)).1 : Int), .int .i64 (eachN (soundN Ps) ([] : List Tp)).2]) ∧ Grew W w') := fun W hg => refCheck_b W lo none n lc 0 cap Ps [] (HL.out.1.at_.grew (HG2.out.trans hg)) HL.out.2 (HB.out.1.kept (HG2.out.trans hg).below) rfl (by omega)
    generalize eachN (soundN Ps) ([] : List Tp) = E at *
    obtain ⟨E1, E2⟩ := E
    simp only at HC HC2
    go_wp2_with fail
    refine HC.out.mono ?_
    rintro e w4 ⟨rfl, hg4⟩
    have HG4 : Hid (Grew w2 w4) := hg4
    clear hg4 HC
    go_wp2_with fail
    refine (HC2.out _ HG4.out).mono ?_
    rintro e w5 ⟨rfl, hg5⟩
    have HG5 : Hid (Grew w2 w5) := HG4.out.trans hg5
    clear hg5 HC2 HG4
    go_wp2_with fail
    refine (num_b _ _).mono ?_
    rintro e w6 ⟨rfl, hw6⟩
    subst hw6
    go_wp2_with fail
    refine (back_nilB _ 0 cap [] (HB.out.1.kept (HG2.out.trans HG5.out).below) rfl).mono ?_
    rintro e w7 ⟨rfl, hg7⟩
    have HG7 : Hid (Grew w w7) := HG2.out.trans (HG5.out.trans hg7)
    clear hg7
    go_wp2
    go_ret
    exact ⟨rfl, HG7.out.below⟩
  · cases ao with
    | none => exact absurd rfl hne
    | some a =>
    have HLt : Hid (LtS w2 w3 m m Bs Qs lf) := hlt
    have HB3 : Hid (BatAt w3 (some a) Bs) := (HB.out.1.kept HG2.out.below).kept hlt.bel
    have HQ : Hid (BatAt w3 (some ⟨w2.heap.size, 0, none⟩) (Qs.take m) ∧ (Qs.take m).map Bx.t = Bs.map Bx.t) := hlt.bat HB.out.2 HB3.out
    have HL3 : Hid (ProcsAt w3 lo Ps) := (HL.out.1.at_.grew HG2.out).kept hlt.bel
    have HQl : Hid (m = (Qs.take m).length) := by rw [List.length_take, hlt.len]; simp only [Hid]; omega
    clear hlt hne
    have HC : Hid (Calls Try.prog 11 #[.slice lo n lc, .slice (some ⟨w2.heap.size, 0, none⟩) m (m + 3)] w3 fun e w' => e = .returned (.tuple #[.int .i64 ((eachN (soundN Ps) (Bs.map Bx.t)).1 : Int), .int .i64 (eachN (soundN Ps) (Bs.map Bx.t)).2]) ∧ Grew w3 w') := by
      have := check_b w3 lo (some ⟨w2.heap.size, 0, none⟩) n lc m (m + 3) Ps (Qs.take m) HL3.out HL.out.2 HQ.out.1 HQl.out (by omega)
      rw [HQ.out.2] at this
      exact this
    have HC2 : Hid (∀ W, Grew w3 W → Calls Try.prog 12 #[.slice lo n lc, .slice (some a) m cap] W fun e w' => e = .returned (.tuple #[.int .i64 ((eachN (soundN Ps) (Bs.map Bx.t)).1 : Int), .int .i64 (eachN (soundN Ps) (Bs.map Bx.t)).2]) ∧ Grew W w') := fun W hg => refCheck_b W lo (some a) n lc m cap Ps Bs (HL3.out.grew hg) HL.out.2 (HB3.out.kept hg.below) HB.out.2 (by omega)
    generalize eachN (soundN Ps) (Bs.map Bx.t) = E at *
    obtain ⟨E1, E2⟩ := E
    simp only at HC HC2
    go_wp2_with fail
    refine HC.out.mono ?_
    rintro e w4 ⟨rfl, hg4⟩
    have HG4 : Hid (Grew w3 w4) := hg4
    clear hg4 HC
    go_wp2_with fail
    refine (HC2.out _ HG4.out).mono ?_
    rintro e w5 ⟨rfl, hg5⟩
    have HG5 : Hid (Grew w3 w5) := HG4.out.trans hg5
    clear hg5 HC2 HG4
    go_wp2_with fail
    refine (num_b _ _).mono ?_
    rintro e w6 ⟨rfl, hw6⟩
    subst hw6
    go_wp2_with fail
    refine (back_some w2 _ m cap a Bs Qs lf (HLt.out.kept HG5.out.below) (HB3.out.kept HG5.out.below) HB.out.2 HX.out.1 HX.out.2).mono ?_
    rintro e w7 ⟨rfl, hm7⟩
    have HF : Hid (Below w.heap.size w w7) := by
      have h1 : Below w.heap.size w w3 := HG2.out.below.trans (HLt.out.bel.mono HG2.out.size)
      have h2 : Below w.heap.size w w6 := h1.trans (HG5.out.below.mono h1.size)
      have h3 := hm7.below (Nat.le_trans HLt.out.bel.size HG5.out.size)
      exact h2.trans (h3.mono HG2.out.size)
    clear hm7
    go_wp2
    go_ret
    exact ⟨rfl, HF.out⟩
end Go.Proofs.Ytonefdbfodjadaa.Kk
