/-
  THE WALK OF awake.
-/
import Derived.Test.YtbpgafchagpmoaaXMove
namespace Go.Proofs.Ytbpgafchagpmoaa
open Go.RowKit Go.Sort

/-- Run, as it is used: the effect's value and what is read of it -/
theorem run_use (w : World) (p : Nums) (ao : Option Addr) (n cap : Nat) (L : List K) (aa : Option Addr) (na ca : Nat) (A : List Int) (ra : Option Addr) (nr cr : Nat) (R : List C) (hin : CallIn w p ao n cap L aa na ca A ra nr cr R) :
    Calls Try.prog 10 #[pv p ao n cap, .slice aa na ca, .slice ra nr cr] w fun e w' => ∃ a1 k1 a2 k2, e = .returned (.tuple #[efR (runX p L A R) a1 k1 a2 k2, .int .i64 (newE p L A R)]) ∧ EfR w' a1 a2 (runX p L A R) ∧ Go.RowKit.Below w.heap.size w w' :=
  (run_any w p ao n cap L aa na ca A ra nr cr R hin).mono fun e w' ⟨a1, l1, k1, a2, l2, k2, he, hr, hb⟩ => by
    obtain ⟨h1, rfl, rfl⟩ := hr.read
    exact ⟨a1, k1, a2, k2, he, h1, hb⟩
set_option maxRecDepth 100000 in
set_option maxHeartbeats 1000000 in
theorem awake_any (w : World) : Calls Try.prog 19 #[] w fun e w' => e = .returned (.bool true) ∧ Go.RowKit.Below w.heap.size w w' := by
  go_enter Try.func19, Try.ntmps19
  go_wp2_with fail
  refine (move_any w).mono ?_
  rintro e w1 ⟨rfl, hk1, hb1⟩
  have HB1 : Hid (Go.RowKit.Below w.heap.size w w1) := hb1
  have HR1 := run_use _ _ _ _ _ _ _ _ _ _ _ _ _ _ (call_mv hk1 4 10 5)
  rw [mv_one.1, mv_one.2] at HR1
  have HA1 : Hid (Go.RowKit.Below w1.heap.size w1 ((w1.alloc (o1 4)).alloc (o2 10 5))) := ((Below.refl _ _).alloc (Nat.le_refl _) _).alloc (by simp) _
  clear hk1 hb1
  go_wp2_with fail
  refine HR1.mono ?_
  rintro e w2 ⟨a1, k1, a2, k2, rfl, he2, hb2⟩
  have HB2 : Hid (Go.RowKit.Below w.heap.size w w2) := HB1.out.trans ((HA1.out.trans (hb2.mono HA1.out.size)).mono HB1.out.size)
  have HE2 : Hid (CellsAt w2 a2 (cks [(1, 6), (1, 9)])) := he2.2
  clear HR1 HA1 hb2 he2 HB1
  go_wp2_with fail
  have HE : Hid (RE (w2.alloc (eQ true 0 0 a1 0 k1 a2 2 k2 12)) w2.heap.size (.bool true) (.int .i64 0) (.int .i64 0) (.slice a1 0 k1) (.slice a2 2 k2) (.int .i64 12)) := RE.new _ _ _ _ _ _ _
  have HB2' : Hid (Go.RowKit.Below w.heap.size w (w2.alloc (eQ true 0 0 a1 0 k1 a2 2 k2 12))) := HB2.out.trans ((Below.refl _ _).alloc HB2.out.size _)
  have HE2' : Hid (CellsAt (w2.alloc (eQ true 0 0 a1 0 k1 a2 2 k2 12)) a2 (cks [(1, 6), (1, 9)])) := HE2.out.below ((Below.refl _ _).alloc (Nat.le_refl _) _)
  clear HB2 HE2
  refine (move_any (w2.alloc (eQ true 0 0 a1 0 k1 a2 2 k2 12))).mono ?_
  generalize w2.alloc (eQ true 0 0 a1 0 k1 a2 2 k2 12) = V at *
  generalize w2.heap.size = b1 at *
  rintro e w3 ⟨rfl, hk3, hb3⟩
  have HB3 : Hid (Go.RowKit.Below V.heap.size V w3) := hb3
  have HR3 := run_use _ _ _ _ _ _ _ _ _ _ _ _ _ _ (call_mv hk3 20 6 9)
  rw [mv_two.1, mv_two.2] at HR3
  have HA3 : Hid (Go.RowKit.Below w3.heap.size w3 ((w3.alloc (o1 20)).alloc (o2 6 9))) := ((Below.refl _ _).alloc (Nat.le_refl _) _).alloc (by simp) _
  clear hk3 hb3
  go_wp2_with fail
  refine HR3.mono ?_
  rintro e w4 ⟨c1, l1, c2, l2, rfl, he4, hb4⟩
  have HB4 : Hid (Go.RowKit.Below V.heap.size V w4) := HB3.out.trans ((HA3.out.trans (hb4.mono HA3.out.size)).mono HB3.out.size)
  clear HR3 HA3 hb4 he4 HB3
  have hb5 : Go.RowKit.Below V.heap.size V (w4.alloc (eQ false 200 1 c1 0 l1 c2 2 l2 6)) := HB4.out.trans ((Below.refl _ _).alloc HB4.out.size _)
  have HB5 : Hid (Go.RowKit.Below w.heap.size w (w4.alloc (eQ false 200 1 c1 0 l1 c2 2 l2 6))) := HB2'.out.trans (hb5.mono HB2'.out.size)
  obtain ⟨r0, r1, r2, r3, r4, r5⟩ := (HE.out.below hb5 HE.out.lt).cells
  obtain ⟨g, off, rfl, p0, p1⟩ := (HE2'.out.below hb5).put 0 (by decide)
  obtain ⟨g', off', e', p2, p3⟩ := (HE2'.out.below hb5).put 1 (by decide)
  cases e'
  simp only [Nat.zero_mul, Nat.one_mul, Nat.add_zero, show kd [((1 : Int), (6 : Int)), (1, 9)] 0 = (1, 6) from rfl, show kd [((1 : Int), (6 : Int)), (1, 9)] 1 = (1, 9) from rfl] at p0 p1 p2 p3
  have q1 := run_eqPut 1 6 1 6
  have q2 := run_eqPut 1 9 1 9
  have g1 := fun op x y => run_putGuard op x y 1 6 1 6
  have g2 := fun op x y => run_putGuard op x y 1 9 1 9
  clear hb5 HB4 HB2' HE2' HE
  go_wp2
  go_ret
  exact ⟨rfl, HB5.out⟩
end Go.Proofs.Ytbpgafchagpmoaa
