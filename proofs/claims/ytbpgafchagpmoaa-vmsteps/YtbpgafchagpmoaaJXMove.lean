import Derived.Test.YtbpgafchagpmoaaXRun
import Derived.Test.YtbpgafchagpmoaaXSame
import Derived.Test.YtbpgafchagpmoaaJOpenCode
import Derived.Test.YtbpgafchagpmoaaLLongest
/-
  THE WALK OF move.
-/
namespace Go.Proofs.Ytbpgafchagpmoaa
open Go.RowKit Go.Sort

def mvP : Nums := ⟨1, 2, 2, 0⟩
def mvL : List K := [(7, 0), (6, 0), (24, 0), (31, 6), (1, 1), (36, 0), (7, 0), (6, 0), (11, 0), (32, 0), (7, 1), (6, 0), (10, 0), (32, 1)]
theorem mv_one : newE mvP mvL [4] [(true, 10), (true, 5)] = 0 ∧ runX mvP mvL [4] [(true, 10), (true, 5)] = ⟨true, 0, 0, [], [(1, 6), (1, 9)], 12⟩ := ⟨by kernel_rfl, by kernel_rfl⟩
theorem mv_two : newE mvP mvL [20] [(true, 6), (true, 9)] = 0 ∧ runX mvP mvL [20] [(true, 6), (true, 9)] = ⟨false, 200, 1, [], [(0, 0), (0, 0)], 6⟩ := ⟨by kernel_rfl, by kernel_rfl⟩
theorem KeysAt.mv {W : World} {G : Nat} (h : W.heap[G]? = some (.cells #[.int .i64 7, .int .i64 0, .int .i64 6, .int .i64 0, .int .i64 24, .int .i64 0, .int .i64 31, .int .i64 6, .int .i64 1, .int .i64 1, .int .i64 36, .int .i64 0, .int .i64 7, .int .i64 0, .int .i64 6, .int .i64 0, .int .i64 11, .int .i64 0, .int .i64 32, .int .i64 0, .int .i64 7, .int .i64 1, .int .i64 6, .int .i64 0, .int .i64 10, .int .i64 0, .int .i64 32, .int .i64 1] 66 (0, 0))) : KeysAt W (some ⟨G, 0, none⟩) mvL := by
  refine .inr ⟨G, 0, rfl, fun j u hu => ?_⟩
  have e : W.cell? ⟨G, 0 + j, none⟩ = (cks mvL).toArray[j]? := by
    simp only [World.cell?, h, Nat.zero_add]; rfl
  rw [e]
  simpa using hu
set_option maxRecDepth 100000 in
set_option maxHeartbeats 1000000 in
theorem move_any (w : World) : Calls Try.prog 37 #[] w fun e w' => e = .returned (pv mvP (some ⟨w.heap.size + 1, 0, none⟩) 14 14) ∧ KeysAt w' (some ⟨w.heap.size + 1, 0, none⟩) mvL ∧ Go.RowKit.Below w.heap.size w w' := by
  go_enter Try.func37, Try.ntmps37
  go_wp2
  refine bodyPost_ret (v := pv mvP (some ⟨w.heap.size + 1, 0, none⟩) 14 14) (by simp [results, Try.results37, go_sem, pv, mvP]) rfl ⟨rfl, KeysAt.mv (heap_alloc_new _ _ (by simp)), ((Below.refl _ _).alloc (Nat.le_refl _) _).alloc (by simp) _⟩
abbrev o1 (x : Int) : Obj := .cells #[.int .i64 x] 2
abbrev o2 (x y : Int) : Obj := .cells #[.bool true, .int .i64 x, .bool true, .int .i64 y] 64
theorem call_mv {w1 : World} {G : Nat} (hk : KeysAt w1 (some ⟨G, 0, none⟩) mvL) (x a b : Int) :
    CallIn ((w1.alloc (o1 x)).alloc (o2 a b)) mvP (some ⟨G, 0, none⟩) 14 14 mvL (some ⟨w1.heap.size, 0, none⟩) 1 1 [x] (some ⟨w1.heap.size + 1, 0, none⟩) 2 2 [(true, a), (true, b)] := by
  have hb : Go.RowKit.Below w1.heap.size w1 ((w1.alloc (o1 x)).alloc (o2 a b)) := ((Below.refl _ _).alloc (Nat.le_refl _) _).alloc (by simp) _
  have h1 : ((w1.alloc (o1 x)).alloc (o2 a b)).heap[w1.heap.size]? = some (o1 x) := (heap_alloc_old _ _ (by simp)).trans (heap_alloc_new _ _ rfl)
  have h2 : ((w1.alloc (o1 x)).alloc (o2 a b)).heap[w1.heap.size + 1]? = some (o2 a b) := heap_alloc_new _ _ (by simp)
  refine ⟨by unfold NIn In64 mvP; decide, hk.kept hb, rfl, fun e => (by cases e), ⟨.inr ⟨w1.heap.size, 0, rfl, fun j u hu => ?_⟩, fun e => by cases e⟩, rfl, ⟨.inr ⟨w1.heap.size + 1, 0, rfl, fun j u hu => ?_⟩, fun e => by cases e⟩, rfl⟩
  · rw [Nat.zero_add, World.cell?, h1]
    show (#[Value.int .i64 x] : Array Value)[j]? = some u
    simpa using hu
  · rw [Nat.zero_add, World.cell?, h2]
    show (#[Value.bool true, .int .i64 a, .bool true, .int .i64 b] : Array Value)[j]? = some u
    simpa [ccs] using hu
end Go.Proofs.Ytbpgafchagpmoaa
/-
  THE WALK OF awake.
-/
namespace Go.Proofs.Ytbpgafchagpmoaa
open Go.RowKit Go.Sort

/-- Run, as it is used: the effect's value and what is read of it -/
theorem run_use (w : World) (p : Nums) (ao : Option Addr) (n cap : Nat) (L : List K) (aa : Option Addr) (na ca : Nat) (A : List Int) (ra : Option Addr) (nr cr : Nat) (R : List C) (hin : CallIn w p ao n cap L aa na ca A ra nr cr R) :
    Calls Try.prog 10 #[pv p ao n cap, .slice aa na ca, .slice ra nr cr] w fun e w' => ∃ a1 k1 a2 k2, e = .returned (.tuple #[efR (runX p L A R) a1 k1 a2 k2, .int .i64 (newE p L A R)]) ∧ EfR w' a1 a2 (runX p L A R) ∧ Go.RowKit.Below w.heap.size w w' :=
  (run_any w p ao n cap L aa na ca A ra nr cr R hin).mono fun e w' ⟨a1, l1, k1, a2, l2, k2, he, hr, hb⟩ => by
    obtain ⟨h1, rfl, rfl⟩ := hr.read
    exact ⟨a1, k1, a2, k2, he, h1, hb⟩
set_option maxRecDepth 100000 in
set_option maxHeartbeats 1000000 in
theorem awake_any (w : World) : Calls Try.prog 19 #[] w fun e w' => e = .returned (.bool true) ∧ Go.RowKit.Below w.heap.size w w' := by
  go_enter Try.func19, Try.ntmps19
  go_wp2_with fail
  refine (move_any w).mono ?_
  rintro e w1 ⟨rfl, hk1, hb1⟩
  have HB1 : Hid (Go.RowKit.Below w.heap.size w w1) := hb1
  have HR1 := run_use _ _ _ _ _ _ _ _ _ _ _ _ _ _ (call_mv hk1 4 10 5)
  rw [mv_one.1, mv_one.2] at HR1
  have HA1 : Hid (Go.RowKit.Below w1.heap.size w1 ((w1.alloc (o1 4)).alloc (o2 10 5))) := ((Below.refl _ _).alloc (Nat.le_refl _) _).alloc (by simp) _
  clear hk1 hb1
  go_wp2_with fail
  refine HR1.mono ?_
  rintro e w2 ⟨a1, k1, a2, k2, rfl, he2, hb2⟩
  have HB2 : Hid (Go.RowKit.Below w.heap.size w w2) := HB1.out.trans ((HA1.out.trans (hb2.mono HA1.out.size)).mono HB1.out.size)
  have HE2 : Hid (CellsAt w2 a2 (cks [(1, 6), (1, 9)])) := he2.2
  clear HR1 HA1 hb2 he2 HB1
  go_wp2_with fail
  have HE : Hid (RE (w2.alloc (eQ true 0 0 a1 0 k1 a2 2 k2 12)) w2.heap.size (.bool true) (.int .i64 0) (.int .i64 0) (.slice a1 0 k1) (.slice a2 2 k2) (.int .i64 12)) := RE.new _ _ _ _ _ _ _
  have HB2' : Hid (Go.RowKit.Below w.heap.size w (w2.alloc (eQ true 0 0 a1 0 k1 a2 2 k2 12))) := HB2.out.trans ((Below.refl _ _).alloc HB2.out.size _)
  have HE2' : Hid (CellsAt (w2.alloc (eQ true 0 0 a1 0 k1 a2 2 k2 12)) a2 (cks [(1, 6), (1, 9)])) := HE2.out.below ((Below.refl _ _).alloc (Nat.le_refl _) _)
  clear HB2 HE2
  refine (move_any (w2.alloc (eQ true 0 0 a1 0 k1 a2 2 k2 12))).mono ?_
  generalize w2.alloc (eQ true 0 0 a1 0 k1 a2 2 k2 12) = V at *
  generalize w2.heap.size = b1 at *
  rintro e w3 ⟨rfl, hk3, hb3⟩
  have HB3 : Hid (Go.RowKit.Below V.heap.size V w3) := hb3
  have HR3 := run_use _ _ _ _ _ _ _ _ _ _ _ _ _ _ (call_mv hk3 20 6 9)
  rw [mv_two.1, mv_two.2] at HR3
  have HA3 : Hid (Go.RowKit.Below w3.heap.size w3 ((w3.alloc (o1 20)).alloc (o2 6 9))) := ((Below.refl _ _).alloc (Nat.le_refl _) _).alloc (by simp) _
  clear hk3 hb3
  go_wp2_with fail
  refine HR3.mono ?_
  rintro e w4 ⟨c1, l1, c2, l2, rfl, he4, hb4⟩
  have HB4 : Hid (Go.RowKit.Below V.heap.size V w4) := HB3.out.trans ((HA3.out.trans (hb4.mono HA3.out.size)).mono HB3.out.size)
  clear HR3 HA3 hb4 he4 HB3
  have hb5 : Go.RowKit.Below V.heap.size V (w4.alloc (eQ false 200 1 c1 0 l1 c2 2 l2 6)) := HB4.out.trans ((Below.refl _ _).alloc HB4.out.size _)
  have HB5 : Hid (Go.RowKit.Below w.heap.size w (w4.alloc (eQ false 200 1 c1 0 l1 c2 2 l2 6))) := HB2'.out.trans (hb5.mono HB2'.out.size)
  obtain ⟨r0, r1, r2, r3, r4, r5⟩ := (HE.out.below hb5 HE.out.lt).cells
  obtain ⟨g, off, rfl, p0, p1⟩ := (HE2'.out.below hb5).put 0 (by decide)
  obtain ⟨g', off', e', p2, p3⟩ := (HE2'.out.below hb5).put 1 (by decide)
  cases e'
  simp only [Nat.zero_mul, Nat.one_mul, Nat.add_zero, show kd [((1 : Int), (6 : Int)), (1, 9)] 0 = (1, 6) from rfl, show kd [((1 : Int), (6 : Int)), (1, 9)] 1 = (1, 9) from rfl] at p0 p1 p2 p3
  have q1 := run_eqPut 1 6 1 6
  have q2 := run_eqPut 1 9 1 9
  have g1 := fun op x y => run_putGuard op x y 1 6 1 6
  have g2 := fun op x y => run_putGuard op x y 1 9 1 9
  clear hb5 HB4 HB2' HE2' HE
  go_wp2
  go_ret
  exact ⟨rfl, HB5.out⟩
end Go.Proofs.Ytbpgafchagpmoaa
/-
  THE WALK OF VmEnds.
-/
namespace Go.Proofs.Ytbpgafchagpmoaa
open Go.RowKit Go.Sort

/-- WHAT HAS COME OF A RUN -/
theorem ends_math {p : Nums} {L : List K} {A : List Int} {R : List C} (h : newE p L A R = 0) :
    ((runX p L A R).steps : Int) ≤ (mostN L L.length).getD 0 0 ∧ ((runX p L A R).puts.length : Int) = p.writes ∧ (runX p L A R).out.length ≤ 16 ∧ (runX p L A R).puts.length ≤ 16 ∧
    (((runX p L A R).commit = true ∧ (runX p L A R).code = 0 ∧ (runX p L A R).user = 0) ∨ ((runX p L A R).commit = false ∧ 200 ≤ (runX p L A R).code ∧ (runX p L A R).code ≤ 204 ∧ (runX p L A R).puts = List.replicate p.writes.toNat (0, 0) ∧ (runX p L A R).out = [] ∧ ((runX p L A R).user = 0 ∨ (runX p L A R).code = 200))) := by
  obtain ⟨hv, _, _⟩ := newE_zero h
  obtain ⟨d, hs⟩ := sound_of hv
  have hg := run_keeps (A := A) (R := R) hs (good_start hs) L.length
  have hd := last_done (A := A) (R := R) hs (good_start hs)
  have hX : runX p L A R = ⟨(lastM L A R (startM p)).fault == 0, (lastM L A R (startM p)).fault, (lastM L A R (startM p)).user, (lastM L A R (startM p)).ou, (lastM L A R (startM p)).pu, (lastM L A R (startM p)).steps⟩ := by
    unfold runX effN; rw [if_neg (by simp [h]), if_pos hd]
  have hlim := (limB_iff p L.length).1 hs.lim
  rw [hX]
  change Good p L d (lastM L A R (startM p)) at hg
  generalize lastM L A R (startM p) = m at *
  have hmn := most_nonneg hs.sane m.at_ hg.pl
  have hpu := hg.pu
  refine ⟨?_, by show (m.pu.length : Int) = _; omega, hg.ou, by show m.pu.length ≤ 16; omega, ?_⟩
  · show (m.steps : Int) ≤ _
    cases he : m.ended with
    | false => have := (hg.live he).2.2.2; omega
    | true => exact (hg.dead he).1
  · show ((m.fault == 0) = true ∧ m.fault = 0 ∧ m.user = 0) ∨ ((m.fault == 0) = false ∧ 200 ≤ m.fault ∧ m.fault ≤ 204 ∧ m.pu = _ ∧ m.ou = [] ∧ (m.user = 0 ∨ m.fault = 200))
    cases he : m.ended with
    | false =>
      obtain ⟨_, h2, h3, _⟩ := hg.live he
      exact .inl ⟨by rw [h2]; rfl, h2, h3⟩
    | true =>
      rcases (hg.dead he).2 with ⟨h2, h3⟩ | ⟨h1, h2, _, h4, h5, h6⟩
      · exact .inl ⟨by rw [h2]; rfl, h2, h3⟩
      · exact .inr ⟨by simp; omega, h1, h2, h5, h4, h6⟩
theorem zero_read (w : World) : EfR w none none zeroEf := ⟨.inl rfl, .inl rfl⟩
theorem longN {p : Nums} {L : List K} : longestN p L = if verifyN p L ≠ 0 then (0, verifyN p L) else ((mostN L L.length).getD 0 0, 0) := rfl
theorem put_zero {w : World} {ao : Option Addr} {n : Nat} (h : CellsAt w ao (cks (List.replicate n (0, 0)))) (k : Nat) (hk : k < n) : ∃ b off, ao = some ⟨b, off, none⟩ ∧ w.cell? ⟨b, off + k * 2, none⟩ = some (.int .i64 0) ∧ w.cell? ⟨b, off + k * 2 + 1, none⟩ = some (.int .i64 0) := by
  obtain ⟨b, off, e, h1, h2⟩ := h.put k (by simpa using hk)
  have e1 : kd (List.replicate n ((0 : Int), (0 : Int))) k = (0, 0) := by simp [kd, cd, List.getD_eq_getElem?_getD, hk]
  rw [e1] at h1 h2
  exact ⟨b, off, e, h1, h2⟩
abbrev cO (p : Nums) (ao : Option Addr) (n cap : Nat) (aa : Option Addr) (na ca : Nat) (ra : Option Addr) (nr cr : Nat) : Obj := .cells #[.int .i64 p.args, .int .i64 p.reads, .int .i64 p.writes, .int .i64 p.locals, .slice ao n cap, .slice aa na ca, .slice ra nr cr] 28
/-- a Call in a box -/
def CBox (W : World) (B : Nat) (p : Nums) (ao : Option Addr) (n cap : Nat) (aa : Option Addr) (na ca : Nat) (ra : Option Addr) (nr cr : Nat) : Prop := W.heap[B]? = some (cO p ao n cap aa na ca ra nr cr)
theorem CBox.lt {W : World} {B : Nat} {p : Nums} {ao : Option Addr} {n cap : Nat} {aa : Option Addr} {na ca : Nat} {ra : Option Addr} {nr cr : Nat} (h : CBox W B p ao n cap aa na ca ra nr cr) : B < W.heap.size := (Array.getElem?_eq_some_iff.1 h).1
theorem CBox.kept {W W' : World} {B : Nat} {p : Nums} {ao : Option Addr} {n cap : Nat} {aa : Option Addr} {na ca : Nat} {ra : Option Addr} {nr cr : Nat} (h : CBox W B p ao n cap aa na ca ra nr cr) (hb : Go.RowKit.Below W.heap.size W W') : CBox W' B p ao n cap aa na ca ra nr cr := (hb.block B h.lt).trans h
theorem CBox.cells {W : World} {B : Nat} {p : Nums} {ao : Option Addr} {n cap : Nat} {aa : Option Addr} {na ca : Nat} {ra : Option Addr} {nr cr : Nat} (h : CBox W B p ao n cap aa na ca ra nr cr) :
    W.cell? ⟨B, 0, none⟩ = some (.int .i64 p.args) ∧ W.cell? ⟨B, 1, none⟩ = some (.int .i64 p.reads) ∧ W.cell? ⟨B, 2, none⟩ = some (.int .i64 p.writes) ∧ W.cell? ⟨B, 3, none⟩ = some (.int .i64 p.locals) ∧ W.cell? ⟨B, 4, none⟩ = some (.slice ao n cap) ∧ W.cell? ⟨B, 5, none⟩ = some (.slice aa na ca) ∧ W.cell? ⟨B, 6, none⟩ = some (.slice ra nr cr) := by
  refine ⟨?_, ?_, ?_, ?_, ?_, ?_, ?_⟩ <;> simp [World.cell?, show W.heap[B]? = _ from h]

/-- Run that is refused -/
theorem run_err (w : World) (p : Nums) (ao : Option Addr) (n cap : Nat) (L : List K) (aa : Option Addr) (na ca : Nat) (A : List Int) (ra : Option Addr) (nr cr : Nat) (R : List C) (hin : CallIn w p ao n cap L aa na ca A ra nr cr R) (hN : newE p L A R ≠ 0) :
    Calls Try.prog 10 #[pv p ao n cap, .slice aa na ca, .slice ra nr cr] w fun e w' => ∃ a1 k1 a2 k2, e = .returned (.tuple #[.agg (eP false 0 0 a1 0 k1 a2 0 k2 0), .int .i64 (newE p L A R)]) ∧ Go.RowKit.Below w.heap.size w w' := by
  have hX : runX p L A R = zeroEf := if_pos hN
  have h := run_use w p ao n cap L aa na ca A ra nr cr R hin
  rw [hX] at h
  exact h.mono fun e w' ⟨a1, k1, a2, k2, he, _, hb⟩ => ⟨a1, k1, a2, k2, he, hb⟩
/-- an effect's parts -/
structure Done (p : Nums) (L : List K) (w' : World) (co : Bool) (cd us : Int) (S : List Int) (U : List K) (a1 a2 : Option Addr) (st : Nat) : Prop where
  out : CellsAt w' a1 (S.map iv)
  puts : CellsAt w' a2 (cks U)
  steps : (st : Int) ≤ (mostN L L.length).getD 0 0
  pl : (U.length : Int) = p.writes
  ol : S.length ≤ 16
  pl16 : U.length ≤ 16
  end_ : (co = true ∧ cd = 0 ∧ us = 0) ∨ (co = false ∧ 200 ≤ cd ∧ cd ≤ 204 ∧ U = List.replicate p.writes.toNat (0, 0) ∧ S = [] ∧ (us = 0 ∨ cd = 200))
theorem run_ok (w : World) (p : Nums) (ao : Option Addr) (n cap : Nat) (L : List K) (aa : Option Addr) (na ca : Nat) (A : List Int) (ra : Option Addr) (nr cr : Nat) (R : List C) (hin : CallIn w p ao n cap L aa na ca A ra nr cr R) (hN : newE p L A R = 0) :
    Calls Try.prog 10 #[pv p ao n cap, .slice aa na ca, .slice ra nr cr] w fun e w' => ∃ co cd us S U a1 k1 a2 k2 st, e = .returned (.tuple #[.agg (eP co cd us a1 (List.length S) k1 a2 (List.length U) k2 ((st : Nat) : Int)), .int .i64 0]) ∧ Done p L w' co cd us S U a1 a2 st ∧ Go.RowKit.Below w.heap.size w w' := by
  have h := run_use w p ao n cap L aa na ca A ra nr cr R hin
  rw [hN] at h
  obtain ⟨m1, m2, m3, m4, m5⟩ := ends_math hN
  exact h.mono fun e w' ⟨a1, k1, a2, k2, he, hr, hb⟩ => ⟨_, _, _, _, _, a1, k1, a2, k2, _, he, ⟨hr.1, hr.2, m1, m2, m3, m4, m5⟩, hb⟩

set_option maxRecDepth 100000 in
set_option maxHeartbeats 2000000 in
theorem ends_walk (w : World) (p : Nums) (ao : Option Addr) (n cap : Nat) (L : List K) (aa : Option Addr) (na ca : Nat) (A : List Int) (ra : Option Addr) (nr cr : Nat) (R : List C) (hin : CallIn w p ao n cap L aa na ca A ra nr cr R) :
    Calls Try.prog 5 #[callV p ao n cap aa na ca ra nr cr] w fun e w' => e = .returned (.bool true) ∧ Go.RowKit.Below w.heap.size w w' := by
  have HIn : Hid (CallIn w p ao n cap L aa na ca A ra nr cr R) := hin
  have HB0 : Hid (Go.RowKit.Below w.heap.size w (w.alloc (cO p ao n cap aa na ca ra nr cr))) := (Below.refl _ _).alloc (Nat.le_refl _) _
  have HC0 : Hid (CBox (w.alloc (cO p ao n cap aa na ca ra nr cr)) w.heap.size p ao n cap aa na ca ra nr cr) := heap_alloc_new _ _ rfl
  clear hin
  go_enter Try.func5, Try.ntmps5
  go_wp2_with fail
  refine (awake_any _).mono ?_
  rintro e w1 ⟨rfl, hb1⟩
  have HB1 : Hid (Go.RowKit.Below w.heap.size w w1) := HB0.out.trans (hb1.mono HB0.out.size)
  have HC1 : Hid (CBox w1 w.heap.size p ao n cap aa na ca ra nr cr) := HC0.out.kept hb1
  have HI1 : Hid (CallIn w1 p ao n cap L aa na ca A ra nr cr R) := HIn.out.kept HB1.out
  obtain ⟨x0, x1, x2, x3, x4, x5, x6⟩ := HC1.out.cells
  clear hb1 HB0 HC0 HIn
  go_wp2_with fail
  refine (longest_any w1 p ao n cap L HI1.out.nin HI1.out.keys HI1.out.ln).mono ?_
  rintro e w2 ⟨rfl, hb2⟩
  have hb2' : Go.RowKit.Below w1.heap.size w1 w2 := hb2
  have HB2 : Hid (Go.RowKit.Below w.heap.size w w2) := HB1.out.trans (hb2'.mono HB1.out.size)
  have HC2 : Hid (CBox w2 w.heap.size p ao n cap aa na ca ra nr cr) := HC1.out.kept hb2'
  have HI2 : Hid (CallIn w2 p ao n cap L aa na ca A ra nr cr R) := HI1.out.kept hb2'
  clear x0 x1 x2 x3 x4 x5 x6 hb2 hb2' HB1 HC1 HI1
  obtain ⟨x0, x1, x2, x3, x4, x5, x6⟩ := HC2.out.cells
  go_wp2_with fail
  have HLn : Hid (na = A.length ∧ nr = R.length) := ⟨HI2.out.la, HI2.out.lr⟩
  by_cases hN : newE p L A R = 0
  · obtain ⟨hv, _, fa, fr⟩ := newE_zero hN
    have hlg : longestN p L = ((mostN L L.length).getD 0 0, 0) := by rw [longN, if_neg (by simp [hv])]
    rw [hlg]
    refine (run_ok w2 p ao n cap L aa na ca A ra nr cr R HI2.out hN).mono ?_
    rintro e w3 ⟨co, cd, us, S, U, a1, k1, a2, k2, st, rfl, hd, hb3⟩
    have HB3 : Hid (Go.RowKit.Below w.heap.size w w3) := HB2.out.trans (hb3.mono HB2.out.size)
    have HC3 : Hid (CBox w3 w.heap.size p ao n cap aa na ca ra nr cr) := HC2.out.kept hb3
    have HD : Hid (Done p L w3 co cd us S U a1 a2 st) := hd
    have hst := hd.steps
    have hpl := hd.pl
    have hol := hd.ol
    rw [← HLn.out.1] at fa
    rw [← HLn.out.2] at fr
    have HA3 : Hid (Go.RowKit.Below w3.heap.size w3 (w3.alloc (eQ co cd us a1 S.length k1 a2 U.length k2 (st : Int)))) := (Below.refl _ _).alloc (Nat.le_refl _) _
    obtain ⟨y0, y1, y2, y3, y4, y5, y6⟩ := (HC3.out.kept HA3.out).cells
    rw [← fa] at y0
    rw [← fr] at y1
    rw [← hpl] at y2
    have HB4 : Hid (Go.RowKit.Below w.heap.size w (w3.alloc (eQ co cd us a1 S.length k1 a2 U.length k2 (st : Int)))) := HB3.out.trans (HA3.out.mono HB3.out.size)
    have HU : Hid (CellsAt (w3.alloc (eQ co cd us a1 S.length k1 a2 U.length k2 (st : Int))) a2 (cks U)) := hd.puts.below HA3.out
    generalize (mostN L L.length).getD 0 0 = most at *
    have hs1 : ¬ (st : Int) < 0 := by omega
    have hs2 : ¬ most < (st : Int) := by omega
    have hs3 : ¬ (16 : Int) < (S.length : Int) := by omega
    clear hb3 hd hpl hol hst HB2 HC2 HI2 hN hv hlg fa fr x0 x1 x2 x3 x4 x5 x6 HA3 HC3 HB3
    rcases HD.out.end_ with ⟨rfl, rfl, rfl⟩ | ⟨rfl, h200, h204, hU, hS, hus⟩
    · generalize S.length = no at *
      generalize U.length = np at *
      go_wp2
      go_ret
      exact ⟨rfl, HB4.out⟩
    · have h0 : (cd == 0) = false := by simp; omega
      have hcd : ¬ cd < 200 := by omega
      have hcd2 : ¬ (204 : Int) < cd := by omega
      have hS0 : S.length = 0 := by rw [hS]; rfl
      rw [hS0] at HB4 HU y0 y1 y2 y3 y4 y5 y6 hs3 ⊢
      have HUr : Hid (CellsAt (w3.alloc (eQ false cd us a1 0 k1 a2 U.length k2 (st : Int))) a2 (cks (List.replicate U.length (0, 0)))) := by
        have h1 := HU.out
        have := congrArg List.length hU
        simp at this
        rw [← this] at hU
        rw [hU] at h1
        show CellsAt _ _ _
        simpa using h1
      have HUs : Hid (us = 0 ∨ cd = 200) := hus
      have hnp := HD.out.pl16
      clear HU HD hU hS hS0 hus
      generalize U.length = np at *
      go_wp2_with fail
      go_loopw [7] (fun x wr => ∃ k : Nat, k ≤ np ∧ x = .int .i64 (k : Int) ∧ Hid (wr = w3.alloc (eQ false cd us a1 0 k1 a2 np k2 (st : Int)))) (fun x _ => np - (intOf x).toNat)
      case atStart => exact ⟨0, by omega, rfl, rfl⟩
      case round =>
        obtain ⟨k, hk, rfl, hwr⟩ := hrel
        have hwr' := hwr.out
        subst hwr'
        by_cases hlt : k < np
        · obtain ⟨b, off, rfl, c1, c2⟩ := put_zero HUr.out k hlt
          have hq := run_nePut 0 0
          have hgd := fun op x y => run_putGuard op x y 0 0 0 0
          go_wp2
          go_roundw
          case rel => exact ⟨k + 1, by omega, by go_num, trivial⟩
          case measure => simp [intOf]; omega
        · obtain rfl : k = np := by omega
          rcases HUs.out with rfl | rfl
          · go_wp2
            go_ret
            exact ⟨rfl, HB4.out⟩
          · cases hu : (us == 0) with
            | true =>
              go_wp2
              go_ret
              exact ⟨rfl, HB4.out⟩
            | false =>
              go_wp2
              go_ret
              exact ⟨rfl, HB4.out⟩
  · have HSE : Hid (∀ W (c1 c2 : Option Addr) (l1 l2 : Nat), Calls Try.prog 12 #[.agg (eP false 0 0 c1 0 l1 c2 0 l2 0), .agg (eP false 0 0 none 0 0 none 0 0 0)] W fun e w' => e = .returned (.bool true) ∧ Go.RowKit.Below W.heap.size W w') := fun W c1 c2 l1 l2 =>
      sameEffect_eq W zeroEf c1 c2 none none l1 l2 0 0 ⟨.inl rfl, .inl rfl⟩ ⟨.inl rfl, .inl rfl⟩ (by decide) (by decide)
    by_cases hv : verifyN p L = 0
    · have hlg : longestN p L = ((mostN L L.length).getD 0 0, 0) := by rw [longN, if_neg (by simp [hv])]
      have h50 : newE p L A R = 50 ∧ fedB p A R = false := by
        unfold newE at hN ⊢
        rw [if_neg (by simp [hv])] at hN ⊢
        by_cases hf : fedB p A R = false
        · exact ⟨if_pos hf, hf⟩
        · rw [if_neg hf] at hN; exact absurd rfl hN
      have HR := run_err w2 p ao n cap L aa na ca A ra nr cr R HI2.out hN
      rw [h50.1] at HR
      rw [hlg]
      have hfed : ¬ ((na : Int) = p.args ∧ (nr : Int) = p.reads) := fun h => by
        have := h50.2
        unfold fedB at this
        rw [← HLn.out.1, ← HLn.out.2] at this
        simp [h.1, h.2] at this
      refine HR.mono ?_
      rintro e w3 ⟨a1, k1, a2, k2, rfl, hb3⟩
      have HB3 : Hid (Go.RowKit.Below w.heap.size w w3) := HB2.out.trans (hb3.mono HB2.out.size)
      have HA3 : Hid (Go.RowKit.Below w3.heap.size w3 (w3.alloc (eQ false 0 0 a1 0 k1 a2 0 k2 0))) := (Below.refl _ _).alloc (Nat.le_refl _) _
      obtain ⟨y0, y1, y2, y3, y4, y5, y6⟩ := ((HC2.out.kept hb3).kept HA3.out).cells
      have HB4 : Hid (Go.RowKit.Below w.heap.size w (w3.alloc (eQ false 0 0 a1 0 k1 a2 0 k2 0))) := HB3.out.trans (HA3.out.mono HB3.out.size)
      generalize (mostN L L.length).getD 0 0 = most at *
      clear hb3 HB2 HC2 HI2 hN hv hlg h50 x0 x1 x2 x3 x4 x5 x6 HA3 HB3 HR
      by_cases ha : (na : Int) = p.args
      · have hr : ¬ (nr : Int) = p.reads := fun h => hfed ⟨ha, h⟩
        have ha' : ((na : Int) != p.args) = false := by simpa using ha
        have hr' : ((nr : Int) != p.reads) = true := by simpa using hr
        clear hfed ha hr
        go_wp2_with fail
        refine (HSE.out _ _ _ _ _).mono ?_
        rintro e w5 ⟨rfl, hb5⟩
        have HB5 : Hid (Go.RowKit.Below w.heap.size w w5) := HB4.out.trans (hb5.mono HB4.out.size)
        clear hb5
        go_wp2
        go_ret
        exact ⟨rfl, HB5.out⟩
      · have ha' : ((na : Int) != p.args) = true := by simpa using ha
        clear hfed ha
        go_wp2_with fail
        refine (HSE.out _ _ _ _ _).mono ?_
        rintro e w5 ⟨rfl, hb5⟩
        have HB5 : Hid (Go.RowKit.Below w.heap.size w w5) := HB4.out.trans (hb5.mono HB4.out.size)
        clear hb5
        go_wp2
        go_ret
        exact ⟨rfl, HB5.out⟩
    · have hlg : longestN p L = (0, verifyN p L) := by rw [longN, if_pos hv]
      have hne : newE p L A R = verifyN p L := if_pos hv
      have HR := run_err w2 p ao n cap L aa na ca A ra nr cr R HI2.out hN
      rw [hne] at HR
      rw [hlg]
      have hv' : (verifyN p L != 0) = true := by simpa using hv
      refine HR.mono ?_
      rintro e w3 ⟨a1, k1, a2, k2, rfl, hb3⟩
      have HB3 : Hid (Go.RowKit.Below w.heap.size w w3) := HB2.out.trans (hb3.mono HB2.out.size)
      have HB4 : Hid (Go.RowKit.Below w.heap.size w (w3.alloc (eQ false 0 0 a1 0 k1 a2 0 k2 0))) := HB3.out.trans ((Below.refl _ _).alloc HB3.out.size _)
      clear hb3 HB2 HC2 HI2 hN hv hlg hne x0 x1 x2 x3 x4 x5 x6 HB3 HR
      generalize verifyN p L = v at *
      go_wp2_with fail
      refine (HSE.out _ _ _ _ _).mono ?_
      rintro e w5 ⟨rfl, hb5⟩
      have HB5 : Hid (Go.RowKit.Below w.heap.size w w5) := HB4.out.trans (hb5.mono HB4.out.size)
      clear hb5
      go_wp2
      go_ret
      exact ⟨rfl, HB5.out⟩
end Go.Proofs.Ytbpgafchagpmoaa
/-
  VmBlind: WHAT IS NOT LOOKED AT.
-/
namespace Go.Proofs.Ytbpgafchagpmoaa
open Go.RowKit Go.Sort

/-- two lists of cells that look alike -/
structure Alike (R R' : List C) : Prop where
  len : R'.length = R.length
  is : ∀ i, (rd R' i).1 = (rd R i).1
  val : ∀ i, rdV (rd R' i) = rdV (rd R i)
theorem get_alike {R R' : List C} (h : Alike R R') (i : Int) (m : M) : getN R' i m = getN R i m := by
  unfold getN; rw [h.len, h.val]
theorem do_alike {R R' : List C} (h : Alike R R') (A : List Int) (op a : Int) (m : M) : doN A R' op a m = doN A R op a m := by
  unfold doN; rw [get_alike h, get_alike h, h.is]
theorem step_alike {R R' : List C} (h : Alike R R') (L : List K) (A : List Int) (m : M) : stepN L A R' m = stepN L A R m := by
  unfold stepN; rw [do_alike h]
theorem run_alike {R R' : List C} (h : Alike R R') (L : List K) (A : List Int) (m : M) : ∀ k, runN L A R' m k = runN L A R m k
  | 0 => rfl
  | k + 1 => by show stepN _ _ _ _ = stepN _ _ _ _; rw [run_alike h L A m k, step_alike h]
theorem newE_len {R R' : List C} (h : R'.length = R.length) (p : Nums) (L : List K) (A : List Int) : newE p L A R' = newE p L A R := by
  unfold newE fedB; rw [h]
theorem runX_alike {R R' : List C} (h : Alike R R') (p : Nums) (L : List K) (A : List Int) : runX p L A R' = runX p L A R := by
  unfold runX lastM; rw [newE_len h.len, run_alike h]
/-- a program that names no read -/
def NoRead (L : List K) : Prop := ∀ i, i < L.length → (cd L i).1 ≠ 7 ∧ (cd L i).1 ≠ 8 ∧ (cd L i).1 ≠ 9
theorem do_noread {op : Int} (h7 : op ≠ 7) (h8 : op ≠ 8) (h9 : op ≠ 9) (A : List Int) (R R' : List C) (a : Int) (m : M) : doN A R' op a m = doN A R op a m := by
  unfold doN
  rw [if_neg h7, if_neg h8, if_neg h9, if_neg h7, if_neg h8, if_neg h9]
theorem run_noread {L : List K} (h : NoRead L) (A : List Int) (R R' : List C) {p : Nums} {d : List Int} (hs : Sound p L d) {m : M} (hg : Good p L d m) : ∀ k, runN L A R' m k = runN L A R m k
  | 0 => rfl
  | k + 1 => by
    show stepN _ _ _ _ = stepN _ _ _ _
    rw [run_noread h A R R' hs hg k]
    have hgk := run_keeps (A := A) (R := R) hs hg k
    unfold stepN
    cases hd : doneB L.length (runN L A R m k) with
    | true => rw [if_pos rfl, if_pos rfl]
    | false =>
      have hat : (runN L A R m k).at_ < L.length := by
        simp only [doneB, Bool.or_eq_false_iff, decide_eq_false_iff_not] at hd
        have := hgk.pl; omega
      obtain ⟨h7, h8, h9⟩ := h _ hat
      rw [do_noread h7 h8 h9 A R R']
theorem runX_noread {L : List K} (h : NoRead L) (p : Nums) (A : List Int) {R R' : List C} (hl : R'.length = R.length) : runX p L A R' = runX p L A R := by
  unfold runX
  rw [newE_len hl]
  by_cases h0 : newE p L A R ≠ 0
  · rw [if_pos h0, if_pos h0]
  · rw [if_neg h0, if_neg h0]
    obtain ⟨hv, _, _⟩ := newE_zero (show newE p L A R = 0 by simpa using h0)
    obtain ⟨d, hs⟩ := sound_of hv
    unfold lastM
    rw [run_noread h A R R' hs (good_start hs)]
/-- one cell of the other list -/
def othC (V : List Int) (i : Nat) (c : C) : C := if c.1 = false ∧ 0 < V.length then (false, V.getD (i % V.length) 0) else c
def othL (R : List C) (V : List Int) (k : Nat) : List C := (List.range k).map fun i => othC V i (rd R i)
theorem oth_length (R : List C) (V : List Int) (k : Nat) : (othL R V k).length = k := by simp [othL]
theorem oth_snoc (R : List C) (V : List Int) (k : Nat) : othL R V (k + 1) = othL R V k ++ [othC V k (rd R k)] := by
  simp [othL, List.range_succ]
theorem rd_none (R : List C) (i : Nat) (h : R.length ≤ i) : rd R i = (false, 0) := by simp [rd, List.getD_eq_getElem?_getD, List.getElem?_eq_none h]
theorem rd_oth (R : List C) (V : List Int) (k i : Nat) (h : i < k) : rd (othL R V k) i = othC V i (rd R i) := by
  simp [rd, othL, List.getD_eq_getElem?_getD, h]
theorem oth_alike (R : List C) (V : List Int) : Alike R (othL R V R.length) := by
  have key : ∀ i, (rd (othL R V R.length) i).1 = (rd R i).1 ∧ rdV (rd (othL R V R.length) i) = rdV (rd R i) := fun i => by
    by_cases h : i < R.length
    · rw [rd_oth R V R.length i h]
      unfold othC
      split
      · rename_i hc; exact ⟨hc.1.symm, by simp [rdV, hc.1]⟩
      · exact ⟨rfl, rfl⟩
    · rw [rd_none _ i (by rw [oth_length]; omega), rd_none R i (by omega)]; exact ⟨rfl, rfl⟩
  exact ⟨oth_length _ _ _, fun i => (key i).1, fun i => (key i).2⟩
theorem ccs_append (A B : List C) : ccs (A ++ B) = ccs A ++ ccs B := by
  induction A with
  | nil => rfl
  | cons a A ih => simp [ccs, ih]
theorem ccs_set (S : List C) (i : Nat) (k : C) : ((ccs S).set (i * 2) (.bool k.1)).set (i * 2 + 1) (.int .i64 k.2) = ccs (S.set i k) := by
  induction S generalizing i with
  | nil => rfl
  | cons a S ih =>
    cases i with
    | zero => rfl
    | succ i =>
      rw [List.set_cons_succ, ccs, ccs, ← ih i, show (i + 1) * 2 = i * 2 + 1 + 1 by omega]
      rfl
theorem CellsAt.cell {w : World} {ao : Option Addr} {R : List C} (h : CellsAt w ao (ccs R)) (k : Nat) (hk : k < R.length) : ∃ b off, ao = some ⟨b, off, none⟩ ∧ w.cell? ⟨b, off + k * 2, none⟩ = some (.bool (rd R k).1) ∧ w.cell? ⟨b, off + k * 2 + 1, none⟩ = some (.int .i64 (rd R k).2) := by
  obtain ⟨e1, e2⟩ := ccs_at R k hk
  rcases h with h | ⟨b, off, rfl, hc⟩
  · have := congrArg List.length h; rw [ccs_length] at this; simp only [List.length_nil] at this; omega
  · exact ⟨b, off, rfl, hc _ _ e1, by rw [Nat.add_assoc]; exact hc _ _ e2⟩
/-- one cell, laid for an append -/
theorem cell_src (w : World) (b : Bool) (x : Int) : ∀ j u, ([Value.bool b, .int .i64 x] : List Value)[j]? = some u → (w.alloc (.cells #[.bool b, .int .i64 x] 64)).cell? ((⟨w.heap.size, 0, none⟩ : Addr).add j) = some u := by
  intro j u hu
  rw [addr_add, Nat.zero_add, World.cell?, heap_alloc_new _ _ rfl]
  show (#[Value.bool b, .int .i64 x] : Array Value)[j]? = some u
  simpa using hu
/-- the list behind k stores -/
def flipC (c : C) : C := (!c.1, wrap64 (c.2 - 1))
def flipL (S : List C) (k : Nat) : List C := (List.range S.length).map fun i => if i < k then flipC (rd S i) else rd S i
theorem flip_length (S : List C) (k : Nat) : (flipL S k).length = S.length := by simp [flipL]
theorem rd_flip (S : List C) (k i : Nat) (h : i < S.length) : rd (flipL S k) i = if i < k then flipC (rd S i) else rd S i := by
  simp [rd, flipL, List.getD_eq_getElem?_getD, h]
theorem flip_zero (S : List C) : flipL S 0 = S := by
  apply List.ext_getElem
  · simp [flipL]
  · intro i h1 h2
    simp [flipL, rd, List.getD_eq_getElem?_getD, h2]
theorem flip_step (S : List C) (k : Nat) (h : k < S.length) : (flipL S k).set k (flipC (rd (flipL S k) k)) = flipL S (k + 1) := by
  rw [rd_flip S k k h, if_neg (by omega)]
  apply List.ext_getElem
  · simp [flipL]
  · intro i h1 h2
    rw [List.getElem_set]
    simp only [flipL, List.getElem_map, List.getElem_range]
    by_cases e : k = i
    · subst e; simp
    · rw [if_neg e]
      by_cases hlt : i < k
      · rw [if_pos hlt, if_pos (by omega)]
      · rw [if_neg hlt, if_neg (by omega)]
end Go.Proofs.Ytbpgafchagpmoaa
