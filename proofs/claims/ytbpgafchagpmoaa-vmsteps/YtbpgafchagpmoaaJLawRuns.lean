import Derived.Test.YtbpgafchagpmoaaJXRApp
import Derived.Test.YtbpgafchagpmoaaJXApart
import Derived.Test.YtbpgafchagpmoaaJXRNew
import Derived.Test.YtbpgafchagpmoaaJXMove
import Derived.Test.YtbpgafchagpmoaaJOpenCode
/-
  VmRuns: THE WALK.
-/
namespace Go.Proofs.Ytbpgafchagpmoaa
open Go.RowKit Go.Sort

theorem post_own {w w' : World} {p : Nums} {L : List K} {A : List Int} {R : List C} {e : Ending} (h : RunPost w p L A R e w') : ∃ a1 k1 a2 k2, e = .returned (.tuple #[efR (runX p L A R) a1 k1 a2 k2, .int .i64 (newE p L A R)]) ∧ EfAt w' w.heap.size (.slice a1 (runX p L A R).out.length k1) (.slice a2 (runX p L A R).puts.length k2) (runX p L A R) ∧ Go.RowKit.Below w.heap.size w w' := by
  obtain ⟨a1, l1, k1, a2, l2, k2, he, hr, hb⟩ := h
  obtain ⟨_, rfl, rfl⟩ := hr.read
  exact ⟨a1, k1, a2, k2, he, hr, hb⟩
theorem EfAt.still {w w' : World} {base : Nat} {v1 v2 : Value} {x : Ef} (h : EfAt w base v1 v2 x) (hb : Go.RowKit.Below w.heap.size w w') : EfAt w' base v1 v2 x :=
  ⟨ownsRow_same h.1 (fun g hg => hb.block g (World.ownsRow.lt h.1 g hg).2), ownsRow_same h.2 (fun g hg => hb.block g (World.ownsRow.lt h.2 g hg).2)⟩
theorem runX_small (p : Nums) (L : List K) (A : List Int) (R : List C) : (runX p L A R).out.length ≤ 1000000 ∧ (runX p L A R).puts.length ≤ 1000000 := by
  by_cases h : newE p L A R = 0
  · have hm := ends_math h
    exact ⟨Nat.le_trans hm.2.2.1 (by omega), Nat.le_trans hm.2.2.2.1 (by omega)⟩
  · have : runX p L A R = zeroEf := if_pos h
    rw [this]; exact ⟨by decide, by decide⟩
/-- a row's block lies below another's -/
theorem off_later {W : World} {base base' e1 e2 s1 s2 n1 n2 c1 c2 e3 s3 n3 c3 : Nat} {a1 a2 b : Option Addr} {xs ys zs : List Value} (h1 : W.ownsRow base e1 s1 (.slice a1 n1 c1) n1 xs) (h2 : W.ownsRow base e2 s2 (.slice a2 n2 c2) n2 ys) {V : World} (hV : V.ownsRow base' e3 s3 (.slice b n3 c3) n3 zs) (hW : W.heap.size ≤ base') : Off (.slice a1 n1 c1) (.slice a2 n2 c2) b := by
  intro ad e
  subst e
  have q := (World.ownsRow.lt hV ad.block rfl).1
  exact ⟨fun e1 => by have := (World.ownsRow.lt h1 _ e1).2; omega, fun e1 => by have := (World.ownsRow.lt h2 _ e1).2; omega⟩
section
variable {w w1 : World} {p : Nums} {ao : Option Addr} {n cap : Nat} {L : List K} {aa : Option Addr} {na ca : Nat} {A : List Int} {ra : Option Addr} {nr cr : Nat} {R : List C} {base g4 k4 g5 k5 g6 k6 : Nat}
theorem sl_fst {e size g m k : Nat} {xs ys : List Value} (h : SL w base e size g m k (xs ++ ys)) : CellsAt w (some ⟨g, 0, none⟩) xs := .inr ⟨g, 0, rfl, fun j u hu => by rw [Nat.zero_add]; exact sl_cells h j u (at_left hu)⟩
theorem d_call (hc : CallIn w p ao n cap L aa na ca A ra nr cr R) (s4 : SL w1 base 66 2 g4 n k4 (cks L ++ mk4)) (s5 : SL w1 base 2 1 g5 na k5 (A.map iv ++ mk5)) (s6 : SL w1 base 64 2 g6 nr k6 (ccs R ++ mk6)) : CallIn w1 p (some ⟨g4, 0, none⟩) n k4 L (some ⟨g5, 0, none⟩) na k5 A (some ⟨g6, 0, none⟩) nr k6 R :=
  ⟨hc.nin, .inr ⟨g4, 0, rfl, fun j u hu => by rw [Nat.zero_add]; exact sl_cells s4 j u (at_left hu)⟩, hc.ln, (fun e => by cases e), ⟨sl_fst s5, fun e => by cases e⟩, hc.la, ⟨sl_fst s6, fun e => by cases e⟩, hc.lr⟩
theorem d_ki (hc : CallIn w1 p ao n cap L aa na ca A ra nr cr R) (s4 : SL w1 base 66 2 g4 n k4 (cks L ++ mk4)) (s5 : SL w1 base 2 1 g5 na k5 (A.map iv ++ mk5)) (s6 : SL w1 base 64 2 g6 nr k6 (ccs R ++ mk6)) : KI w1 n na nr L A R ao aa ra g4 g5 g6 :=
  ⟨hc.ln.symm, hc.la.symm, hc.lr.symm, hc.keys.cells, hc.args.at_, hc.reads.at_, sl_cells s4, sl_cells s5, sl_cells s6⟩
end
set_option maxRecDepth 100000 in
set_option maxHeartbeats 8000000 in
theorem runs_walk (w : World) (p : Nums) (ao : Option Addr) (n cap : Nat) (L : List K) (aa : Option Addr) (na ca : Nat) (A : List Int) (ra : Option Addr) (nr cr : Nat) (R : List C) (hin : CallIn w p ao n cap L aa na ca A ra nr cr R) (hi : Ins L A R) (l1 : n ≤ 140737488355328) (l2 : na ≤ 140737488355328) (l3 : nr ≤ 140737488355328)
    (hgv : ∀ W, CallIn W p ao n cap L aa na ca A ra nr cr R → Calls Try.prog 9 #[.agg (cP p (.slice ao n cap) (.slice aa na ca) (.slice ra nr cr))] W fun e w' => GivenPost W p n na nr L A R e w') :
    Calls Try.prog 3 #[callV p ao n cap aa na ca ra nr cr] w fun e w' => e = .returned (.bool true) ∧ Go.RowKit.Below w.heap.size w w' := by
  have HIn : Hid (CallIn w p ao n cap L aa na ca A ra nr cr R) := hin
  have HIns : Hid (Ins L A R) := hi
  have HB0 : Hid (Go.RowKit.Below w.heap.size w (w.alloc (cQ p (.slice ao n cap) (.slice aa na ca) (.slice ra nr cr)))) := (Below.refl _ _).alloc (Nat.le_refl _) _
  have HC0 : Hid (CB (w.alloc (cQ p (.slice ao n cap) (.slice aa na ca) (.slice ra nr cr))) w.heap.size p (.slice ao n cap) (.slice aa na ca) (.slice ra nr cr)) := heap_alloc_new _ _ rfl
  have HGv := hgv (w.alloc (cQ p (.slice ao n cap) (.slice aa na ca) (.slice ra nr cr))) (hin.kept HB0.out)
  clear hin hi hgv
  go_enter Try.func3, Try.ntmps3
  go_wp2_with fail
  refine HGv.mono ?_
  rintro e w1 ⟨g4, k4, g5, k5, g6, k6, rfl, s4, s5, s6, hb1⟩
  have hbA : Go.RowKit.Below w1.heap.size w1 (w1.alloc (cQ p (.slice (some ⟨g4, 0, none⟩) n k4) (.slice (some ⟨g5, 0, none⟩) na k5) (.slice (some ⟨g6, 0, none⟩) nr k6))) := (Below.refl _ _).alloc (Nat.le_refl _) _
  have hbw : Go.RowKit.Below w.heap.size w w1 := HB0.out.trans (hb1.mono HB0.out.size)
  have HB2 : Hid (Go.RowKit.Below w.heap.size w (w1.alloc (cQ p (.slice (some ⟨g4, 0, none⟩) n k4) (.slice (some ⟨g5, 0, none⟩) na k5) (.slice (some ⟨g6, 0, none⟩) nr k6)))) := hbw.trans (hbA.mono hbw.size)
  have HCc : Hid (CB (w1.alloc (cQ p (.slice (some ⟨g4, 0, none⟩) n k4) (.slice (some ⟨g5, 0, none⟩) na k5) (.slice (some ⟨g6, 0, none⟩) nr k6))) w.heap.size p (.slice ao n cap) (.slice aa na ca) (.slice ra nr cr)) := (HC0.out.below hb1 HC0.out.lt).below hbA (HC0.out.below hb1 HC0.out.lt).lt
  have HCd : Hid (CB (w1.alloc (cQ p (.slice (some ⟨g4, 0, none⟩) n k4) (.slice (some ⟨g5, 0, none⟩) na k5) (.slice (some ⟨g6, 0, none⟩) nr k6))) w1.heap.size p (.slice (some ⟨g4, 0, none⟩) n k4) (.slice (some ⟨g5, 0, none⟩) na k5) (.slice (some ⟨g6, 0, none⟩) nr k6)) := heap_alloc_new _ _ rfl
  have HIc : Hid (CallIn (w1.alloc (cQ p (.slice (some ⟨g4, 0, none⟩) n k4) (.slice (some ⟨g5, 0, none⟩) na k5) (.slice (some ⟨g6, 0, none⟩) nr k6))) p ao n cap L aa na ca A ra nr cr R) := HIn.out.kept HB2.out
  have HId : Hid (CallIn (w1.alloc (cQ p (.slice (some ⟨g4, 0, none⟩) n k4) (.slice (some ⟨g5, 0, none⟩) na k5) (.slice (some ⟨g6, 0, none⟩) nr k6))) p (some ⟨g4, 0, none⟩) n k4 L (some ⟨g5, 0, none⟩) na k5 A (some ⟨g6, 0, none⟩) nr k6 R) := d_call HIn.out (s4.grow hbA) (s5.grow hbA) (s6.grow hbA)
  have HKi : Hid (KI (w1.alloc (cQ p (.slice (some ⟨g4, 0, none⟩) n k4) (.slice (some ⟨g5, 0, none⟩) na k5) (.slice (some ⟨g6, 0, none⟩) nr k6))) n na nr L A R ao aa ra g4 g5 g6) := d_ki HIc.out (s4.grow hbA) (s5.grow hbA) (s6.grow hbA)
  have HKk : Hid (n + 1 ≤ k4 ∧ na + 1 ≤ k5 ∧ nr + 1 ≤ k6) := ⟨s4.1, s5.1, s6.1⟩
  have HLm : Hid (n ≤ 140737488355328 ∧ na ≤ 140737488355328 ∧ nr ≤ 140737488355328) := ⟨l1, l2, l3⟩
  clear hb1 hbA hbw HB0 HC0 HGv HIn s4 s5 s6 l1 l2 l3
  go_upto_region 2 with fail
  generalize w1.alloc (cQ p (.slice (some ⟨g4, 0, none⟩) n k4) (.slice (some ⟨g5, 0, none⟩) na k5) (.slice (some ⟨g6, 0, none⟩) nr k6)) = W2 at *
  generalize w1.heap.size = bd at *
  have HRa := run_any W2 p (some ⟨g4, 0, none⟩) n k4 L (some ⟨g5, 0, none⟩) na k5 A (some ⟨g6, 0, none⟩) nr k6 R HId.out
  obtain ⟨x0, x1, x2, x3, x4, x5, x6⟩ := HCd.out.cells
  go_wp2_with fail
  refine HRa.mono ?_
  intro e w3 hpost
  obtain ⟨a1, ak1, a2, ak2, rfl, he3, hb3⟩ := post_own hpost
  obtain ⟨x, hx⟩ : ∃ x, x = runX p L A R := ⟨_, rfl⟩
  obtain ⟨ne, hne⟩ : ∃ ne, ne = newE p L A R := ⟨_, rfl⟩
  rw [← hx] at he3 ⊢
  rw [← hne]
  have HXe : Hid (x = runX p L A R) := hx
  have HNe : Hid (ne = newE p L A R) := hne
  have HSz : Hid (x.out.length ≤ 1000000 ∧ x.puts.length ≤ 1000000) := by rw [hx]; exact runX_small p L A R
  have hbA : Go.RowKit.Below w3.heap.size w3 (w3.alloc (eQ x.commit x.code x.user a1 x.out.length ak1 a2 x.puts.length ak2 (x.steps : Int))) := (Below.refl _ _).alloc (Nat.le_refl _) _
  have HBa : Hid (Go.RowKit.Below W2.heap.size W2 (w3.alloc (eQ x.commit x.code x.user a1 x.out.length ak1 a2 x.puts.length ak2 (x.steps : Int)))) := hb3.trans (hbA.mono hb3.size)
  have HEa : Hid (EfAt (w3.alloc (eQ x.commit x.code x.user a1 x.out.length ak1 a2 x.puts.length ak2 (x.steps : Int))) W2.heap.size (.slice a1 x.out.length ak1) (.slice a2 x.puts.length ak2) x) := he3.still hbA
  have HTa : Hid (RE (w3.alloc (eQ x.commit x.code x.user a1 x.out.length ak1 a2 x.puts.length ak2 (x.steps : Int))) w3.heap.size (.bool x.commit) (.int .i64 x.code) (.int .i64 x.user) (.slice a1 x.out.length ak1) (.slice a2 x.puts.length ak2) (.int .i64 (x.steps : Int))) := RE.new _ _ _ _ _ _ _
  clear hbA hb3 he3 hpost hx hne x0 x1 x2 x3 x4 x5 x6 HRa
  go_upto_region 3 with fail
  generalize w3.alloc (eQ x.commit x.code x.user a1 x.out.length ak1 a2 x.puts.length ak2 (x.steps : Int)) = W3 at *
  generalize w3.heap.size = ba at *
  have HRb := run_any W3 p (some ⟨g4, 0, none⟩) n k4 L (some ⟨g5, 0, none⟩) na k5 A (some ⟨g6, 0, none⟩) nr k6 R (HId.out.kept HBa.out)
  obtain ⟨x0, x1, x2, x3, x4, x5, x6⟩ := (HCd.out.below HBa.out HCd.out.lt).cells
  go_wp2_with fail
  refine HRb.mono ?_
  intro e w4 hpost
  obtain ⟨b1, bk1, b2, bk2, rfl, he4, hb4⟩ := post_own hpost
  rw [← HXe.out] at he4 ⊢
  rw [← HNe.out]
  have hbA : Go.RowKit.Below w4.heap.size w4 (w4.alloc (eQ x.commit x.code x.user b1 x.out.length bk1 b2 x.puts.length bk2 (x.steps : Int))) := (Below.refl _ _).alloc (Nat.le_refl _) _
  have HBb : Hid (Go.RowKit.Below W3.heap.size W3 (w4.alloc (eQ x.commit x.code x.user b1 x.out.length bk1 b2 x.puts.length bk2 (x.steps : Int)))) := hb4.trans (hbA.mono hb4.size)
  have HEb : Hid (EfAt (w4.alloc (eQ x.commit x.code x.user b1 x.out.length bk1 b2 x.puts.length bk2 (x.steps : Int))) W3.heap.size (.slice b1 x.out.length bk1) (.slice b2 x.puts.length bk2) x) := he4.still hbA
  have HTb : Hid (RE (w4.alloc (eQ x.commit x.code x.user b1 x.out.length bk1 b2 x.puts.length bk2 (x.steps : Int))) w4.heap.size (.bool x.commit) (.int .i64 x.code) (.int .i64 x.user) (.slice b1 x.out.length bk1) (.slice b2 x.puts.length bk2) (.int .i64 (x.steps : Int))) := RE.new _ _ _ _ _ _ _
  clear hbA hb4 he4 hpost x0 x1 x2 x3 x4 x5 x6 HRb
  go_upto_region 4 with fail
  generalize w4.alloc (eQ x.commit x.code x.user b1 x.out.length bk1 b2 x.puts.length bk2 (x.steps : Int)) = W4 at *
  generalize w4.heap.size = bb at *
  have HB4 : Hid (Go.RowKit.Below W2.heap.size W2 W4) := HBa.out.trans (HBb.out.mono HBa.out.size)
  have HRc := rrun_any W4 p ao n cap L aa na ca A ra nr cr R (HIc.out.kept HB4.out) HIns.out
  obtain ⟨x0, x1, x2, x3, x4, x5, x6⟩ := (HCc.out.below HB4.out HCc.out.lt).cells
  go_wp2_with fail
  refine HRc.mono ?_
  intro e w5 hpost
  obtain ⟨c1, ck1, c2, ck2, rfl, he5, hb5⟩ := post_own hpost
  rw [← HXe.out] at he5 ⊢
  rw [← HNe.out]
  have hbA : Go.RowKit.Below w5.heap.size w5 (w5.alloc (eQ x.commit x.code x.user c1 x.out.length ck1 c2 x.puts.length ck2 (x.steps : Int))) := (Below.refl _ _).alloc (Nat.le_refl _) _
  have HBc : Hid (Go.RowKit.Below W4.heap.size W4 (w5.alloc (eQ x.commit x.code x.user c1 x.out.length ck1 c2 x.puts.length ck2 (x.steps : Int)))) := hb5.trans (hbA.mono hb5.size)
  have HEc : Hid (EfAt (w5.alloc (eQ x.commit x.code x.user c1 x.out.length ck1 c2 x.puts.length ck2 (x.steps : Int))) W4.heap.size (.slice c1 x.out.length ck1) (.slice c2 x.puts.length ck2) x) := he5.still hbA
  have HTc : Hid (RE (w5.alloc (eQ x.commit x.code x.user c1 x.out.length ck1 c2 x.puts.length ck2 (x.steps : Int))) w5.heap.size (.bool x.commit) (.int .i64 x.code) (.int .i64 x.user) (.slice c1 x.out.length ck1) (.slice c2 x.puts.length ck2) (.int .i64 (x.steps : Int))) := RE.new _ _ _ _ _ _ _
  clear hbA hb5 he5 hpost x0 x1 x2 x3 x4 x5 x6 HRc
  go_upto_region 5 with fail
  generalize w5.alloc (eQ x.commit x.code x.user c1 x.out.length ck1 c2 x.puts.length ck2 (x.steps : Int)) = W5 at *
  generalize w5.heap.size = bc at *
  have HB5 : Hid (Go.RowKit.Below W2.heap.size W2 W5) := HB4.out.trans (HBc.out.mono HB4.out.size)
  have HB35 : Hid (Go.RowKit.Below W3.heap.size W3 W5) := HBb.out.trans (HBc.out.mono HBb.out.size)
  have HEa5 : Hid (EfAt W5 W2.heap.size (.slice a1 x.out.length ak1) (.slice a2 x.puts.length ak2) x) := HEa.out.still HB35.out
  have HEb5 : Hid (EfAt W5 W3.heap.size (.slice b1 x.out.length bk1) (.slice b2 x.puts.length bk2) x) := HEb.out.still HBc.out
  have HTa5 : Hid (RE W5 ba (.bool x.commit) (.int .i64 x.code) (.int .i64 x.user) (.slice a1 x.out.length ak1) (.slice a2 x.puts.length ak2) (.int .i64 (x.steps : Int))) := HTa.out.below HB35.out HTa.out.lt
  have HTb5 : Hid (RE W5 bb (.bool x.commit) (.int .i64 x.code) (.int .i64 x.user) (.slice b1 x.out.length bk1) (.slice b2 x.puts.length bk2) (.int .i64 (x.steps : Int))) := HTb.out.below HBc.out HTb.out.lt
  have HOff : Hid (Off (.slice a1 x.out.length ak1) (.slice a2 x.puts.length ak2) b1 ∧ Off (.slice a1 x.out.length ak1) (.slice a2 x.puts.length ak2) b2 ∧ Off (.slice a1 x.out.length ak1) (.slice a2 x.puts.length ak2) c1 ∧ Off (.slice a1 x.out.length ak1) (.slice a2 x.puts.length ak2) c2) := ⟨off_later HEa.out.1 HEa.out.2 HEb.out.1 (Nat.le_refl _), off_later HEa.out.1 HEa.out.2 HEb.out.2 (Nat.le_refl _), off_later HEa.out.1 HEa.out.2 HEc.out.1 HBb.out.size, off_later HEa.out.1 HEa.out.2 HEc.out.2 HBb.out.size⟩
  clear HEa HEb HTa HTb HB4 HB35 HBa HBb HBc HIc HId HIns HXe HNe
  -- a against the document's
  obtain ⟨r0, r1, r2, r3, r4, r5⟩ := HTa5.out.cells
  obtain ⟨t0, t1, t2, t3, t4, t5⟩ := HTc.out.cells
  have HSe := sameEffect_eq W5 x a1 a2 c1 c2 ak1 ak2 ck1 ck2 HEa5.out.read.1 HEc.out.read.1 HSz.out.1 HSz.out.2
  go_wp2_with fail
  refine HSe.mono ?_
  rintro e w6 ⟨rfl, hb6⟩
  have HB6 : Hid (Go.RowKit.Below W5.heap.size W5 w6) := hb6
  clear r0 r1 r2 r3 r4 r5 t0 t1 t2 t3 t4 t5 HSe hb6
  obtain ⟨r0, r1, r2, r3, r4, r5⟩ := (HTb5.out.below HB6.out HTb5.out.lt).cells
  obtain ⟨t0, t1, t2, t3, t4, t5⟩ := (HTc.out.below HB6.out HTc.out.lt).cells
  have HSe := sameEffect_eq w6 x b1 b2 c1 c2 bk1 bk2 ck1 ck2 (HEb5.out.still HB6.out).read.1 (HEc.out.still HB6.out).read.1 HSz.out.1 HSz.out.2
  go_wp2_with fail
  refine HSe.mono ?_
  rintro e w7 ⟨rfl, hb7⟩
  have HB7 : Hid (Go.RowKit.Below W5.heap.size W5 w7) := HB6.out.trans (hb7.mono HB6.out.size)
  clear r0 r1 r2 r3 r4 r5 t0 t1 t2 t3 t4 t5 HSe hb7 HB6
  have HB27 : Hid (Go.RowKit.Below W2.heap.size W2 w7) := HB5.out.trans (HB7.out.mono HB5.out.size)
  have HKp := kept_any w7 p n na nr L A R ao aa ra g4 g5 g6 k4 k5 k6 cap ca cr (HKi.out.below HB27.out) HKk.out.1 HKk.out.2.1 HKk.out.2.2 HLm.out.1 HLm.out.2.1 HLm.out.2.2
  obtain ⟨x0, x1, x2, x3, x4, x5, x6⟩ := (HCd.out.below HB27.out HCd.out.lt).cells
  obtain ⟨y0, y1, y2, y3, y4, y5, y6⟩ := (HCc.out.below HB27.out HCc.out.lt).cells
  go_wp2_with fail
  refine HKp.mono ?_
  rintro e w8 ⟨rfl, hb8⟩
  have HB8 : Hid (Go.RowKit.Below W5.heap.size W5 w8) := HB7.out.trans (hb8.mono HB7.out.size)
  clear x0 x1 x2 x3 x4 x5 x6 y0 y1 y2 y3 y4 y5 y6 HKp hb8 HB7 HB27
  have HEa8 : Hid (EfAt w8 W2.heap.size (.slice a1 x.out.length ak1) (.slice a2 x.puts.length ak2) x) := HEa5.out.still HB8.out
  have HAp := apart_g w8 x.commit x.code x.user (x.steps : Int) x.out.length x.puts.length x.out x.puts rfl rfl a1 a2 b1 b2 c1 c2 ak1 ak2 bk1 bk2 ck1 ck2 (ownsRow_mono HEa8.out.1 (Nat.zero_le _)) (ownsRow_mono HEa8.out.2 (Nat.zero_le _)) (HEb5.out.still HB8.out).read.1.1 (HEb5.out.still HB8.out).read.1.2 (HEc.out.still HB8.out).read.1.1 (HEc.out.still HB8.out).read.1.2 HOff.out.1 HOff.out.2.1 HOff.out.2.2.1 HOff.out.2.2.2 HSz.out.1 HSz.out.2
  obtain ⟨r0, r1, r2, r3, r4, r5⟩ := (HTa5.out.below HB8.out HTa5.out.lt).cells
  obtain ⟨s0, s1, s2, s3, s4, s5⟩ := (HTb5.out.below HB8.out HTb5.out.lt).cells
  obtain ⟨t0, t1, t2, t3, t4, t5⟩ := (HTc.out.below HB8.out HTc.out.lt).cells
  go_wp2_with fail
  refine HAp.mono ?_
  rintro e w9 ⟨rfl, hf9⟩
  have HB28 : Hid (Go.RowKit.Below W2.heap.size W2 w8) := HB5.out.trans (HB8.out.mono HB5.out.size)
  have HB9 : Hid (Go.RowKit.Below W2.heap.size W2 w9) := hf9.bel HB28.out (fun g hg => (World.ownsRow.lt HEa8.out.1 g hg).1) (fun g hg => (World.ownsRow.lt HEa8.out.2 g hg).1) HB28.out.size
  clear r0 r1 r2 r3 r4 r5 s0 s1 s2 s3 s4 s5 t0 t1 t2 t3 t4 t5 hf9 HAp
  have HKp := kept_any w9 p n na nr L A R ao aa ra g4 g5 g6 k4 k5 k6 cap ca cr (HKi.out.below HB9.out) HKk.out.1 HKk.out.2.1 HKk.out.2.2 HLm.out.1 HLm.out.2.1 HLm.out.2.2
  obtain ⟨x0, x1, x2, x3, x4, x5, x6⟩ := (HCd.out.below HB9.out HCd.out.lt).cells
  obtain ⟨y0, y1, y2, y3, y4, y5, y6⟩ := (HCc.out.below HB9.out HCc.out.lt).cells
  go_wp2_with fail
  refine HKp.mono ?_
  rintro e w10 ⟨rfl, hb10⟩
  have HB10 : Hid (Go.RowKit.Below w.heap.size w w10) := HB2.out.trans ((HB9.out.trans (hb10.mono HB9.out.size)).mono HB2.out.size)
  clear x0 x1 x2 x3 x4 x5 x6 y0 y1 y2 y3 y4 y5 y6 HKp hb10
  go_wp2_with fail
  go_ret
  exact ⟨rfl, HB10.out⟩
end Go.Proofs.Ytbpgafchagpmoaa
