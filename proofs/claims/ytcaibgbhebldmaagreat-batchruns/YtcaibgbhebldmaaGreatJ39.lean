import Derived.Test.YtcaibgbhebldmaaGreatJ33
import Derived.Test.YtcaibgbhebldmaaGreatJ37
import Derived.Deep.RegionHeld
/-
  THE WALK OF Effect.
-/
namespace Go.Proofs.YtcaibgbhebldmaaGreat
open Go.RowKit Go.Sort

/-- AN EFFECT -/
structure Ef where
  commit : Bool
  code : Int
  user : Int
  out : List Int
  puts : List K
  steps : Nat
def zeroEf : Ef := ⟨false, 0, 0, [], [], 0⟩
def effN (n : Nat) (m : M) : Ef := if doneB n m = true then ⟨m.fault == 0, m.fault, m.user, m.ou, m.pu, m.steps⟩ else zeroEf
abbrev efV (x : Ef) (v1 v2 : Value) : Value := .agg #[.bool x.commit, .int .i64 x.code, .int .i64 x.user, v1, v2, .int .i64 (x.steps : Int)]
/-- an effect in memory of the call's own -/
def EfAt (w : World) (base : Nat) (v1 v2 : Value) (x : Ef) : Prop := Own64 w base v1 x.out ∧ OwnP w base v2 x.puts
/-- block b is an effect's box -/
def RE (W : World) (b : Nat) (c0 c1 c2 c3 c4 c5 : Value) : Prop := W.heap[b]? = some (.cells #[c0, c1, c2, c3, c4, c5] 56 (0, 0))
abbrev e6 (W : World) (b : Nat) (c0 c1 c2 c3 c4 c5 : Value) : World := (((((W.setCell ⟨b, 0, none⟩ c0).setCell ⟨b, 1, none⟩ c1).setCell ⟨b, 2, none⟩ c2).setCell ⟨b, 3, none⟩ c3).setCell ⟨b, 4, none⟩ c4).setCell ⟨b, 5, none⟩ c5
theorem RE.six {W : World} {b : Nat} {d0 d1 d2 d3 d4 d5 : Value} (h : RE W b d0 d1 d2 d3 d4 d5) (c0 c1 c2 c3 c4 c5 : Value) : RE (e6 W b c0 c1 c2 c3 c4 c5) b c0 c1 c2 c3 c4 c5 := by
  have h0 := heap_setCell_same W b 0 _ _ c0 h
  have h1 := heap_setCell_same _ b 1 _ _ c1 h0
  have h2 := heap_setCell_same _ b 2 _ _ c2 h1
  have h3 := heap_setCell_same _ b 3 _ _ c3 h2
  have h4 := heap_setCell_same _ b 4 _ _ c4 h3
  have h5 := heap_setCell_same _ b 5 _ _ c5 h4
  exact h5
theorem RE.cells {W : World} {b : Nat} {c0 c1 c2 c3 c4 c5 : Value} (h : RE W b c0 c1 c2 c3 c4 c5) :
    W.cell? ⟨b, 0, none⟩ = some c0 ∧ W.cell? ⟨b, 1, none⟩ = some c1 ∧ W.cell? ⟨b, 2, none⟩ = some c2 ∧ W.cell? ⟨b, 3, none⟩ = some c3 ∧ W.cell? ⟨b, 4, none⟩ = some c4 ∧ W.cell? ⟨b, 5, none⟩ = some c5 := by
  refine ⟨?_, ?_, ?_, ?_, ?_, ?_⟩ <;> simp [World.cell?, show W.heap[b]? = _ from h]
theorem RE.frozen {W : World} {b : Nat} {c0 c1 c2 c3 c4 c5 : Value} (h : RE W b c0 c1 c2 c3 c4 c5) (i : Nat) : W.frozen? ⟨b, i, none⟩ = false := frozen_of_row W b i _ _ h
theorem RE.new (w : World) (c0 c1 c2 c3 c4 c5 : Value) : RE (w.alloc (.cells #[c0, c1, c2, c3, c4, c5] 56)) w.heap.size c0 c1 c2 c3 c4 c5 := heap_alloc_new _ _ rfl
theorem RE.below {W W' : World} {b C : Nat} {c0 c1 c2 c3 c4 c5 : Value} (h : RE W b c0 c1 c2 c3 c4 c5) (hb : Go.RowKit.Below C W W') (hc : b < C) : RE W' b c0 c1 c2 c3 c4 c5 := (hb.block b hc).trans h
theorem RE.lt {W : World} {b : Nat} {c0 c1 c2 c3 c4 c5 : Value} (h : RE W b c0 c1 c2 c3 c4 c5) : b < W.heap.size := (Array.getElem?_eq_some_iff.1 h).1
theorem below_e6 {W0 W : World} {C b : Nat} (h : Go.RowKit.Below C W0 W) (hb : C ≤ b) (c0 c1 c2 c3 c4 c5 : Value) : Go.RowKit.Below C W0 (e6 W b c0 c1 c2 c3 c4 c5) :=
  (((((h.trans (below_setCell _ _ hb)).trans (below_setCell _ _ hb)).trans (below_setCell _ _ hb)).trans (below_setCell _ _ hb)).trans (below_setCell _ _ hb)).trans (below_setCell _ _ hb)
theorem heap_e6 (W : World) {b k : Nat} (h : k ≠ b) (c0 c1 c2 c3 c4 c5 : Value) : (e6 W b c0 c1 c2 c3 c4 c5).heap[k]? = W.heap[k]? := by
  unfold e6
  rw [heap_setCell_other _ _ k _ (by exact h), heap_setCell_other _ _ k _ (by exact h), heap_setCell_other _ _ k _ (by exact h), heap_setCell_other _ _ k _ (by exact h), heap_setCell_other _ _ k _ (by exact h), heap_setCell_other _ _ k _ (by exact h)]
theorem load_eff (W : World) (b : Nat) (c0 c1 c2 c3 c4 c5 : Value) (h : RE W b c0 c1 c2 c3 c4 c5) : (loadVar 56 ⟨b, 0, none⟩).run Tryz.prog W = .ok (.agg #[c0, c1, c2, c3, c4, c5]) W := by
  obtain ⟨q0, q1, q2, q3, q4, q5⟩ := h.cells
  simp [go_sem, q0, q1, q2, q3, q4, q5]

theorem done_q (w : World) (B : Nat) (O : Nat → Nat) (h : MH) (L : List K) (A : List Int) (R : List C) (m : M) (hm : MS w 0 B O h L A R m) :
    Calls Tryz.prog 61 #[pm B] w fun e w' => e = .returned (.bool (doneB L.length m)) ∧ Grew w w' := by
  have c0 : w.cell? ⟨B, 0, none⟩ = some h.cv := hm.cell 0
  have c3 : w.cell? ⟨B, 3, none⟩ = some (.int .i64 (m.at_ : Int)) := hm.cell 3
  have c9 : w.cell? ⟨B, 9, none⟩ = some (.bool m.ended) := hm.cell 9
  obtain ⟨ao, cap, hv, _⟩ := own_slice hm.code
  rw [hv] at c0
  have HB : Hid (∀ q, Grew w (w.drewN q)) := fun q => (Grew.refl w).drewN q
  have HD : Hid (doneB L.length m = (m.ended || decide ((m.at_ : Int) = (L.length : Int)))) := by
    show doneB L.length m = _
    unfold doneB; congr 1; simp only [decide_eq_decide]; omega
  rw [HD.out]
  generalize L.length = n at *
  clear hm hv HD
  cases he : m.ended with
  | true =>
    rw [he] at c9
    go_enter Tryz.func61, Tryz.ntmps61
    go_wp2_with fail
    go_quiet (fail)
    go_wp2
    go_ret
    exact ⟨rfl, HB.out _⟩
  | false =>
    rw [he] at c9
    go_enter Tryz.func61, Tryz.ntmps61
    go_wp2_with fail
    go_quiet (fail)
    go_wp2
    go_ret
    exact ⟨rfl, HB.out _⟩
theorem own_ne {W : World} {base e size n b : Nat} {v : Value} {xs : List Value} {c0 c1 c2 c3 c4 c5 : Value} (h : W.ownsRow base e size v n xs) (hr : RE W b c0 c1 c2 c3 c4 c5) (he : e ≠ 56) {g : Nat} (hg : v.ownBlock = some g) : g ≠ b := by
  intro e1
  subst e1
  obtain ⟨_, ⟨rfl, _⟩ | ⟨g', cap, cur, rfl, _, hh, _⟩⟩ := h
  · cases hg
  · cases hg
    have := hh.symm.trans hr
    simp only [Option.some.injEq, Obj.cells.injEq] at this
    exact he this.2.1
/-- the state inside Effect -/
structure ES (w W : World) (B : Nat) (O : Nat → Nat) (h : MH) (L : List K) (A : List Int) (R : List C) (m : M) : Prop where
  bel : Go.RowKit.Below w.heap.size w W
  re : RE W w.heap.size (.bool false) (.int .i64 0) (.int .i64 0) (.slice none 0 0) (.slice none 0 0) (.int .i64 0)
  ms : MS W 0 B O h L A R m
section
variable {w W W' : World} {B : Nat} {O : Nat → Nat} {h : MH} {L : List K} {A : List Int} {R : List C} {m : M}
theorem ES.next (x : ES w W B O h L A R m) (hb : Go.RowKit.Below W.heap.size W W') : ES w W' B O h L A R m := ⟨x.bel.trans (hb.mono x.bel.size), x.re.below hb x.re.lt, x.ms.kept hb⟩
theorem ES.drew (x : ES w W B O h L A R m) : ES w W.drew B O h L A R m := x.next ((Grew.refl W).drewN 1).below
theorem ES.cells (x : ES w W B O h L A R m) {v6 v7 : Value} (h6 : h.ov = v6) (h7 : h.pv = v7) : W.cell? ⟨B, 6, none⟩ = some v6 ∧ W.cell? ⟨B, 7, none⟩ = some v7 ∧ W.cell? ⟨B, 8, none⟩ = some (.int .i64 (m.steps : Int)) ∧ W.cell? ⟨B, 10, none⟩ = some (.int .i64 m.fault) ∧ W.cell? ⟨B, 11, none⟩ = some (.int .i64 m.user) := by
  subst h6 h7
  exact ⟨x.ms.cell 6, x.ms.cell 7, x.ms.cell 8, x.ms.cell 10, x.ms.cell 11⟩
/-- the machine's cells behind the store -/
theorem ES.after (x : ES w W B O h L A R m) (hB : B < w.heap.size) {v6 v7 : Value} (h6 : h.ov = v6) (h7 : h.pv = v7) (c0 c1 c2 c3 c4 c5 : Value) : (e6 W w.heap.size c0 c1 c2 c3 c4 c5).cell? ⟨B, 6, none⟩ = some v6 ∧ (e6 W w.heap.size c0 c1 c2 c3 c4 c5).cell? ⟨B, 7, none⟩ = some v7 ∧ (e6 W w.heap.size c0 c1 c2 c3 c4 c5).cell? ⟨B, 8, none⟩ = some (.int .i64 (m.steps : Int)) ∧ (e6 W w.heap.size c0 c1 c2 c3 c4 c5).cell? ⟨B, 10, none⟩ = some (.int .i64 m.fault) ∧ (e6 W w.heap.size c0 c1 c2 c3 c4 c5).cell? ⟨B, 11, none⟩ = some (.int .i64 m.user) := by
  obtain ⟨t6, t7, t8, t10, t11⟩ := x.cells h6 h7
  have e : (e6 W w.heap.size c0 c1 c2 c3 c4 c5).heap[B]? = W.heap[B]? := heap_e6 W (by omega) _ _ _ _ _ _
  simp only [World.cell?] at *
  rw [e]
  exact ⟨t6, t7, t8, t10, t11⟩
end
def EffPost (w : World) (x : Ef) (e : Ending) (w' : World) : Prop := ∃ a1 l1 k1 a2 l2 k2, e = .returned (efV x (.slice a1 l1 k1) (.slice a2 l2 k2)) ∧ EfAt w' w.heap.size (.slice a1 l1 k1) (.slice a2 l2 k2) x
set_option maxRecDepth 100000 in
set_option maxHeartbeats 1000000 in
theorem effect_ms (w : World) (B : Nat) (O : Nat → Nat) (h : MH) (L : List K) (A : List Int) (R : List C) (m : M) (hm : MS w 0 B O h L A R m) (hp : m.pu.length ≤ 1000) (ho : m.ou.length ≤ 1000) :
    Calls Tryz.prog 39 #[pm B] w fun e w' => EffPost w (effN L.length m) e w' ∧ Go.RowKit.Below w.heap.size w w' := by
  have hb0 : Go.RowKit.Below w.heap.size w (w.alloc (.cells #[.bool false, .int .i64 0, .int .i64 0, .slice none 0 0, .slice none 0 0, .int .i64 0] 56)) := (Below.refl _ _).alloc (Nat.le_refl _) _
  have HR0 : Hid (RE (w.alloc (.cells #[.bool false, .int .i64 0, .int .i64 0, .slice none 0 0, .slice none 0 0, .int .i64 0] 56)) w.heap.size (.bool false) (.int .i64 0) (.int .i64 0) (.slice none 0 0) (.slice none 0 0) (.int .i64 0)) := RE.new w _ _ _ _ _ _
  have HD := done_q _ B O h L A R m (hm.kept hb0)
  have HM : Hid (MS w 0 B O h L A R m) := hm
  have HB0 : Hid (Go.RowKit.Below w.heap.size w (w.alloc (.cells #[.bool false, .int .i64 0, .int .i64 0, .slice none 0 0, .slice none 0 0, .int .i64 0] 56))) := hb0
  have HL : Hid (m.pu.length ≤ 1000 ∧ m.ou.length ≤ 1000) := ⟨hp, ho⟩
  clear hm hb0 hp ho
  go_enter Tryz.func39, Tryz.ntmps39
  go_wp2_with fail
  refine HD.mono ?_
  rintro e w2 ⟨rfl, hg2⟩
  have HB2 : Hid (Go.RowKit.Below w.heap.size w w2) := HB0.out.trans (hg2.below.mono HB0.out.size)
  have HR2 : Hid (RE w2 w.heap.size (.bool false) (.int .i64 0) (.int .i64 0) (.slice none 0 0) (.slice none 0 0) (.int .i64 0)) := HR0.out.below hg2.below HR0.out.lt
  have HM2 : Hid (MS w2 0 B O h L A R m) := HM.out.kept HB2.out
  clear hg2 HD HR0 HB0
  cases hd : doneB L.length m with
  | false =>
    have HE : Hid (effN L.length m = zeroEf) := by show effN L.length m = zeroEf; unfold effN; rw [if_neg (by rw [hd]; simp)]
    obtain ⟨r0, r1, r2, r3, r4, r5⟩ := HR2.out.cells
    have f0 := HR2.out.frozen 0
    have f1 := HR2.out.frozen 1
    have f2 := HR2.out.frozen 2
    have f3 := HR2.out.frozen 3
    have f4 := HR2.out.frozen 4
    have f5 := HR2.out.frozen 5
    have HX : Hid (RE (e6 w2 w.heap.size (.bool false) (.int .i64 0) (.int .i64 0) (.slice none 0 0) (.slice none 0 0) (.int .i64 0)) w.heap.size (.bool false) (.int .i64 0) (.int .i64 0) (.slice none 0 0) (.slice none 0 0) (.int .i64 0)) := HR2.out.six _ _ _ _ _ _
    have hld := load_eff _ _ _ _ _ _ _ _ HX.out
    clear hd
    go_wp2
    refine bodyPost_ret (v := efV zeroEf (.slice none 0 0) (.slice none 0 0)) ?_ rfl ?_
    · simp [results, Tryz.results39, asAddr, hld, zeroEf]
    · rw [HE.out]
      exact ⟨⟨none, 0, 0, none, 0, 0, rfl, World.ownsRow_nil _ _ _ _, World.ownsRow_nil _ _ _ _⟩, below_e6 HB2.out (Nat.le_refl _) _ _ _ _ _ _⟩
  | true =>
    have HE : Hid (effN L.length m = ⟨m.fault == 0, m.fault, m.user, m.ou, m.pu, m.steps⟩) := by show effN L.length m = _; unfold effN; rw [if_pos hd]
    obtain ⟨oao, ocap, hov, _⟩ := own_slice HM.out.out
    obtain ⟨pao, pcap, hpv, _⟩ := own_slice HM.out.puts
    have HOv : Hid (h.ov = .slice oao m.ou.length ocap) := hov
    have HPv : Hid (h.pv = .slice pao m.pu.length pcap) := hpv
    have HNo : Hid (oao = none → m.ou.length = 0 ∧ ocap = 0) := fun e => by
      have := HM.out.out
      rw [hov, e] at this
      obtain ⟨_, ⟨h1, h2⟩ | ⟨g, cap, cur, e1, _⟩⟩ := this
      · simp only [Value.slice.injEq] at h1; exact ⟨h2, h1.2.2⟩
      · cases e1
    have HNp : Hid (pao = none → m.pu.length = 0 ∧ pcap = 0) := fun e => by
      have := HM.out.puts
      rw [hpv, e] at this
      obtain ⟨_, ⟨h1, h2⟩ | ⟨g, cap, cur, e1, _⟩⟩ := this
      · simp only [Value.slice.injEq] at h1; exact ⟨h2, h1.2.2⟩
      · cases e1
    have HS2 : Hid (ES w w2 B O h L A R m) := ⟨HB2.out, HR2.out, HM2.out⟩
    obtain ⟨t6, t7, t8, t10, t11⟩ := HS2.out.cells HOv.out HPv.out
    have HBl : Hid (B < w.heap.size) := HM.out.lt
    have HC1 := clone_i64 w2.drew oao m.ou.length ocap (m.ou.map iv) (by simp) (by have := HM2.out.out; rw [HOv.out] at this; exact own_read this) HNo.out (oneI m.ou) (by have := HL.out; omega)
    clear hd hov hpv HR2 HB2
    go_wp2_with fail
    go_region_held (fun w' => w'.cell? ⟨B, 6, none⟩ = some (.slice oao m.ou.length ocap) ∧ w'.cell? ⟨B, 7, none⟩ = some (.slice pao m.pu.length pcap) ∧ w'.cell? ⟨B, 8, none⟩ = some (.int .i64 (m.steps : Int)) ∧ w'.cell? ⟨B, 10, none⟩ = some (.int .i64 m.fault) ∧ w'.cell? ⟨B, 11, none⟩ = some (.int .i64 m.user))
      (first | with_reducible exact ⟨t6, t7, t8, t10, t11⟩ | with_reducible exact hcells | exact ⟨t6, t7, t8, t10, t11⟩) (first
      | (go_at_call 59; refine HC1.mono ?_; rintro e w3 ⟨v1, rfl, ho1, hb1⟩; have HS3 : Hid (ES w w3 B O h L A R m) := HS2.out.drew.next hb1; have HO1 : Hid (w3.ownsRow w.heap.size 2 1 v1 m.ou.length (m.ou.map iv)) := ownsRow_mono ho1 HS2.out.bel.size; obtain ⟨a1, k1, rfl, _⟩ := own_slice ho1; obtain ⟨t6, t7, t8, t10, t11⟩ := HS3.out.cells HOv.out HPv.out; have HC2 := clone_put w3 pao m.pu.length pcap (cks m.pu) (cks_length m.pu) (own_read (HPv.out ▸ HS3.out.ms.puts)) HNp.out (cks_one m.pu) (Nat.le_trans (Nat.mul_le_mul_right 16 HL.out.1) (by decide)); clear ho1 hb1)
      | (go_at_call 65; refine HC2.mono ?_; rintro e w4 ⟨v2, rfl, ho2, hb2⟩; have HS4 : Hid (ES w w4 B O h L A R m) := HS3.out.next hb2; have HO2 : Hid (w4.ownsRow w.heap.size 136 2 v2 m.pu.length (cks m.pu)) := ownsRow_mono ho2 HS3.out.bel.size; have HO1' : Hid (w4.ownsRow w.heap.size 2 1 (.slice a1 m.ou.length k1) m.ou.length (m.ou.map iv)) := ownsRow_same HO1.out (fun g hg => hb2.block g (World.ownsRow.lt HO1.out g hg).2); obtain ⟨a2, k2, rfl, _⟩ := own_slice ho2; obtain ⟨t6, t7, t8, t10, t11⟩ := HS4.out.cells HOv.out HPv.out; obtain ⟨r0, r1, r2, r3, r4, r5⟩ := HS4.out.re.cells; have f0 := HS4.out.re.frozen 0; have f1 := HS4.out.re.frozen 1; have f2 := HS4.out.re.frozen 2; have f3 := HS4.out.re.frozen 3; have f4 := HS4.out.re.frozen 4; have f5 := HS4.out.re.frozen 5; have hcells := HS4.out.after HBl.out HOv.out HPv.out (.bool (m.fault == 0)) (.int .i64 m.fault) (.int .i64 m.user) (.slice a1 m.ou.length k1) (.slice a2 m.pu.length k2) (.int .i64 (m.steps : Int)); clear ho2 hb2))
    have HX : Hid (RE (e6 w4 w.heap.size (.bool (m.fault == 0)) (.int .i64 m.fault) (.int .i64 m.user) (.slice a1 m.ou.length k1) (.slice a2 m.pu.length k2) (.int .i64 (m.steps : Int))) w.heap.size (.bool (m.fault == 0)) (.int .i64 m.fault) (.int .i64 m.user) (.slice a1 m.ou.length k1) (.slice a2 m.pu.length k2) (.int .i64 (m.steps : Int))) := HS4.out.re.six _ _ _ _ _ _
    have hld := load_eff _ _ _ _ _ _ _ _ HX.out
    have HBe : Hid (Go.RowKit.Below w.heap.size w (e6 w4 w.heap.size (.bool (m.fault == 0)) (.int .i64 m.fault) (.int .i64 m.user) (.slice a1 m.ou.length k1) (.slice a2 m.pu.length k2) (.int .i64 (m.steps : Int)))) := below_e6 HS4.out.bel (Nat.le_refl _) _ _ _ _ _ _
    have HOe : Hid (EfAt (e6 w4 w.heap.size (.bool (m.fault == 0)) (.int .i64 m.fault) (.int .i64 m.user) (.slice a1 m.ou.length k1) (.slice a2 m.pu.length k2) (.int .i64 (m.steps : Int))) w.heap.size (.slice a1 m.ou.length k1) (.slice a2 m.pu.length k2) ⟨m.fault == 0, m.fault, m.user, m.ou, m.pu, m.steps⟩) :=
      ⟨ownsRow_same HO1'.out (fun g hg => heap_e6 w4 (own_ne HO1'.out HS4.out.re (by decide) hg) _ _ _ _ _ _), ownsRow_same HO2.out (fun g hg => heap_e6 w4 (own_ne HO2.out HS4.out.re (by decide) hg) _ _ _ _ _ _)⟩
    clear hcells t6 t7 t8 t10 t11 r0 r1 r2 r3 r4 r5 f0 f1 f2 f3 f4 f5
    go_wp2
    refine bodyPost_ret (v := efV ⟨m.fault == 0, m.fault, m.user, m.ou, m.pu, m.steps⟩ (.slice a1 m.ou.length k1) (.slice a2 m.pu.length k2)) ?_ rfl ?_
    · simp [results, Tryz.results39, asAddr, hld]
    · rw [HE.out]
      exact ⟨⟨_, _, _, _, _, _, rfl, HOe.out⟩, HBe.out⟩
end Go.Proofs.YtcaibgbhebldmaaGreat
