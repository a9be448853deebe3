import Derived.Test.YtbpgafchagpmoaaJXRStep
import Derived.Test.YtbpgafchagpmoaaJXRApp
import Derived.Test.YtbpgafchagpmoaaXRun
/-
  THE WALK OF THE DOCUMENT's New.
-/
namespace Go.Proofs.Ytbpgafchagpmoaa
open Go.RowKit Go.Sort

abbrev nilH : RH := ⟨.slice none 0 0, .slice none 0 0, .slice none 0 0, .slice none 0 0⟩
theorem MRt.start (w : World) (F : Nat → Prop) (hF : ∀ k, F k → k < w.heap.size) (c : MC) (b : Bool) : MRt (w.alloc (.cells (rbox c nilH ⟨0, [], [], [], [], b, 0, 0, 0⟩) 74)) F w.heap.size c ⟨0, [], [], [], [], b, 0, 0, 0⟩ := by
  refine ⟨fun k => if k = w.heap.size then 1 else 0, nilH, ⟨heap_alloc_new _ _ rfl, if_pos rfl, World.ownsRow_nil _ _ _ _, World.ownsRow_nil _ _ _ _, World.ownsRow_nil _ _ _ _, World.ownsRow_nil _ _ _ _, (fun g e => by cases e), (fun g e => by cases e), (fun g e => by cases e), (fun g e => by cases e), fun k hk => ?_⟩, fun k hk => ⟨?_, ?_⟩⟩
  · have : w.heap.size + 1 ≤ k := by simpa using hk
    exact if_neg (by omega)
  · have := hF k hk
    exact if_neg (by omega)
  · have := hF k hk
    simp; omega
theorem key_lt {w : World} {L : List K} {ao : Option Addr} (h : KeysAt w ao L) (hx : L ≠ []) (g : Addr) (e : ao = some g) : g.block < w.heap.size := by
  rcases h with h | ⟨b, off, e1, hc⟩
  · exact absurd h hx
  · rw [e1] at e; cases e
    cases L with
    | nil => exact absurd rfl hx
    | cons k L => exact cell_lt (hc 0 (.int .i64 k.1) rfl)
theorem cells_lt {w : World} {xs : List Value} {ao : Option Addr} (h : CellsAt w ao xs) (hx : xs ≠ []) (g : Addr) (e : ao = some g) : g.block < w.heap.size := by
  rcases h with h | ⟨b, off, e1, hc⟩
  · exact absurd h hx
  · rw [e1] at e; cases e
    cases xs with
    | nil => exact absurd rfl hx
    | cons k L => exact cell_lt (hc 0 k rfl)
/-- what a call is given -/
theorem CallIn.giv {w : World} {p : Nums} {ao : Option Addr} {n cap : Nat} {L : List K} {aa : Option Addr} {na ca : Nat} {A : List Int} {ra : Option Addr} {nr cr : Nat} {R : List C} (h : CallIn w p ao n cap L aa na ca A ra nr cr R) (F : Nat → Prop) (hF : ∀ k, k < w.heap.size → F k) : Giv w F ⟨p, ao, n, cap, aa, na, ca, ra, nr, cr⟩ L A R :=
  ⟨h.keys, h.ln, h.args.at_, h.la, h.reads.at_, h.lr, fun hx g e => hF _ (key_lt h.keys hx g e), fun hx g e => hF _ (cells_lt h.args.at_ (fun e2 => hx (List.map_eq_nil_iff.1 e2)) g e), fun hx g e => hF _ (cells_lt h.reads.at_ (fun e2 => hx (by cases R with | nil => rfl | cons c R => cases e2)) g e)⟩
def RNewPost (w : World) (c : MC) (p : Nums) (L : List K) (A : List Int) (R : List C) (e : Ending) (w' : World) : Prop :=
  (newE p L A R ≠ 0 ∧ e = .returned (.tuple #[.pointer none, .int .i64 (newE p L A R)])) ∨
  (newE p L A R = 0 ∧ ∃ B, e = .returned (.tuple #[pm B, .int .i64 0]) ∧ w.heap.size ≤ B ∧ MRt w' (fun k => k < w.heap.size) B c (dnM L.length (startM p)))
abbrev pO' (p : Nums) (ao : Option Addr) (n cap : Nat) : Obj := .cells #[.int .i64 p.args, .int .i64 p.reads, .int .i64 p.writes, .int .i64 p.locals, .slice ao n cap] 24
set_option maxRecDepth 100000 in
set_option maxHeartbeats 2000000 in
theorem rnew_any (w : World) (p : Nums) (ao : Option Addr) (n cap : Nat) (L : List K) (aa : Option Addr) (na ca : Nat) (A : List Int) (ra : Option Addr) (nr cr : Nat) (R : List C) (hin : CallIn w p ao n cap L aa na ca A ra nr cr R) :
    Calls Try.prog 16 #[pv p ao n cap, .slice aa na ca, .slice ra nr cr] w fun e w' => RNewPost w ⟨p, ao, n, cap, aa, na, ca, ra, nr, cr⟩ p L A R e w' ∧ Go.RowKit.Below w.heap.size w w' := by
  have HIn : Hid (CallIn w p ao n cap L aa na ca A ra nr cr R) := hin
  clear hin
  go_enter Try.func16, Try.ntmps16
  have hb0 : Go.RowKit.Below w.heap.size w (w.alloc (pO' p ao n cap)) := (Below.refl _ _).alloc (Nat.le_refl _) _
  have HC := refVerify_any (w.alloc (pO' p ao n cap)) p ao n cap L (HIn.out.keys.kept hb0) HIn.out.ln
  have HB0 : Hid (Go.RowKit.Below w.heap.size w (w.alloc (pO' p ao n cap))) := hb0
  have HPB : Hid (PBox (w.alloc (pO' p ao n cap)) w.heap.size p ao n cap) := PBox.new w p ao n cap
  clear hb0
  go_wp2_with fail
  refine HC.mono ?_
  rintro e w1 ⟨rfl, hb1⟩
  have HB1 : Hid (Go.RowKit.Below w.heap.size w w1) := HB0.out.trans (hb1.mono HB0.out.size)
  have HP1 : Hid (PBox w1 w.heap.size p ao n cap) := HPB.out.kept hb1
  clear hb1 HC
  by_cases hv : verifyN p L = 0
  · rw [hv]
    obtain ⟨d, hs⟩ := sound_of hv
    obtain ⟨l1, l2, l3, l4, l5⟩ := (limB_iff p L.length).1 hs.lim
    obtain ⟨x0, x1, x2, x3, x4⟩ := HP1.out.cells
    have HV : Hid (verifyN p L = 0) := hv
    have HLa : Hid (na = A.length ∧ nr = R.length ∧ n = L.length) := ⟨HIn.out.la, HIn.out.lr, HIn.out.ln⟩
    clear hv hs
    by_cases ha : (na : Int) = p.args
    · by_cases hr : (nr : Int) = p.reads
      · have HF : Hid (newE p L A R = 0) := by
          show newE p L A R = 0
          have : fedB p A R = true := by unfold fedB; rw [← HLa.out.1, ← HLa.out.2.1]; simp [ha, hr]
          unfold newE; rw [if_neg (by simp [HV.out]), if_neg (by simp [this])]
        obtain ⟨nl, hnl⟩ := Int.eq_ofNat_of_zero_le l4.1
        obtain ⟨np, hnp⟩ := Int.eq_ofNat_of_zero_le l3.1
        have hnl16 : nl ≤ 16 := by omega
        have hnp16 : np ≤ 16 := by omega
        have mk1 : ∀ u : World, (Go.Instr.makeSlice 25 (.int .i64 p.locals) (.int .i64 p.locals)).run Try.prog u = .ok (.slice (some ⟨u.heap.size, 0, none⟩) nl nl) (u.alloc (.cells (zL nl) 2)) := by rw [hnl]; exact make_64 nl hnl16
        have mk2 : ∀ u : World, (Go.Instr.makeSlice 31 (.int .i64 p.writes) (.int .i64 p.writes)).run Try.prog u = .ok (.slice (some ⟨u.heap.size, 0, none⟩) np np) (u.alloc (.cells (zP np) 60)) := by rw [hnp]; exact make_puts np hnp16
        have hr' : ((nr : Int) != p.reads) = false := by simpa using hr
        have ha' : ((na : Int) != p.args) = false := by simpa using ha
        have HE : Hid (∀ b : Bool, b = decide (n = 0) → dnM L.length (startM p) = ⟨0, [], List.replicate nl 0, [], List.replicate np (0, 0), b, 0, 0, 0⟩) := fun b hb => by
          rw [dnM_on rfl, ← HLa.out.2.2, hb]
          unfold startM
          rw [hnl, hnp, Int.toNat_natCast, Int.toNat_natCast]
          simp only [M.mk.injEq, true_and, and_true, decide_eq_decide]
          exact ⟨fun h => h.symm, fun h => h.symm⟩
        have HS : Hid (w.heap.size ≤ w1.heap.size) := HB1.out.size
        have HM1 : Hid (∀ b, MRt (w1.alloc (.cells (rbox ⟨p, ao, n, cap, aa, na, ca, ra, nr, cr⟩ nilH ⟨0, [], [], [], [], b, 0, 0, 0⟩) 74)) (fun k => k < w1.heap.size) w1.heap.size ⟨p, ao, n, cap, aa, na, ca, ra, nr, cr⟩ ⟨0, [], [], [], [], b, 0, 0, 0⟩) := fun b => MRt.start w1 _ (fun _ hk => hk) _ b
        obtain ⟨bd, hbd⟩ : ∃ bd, bd = decide (n = 0) := ⟨_, rfl⟩
        have hbd' : ((n : Int) == 0) = bd := by rw [hbd]; by_cases h : n = 0 <;> simp [h]
        have HE' := HE.out bd hbd
        have HM1' := HM1.out bd
        have HFr0 : Hid (∀ o, Fr (fun k => k < w1.heap.size) w1 (w1.alloc o)) := fun o => Fr.ofBelow ((Below.refl _ _).alloc (Nat.le_refl _) _) (fun _ hk => hk)
        have HB2 : Hid (∀ X, Fr (fun k => k < w1.heap.size) w1 X → Go.RowKit.Below w.heap.size w X) := fun X hX => HB1.out.trans (hX.below (fun k hk => Nat.lt_of_lt_of_le hk HB1.out.size))
        have HLt : Hid (w.heap.size < w1.heap.size) := HP1.out.lt
        clear l1 l2 l3 l4 l5 HB0 HPB hbd HM1 hnl hnp ha hr
        go_upto_region 7 with fail
        have HM2 : Hid (FS w1 (w1.alloc (.cells (rbox ⟨p, ao, n, cap, aa, na, ca, ra, nr, cr⟩ nilH ⟨0, [], [], [], [], bd, 0, 0, 0⟩) 74)) (fun k => k < w1.heap.size) w1.heap.size ⟨p, ao, n, cap, aa, na, ca, ra, nr, cr⟩ ⟨0, [], [], [], [], bd, 0, 0, 0⟩) := ⟨HM1', HFr0.out _⟩
        clear HM1' HFr0
        have HX2 : Hid (w1.cell? ⟨w.heap.size, 2, none⟩ = some (.int .i64 p.writes)) := x2
        have HX3 : Hid (w1.cell? ⟨w.heap.size, 3, none⟩ = some (.int .i64 p.locals)) := x3
        clear x0 x1 x2 x3 x4
        rw [show (w1.alloc (.cells (rbox ⟨p, ao, n, cap, aa, na, ca, ra, nr, cr⟩ nilH ⟨0, [], [], [], [], bd, 0, 0, 0⟩) 74)) = (w1.alloc (.cells #[.int .i64 p.args, .int .i64 p.reads, .int .i64 p.writes, .int .i64 p.locals, .slice ao n cap, .slice aa na ca, .slice ra nr cr, .slice none 0 0, .slice none 0 0, .slice none 0 0, .slice none 0 0, .int .i64 0, .int .i64 0, .bool bd, .int .i64 0, .int .i64 0] 74)) from rfl] at HM2
        generalize hW2 : (w1.alloc (.cells #[.int .i64 p.args, .int .i64 p.reads, .int .i64 p.writes, .int .i64 p.locals, .slice ao n cap, .slice aa na ca, .slice ra nr cr, .slice none 0 0, .slice none 0 0, .slice none 0 0, .slice none 0 0, .int .i64 0, .int .i64 0, .bool bd, .int .i64 0, .int .i64 0] 74)) = W2 at *
        clear hW2
        have y3 : W2.cell? ⟨w.heap.size, 3, none⟩ = some (.int .i64 p.locals) := HM2.out.fr.cell HLt.out HX3.out
        obtain ⟨_, _, _, _, _, c8, _, _⟩ := HM2.out.mrt.slices
        have f8 := HM2.out.mrt.froz 8
        have c8' := al (o := .cells (zL nl) 2) c8
        have f8' : (W2.alloc (.cells (zL nl) 2)).frozen? ⟨w1.heap.size, 8, none⟩ = false := (frozen?_alloc_cells _ _ _ _).trans f8
        go_upto_region 8 with fail
        have HM3 : Hid (FS w1 ((W2.alloc (.cells (zL nl) 2)).setCell ⟨w1.heap.size, 8, none⟩ (.slice (some ⟨W2.heap.size, 0, none⟩) nl nl)) (fun k => k < w1.heap.size) w1.heap.size ⟨p, ao, n, cap, aa, na, ca, ra, nr, cr⟩ ⟨0, [], List.replicate nl 0, [], [], bd, 0, 0, 0⟩) := ⟨(HM2.out.mrt.newL nl hnl16).1, HM2.out.fr.trans (HM2.out.mrt.newL nl hnl16).2⟩
        clear HM2 c8 f8 c8' f8' y3
        generalize (W2.alloc (.cells (zL nl) 2)).setCell ⟨w1.heap.size, 8, none⟩ (.slice (some ⟨W2.heap.size, 0, none⟩) nl nl) = W3 at *
        have y2 : W3.cell? ⟨w.heap.size, 2, none⟩ = some (.int .i64 p.writes) := HM3.out.fr.cell HLt.out HX2.out
        obtain ⟨_, _, _, _, _, _, _, c10⟩ := HM3.out.mrt.slices
        have f10 := HM3.out.mrt.froz 10
        have c10' := al (o := .cells (zP np) 60) c10
        have f10' : (W3.alloc (.cells (zP np) 60)).frozen? ⟨w1.heap.size, 10, none⟩ = false := (frozen?_alloc_cells _ _ _ _).trans f10
        have HM4 : Hid (FS w1 ((W3.alloc (.cells (zP np) 60)).setCell ⟨w1.heap.size, 10, none⟩ (.slice (some ⟨W3.heap.size, 0, none⟩) np np)) (fun k => k < w1.heap.size) w1.heap.size ⟨p, ao, n, cap, aa, na, ca, ra, nr, cr⟩ ⟨0, [], List.replicate nl 0, [], List.replicate np (0, 0), bd, 0, 0, 0⟩) := ⟨(HM3.out.mrt.newP np hnp16).1, HM3.out.fr.trans (HM3.out.mrt.newP np hnp16).2⟩
        clear HM3
        go_wp2
        go_ret2
        exact ⟨.inr ⟨HF.out, w1.heap.size, rfl, HS.out, by rw [HE']; exact HM4.out.mrt.mono (fun k hk => Nat.lt_of_lt_of_le hk HS.out)⟩, HB2.out _ HM4.out.fr⟩
      · have HF : Hid (newE p L A R = 50) := by
          show newE p L A R = 50
          have : fedB p A R = false := by unfold fedB; rw [← HLa.out.1, ← HLa.out.2.1]; simp [hr]
          unfold newE; rw [if_neg (by simp [HV.out]), if_pos this]
        have hr' : ((nr : Int) != p.reads) = true := by simpa using hr
        have ha' : ((na : Int) != p.args) = false := by simpa using ha
        have HX : Hid (RNewPost w ⟨p, ao, n, cap, aa, na, ca, ra, nr, cr⟩ p L A R (.returned (.tuple #[.pointer none, .int .i64 50])) w1 ∧ Go.RowKit.Below w.heap.size w w1) := ⟨.inl ⟨by rw [HF.out]; decide, by rw [HF.out]⟩, HB1.out⟩
        clear l1 l2 l3 l4 l5 ha hr
        go_wp2
        go_ret2
        exact HX.out
    · have HF : Hid (newE p L A R = 50) := by
        show newE p L A R = 50
        have : fedB p A R = false := by unfold fedB; rw [← HLa.out.1]; simp [ha]
        unfold newE; rw [if_neg (by simp [HV.out]), if_pos this]
      have ha' : ((na : Int) != p.args) = true := by simpa using ha
      have HX : Hid (RNewPost w ⟨p, ao, n, cap, aa, na, ca, ra, nr, cr⟩ p L A R (.returned (.tuple #[.pointer none, .int .i64 50])) w1 ∧ Go.RowKit.Below w.heap.size w w1) := ⟨.inl ⟨by rw [HF.out]; decide, by rw [HF.out]⟩, HB1.out⟩
      clear l1 l2 l3 l4 l5 ha
      go_wp2
      go_ret2
      exact HX.out
  · have HF : Hid (newE p L A R = verifyN p L) := by show newE p L A R = _; unfold newE; rw [if_pos hv]
    have hv' : (verifyN p L != 0) = true := by simpa using hv
    have HX : Hid (RNewPost w ⟨p, ao, n, cap, aa, na, ca, ra, nr, cr⟩ p L A R (.returned (.tuple #[.pointer none, .int .i64 (verifyN p L)])) w1 ∧ Go.RowKit.Below w.heap.size w w1) := ⟨.inl ⟨by rw [HF.out]; exact hv, by rw [HF.out]⟩, HB1.out⟩
    clear HF hv
    generalize verifyN p L = v at *
    go_wp2
    go_ret2
    exact HX.out
end Go.Proofs.Ytbpgafchagpmoaa
/-
  THE WALK OF THE DOCUMENT's Effect.
-/
namespace Go.Proofs.Ytbpgafchagpmoaa
open Go.RowKit Go.Sort

def effR (m : M) : Ef := if m.ended = true then ⟨m.fault == 0, m.fault, m.user, m.ou, m.pu, m.steps⟩ else zeroEf
theorem effR_dn (n : Nat) (m : M) : effR (dnM n m) = effN n m := rfl
/-- inside Effect: the answer's box, the box of e -/
structure QS (w W : World) (b0 : Bool) (f u st : Int) (v1 v2 : Value) (S : List Int) (U : List K) : Prop where
  bel : Go.RowKit.Below w.heap.size w W
  re : RE W w.heap.size (.bool false) (.int .i64 0) (.int .i64 0) (.slice none 0 0) (.slice none 0 0) (.int .i64 0)
  ee : RE W (w.heap.size + 1) (.bool b0) (.int .i64 f) (.int .i64 u) v1 v2 (.int .i64 st)
  o1 : Own64 W w.heap.size v1 S
  o2 : OwnP W w.heap.size v2 U
theorem grown_below {w w1 : World} (h : w.grownBy w1 none) : Go.RowKit.Below w.heap.size w w1 := ⟨h.os, h.tape, h.output, h.size, fun k hk => h.block k hk (fun e => by cases e)⟩
theorem RE.set {W : World} {b : Nat} {c0 c1 c2 c3 c4 c5 : Value} (h : RE W b c0 c1 c2 c3 c4 c5) (v : Value) : RE (W.setCell ⟨b, 3, none⟩ v) b c0 c1 c2 v c4 c5 ∧ RE (W.setCell ⟨b, 4, none⟩ v) b c0 c1 c2 c3 v c5 :=
  ⟨heap_setCell_same W b 3 _ _ v h, heap_setCell_same W b 4 _ _ v h⟩
section
variable {w W W1 : World} {b0 : Bool} {f u st : Int} {v1 v2 v : Value} {S T : List Int} {U V : List K}
theorem QS.grow (x : QS w W b0 f u st v1 v2 S U) (hb : Go.RowKit.Below W.heap.size W W1) : QS w W1 b0 f u st v1 v2 S U :=
  ⟨x.bel.trans (hb.mono x.bel.size), x.re.below hb x.re.lt, x.ee.below hb x.ee.lt, ownsRow_same x.o1 (fun g e => hb.block g (World.ownsRow.lt x.o1 g e).2), ownsRow_same x.o2 (fun g e => hb.block g (World.ownsRow.lt x.o2 g e).2)⟩
theorem QS.drew (x : QS w W b0 f u st v1 v2 S U) : QS w W.drew b0 f u st v1 v2 S U := x.grow ((Grew.refl W).drewN 1).below
theorem QS.out (x : QS w W b0 f u st v1 v2 S U) (h : Own64 W w.heap.size v T) : QS w (W.setCell ⟨w.heap.size + 1, 3, none⟩ v) b0 f u st v v2 T U :=
  ⟨x.bel.trans (below_setCell _ _ (Nat.le_succ _)), (heap_setCell_other _ _ _ _ (Nat.ne_of_lt (Nat.lt_succ_self _))).trans x.re, (x.ee.set v).1, ownsRow_same h (fun g e => heap_setCell_other _ _ _ _ (own_ne h x.ee (by decide) e)), ownsRow_same x.o2 (fun g e => heap_setCell_other _ _ _ _ (own_ne x.o2 x.ee (by decide) e))⟩
theorem QS.puts (x : QS w W b0 f u st v1 v2 S U) (h : OwnP W w.heap.size v V) : QS w (W.setCell ⟨w.heap.size + 1, 4, none⟩ v) b0 f u st v1 v S V :=
  ⟨x.bel.trans (below_setCell _ _ (Nat.le_succ _)), (heap_setCell_other _ _ _ _ (Nat.ne_of_lt (Nat.lt_succ_self _))).trans x.re, (x.ee.set v).2, ownsRow_same x.o1 (fun g e => heap_setCell_other _ _ _ _ (own_ne x.o1 x.ee (by decide) e)), ownsRow_same h (fun g e => heap_setCell_other _ _ _ _ (own_ne h x.ee (by decide) e))⟩
theorem QS.start (w : World) (b0 : Bool) (f u st : Int) : QS w ((w.alloc zE).alloc (.cells #[.bool b0, .int .i64 f, .int .i64 u, .slice none 0 0, .slice none 0 0, .int .i64 st] 33)).drew b0 f u st (.slice none 0 0) (.slice none 0 0) [] [] :=
  QS.drew ⟨((Below.refl _ _).alloc (Nat.le_refl _) _).alloc (by simp) _, (RE.new w _ _ _ _ _ _).below ((Below.refl _ _).alloc (Nat.le_refl _) _) (by simp), by have := RE.new (w.alloc zE) (.bool b0) (.int .i64 f) (.int .i64 u) (.slice none 0 0) (.slice none 0 0) (.int .i64 st); simpa using this, World.ownsRow_nil _ _ _ _, World.ownsRow_nil _ _ _ _⟩
end
theorem own_nil {w : World} {base e size n : Nat} {v : Value} {xs : List Value} (h : w.ownsRow base e size v n xs) {ao : Option Addr} {k cap : Nat} (hv : v = .slice ao k cap) : ao = none → k = 0 ∧ cap = 0 := fun e => by
  rw [hv, e] at h
  obtain ⟨_, ⟨h1, h2⟩ | ⟨g, cap, cur, e1, _⟩⟩ := h
  · simp only [Value.slice.injEq] at h1; exact ⟨h1.2.1, h1.2.2⟩
  · cases e1
set_option maxRecDepth 100000 in
set_option maxHeartbeats 2000000 in
theorem reffect_any (w : World) (F : Nat → Prop) (B : Nat) (c : MC) (m : M) (hm : MRt w F B c m) (hp : m.pu.length ≤ 1000) (ho : m.ou.length ≤ 1000) :
    Calls Try.prog 28 #[pm B] w fun e w' => EffPost w (effR m) e w' ∧ Go.RowKit.Below w.heap.size w w' := by
  obtain ⟨O, h, hm, _⟩ := hm
  have HM : Hid (∀ W, Go.RowKit.Below w.heap.size w W → MR W B O h c m) := fun W hb => hm.kept hb
  have hb0 : Go.RowKit.Below w.heap.size w (w.alloc zE) := (Below.refl _ _).alloc (Nat.le_refl _) _
  have HB0 : Hid (Go.RowKit.Below w.heap.size w (w.alloc zE)) := hb0
  have HR0 : Hid (RE (w.alloc zE) w.heap.size (.bool false) (.int .i64 0) (.int .i64 0) (.slice none 0 0) (.slice none 0 0) (.int .i64 0)) := RE.new w _ _ _ _ _ _
  have HL : Hid (m.pu.length ≤ 1000 ∧ m.ou.length ≤ 1000) := ⟨hp, ho⟩
  have c13 : (w.alloc zE).cell? ⟨B, 13, none⟩ = some (.bool m.ended) := (hm.kept hb0).cell 13
  clear hp ho
  cases hd : m.ended with
  | false =>
    rw [hd] at c13
    have HE : Hid (effR m = zeroEf) := by show effR m = zeroEf; unfold effR; rw [if_neg (by rw [hd]; simp)]
    have hld := load_eff _ _ _ _ _ _ _ _ HR0.out
    clear hd hm hb0
    go_enter Try.func28, Try.ntmps28
    go_wp2
    refine bodyPost_ret (v := efV zeroEf (.slice none 0 0) (.slice none 0 0)) ?_ rfl ?_
    · simp [results, Try.results28, asAddr, hld, zeroEf]
    · rw [HE.out]
      exact ⟨⟨none, 0, 0, none, 0, 0, rfl, World.ownsRow_nil _ _ _ _, World.ownsRow_nil _ _ _ _⟩, HB0.out⟩
  | true =>
    rw [hd] at c13
    have HE : Hid (effR m = ⟨m.fault == 0, m.fault, m.user, m.ou, m.pu, m.steps⟩) := by show effR m = _; unfold effR; rw [if_pos hd]
    obtain ⟨oao, ocap, hov, _⟩ := own_slice hm.out
    obtain ⟨pao, pcap, hpv, _⟩ := own_slice hm.puts
    have HOs : Hid (∀ W, Go.RowKit.Below w.heap.size w W → CellsAt W oao (m.ou.map iv) ∧ W.cell? ⟨B, 9, none⟩ = some (.slice oao m.ou.length ocap)) := fun W hb => by
      have x := HM.out W hb
      have h1 := x.out
      rw [hov] at h1
      exact ⟨own_read h1, by rw [← hov]; exact x.cell 9⟩
    have HPs : Hid (∀ W, Go.RowKit.Below w.heap.size w W → CellsAt W pao (cks m.pu) ∧ W.cell? ⟨B, 10, none⟩ = some (.slice pao m.pu.length pcap)) := fun W hb => by
      have x := HM.out W hb
      have h1 := x.puts
      rw [hpv] at h1
      exact ⟨own_read h1, by rw [← hpv]; exact x.cell 10⟩
    have HNo : Hid (oao = none → m.ou.length = 0 ∧ ocap = 0) := own_nil hm.out hov
    have HNp : Hid (pao = none → m.pu.length = 0 ∧ pcap = 0) := own_nil hm.puts hpv
    have hx := hm.kept hb0
    have c12 : (w.alloc zE).cell? ⟨B, 12, none⟩ = some (.int .i64 (m.steps : Int)) := hx.cell 12
    have c14 : (w.alloc zE).cell? ⟨B, 14, none⟩ = some (.int .i64 m.fault) := hx.cell 14
    have c15 : (w.alloc zE).cell? ⟨B, 15, none⟩ = some (.int .i64 m.user) := hx.cell 15
    have y12 := al (o := zE) c12
    have y14 := al (o := zE) c14
    have y15 := al (o := zE) c15
    obtain ⟨i0, hi, hz0, hz1, hz2⟩ := info_parts info64
    obtain ⟨j0, ji, jz0, jz1, jz2⟩ := info_parts info_put
    clear hd hm hb0 hov hpv hx
    generalize m.fault = fa at *
    generalize m.user = us at *
    obtain ⟨st, hst⟩ : ∃ st : Int, st = (m.steps : Int) := ⟨_, rfl⟩
    rw [← hst] at c12 y12
    have HSt : Hid (st = (m.steps : Int)) := hst
    clear hst
    go_enter Try.func28, Try.ntmps28
    go_upto_region 3 with fail
    have HQ0 := QS.start w (fa == 0) fa us st
    have HW0 : Hid ((w.alloc zE).heap.size = w.heap.size + 1) := by show (w.alloc zE).heap.size = _; simp
    clear c13
    generalize w.alloc zE = W0 at *
    go_cut [3] (fun s wx => s = .pointer (some ⟨W0.heap.size, 0, none⟩) ∧ wx = (W0.alloc (.cells #[.bool (fa == 0), .int .i64 fa, .int .i64 us, .slice none 0 0, .slice none 0 0, .int .i64 st] 33)).drew)
    case first =>
      go_region
      all_goals (go_wp2_with fail; go_meet; exact ⟨rfl, rfl⟩)
    case rest =>
      obtain ⟨rfl, rfl⟩ := hcut
      have HQ : Hid (QS w (W0.alloc (.cells #[.bool (fa == 0), .int .i64 fa, .int .i64 us, .slice none 0 0, .slice none 0 0, .int .i64 st] 33)).drew (fa == 0) fa us st (.slice none 0 0) (.slice none 0 0) [] []) := HQ0
      clear HQ0 c12 c14 c15 y12 y14 y15 HR0 HB0
      generalize (W0.alloc (.cells #[.bool (fa == 0), .int .i64 fa, .int .i64 us, .slice none 0 0, .slice none 0 0, .int .i64 st] 33)).drew = W1 at *
      rw [HW0.out]
      obtain ⟨_, _, _, e3, _, _⟩ := HQ.out.ee.cells
      have c9 := (HOs.out W1 HQ.out.bel).2
      go_upto_region 4 with fail
      go_cut [] (fun wx => ∃ a1 n1 k1, QS w wx (fa == 0) fa us st (.slice a1 n1 k1) (.slice none 0 0) m.ou [])
      case first =>
        go_region_law (refine step_append_src rfl _ _ 25 2 i0 (.int .i64 0) 1 8 Try.underlying25 hi hz0 hz1 hz2 rfl (by decide) rfl w.heap.size (.slice none 0 0) 0 [] rfl (World.ownsRow_nil _ _ _ _) oao m.ou.length ocap (m.ou.map iv) rfl (by simp) (HOs.out _ HQ.out.drew.bel).1 HNo.out (oneI m.ou) (by have := HL.out; unfold maxLen; omega) (by have := HL.out; omega) HQ.out.drew.bel.size ?_; intro v' w' h1 h2 h3; rw [Nat.zero_add] at h1; obtain ⟨a1, k1, hv1, _⟩ := own_slice h1; subst hv1; have HQ1 : Hid (QS w w' (fa == 0) fa us st (.slice none 0 0) (.slice none 0 0) [] []) := HQ.out.drew.grow (grown_below h2); have HQ2 : Hid (QS w (w'.setCell ⟨w.heap.size + 1, 3, none⟩ (.slice a1 m.ou.length k1)) (fa == 0) fa us st (.slice a1 m.ou.length k1) (.slice none 0 0) m.ou []) := HQ1.out.out h1; obtain ⟨_, _, _, e3', _, _⟩ := HQ1.out.ee.cells; have f3 := HQ1.out.ee.frozen 3; clear h1 h2 h3)
        all_goals (
          go_wp2_with fail
          go_meet
          exact ⟨_, _, _, HQ2.out⟩)
      case rest =>
        obtain ⟨a1, n1, k1, hq⟩ := hcut
        have HQ1 : Hid (QS w wc (fa == 0) fa us st (.slice a1 n1 k1) (.slice none 0 0) m.ou []) := hq
        clear hq e3 c9 HQ
        obtain ⟨_, _, _, _, e4, _⟩ := HQ1.out.ee.cells
        have c10 := (HPs.out wc HQ1.out.bel).2
        generalize wc = W2 at *
        go_upto_region 5 with fail
        go_cut [] (fun wx => ∃ a2 n2 k2, QS w wx (fa == 0) fa us st (.slice a1 n1 k1) (.slice a2 n2 k2) m.ou m.pu)
        case first =>
          go_region_law (refine step_append_src rfl _ _ 31 60 j0 (.agg #[.int .i64 0, .int .i64 0]) 2 16 Try.underlying31 ji jz0 jz1 jz2 rfl (by decide) rfl w.heap.size (.slice none 0 0) 0 [] rfl (World.ownsRow_nil _ _ _ _) pao m.pu.length pcap (cks m.pu) rfl (cks_length m.pu) (HPs.out _ HQ1.out.drew.bel).1 HNp.out (cks_one m.pu) (by have := HL.out; unfold maxLen; omega) (by have := HL.out; omega) HQ1.out.drew.bel.size ?_; intro v' w' h1 h2 h3; rw [Nat.zero_add] at h1; obtain ⟨a2, k2, hv1, _⟩ := own_slice h1; subst hv1; have HQ2 : Hid (QS w w' (fa == 0) fa us st (.slice a1 n1 k1) (.slice none 0 0) m.ou []) := HQ1.out.drew.grow (grown_below h2); have HQ3 : Hid (QS w (w'.setCell ⟨w.heap.size + 1, 4, none⟩ (.slice a2 m.pu.length k2)) (fa == 0) fa us st (.slice a1 n1 k1) (.slice a2 m.pu.length k2) m.ou m.pu) := HQ2.out.puts h1; obtain ⟨_, _, _, _, e4', _⟩ := HQ2.out.ee.cells; have f4 := HQ2.out.ee.frozen 4; clear h1 h2 h3)
          all_goals (
            go_wp2_with fail
            go_meet
            exact ⟨_, _, _, HQ3.out⟩)
        case rest =>
          obtain ⟨a2, n2, k2, hq⟩ := hcut
          have HQ2 : Hid (QS w wc (fa == 0) fa us st (.slice a1 n1 k1) (.slice a2 n2 k2) m.ou m.pu) := hq
          clear hq e4 c10 HQ1
          generalize wc = W3 at *
          have hst := HSt.out
          subst hst
          obtain ⟨e0, e1, e2, e3, e4, e5⟩ := HQ2.out.ee.cells
          obtain ⟨r0, r1, r2, r3, r4, r5⟩ := HQ2.out.re.cells
          have f0 := HQ2.out.re.frozen 0
          have f1 := HQ2.out.re.frozen 1
          have f2 := HQ2.out.re.frozen 2
          have f3 := HQ2.out.re.frozen 3
          have f4 := HQ2.out.re.frozen 4
          have f5 := HQ2.out.re.frozen 5
          have HX : Hid (RE (e6 W3 w.heap.size (.bool (fa == 0)) (.int .i64 fa) (.int .i64 us) (.slice a1 n1 k1) (.slice a2 n2 k2) (.int .i64 (m.steps : Int))) w.heap.size (.bool (fa == 0)) (.int .i64 fa) (.int .i64 us) (.slice a1 n1 k1) (.slice a2 n2 k2) (.int .i64 (m.steps : Int))) := HQ2.out.re.six _ _ _ _ _ _
          have hld := load_eff _ _ _ _ _ _ _ _ HX.out
          have HBe : Hid (Go.RowKit.Below w.heap.size w (e6 W3 w.heap.size (.bool (fa == 0)) (.int .i64 fa) (.int .i64 us) (.slice a1 n1 k1) (.slice a2 n2 k2) (.int .i64 (m.steps : Int)))) := below_e6 HQ2.out.bel (Nat.le_refl _) _ _ _ _ _ _
          have HOe : Hid (EfAt (e6 W3 w.heap.size (.bool (fa == 0)) (.int .i64 fa) (.int .i64 us) (.slice a1 n1 k1) (.slice a2 n2 k2) (.int .i64 (m.steps : Int))) w.heap.size (.slice a1 n1 k1) (.slice a2 n2 k2) ⟨fa == 0, fa, us, m.ou, m.pu, m.steps⟩) :=
            ⟨ownsRow_same HQ2.out.o1 (fun g hg => heap_e6 W3 (own_ne HQ2.out.o1 HQ2.out.re (by decide) hg) _ _ _ _ _ _), ownsRow_same HQ2.out.o2 (fun g hg => heap_e6 W3 (own_ne HQ2.out.o2 HQ2.out.re (by decide) hg) _ _ _ _ _ _)⟩
          go_wp2
          refine bodyPost_ret (v := efV ⟨fa == 0, fa, us, m.ou, m.pu, m.steps⟩ (.slice a1 n1 k1) (.slice a2 n2 k2)) ?_ rfl ?_
          · simp [results, Try.results28, asAddr, hld]
          · rw [HE.out]
            exact ⟨⟨_, _, _, _, _, _, rfl, HOe.out⟩, HBe.out⟩
end Go.Proofs.Ytbpgafchagpmoaa
/-
  THE WALK OF THE DOCUMENT's Run.
-/
namespace Go.Proofs.Ytbpgafchagpmoaa
open Go.RowKit Go.Sort

/-- how far a machine of the document's is -/
def measR (n B : Nat) (w : World) : Nat :=
  match w.cell? ⟨B, 13, none⟩ with
  | some (.bool true) => 0
  | _ => match w.cell? ⟨B, 11, none⟩ with
    | some (.int _ z) => n - z.toNat
    | _ => 0
theorem MRt.meas {w : World} {F : Nat → Prop} {B n : Nat} {c : MC} {m : M} (x : MRt w F B c (dnM n m)) : measR n B w = leftM n (dnM n m) := by
  obtain ⟨c11, _, c13, _, _⟩ := x.cells
  unfold measR leftM
  rw [c13, c11]
  cases (dnM n m).ended <;> simp
theorem left_dn {n : Nat} {m : M} : leftM n (dnM n m) = leftM n m := by
  unfold leftM dnM doneB
  simp only
  cases m.ended
  · simp; omega
  · simp
set_option maxRecDepth 100000 in
set_option maxHeartbeats 1000000 in
theorem rrun_any (w : World) (p : Nums) (ao : Option Addr) (n cap : Nat) (L : List K) (aa : Option Addr) (na ca : Nat) (A : List Int) (ra : Option Addr) (nr cr : Nat) (R : List C) (hin : CallIn w p ao n cap L aa na ca A ra nr cr R) (hi : Ins L A R) :
    Calls Try.prog 11 #[pv p ao n cap, .slice aa na ca, .slice ra nr cr] w fun e w' => RunPost w p L A R e w' := by
  have hb0 : Go.RowKit.Below w.heap.size w ((w.alloc (pO p ao n cap)).alloc zE) := ((Below.refl _ _).alloc (Nat.le_refl _) _).alloc (by simp) _
  have HC := rnew_any ((w.alloc (pO p ao n cap)).alloc zE) p ao n cap L aa na ca A ra nr cr R (hin.kept hb0)
  have HIn : Hid (CallIn ((w.alloc (pO p ao n cap)).alloc zE) p ao n cap L aa na ca A ra nr cr R) := hin.kept hb0
  have HI : Hid (Ins L A R) := hi
  have HR0 : Hid (RE ((w.alloc (pO p ao n cap)).alloc zE) (w.heap.size + 1) (.bool false) (.int .i64 0) (.int .i64 0) (.slice none 0 0) (.slice none 0 0) (.int .i64 0)) := heap_alloc_new _ _ (by simp)
  have HB0 : Hid (Go.RowKit.Below w.heap.size w ((w.alloc (pO p ao n cap)).alloc zE)) := hb0
  have HZ : Hid (w.heap.size + 1 < ((w.alloc (pO p ao n cap)).alloc zE).heap.size) := by show _ < _; simp
  clear hb0 hin hi
  go_enter Try.func11, Try.ntmps11
  go_wp2_with fail
  refine HC.mono ?_
  rintro e w1 ⟨hp, hb1⟩
  have HB1 : Hid (Go.RowKit.Below w.heap.size w w1) := HB0.out.trans (hb1.mono HB0.out.size)
  have HI1 : Hid (CallIn w1 p ao n cap L aa na ca A ra nr cr R) := HIn.out.kept hb1
  have HR1 : Hid (RE w1 (w.heap.size + 1) (.bool false) (.int .i64 0) (.int .i64 0) (.slice none 0 0) (.slice none 0 0) (.int .i64 0)) := HR0.out.below hb1 HZ.out
  have HP : Hid (RNewPost ((w.alloc (pO p ao n cap)).alloc zE) ⟨p, ao, n, cap, aa, na, ca, ra, nr, cr⟩ p L A R e w1) := hp
  have HGv : Hid (Giv w1 (fun k => k < ((w.alloc (pO p ao n cap)).alloc zE).heap.size) ⟨p, ao, n, cap, aa, na, ca, ra, nr, cr⟩ L A R) := (HIn.out.giv (fun k => k < ((w.alloc (pO p ao n cap)).alloc zE).heap.size) (fun _ hk => hk)).next (Fr.ofBelow hb1 (fun _ hk => hk))
  clear hp hb1 HC HIn
  generalize (w.alloc (pO p ao n cap)).alloc zE = W0 at *
  rcases HP.out with ⟨h1, rfl⟩ | ⟨h1, B, rfl, h2, h3⟩
  · have HX : Hid (runX p L A R = zeroEf) := if_pos h1
    obtain ⟨r0, r1, r2, r3, r4, r5⟩ := HR1.out.cells
    have f0 := HR1.out.frozen 0
    have f1 := HR1.out.frozen 1
    have f2 := HR1.out.frozen 2
    have f3 := HR1.out.frozen 3
    have f4 := HR1.out.frozen 4
    have f5 := HR1.out.frozen 5
    have HE6 : Hid (RE (e6 w1 (w.heap.size + 1) (.bool false) (.int .i64 0) (.int .i64 0) (.slice none 0 0) (.slice none 0 0) (.int .i64 0)) (w.heap.size + 1) (.bool false) (.int .i64 0) (.int .i64 0) (.slice none 0 0) (.slice none 0 0) (.int .i64 0)) := HR1.out.six _ _ _ _ _ _
    have hld := load_eff _ _ _ _ _ _ _ _ HE6.out
    have h1' : (newE p L A R != 0) = true := by simpa using h1
    have HNE : Hid (newE p L A R ≠ 0) := h1
    obtain ⟨ne, hne⟩ : ∃ ne, ne = newE p L A R := ⟨_, rfl⟩
    rw [← hne] at h1' ⊢
    have HNe : Hid (ne = newE p L A R) := hne
    clear h1 HP hne
    go_wp2
    refine bodyPost_ret (v := .tuple #[efV zeroEf (.slice none 0 0) (.slice none 0 0), .int .i64 ne]) ?_ rfl ?_
    · simp [results, Try.results11, asAddr, hld, zeroEf]
    · unfold RunPost
      rw [HX.out, ← HNe.out]
      exact ⟨none, 0, 0, none, 0, 0, rfl, ⟨World.ownsRow_nil _ _ _ _, World.ownsRow_nil _ _ _ _⟩, below_e6 HB1.out (Nat.le_succ _) _ _ _ _ _ _⟩
  · obtain ⟨hv, hfed, _⟩ := newE_zero h1
    obtain ⟨d, hs⟩ := sound_of hv
    have hgd := good_start hs
    have HS : Hid (Sound p L d) := hs
    have HFd : Hid (Fed p A R) := hfed
    have HG0 : Hid (Good p L d (startM p)) := hgd
    have HM1 : Hid (MRt w1 (fun k => k < W0.heap.size) B ⟨p, ao, n, cap, aa, na, ca, ra, nr, cr⟩ (dnM L.length (startM p))) := h3
    have HGl : Hid (Good p L d (lastM L A R (startM p))) := run_keeps hs hgd _
    have HX : Hid (runX p L A R = effN L.length (lastM L A R (startM p))) := if_neg (by simp [h1])
    have HN0 : Hid (newE p L A R = 0) := h1
    have HLim : Hid (p.writes.toNat ≤ 16) := by have := (limB_iff p L.length).1 hs.lim; show p.writes.toNat ≤ 16; omega
    clear HP h1 h2 h3 hv hfed hs hgd
    go_wp2_with fail
    go_loopw [] (fun wr => ∃ k, Hid (MRt wr (fun k => k < W0.heap.size) B ⟨p, ao, n, cap, aa, na, ca, ra, nr, cr⟩ (dnM L.length (runN L A R (startM p) k))) ∧ Hid (Fr (fun k => k < W0.heap.size) w1 wr)) (fun wr => measR L.length B wr)
    case atStart => exact ⟨0, HM1, Fr.refl _ _⟩
    case round =>
      obtain ⟨k, HMk, HFk⟩ := hrel
      have HGk : Hid (Good p L d (runN L A R (startM p) k)) := run_keeps HS.out HG0.out k
      have HE : Hid (measR L.length B wr = leftM L.length (runN L A R (startM p) k)) := HMk.out.meas.trans left_dn
      obtain ⟨_, _, c13, _, _⟩ := HMk.out.cells
      rw [show (dnM L.length (runN L A R (startM p) k)).ended = doneB L.length (runN L A R (startM p) k) from rfl] at c13
      cases hd : doneB L.length (runN L A R (startM p) k) with
      | true =>
        rw [hd] at c13
        have HL : Hid (runN L A R (startM p) k = lastM L A R (startM p)) := last_eq HS.out HG0.out hd
        have HB2 : Hid (Go.RowKit.Below w.heap.size w wr) := HB1.out.trans (HFk.out.below (fun k hk => Nat.lt_of_lt_of_le hk HB0.out.size))
        have HR2 : Hid (RE wr (w.heap.size + 1) (.bool false) (.int .i64 0) (.int .i64 0) (.slice none 0 0) (.slice none 0 0) (.int .i64 0)) := (HFk.out.block _ HZ.out).trans HR1.out
        have HEf := reffect_any wr _ B _ _ HMk.out (by show (runN L A R (startM p) k).pu.length ≤ 1000; rw [HGk.out.pu]; have := HLim.out; omega) (Nat.le_trans HGk.out.ou (by omega))
        rw [effR_dn, HL.out] at HEf
        clear hd HMk HE HR1 HB1
        go_wp2_with fail
        refine HEf.mono ?_
        rintro e w3 ⟨⟨a1, l1, k1, a2, l2, k2, rfl, he3⟩, hb3⟩
        have HB3 : Hid (Go.RowKit.Below w.heap.size w w3) := HB2.out.trans (hb3.mono HB2.out.size)
        have HR3 : Hid (RE w3 (w.heap.size + 1) (.bool false) (.int .i64 0) (.int .i64 0) (.slice none 0 0) (.slice none 0 0) (.int .i64 0)) := HR2.out.below hb3 HR2.out.lt
        have HE3 : Hid (EfAt w3 w.heap.size (.slice a1 l1 k1) (.slice a2 l2 k2) (effN L.length (lastM L A R (startM p)))) := ⟨ownsRow_mono he3.1 HB2.out.size, ownsRow_mono he3.2 HB2.out.size⟩
        clear hb3 he3 HEf HR2 HB2 c13
        generalize effN L.length (lastM L A R (startM p)) = x at *
        obtain ⟨r0, r1, r2, r3, r4, r5⟩ := HR3.out.cells
        have f0 := HR3.out.frozen 0
        have f1 := HR3.out.frozen 1
        have f2 := HR3.out.frozen 2
        have f3 := HR3.out.frozen 3
        have f4 := HR3.out.frozen 4
        have f5 := HR3.out.frozen 5
        have HE6 : Hid (RE (e6 w3 (w.heap.size + 1) (.bool x.commit) (.int .i64 x.code) (.int .i64 x.user) (.slice a1 l1 k1) (.slice a2 l2 k2) (.int .i64 (x.steps : Int))) (w.heap.size + 1) (.bool x.commit) (.int .i64 x.code) (.int .i64 x.user) (.slice a1 l1 k1) (.slice a2 l2 k2) (.int .i64 (x.steps : Int))) := HR3.out.six _ _ _ _ _ _
        have hld := load_eff _ _ _ _ _ _ _ _ HE6.out
        have HOe : Hid (EfAt (e6 w3 (w.heap.size + 1) (.bool x.commit) (.int .i64 x.code) (.int .i64 x.user) (.slice a1 l1 k1) (.slice a2 l2 k2) (.int .i64 (x.steps : Int))) w.heap.size (.slice a1 l1 k1) (.slice a2 l2 k2) x) :=
          ⟨ownsRow_same HE3.out.1 (fun g hg => heap_e6 w3 (own_ne HE3.out.1 HR3.out (by decide) hg) _ _ _ _ _ _), ownsRow_same HE3.out.2 (fun g hg => heap_e6 w3 (own_ne HE3.out.2 HR3.out (by decide) hg) _ _ _ _ _ _)⟩
        have HBe : Hid (Go.RowKit.Below w.heap.size w (e6 w3 (w.heap.size + 1) (.bool x.commit) (.int .i64 x.code) (.int .i64 x.user) (.slice a1 l1 k1) (.slice a2 l2 k2) (.int .i64 (x.steps : Int)))) := below_e6 HB3.out (Nat.le_succ _) _ _ _ _ _ _
        go_wp2
        refine bodyPost_ret (v := .tuple #[efV x (.slice a1 l1 k1) (.slice a2 l2 k2), .int .i64 0]) ?_ rfl ?_
        · simp [results, Try.results11, asAddr, hld]
        · unfold RunPost
          rw [HX.out, HN0.out]
          exact ⟨_, _, _, _, _, _, rfl, HOe.out, HBe.out⟩
      | false =>
        rw [hd] at c13
        have HSt := rstep_any wr _ B _ p L d A R (runN L A R (startM p) k) HMk.out (HGv.out.next HFk.out) HS.out HGk.out HFd.out rfl (run_fits HI.out (fits_start p) k)
        have HLt : Hid (leftM L.length (stepN L A R (runN L A R (startM p) k)) < leftM L.length (runN L A R (startM p) k)) := step_left HS.out HGk.out hd
        have HG1 : Hid (Good p L d (runN L A R (startM p) (k + 1))) := run_keeps HS.out HG0.out (k + 1)
        clear hd
        go_wp2_with fail
        refine HSt.mono ?_
        rintro e w2 ⟨rfl, hm2, hf2⟩
        have HM2 : Hid (MRt w2 (fun k => k < W0.heap.size) B ⟨p, ao, n, cap, aa, na, ca, ra, nr, cr⟩ (dnM L.length (runN L A R (startM p) (k + 1)))) := hm2
        have HF2 : Hid (Fr (fun k => k < W0.heap.size) w1 w2) := HFk.out.trans hf2
        clear hm2 hf2 HSt
        go_wp2
        go_roundw
        case rel => exact ⟨k + 1, HM2, HF2⟩
        case measure => rw [HE.out, HM2.out.meas, left_dn]; exact HLt.out
end Go.Proofs.Ytbpgafchagpmoaa
