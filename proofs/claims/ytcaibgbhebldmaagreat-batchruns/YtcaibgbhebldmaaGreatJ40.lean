import Derived.Test.YtcaibgbhebldmaaGreatJ38
import Derived.Test.YtcaibgbhebldmaaGreatJ39
import Derived.Deep.QuietTactic
/-
  THE WALKS OF drive, Run.
-/
namespace Go.Proofs.YtcaibgbhebldmaaGreat
open Go.RowKit Go.Sort

/-- how far a machine in memory is -/
def meas (n B : Nat) (w : World) : Nat :=
  match w.cell? ⟨B, 9, none⟩ with
  | some (.bool true) => 0
  | _ => match w.cell? ⟨B, 3, none⟩ with
    | some (.int _ z) => n - z.toNat
    | _ => 0
theorem MSt.meas {w : World} {F : Nat → Prop} {B : Nat} {Z : MZ} {L : List K} {A : List Int} {R : List C} {m : M} (x : MSt w F B Z L A R m) : meas L.length B w = leftM L.length m := by
  obtain ⟨c3, _, c9, _, _⟩ := x.cells
  unfold Go.Proofs.YtcaibgbhebldmaaGreat.meas leftM
  rw [c9, c3]
  cases m.ended <;> simp

theorem drive_any (w : World) (F : Nat → Prop) (B : Nat) (Z : MZ) (p : Nums) (L : List K) (d : List Int) (A : List Int) (R : List C) (m : M) (hm : MSt w F B Z L A R m) (hs : Sound p L d) (hg : Good p L d m) (hf : Fed p A R) :
    Calls Tryz.prog 37 #[.func (.func 38) #[pm B] #[]] w fun e w' => e = .returned (.tuple #[]) ∧ MSt w' F B Z L A R (lastM L A R m) ∧ Fr F w w' := by
  have HM : Hid (MSt w F B Z L A R m) := hm
  have HS : Hid (Sound p L d) := hs
  have HG : Hid (Good p L d m) := hg
  have HF : Hid (Fed p A R) := hf
  clear hm hs hg hf
  go_enter Tryz.func37, Tryz.ntmps37
  go_wp2_with fail
  go_loopw [] (fun wr => ∃ k, Hid (MSt wr F B Z L A R (runN L A R m k)) ∧ Hid (Fr F w wr)) (fun wr => meas L.length B wr)
  case atStart => exact ⟨0, HM, Fr.refl _ _⟩
  case round =>
    obtain ⟨k, HMk, HFk⟩ := hrel
    have HGk : Hid (Good p L d (runN L A R m k)) := run_keeps HS.out HG.out k
    have HE : Hid (meas L.length B wr = leftM L.length (runN L A R m k)) := HMk.out.meas
    have HSt := step_any wr F B Z p L d A R (runN L A R m k) HMk.out HS.out HGk.out HF.out
    go_wp2_with (go_at_fn 38; refine HSt.mono ?_; rintro e w1 ⟨rfl, hm1, hf1⟩; fail)
    refine HSt.mono ?_
    rintro e w1 ⟨rfl, hm1, hf1⟩
    have HM1 : Hid (MSt w1 F B Z L A R (stepN L A R (runN L A R m k))) := hm1
    have HF1 : Hid (Fr F w w1) := HFk.out.trans hf1
    clear hm1 hf1 HSt
    cases hd : doneB L.length (runN L A R m k) with
    | true =>
      have HL : Hid (stepN L A R (runN L A R m k) = lastM L A R m) := (step_done hd).trans (last_eq HS.out HG.out hd)
      clear hd
      go_wp2
      go_end0
      exact ⟨rfl, by rw [← HL.out]; exact HM1.out, HF1.out⟩
    | false =>
      have HLt : Hid (leftM L.length (stepN L A R (runN L A R m k)) < leftM L.length (runN L A R m k)) := step_left HS.out HGk.out hd
      clear hd
      go_wp2
      go_roundw
      case rel => exact ⟨k + 1, HM1, HF1⟩
      case measure => rw [HE.out, HM1.out.meas]; exact HLt.out

/-- Run's effect -/
def runX (p : Nums) (L : List K) (A : List Int) (R : List C) : Ef := if newE p L A R ≠ 0 then zeroEf else effN L.length (lastM L A R (startM p))
def RunPost (w : World) (p : Nums) (L : List K) (A : List Int) (R : List C) (e : Ending) (w' : World) : Prop :=
  ∃ a1 l1 k1 a2 l2 k2, e = .returned (.tuple #[efV (runX p L A R) (.slice a1 l1 k1) (.slice a2 l2 k2), .int .i64 (newE p L A R)]) ∧ EfAt w' w.heap.size (.slice a1 l1 k1) (.slice a2 l2 k2) (runX p L A R) ∧ Go.RowKit.Below w.heap.size w w'
theorem newE_zero {p : Nums} {L : List K} {A : List Int} {R : List C} (h : newE p L A R = 0) : verifyN p L = 0 ∧ Fed p A R ∧ (A.length : Int) = p.args ∧ (R.length : Int) = p.reads := by
  unfold newE at h
  by_cases h1 : verifyN p L ≠ 0
  · rw [if_pos h1] at h; exact absurd h h1
  · rw [if_neg h1] at h
    have hv : verifyN p L = 0 := by simpa using h1
    by_cases h2 : fedB p A R = false
    · rw [if_pos h2] at h; cases h
    · have h3 : fedB p A R = true := by simpa using h2
      simp only [fedB, Bool.and_eq_true, decide_eq_true_eq] at h3
      exact ⟨hv, ⟨by omega, by omega⟩, h3⟩
theorem Fr.below {F : Nat → Prop} {a b : World} {n : Nat} (h : Fr F a b) (hf : ∀ k, k < n → F k) : Go.RowKit.Below n a b := ⟨h.os, h.tape, h.output, h.size, fun k hk => h.block k (hf k hk)⟩
abbrev zE : Obj := .cells #[.bool false, .int .i64 0, .int .i64 0, .slice none 0 0, .slice none 0 0, .int .i64 0] 56
abbrev pO (p : Nums) (ao : Option Addr) (n cap : Nat) : Obj := .cells #[.int .i64 p.args, .int .i64 p.reads, .int .i64 p.writes, .int .i64 p.locals, .slice ao n cap] 50
set_option maxRecDepth 100000 in
set_option maxHeartbeats 1000000 in
theorem run_any (w : World) (p : Nums) (ao : Option Addr) (n cap : Nat) (L : List K) (aa : Option Addr) (na ca : Nat) (A : List Int) (ra : Option Addr) (nr cr : Nat) (R : List C) (hin : CallIn w p ao n cap L aa na ca A ra nr cr R) :
    Calls Tryz.prog 14 #[pv p ao n cap, .slice aa na ca, .slice ra nr cr] w fun e w' => RunPost w p L A R e w' := by
  have hb0 : Go.RowKit.Below w.heap.size w ((w.alloc (pO p ao n cap)).alloc zE) := ((Below.refl _ _).alloc (Nat.le_refl _) _).alloc (by simp) _
  have HC := newM_any ((w.alloc (pO p ao n cap)).alloc zE) p ao n cap L aa na ca A ra nr cr R (hin.kept hb0)
  have HR0 : Hid (RE ((w.alloc (pO p ao n cap)).alloc zE) (w.heap.size + 1) (.bool false) (.int .i64 0) (.int .i64 0) (.slice none 0 0) (.slice none 0 0) (.int .i64 0)) := heap_alloc_new _ _ (by simp)
  have HB0 : Hid (Go.RowKit.Below w.heap.size w ((w.alloc (pO p ao n cap)).alloc zE)) := hb0
  have HZ : Hid (w.heap.size + 1 < ((w.alloc (pO p ao n cap)).alloc zE).heap.size) := by show _ < _; simp
  clear hb0 hin
  go_enter Tryz.func14, Tryz.ntmps14
  go_wp2_with fail
  refine HC.mono ?_
  rintro e w1 ⟨hp, hb1⟩
  have HB1 : Hid (Go.RowKit.Below w.heap.size w w1) := HB0.out.trans (hb1.mono HB0.out.size)
  have HR1 : Hid (RE w1 (w.heap.size + 1) (.bool false) (.int .i64 0) (.int .i64 0) (.slice none 0 0) (.slice none 0 0) (.int .i64 0)) := HR0.out.below hb1 HZ.out
  have HP : Hid (NewPost ((w.alloc (pO p ao n cap)).alloc zE) p L A R e w1) := hp
  clear hp hb1 HC
  generalize (w.alloc (pO p ao n cap)).alloc zE = W0 at *
  rcases HP.out with ⟨h1, rfl⟩ | ⟨h1, B, Z, rfl, h2, h3⟩
  · have HX : Hid (runX p L A R = zeroEf) := if_pos h1
    obtain ⟨r0, r1, r2, r3, r4, r5⟩ := HR1.out.cells
    have f0 := HR1.out.frozen 0
    have f1 := HR1.out.frozen 1
    have f2 := HR1.out.frozen 2
    have f3 := HR1.out.frozen 3
    have f4 := HR1.out.frozen 4
    have f5 := HR1.out.frozen 5
    have HE6 : Hid (RE (e6 w1 (w.heap.size + 1) (.bool false) (.int .i64 0) (.int .i64 0) (.slice none 0 0) (.slice none 0 0) (.int .i64 0)) (w.heap.size + 1) (.bool false) (.int .i64 0) (.int .i64 0) (.slice none 0 0) (.slice none 0 0) (.int .i64 0)) := HR1.out.six _ _ _ _ _ _
    have hld := load_eff _ _ _ _ _ _ _ _ HE6.out
    have h1' : (newE p L A R != 0) = true := by simpa using h1
    have HNE : Hid (newE p L A R ≠ 0) := h1
    obtain ⟨ne, hne⟩ : ∃ ne, ne = newE p L A R := ⟨_, rfl⟩
    rw [← hne] at h1' ⊢
    have HNe : Hid (ne = newE p L A R) := hne
    clear h1 HP hne
    go_wp2
    refine bodyPost_ret (v := .tuple #[efV zeroEf (.slice none 0 0) (.slice none 0 0), .int .i64 ne]) ?_ rfl ?_
    · simp [results, Tryz.results14, asAddr, hld, zeroEf]
    · unfold RunPost
      rw [HX.out, ← HNe.out]
      exact ⟨none, 0, 0, none, 0, 0, rfl, ⟨World.ownsRow_nil _ _ _ _, World.ownsRow_nil _ _ _ _⟩, below_e6 HB1.out (Nat.le_succ _) _ _ _ _ _ _⟩
  · obtain ⟨hv, hfed, _⟩ := newE_zero h1
    obtain ⟨d, hs⟩ := sound_of hv
    have hgd := good_start hs
    have HDr := drive_any w1 _ B Z p L d A R (startM p) h3 hs hgd hfed
    have HGl : Hid (Good p L d (lastM L A R (startM p))) := run_keeps hs hgd _
    have HX : Hid (runX p L A R = effN L.length (lastM L A R (startM p))) := if_neg (by simp [h1])
    have HN0 : Hid (newE p L A R = 0) := h1
    have HLim : Hid (p.writes.toNat ≤ 16) := by have := (limB_iff p L.length).1 hs.lim; show p.writes.toNat ≤ 16; omega
    clear HP h1 h2 h3 hv hfed hs hgd
    go_wp2_with fail
    refine HDr.mono ?_
    rintro e w2 ⟨rfl, hm2, hf2⟩
    have HB2 : Hid (Go.RowKit.Below w.heap.size w w2) := HB1.out.trans (hf2.below (fun k hk => Nat.lt_of_lt_of_le hk HB0.out.size))
    have HR2 : Hid (RE w2 (w.heap.size + 1) (.bool false) (.int .i64 0) (.int .i64 0) (.slice none 0 0) (.slice none 0 0) (.int .i64 0)) := (hf2.block _ HZ.out).trans HR1.out
    obtain ⟨O, h, x, _, _⟩ := hm2
    have HEf := effect_ms w2 B O h L A R _ x (by rw [HGl.out.pu]; have := HLim.out; omega) (Nat.le_trans HGl.out.ou (by omega))
    clear hf2 x HDr HR1 HB1
    go_wp2_with fail
    refine HEf.mono ?_
    rintro e w3 ⟨⟨a1, l1, k1, a2, l2, k2, rfl, he3⟩, hb3⟩
    have HB3 : Hid (Go.RowKit.Below w.heap.size w w3) := HB2.out.trans (hb3.mono HB2.out.size)
    have HR3 : Hid (RE w3 (w.heap.size + 1) (.bool false) (.int .i64 0) (.int .i64 0) (.slice none 0 0) (.slice none 0 0) (.int .i64 0)) := HR2.out.below hb3 HR2.out.lt
    have HE3 : Hid (EfAt w3 w.heap.size (.slice a1 l1 k1) (.slice a2 l2 k2) (effN L.length (lastM L A R (startM p)))) := ⟨ownsRow_mono he3.1 HB2.out.size, ownsRow_mono he3.2 HB2.out.size⟩
    clear hb3 he3 HEf HR2 HB2
    generalize effN L.length (lastM L A R (startM p)) = x at *
    obtain ⟨r0, r1, r2, r3, r4, r5⟩ := HR3.out.cells
    have f0 := HR3.out.frozen 0
    have f1 := HR3.out.frozen 1
    have f2 := HR3.out.frozen 2
    have f3 := HR3.out.frozen 3
    have f4 := HR3.out.frozen 4
    have f5 := HR3.out.frozen 5
    have HE6 : Hid (RE (e6 w3 (w.heap.size + 1) (.bool x.commit) (.int .i64 x.code) (.int .i64 x.user) (.slice a1 l1 k1) (.slice a2 l2 k2) (.int .i64 (x.steps : Int))) (w.heap.size + 1) (.bool x.commit) (.int .i64 x.code) (.int .i64 x.user) (.slice a1 l1 k1) (.slice a2 l2 k2) (.int .i64 (x.steps : Int))) := HR3.out.six _ _ _ _ _ _
    have hld := load_eff _ _ _ _ _ _ _ _ HE6.out
    have HOe : Hid (EfAt (e6 w3 (w.heap.size + 1) (.bool x.commit) (.int .i64 x.code) (.int .i64 x.user) (.slice a1 l1 k1) (.slice a2 l2 k2) (.int .i64 (x.steps : Int))) w.heap.size (.slice a1 l1 k1) (.slice a2 l2 k2) x) :=
      ⟨ownsRow_same HE3.out.1 (fun g hg => heap_e6 w3 (own_ne HE3.out.1 HR3.out (by decide) hg) _ _ _ _ _ _), ownsRow_same HE3.out.2 (fun g hg => heap_e6 w3 (own_ne HE3.out.2 HR3.out (by decide) hg) _ _ _ _ _ _)⟩
    have HBe : Hid (Go.RowKit.Below w.heap.size w (e6 w3 (w.heap.size + 1) (.bool x.commit) (.int .i64 x.code) (.int .i64 x.user) (.slice a1 l1 k1) (.slice a2 l2 k2) (.int .i64 (x.steps : Int)))) := below_e6 HB3.out (Nat.le_succ _) _ _ _ _ _ _
    go_wp2
    refine bodyPost_ret (v := .tuple #[efV x (.slice a1 l1 k1) (.slice a2 l2 k2), .int .i64 0]) ?_ rfl ?_
    · simp [results, Tryz.results14, asAddr, hld]
    · unfold RunPost
      rw [HX.out, HN0.out]
      exact ⟨_, _, _, _, _, _, rfl, HOe.out, HBe.out⟩
end Go.Proofs.YtcaibgbhebldmaaGreat
/-
  THE WALKS OF sameWords, sameEffect, AT LIKE ONES.
-/
namespace Go.Proofs.YtcaibgbhebldmaaGreat
open Go.RowKit Go.Sort

theorem eqPut : EqlAt Tryz.prog 136 (fun x : K => .agg (ck x).toArray) (fun x y => decide (x = y)) := by
  refine ⟨fun x y w => ?_, GuardAt.agg _ (by kernel_rfl)⟩
  have u3 := Tryz.underlying3
  have a3 := Tryz.isAgg3
  have z3 := Tryz.sizeOf3
  have u2 := Tryz.underlying2
  have a2 := Tryz.isAgg2
  have z2 := Tryz.sizeOf2
  have hS : Tryz.prog.underlying 136 = some (.struct (Tryz.prog.fieldsOf 136)) := by kernel_rfl
  have hp : Tryz.prog.stoodInHeld 136 = false := by kernel_rfl
  simp only [ck]
  rw [run_eql_struct, show (10000 : Nat) = 9999 + 1 from rfl, run_equalIn_agg w 9999 136 _ _ hS hp]
  simp only [Program.fieldsOf, Tryz.underlying136]
  go_simp
  obtain ⟨x1, x2⟩ := x
  obtain ⟨y1, y2⟩ := y
  by_cases h1 : x1 = y1 <;> by_cases h2 : x2 = y2 <;> simp [h1, h2]
theorem run_eqPut (x1 x2 y1 y2 : Int) (w : World) : Sem.run Tryz.prog (binOp .eql 136 (.agg #[.int .i64 x1, .int .i64 x2]) (.agg #[.int .i64 y1, .int .i64 y2])) w = .ok (.bool (decide ((x1, x2) = (y1, y2)))) w := eqPut.1 (x1, x2) (y1, y2) w
theorem run_putGuard (op : BinOp) (a b : Operand) (x1 x2 y1 y2 : Int) (w : World) : Sem.run Tryz.prog (eqGuard op 136 a b (.agg #[.int .i64 x1, .int .i64 x2]) (.agg #[.int .i64 y1, .int .i64 y2])) w = .ok () w := eqPut.2 op a b (x1, x2) (y1, y2) w
theorem run_neP (x1 x2 y1 y2 : Int) (w : World) : Sem.run Tryz.prog (binOp .neq 136 (.agg #[.int .i64 x1, .int .i64 x2]) (.agg #[.int .i64 y1, .int .i64 y2])) w = .ok (.bool (!decide ((x1, x2) = (y1, y2)))) w := by
  have u3 := Tryz.underlying3
  have a3 := Tryz.isAgg3
  have z3 := Tryz.sizeOf3
  have u2 := Tryz.underlying2
  have a2 := Tryz.isAgg2
  have z2 := Tryz.sizeOf2
  have hS : Tryz.prog.underlying 136 = some (.struct (Tryz.prog.fieldsOf 136)) := by kernel_rfl
  have hp : Tryz.prog.stoodInHeld 136 = false := by kernel_rfl
  rw [run_neq_struct, show (10000 : Nat) = 9999 + 1 from rfl, run_equalIn_agg w 9999 136 _ _ hS hp]
  simp only [Program.fieldsOf, Tryz.underlying136]
  go_simp
  by_cases h1 : x1 = y1 <;> by_cases h2 : x2 = y2 <;> simp [h1, h2]
theorem run_nePut (x1 x2 : Int) (w : World) : Sem.run Tryz.prog (binOp .neq 136 (.agg #[.int .i64 x1, .int .i64 x2]) (.agg #[.int .i64 x1, .int .i64 x2])) w = .ok (.bool false) w := by
  have h := run_neP x1 x2 x1 x2 w
  rw [h]; simp
theorem CellsAt.grew {w w1 : World} {ao : Option Addr} {xs : List Value} (h : CellsAt w ao xs) (hg : Grew w w1) : CellsAt w1 ao xs := h.below hg.below
theorem CellsAt.get {w : World} {ao : Option Addr} {S : List Int} (h : CellsAt w ao (S.map iv)) (k : Nat) (hk : k < S.length) : ∃ b off, ao = some ⟨b, off, none⟩ ∧ w.cell? ⟨b, off + k, none⟩ = some (.int .i64 (S.getD k 0)) := by
  rcases h with h | ⟨b, off, rfl, hc⟩
  · have := congrArg List.length h; simp at this; subst this; simp at hk
  · exact ⟨b, off, rfl, hc k _ (by simp [List.getD_eq_getElem?_getD, List.getElem?_eq_getElem hk])⟩
theorem CellsAt.put {w : World} {ao : Option Addr} {S : List K} (h : CellsAt w ao (cks S)) (k : Nat) (hk : k < S.length) : ∃ b off, ao = some ⟨b, off, none⟩ ∧ w.cell? ⟨b, off + k * 2, none⟩ = some (.int .i64 (kd S k).1) ∧ w.cell? ⟨b, off + k * 2 + 1, none⟩ = some (.int .i64 (kd S k).2) := by
  obtain ⟨e1, e2⟩ := cks_at S k hk
  rcases h with h | ⟨b, off, rfl, hc⟩
  · have := congrArg List.length h; rw [cks_length] at this; simp only [List.length_nil] at this; omega
  · exact ⟨b, off, rfl, hc _ _ e1, by rw [Nat.add_assoc]; exact hc _ _ e2⟩
/-- an effect that can be read -/
def EfR (w : World) (a1 a2 : Option Addr) (x : Ef) : Prop := CellsAt w a1 (x.out.map iv) ∧ CellsAt w a2 (cks x.puts)
theorem EfAt.read {w : World} {base : Nat} {a1 a2 : Option Addr} {l1 l2 k1 k2 : Nat} {x : Ef} (h : EfAt w base (.slice a1 l1 k1) (.slice a2 l2 k2) x) : EfR w a1 a2 x ∧ l1 = x.out.length ∧ l2 = x.puts.length := by
  obtain ⟨b1, c1, e1, _⟩ := own_slice h.1
  obtain ⟨b2, c2, e2, _⟩ := own_slice h.2
  simp only [Value.slice.injEq] at e1 e2
  obtain ⟨rfl, rfl, rfl⟩ := e1
  obtain ⟨rfl, rfl, rfl⟩ := e2
  exact ⟨⟨own_read h.1, own_read h.2⟩, rfl, rfl⟩
theorem EfR.grew {w w1 : World} {a1 a2 : Option Addr} {x : Ef} (h : EfR w a1 a2 x) (hg : Go.RowKit.Below w.heap.size w w1) : EfR w1 a1 a2 x := ⟨h.1.below hg, h.2.below hg⟩
/-- an effect's value -/
abbrev efR (x : Ef) (a1 : Option Addr) (k1 : Nat) (a2 : Option Addr) (k2 : Nat) : Value := efV x (.slice a1 x.out.length k1) (.slice a2 x.puts.length k2)
abbrev eP (co : Bool) (cd us : Int) (a1 : Option Addr) (no k1 : Nat) (a2 : Option Addr) (np k2 : Nat) (st : Int) : Array Value := #[.bool co, .int .i64 cd, .int .i64 us, .slice a1 no k1, .slice a2 np k2, .int .i64 st]
abbrev eQ (co : Bool) (cd us : Int) (a1 : Option Addr) (no k1 : Nat) (a2 : Option Addr) (np k2 : Nat) (st : Int) : Obj := .cells (eP co cd us a1 no k1 a2 np k2 st) 56
end Go.Proofs.YtcaibgbhebldmaaGreat
/-
  THE WALK OF move.
-/
namespace Go.Proofs.YtcaibgbhebldmaaGreat
open Go.RowKit Go.Sort

def mvP : Nums := ⟨1, 2, 2, 0⟩
def mvL : List K := [(7, 0), (6, 0), (24, 0), (31, 6), (1, 1), (36, 0), (7, 0), (6, 0), (11, 0), (32, 0), (7, 1), (6, 0), (10, 0), (32, 1)]
theorem mv_one : newE mvP mvL [4] [(true, 10), (true, 5)] = 0 ∧ runX mvP mvL [4] [(true, 10), (true, 5)] = ⟨true, 0, 0, [], [(1, 6), (1, 9)], 12⟩ := ⟨by kernel_rfl, by kernel_rfl⟩
theorem mv_two : newE mvP mvL [20] [(true, 6), (true, 9)] = 0 ∧ runX mvP mvL [20] [(true, 6), (true, 9)] = ⟨false, 200, 1, [], [(0, 0), (0, 0)], 6⟩ := ⟨by kernel_rfl, by kernel_rfl⟩
theorem KeysAt.mv {W : World} {G : Nat} (h : W.heap[G]? = some (.cells #[.int .i64 7, .int .i64 0, .int .i64 6, .int .i64 0, .int .i64 24, .int .i64 0, .int .i64 31, .int .i64 6, .int .i64 1, .int .i64 1, .int .i64 36, .int .i64 0, .int .i64 7, .int .i64 0, .int .i64 6, .int .i64 0, .int .i64 11, .int .i64 0, .int .i64 32, .int .i64 0, .int .i64 7, .int .i64 1, .int .i64 6, .int .i64 0, .int .i64 10, .int .i64 0, .int .i64 32, .int .i64 1] 102 (0, 0))) : KeysAt W (some ⟨G, 0, none⟩) mvL := by
  refine .inr ⟨G, 0, rfl, fun j u hu => ?_⟩
  have e : W.cell? ⟨G, 0 + j, none⟩ = (cks mvL).toArray[j]? := by
    simp only [World.cell?, h, Nat.zero_add]; rfl
  rw [e]
  simpa using hu
abbrev o1 (x : Int) : Obj := .cells #[.int .i64 x] 2
abbrev o2 (x y : Int) : Obj := .cells #[.bool true, .int .i64 x, .bool true, .int .i64 y] 25
theorem call_mv {w1 : World} {G : Nat} (hk : KeysAt w1 (some ⟨G, 0, none⟩) mvL) (x a b : Int) :
    CallIn ((w1.alloc (o1 x)).alloc (o2 a b)) mvP (some ⟨G, 0, none⟩) 14 14 mvL (some ⟨w1.heap.size, 0, none⟩) 1 1 [x] (some ⟨w1.heap.size + 1, 0, none⟩) 2 2 [(true, a), (true, b)] := by
  have hb : Go.RowKit.Below w1.heap.size w1 ((w1.alloc (o1 x)).alloc (o2 a b)) := ((Below.refl _ _).alloc (Nat.le_refl _) _).alloc (by simp) _
  have h1 : ((w1.alloc (o1 x)).alloc (o2 a b)).heap[w1.heap.size]? = some (o1 x) := (heap_alloc_old _ _ (by simp)).trans (heap_alloc_new _ _ rfl)
  have h2 : ((w1.alloc (o1 x)).alloc (o2 a b)).heap[w1.heap.size + 1]? = some (o2 a b) := heap_alloc_new _ _ (by simp)
  refine ⟨by unfold NIn In64 mvP; decide, hk.kept hb, rfl, fun e => (by cases e), ⟨.inr ⟨w1.heap.size, 0, rfl, fun j u hu => ?_⟩, fun e => by cases e⟩, rfl, ⟨.inr ⟨w1.heap.size + 1, 0, rfl, fun j u hu => ?_⟩, fun e => by cases e⟩, rfl⟩
  · rw [Nat.zero_add, World.cell?, h1]
    show (#[Value.int .i64 x] : Array Value)[j]? = some u
    simpa using hu
  · rw [Nat.zero_add, World.cell?, h2]
    show (#[Value.bool true, .int .i64 a, .bool true, .int .i64 b] : Array Value)[j]? = some u
    simpa [ccs] using hu
end Go.Proofs.YtcaibgbhebldmaaGreat
