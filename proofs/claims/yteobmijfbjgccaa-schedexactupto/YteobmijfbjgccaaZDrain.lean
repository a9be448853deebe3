/-
  A LINE: New, IndexFunc, Drain, Clone, Play.
-/
import Derived.Test.YteobmijfbjgccaaZTake
namespace Go.Proofs.Yteobmijfbjgccaa
open Go.RowKit Go.Sort

theorem plcZ_pre (ls : Nat → Nat) (B : Nat → List Int) (ts : Nat → Int) {i nt : Nat} (h : i ≤ nt) : ∃ r, plcZ ls B nt ts = plcZ ls B i ts ++ r := by
  induction nt with
  | zero => obtain rfl : i = 0 := by omega
            exact ⟨[], by simp⟩
  | succ nt ih =>
    by_cases e : i = nt + 1
    · subst e; exact ⟨[], by simp⟩
    · obtain ⟨r, hr⟩ := ih (by omega)
      exact ⟨r ++ (if rtZ ls B (ts nt) then [nt] else []), by rw [plcZ_succ, hr, List.append_assoc]⟩
theorem tkP_zero (ls : Nat → Nat) (B : Nat → List Int) (nt : Nat) (ts : Nat → Int) : tkP ls B nt ts 0 = (plcZ ls B nt ts)[0]? := by simp [tkP]
theorem tkP_first {ls : Nat → Nat} {B : Nat → List Int} {nt : Nat} {ts : Nat → Int} {i : Nat} (hi : i < nt) (h0 : plcZ ls B i ts = []) (hr : rtZ ls B (ts i) = true) : tkP ls B nt ts 0 = some i := by
  obtain ⟨r, h⟩ := plcZ_pre ls B ts (show i + 1 ≤ nt by omega)
  rw [tkP_zero, h, plcZ_succ, h0, hr]
  simp
/-- what Drain does -/
def drL (B : Nat → List Int) (nt : Nat) (ts : Nat → Int) : Nat → (Nat → Nat) → (Nat → Nat)
  | 0, ls => ls
  | m + 1, ls => match tkP ls B nt ts 0 with
    | none => ls
    | some p => drL B nt ts m (decZ ls (ts p).toNat)
def drK (B : Nat → List Int) (nt : Nat) (ts : Nat → Int) : Nat → (Nat → Nat) → Nat
  | 0, _ => 0
  | m + 1, ls => match tkP ls B nt ts 0 with
    | none => 0
    | some p => drK B nt ts m (decZ ls (ts p).toNat) + 1
theorem drL_none {B : Nat → List Int} {nt : Nat} {ts : Nat → Int} {ls : Nat → Nat} (m : Nat) (h : tkP ls B nt ts 0 = none) : drL B nt ts m ls = ls ∧ drK B nt ts m ls = 0 := by cases m <;> simp [drL, drK, h]
theorem drL_some {B : Nat → List Int} {nt : Nat} {ts : Nat → Int} {ls : Nat → Nat} {p : Nat} (m : Nat) (h : tkP ls B nt ts 0 = some p) : drL B nt ts (m + 1) ls = drL B nt ts m (decZ ls (ts p).toNat) ∧ drK B nt ts (m + 1) ls = drK B nt ts m (decZ ls (ts p).toNat) + 1 := by simp [drL, drK, h]
/-- what Play does -/
def plL (B : Nat → List Int) (nt : Nat) (ts : Nat → Int) : List Int → (Nat → Nat) → (Nat → Nat)
  | [], ls => ls
  | x :: xs, ls => plL B nt ts xs (tkL ls ts (tkP ls B nt ts x))
def plK (B : Nat → List Int) (nt : Nat) (ts : Nat → Int) : List Int → (Nat → Nat) → Nat
  | [], _ => 0
  | x :: xs, ls => plK B nt ts xs (tkL ls ts (tkP ls B nt ts x)) + tkK (tkP ls B nt ts x)
theorem tkA_ge (o : Option Nat) : decide (0 ≤ tkA o) = decide (tkK o = 1) := by cases o <;> simp [tkA, tkK]
theorem tkK_le (o : Option Nat) : tkK o ≤ 1 := by cases o <;> simp [tkK]
section
variable {w : World} {n : Nat} {cb ls : Nat → Nat} {B : Nat → List Int} {X : Nat → Prop} {lb : Nat} {ao : Option Addr} {nt tc : Nat} {ts : Nat → Int} {k : Nat}
/-- what New hands out -/
def NLP (w : World) (n : Nat) (cb ls : Nat → Nat) (B : Nat → List Int) (X : Nat → Prop) (nt : Nat) (ts : Nat → Int) (e : Ending) (w' : World) : Prop :=
  ∃ (lb : Nat) (ao : Option Addr) (tc : Nat), e = .returned (ptZ lb) ∧ SL w' n cb ls B X lb ao nt tc ts 0 ∧ RowKit.Below w.heap.size w w' ∧ w.heap.size ≤ lb ∧ ∀ g, ao = some g → w.heap.size ≤ g.block
set_option maxHeartbeats 1000000 in
theorem newLine_any (h : CI w n cb ls B X) (uo : Option Addr) (nt uc : Nat) (ts : Nat → Int) (h0 : uo = none → uc = 0) (hu : WAt w uo (((List.range nt).map ts).map (tvZ cb))) (hz : ∀ i, i < nt → ts i < (n : Int)) (hb : nt ≤ 10000000) (hp : totZ n ls ≤ 1000000000000) :
    Calls Try.prog 27 #[.slice uo nt uc] w fun e w' => NLP w n cb ls B X nt ts e w' := by
  have HA : Hid (∀ ty, ∃ v' w', (Builtin.append_ #[58, 58] ty #[.slice none 0 0, .slice uo nt uc]).run Try.prog w = .ok v' w' ∧ ∃ ro rc, v' = .slice ro nt rc ∧ Hid (NLP w n cb ls B X nt ts (.returned (ptZ w'.heap.size)) (w'.alloc (.cells #[.slice ro nt rc, .int .i64 0] 73)))) := fun ty => by
    obtain ⟨v', w', hr, h2, h3, h4, _⟩ := app_at (TS := 58) (TE := 61) Try.underlying58 infoZT rfl (by omega) (w := w) ty w.heap.size (.slice none 0 0) 0 [] (World.ownsRow_nil _ _ _ _) uo nt uc _ (by simp) hu h0 (tvZ_one cb _) (by unfold maxLen; omega) (by omega) (Nat.le_refl _)
    rw [Nat.zero_add, List.nil_append] at h2
    have hbl : RowKit.Below w.heap.size w w' := ⟨h3.os, h3.tape, h3.output, h3.size, fun k hk => h3.block k hk (by simp [Value.ownBlock])⟩
    obtain ⟨ro, rc, e⟩ : ∃ ro rc, v' = .slice ro nt rc := by
      obtain ⟨_, ⟨e, e2⟩ | ⟨g, cap, cur, e, _⟩⟩ := h2
      · exact ⟨none, 0, by rw [e, e2]⟩
      · exact ⟨_, _, e⟩
    subst e
    have ho : OwZ w.heap.size 61 w' ro nt rc _ := h2
    refine ⟨_, w', hr, ro, rc, rfl, w'.heap.size, ro, rc, rfl, ?_, hbl.alloc h3.size _, h3.size, fun g hg => (ho.lt g hg).1⟩
    have hb1 : RowKit.Below w'.heap.size w' (w'.alloc (.cells #[.slice ro nt rc, .int .i64 0] 73)) := (Below.refl _ _).alloc (Nat.le_refl _) _
    refine ⟨(h.kept hbl).kept hb1, ⟨heap_alloc_new _ _ rfl, ?_, fun g hg => ?_⟩, hz, by omega, hb⟩
    · exact ho.at_.below hb1
    · obtain ⟨C, hC⟩ := ho.ty g hg
      exact ⟨C, (hb1.block _ (blk_ltZ hC)).trans hC⟩
  clear h hu hz hp h0
  go_enter Try.func27, Try.ntmps27
  go_wp2_with (at_builtin; refine wpL_appZ rfl _ _ 58 rfl (.slice none 0 0) (.slice uo nt uc) rfl rfl HA.out ?_; rintro v1 w1 ⟨ro, rc, rfl, HP⟩)
  go_ret
  exact HP.out
set_option maxHeartbeats 1000000 in
theorem indexFunc_any (h : SL w n cb ls B X lb ao nt tc ts k) : Calls Try.prog 41 #[.slice ao nt tc, .func (.func 40) #[] #[]] w fun e w' => e = .returned (.int .i64 (tkA (tkP ls B nt ts 0))) ∧ w' = w := by
  have HE := fun (z : Int) (hz : z < (n : Int)) => hidW (tready_any h.ci z hz)
  have HW := hidW h.ln.rw
  have HZ := hidW h.tz
  have hnb := h.nb
  have eg : ∀ args w, (callFunc 40 args).run Try.prog w = .ok (.enter 40 args) w := enters_of Try.func40 (by kernel_rfl) rfl
  clear h
  go_enter Try.func41, Try.ntmps41
  go_wp2_with fail
  go_loopw [5, 8] (fun _ y wr => ∃ i : Nat, i ≤ nt ∧ y = .int .i64 (i : Int) ∧ Hid (plcZ ls B i ts = []) ∧ wr = w) (fun _ y _ => nt - (intOf y).toNat)
  case atStart => exact ⟨0, Nat.zero_le _, rfl, rfl, rfl⟩
  case round =>
    obtain ⟨i, hi, rfl, HP, hwr⟩ := hrel
    subst hwr
    by_cases hlt : i < nt
    · obtain ⟨g, off, rfl, e1⟩ := HW.out.getZ i (by simp; exact hlt)
      simp only [List.getElem_map, List.getElem_range] at e1
      have HE1 := HE (ts i) (HZ.out i hlt)
      cases hez : rtZ ls B (ts i) with
      | false =>
        have HP2 : Hid (plcZ ls B (i + 1) ts = []) := by show _ = _; rw [plcZ_succ, hez, HP.out]; rfl
        rw [hez] at HE1
        clear hez
        rcases tvZ_ev cb (ts i) with ⟨b, hb⟩ | hb <;>
        · rw [hb] at e1 HE1
          go_wp2_with (go_at_fn 40; refine HE1.out.mono ?_; rintro e w2 ⟨rfl, hw2⟩; have hw2' := hw2.symm; subst hw2'; clear hw2)
          go_roundw
          case rel => exact ⟨i + 1, by omega, by go_num, HP2, trivial⟩
          case measure => simp [intOf]; omega
      | true =>
        have HF := hidW (tkP_first hlt HP.out hez)
        rw [hez] at HE1
        clear hez
        rcases tvZ_ev cb (ts i) with ⟨b, hb⟩ | hb <;>
        · rw [hb] at e1 HE1
          go_wp2_with (go_at_fn 40; refine HE1.out.mono ?_; rintro e w2 ⟨rfl, hw2⟩; have hw2' := hw2.symm; subst hw2'; clear hw2)
          go_ret
          exact ⟨by rw [HF.out]; rfl, rfl⟩
    · obtain rfl : i = nt := by omega
      have HF := hidW (tkP_nil 0 HP.out)
      go_wp2
      go_ret
      exact ⟨by rw [HF.out]; rfl, rfl⟩
/-- what Drain leaves -/
def DrPost (w : World) (n : Nat) (cb : Nat → Nat) (B : Nat → List Int) (X : Nat → Prop) (lb : Nat) (ao : Option Addr) (nt tc : Nat) (ts : Nat → Int) (k : Nat) (m : Nat) (ls' : Nat → Nat) (e : Ending) (w' : World) : Prop :=
  e = .returned (.int .i64 (m : Int)) ∧ SL w' n cb ls' B X lb ao nt tc ts (k + m) ∧ FrZ (fun j => X j ∨ j = lb) w w'
set_option maxHeartbeats 2000000 in
theorem drain_any (h : SL w n cb ls B X lb ao nt tc ts k) (most : Int) : Calls Try.prog 20 #[ptZ lb, .int .i64 most] w fun e w' => DrPost w n cb B X lb ao nt tc ts k (drK B nt ts most.toNat ls) (drL B nt ts most.toNat ls) e w' := by
  have HH := hidW h
  clear h
  go_enter Try.func20, Try.ntmps20
  go_wp2_with fail
  go_loopw [5, 6] (fun x _ wr => ∃ (t : Nat) (lr : Nat → Nat), x = .int .i64 (t : Int) ∧ t ≤ most.toNat ∧ Hid (SL wr n cb lr B X lb ao nt tc ts (k + t)) ∧ Hid (FrZ (fun j => X j ∨ j = lb) w wr) ∧ Hid (drL B nt ts (most.toNat - t) lr = drL B nt ts most.toNat ls ∧ t + drK B nt ts (most.toNat - t) lr = drK B nt ts most.toNat ls)) (fun x _ _ => most.toNat - (intOf x).toNat)
  case atStart => exact ⟨0, ls, rfl, Nat.zero_le _, HH.out, FrZ.refl _ _, rfl, by rw [Nat.zero_add, Nat.sub_zero]⟩
  case round =>
    clear HH
    obtain ⟨t, lr, rfl, ht, HS, HF, HE⟩ := hrel
    have htk : t ≤ 1000000000000 := by have := HS.out.pot; omega
    by_cases hlt : (t : Int) < most
    · have c0 : wr.cell? ⟨lb, 0, none⟩ = some (.slice ao nt tc) := by simp [World.cell?, HS.out.ln.ln]
      have HI := hidW (indexFunc_any HS.out)
      cases hp : tkP lr B nt ts 0 with
      | none =>
        rw [hp] at HI
        have HQ : Hid (DrPost w n cb B X lb ao nt tc ts k (drK B nt ts most.toNat ls) (drL B nt ts most.toNat ls) (.returned (.int .i64 (t : Int))) wr) := by
          obtain ⟨h1, h2⟩ := drL_none (B := B) (nt := nt) (ts := ts) (most.toNat - t) hp
          obtain ⟨h3, h4⟩ := HE.out
          rw [h1] at h3
          rw [h2, Nat.add_zero] at h4
          show DrPost _ _ _ _ _ _ _ _ _ _ _ _ _ _ _
          rw [← h3, ← h4]
          exact ⟨rfl, HS.out, HF.out⟩
        clear hp HE HS HF
        go_wp2_with fail
        refine HI.out.mono ?_
        rintro e w2 ⟨rfl, hw2⟩
        have hw2' := hw2.symm
        subst hw2'
        clear hw2
        simp only [tkA]
        go_wp2
        go_ret
        exact HQ.out
      | some p =>
        obtain ⟨hpn, hpr⟩ := tkP_some hp
        rw [hp] at HI
        have HST := hidW (lstep_any HS.out (ts p) (HS.out.tz p hpn) hpr)
        obtain ⟨hpos, _⟩ := rtZ_pos hpr
        obtain ⟨g, off2, hao, c2⟩ := HS.out.ln.rw.getZ p (by simpa using hpn)
        simp only [List.getElem_map, List.getElem_range] at c2
        rw [show tvZ cb (ts p) = .iface 44 (ptZ (cb (ts p).toNat)) by simp [tvZ]; omega] at c2 HST
        have HFin : Hid (∀ w3, SL w3 n cb (decZ lr (ts p).toNat) B X lb ao nt tc ts (k + t + 1) → FrZ (fun j => X j ∨ j = lb) wr w3 → Hid (SL w3 n cb (decZ lr (ts p).toNat) B X lb ao nt tc ts (k + (t + 1))) ∧ Hid (FrZ (fun j => X j ∨ j = lb) w w3) ∧ Hid (drL B nt ts (most.toNat - (t + 1)) (decZ lr (ts p).toNat) = drL B nt ts most.toNat ls ∧ (t + 1) + drK B nt ts (most.toNat - (t + 1)) (decZ lr (ts p).toNat) = drK B nt ts most.toNat ls)) := fun w3 h1 h2 => by
          refine ⟨h1, HF.out.trans h2, ?_⟩
          obtain ⟨h3, h4⟩ := HE.out
          obtain ⟨h5, h6⟩ := drL_some (B := B) (nt := nt) (ts := ts) (most.toNat - (t + 1)) hp
          rw [show most.toNat - (t + 1) + 1 = most.toNat - t by omega] at h5 h6
          rw [h5] at h3
          rw [h6] at h4
          exact ⟨h3, by omega⟩
        rw [hao] at c0 HI
        clear hp hpr HE HS HF hao hpos
        generalize decZ lr (ts p).toNat = lr' at *
        generalize cb (ts p).toNat = bb at *
        have hpI : (p : Int) < (nt : Int) := by omega
        go_wp2_with fail
        refine HI.out.mono ?_
        rintro e w2 ⟨rfl, hw2⟩
        have hw2' := hw2.symm
        subst hw2'
        clear hw2
        simp only [tkA]
        go_wp2_with fail
        refine HST.out.mono ?_
        rintro e w3 ⟨rfl, h1, h2⟩
        obtain ⟨HA, HB, HC⟩ := HFin.out w3 h1 h2
        clear h1 h2 HFin HST HI
        go_wp2
        go_roundw
        case rel => exact ⟨t + 1, lr', by go_num, by omega, HA, HB, HC⟩
        case measure => simp [intOf]; omega
    · have HQ : Hid (DrPost w n cb B X lb ao nt tc ts k (drK B nt ts most.toNat ls) (drL B nt ts most.toNat ls) (.returned (.int .i64 (t : Int))) wr) := by
        obtain ⟨h3, h4⟩ := HE.out
        rw [show most.toNat - t = 0 by omega] at h3 h4
        show DrPost _ _ _ _ _ _ _ _ _ _ _ _ _ _ _
        rw [← h3, ← h4]
        exact ⟨rfl, HS.out, HF.out⟩
      clear HE HS HF
      go_wp2
      go_ret
      exact HQ.out
end
end Go.Proofs.Yteobmijfbjgccaa
