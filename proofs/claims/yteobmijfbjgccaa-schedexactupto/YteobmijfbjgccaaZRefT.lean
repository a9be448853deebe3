/-
  THE DOCUMENT's LINE: Take, Play, Drain.
-/
import Derived.Test.YteobmijfbjgccaaZRefL
namespace Go.Proofs.Yteobmijfbjgccaa
open Go.RowKit Go.Sort

section
variable {w w' : World} {N rb : Nat} {ra : Option Addr} {rk n : Nat} {ls : Nat → Nat} {B : Nat → List Int} {ba : Nat → Option Addr} {bc : Nat → Nat} {db : Nat} {no : Option Addr} {nt nc : Nat} {ts : Nat → Int} {k : Nat}
set_option maxHeartbeats 4000000 in
theorem rtake_any (h : DL w N rb ra rk n ls B ba bc db no nt nc ts k) (pick : Int) : Calls Try.prog 30 #[ptZ db, .int .i64 pick] w fun e w' => RtPost w N rb ra rk n ls B ba bc db no nt nc ts k (tkP ls B nt ts pick) e w' := by
  have HR := hidW (rlready_any h)
  have HH := hidW h
  clear h
  by_cases hp : plcZ ls B nt ts = []
  · have HT := hidW (tkP_nil pick hp)
    rw [hp] at HR
    go_enter Try.func30, Try.ntmps30
    go_wp2_with fail
    refine HR.out.mono ?_
    rintro e w1 ⟨ro, c, rfl, _, hb⟩
    have HP : Hid (RtPost w N rb ra rk n ls B ba bc db no nt nc ts k (tkP ls B nt ts pick) (.returned (.int .i64 (-1))) w1) := by
      rw [HT.out]
      exact ⟨rfl, HH.out.kept hb, FrZ.ofBelow hb⟩
    clear hb HH HR hp
    simp only [List.length_nil]
    go_wp2
    go_ret
    exact HP.out
  · obtain ⟨p, hpk⟩ := tkP_ne pick hp
    have hl : 0 < (plcZ ls B nt ts).length := List.length_pos_iff.2 hp
    have hl2 : (plcZ ls B nt ts).length ≤ 10000000 := Nat.le_trans (plcZ_len _ _ _ _) HH.out.nb
    obtain ⟨m, hm⟩ : ∃ m, m = (plcZ ls B nt ts).length := ⟨_, rfl⟩
    obtain ⟨j, hj⟩ : ∃ j : Nat, j = (pick % (m : Int)).toNat := ⟨_, rfl⟩
    have hji : pick % (m : Int) = (j : Int) := by have := Int.emod_nonneg pick (b := (m : Int)) (by omega); omega
    have hjm : j < m := by have := Int.emod_lt_of_pos pick (b := (m : Int)) (by omega); omega
    have HPJ : Hid ((plcZ ls B nt ts)[j]? = some p) := by show _ = _; rw [← hpk, tkP, hj, hm]
    have hmb : m ≤ 10000000 := by omega
    obtain ⟨hpn, hpr⟩ := tkP_some hpk
    have HP : Hid (∀ e w1, RdP w (plcZ ls B nt ts) e w1 → ∃ b off c, e = .returned (.slice (some ⟨b, off, none⟩) m c) ∧ w1.cell? ⟨b, off + j, none⟩ = some (.int .i64 (p : Int)) ∧ Hid (RowKit.Below w.heap.size w w1 ∧ ∃ C, w1.heap[b]? = some (.cells C 3 (0, 0)))) := by
      rintro e w1 ⟨ro, c, rfl, ho, hb⟩
      obtain ⟨b, off, rfl, h2⟩ := iNs_at ho.at_ HPJ.out
      exact ⟨b, off, c, by rw [hm], h2, hb, ho.ty _ rfl⟩
    have HPR := hidW hpr
    have HPK := hidW hpk
    have hmI : (m : Int) ≠ 0 := by omega
    have hmN : ((m : Int) == 0) = false := by rw [beq_eq_false_iff_ne]; omega
    have hjI : (j : Int) < (m : Int) := by omega
    obtain ⟨hq1, hq2, hq3⟩ := emod_tmod pick m (by omega)
    rw [hji] at hq1
    have hwr : IntKind.i64.wrap (pick.tmod m) = pick.tmod m := by generalize pick.tmod m = y at *; rw [IntKind.wrap_i64]; omega
    have hwr2 : IntKind.i64.wrap (pick.tmod m + m) = pick.tmod m + m := by generalize pick.tmod m = y at *; rw [IntKind.wrap_i64]; omega
    clear hp hpk hl hpr hj hji HPJ hm
    go_enter Try.func30, Try.ntmps30
    go_wp2_with fail
    refine HR.out.mono ?_
    intro e w1 hne
    obtain ⟨b, off, c, rfl, c1, HB⟩ := HP.out e w1 hne
    clear hne HR HP
    have HS1 := hidW (HH.out.kept HB.out.1)
    obtain ⟨g2, off2, hno, c3⟩ := HS1.out.nw.int p (by simpa using hpn)
    simp only [List.getElem_map, List.getElem_range] at c3
    have hdl := HS1.out.dl
    have d0 : w1.cell? ⟨db, 0, none⟩ = some (ptZ rb) := by simp [World.cell?, hdl]
    have d1 : w1.cell? ⟨db, 1, none⟩ = some (.slice (some ⟨g2, off2, none⟩) nt nc) := by rw [← hno]; simp [World.cell?, hdl]
    clear hdl
    have HST := hidW (rstep_any (w := w1.drew) (HS1.out.rd.keptT (fun _ _ _ _ _ => rfl)) (ts p) (HS1.out.tz p hpn) HPR.out)
    have HFin : Hid (∀ w3, RD w3 N rb ra rk n (decZ ls (ts p).toNat) B ba bc → FrZ (fun j => ∃ g, ra = some g ∧ g.block = j) w1.drew w3 → (w3.cell? ⟨db, 0, none⟩ = some (ptZ rb) ∧ w3.cell? ⟨db, 1, none⟩ = some (.slice (some ⟨g2, off2, none⟩) nt nc) ∧ w3.cell? ⟨b, off + j, none⟩ = some (.int .i64 (p : Int)) ∧ w3.cell? ⟨g2, off2 + p, none⟩ = some (.int .i64 (ts p))) ∧ w3.cell? ⟨db, 2, none⟩ = some (.int .i64 (k : Int)) ∧ w3.frozen? ⟨db, 2, none⟩ = false ∧ k ≤ 1000000000000 ∧ (w3.setCell ⟨db, 2, none⟩ (.int .i64 ((k : Int) + 1))).cell? ⟨b, off + j, none⟩ = some (.int .i64 (p : Int)) ∧ RtPost w N rb ra rk n ls B ba bc db no nt nc ts k (tkP ls B nt ts pick) (.returned (.int .i64 (p : Int))) (w3.setCell ⟨db, 2, none⟩ (.int .i64 ((k : Int) + 1)))) := fun w3 hr hf => by
      have hf1 : FrZ (fun j => ∃ g, ra = some g ∧ g.block = j) w1 w3 := ⟨hf.os, hf.tape, hf.output, hf.size, hf.block⟩
      obtain ⟨hpo, hrd⟩ := rtZ_pos HPR.out
      obtain ⟨s1, s2, s3, s4, s5⟩ := HS1.out.stepped (by have := HS1.out.tz p hpn; omega) (rdZ_pos hrd).1 hr hf1
      obtain ⟨n1, n2⟩ := HS1.out.ne
      obtain ⟨Cb, hCb⟩ := HB.out.2
      have hbr : ∀ g, ra = some g → g.block ≠ b := fun g hg e => by
        obtain ⟨C, hC, _⟩ := HS1.out.rd.rt g hg
        rw [e, hCb] at hC; cases hC
      have hbd : b ≠ db := fun e => by rw [e, HS1.out.dl] at hCb; cases hCb
      have kd : ∀ o, w3.cell? ⟨db, o, none⟩ = w1.cell? ⟨db, o, none⟩ := fun o => by
        simp only [World.cell?]
        rw [hf1.block db (blk_ltZ HS1.out.dl) (fun hS => by obtain ⟨g, hg, e⟩ := hS; exact (n1 g hg).1 e)]
      have kb : ∀ o, w3.cell? ⟨b, o, none⟩ = w1.cell? ⟨b, o, none⟩ := fun o => by
        simp only [World.cell?]
        rw [hf1.block b (blk_ltZ hCb) (fun hS => by obtain ⟨g, hg, e⟩ := hS; exact hbr g hg e)]
      have kg : ∀ o, w3.cell? ⟨g2, o, none⟩ = w1.cell? ⟨g2, o, none⟩ := fun o => by
        obtain ⟨C, hC⟩ := HS1.out.nk _ hno
        simp only [World.cell?]
        rw [hf1.block g2 (blk_ltZ hC) (fun hS => by obtain ⟨g, hg, e⟩ := hS; exact (n1 g hg).2 _ hno e.symm)]
      refine ⟨⟨(kd 0).trans d0, (kd 1).trans d1, (kb _).trans c1, (kg _).trans c3⟩, s1, s2, s3, ?_, ?_⟩
      · have : (w3.setCell ⟨db, 2, none⟩ (.int .i64 ((k : Int) + 1))).cell? ⟨b, off + j, none⟩ = w3.cell? ⟨b, off + j, none⟩ := by
          simp only [World.cell?]
          rw [setW_block w3 ⟨db, 2, none⟩ _ b hbd]
        rw [this, kb]; exact c1
      · rw [HPK.out]
        exact ⟨rfl, s4, (FrZ.ofBelow HB.out.1).trans s5⟩
    clear HPR HPK HH HB HS1 hno
    generalize decZ ls (ts p).toNat = ls' at *
    generalize ts p = z at *
    have hpI : (p : Int) < (nt : Int) := by omega
    have hoff : off + j = off + j := rfl
    have hwj : wrap64 (j : Int) = (j : Int) := by unfold wrap64; omega
    by_cases hneg : pick.tmod m < 0
    · rw [if_pos hneg] at hq1
      have hq1' : pick.tmod m + m = (j : Int) := hq1.symm
      clear hq1 hwr2
      go_upto_region 7 with fail
      generalize pick.tmod m = pm at *
      go_region_held3 (fun w' => w'.cell? ⟨db, 0, none⟩ = some (ptZ rb) ∧ w'.cell? ⟨db, 1, none⟩ = some (.slice (some ⟨g2, off2, none⟩) nt nc) ∧ w'.cell? ⟨b, off + j, none⟩ = some (.int .i64 (p : Int)) ∧ w'.cell? ⟨g2, off2 + p, none⟩ = some (.int .i64 z)) (first | with_reducible exact HSx.out | go_keep) (first | (go_at_call 37; (with_reducible refine HST.out.mono ?_); rintro e w3 ⟨rfl, h1, h2⟩; have HQ := hidW (HFin.out w3 h1 h2); have HSx := hidW HQ.out.1; clear h1 h2))
      all_goals
        obtain ⟨_, s1, s2, s3, s4, _⟩ := HQ.out
        clear HFin HST
        go_wp2
        go_ret
        exact HQ.out.2.2.2.2.2
    · rw [if_neg hneg] at hq1
      have hq1' : pick.tmod m = (j : Int) := hq1.symm
      rw [hq1'] at hwr hneg
      clear hq1 hwr2
      go_upto_region 7 with fail
      go_region_held3 (fun w' => w'.cell? ⟨db, 0, none⟩ = some (ptZ rb) ∧ w'.cell? ⟨db, 1, none⟩ = some (.slice (some ⟨g2, off2, none⟩) nt nc) ∧ w'.cell? ⟨b, off + j, none⟩ = some (.int .i64 (p : Int)) ∧ w'.cell? ⟨g2, off2 + p, none⟩ = some (.int .i64 z)) (first | with_reducible exact HSx.out | go_keep) (first | (go_at_call 37; (with_reducible refine HST.out.mono ?_); rintro e w3 ⟨rfl, h1, h2⟩; have HQ := hidW (HFin.out w3 h1 h2); have HSx := hidW HQ.out.1; clear h1 h2))
      all_goals
        obtain ⟨_, s1, s2, s3, s4, _⟩ := HQ.out
        clear HFin HST
        go_wp2
        go_ret
        exact HQ.out.2.2.2.2.2
/-- what Play and Drain of the document leave -/
def RpPost (w : World) (N rb : Nat) (ra : Option Addr) (rk n : Nat) (B : Nat → List Int) (ba : Nat → Option Addr) (bc : Nat → Nat) (db : Nat) (no : Option Addr) (nt nc : Nat) (ts : Nat → Int) (k : Nat) (m : Nat) (ls' : Nat → Nat) (e : Ending) (w' : World) : Prop :=
  e = .returned (.int .i64 (m : Int)) ∧ DL w' N rb ra rk n ls' B ba bc db no nt nc ts (k + m) ∧ FrZ (fun j => (∃ g, ra = some g ∧ g.block = j) ∨ j = db) w w'
/-- of a row of numbers none is the document's own -/
theorem DL.notI (h : DL w N rb ra rk n ls B ba bc db no nt nc ts k) {g : Nat} {C : Array Value} (hg : w.heap[g]? = some (.cells C 3 (0, 0))) : ¬ ((∃ g', ra = some g' ∧ g'.block = g) ∨ g = db) := by
  rintro (⟨g', hg', e⟩ | e)
  · obtain ⟨C', hC, _⟩ := h.rd.rt g' hg'
    rw [e, hg] at hC; cases hC
  · rw [e, h.dl] at hg; cases hg
set_option maxHeartbeats 2000000 in
theorem rplay_any (h : DL w N rb ra rk n ls B ba bc db no nt nc ts k) (po : Option Addr) (m c : Nat) (ps : List Int) (hm : m = ps.length) (hp : WAt w po (i64s ps)) (hS : ps ≠ [] → ∀ g, po = some g → ¬ ((∃ g', ra = some g' ∧ g'.block = g.block) ∨ g.block = db)) (hb : m ≤ 1000000) :
    Calls Try.prog 32 #[ptZ db, .slice po m c] w fun e w' => RpPost w N rb ra rk n B ba bc db no nt nc ts k (plK B nt ts ps ls) (plL B nt ts ps ls) e w' := by
  have HH := hidW h
  have HM := hidW hm
  have HW := hidW hp
  have HS := hidW hS
  clear h hm hp hS
  go_enter Try.func32, Try.ntmps32
  go_wp2_with fail
  go_loopw [5, 6] (fun x y wr => ∃ (i t : Nat) (lr : Nat → Nat), y = .int .i64 (i : Int) ∧ x = .int .i64 (t : Int) ∧ i ≤ m ∧ t ≤ i ∧ Hid (DL wr N rb ra rk n lr B ba bc db no nt nc ts (k + t)) ∧ Hid (FrZ (fun j => (∃ g, ra = some g ∧ g.block = j) ∨ j = db) w wr) ∧ Hid (plL B nt ts (ps.drop i) lr = plL B nt ts ps ls ∧ t + plK B nt ts (ps.drop i) lr = plK B nt ts ps ls)) (fun _ y _ => m - (intOf y).toNat)
  case atStart => exact ⟨0, 0, ls, rfl, rfl, Nat.zero_le _, Nat.zero_le _, HH.out, FrZ.refl _ _, rfl, by rw [Nat.zero_add, List.drop_zero]⟩
  case round =>
    clear HH
    obtain ⟨i, t, lr, rfl, rfl, hi, hti, HD, HF, HE⟩ := hrel
    by_cases hlt : i < m
    · have hil : i < ps.length := by have := HM.out; omega
      have HWr : Hid (WAt wr po (i64s ps)) := HW.out.sameZ (fun g hg => HF.out.block _ (by
        obtain ⟨b, off, e1, e2⟩ := HW.out.int i hil
        rw [hg] at e1
        have e3 := Option.some.inj e1
        rw [e3]
        exact cell_lt (p := ⟨b, off + i, none⟩) e2) (HS.out (List.ne_nil_of_length_pos (by omega)) g hg))
      obtain ⟨g, off, rfl, e1⟩ := HWr.out.int i hil
      have HDp : Hid (ps.drop i = ps[i] :: ps.drop (i + 1)) := List.drop_eq_getElem_cons hil
      generalize ps[i] = x at *
      have HT := hidW (rtake_any HD.out x)
      have HFin : Hid (∀ e w3, RtPost wr N rb ra rk n lr B ba bc db no nt nc ts (k + t) (tkP lr B nt ts x) e w3 → e = .returned (.int .i64 (tkA (tkP lr B nt ts x))) ∧ Hid (DL w3 N rb ra rk n (tkL lr ts (tkP lr B nt ts x)) B ba bc db no nt nc ts (k + (t + tkK (tkP lr B nt ts x)))) ∧ Hid (FrZ (fun j => (∃ g, ra = some g ∧ g.block = j) ∨ j = db) w w3) ∧ Hid (plL B nt ts (ps.drop (i + 1)) (tkL lr ts (tkP lr B nt ts x)) = plL B nt ts ps ls ∧ (t + tkK (tkP lr B nt ts x)) + plK B nt ts (ps.drop (i + 1)) (tkL lr ts (tkP lr B nt ts x)) = plK B nt ts ps ls)) := fun e w3 hh => by
        obtain ⟨h1, h2, h3⟩ := hh
        obtain ⟨h4, h5⟩ := HE.out
        rw [HDp.out] at h4 h5
        simp only [plL, plK] at h4 h5
        exact ⟨h1, by rw [← Nat.add_assoc]; exact h2, HF.out.trans h3, h4, by omega⟩
      clear HD HF HE HDp HWr
      generalize tkL lr ts (tkP lr B nt ts x) = lr' at *
      cases hp : tkP lr B nt ts x with
      | none =>
        rw [hp] at HFin HT
        go_wp2_with fail
        refine HT.out.mono ?_
        intro e w3 hh
        obtain ⟨rfl, HA, HB, HC2⟩ := HFin.out e w3 hh
        simp only [tkA]
        clear hh HFin HT hp
        go_wp2
        go_roundw
        case rel => exact ⟨i + 1, t, lr', by go_num, rfl, by omega, by omega, HA, HB, HC2⟩
        case measure => simp [intOf]; omega
      | some p =>
        rw [hp] at HFin HT
        have hp0 : (0 : Int) ≤ (p : Int) := by omega
        go_wp2_with fail
        refine HT.out.mono ?_
        intro e w3 hh
        obtain ⟨rfl, HA, HB, HC2⟩ := HFin.out e w3 hh
        simp only [tkA]
        clear hh HFin HT hp
        go_wp2
        go_roundw
        case rel => exact ⟨i + 1, t + 1, lr', by go_num, by go_num, by omega, by omega, HA, HB, HC2⟩
        case measure => simp [intOf]; omega
    · obtain rfl : i = m := by omega
      have HQ : Hid (RpPost w N rb ra rk n B ba bc db no nt nc ts k (plK B nt ts ps ls) (plL B nt ts ps ls) (.returned (.int .i64 (t : Int))) wr) := by
        obtain ⟨h3, h4⟩ := HE.out
        rw [HM.out, List.drop_length] at h3 h4
        simp only [plL, plK] at h3 h4
        unfold RpPost
        rw [← h3, ← h4]
        exact ⟨rfl, HD.out, HF.out⟩
      clear HE HD HF
      go_wp2
      go_ret
      exact HQ.out
set_option maxHeartbeats 2000000 in
theorem rdrain_any (h : DL w N rb ra rk n ls B ba bc db no nt nc ts k) (most : Int) : Calls Try.prog 33 #[ptZ db, .int .i64 most] w fun e w' => RpPost w N rb ra rk n B ba bc db no nt nc ts k (drK B nt ts most.toNat ls) (drL B nt ts most.toNat ls) e w' := by
  have HH := hidW h
  clear h
  go_enter Try.func33, Try.ntmps33
  go_wp2_with fail
  go_loopw [5] (fun x wr => ∃ (t : Nat) (lr : Nat → Nat), x = .int .i64 (t : Int) ∧ t ≤ most.toNat ∧ Hid (DL wr N rb ra rk n lr B ba bc db no nt nc ts (k + t)) ∧ Hid (FrZ (fun j => (∃ g, ra = some g ∧ g.block = j) ∨ j = db) w wr) ∧ Hid (drL B nt ts (most.toNat - t) lr = drL B nt ts most.toNat ls ∧ t + drK B nt ts (most.toNat - t) lr = drK B nt ts most.toNat ls)) (fun x _ => most.toNat - (intOf x).toNat)
  case atStart => exact ⟨0, ls, rfl, Nat.zero_le _, HH.out, FrZ.refl _ _, rfl, by rw [Nat.zero_add, Nat.sub_zero]⟩
  case round =>
    clear HH
    obtain ⟨t, lr, rfl, ht, HD, HF, HE⟩ := hrel
    have htk : t ≤ 1000000000000 := by have := HD.out.pot; omega
    by_cases hlt : (t : Int) < most
    · have HT := hidW (rtake_any HD.out 0)
      cases hp : tkP lr B nt ts 0 with
      | none =>
        have HQ : Hid (∀ w3, DL w3 N rb ra rk n lr B ba bc db no nt nc ts (k + t) → FrZ (fun j => (∃ g, ra = some g ∧ g.block = j) ∨ j = db) wr w3 → RpPost w N rb ra rk n B ba bc db no nt nc ts k (drK B nt ts most.toNat ls) (drL B nt ts most.toNat ls) (.returned (.int .i64 (t : Int))) w3) := fun w3 hd hf => by
          obtain ⟨h1, h2⟩ := drL_none (B := B) (nt := nt) (ts := ts) (most.toNat - t) hp
          obtain ⟨h3, h4⟩ := HE.out
          rw [h1] at h3
          rw [h2, Nat.add_zero] at h4
          unfold RpPost
          rw [← h3, ← h4]
          exact ⟨rfl, hd, HF.out.trans hf⟩
        rw [hp] at HT
        clear HE HD HF hp
        go_wp2_with fail
        refine HT.out.mono ?_
        rintro e w3 ⟨rfl, h1, h2⟩
        simp only [tkA, tkL, tkK, Nat.add_zero] at h1 ⊢
        have HQ1 := hidW (HQ.out w3 h1 h2)
        clear h1 h2 HT HQ
        go_wp2
        go_ret
        exact HQ1.out
      | some p =>
        have HFin : Hid (∀ w3, DL w3 N rb ra rk n (decZ lr (ts p).toNat) B ba bc db no nt nc ts (k + t + 1) → FrZ (fun j => (∃ g, ra = some g ∧ g.block = j) ∨ j = db) wr w3 → Hid (DL w3 N rb ra rk n (decZ lr (ts p).toNat) B ba bc db no nt nc ts (k + (t + 1))) ∧ Hid (FrZ (fun j => (∃ g, ra = some g ∧ g.block = j) ∨ j = db) w w3) ∧ Hid (drL B nt ts (most.toNat - (t + 1)) (decZ lr (ts p).toNat) = drL B nt ts most.toNat ls ∧ (t + 1) + drK B nt ts (most.toNat - (t + 1)) (decZ lr (ts p).toNat) = drK B nt ts most.toNat ls)) := fun w3 h1 h2 => by
          refine ⟨h1, HF.out.trans h2, ?_⟩
          obtain ⟨h3, h4⟩ := HE.out
          obtain ⟨h5, h6⟩ := drL_some (B := B) (nt := nt) (ts := ts) (most.toNat - (t + 1)) hp
          rw [show most.toNat - (t + 1) + 1 = most.toNat - t by omega] at h5 h6
          rw [h5] at h3
          rw [h6] at h4
          exact ⟨h3, by omega⟩
        rw [hp] at HT
        clear HE HD HF hp
        have hp0 : (0 : Int) ≤ (p : Int) := by omega
        go_wp2_with fail
        refine HT.out.mono ?_
        rintro e w3 ⟨rfl, h1, h2⟩
        simp only [tkA, tkL, tkK] at h1 ⊢
        obtain ⟨HA, HB, HC⟩ := HFin.out w3 h1 h2
        clear h1 h2 HFin HT
        go_wp2
        go_roundw
        case rel => exact ⟨t + 1, decZ lr (ts p).toNat, by go_num, by omega, HA, HB, HC⟩
        case measure => simp [intOf]; omega
    · have HQ : Hid (RpPost w N rb ra rk n B ba bc db no nt nc ts k (drK B nt ts most.toNat ls) (drL B nt ts most.toNat ls) (.returned (.int .i64 (t : Int))) wr) := by
        obtain ⟨h3, h4⟩ := HE.out
        rw [show most.toNat - t = 0 by omega] at h3 h4
        unfold RpPost
        rw [← h3, ← h4]
        exact ⟨rfl, HD.out, HF.out⟩
      clear HE HD HF
      go_wp2
      go_ret
      exact HQ.out
end
end Go.Proofs.Yteobmijfbjgccaa
