/-
  THE DOCUMENT's LINE: Ready, Take.
-/
import Derived.Test.YteobmijfbjgccaaZRef
namespace Go.Proofs.Yteobmijfbjgccaa
open Go.RowKit Go.Sort

theorem emod_tmod (x : Int) (m : Nat) (h0 : 0 < m) : x % (m : Int) = (if x.tmod m < 0 then x.tmod m + m else x.tmod m) ∧ -(m : Int) < x.tmod m ∧ x.tmod m < m := by
  have h1 : (m : Int) ≠ 0 := by omega
  have h2 : -(m : Int) < x.tmod m ∧ x.tmod m < m := ⟨by have := Int.tmod_lt_of_pos (-x) (b := (m : Int)) (by omega); rw [Int.neg_tmod] at this; omega, Int.tmod_lt_of_pos x (by omega)⟩
  refine ⟨?_, h2⟩
  rw [Int.tmod_def] at *
  have e1 := Int.emod_nonneg x h1
  have e2 := Int.emod_lt_of_pos x (b := (m : Int)) (by omega)
  have e3 : (x - (m : Int) * x.tdiv m) % (m : Int) = x % (m : Int) := by
    rw [show x - (m : Int) * x.tdiv m = x + m * (-(x.tdiv m)) by rw [Int.mul_neg]; omega, Int.add_mul_emod_self_left]
  generalize x - (m : Int) * x.tdiv m = y at *
  rw [← e3]
  split
  · rw [← Int.add_emod_right, Int.emod_eq_of_lt (by omega) (by omega)]
  · rw [Int.emod_eq_of_lt (by omega) (by omega)]
/-- THE DOCUMENT's CHORES AND LINE -/
structure DL (w : World) (N rb : Nat) (ra : Option Addr) (rk n : Nat) (ls : Nat → Nat) (B : Nat → List Int) (ba : Nat → Option Addr) (bc : Nat → Nat) (db : Nat) (no : Option Addr) (nt nc : Nat) (ts : Nat → Int) (k : Nat) : Prop where
  rd : RD w N rb ra rk n ls B ba bc
  dl : w.heap[db]? = some (.cells #[ptZ rb, .slice no nt nc, .int .i64 (k : Int)] 63 (0, 0))
  nw : WAt w no (i64s ((List.range nt).map ts))
  nk : ∀ g, no = some g → ∃ C, w.heap[g.block]? = some (.cells C 3 (0, 0))
  tz : ∀ i, i < nt → ts i < (n : Int)
  pot : k + totZ n ls ≤ 1000000000000
  nb : nt ≤ 10000000
section
variable {w w' : World} {N rb : Nat} {ra : Option Addr} {rk n : Nat} {ls : Nat → Nat} {B : Nat → List Int} {ba : Nat → Option Addr} {bc : Nat → Nat} {db : Nat} {no : Option Addr} {nt nc : Nat} {ts : Nat → Int} {k : Nat}
theorem DL.keptT (h : DL w N rb ra rk n ls B ba bc db no nt nc ts k) (hf : TyF docT w w') : DL w' N rb ra rk n ls B ba bc db no nt nc ts k := by
  refine ⟨h.rd.keptT hf, (hf _ _ _ h.dl (.inr (.inr (.inr rfl)))).trans h.dl, h.nw.sameZ (fun g hg => ?_), fun g hg => ?_, h.tz, h.pot, h.nb⟩
  · obtain ⟨C, hC⟩ := h.nk g hg
    exact hf _ _ _ hC (.inr (.inr (.inl rfl)))
  · obtain ⟨C, hC⟩ := h.nk g hg
    exact ⟨C, (hf _ _ _ hC (.inr (.inr (.inl rfl)))).trans hC⟩
theorem DL.kept (h : DL w N rb ra rk n ls B ba bc db no nt nc ts k) (hb : RowKit.Below w.heap.size w w') : DL w' N rb ra rk n ls B ba bc db no nt nc ts k := h.keptT (TyF.ofBelow hb)
theorem RD.drewN (h : RD w N rb ra rk n ls B ba bc) (q : Nat) : RD (w.drewN q) N rb ra rk n ls B ba bc := h.keptT (fun _ _ _ _ _ => rfl)
set_option maxHeartbeats 2000000 in
theorem rlready_any (h : DL w N rb ra rk n ls B ba bc db no nt nc ts k) : Calls Try.prog 28 #[ptZ db] w fun e w' => RdP w (plcZ ls B nt ts) e w' := by
  have HE := fun (wr : World) (hbl : RowKit.Below w.heap.size w wr) (z : Int) (hz : z < (n : Int)) => hidW (fun (q : Nat) => rready_any ((h.rd.keptT (TyF.ofBelow hbl)).drewN q) z hz)
  have HC := fun (wr : World) (hbl : RowKit.Below w.heap.size w wr) => (hidW (show wr.cell? ⟨db, 0, none⟩ = some (ptZ rb) ∧ wr.cell? ⟨db, 1, none⟩ = some (.slice no nt nc) by
    have := (h.kept hbl).dl
    constructor <;> simp [World.cell?, this]))
  have HW := hidW h.nw
  have HZ := hidW h.tz
  have hnb := h.nb
  clear h
  go_enter Try.func28, Try.ntmps28
  go_wp2_with fail
  go_loopw [3, 4, 5] (fun x y _ wr => ∃ (i t : Nat) (ro : Option Addr) (rc : Nat), i ≤ nt ∧ y = .int .i64 (i : Int) ∧ x = .slice ro t rc ∧ Hid (t = (plcZ ls B i ts).length) ∧ Hid (OwZ w.heap.size 3 wr ro t rc (iNs (plcZ ls B i ts))) ∧ Hid (RowKit.Below w.heap.size w wr)) (fun _ y _ _ => nt - (intOf y).toNat)
  case atStart => exact ⟨0, 0, none, 0, Nat.zero_le _, rfl, rfl, rfl, OwZ.nil _ _ _, Below.refl _ _⟩
  case round =>
    obtain ⟨i, t, ro, rc, hi, rfl, rfl, HT, HO, HB⟩ := hrel
    obtain ⟨c0, c1⟩ := (HC wr HB.out).out
    by_cases hlt : i < nt
    · obtain ⟨g, off, hno, e1⟩ := (HW.out.below HB.out).int i (by simp; exact hlt)
      simp only [List.getElem_map, List.getElem_range] at e1
      rw [hno] at c1
      have HS := hidW (plcZ_succ ls B i ts)
      have HTb : Hid (t ≤ i) := by have h1 := HT.out; have h2 := plcZ_len ls B i ts; show _ ≤ _; omega
      have HE1 := HE wr HB.out (ts i) (HZ.out i hlt)
      have hiI : (i : Int) < (nt : Int) := by omega
      cases hez : rtZ ls B (ts i) with
      | false =>
        have HSf : Hid (plcZ ls B (i + 1) ts = plcZ ls B i ts) := by show _ = _; rw [HS.out]; simp [hez]
        have HT2 : Hid (t = (plcZ ls B (i + 1) ts).length) := by show _ = _; rw [HSf.out]; exact HT.out
        have HO2 : Hid (OwZ w.heap.size 3 wr ro t rc (iNs (plcZ ls B (i + 1) ts))) := by show OwZ _ _ _ _ _ _ _; rw [HSf.out]; exact HO.out
        rw [hez] at HE1
        generalize ts i = z at *
        clear hez HSf HS
        go_wp2_with fail
        go_quiet (first | (go_at_call 35; exact Calls.quiet_of_same (HE1.out _)))
        have HO3 : Hid (OwZ w.heap.size 3 (wr.drewN nq) ro t rc (iNs (plcZ ls B (i + 1) ts))) := HO2.out.kept (fun _ _ => rfl)
        have HB3 : Hid (RowKit.Below w.heap.size w (wr.drewN nq)) := below_drewN HB.out nq
        generalize wr.drewN nq = W1 at *
        go_wp2_with fail
        go_roundw
        case rel => exact ⟨i + 1, t, ro, rc, by omega, by go_num, rfl, HT2, HO3, HB3⟩
        case measure => simp [intOf]; omega
      | true =>
        have HSt : Hid (plcZ ls B (i + 1) ts = plcZ ls B i ts ++ [i]) := by show _ = _; rw [HS.out]; simp [hez]
        rw [hez] at HE1
        generalize ts i = z at *
        clear hez HS
        go_wp2_with fail
        go_quiet (first | (go_at_call 35; exact Calls.quiet_of_same (HE1.out _)))
        have HO3 : Hid (OwZ w.heap.size 3 (wr.drewN nq) ro t rc (iNs (plcZ ls B i ts))) := HO.out.kept (fun _ _ => rfl)
        have HB3 : Hid (RowKit.Below w.heap.size w (wr.drewN nq)) := below_drewN HB.out nq
        generalize wr.drewN nq = W1 at *
        have HA := hidW (appZ (TS := 23) (TE := 3) Try.underlying23 infoZI rfl HO3.out HB3.out.size (.int .i64 (i : Int)) rfl (by have := HTb.out; unfold maxLen; omega) (by have := HTb.out; omega))
        clear e1 c0 c1
        go_wp2_with (at_builtin; refine wpL_appZ rfl _ _ 23 rfl (.slice ro t rc) (.slice (some ⟨W1.heap.size, 0, none⟩) 1 1) rfl rfl HA.out ?_; rintro v1 w1 ⟨ro1, rc1, rfl, ho1, hf1, _⟩; have HO1 := hidW ho1; have HF1 := hidW hf1; clear ho1 hf1)
        have HT2 : Hid (t + 1 = (plcZ ls B (i + 1) ts).length) := by show _ = _; rw [HSt.out, List.length_append, ← HT.out]; rfl
        have HO2 : Hid (OwZ w.heap.size 3 w1 ro1 (t + 1) rc1 (iNs (plcZ ls B (i + 1) ts))) := by show OwZ _ _ _ _ _ _ _; rw [HSt.out, iNs, List.map_append, i64s, List.map_append]; exact HO1.out
        have HB2 : Hid (RowKit.Below w.heap.size w w1) := HB3.out.trans (HF1.out.below HB3.out.size (fun k hk => by obtain ⟨g, hg, rfl⟩ := hk; exact (HO3.out.lt g hg).1))
        go_roundw
        case rel => exact ⟨i + 1, t + 1, ro1, rc1, by omega, by go_num, rfl, HT2, HO2, HB2⟩
        case measure => simp [intOf]; omega
    · obtain rfl : i = nt := by omega
      have HP : Hid (RdP w (plcZ ls B i ts) (.returned (.slice ro t rc)) wr) := by
        have h1 := HT.out
        have h2 := HO.out
        subst h1
        exact ⟨ro, rc, rfl, h2, HB.out⟩
      go_wp2
      go_ret
      exact HP.out
/-- what a Take of the document leaves -/
def RtPost (w : World) (N rb : Nat) (ra : Option Addr) (rk n : Nat) (ls : Nat → Nat) (B : Nat → List Int) (ba : Nat → Option Addr) (bc : Nat → Nat) (db : Nat) (no : Option Addr) (nt nc : Nat) (ts : Nat → Int) (k : Nat) (o : Option Nat) (e : Ending) (w' : World) : Prop :=
  e = .returned (.int .i64 (tkA o)) ∧ DL w' N rb ra rk n (tkL ls ts o) B ba bc db no nt nc ts (k + tkK o) ∧ FrZ (fun j => (∃ g, ra = some g ∧ g.block = j) ∨ j = db) w w'
theorem DL.ne (h : DL w N rb ra rk n ls B ba bc db no nt nc ts k) : (∀ g, ra = some g → g.block ≠ db ∧ (∀ g', no = some g' → g'.block ≠ g.block)) ∧ (∀ g', no = some g' → g'.block ≠ db) := by
  refine ⟨fun g hg => ⟨fun e => ?_, fun g' hg' e => ?_⟩, fun g' hg' e => ?_⟩
  · obtain ⟨C, hC, _⟩ := h.rd.rt g hg
    rw [e, h.dl] at hC; cases hC
  · obtain ⟨C, hC, _⟩ := h.rd.rt g hg
    obtain ⟨C', hC'⟩ := h.nk g' hg'
    rw [e, hC] at hC'; cases hC'
  · obtain ⟨C', hC'⟩ := h.nk g' hg'
    rw [e, h.dl] at hC'; cases hC'
/-- a step, and one more -/
theorem DL.stepped (h : DL w N rb ra rk n ls B ba bc db no nt nc ts k) {i : Nat} (hi : i < n) (h1 : ls i ≠ 0) {w1 : World} (hr : RD w1 N rb ra rk n (decZ ls i) B ba bc) (hf : FrZ (fun j => ∃ g, ra = some g ∧ g.block = j) w w1) :
    w1.cell? ⟨db, 2, none⟩ = some (.int .i64 (k : Int)) ∧ w1.frozen? ⟨db, 2, none⟩ = false ∧ k ≤ 1000000000000 ∧ DL (w1.setCell ⟨db, 2, none⟩ (.int .i64 ((k : Int) + 1))) N rb ra rk n (decZ ls i) B ba bc db no nt nc ts (k + 1) ∧ FrZ (fun j => (∃ g, ra = some g ∧ g.block = j) ∨ j = db) w (w1.setCell ⟨db, 2, none⟩ (.int .i64 ((k : Int) + 1))) := by
  obtain ⟨n1, n2⟩ := h.ne
  have e1 : w1.heap[db]? = w.heap[db]? := hf.block _ (blk_ltZ h.dl) (fun hS => by obtain ⟨g, hg, e⟩ := hS; exact (n1 g hg).1 e)
  have e2 := e1.trans h.dl
  have e3 := heap_setCell_same w1 db 2 _ _ (.int .i64 ((k : Int) + 1)) e2
  have hoth : ∀ j, j ≠ db → (w1.setCell ⟨db, 2, none⟩ (.int .i64 ((k : Int) + 1))).heap[j]? = w1.heap[j]? := fun j hj => setW_block w1 ⟨db, 2, none⟩ _ j hj
  have hro : ∀ g, no = some g → w1.heap[g.block]? = w.heap[g.block]? := fun g hg => by
    obtain ⟨C, hC⟩ := h.nk g hg
    exact hf.block _ (blk_ltZ hC) (fun hS => by obtain ⟨g', hg', e⟩ := hS; exact (n1 g' hg').2 g hg e.symm)
  have hd := totZ_dec hi h1
  have hp := h.pot
  refine ⟨by simp [World.cell?, e2], frozen_of_row w1 _ _ _ _ e2, by omega, ⟨?_, ?_, ?_, fun g hg => ?_, h.tz, by omega, h.nb⟩, ?_⟩
  · refine ⟨?_, ?_, fun j hj => ?_, hr.bi, hr.le, hr.nb⟩
    · rw [hoth rb (fun e => by have h2 := hr.hd; rw [e, e2] at h2; cases h2)]
      exact hr.hd
    · obtain ⟨hl, h2⟩ := hr.row
      refine ⟨hl, ?_⟩
      rcases h2 with h2 | ⟨g', cap, cur, e, hb, hh, r⟩
      · exact .inl h2
      · refine .inr ⟨g', cap, cur, e, hb, (hoth g' (fun e' => ?_)).trans hh, r⟩
        rw [e', e2] at hh; cases hh
    · obtain ⟨h2, h3, h4⟩ := hr.sub j hj
      have hne : ∀ g', ba j = some g' → g'.block ≠ db := fun g' hg' e => by
        obtain ⟨C, hC⟩ := h3 g' hg'
        rw [e, e2] at hC; cases hC
      refine ⟨h2.sameZ (fun g' hg' => hoth _ (hne g' hg')), fun g' hg' => ?_, h4⟩
      obtain ⟨C, hC⟩ := h3 g' hg'
      exact ⟨C, (hoth _ (hne g' hg')).trans hC⟩
  · rw [e3]
    simp only [Array.setIfInBounds]
    rfl
  · exact h.nw.sameZ (fun g hg => (hoth _ (n2 g hg)).trans (hro g hg))
  · obtain ⟨C, hC⟩ := h.nk g hg
    exact ⟨C, ((hoth _ (n2 g hg)).trans (hro g hg)).trans hC⟩
  · exact (hf.mono (fun j _ e => .inl e)).set ⟨db, 2, none⟩ _ (.inr (.inr rfl))
end
end Go.Proofs.Yteobmijfbjgccaa
