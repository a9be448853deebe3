/-
  A LINE: step, Take, Steps, New.
-/
import Derived.Test.YteobmijfbjgccaaZLine
namespace Go.Proofs.Yteobmijfbjgccaa
open Go.RowKit Go.Sort

section
variable {w : World} {n : Nat} {cb ls : Nat → Nat} {B : Nat → List Int} {X : Nat → Prop} {lb : Nat} {ao : Option Addr} {nt tc : Nat} {ts : Nat → Int} {k : Nat}
/-- a task's step, and one more -/
theorem SL.stepped (h : SL w n cb ls B X lb ao nt tc ts k) {i : Nat} (hi : i < n) (hr : rdZ ls B i = true) {w1 : World} (hc : CI w1 n cb (decZ ls i) B X) (hf : FrZ (fun j => j = cb i) w w1) :
    w1.cell? ⟨lb, 1, none⟩ = some (.int .i64 (k : Int)) ∧ w1.frozen? ⟨lb, 1, none⟩ = false ∧ k ≤ 1000000000000 ∧ SL (w1.setCell ⟨lb, 1, none⟩ (.int .i64 ((k : Int) + 1))) n cb (decZ ls i) B X lb ao nt tc ts (k + 1) ∧ FrZ (fun j => X j ∨ j = lb) w (w1.setCell ⟨lb, 1, none⟩ (.int .i64 ((k : Int) + 1))) := by
  obtain ⟨h1, h2⟩ := h.noX
  have hlb : lb ≠ cb i := fun e => h1 (e ▸ h.ci.xc i hi)
  have e1 : w1.heap[lb]? = w.heap[lb]? := hf.block _ (blk_ltZ h.ln.ln) hlb
  have e2 := e1.trans h.ln.ln
  have e3 := heap_setCell_same w1 lb 1 _ _ (.int .i64 ((k : Int) + 1)) e2
  have hoth : ∀ j, j ≠ lb → (w1.setCell ⟨lb, 1, none⟩ (.int .i64 ((k : Int) + 1))).heap[j]? = w1.heap[j]? := fun j hj => setW_block w1 ⟨lb, 1, none⟩ _ j hj
  have hro : ∀ g, ao = some g → w1.heap[g.block]? = w.heap[g.block]? := fun g hg => by
    obtain ⟨C, hC⟩ := h.ln.rt g hg
    exact hf.block _ (blk_ltZ hC) (fun e => (h2 g hg).1 (e ▸ h.ci.xc i hi))
  have hd := totZ_dec hi (rdZ_pos hr).1
  have hp := h.pot
  refine ⟨by simp [World.cell?, e2], frozen_of_row w1 _ _ _ _ e2, by omega, ⟨hc.same (fun j hj => hoth j (fun e => h1 (e ▸ hj))), ⟨?_, ?_, fun g hg => ?_⟩, h.tz, by omega, h.nb⟩, ?_⟩
  · rw [e3]
    simp only [Array.setIfInBounds]
    rfl
  · exact h.ln.rw.sameZ (fun g hg => (hoth _ (h2 g hg).2).trans (hro g hg))
  · obtain ⟨C, hC⟩ := h.ln.rt g hg
    exact ⟨C, ((hoth _ (h2 g hg).2).trans (hro g hg)).trans hC⟩
  · exact (hf.mono (fun j _ e => .inl (by rw [e]; exact h.ci.xc i hi))).set ⟨lb, 1, none⟩ _ (.inr (.inr rfl))
theorem lstep_any (h : SL w n cb ls B X lb ao nt tc ts k) (z : Int) (hz : z < (n : Int)) (hr : rtZ ls B z = true) :
    Calls Try.prog 39 #[ptZ lb, tvZ cb z] w fun e w' => e = .returned (.tuple #[]) ∧ SL w' n cb (decZ ls z.toNat) B X lb ao nt tc ts (k + 1) ∧ FrZ (fun j => X j ∨ j = lb) w w' := by
  obtain ⟨h0, hr⟩ := rtZ_pos hr
  rw [show tvZ cb z = .iface 44 (ptZ (cb z.toNat)) by simp [tvZ]; omega]
  have hi : z.toNat < n := by omega
  have HS := hidW (step_any h.ci z.toNat hi)
  rw [hr] at HS
  have HP := fun (w1 : World) (hc : CI w1 n cb (decZ ls z.toNat) B X) (hf : FrZ (fun j => j = cb z.toNat) w w1) => hidW (h.stepped hi hr hc hf)
  clear h hr hz h0 hi
  generalize decZ ls z.toNat = ls' at *
  generalize cb z.toNat = b at *
  go_enter Try.func39, Try.ntmps39
  go_wp2_with fail
  refine HS.out.mono ?_
  rintro e w1 ⟨rfl, hc, hf⟩
  have HQ := HP w1 hc hf
  clear hc hf HP HS
  obtain ⟨c0, f0, hk, _⟩ := HQ.out
  go_wp2
  go_end0
  exact ⟨rfl, HQ.out.2.2.2.1, HQ.out.2.2.2.2⟩
theorem steps_any (h : SL w n cb ls B X lb ao nt tc ts k) : Calls Try.prog 21 #[ptZ lb] w fun e w' => e = .returned (.int .i64 (k : Int)) ∧ w' = w := by
  have c0 : w.cell? ⟨lb, 1, none⟩ = some (.int .i64 (k : Int)) := by simp [World.cell?, h.ln.ln]
  clear h
  go_enter Try.func21, Try.ntmps21
  go_wp2
  go_ret
  exact ⟨rfl, rfl⟩
/-- what Take leaves -/
def TkPost (w : World) (n : Nat) (cb ls : Nat → Nat) (B : Nat → List Int) (X : Nat → Prop) (lb : Nat) (ao : Option Addr) (nt tc : Nat) (ts : Nat → Int) (k : Nat) (o : Option Nat) (e : Ending) (w' : World) : Prop :=
  e = .returned (.int .i64 (tkA o)) ∧ SL w' n cb (tkL ls ts o) B X lb ao nt tc ts (k + tkK o) ∧ FrZ (fun j => X j ∨ j = lb) w w'
theorem iNs_at {w : World} {ro : Option Addr} {P : List Nat} (h : WAt w ro (iNs P)) {j p : Nat} (hj : P[j]? = some p) : ∃ b off, ro = some ⟨b, off, none⟩ ∧ w.cell? ⟨b, off + j, none⟩ = some (.int .i64 (p : Int)) := by
  have hl : j < (P.map Int.ofNat).length := by simpa using (List.getElem?_eq_some_iff.1 hj).1
  obtain ⟨b, off, h1, h2⟩ := h.int j hl
  refine ⟨b, off, h1, ?_⟩
  rw [h2]
  have : P[j]'(by simpa using hl) = p := (List.getElem?_eq_some_iff.1 hj).2
  simp [this]
set_option maxHeartbeats 1000000 in
theorem take_any (h : SL w n cb ls B X lb ao nt tc ts k) (pick : Int) : Calls Try.prog 18 #[ptZ lb, .int .i64 pick] w fun e w' => TkPost w n cb ls B X lb ao nt tc ts k (tkP ls B nt ts pick) e w' := by
  have HR := hidW (lready_any h)
  have HH := hidW h
  have hlb := blk_ltZ h.ln.ln
  clear h
  by_cases hp : plcZ ls B nt ts = []
  · have HT := hidW (tkP_nil pick hp)
    rw [hp] at HR
    go_enter Try.func18, Try.ntmps18
    go_wp2_with fail
    refine HR.out.mono ?_
    rintro e w1 ⟨ro, c, rfl, _, hb⟩
    have HP : Hid (TkPost w n cb ls B X lb ao nt tc ts k (tkP ls B nt ts pick) (.returned (.int .i64 (-1))) w1) := by
      rw [HT.out]
      exact ⟨rfl, HH.out.kept hb, FrZ.ofBelow hb⟩
    clear hb HH HR hp
    simp only [List.length_nil]
    go_wp2
    go_ret
    exact HP.out
  · obtain ⟨p, hpk⟩ := tkP_ne pick hp
    have hl : 0 < (plcZ ls B nt ts).length := List.length_pos_iff.2 hp
    have hl2 : (plcZ ls B nt ts).length ≤ 10000000 := Nat.le_trans (plcZ_len _ _ _ _) HH.out.nb
    obtain ⟨m, hm⟩ : ∃ m, m = (plcZ ls B nt ts).length := ⟨_, rfl⟩
    obtain ⟨j, hj⟩ : ∃ j : Nat, j = (pick % (m : Int)).toNat := ⟨_, rfl⟩
    have hji : pick % (m : Int) = (j : Int) := by have := Int.emod_nonneg pick (b := (m : Int)) (by omega); omega
    have hjm : j < m := by have := Int.emod_lt_of_pos pick (b := (m : Int)) (by omega); omega
    have HPJ : Hid ((plcZ ls B nt ts)[j]? = some p) := by show _ = _; rw [← hpk, tkP, hj, hm]
    obtain ⟨hpn, hpr⟩ := tkP_some hpk
    have HM := fun (w1 : World) => hidW (modulo_any w1 pick m (by omega) (by omega))
    rw [hji] at HM
    have HP : Hid (∀ e w1, RdP w (plcZ ls B nt ts) e w1 → ∃ b off c, e = .returned (.slice (some ⟨b, off, none⟩) m c) ∧ w1.cell? ⟨b, off + j, none⟩ = some (.int .i64 (p : Int)) ∧ Hid (RowKit.Below w.heap.size w w1)) := by
      rintro e w1 ⟨ro, c, rfl, ho, hb⟩
      obtain ⟨b, off, rfl, h2⟩ := iNs_at ho.at_ HPJ.out
      exact ⟨b, off, c, by rw [hm], h2, hb⟩
    have HPR := hidW hpr
    have HPK := hidW hpk
    have hmI : (m : Int) ≠ 0 := by omega
    have hjI : (j : Int) < (m : Int) := by omega
    clear hp hpk hl hpr hj hji HPJ hm
    go_enter Try.func18, Try.ntmps18
    go_wp2_with fail
    refine HR.out.mono ?_
    intro e w1 hne
    obtain ⟨b, off, c, rfl, c1, HB⟩ := HP.out e w1 hne
    clear hne HR HP
    have HS1 := hidW (HH.out.kept HB.out)
    have HM1 := HM w1
    go_wp2_with fail
    refine HM1.out.mono ?_
    rintro e w2 ⟨rfl, hw2⟩
    have hw2' := hw2.symm
    subst hw2'
    clear hw2 HM1 HM
    have c0 : w1.cell? ⟨lb, 0, none⟩ = some (.slice ao nt tc) := by simp [World.cell?, HS1.out.ln.ln]
    obtain ⟨g, off2, hao, c2⟩ := HS1.out.ln.rw.getZ p (by simpa using hpn)
    simp only [List.getElem_map, List.getElem_range] at c2
    rw [hao] at c0
    have HST := hidW (lstep_any HS1.out (ts p) (HS1.out.tz p hpn) HPR.out)
    obtain ⟨_, hpos⟩ : True ∧ 0 ≤ ts p := ⟨trivial, (rtZ_pos HPR.out).1⟩
    rw [show tvZ cb (ts p) = .iface 44 (ptZ (cb (ts p).toNat)) by simp [tvZ]; omega] at c2 HST
    have HFin : Hid (∀ w3, SL w3 n cb (decZ ls (ts p).toNat) B X lb ao nt tc ts (k + 1) → FrZ (fun j => X j ∨ j = lb) w1 w3 → TkPost w n cb ls B X lb ao nt tc ts k (tkP ls B nt ts pick) (.returned (.int .i64 (p : Int))) w3) := fun w3 h1 h2 => by
      rw [HPK.out]
      exact ⟨rfl, h1, (FrZ.ofBelow HB.out).trans h2⟩
    clear HPR HPK HH HB HS1 hao hpos
    generalize cb (ts p).toNat = bb at *
    have hpI : (p : Int) < (nt : Int) := by omega
    go_wp2_with fail
    refine HST.out.mono ?_
    rintro e w3 ⟨rfl, h1, h2⟩
    have HQ := hidW (HFin.out w3 h1 h2)
    clear h1 h2 HFin HST
    go_wp2
    go_ret
    exact HQ.out
end
end Go.Proofs.Yteobmijfbjgccaa
