/-
  A LINE: ready, Ready, modulo, step, Take, Steps.
-/
import Derived.Test.YteobmijfbjgccaaZNew
namespace Go.Proofs.Yteobmijfbjgccaa
open Go.RowKit Go.Sort

/-- A LINE: in block lb, its tasks at ao -/
structure LN (w : World) (cb : Nat → Nat) (lb : Nat) (ao : Option Addr) (nt tc : Nat) (ts : Nat → Int) (k : Nat) : Prop where
  ln : w.heap[lb]? = some (.cells #[.slice ao nt tc, .int .i64 (k : Int)] 73 (0, 0))
  rw : WAt w ao (((List.range nt).map ts).map (tvZ cb))
  rt : ∀ g, ao = some g → ∃ C, w.heap[g.block]? = some (.cells C 61 (0, 0))
theorem LN.same {w w' : World} {cb : Nat → Nat} {lb : Nat} {ao : Option Addr} {nt tc : Nat} {ts : Nat → Int} {k : Nat} (h : LN w cb lb ao nt tc ts k) (h1 : w'.heap[lb]? = w.heap[lb]?) (h2 : ∀ g, ao = some g → w'.heap[g.block]? = w.heap[g.block]?) : LN w' cb lb ao nt tc ts k :=
  ⟨h1.trans h.ln, h.rw.sameZ h2, fun g hg => by obtain ⟨C, hC⟩ := h.rt g hg; exact ⟨C, (h2 g hg).trans hC⟩⟩
/-- CHORES AND A LINE OF THEM -/
structure SL (w : World) (n : Nat) (cb ls : Nat → Nat) (B : Nat → List Int) (X : Nat → Prop) (lb : Nat) (ao : Option Addr) (nt tc : Nat) (ts : Nat → Int) (k : Nat) : Prop where
  ci : CI w n cb ls B X
  ln : LN w cb lb ao nt tc ts k
  tz : ∀ i, i < nt → ts i < (n : Int)
  pot : k + totZ n ls ≤ 1000000000000
  nb : nt ≤ 10000000
section
variable {w : World} {n : Nat} {cb ls : Nat → Nat} {B : Nat → List Int} {X : Nat → Prop} {lb : Nat} {ao : Option Addr} {nt tc : Nat} {ts : Nat → Int} {k : Nat}
theorem SL.frame {S : Nat → Prop} {w' : World} (h : SL w n cb ls B X lb ao nt tc ts k) (hf : FrZ S w w') (hX : ∀ j, X j → ¬ S j) (hl : ¬ S lb) (hr : ∀ g, ao = some g → ¬ S g.block) : SL w' n cb ls B X lb ao nt tc ts k :=
  ⟨h.ci.frame hf hX, h.ln.same (hf.block _ (blk_ltZ h.ln.ln) hl) (fun g hg => by obtain ⟨C, hC⟩ := h.ln.rt g hg; exact hf.block _ (blk_ltZ hC) (hr g hg)), h.tz, h.pot, h.nb⟩
theorem SL.kept {w' : World} (h : SL w n cb ls B X lb ao nt tc ts k) (hb : RowKit.Below w.heap.size w w') : SL w' n cb ls B X lb ao nt tc ts k := h.frame (S := fun _ => False) (FrZ.ofBelow hb) (fun _ _ h => h) (fun h => h) (fun _ _ h => h)
theorem SL.noX (h : SL w n cb ls B X lb ao nt tc ts k) : ¬ X lb ∧ (∀ g, ao = some g → ¬ X g.block ∧ g.block ≠ lb) := by
  refine ⟨fun hx => ?_, fun g hg => ⟨fun hx => ?_, fun e => ?_⟩⟩
  · obtain ⟨C, T, h1, h2⟩ := h.ci.xt _ hx
    rw [h.ln.ln] at h1
    cases h1
    rcases h2 with h2 | h2 <;> cases h2
  · obtain ⟨C, T, h1, h2⟩ := h.ci.xt _ hx
    obtain ⟨C', hC⟩ := h.ln.rt g hg
    rw [hC] at h1
    cases h1
    rcases h2 with h2 | h2 <;> cases h2
  · obtain ⟨C', hC⟩ := h.ln.rt g hg
    rw [e, h.ln.ln] at hC
    cases hC
theorem tready_any (h : CI w n cb ls B X) (z : Int) (hz : z < (n : Int)) : Calls Try.prog 40 #[tvZ cb z] w fun e w' => e = .returned (.bool (rtZ ls B z)) ∧ w' = w := by
  by_cases h0 : z < 0
  · rw [show tvZ cb z = .nilIface by simp [tvZ, h0], show rtZ ls B z = false by simp [rtZ]; omega]
    go_enter Try.func40, Try.ntmps40
    go_wp2
    go_ret
    exact ⟨rfl, rfl⟩
  · rw [show tvZ cb z = .iface 44 (ptZ (cb z.toNat)) by simp [tvZ, h0], show rtZ ls B z = rdZ ls B z.toNat by simp [rtZ]; omega]
    have HR := hidW (ready_any h z.toNat (by omega))
    generalize rdZ ls B z.toNat = r at *
    generalize cb z.toNat = b at *
    clear h hz h0
    go_enter Try.func40, Try.ntmps40
    go_wp2_with fail
    refine HR.out.mono ?_
    rintro e w1 ⟨rfl, hw1⟩
    have hw1' := hw1.symm
    subst hw1'
    clear hw1
    go_wp2
    go_ret
    exact ⟨rfl, rfl⟩
def iNs (l : List Nat) : List Value := i64s (l.map Int.ofNat)
theorem tvZ_ev (cb : Nat → Nat) (z : Int) : (∃ b, tvZ cb z = .iface 44 (ptZ b)) ∨ tvZ cb z = .nilIface := by
  unfold tvZ
  split
  · exact .inr rfl
  · exact .inl ⟨_, rfl⟩
/-- what Ready of a line hands out -/
def RdP (w : World) (P : List Nat) (e : Ending) (w' : World) : Prop := ∃ ro c, e = .returned (.slice ro P.length c) ∧ OwZ w.heap.size 3 w' ro P.length c (iNs P) ∧ RowKit.Below w.heap.size w w'
set_option maxHeartbeats 1000000 in
theorem lready_any (h : SL w n cb ls B X lb ao nt tc ts k) : Calls Try.prog 19 #[ptZ lb] w fun e w' => RdP w (plcZ ls B nt ts) e w' := by
  have HE := fun (wr : World) (hbl : RowKit.Below w.heap.size w wr) (z : Int) (hz : z < (n : Int)) => hidW (tready_any (h.ci.kept hbl) z hz)
  have c0 : w.cell? ⟨lb, 0, none⟩ = some (.slice ao nt tc) := by simp [World.cell?, h.ln.ln]
  have HW := hidW h.ln.rw
  have HZ := hidW h.tz
  have hnb := h.nb
  clear h
  go_enter Try.func19, Try.ntmps19
  go_wp2_with fail
  clear c0
  go_loopw [3, 11] (fun x y wr => ∃ (i t : Nat) (ro : Option Addr) (rc : Nat), i ≤ nt ∧ y = .int .i64 (i : Int) ∧ x = .slice ro t rc ∧ Hid (t = (plcZ ls B i ts).length) ∧ Hid (OwZ w.heap.size 3 wr ro t rc (iNs (plcZ ls B i ts))) ∧ Hid (RowKit.Below w.heap.size w wr)) (fun _ y _ => nt - (intOf y).toNat)
  case atStart => exact ⟨0, 0, none, 0, Nat.zero_le _, rfl, rfl, rfl, OwZ.nil _ _ _, Below.refl _ _⟩
  case round =>
    obtain ⟨i, t, ro, rc, hi, rfl, rfl, HT, HO, HB⟩ := hrel
    by_cases hlt : i < nt
    · obtain ⟨g, off, rfl, e1⟩ := (HW.out.below HB.out).getZ i (by simp; exact hlt)
      simp only [List.getElem_map, List.getElem_range] at e1
      have HS := hidW (plcZ_succ ls B i ts)
      have HTb : Hid (t ≤ i) := by have h1 := HT.out; have h2 := plcZ_len ls B i ts; show _ ≤ _; omega
      have HE1 := HE wr HB.out (ts i) (HZ.out i hlt)
      have HA := hidW (appZ (TS := 23) (TE := 3) Try.underlying23 infoZI rfl HO.out HB.out.size (.int .i64 (i : Int)) rfl (by have := HTb.out; unfold maxLen; omega) (by have := HTb.out; omega))
      cases hez : rtZ ls B (ts i) with
      | false =>
        have HSf : Hid (plcZ ls B (i + 1) ts = plcZ ls B i ts) := by show _ = _; rw [HS.out]; simp [hez]
        have HT2 : Hid (t = (plcZ ls B (i + 1) ts).length) := by show _ = _; rw [HSf.out]; exact HT.out
        have HO2 : Hid (OwZ w.heap.size 3 wr ro t rc (iNs (plcZ ls B (i + 1) ts))) := by show OwZ _ _ _ _ _ _ _; rw [HSf.out]; exact HO.out
        rw [hez] at HE1
        clear hez HSf HS HA
        rcases tvZ_ev cb (ts i) with ⟨b, hb⟩ | hb <;>
        · rw [hb] at e1 HE1
          go_wp2_with fail
          refine HE1.out.mono ?_
          rintro e w2 ⟨rfl, hw2⟩
          have hw2' := hw2.symm
          subst hw2'
          clear hw2
          go_wp2
          go_roundw
          case rel => exact ⟨i + 1, t, ro, rc, by omega, by go_num, rfl, HT2, HO2, HB⟩
          case measure => simp [intOf]; omega
      | true =>
        have HSt : Hid (plcZ ls B (i + 1) ts = plcZ ls B i ts ++ [i]) := by show _ = _; rw [HS.out]; simp [hez]
        rw [hez] at HE1
        clear hez HS
        rcases tvZ_ev cb (ts i) with ⟨b, hb⟩ | hb <;>
        · rw [hb] at e1 HE1
          go_wp2_with fail
          refine HE1.out.mono ?_
          rintro e w2 ⟨rfl, hw2⟩
          have hw2' := hw2.symm
          subst hw2'
          clear hw2
          go_wp2_with (at_builtin; refine wpL_appZ rfl _ _ 23 rfl (.slice ro t rc) (.slice (some ⟨wr.heap.size, 0, none⟩) 1 1) rfl rfl HA.out ?_; rintro v1 w1 ⟨ro1, rc1, rfl, ho1, hf1, _⟩; have HO1 := hidW ho1; have HF1 := hidW hf1; clear ho1 hf1)
          have HT2 : Hid (t + 1 = (plcZ ls B (i + 1) ts).length) := by show _ = _; rw [HSt.out, List.length_append, ← HT.out]; rfl
          have HO2 : Hid (OwZ w.heap.size 3 w1 ro1 (t + 1) rc1 (iNs (plcZ ls B (i + 1) ts))) := by show OwZ _ _ _ _ _ _ _; rw [HSt.out, iNs, List.map_append, i64s, List.map_append]; exact HO1.out
          have HB2 : Hid (RowKit.Below w.heap.size w w1) := HB.out.trans (HF1.out.below HB.out.size (fun k hk => by obtain ⟨g, hg, rfl⟩ := hk; exact (HO.out.lt g hg).1))
          go_roundw
          case rel => exact ⟨i + 1, t + 1, ro1, rc1, by omega, by go_num, rfl, HT2, HO2, HB2⟩
          case measure => simp [intOf]; omega
    · obtain rfl : i = nt := by omega
      have HP : Hid (RdP w (plcZ ls B i ts) (.returned (.slice ro t rc)) wr) := by
        have h1 := HT.out
        have h2 := HO.out
        subst h1
        exact ⟨ro, rc, rfl, h2, HB.out⟩
      go_wp2
      go_ret
      exact HP.out
/-- a number brought to 0 up to n - 1 -/
theorem modulo_any (w : World) (x : Int) (m : Nat) (hm : 0 < m) (hm2 : m ≤ 1000000000000000) : Calls Try.prog 38 #[.int .i64 x, .int .i64 (m : Int)] w fun e w' => e = .returned (.int .i64 (x % (m : Int))) ∧ w' = w := by
  have h1 : (m : Int) ≠ 0 := by omega
  have h2 : -(m : Int) < x.tmod m ∧ x.tmod m < m := ⟨by have := Int.tmod_lt_of_pos (-x) (b := (m : Int)) (by omega); rw [Int.neg_tmod] at this; omega, Int.tmod_lt_of_pos x (by omega)⟩
  have h3 : (x.tmod m + m).tmod m = x % (m : Int) := by
    rw [Int.tmod_eq_emod_of_nonneg (by omega), Int.tmod_def]
    rw [show x - (m : Int) * x.tdiv m + m = x + m * (1 - x.tdiv m) by rw [Int.mul_sub]; omega, Int.add_mul_emod_self_left]
  have h4 : IntKind.i64.wrap (x.tmod m) = x.tmod m := by generalize x.tmod m = y at *; rw [IntKind.wrap_i64]; omega
  have h5 : IntKind.i64.wrap (x.tmod m + m) = x.tmod m + m := by generalize x.tmod m = y at *; rw [IntKind.wrap_i64]; omega
  have h7 := Int.emod_nonneg x h1
  have h8 := Int.emod_lt_of_pos x (b := (m : Int)) (by omega)
  have h6 : IntKind.i64.wrap (x % m) = x % m := by generalize x % (m : Int) = y at *; rw [IntKind.wrap_i64]; omega
  have HR := hidW h3
  go_enter Try.func38, Try.ntmps38
  go_wp2
  go_ret
  exact ⟨rfl, rfl⟩
end
end Go.Proofs.Yteobmijfbjgccaa
