import Derived.Test.YtbmohlkcmhhpgaaGreatJBkFit
import Derived.Test.YtbmohlkcmhhpgaaGreatJKRefSet
import Derived.Deep.RegionHeld3
/-
  The document's seen, pins.
-/
namespace Go.Proofs.YtbmohlkcmhhpgaaGreat
open Go.RowKit Go.Sort

theorem PinsAt.at {N : Nat} {w : World} {pa : Option Addr} {l : List (Int × Int)} (h : CsAt N w pa (pns l)) {i : Nat} (hi : i < l.length) : ∃ b off, pa = some ⟨b, off, none⟩ ∧ w.cell? ⟨b, off + i * 2, none⟩ = some (.int .i64 l[i].1) ∧ w.cell? ⟨b, off + i * 2 + 1, none⟩ = some (.int .i64 l[i].2) := by
  obtain ⟨h1, h2⟩ := pns_at l i hi
  obtain ⟨b, off, e1, _, e2⟩ := h _ _ h1
  obtain ⟨b', off', e1', _, e2'⟩ := h _ _ h2
  rw [e1] at e1'
  cases e1'
  exact ⟨b, off, e1, e2, by rw [Nat.add_assoc]; exact e2'⟩
set_option maxRecDepth 100000 in
set_option maxHeartbeats 2000000 in
theorem rseen_any (N : Nat) (w : World) (pa : Option Addr) (pn pc : Nat) (l : List (Int × Int)) (h : CsAt N w pa (pns l)) (hn : pn = l.length) (hn2 : pn ≤ 100000) (x y : Int) :
    Calls Tryz.prog 73 #[.slice pa pn pc, .int .i64 x, .int .i64 y] w fun e w' => e = .returned (.bool (seenN (l.map Prod.fst) x y)) ∧ w' = w := by
  have HN := hidC hn
  have HS := hidC h
  obtain ⟨sb, hsb⟩ : ∃ sb, sb = seenN (l.map Prod.fst) x y := ⟨_, rfl⟩
  rw [← hsb]
  have HSb := hidC hsb
  clear hn h hsb
  go_enter Tryz.func73, Tryz.ntmps73
  go_wp2_with fail
  go_loopw [7] (fun z wr => ∃ i : Nat, i ≤ pn ∧ z = .int .i64 (i : Int) ∧ Hid (∀ j, (hj : j < l.length) → j < i → ¬ (x ≤ l[j].1 ∧ l[j].1 < y)) ∧ wr = w) (fun z _ => pn - (intOf z).toNat)
  case atStart => exact ⟨0, Nat.zero_le _, rfl, fun j _ h => by omega, rfl⟩
  case round =>
    obtain ⟨i, hi, rfl, HJ, hw⟩ := hrel
    subst hw
    by_cases hlt : i < pn
    · have hil : i < l.length := by have := HN.out; omega
      obtain ⟨b, off, hpa, c0, _⟩ := PinsAt.at HS.out hil
      subst hpa
      have HX : Hid (∀ p, p = l[i].1 → (x ≤ p ∧ p < y → sb = true) ∧ (¬ (x ≤ p ∧ p < y) → ∀ j, (hj : j < l.length) → j < i + 1 → ¬ (x ≤ l[j].1 ∧ l[j].1 < y))) := fun p hp => by
        refine ⟨fun h => ?_, fun h j hj hji => ?_⟩
        · rw [HSb.out]
          unfold seenN
          rw [List.any_eq_true]
          exact ⟨l[i].1, List.mem_map.2 ⟨_, List.getElem_mem hil, rfl⟩, by rw [← hp]; simpa using h⟩
        · by_cases e : j < i
          · exact HJ.out j hj e
          · have : j = i := by omega
            subst this
            rw [← hp]
            exact h
      obtain ⟨HX1, HX2⟩ := HX.out _ rfl
      replace HX1 := hidC HX1
      replace HX2 := hidC HX2
      clear HX HJ
      generalize l[i].1 = p at *
      by_cases h1 : x ≤ p
      · have h1b : decide (x ≤ p) = true := decide_eq_true h1
        by_cases h2 : p < y
        · have h2b : decide (p < y) = true := decide_eq_true h2
          have hs := HX1.out ⟨h1, h2⟩
          subst hs
          go_wp2
          go_ret
          exact ⟨rfl, rfl⟩
        · have h2b : decide (p < y) = false := decide_eq_false h2
          have HJ2 := hidC (HX2.out (by omega))
          go_wp2
          exact ⟨⟨i + 1, by omega, by go_num, HJ2.out, by first | rfl | trivial⟩, by simp [intOf]; omega⟩
      · have h1b : decide (x ≤ p) = false := decide_eq_false h1
        have HJ2 := hidC (HX2.out (by omega))
        go_wp2
        exact ⟨⟨i + 1, by omega, by go_num, HJ2.out, by first | rfl | trivial⟩, by simp [intOf]; omega⟩
    · have hs : sb = false := by
        rw [HSb.out]
        unfold seenN
        rw [List.any_eq_false]
        intro p hp
        obtain ⟨q, hq, rfl⟩ := List.mem_map.1 hp
        obtain ⟨j, hj, rfl⟩ := List.getElem_of_mem hq
        have := HJ.out j hj (by have := HN.out; omega)
        simpa using this
      subst hs
      go_wp2
      go_ret
      exact ⟨rfl, rfl⟩
theorem pn_ref {la : Int} {l : List (Int × Int)} {i : Nat} (h : ∀ j, j < i → PnAt la l j) (hi : i < l.length) : PnAt la l i ↔ (0 ≤ l[i].1 ∧ l[i].1 ≤ la ∧ 1 ≤ l[i].2 ∧ l[i].2 ≤ 1099511627776) ∧ ∀ j, i = j + 1 → (l.getD j (0, 0)).1 < l[i].1 := by
  have h0 : ∀ j, j < i → 0 ≤ (l.getD j (0, 0)).1 := by
    intro j hj
    have hjl : j < l.length := by omega
    have e : ∀ m (hm : m < l.length), l.getD m (0, 0) = l[m] := fun m hm => by simp [List.getD_eq_getElem?_getD, List.getElem?_eq_getElem hm]
    induction j with
    | zero => rw [e 0 hjl]; have := (h 0 hj hjl).1; simpa [loP] using this
    | succ m ih =>
      have h1 := ih (by omega) (by omega)
      have h2 := (h (m + 1) hj hjl).1
      rw [loP_succ (by omega)] at h2
      rw [e m (by omega)] at h1
      rw [e (m + 1) hjl]
      omega
  constructor
  · intro hp
    have h1 := hp hi
    refine ⟨⟨?_, h1.2⟩, fun j hj => ?_⟩
    · cases i with
      | zero => simpa [loP] using h1.1
      | succ m =>
        have h2 := h0 m (by omega)
        have h3 := h1.1
        simp only [loP] at h3
        omega
    · subst hj
      have h3 := h1.1
      simp only [loP] at h3
      omega
  · rintro ⟨h1, h2⟩ _
    refine ⟨?_, h1.2⟩
    cases i with
    | zero => simpa [loP] using h1.1
    | succ m =>
      have := h2 m rfl
      simp only [loP]
      omega
set_option maxRecDepth 100000 in
set_option maxHeartbeats 4000000 in
theorem rpins_any (N : Nat) (w : World) (s : Sn) (h : SnAt N w s) (hN : N ≤ w.heap.size) (ho : SnOK s) :
    Calls Tryz.prog 60 #[snv s] w fun e w' => FitPost w (PnOK s.la s.pins) e w' := by
  obtain ⟨la, pa, pc, pins, ca, cc, chs⟩ := s
  obtain ⟨pn, hpn⟩ : ∃ pn, pn = pins.length := ⟨_, rfl⟩
  obtain ⟨cn, hcn⟩ : ∃ cn, cn = chs.length := ⟨_, rfl⟩
  have hnp := ho.np
  simp only [snv] at *
  rw [← hpn] at hnp ⊢
  rw [← hcn]
  have HPn := hidC hpn
  obtain ⟨W1, hW1⟩ : ∃ W1, W1 = w.alloc (.cells #[.int .i64 la, .slice pa pn pc, .slice ca cn cc] 25) := ⟨_, rfl⟩
  obtain ⟨Kb, hKb⟩ : ∃ Kb, Kb = w.heap.size := ⟨_, rfl⟩
  have HB : Hid (Below w.heap.size w W1 ∧ W1.heap[Kb]? = some (.cells #[.int .i64 la, .slice pa pn pc, .slice ca cn cc] 25 (0, 0))) := by
    rw [hW1, hKb]
    exact ⟨(Below.refl _ _).alloc (Nat.le_refl _) _, heap_alloc_new _ _ rfl⟩
  have k1 : W1.cell? ⟨Kb, 1, none⟩ = some (.slice pa pn pc) := by have h1 := HB.out.2; simp [World.cell?, h1]
  have HS : Hid (∀ W, Below W1.heap.size W1 W → SnAt N W ⟨la, pa, pc, pins, ca, cc, chs⟩) := fun W hW => by
    have hb := HB.out.1
    exact (h.below (hb.mono hN)).below (hW.mono (by have := hb.size; omega))
  have HK : Hid (∀ W, Below W1.heap.size W1 W → W.cell? ⟨Kb, 0, none⟩ = some (.int .i64 la) ∧ W.cell? ⟨Kb, 1, none⟩ = some (.slice pa pn pc)) := fun W hW => by
    have h4 : W.heap[Kb]? = _ := (hW.block _ (blk_lt HB.out.2)).trans HB.out.2
    refine ⟨?_, ?_⟩ <;> simp [World.cell?, h4]
  clear h hpn hcn ho
  go_enter Tryz.func60, Tryz.ntmps60
  by_cases hbig : 32 < pn
  · go_wp2_with fail
    rw [← hW1]
    go_wp2
    go_ret
    exact FitPost.no (fun h => by have := h.1; have := HPn.out; omega) HB.out.1
  go_wp2_with fail
  rw [← hW1, ← hKb]
  clear hW1 hKb
  go_loopw [3, 4] (fun y _ wr => ∃ (i : Nat), i ≤ pn ∧ y = .int .i64 (i : Int) ∧ Hid (∀ j, j < i → PnAt la pins j) ∧ Hid (Below W1.heap.size W1 wr)) (fun y _ _ => pn - (intOf y).toNat)
  case atStart => exact ⟨0, Nat.zero_le _, rfl, fun j h => by omega, Below.refl _ _⟩
  case round =>
    clear k1
    obtain ⟨i, hi, rfl, HJ, HBw⟩ := hrel
    obtain ⟨k0, k1⟩ := HK.out wr HBw.out
    by_cases hlt : i < pn
    · have hil : i < pins.length := by have := HPn.out; omega
      obtain ⟨b, off, hpa, c0, c1⟩ := (HS.out wr HBw.out).pin (i := i) hil
      simp only at hpa c0 c1
      subst hpa
      have HP := hidC (pn_ref HJ.out hil)
      have HBn : Hid (∀ o q, Below w.heap.size w ((wr.alloc o).drewN q) ∧ Below W1.heap.size W1 ((wr.alloc o).drewN q)) := fun o q => by
        have h1 := HB.out.1
        have h2 : Below W1.heap.size W1 (wr.alloc o) := HBw.out.alloc HBw.out.size o
        have h3 := h2.trans ((drew_below _ q).mono h2.size)
        exact ⟨h1.trans (h3.mono h1.size), h3⟩
      have k0a : ∀ o, (wr.alloc o).cell? ⟨Kb, 0, none⟩ = some (.int .i64 la) := fun o => Lib.cell?_alloc_some _ k0
      have k1a : ∀ o, (wr.alloc o).cell? ⟨Kb, 1, none⟩ = some (.slice (some ⟨b, off, none⟩) pn pc) := fun o => Lib.cell?_alloc_some _ k1
      have HPr : Hid (∀ j, i = j + 1 → wr.cell? ⟨b, off + j * 2, none⟩ = some (.int .i64 (pins.getD j (0, 0)).1)) := fun j hj => by
        have hjl : j < pins.length := by omega
        obtain ⟨b', off', he, q0, _⟩ := (HS.out wr HBw.out).pin (i := j) hjl
        simp only at he q0
        cases he
        have e1 : pins.getD j (0, 0) = pins[j] := by simp [List.getD_eq_getElem?_getD, List.getElem?_eq_getElem hjl]
        rw [e1]
        exact q0
      generalize pins[i].1 = p1 at *
      generalize pins[i].2 = p2 at *
      have HJ2 : Hid (PnAt la pins i → ∀ j, j < i + 1 → PnAt la pins j) := fun h j hj => by
        by_cases hji : j < i
        · exact HJ.out j hji
        · have : j = i := by omega
          subst this
          exact h
      clear HBw HJ
      by_cases h1 : p1 < 0
      · have h1b : decide (p1 < 0) = true := decide_eq_true h1
        go_wp2_with fail
        go_quiet (fail)
        go_wp2
        go_ret
        exact FitPost.no (fun h => by have := (HP.out.1 (h.2 i)).1; omega) (HBn.out _ _).1
      have h1b : decide (p1 < 0) = false := decide_eq_false h1
      by_cases h2 : la < p1
      · have h2b : decide (la < p1) = true := decide_eq_true h2
        go_wp2_with fail
        go_quiet (fail)
        go_wp2
        go_ret
        exact FitPost.no (fun h => by have := (HP.out.1 (h.2 i)).1; omega) (HBn.out _ _).1
      have h2b : decide (la < p1) = false := decide_eq_false h2
      by_cases h3 : p2 < 1
      · have h3b : decide (p2 < 1) = true := decide_eq_true h3
        go_wp2_with fail
        go_quiet (fail)
        go_wp2
        go_ret
        exact FitPost.no (fun h => by have := (HP.out.1 (h.2 i)).1; omega) (HBn.out _ _).1
      have h3b : decide (p2 < 1) = false := decide_eq_false h3
      by_cases h4 : 1099511627776 < p2
      · have h4b : decide (1099511627776 < p2) = true := decide_eq_true h4
        go_wp2_with fail
        go_quiet (fail)
        go_wp2
        go_ret
        exact FitPost.no (fun h => by have := (HP.out.1 (h.2 i)).1; omega) (HBn.out _ _).1
      have h4b : decide (1099511627776 < p2) = false := decide_eq_false h4
      by_cases hi0 : i = 0
      · have hgN : decide (0 < i) = false := decide_eq_false (by omega)
        have hg : decide ((0 : Int) < (i : Int)) = false := decide_eq_false (by omega)
        have HJ3 := hidC (HJ2.out (HP.out.2 ⟨by omega, fun j hj => by omega⟩))
        clear hi0
        go_wp2_with fail
        go_quiet (fail)
        go_wp2
        exact ⟨⟨i + 1, by omega, by go_num, HJ3.out, (HBn.out _ _).2⟩, by simp [intOf]; omega⟩
      · have hg : decide ((0 : Int) < (i : Int)) = true := decide_eq_true (by omega)
        have hgN : decide (0 < i) = true := decide_eq_true (by omega)
        have hgN' : 0 < i := by omega
        obtain ⟨j, hj⟩ : ∃ j, i = j + 1 := ⟨i - 1, by omega⟩
        have hjn : (j : Int) < (pn : Int) := by omega
        have hwj : IntKind.i64.wrap ((i : Int) - 1) = (j : Int) := by rw [IntKind.wrap_i64]; omega
        have hpc := HPr.out j hj
        have HP2 : Hid (PnAt la pins i ↔ (pins.getD j (0, 0)).1 < p1) := by
          constructor
          · intro h; exact (HP.out.1 h).2 j hj
          · intro h
            refine HP.out.2 ⟨by omega, fun j' hj' => ?_⟩
            have hjj : j' = j := by omega
            rw [hjj]
            exact h
        obtain ⟨pb, hpb⟩ : ∃ pb, pb = (pins.getD j (0, 0)).1 := ⟨_, rfl⟩
        rw [← hpb] at hpc HP2
        have hpca : ∀ o, (wr.alloc o).cell? ⟨b, off + j * 2, none⟩ = some (.int .i64 pb) := fun o => Lib.cell?_alloc_some _ hpc
        clear hi0 hj HP HPr hpb hpc
        by_cases h5 : p1 ≤ pb
        · have h5b : decide (p1 ≤ pb) = true := decide_eq_true h5
          go_wp2_with fail
          go_quiet (fail)
          go_wp2
          go_ret
          exact FitPost.no (fun h => by have := HP2.out.1 (h.2 i); omega) (HBn.out _ _).1
        · have h5b : decide (p1 ≤ pb) = false := decide_eq_false h5
          have HJ3 := hidC (HJ2.out (HP2.out.2 (by omega)))
          go_wp2_with fail
          go_quiet (fail)
          go_wp2
          exact ⟨⟨i + 1, by omega, by go_num, HJ3.out, (HBn.out _ _).2⟩, by simp [intOf]; omega⟩
    · go_wp2
      go_ret
      have h1 := HB.out.1
      exact FitPost.yes ⟨by have := HPn.out; omega, fun j hj => HJ.out j (by have := HPn.out; omega) hj⟩ (h1.trans (HBw.out.mono h1.size))
end Go.Proofs.YtbmohlkcmhhpgaaGreat
/-
  The document's chain.
-/
namespace Go.Proofs.YtbmohlkcmhhpgaaGreat
open Go.RowKit Go.Sort

/-- what the document asks of the i-th version of a chain -/
def RcAt (la : Int) (d : List Int) (l : List Stp) (i : Nat) : Prop := ∀ h : i < l.length, (1 ≤ l[i].b ∧ l[i].b ≤ la ∧ 0 ≤ l[i].i ∧ l[i].i < 64) ∧ ∀ h2 : i + 1 < l.length, l[i].b < l[i + 1].b ∧ seenN d l[i].b l[i + 1].b = true
theorem rc_ok {la : Int} {d : List Int} {l : List Stp} : ChOK la d l ↔ (0 < l.length ∧ ∀ i, RcAt la d l i) := by
  constructor
  · rintro ⟨h0, h⟩
    refine ⟨h0, fun i hi => ⟨⟨ChOK.one h i hi, (h i hi).1.2⟩, fun h2 => ?_⟩⟩
    have h3 := h (i + 1) h2
    rw [loC_succ hi] at h3
    have h4 := h3.2 i rfl
    rw [show l[i].b + 1 - 1 = l[i].b by omega] at h4
    exact ⟨by have := h3.1.1; omega, h4⟩
  · rintro ⟨h0, h⟩
    refine ⟨h0, fun i hi => ?_⟩
    have h1 := (h i hi).1
    cases i with
    | zero => exact ⟨⟨h1.1, h1.2⟩, fun j hj => by omega⟩
    | succ m =>
      have h2 := (h m (by omega)).2 hi
      rw [loC_succ (by omega)]
      refine ⟨⟨by omega, h1.2⟩, fun j hj => ?_⟩
      rw [show l[m].b + 1 - 1 = l[m].b by omega]
      exact h2.2
set_option maxRecDepth 100000 in
set_option maxHeartbeats 4000000 in
theorem rchain_any (N : Nat) (w : World) (s : Sn) (h : SnAt N w s) (hN : N ≤ w.heap.size) (ho : SnOK s) (ao : Option Addr) (n c : Nat) (l : List Stp) (hl : CsAt N w ao (scs l)) (hn : n = l.length) (hn2 : n ≤ 100000) :
    Calls Tryz.prog 61 #[snv s, .slice ao n c] w fun e w' => FitPost w (ChOK s.la (s.pins.map Prod.fst) l) e w' := by
  obtain ⟨la, pa, pc, pins, ca, cc, chs⟩ := s
  obtain ⟨pn, hpn⟩ : ∃ pn, pn = pins.length := ⟨_, rfl⟩
  obtain ⟨cn, hcn⟩ : ∃ cn, cn = chs.length := ⟨_, rfl⟩
  have hnp := ho.np
  simp only [snv] at *
  rw [← hpn] at hnp ⊢
  rw [← hcn]
  have HPn := hidC hpn
  have HLn := hidC hn
  obtain ⟨W1, hW1⟩ : ∃ W1, W1 = w.alloc (.cells #[.int .i64 la, .slice pa pn pc, .slice ca cn cc] 25) := ⟨_, rfl⟩
  obtain ⟨Kb, hKb⟩ : ∃ Kb, Kb = w.heap.size := ⟨_, rfl⟩
  have HB : Hid (Below w.heap.size w W1 ∧ W1.heap[Kb]? = some (.cells #[.int .i64 la, .slice pa pn pc, .slice ca cn cc] 25 (0, 0))) := by
    rw [hW1, hKb]
    exact ⟨(Below.refl _ _).alloc (Nat.le_refl _) _, heap_alloc_new _ _ rfl⟩
  have HL : Hid (CsAt N W1 ao (scs l)) := hl.below (HB.out.1.mono hN)
  have HP : Hid (CsAt N W1 pa (pns pins)) := h.ps.below (HB.out.1.mono hN)
  have k0 : W1.cell? ⟨Kb, 0, none⟩ = some (.int .i64 la) := by have h1 := HB.out.2; simp [World.cell?, h1]
  have k1 : W1.cell? ⟨Kb, 1, none⟩ = some (.slice pa pn pc) := by have h1 := HB.out.2; simp [World.cell?, h1]
  have HSe : Hid (∀ q x y, Calls Tryz.prog 73 #[.slice pa pn pc, .int .i64 x, .int .i64 y] (W1.drewN q) fun e w' => e = .returned (.bool (seenN (pins.map Prod.fst) x y)) ∧ w' = W1.drewN q) := fun q x y => rseen_any N (W1.drewN q) pa pn pc pins (fun j u hu => HP.out j u hu) HPn.out hnp x y
  generalize hd : pins.map Prod.fst = d at *
  have HB1 : Hid (∀ q, Below w.heap.size w (W1.drewN q)) := fun q => HB.out.1.trans ((drew_below _ q).mono HB.out.1.size)
  have HRc := hidC (rc_ok (la := la) (d := d) (l := l))
  clear h hpn hcn ho hl hn HP hd HB
  go_enter Tryz.func61, Tryz.ntmps61
  go_wp2_with fail
  rw [← hW1, ← hKb]
  clear hW1 hKb
  go_loopw [5] (fun y wr => ∃ (i q : Nat), i ≤ n ∧ y = .int .i64 (i : Int) ∧ Hid (∀ j, j < i → RcAt la d l j) ∧ wr = W1.drewN q) (fun y _ => n - (intOf y).toNat)
  case atStart => exact ⟨0, 0, Nat.zero_le _, rfl, fun j h => by omega, rfl⟩
  case round =>
    obtain ⟨i, q, hi, rfl, HJ, hw⟩ := hrel
    subst hw
    have k0q : ∀ q, (W1.drewN q).cell? ⟨Kb, 0, none⟩ = some (.int .i64 la) := fun q => k0
    have k1q : ∀ q, (W1.drewN q).cell? ⟨Kb, 1, none⟩ = some (.slice pa pn pc) := fun q => k1
    by_cases hlt : i < n
    · have hil : i < l.length := by have := HLn.out; omega
      obtain ⟨b, off, hao, c0, c1, _, _⟩ := HL.out.stamp hil
      subst hao
      have HRi : Hid (RcAt la d l i ↔ ((1 ≤ l[i].b ∧ l[i].b ≤ la ∧ 0 ≤ l[i].i ∧ l[i].i < 64) ∧ ∀ h2 : i + 1 < l.length, l[i].b < l[i + 1].b ∧ seenN d l[i].b l[i + 1].b = true)) := ⟨fun h => h hil, fun h _ => h⟩
      have HNo : Hid (¬ RcAt la d l i → ¬ ChOK la d l) := fun h hc => h ((HRc.out.1 hc).2 i)
      have HJ2 : Hid (RcAt la d l i → ∀ j, j < i + 1 → RcAt la d l j) := fun h j hj => by
        by_cases hji : j < i
        · exact HJ.out j hji
        · have : j = i := by omega
          subst this
          exact h
      have HNx : Hid (∀ h2 : i + 1 < l.length, W1.cell? ⟨b, off + (i + 1) * 4, none⟩ = some (.int .i64 l[i + 1].b)) := fun h2 => by
        obtain ⟨b', off', he, q0, _⟩ := HL.out.stamp h2
        cases he
        exact q0
      have c0q : ∀ q, (W1.drewN q).cell? ⟨b, off + i * 4, none⟩ = some (.int .i64 l[i].b) := fun q => c0
      have c1q : ∀ q, (W1.drewN q).cell? ⟨b, off + i * 4 + 1, none⟩ = some (.int .i64 l[i].i) := fun q => c1
      generalize hp1 : l[i].b = p1 at *
      generalize hp2 : l[i].i = p2 at *
      clear HJ
      by_cases h1 : p1 < 1
      · have h1b : decide (p1 < 1) = true := decide_eq_true h1
        go_wp2_with fail
        go_quiet (fail)
        go_wp2
        go_ret
        exact FitPost.no (HNo.out (fun h => by have := (HRi.out.1 h).1; omega)) (by first | exact HB1.out _ | (rw [World.drewN_drewN]; exact HB1.out _))
      have h1b : decide (p1 < 1) = false := decide_eq_false h1
      by_cases h2 : la < p1
      · have h2b : decide (la < p1) = true := decide_eq_true h2
        go_wp2_with fail
        go_quiet (fail)
        go_wp2
        go_ret
        exact FitPost.no (HNo.out (fun h => by have := (HRi.out.1 h).1; omega)) (by first | exact HB1.out _ | (rw [World.drewN_drewN]; exact HB1.out _))
      have h2b : decide (la < p1) = false := decide_eq_false h2
      by_cases h3 : p2 < 0
      · have h3b : decide (p2 < 0) = true := decide_eq_true h3
        go_wp2_with fail
        go_quiet (fail)
        go_wp2
        go_ret
        exact FitPost.no (HNo.out (fun h => by have := (HRi.out.1 h).1; omega)) (by first | exact HB1.out _ | (rw [World.drewN_drewN]; exact HB1.out _))
      have h3b : decide (p2 < 0) = false := decide_eq_false h3
      by_cases h4 : 64 ≤ p2
      · have h4b : decide (64 ≤ p2) = true := decide_eq_true h4
        go_wp2_with fail
        go_quiet (fail)
        go_wp2
        go_ret
        exact FitPost.no (HNo.out (fun h => by have := (HRi.out.1 h).1; omega)) (by first | exact HB1.out _ | (rw [World.drewN_drewN]; exact HB1.out _))
      have h4b : decide (64 ≤ p2) = false := decide_eq_false h4
      go_wp2_with fail
      go_quiet (fail)
      go_wp2_with fail
      try rw [World.drewN_drewN]
      generalize hq2 : q + nq = q2
      clear hq2
      by_cases hnx : i + 1 < n
      · obtain ⟨m, hm⟩ : ∃ m, m = i + 1 := ⟨_, rfl⟩
        have hwi : IntKind.i64.wrap ((i : Int) + 1) = (m : Int) := by rw [IntKind.wrap_i64]; omega
        have hgI : decide ((m : Int) < (n : Int)) = true := decide_eq_true (by omega)
        have hgN : decide (m < n) = true := decide_eq_true (by omega)
        have hgI' : (m : Int) < (n : Int) := by omega
        have h2l : i + 1 < l.length := by have := HLn.out; omega
        have HRi2 : Hid (RcAt la d l i ↔ (p1 < l[i + 1].b ∧ seenN d p1 l[i + 1].b = true)) := by
          constructor
          · intro h; exact (HRi.out.1 h).2 h2l
          · intro h; exact HRi.out.2 ⟨by omega, fun _ => h⟩
        have r0 := HNx.out h2l
        have r0q : ∀ q, (W1.drewN q).cell? ⟨b, off + m * 4, none⟩ = some (.int .i64 l[i + 1].b) := fun q => by rw [hm]; exact r0
        have HM := hidC hm
        generalize l[i + 1].b = r1 at *
        have hmn : m ≤ n := by omega
        have hmi : i < m := by omega
        clear HRi HNx h2l hm r0 hnx
        by_cases h5 : r1 ≤ p1
        · have h5b : decide (r1 ≤ p1) = true := decide_eq_true h5
          go_quiet (fail)
          go_wp2
          go_ret
          exact FitPost.no (HNo.out (fun h => by have := (HRi2.out.1 h).1; omega)) (by first | exact HB1.out _ | (rw [World.drewN_drewN]; exact HB1.out _))
        have h5b : decide (r1 ≤ p1) = false := decide_eq_false h5
        have HSe2 : Hid (∀ q q', Calls Tryz.prog 73 #[.slice pa pn pc, .int .i64 p1, .int .i64 r1] ((W1.drewN q).drewN q') fun e w' => e = .returned (.bool (seenN d p1 r1)) ∧ w' = (W1.drewN q).drewN q') := fun q q' => by rw [World.drewN_drewN]; exact HSe.out _ p1 r1
        have HSe3 : Hid (∀ a q q', Calls Tryz.prog 73 #[.slice pa pn pc, .int .i64 p1, .int .i64 r1] (((W1.drewN a).drewN q).drewN q') fun e w' => e = .returned (.bool (seenN d p1 r1)) ∧ w' = ((W1.drewN a).drewN q).drewN q') := fun a q q' => by rw [World.drewN_drewN, World.drewN_drewN]; exact HSe.out _ p1 r1
        have HSe1 : Hid (∀ q, Calls Tryz.prog 73 #[.slice pa pn pc, .int .i64 p1, .int .i64 r1] (W1.drewN q) fun e w' => e = .returned (.bool (seenN d p1 r1)) ∧ w' = W1.drewN q) := fun q => HSe.out _ p1 r1
        generalize seenN d p1 r1 = sb at *
        go_quiet (first | (go_at_call 73; exact (HSe1.out _).mono (fun e w' hx => ⟨hx.1, _, hx.2⟩)))
        cases sb with
        | false =>
          go_wp2
          go_ret
          exact FitPost.no (HNo.out (fun h => by have := (HRi2.out.1 h).2; cases this)) (by first | exact HB1.out _ | (rw [World.drewN_drewN]; exact HB1.out _))
        | true =>
          have HJ3 : Hid (∀ j, j < m → RcAt la d l j) := by rw [HM.out]; exact HJ2.out (HRi2.out.2 ⟨by omega, rfl⟩)
          go_wp2
          exact ⟨⟨m, _, hmn, by first | rfl | go_num, HJ3.out, by first | rfl | exact World.drewN_drewN _ _ _⟩, by simp [intOf]; omega⟩
      · have hwi : IntKind.i64.wrap ((i : Int) + 1) = (i : Int) + 1 := by rw [IntKind.wrap_i64]; omega
        have hgI : decide ((i : Int) + 1 < (n : Int)) = false := decide_eq_false (by omega)
        have hgN : decide (i + 1 < n) = false := decide_eq_false hnx
        have HJ3 := hidC (HJ2.out (HRi.out.2 ⟨by omega, fun h => by have := HLn.out; omega⟩))
        go_quiet (fail)
        go_wp2
        exact ⟨⟨i + 1, _, by omega, by go_num, HJ3.out, by first | rfl | exact World.drewN_drewN _ _ _⟩, by simp [intOf]; omega⟩
    · have HX : Hid (ChOK la d l ↔ 0 < n) := by
        have hn := HLn.out
        refine ⟨fun h => by have := h.1; omega, fun h => HRc.out.2 ⟨by omega, fun j hj => HJ.out j (by omega) hj⟩⟩
      by_cases h0 : 0 < n
      · have h0b : decide ((0 : Int) < (n : Int)) = true := decide_eq_true (by omega)
        go_wp2
        go_ret
        first | exact FitPost.yes (HX.out.2 h0) (HB1.out _) | (rw [h0b]; exact FitPost.yes (HX.out.2 h0) (HB1.out _))
      · have h0b : decide ((0 : Int) < (n : Int)) = false := decide_eq_false (by omega)
        go_wp2
        go_ret
        first | exact FitPost.no (fun h => h0 (HX.out.1 h)) (HB1.out _) | (rw [h0b]; exact FitPost.no (fun h => h0 (HX.out.1 h)) (HB1.out _))
end Go.Proofs.YtbmohlkcmhhpgaaGreat
/-
  The document's Restorable.
-/
namespace Go.Proofs.YtbmohlkcmhhpgaaGreat
open Go.RowKit Go.Sort

set_option maxRecDepth 100000 in
set_option maxHeartbeats 4000000 in
theorem restorable_any (N : Nat) (w : World) (s : Sn) (h : SnAt N w s) (hN : N ≤ w.heap.size) (ho : SnOK s) :
    Calls Tryz.prog 39 #[snv s] w fun e w' => FitPost w (CanR s) e w' := by
  obtain ⟨pn, hpn⟩ : ∃ pn, pn = s.pins.length := ⟨_, rfl⟩
  obtain ⟨cn, hcn⟩ : ∃ cn, cn = s.chs.length := ⟨_, rfl⟩
  obtain ⟨pa, hpa⟩ : ∃ pa, pa = s.pa := ⟨_, rfl⟩
  obtain ⟨ca, hca⟩ : ∃ ca, ca = s.ca := ⟨_, rfl⟩
  obtain ⟨pc, hpc⟩ : ∃ pc, pc = s.pc := ⟨_, rfl⟩
  obtain ⟨cc, hcc⟩ : ∃ cc, cc = s.cc := ⟨_, rfl⟩
  obtain ⟨la, hla⟩ : ∃ la, la = s.la := ⟨_, rfl⟩
  have hnp := ho.np
  have hnc := ho.nc
  have hsv : snv s = .agg #[.int .i64 la, .slice pa pn pc, .slice ca cn cc] := by rw [hla, hpa, hpn, hpc, hca, hcn, hcc]; rfl
  rw [← hpn] at hnp
  rw [← hcn] at hnc
  obtain ⟨W1, hW1⟩ : ∃ W1, W1 = w.alloc (.cells #[.int .i64 la, .slice pa pn pc, .slice ca cn cc] 25) := ⟨_, rfl⟩
  obtain ⟨Kb, hKb⟩ : ∃ Kb, Kb = w.heap.size := ⟨_, rfl⟩
  have HB : Hid (Below w.heap.size w W1 ∧ W1.heap[Kb]? = some (.cells #[.int .i64 la, .slice pa pn pc, .slice ca cn cc] 25 (0, 0))) := by
    rw [hW1, hKb]
    exact ⟨(Below.refl _ _).alloc (Nat.le_refl _) _, heap_alloc_new _ _ rfl⟩
  have HS : Hid (∀ W, Below W1.heap.size W1 W → SnAt N W s) := fun W hW => by
    have hb := HB.out.1
    exact (h.below (hb.mono hN)).below (hW.mono (by have := hb.size; omega))
  have HK : Hid (∀ W, Below W1.heap.size W1 W → W.cell? ⟨Kb, 0, none⟩ = some (.int .i64 la) ∧ W.cell? ⟨Kb, 1, none⟩ = some (.slice pa pn pc) ∧ W.cell? ⟨Kb, 2, none⟩ = some (.slice ca cn cc)) := fun W hW => by
    have h4 : W.heap[Kb]? = _ := (hW.block _ (blk_lt HB.out.2)).trans HB.out.2
    refine ⟨?_, ?_, ?_⟩ <;> simp [World.cell?, h4]
  have HPi : Hid (Calls Tryz.prog 60 #[.agg #[.int .i64 la, .slice pa pn pc, .slice ca cn cc]] W1 fun e w' => FitPost W1 (PnOK la s.pins) e w') := by
    have h1 := rpins_any N W1 s (HS.out W1 (Below.refl _ _)) (by have := HB.out.1.size; omega) ho
    rw [hsv, ← hla] at h1
    exact h1
  have HCh : Hid (∀ W, Below W1.heap.size W1 W → ∀ c ∈ s.chs, Calls Tryz.prog 61 #[.agg #[.int .i64 la, .slice pa pn pc, .slice ca cn cc], .slice c.a c.l.length c.c] W fun e w' => FitPost W (ChOK la (s.pins.map Prod.fst) c.l) e w') := fun W hW c hc => by
    have h1 := rchain_any N W s (HS.out W hW) (by have := hW.size; have := HB.out.1.size; omega) ho c.a c.l.length c.c c.l ((HS.out W hW).vs c hc) rfl (ho.nv c hc)
    rw [hsv, ← hla] at h1
    exact h1
  have HE := hidC (And.intro hpn (And.intro hcn (And.intro hca hla)))
  have HBw : Hid (∀ W, Below W1.heap.size W1 W → Below w.heap.size w W) := fun W hW => HB.out.1.trans (hW.mono HB.out.1.size)
  have HNv := hidC ho.nv
  rw [hsv]
  clear h hpn hcn hpa hca hpc hcc hla ho hsv
  go_enter Tryz.func39, Tryz.ntmps39
  go_wp2_with fail
  rw [← hW1, ← hKb]
  clear hW1 hKb
  refine HPi.out.mono ?_
  rintro e W2 ⟨r, rfl, hr, hb2⟩
  have HB2 := hidC hb2
  obtain ⟨k0, k1, k2⟩ := HK.out W2 hb2
  clear hb2 HPi
  cases r with
  | false =>
    have HX : Hid (FitPost w (CanR s) (.returned (.bool false)) W2) := FitPost.no (fun h => by
      have h1 := h.2.1
      rw [← HE.out.2.2.2] at h1
      have := hr.2 h1; cases this) (HBw.out _ HB2.out)
    clear hr
    go_wp2
    go_ret
    exact HX.out
  | true =>
    have HPk := hidC (hr.1 rfl)
    clear hr
    by_cases h1 : la < 0
    · have h1b : decide (la < 0) = true := decide_eq_true h1
      have HX : Hid (FitPost w (CanR s) (.returned (.bool false)) W2) := FitPost.no (fun h => by
        have h3 := h.1
        rw [← HE.out.2.2.2] at h3
        omega) (HBw.out _ HB2.out)
      go_wp2
      go_ret
      exact HX.out
    have h1b : decide (la < 0) = false := decide_eq_false h1
    by_cases h2 : 1099511627776 < la
    · have h2b : decide (1099511627776 < la) = true := decide_eq_true h2
      have HX : Hid (FitPost w (CanR s) (.returned (.bool false)) W2) := FitPost.no (fun h => by
        have h3 := h.1
        rw [← HE.out.2.2.2] at h3
        omega) (HBw.out _ HB2.out)
      go_wp2
      go_ret
      exact HX.out
    have h2b : decide (1099511627776 < la) = false := decide_eq_false h2
    go_wp2_with fail
    clear k0 k1 k2
    go_loopw [3, 4, 5] (fun _ x y wr => ∃ (j : Nat) (v : Value), j ≤ cn ∧ y = .int .i64 (j : Int) ∧ x = v ∧ Hid (OwnK wr W2.heap.size v ((s.chs.take j).map Ch.k) ∧ Below W2.heap.size W2 wr ∧ ∀ c ∈ s.chs.take j, ChOK la (s.pins.map Prod.fst) c.l)) (fun _ _ y _ => cn - (intOf y).toNat)
    case atStart => exact ⟨0, _, Nat.zero_le _, rfl, rfl, OwnK.nil _ _, Below.refl _ _, by simp⟩
    case round =>
      obtain ⟨j, v, hj, rfl, hxv, HI⟩ := hrel
      replace hxv := hxv.symm
      subst hxv
      have HB3 : Hid (∀ W, Below W2.heap.size W2 W → Below W1.heap.size W1 W) := fun W hW => HB2.out.trans (hW.mono HB2.out.size)
      obtain ⟨k0, k1, k2⟩ := HK.out wr (HB3.out _ HI.out.2.1)
      by_cases hlt : j < cn
      · have hjl : j < s.chs.length := by have := HE.out.2.1; omega
        obtain ⟨b, off, hca, c0, c1, c2⟩ := (HS.out wr (HB3.out wr HI.out.2.1)).chain (i := j) hjl
        rw [← HE.out.2.2.1] at hca
        subst hca
        have HT : Hid ((s.chs.take (j + 1)).map Ch.k = (s.chs.take j).map Ch.k ++ [(s.chs[j].k.1, s.chs[j].k.2)] ∧ (∀ c ∈ s.chs.take (j + 1), c ∈ s.chs.take j ∨ c = s.chs[j]) ∧ s.chs[j] ∈ s.chs) := by
          rw [List.take_succ_eq_append_getElem hjl]
          refine ⟨by rw [List.map_append]; rfl, fun c hc => ?_, List.getElem_mem hjl⟩
          rcases List.mem_append.1 hc with h | h
          · exact .inl h
          · exact .inr (by simpa using h)
        have HCj : Hid (∀ W, Below W1.heap.size W1 W → Calls Tryz.prog 61 #[.agg #[.int .i64 la, .slice pa pn pc, .slice (some ⟨b, off, none⟩) cn cc], .slice s.chs[j].a s.chs[j].l.length s.chs[j].c] W fun e w' => FitPost W (ChOK la (s.pins.map Prod.fst) s.chs[j].l) e w') := fun W hW => HCh.out W hW _ (List.getElem_mem hjl)
        have HCl : Hid (∀ W, Below W1.heap.size W1 W → W.cell? ⟨b, off + j * 3 + 2, none⟩ = some (.slice s.chs[j].a s.chs[j].l.length s.chs[j].c)) := fun W hW => by
          obtain ⟨b', off', he, _, _, q2⟩ := (HS.out W hW).chain (i := j) hjl
          rw [← HE.out.2.2.1] at he
          cases he
          exact q2
        generalize s.chs[j] = cj at *
        obtain ⟨⟨x1, x2⟩, sa, sc, sl⟩ := cj
        simp only at c0 c1 c2 HCj HT HCl
        obtain ⟨sn, hsn⟩ : ∃ sn, sn = sl.length := ⟨_, rfl⟩
        rw [← hsn] at c2 HCj HCl
        clear hsn
        have HApp : Hid (∀ ty, ∃ v' w', (Builtin.append_ #[51, 51] ty #[v, .slice (some ⟨wr.heap.size, 0, none⟩) 1 1]).run Tryz.prog (wr.alloc (.cells #[.int .i64 x1, .int .i64 x2] 43)) = .ok v' w' ∧ ((∃ a n c, v' = .slice a n c) ∧ OwnK w' W2.heap.size v' ((s.chs.take (j + 1)).map Ch.k) ∧ Below W2.heap.size W2 w')) := fun ty => by
          have hA : OwnK (wr.alloc (.cells #[.int .i64 x1, .int .i64 x2] 43)) W2.heap.size v ((s.chs.take j).map Ch.k) := HI.out.1.alloc _
          have hlen : ((s.chs.take j).map Ch.k).length ≤ 100000 := by simp; omega
          have hsz := HI.out.2.1.size
          obtain ⟨v', w', hr5, ho5, hg5, _⟩ := run_append_keys ty W2.heap.size v _ hA (some ⟨wr.heap.size, 0, none⟩) 1 1 [(x1, x2)] rfl (key_src wr _ x1 x2 rfl) (by simp) (by simp at hlen ⊢; omega) (by simp; omega)
          refine ⟨v', w', hr5, ?_, by rw [HT.out.1]; exact ho5, rowGrown hA hg5 (HI.out.2.1.alloc hsz _) (Nat.le_refl _) (by simp; omega)⟩
          obtain ⟨a, c, e, _⟩ := ho5.slice
          exact ⟨a, _, c, e⟩
        have HCc := hidC HI.out.2.2
        clear HI
        go_wp2_with (at_builtin; refine wpL_appI rfl _ _ 51 rfl v (.slice (some ⟨wr.heap.size, 0, none⟩) 1 1) rfl rfl (post := fun v' w' => (∃ a n c, v' = .slice a n c) ∧ OwnK w' W2.heap.size v' ((s.chs.take (j + 1)).map Ch.k) ∧ Below W2.heap.size W2 w') HApp.out ?_; rintro v' w3 ⟨⟨a3, n3, c3, rfl⟩, hown⟩; have HOw := hidC hown; clear hown HApp)
        have hb3 := HB3.out w3 HOw.out.2
        have hb3d : Below W1.heap.size W1 w3.drew := ⟨hb3.os, hb3.tape, hb3.output, hb3.size, hb3.block⟩
        have HC : Hid (Calls Tryz.prog 61 #[.agg #[.int .i64 la, .slice pa pn pc, .slice (some ⟨b, off, none⟩) cn cc], .slice sa sn sc] w3.drew fun e w' => ∃ r, e = .returned (.bool r) ∧ (r = true ↔ ChOK la (s.pins.map Prod.fst) sl) ∧ Below w3.drew.heap.size w3.drew w') := HCj.out w3.drew hb3d
        obtain ⟨m0, m1, m2⟩ := HK.out w3 hb3
        have m3 := HCl.out w3 hb3
        have HKl : Hid (∀ W, Below w3.drew.heap.size w3.drew W → W.cell? ⟨Kb, 0, none⟩ = some (.int .i64 la) ∧ W.cell? ⟨Kb, 1, none⟩ = some (.slice pa pn pc) ∧ W.cell? ⟨Kb, 2, none⟩ = some (.slice (some ⟨b, off, none⟩) cn cc) ∧ W.cell? ⟨b, off + j * 3 + 2, none⟩ = some (.slice sa sn sc)) := fun W hW => by
          have h3 := hb3d.trans (hW.mono hb3d.size)
          have h4 := HK.out W h3
          exact ⟨h4.1, h4.2.1, h4.2.2, HCl.out W h3⟩
        clear k0 k1 k2 c0 c1 c2 hb3 hb3d HCj HCl
        go_region_held3 (fun w' => w'.cell? ⟨Kb, 0, none⟩ = some (.int .i64 la) ∧ w'.cell? ⟨Kb, 1, none⟩ = some (.slice pa pn pc) ∧ w'.cell? ⟨Kb, 2, none⟩ = some (.slice (some ⟨b, off, none⟩) cn cc) ∧ w'.cell? ⟨b, off + j * 3 + 2, none⟩ = some (.slice sa sn sc)) (first | with_reducible exact HKl.out _ HQ6.out | go_keep) (first | (go_at_call 61; with_reducible refine HC.out.mono ?_; rintro e w6 ⟨r, rfl, hr6, hb6⟩; have HR6 := hidC hr6; have HQ6 := hidC hb6; clear hr6 hb6))
        have HBn : Hid (Below W2.heap.size W2 w6) := by
          have h3 := HOw.out.2
          have h4 : Below W2.heap.size W2 w3.drew := ⟨h3.os, h3.tape, h3.output, h3.size, h3.block⟩
          exact h4.trans (HQ6.out.mono h4.size)
        clear m0 m1 m2 m3 HC
        cases r with
        | false =>
          have HX : Hid (FitPost w (CanR s) (.returned (.bool false)) w6) := FitPost.no (fun h => by
            have h3 := h.2.2.1 _ HT.out.2.2
            rw [← HE.out.2.2.2] at h3
            have h4 := HR6.out.2 h3
            cases h4) (HBw.out _ (HB3.out _ HBn.out))
          go_wp2
          go_ret
          exact HX.out
        | true =>
          have HN6 : Hid (OwnK w6 W2.heap.size (.slice a3 n3 c3) ((s.chs.take (j + 1)).map Ch.k) ∧ Below W2.heap.size W2 w6 ∧ ∀ c ∈ s.chs.take (j + 1), ChOK la (s.pins.map Prod.fst) c.l) := by
            have h4 : OwnK w3.drew W2.heap.size (.slice a3 n3 c3) ((s.chs.take (j + 1)).map Ch.k) := HOw.out.1
            refine ⟨h4.kept HQ6.out, HBn.out, fun c hc => ?_⟩
            rcases HT.out.2.1 c hc with h6 | h6
            · exact HCc.out c h6
            · rw [h6]; exact HR6.out.1 rfl
          clear HR6 HT HOw HBn HCc HQ6
          go_wp2
          exact ⟨⟨j + 1, _, by omega, by go_num, rfl, HN6.out⟩, by simp [intOf]; omega⟩
      · have hje : j = cn := by omega
        subst hje
        have HE2 : Hid (OwnK wr W2.heap.size v (s.chs.map Ch.k) ∧ ∀ c ∈ s.chs, ChOK la (s.pins.map Prod.fst) c.l) := by
          have h3 := HI.out
          rw [HE.out.2.1, List.take_length] at h3
          exact ⟨h3.1, h3.2.2⟩
        have HB6 := hidC (HBw.out _ (HB3.out _ HI.out.2.1))
        obtain ⟨ko, kc, rfl, hka, _, _⟩ := HE2.out.1.slice
        have HRi := hidC (refRises_any wr ko kc (s.chs.map Ch.k).length (s.chs.map Ch.k) rfl hka (by rw [List.length_map, ← HE.out.2.1]; omega))
        obtain ⟨kn, hkn⟩ : ∃ kn, kn = (s.chs.map Ch.k).length := ⟨_, rfl⟩
        obtain ⟨rb, hrb⟩ : ∃ rb, rb = decide (Rise (s.chs.map Ch.k)) := ⟨_, rfl⟩
        have HRb := hidC hrb
        have HE3 := hidC HE2.out.2
        rw [← hkn, ← hrb] at HRi
        rw [← hkn]
        clear HI hka hkn hrb HE2
        go_wp2_with fail
        refine HRi.out.mono ?_
        rintro e W6 ⟨rfl, q, os, rfl⟩
        have HX : Hid (FitPost w (CanR s) (.returned (.bool rb)) (grow (wr.drewN q) os)) := by
          refine ⟨_, rfl, ?_, ?_⟩
          · rw [HRb.out, decide_eq_true_iff]
            have hl := HE.out.2.2.2
            refine ⟨fun h => ⟨by rw [← hl]; omega, by rw [← hl]; exact HPk.out, by rw [← hl]; exact HE3.out, h⟩, fun h => h.2.2.2⟩
          · have hgr : Grew wr (grow (wr.drewN q) os) := ⟨q, os, rfl⟩
            have hg : Below wr.heap.size wr (grow (wr.drewN q) os) := hgr.below
            exact HB6.out.trans (hg.mono HB6.out.size)
        clear HRi HRb HE3
        go_wp2
        go_ret
        exact HX.out
end Go.Proofs.YtbmohlkcmhhpgaaGreat
