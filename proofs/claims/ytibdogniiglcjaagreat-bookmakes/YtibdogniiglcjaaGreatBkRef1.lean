/-
  The document's seen, pins.
-/
import Derived.Test.YtibdogniiglcjaaGreatBkFit
namespace Go.Proofs.YtibdogniiglcjaaGreat
open Go.RowKit Go.Sort

theorem PinsAt.at {N : Nat} {w : World} {pa : Option Addr} {l : List (Int × Int)} (h : CsAt N w pa (pns l)) {i : Nat} (hi : i < l.length) : ∃ b off, pa = some ⟨b, off, none⟩ ∧ w.cell? ⟨b, off + i * 2, none⟩ = some (.int .i64 l[i].1) ∧ w.cell? ⟨b, off + i * 2 + 1, none⟩ = some (.int .i64 l[i].2) := by
  obtain ⟨h1, h2⟩ := pns_at l i hi
  obtain ⟨b, off, e1, _, e2⟩ := h _ _ h1
  obtain ⟨b', off', e1', _, e2'⟩ := h _ _ h2
  rw [e1] at e1'
  cases e1'
  exact ⟨b, off, e1, e2, by rw [Nat.add_assoc]; exact e2'⟩
set_option maxRecDepth 100000 in
set_option maxHeartbeats 2000000 in
theorem rseen_any (N : Nat) (w : World) (pa : Option Addr) (pn pc : Nat) (l : List (Int × Int)) (h : CsAt N w pa (pns l)) (hn : pn = l.length) (hn2 : pn ≤ 100000) (x y : Int) :
    Calls Tryz.prog 79 #[.slice pa pn pc, .int .i64 x, .int .i64 y] w fun e w' => e = .returned (.bool (seenN (l.map Prod.fst) x y)) ∧ w' = w := by
  have HN := hidC hn
  have HS := hidC h
  obtain ⟨sb, hsb⟩ : ∃ sb, sb = seenN (l.map Prod.fst) x y := ⟨_, rfl⟩
  rw [← hsb]
  have HSb := hidC hsb
  clear hn h hsb
  go_enter Tryz.func79, Tryz.ntmps79
  go_wp2_with fail
  go_loopw [7] (fun z wr => ∃ i : Nat, i ≤ pn ∧ z = .int .i64 (i : Int) ∧ Hid (∀ j, (hj : j < l.length) → j < i → ¬ (x ≤ l[j].1 ∧ l[j].1 < y)) ∧ wr = w) (fun z _ => pn - (intOf z).toNat)
  case atStart => exact ⟨0, Nat.zero_le _, rfl, fun j _ h => by omega, rfl⟩
  case round =>
    obtain ⟨i, hi, rfl, HJ, hw⟩ := hrel
    subst hw
    by_cases hlt : i < pn
    · have hil : i < l.length := by have := HN.out; omega
      obtain ⟨b, off, hpa, c0, _⟩ := PinsAt.at HS.out hil
      subst hpa
      have HX : Hid (∀ p, p = l[i].1 → (x ≤ p ∧ p < y → sb = true) ∧ (¬ (x ≤ p ∧ p < y) → ∀ j, (hj : j < l.length) → j < i + 1 → ¬ (x ≤ l[j].1 ∧ l[j].1 < y))) := fun p hp => by
        refine ⟨fun h => ?_, fun h j hj hji => ?_⟩
        · rw [HSb.out]
          unfold seenN
          rw [List.any_eq_true]
          exact ⟨l[i].1, List.mem_map.2 ⟨_, List.getElem_mem hil, rfl⟩, by rw [← hp]; simpa using h⟩
        · by_cases e : j < i
          · exact HJ.out j hj e
          · have : j = i := by omega
            subst this
            rw [← hp]
            exact h
      obtain ⟨HX1, HX2⟩ := HX.out _ rfl
      replace HX1 := hidC HX1
      replace HX2 := hidC HX2
      clear HX HJ
      generalize l[i].1 = p at *
      by_cases h1 : x ≤ p
      · have h1b : decide (x ≤ p) = true := decide_eq_true h1
        by_cases h2 : p < y
        · have h2b : decide (p < y) = true := decide_eq_true h2
          have hs := HX1.out ⟨h1, h2⟩
          subst hs
          go_wp2
          go_ret
          exact ⟨rfl, rfl⟩
        · have h2b : decide (p < y) = false := decide_eq_false h2
          have HJ2 := hidC (HX2.out (by omega))
          go_wp2
          exact ⟨⟨i + 1, by omega, by go_num, HJ2.out, by first | rfl | trivial⟩, by simp [intOf]; omega⟩
      · have h1b : decide (x ≤ p) = false := decide_eq_false h1
        have HJ2 := hidC (HX2.out (by omega))
        go_wp2
        exact ⟨⟨i + 1, by omega, by go_num, HJ2.out, by first | rfl | trivial⟩, by simp [intOf]; omega⟩
    · have hs : sb = false := by
        rw [HSb.out]
        unfold seenN
        rw [List.any_eq_false]
        intro p hp
        obtain ⟨q, hq, rfl⟩ := List.mem_map.1 hp
        obtain ⟨j, hj, rfl⟩ := List.getElem_of_mem hq
        have := HJ.out j hj (by have := HN.out; omega)
        simpa using this
      subst hs
      go_wp2
      go_ret
      exact ⟨rfl, rfl⟩
theorem pn_ref {la : Int} {l : List (Int × Int)} {i : Nat} (h : ∀ j, j < i → PnAt la l j) (hi : i < l.length) : PnAt la l i ↔ (0 ≤ l[i].1 ∧ l[i].1 ≤ la ∧ 1 ≤ l[i].2 ∧ l[i].2 ≤ 1099511627776) ∧ ∀ j, i = j + 1 → (l.getD j (0, 0)).1 < l[i].1 := by
  have h0 : ∀ j, j < i → 0 ≤ (l.getD j (0, 0)).1 := by
    intro j hj
    have hjl : j < l.length := by omega
    have e : ∀ m (hm : m < l.length), l.getD m (0, 0) = l[m] := fun m hm => by simp [List.getD_eq_getElem?_getD, List.getElem?_eq_getElem hm]
    induction j with
    | zero => rw [e 0 hjl]; have := (h 0 hj hjl).1; simpa [loP] using this
    | succ m ih =>
      have h1 := ih (by omega) (by omega)
      have h2 := (h (m + 1) hj hjl).1
      rw [loP_succ (by omega)] at h2
      rw [e m (by omega)] at h1
      rw [e (m + 1) hjl]
      omega
  constructor
  · intro hp
    have h1 := hp hi
    refine ⟨⟨?_, h1.2⟩, fun j hj => ?_⟩
    · cases i with
      | zero => simpa [loP] using h1.1
      | succ m =>
        have h2 := h0 m (by omega)
        have h3 := h1.1
        simp only [loP] at h3
        omega
    · subst hj
      have h3 := h1.1
      simp only [loP] at h3
      omega
  · rintro ⟨h1, h2⟩ _
    refine ⟨?_, h1.2⟩
    cases i with
    | zero => simpa [loP] using h1.1
    | succ m =>
      have := h2 m rfl
      simp only [loP]
      omega
set_option maxRecDepth 100000 in
set_option maxHeartbeats 4000000 in
theorem rpins_any (N : Nat) (w : World) (s : Sn) (h : SnAt N w s) (hN : N ≤ w.heap.size) (ho : SnOK s) :
    Calls Tryz.prog 66 #[snv s] w fun e w' => FitPost w (PnOK s.la s.pins) e w' := by
  obtain ⟨la, pa, pc, pins, ca, cc, chs⟩ := s
  obtain ⟨pn, hpn⟩ : ∃ pn, pn = pins.length := ⟨_, rfl⟩
  obtain ⟨cn, hcn⟩ : ∃ cn, cn = chs.length := ⟨_, rfl⟩
  have hnp := ho.np
  simp only [snv] at *
  rw [← hpn] at hnp ⊢
  rw [← hcn]
  have HPn := hidC hpn
  obtain ⟨W1, hW1⟩ : ∃ W1, W1 = w.alloc (.cells #[.int .i64 la, .slice pa pn pc, .slice ca cn cc] 25) := ⟨_, rfl⟩
  obtain ⟨Kb, hKb⟩ : ∃ Kb, Kb = w.heap.size := ⟨_, rfl⟩
  have HB : Hid (Below w.heap.size w W1 ∧ W1.heap[Kb]? = some (.cells #[.int .i64 la, .slice pa pn pc, .slice ca cn cc] 25 (0, 0))) := by
    rw [hW1, hKb]
    exact ⟨(Below.refl _ _).alloc (Nat.le_refl _) _, heap_alloc_new _ _ rfl⟩
  have k1 : W1.cell? ⟨Kb, 1, none⟩ = some (.slice pa pn pc) := by have h1 := HB.out.2; simp [World.cell?, h1]
  have HS : Hid (∀ W, Below W1.heap.size W1 W → SnAt N W ⟨la, pa, pc, pins, ca, cc, chs⟩) := fun W hW => by
    have hb := HB.out.1
    exact (h.below (hb.mono hN)).below (hW.mono (by have := hb.size; omega))
  have HK : Hid (∀ W, Below W1.heap.size W1 W → W.cell? ⟨Kb, 0, none⟩ = some (.int .i64 la) ∧ W.cell? ⟨Kb, 1, none⟩ = some (.slice pa pn pc)) := fun W hW => by
    have h4 : W.heap[Kb]? = _ := (hW.block _ (blk_lt HB.out.2)).trans HB.out.2
    refine ⟨?_, ?_⟩ <;> simp [World.cell?, h4]
  clear h hpn hcn ho
  go_enter Tryz.func66, Tryz.ntmps66
  by_cases hbig : 32 < pn
  · go_wp2_with fail
    rw [← hW1]
    go_wp2
    go_ret
    exact FitPost.no (fun h => by have := h.1; have := HPn.out; omega) HB.out.1
  go_wp2_with fail
  rw [← hW1, ← hKb]
  clear hW1 hKb
  go_loopw [3, 4] (fun y _ wr => ∃ (i : Nat), i ≤ pn ∧ y = .int .i64 (i : Int) ∧ Hid (∀ j, j < i → PnAt la pins j) ∧ Hid (Below W1.heap.size W1 wr)) (fun y _ _ => pn - (intOf y).toNat)
  case atStart => exact ⟨0, Nat.zero_le _, rfl, fun j h => by omega, Below.refl _ _⟩
  case round =>
    clear k1
    obtain ⟨i, hi, rfl, HJ, HBw⟩ := hrel
    obtain ⟨k0, k1⟩ := HK.out wr HBw.out
    by_cases hlt : i < pn
    · have hil : i < pins.length := by have := HPn.out; omega
      obtain ⟨b, off, hpa, c0, c1⟩ := (HS.out wr HBw.out).pin (i := i) hil
      simp only at hpa c0 c1
      subst hpa
      have HP := hidC (pn_ref HJ.out hil)
      have HBn : Hid (∀ o q, Below w.heap.size w ((wr.alloc o).drewN q) ∧ Below W1.heap.size W1 ((wr.alloc o).drewN q)) := fun o q => by
        have h1 := HB.out.1
        have h2 : Below W1.heap.size W1 (wr.alloc o) := HBw.out.alloc HBw.out.size o
        have h3 := h2.trans ((drew_below _ q).mono h2.size)
        exact ⟨h1.trans (h3.mono h1.size), h3⟩
      have k0a : ∀ o, (wr.alloc o).cell? ⟨Kb, 0, none⟩ = some (.int .i64 la) := fun o => Lib.cell?_alloc_some _ k0
      have k1a : ∀ o, (wr.alloc o).cell? ⟨Kb, 1, none⟩ = some (.slice (some ⟨b, off, none⟩) pn pc) := fun o => Lib.cell?_alloc_some _ k1
      have HPr : Hid (∀ j, i = j + 1 → wr.cell? ⟨b, off + j * 2, none⟩ = some (.int .i64 (pins.getD j (0, 0)).1)) := fun j hj => by
        have hjl : j < pins.length := by omega
        obtain ⟨b', off', he, q0, _⟩ := (HS.out wr HBw.out).pin (i := j) hjl
        simp only at he q0
        cases he
        have e1 : pins.getD j (0, 0) = pins[j] := by simp [List.getD_eq_getElem?_getD, List.getElem?_eq_getElem hjl]
        rw [e1]
        exact q0
      generalize pins[i].1 = p1 at *
      generalize pins[i].2 = p2 at *
      have HJ2 : Hid (PnAt la pins i → ∀ j, j < i + 1 → PnAt la pins j) := fun h j hj => by
        by_cases hji : j < i
        · exact HJ.out j hji
        · have : j = i := by omega
          subst this
          exact h
      clear HBw HJ
      by_cases h1 : p1 < 0
      · have h1b : decide (p1 < 0) = true := decide_eq_true h1
        go_wp2_with fail
        go_quiet (fail)
        go_wp2
        go_ret
        exact FitPost.no (fun h => by have := (HP.out.1 (h.2 i)).1; omega) (HBn.out _ _).1
      have h1b : decide (p1 < 0) = false := decide_eq_false h1
      by_cases h2 : la < p1
      · have h2b : decide (la < p1) = true := decide_eq_true h2
        go_wp2_with fail
        go_quiet (fail)
        go_wp2
        go_ret
        exact FitPost.no (fun h => by have := (HP.out.1 (h.2 i)).1; omega) (HBn.out _ _).1
      have h2b : decide (la < p1) = false := decide_eq_false h2
      by_cases h3 : p2 < 1
      · have h3b : decide (p2 < 1) = true := decide_eq_true h3
        go_wp2_with fail
        go_quiet (fail)
        go_wp2
        go_ret
        exact FitPost.no (fun h => by have := (HP.out.1 (h.2 i)).1; omega) (HBn.out _ _).1
      have h3b : decide (p2 < 1) = false := decide_eq_false h3
      by_cases h4 : 1099511627776 < p2
      · have h4b : decide (1099511627776 < p2) = true := decide_eq_true h4
        go_wp2_with fail
        go_quiet (fail)
        go_wp2
        go_ret
        exact FitPost.no (fun h => by have := (HP.out.1 (h.2 i)).1; omega) (HBn.out _ _).1
      have h4b : decide (1099511627776 < p2) = false := decide_eq_false h4
      by_cases hi0 : i = 0
      · have hgN : decide (0 < i) = false := decide_eq_false (by omega)
        have hg : decide ((0 : Int) < (i : Int)) = false := decide_eq_false (by omega)
        have HJ3 := hidC (HJ2.out (HP.out.2 ⟨by omega, fun j hj => by omega⟩))
        clear hi0
        go_wp2_with fail
        go_quiet (fail)
        go_wp2
        exact ⟨⟨i + 1, by omega, by go_num, HJ3.out, (HBn.out _ _).2⟩, by simp [intOf]; omega⟩
      · have hg : decide ((0 : Int) < (i : Int)) = true := decide_eq_true (by omega)
        have hgN : decide (0 < i) = true := decide_eq_true (by omega)
        have hgN' : 0 < i := by omega
        obtain ⟨j, hj⟩ : ∃ j, i = j + 1 := ⟨i - 1, by omega⟩
        have hjn : (j : Int) < (pn : Int) := by omega
        have hwj : IntKind.i64.wrap ((i : Int) - 1) = (j : Int) := by rw [IntKind.wrap_i64]; omega
        have hpc := HPr.out j hj
        have HP2 : Hid (PnAt la pins i ↔ (pins.getD j (0, 0)).1 < p1) := by
          constructor
          · intro h; exact (HP.out.1 h).2 j hj
          · intro h
            refine HP.out.2 ⟨by omega, fun j' hj' => ?_⟩
            have hjj : j' = j := by omega
            rw [hjj]
            exact h
        obtain ⟨pb, hpb⟩ : ∃ pb, pb = (pins.getD j (0, 0)).1 := ⟨_, rfl⟩
        rw [← hpb] at hpc HP2
        have hpca : ∀ o, (wr.alloc o).cell? ⟨b, off + j * 2, none⟩ = some (.int .i64 pb) := fun o => Lib.cell?_alloc_some _ hpc
        clear hi0 hj HP HPr hpb hpc
        by_cases h5 : p1 ≤ pb
        · have h5b : decide (p1 ≤ pb) = true := decide_eq_true h5
          go_wp2_with fail
          go_quiet (fail)
          go_wp2
          go_ret
          exact FitPost.no (fun h => by have := HP2.out.1 (h.2 i); omega) (HBn.out _ _).1
        · have h5b : decide (p1 ≤ pb) = false := decide_eq_false h5
          have HJ3 := hidC (HJ2.out (HP2.out.2 (by omega)))
          go_wp2_with fail
          go_quiet (fail)
          go_wp2
          exact ⟨⟨i + 1, by omega, by go_num, HJ3.out, (HBn.out _ _).2⟩, by simp [intOf]; omega⟩
    · go_wp2
      go_ret
      have h1 := HB.out.1
      exact FitPost.yes ⟨by have := HPn.out; omega, fun j hj => HJ.out j (by have := HPn.out; omega) hj⟩ (h1.trans (HBw.out.mono h1.size))
end Go.Proofs.YtibdogniiglcjaaGreat
