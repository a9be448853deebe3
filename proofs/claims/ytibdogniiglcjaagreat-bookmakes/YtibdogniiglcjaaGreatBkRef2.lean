/-
  The document's chain.
-/
import Derived.Test.YtibdogniiglcjaaGreatBkRef1
namespace Go.Proofs.YtibdogniiglcjaaGreat
open Go.RowKit Go.Sort

/-- what the document asks of the i-th version of a chain -/
def RcAt (la : Int) (d : List Int) (l : List Stp) (i : Nat) : Prop := ∀ h : i < l.length, (1 ≤ l[i].b ∧ l[i].b ≤ la ∧ 0 ≤ l[i].i ∧ l[i].i < 64) ∧ ∀ h2 : i + 1 < l.length, l[i].b < l[i + 1].b ∧ seenN d l[i].b l[i + 1].b = true
theorem rc_ok {la : Int} {d : List Int} {l : List Stp} : ChOK la d l ↔ (0 < l.length ∧ ∀ i, RcAt la d l i) := by
  constructor
  · rintro ⟨h0, h⟩
    refine ⟨h0, fun i hi => ⟨⟨ChOK.one h i hi, (h i hi).1.2⟩, fun h2 => ?_⟩⟩
    have h3 := h (i + 1) h2
    rw [loC_succ hi] at h3
    have h4 := h3.2 i rfl
    rw [show l[i].b + 1 - 1 = l[i].b by omega] at h4
    exact ⟨by have := h3.1.1; omega, h4⟩
  · rintro ⟨h0, h⟩
    refine ⟨h0, fun i hi => ?_⟩
    have h1 := (h i hi).1
    cases i with
    | zero => exact ⟨⟨h1.1, h1.2⟩, fun j hj => by omega⟩
    | succ m =>
      have h2 := (h m (by omega)).2 hi
      rw [loC_succ (by omega)]
      refine ⟨⟨by omega, h1.2⟩, fun j hj => ?_⟩
      rw [show l[m].b + 1 - 1 = l[m].b by omega]
      exact h2.2
set_option maxRecDepth 100000 in
set_option maxHeartbeats 4000000 in
theorem rchain_any (N : Nat) (w : World) (s : Sn) (h : SnAt N w s) (hN : N ≤ w.heap.size) (ho : SnOK s) (ao : Option Addr) (n c : Nat) (l : List Stp) (hl : CsAt N w ao (scs l)) (hn : n = l.length) (hn2 : n ≤ 100000) :
    Calls Tryz.prog 67 #[snv s, .slice ao n c] w fun e w' => FitPost w (ChOK s.la (s.pins.map Prod.fst) l) e w' := by
  obtain ⟨la, pa, pc, pins, ca, cc, chs⟩ := s
  obtain ⟨pn, hpn⟩ : ∃ pn, pn = pins.length := ⟨_, rfl⟩
  obtain ⟨cn, hcn⟩ : ∃ cn, cn = chs.length := ⟨_, rfl⟩
  have hnp := ho.np
  simp only [snv] at *
  rw [← hpn] at hnp ⊢
  rw [← hcn]
  have HPn := hidC hpn
  have HLn := hidC hn
  obtain ⟨W1, hW1⟩ : ∃ W1, W1 = w.alloc (.cells #[.int .i64 la, .slice pa pn pc, .slice ca cn cc] 25) := ⟨_, rfl⟩
  obtain ⟨Kb, hKb⟩ : ∃ Kb, Kb = w.heap.size := ⟨_, rfl⟩
  have HB : Hid (Below w.heap.size w W1 ∧ W1.heap[Kb]? = some (.cells #[.int .i64 la, .slice pa pn pc, .slice ca cn cc] 25 (0, 0))) := by
    rw [hW1, hKb]
    exact ⟨(Below.refl _ _).alloc (Nat.le_refl _) _, heap_alloc_new _ _ rfl⟩
  have HL : Hid (CsAt N W1 ao (scs l)) := hl.below (HB.out.1.mono hN)
  have HP : Hid (CsAt N W1 pa (pns pins)) := h.ps.below (HB.out.1.mono hN)
  have k0 : W1.cell? ⟨Kb, 0, none⟩ = some (.int .i64 la) := by have h1 := HB.out.2; simp [World.cell?, h1]
  have k1 : W1.cell? ⟨Kb, 1, none⟩ = some (.slice pa pn pc) := by have h1 := HB.out.2; simp [World.cell?, h1]
  have HSe : Hid (∀ q x y, Calls Tryz.prog 79 #[.slice pa pn pc, .int .i64 x, .int .i64 y] (W1.drewN q) fun e w' => e = .returned (.bool (seenN (pins.map Prod.fst) x y)) ∧ w' = W1.drewN q) := fun q x y => rseen_any N (W1.drewN q) pa pn pc pins (fun j u hu => HP.out j u hu) HPn.out hnp x y
  generalize hd : pins.map Prod.fst = d at *
  have HB1 : Hid (∀ q, Below w.heap.size w (W1.drewN q)) := fun q => HB.out.1.trans ((drew_below _ q).mono HB.out.1.size)
  have HRc := hidC (rc_ok (la := la) (d := d) (l := l))
  clear h hpn hcn ho hl hn HP hd HB
  go_enter Tryz.func67, Tryz.ntmps67
  go_wp2_with fail
  rw [← hW1, ← hKb]
  clear hW1 hKb
  go_loopw [5] (fun y wr => ∃ (i q : Nat), i ≤ n ∧ y = .int .i64 (i : Int) ∧ Hid (∀ j, j < i → RcAt la d l j) ∧ wr = W1.drewN q) (fun y _ => n - (intOf y).toNat)
  case atStart => exact ⟨0, 0, Nat.zero_le _, rfl, fun j h => by omega, rfl⟩
  case round =>
    obtain ⟨i, q, hi, rfl, HJ, hw⟩ := hrel
    subst hw
    have k0q : ∀ q, (W1.drewN q).cell? ⟨Kb, 0, none⟩ = some (.int .i64 la) := fun q => k0
    have k1q : ∀ q, (W1.drewN q).cell? ⟨Kb, 1, none⟩ = some (.slice pa pn pc) := fun q => k1
    by_cases hlt : i < n
    · have hil : i < l.length := by have := HLn.out; omega
      obtain ⟨b, off, hao, c0, c1, _, _⟩ := HL.out.stamp hil
      subst hao
      have HRi : Hid (RcAt la d l i ↔ ((1 ≤ l[i].b ∧ l[i].b ≤ la ∧ 0 ≤ l[i].i ∧ l[i].i < 64) ∧ ∀ h2 : i + 1 < l.length, l[i].b < l[i + 1].b ∧ seenN d l[i].b l[i + 1].b = true)) := ⟨fun h => h hil, fun h _ => h⟩
      have HNo : Hid (¬ RcAt la d l i → ¬ ChOK la d l) := fun h hc => h ((HRc.out.1 hc).2 i)
      have HJ2 : Hid (RcAt la d l i → ∀ j, j < i + 1 → RcAt la d l j) := fun h j hj => by
        by_cases hji : j < i
        · exact HJ.out j hji
        · have : j = i := by omega
          subst this
          exact h
      have HNx : Hid (∀ h2 : i + 1 < l.length, W1.cell? ⟨b, off + (i + 1) * 4, none⟩ = some (.int .i64 l[i + 1].b)) := fun h2 => by
        obtain ⟨b', off', he, q0, _⟩ := HL.out.stamp h2
        cases he
        exact q0
      have c0q : ∀ q, (W1.drewN q).cell? ⟨b, off + i * 4, none⟩ = some (.int .i64 l[i].b) := fun q => c0
      have c1q : ∀ q, (W1.drewN q).cell? ⟨b, off + i * 4 + 1, none⟩ = some (.int .i64 l[i].i) := fun q => c1
      generalize hp1 : l[i].b = p1 at *
      generalize hp2 : l[i].i = p2 at *
      clear HJ
      by_cases h1 : p1 < 1
      · have h1b : decide (p1 < 1) = true := decide_eq_true h1
        go_wp2_with fail
        go_quiet (fail)
        go_wp2
        go_ret
        exact FitPost.no (HNo.out (fun h => by have := (HRi.out.1 h).1; omega)) (by first | exact HB1.out _ | (rw [World.drewN_drewN]; exact HB1.out _))
      have h1b : decide (p1 < 1) = false := decide_eq_false h1
      by_cases h2 : la < p1
      · have h2b : decide (la < p1) = true := decide_eq_true h2
        go_wp2_with fail
        go_quiet (fail)
        go_wp2
        go_ret
        exact FitPost.no (HNo.out (fun h => by have := (HRi.out.1 h).1; omega)) (by first | exact HB1.out _ | (rw [World.drewN_drewN]; exact HB1.out _))
      have h2b : decide (la < p1) = false := decide_eq_false h2
      by_cases h3 : p2 < 0
      · have h3b : decide (p2 < 0) = true := decide_eq_true h3
        go_wp2_with fail
        go_quiet (fail)
        go_wp2
        go_ret
        exact FitPost.no (HNo.out (fun h => by have := (HRi.out.1 h).1; omega)) (by first | exact HB1.out _ | (rw [World.drewN_drewN]; exact HB1.out _))
      have h3b : decide (p2 < 0) = false := decide_eq_false h3
      by_cases h4 : 64 ≤ p2
      · have h4b : decide (64 ≤ p2) = true := decide_eq_true h4
        go_wp2_with fail
        go_quiet (fail)
        go_wp2
        go_ret
        exact FitPost.no (HNo.out (fun h => by have := (HRi.out.1 h).1; omega)) (by first | exact HB1.out _ | (rw [World.drewN_drewN]; exact HB1.out _))
      have h4b : decide (64 ≤ p2) = false := decide_eq_false h4
      go_wp2_with fail
      go_quiet (fail)
      go_wp2_with fail
      try rw [World.drewN_drewN]
      generalize hq2 : q + nq = q2
      clear hq2
      by_cases hnx : i + 1 < n
      · obtain ⟨m, hm⟩ : ∃ m, m = i + 1 := ⟨_, rfl⟩
        have hwi : IntKind.i64.wrap ((i : Int) + 1) = (m : Int) := by rw [IntKind.wrap_i64]; omega
        have hgI : decide ((m : Int) < (n : Int)) = true := decide_eq_true (by omega)
        have hgN : decide (m < n) = true := decide_eq_true (by omega)
        have hgI' : (m : Int) < (n : Int) := by omega
        have h2l : i + 1 < l.length := by have := HLn.out; omega
        have HRi2 : Hid (RcAt la d l i ↔ (p1 < l[i + 1].b ∧ seenN d p1 l[i + 1].b = true)) := by
          constructor
          · intro h; exact (HRi.out.1 h).2 h2l
          · intro h; exact HRi.out.2 ⟨by omega, fun _ => h⟩
        have r0 := HNx.out h2l
        have r0q : ∀ q, (W1.drewN q).cell? ⟨b, off + m * 4, none⟩ = some (.int .i64 l[i + 1].b) := fun q => by rw [hm]; exact r0
        have HM := hidC hm
        generalize l[i + 1].b = r1 at *
        have hmn : m ≤ n := by omega
        have hmi : i < m := by omega
        clear HRi HNx h2l hm r0 hnx
        by_cases h5 : r1 ≤ p1
        · have h5b : decide (r1 ≤ p1) = true := decide_eq_true h5
          go_quiet (fail)
          go_wp2
          go_ret
          exact FitPost.no (HNo.out (fun h => by have := (HRi2.out.1 h).1; omega)) (by first | exact HB1.out _ | (rw [World.drewN_drewN]; exact HB1.out _))
        have h5b : decide (r1 ≤ p1) = false := decide_eq_false h5
        have HSe2 : Hid (∀ q q', Calls Tryz.prog 79 #[.slice pa pn pc, .int .i64 p1, .int .i64 r1] ((W1.drewN q).drewN q') fun e w' => e = .returned (.bool (seenN d p1 r1)) ∧ w' = (W1.drewN q).drewN q') := fun q q' => by rw [World.drewN_drewN]; exact HSe.out _ p1 r1
        have HSe3 : Hid (∀ a q q', Calls Tryz.prog 79 #[.slice pa pn pc, .int .i64 p1, .int .i64 r1] (((W1.drewN a).drewN q).drewN q') fun e w' => e = .returned (.bool (seenN d p1 r1)) ∧ w' = ((W1.drewN a).drewN q).drewN q') := fun a q q' => by rw [World.drewN_drewN, World.drewN_drewN]; exact HSe.out _ p1 r1
        have HSe1 : Hid (∀ q, Calls Tryz.prog 79 #[.slice pa pn pc, .int .i64 p1, .int .i64 r1] (W1.drewN q) fun e w' => e = .returned (.bool (seenN d p1 r1)) ∧ w' = W1.drewN q) := fun q => HSe.out _ p1 r1
        generalize seenN d p1 r1 = sb at *
        go_quiet (first | (go_at_call 79; exact (HSe1.out _).mono (fun e w' hx => ⟨hx.1, _, hx.2⟩)))
        cases sb with
        | false =>
          go_wp2
          go_ret
          exact FitPost.no (HNo.out (fun h => by have := (HRi2.out.1 h).2; cases this)) (by first | exact HB1.out _ | (rw [World.drewN_drewN]; exact HB1.out _))
        | true =>
          have HJ3 : Hid (∀ j, j < m → RcAt la d l j) := by rw [HM.out]; exact HJ2.out (HRi2.out.2 ⟨by omega, rfl⟩)
          go_wp2
          exact ⟨⟨m, _, hmn, by first | rfl | go_num, HJ3.out, by first | rfl | exact World.drewN_drewN _ _ _⟩, by simp [intOf]; omega⟩
      · have hwi : IntKind.i64.wrap ((i : Int) + 1) = (i : Int) + 1 := by rw [IntKind.wrap_i64]; omega
        have hgI : decide ((i : Int) + 1 < (n : Int)) = false := decide_eq_false (by omega)
        have hgN : decide (i + 1 < n) = false := decide_eq_false hnx
        have HJ3 := hidC (HJ2.out (HRi.out.2 ⟨by omega, fun h => by have := HLn.out; omega⟩))
        go_quiet (fail)
        go_wp2
        exact ⟨⟨i + 1, _, by omega, by go_num, HJ3.out, by first | rfl | exact World.drewN_drewN _ _ _⟩, by simp [intOf]; omega⟩
    · have HX : Hid (ChOK la d l ↔ 0 < n) := by
        have hn := HLn.out
        refine ⟨fun h => by have := h.1; omega, fun h => HRc.out.2 ⟨by omega, fun j hj => HJ.out j (by omega) hj⟩⟩
      by_cases h0 : 0 < n
      · have h0b : decide ((0 : Int) < (n : Int)) = true := decide_eq_true (by omega)
        go_wp2
        go_ret
        first | exact FitPost.yes (HX.out.2 h0) (HB1.out _) | (rw [h0b]; exact FitPost.yes (HX.out.2 h0) (HB1.out _))
      · have h0b : decide ((0 : Int) < (n : Int)) = false := decide_eq_false (by omega)
        go_wp2
        go_ret
        first | exact FitPost.no (fun h => h0 (HX.out.1 h)) (HB1.out _) | (rw [h0b]; exact FitPost.no (fun h => h0 (HX.out.1 h)) (HB1.out _))
end Go.Proofs.YtibdogniiglcjaaGreat
