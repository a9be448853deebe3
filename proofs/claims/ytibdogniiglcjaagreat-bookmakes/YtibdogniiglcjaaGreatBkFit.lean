/-
  pinsFit, size.
-/
import Derived.Test.YtibdogniiglcjaaGreatBkSnap
import Derived.BigQuiet
namespace Go.Proofs.YtibdogniiglcjaaGreat
open Go.RowKit Go.Sort

/-- an answer that says whether -/
def FitPost (w : World) (P : Prop) (e : Ending) (w' : World) : Prop := ∃ r, e = .returned (.bool r) ∧ (r = true ↔ P) ∧ Below w.heap.size w w'
theorem FitPost.no {w w' : World} {P : Prop} (h : ¬ P) (hb : Below w.heap.size w w') : FitPost w P (.returned (.bool false)) w' := ⟨false, rfl, ⟨fun h => Bool.noConfusion h, fun hp => absurd hp h⟩, hb⟩
theorem FitPost.yes {w w' : World} {P : Prop} (h : P) (hb : Below w.heap.size w w') : FitPost w P (.returned (.bool true)) w' := ⟨true, rfl, ⟨fun _ => h, fun _ => rfl⟩, hb⟩
def SizePost (w : World) (n : Int) (e : Ending) (w' : World) : Prop := e = .returned (.int .i64 n) ∧ Below w.heap.size w w'
theorem loP_succ {l : List (Int × Int)} {i : Nat} (h : i < l.length) : loP l (i + 1) = l[i].1 + 1 := by
  simp [loP, List.getD_eq_getElem?_getD, List.getElem?_eq_getElem h]
theorem loC_succ {l : List Stp} {i : Nat} (h : i < l.length) : loC l (i + 1) = l[i].b + 1 := by
  simp [loC, List.getD_eq_getElem?_getD, List.getElem?_eq_getElem h]
set_option maxRecDepth 100000 in
set_option maxHeartbeats 4000000 in
theorem pinsFit_any (N : Nat) (w : World) (s : Sn) (h : SnAt N w s) (hN : N ≤ w.heap.size) (ho : SnOK s) (hla : 0 ≤ s.la ∧ s.la ≤ 1099511627776) :
    Calls Tryz.prog 63 #[snv s] w fun e w' => FitPost w (PnOK s.la s.pins) e w' := by
  obtain ⟨la, pa, pc, pins, ca, cc, chs⟩ := s
  obtain ⟨pn, hpn⟩ : ∃ pn, pn = pins.length := ⟨_, rfl⟩
  obtain ⟨cn, hcn⟩ : ∃ cn, cn = chs.length := ⟨_, rfl⟩
  have hnp := ho.np
  simp only [snv] at *
  rw [← hpn] at hnp ⊢
  rw [← hcn]
  have HPn := hidC hpn
  obtain ⟨W1, hW1⟩ : ∃ W1, W1 = w.alloc (.cells #[.int .i64 la, .slice pa pn pc, .slice ca cn cc] 25) := ⟨_, rfl⟩
  obtain ⟨Kb, hKb⟩ : ∃ Kb, Kb = w.heap.size := ⟨_, rfl⟩
  have HB : Hid (Below w.heap.size w W1 ∧ W1.heap[Kb]? = some (.cells #[.int .i64 la, .slice pa pn pc, .slice ca cn cc] 25 (0, 0))) := by
    rw [hW1, hKb]
    exact ⟨(Below.refl _ _).alloc (Nat.le_refl _) _, heap_alloc_new _ _ rfl⟩
  have k1 : W1.cell? ⟨Kb, 1, none⟩ = some (.slice pa pn pc) := by have h1 := HB.out.2; simp [World.cell?, h1]
  have HS : Hid (∀ W, Below W1.heap.size W1 W → SnAt N W ⟨la, pa, pc, pins, ca, cc, chs⟩) := fun W hW => by
    have hb := HB.out.1
    exact (h.below (hb.mono hN)).below (hW.mono (by have := hb.size; omega))
  have HI := hidC ho.ip
  clear h hpn hcn ho
  go_enter Tryz.func63, Tryz.ntmps63
  by_cases hbig : 32 < pn
  · go_wp2_with fail
    rw [← hW1]
    go_wp2
    go_ret
    exact FitPost.no (fun h => by have := h.1; have := HPn.out; omega) HB.out.1
  go_wp2_with fail
  rw [← hW1, ← hKb]
  clear hW1 hKb
  go_loopw [3, 5, 13] (fun x _ y wr => ∃ (i : Nat) (lo : Int), i ≤ pn ∧ 0 ≤ lo ∧ x = .int .i64 lo ∧ y = .int .i64 (i : Int) ∧ Hid (lo = loP pins i) ∧ Hid (∀ j, j < i → PnAt la pins j) ∧ Hid (Below W1.heap.size W1 wr)) (fun _ _ y _ => pn - (intOf y).toNat)
  case atStart => exact ⟨0, 0, Nat.zero_le _, by omega, rfl, rfl, rfl, fun j h => by omega, Below.refl _ _⟩
  case round =>
    obtain ⟨i, lo, hi, hlo0, rfl, rfl, HLo, HJ, HBw⟩ := hrel
    have k0 : ∀ o, (wr.alloc o).cell? ⟨Kb, 0, none⟩ = some (.int .i64 la) := fun o => by
      have h1 := (HBw.out.block _ (blk_lt HB.out.2)).trans HB.out.2
      exact Lib.cell?_alloc_some _ (by simp [World.cell?, h1])
    by_cases hlt : i < pn
    · have hil : i < pins.length := by have := HPn.out; omega
      obtain ⟨b, off, hpa, c0, c1⟩ := (HS.out wr HBw.out).pin (i := i) hil
      simp only at hpa c0 c1
      subst hpa
      have HSu := hidC (loP_succ hil)
      have HP : Hid (PnAt la pins i ↔ (lo ≤ pins[i].1 ∧ pins[i].1 ≤ la ∧ 1 ≤ pins[i].2 ∧ pins[i].2 ≤ 1099511627776)) := ⟨fun h => by rw [HLo.out]; exact h hil, fun h _ => by rw [HLo.out] at h; exact h⟩
      have HBn : Hid (∀ o, Below w.heap.size w (wr.alloc o) ∧ Below W1.heap.size W1 (wr.alloc o)) := fun o => by
        have h1 := HB.out.1
        have h2 : Below W1.heap.size W1 (wr.alloc o) := HBw.out.alloc HBw.out.size o
        exact ⟨h1.trans (h2.mono h1.size), h2⟩
      generalize pins[i].1 = p1 at *
      generalize pins[i].2 = p2 at *
      clear HBw
      by_cases h1 : p1 < lo
      · have h1b : decide (p1 < lo) = true := decide_eq_true h1
        go_wp2
        go_ret
        exact FitPost.no (fun h => by have := HP.out.1 (h.2 i); omega) (HBn.out _).1
      have h1b : decide (p1 < lo) = false := decide_eq_false h1
      by_cases h2 : la < p1
      · have h2b : decide (la < p1) = true := decide_eq_true h2
        go_wp2
        go_ret
        exact FitPost.no (fun h => by have := HP.out.1 (h.2 i); omega) (HBn.out _).1
      have h2b : decide (la < p1) = false := decide_eq_false h2
      by_cases h3 : p2 < 1
      · have h3b : decide (p2 < 1) = true := decide_eq_true h3
        go_wp2
        go_ret
        exact FitPost.no (fun h => by have := HP.out.1 (h.2 i); omega) (HBn.out _).1
      have h3b : decide (p2 < 1) = false := decide_eq_false h3
      by_cases h4 : 1099511627776 < p2
      · have h4b : decide (1099511627776 < p2) = true := decide_eq_true h4
        go_wp2
        go_ret
        exact FitPost.no (fun h => by have := HP.out.1 (h.2 i); omega) (HBn.out _).1
      have h4b : decide (1099511627776 < p2) = false := decide_eq_false h4
      have hwp : IntKind.i64.wrap (p1 + 1) = p1 + 1 := by rw [IntKind.wrap_i64]; omega
      have HJ2 : Hid (∀ j, j < i + 1 → PnAt la pins j) := fun j hj => by
        by_cases hji : j < i
        · exact HJ.out j hji
        · have : j = i := by omega
          subst this
          exact HP.out.2 (by omega)
      go_wp2
      refine ⟨⟨i + 1, p1 + 1, by omega, by omega, rfl, by go_num, HSu.out.symm, HJ2.out, (HBn.out _).2⟩, by simp [intOf]; omega⟩
    · go_wp2
      go_ret
      have h1 := HB.out.1
      exact FitPost.yes ⟨by have := HPn.out; omega, fun j hj => HJ.out j (by have := HPn.out; omega) hj⟩ (h1.trans (HBw.out.mono h1.size))
/-- size -/
theorem snSize_take {l : List Ch} {k : Nat} (h : k < l.length) : snSize (l.take (k + 1)) = snSize (l.take k) + l[k].l.length := by
  unfold snSize
  rw [List.take_succ_eq_append_getElem h, List.map_append, List.sum_append_nat]
  simp
theorem snSize_le {l : List Ch} (h : ∀ c ∈ l, c.l.length ≤ 100000) : snSize l ≤ l.length * 100000 := by
  induction l with
  | nil => simp [snSize]
  | cons c l ih =>
    have h1 := ih (fun x hx => h x (by simp [hx]))
    have h2 := h c (by simp)
    have e : snSize (c :: l) = c.l.length + snSize l := by simp [snSize]
    rw [e, List.length_cons, Nat.add_mul]
    omega
set_option maxRecDepth 100000 in
set_option maxHeartbeats 4000000 in
theorem size_any (N : Nat) (w : World) (s : Sn) (h : SnAt N w s) (hN : N ≤ w.heap.size) (ho : SnOK s) :
    Calls Tryz.prog 43 #[snv s] w fun e w' => SizePost w (snSize s.chs : Int) e w' := by
  obtain ⟨la, pa, pc, pins, ca, cc, chs⟩ := s
  obtain ⟨pn, hpn⟩ : ∃ pn, pn = pins.length := ⟨_, rfl⟩
  obtain ⟨cn, hcn⟩ : ∃ cn, cn = chs.length := ⟨_, rfl⟩
  have hnc := ho.nc
  simp only [snv] at *
  rw [← hpn]
  rw [← hcn] at hnc ⊢
  have HCn := hidC hcn
  obtain ⟨W1, hW1⟩ : ∃ W1, W1 = w.alloc (.cells #[.int .i64 la, .slice pa pn pc, .slice ca cn cc] 25) := ⟨_, rfl⟩
  obtain ⟨Kb, hKb⟩ : ∃ Kb, Kb = w.heap.size := ⟨_, rfl⟩
  have HB : Hid (Below w.heap.size w W1 ∧ W1.heap[Kb]? = some (.cells #[.int .i64 la, .slice pa pn pc, .slice ca cn cc] 25 (0, 0))) := by
    rw [hW1, hKb]
    exact ⟨(Below.refl _ _).alloc (Nat.le_refl _) _, heap_alloc_new _ _ rfl⟩
  have k1 : W1.cell? ⟨Kb, 2, none⟩ = some (.slice ca cn cc) := by have h1 := HB.out.2; simp [World.cell?, h1]
  have HS : Hid (∀ W, Below W1.heap.size W1 W → SnAt N W ⟨la, pa, pc, pins, ca, cc, chs⟩) := fun W hW => by
    have hb := HB.out.1
    exact (h.below (hb.mono hN)).below (hW.mono (by have := hb.size; omega))
  have HV := hidC ho.nv
  clear h hpn hcn ho
  go_enter Tryz.func43, Tryz.ntmps43
  go_wp2_with fail
  rw [← hW1, ← hKb]
  clear hW1 hKb k1
  go_loopw [3, 5, 9] (fun x _ y wr => ∃ (i q : Nat), i ≤ cn ∧ x = .int .i64 (q : Int) ∧ y = .int .i64 (i : Int) ∧ q ≤ i * 100000 ∧ Hid (q = snSize (chs.take i)) ∧ Hid (Below W1.heap.size W1 wr)) (fun _ _ y _ => cn - (intOf y).toNat)
  case atStart => exact ⟨0, 0, Nat.zero_le _, rfl, rfl, Nat.zero_le _, by simp [Hid, snSize], Below.refl _ _⟩
  case round =>
    obtain ⟨i, q, hi, rfl, rfl, hq, HQ, HBw⟩ := hrel
    by_cases hlt : i < cn
    · have hil : i < chs.length := by have := HCn.out; omega
      obtain ⟨b, off, hca, c0, c1, c2⟩ := (HS.out wr HBw.out).chain (i := i) hil
      simp only at hca c0 c1 c2
      subst hca
      have HU := hidC (snSize_take hil)
      have hv := HV.out _ (List.getElem_mem hil)
      have HBn : Hid (∀ o, Below W1.heap.size W1 (wr.alloc o)) := fun o => HBw.out.alloc HBw.out.size o
      generalize chs[i].l.length = na at *
      generalize chs[i].a = sa at *
      generalize chs[i].c = sc at *
      generalize chs[i].k.1 = x1 at *
      generalize chs[i].k.2 = x2 at *
      have hwp : IntKind.i64.wrap ((q : Int) + (na : Int)) = (q : Int) + (na : Int) := by rw [IntKind.wrap_i64]; omega
      have HQ2 : Hid (q + na = snSize (chs.take (i + 1))) := by rw [HU.out, HQ.out]; rfl
      clear HU HQ HBw
      go_wp2
      refine ⟨⟨i + 1, q + na, by omega, by rw [Int.natCast_add], by go_num, by omega, HQ2.out, HBn.out _⟩, by simp [intOf]; omega⟩
    · have hie : i = cn := by omega
      subst hie
      have HF : Hid ((q : Int) = (snSize chs : Int) ∧ Below w.heap.size w wr) := by
        have h2 := HQ.out
        rw [HCn.out, List.take_length] at h2
        have h1 := HB.out.1
        exact ⟨by rw [h2], h1.trans (HBw.out.mono h1.size)⟩
      clear HQ HBw
      go_wp2
      go_ret
      have h9 : SizePost w (snSize chs : Int) (.returned (.int .i64 (q : Int))) wr := ⟨by rw [HF.out.1], HF.out.2⟩
      exact h9
end Go.Proofs.YtibdogniiglcjaaGreat
