import Derived.Test.YtbmohlkcmhhpgaaGreatBkSnap
import Derived.BigQuiet
import Derived.Test.YtbmohlkcmhhpgaaGreatBkColl
import Derived.Maps.AppendAt
/-
  pinsFit, size.
-/
namespace Go.Proofs.YtbmohlkcmhhpgaaGreat
open Go.RowKit Go.Sort

/-- an answer that says whether -/
def FitPost (w : World) (P : Prop) (e : Ending) (w' : World) : Prop := ∃ r, e = .returned (.bool r) ∧ (r = true ↔ P) ∧ Below w.heap.size w w'
theorem FitPost.no {w w' : World} {P : Prop} (h : ¬ P) (hb : Below w.heap.size w w') : FitPost w P (.returned (.bool false)) w' := ⟨false, rfl, ⟨fun h => Bool.noConfusion h, fun hp => absurd hp h⟩, hb⟩
theorem FitPost.yes {w w' : World} {P : Prop} (h : P) (hb : Below w.heap.size w w') : FitPost w P (.returned (.bool true)) w' := ⟨true, rfl, ⟨fun _ => h, fun _ => rfl⟩, hb⟩
def SizePost (w : World) (n : Int) (e : Ending) (w' : World) : Prop := e = .returned (.int .i64 n) ∧ Below w.heap.size w w'
theorem loP_succ {l : List (Int × Int)} {i : Nat} (h : i < l.length) : loP l (i + 1) = l[i].1 + 1 := by
  simp [loP, List.getD_eq_getElem?_getD, List.getElem?_eq_getElem h]
theorem loC_succ {l : List Stp} {i : Nat} (h : i < l.length) : loC l (i + 1) = l[i].b + 1 := by
  simp [loC, List.getD_eq_getElem?_getD, List.getElem?_eq_getElem h]
set_option maxRecDepth 100000 in
set_option maxHeartbeats 4000000 in
theorem pinsFit_any (N : Nat) (w : World) (s : Sn) (h : SnAt N w s) (hN : N ≤ w.heap.size) (ho : SnOK s) (hla : 0 ≤ s.la ∧ s.la ≤ 1099511627776) :
    Calls Tryz.prog 57 #[snv s] w fun e w' => FitPost w (PnOK s.la s.pins) e w' := by
  obtain ⟨la, pa, pc, pins, ca, cc, chs⟩ := s
  obtain ⟨pn, hpn⟩ : ∃ pn, pn = pins.length := ⟨_, rfl⟩
  obtain ⟨cn, hcn⟩ : ∃ cn, cn = chs.length := ⟨_, rfl⟩
  have hnp := ho.np
  simp only [snv] at *
  rw [← hpn] at hnp ⊢
  rw [← hcn]
  have HPn := hidC hpn
  obtain ⟨W1, hW1⟩ : ∃ W1, W1 = w.alloc (.cells #[.int .i64 la, .slice pa pn pc, .slice ca cn cc] 25) := ⟨_, rfl⟩
  obtain ⟨Kb, hKb⟩ : ∃ Kb, Kb = w.heap.size := ⟨_, rfl⟩
  have HB : Hid (Below w.heap.size w W1 ∧ W1.heap[Kb]? = some (.cells #[.int .i64 la, .slice pa pn pc, .slice ca cn cc] 25 (0, 0))) := by
    rw [hW1, hKb]
    exact ⟨(Below.refl _ _).alloc (Nat.le_refl _) _, heap_alloc_new _ _ rfl⟩
  have k1 : W1.cell? ⟨Kb, 1, none⟩ = some (.slice pa pn pc) := by have h1 := HB.out.2; simp [World.cell?, h1]
  have HS : Hid (∀ W, Below W1.heap.size W1 W → SnAt N W ⟨la, pa, pc, pins, ca, cc, chs⟩) := fun W hW => by
    have hb := HB.out.1
    exact (h.below (hb.mono hN)).below (hW.mono (by have := hb.size; omega))
  have HI := hidC ho.ip
  clear h hpn hcn ho
  go_enter Tryz.func57, Tryz.ntmps57
  by_cases hbig : 32 < pn
  · go_wp2_with fail
    rw [← hW1]
    go_wp2
    go_ret
    exact FitPost.no (fun h => by have := h.1; have := HPn.out; omega) HB.out.1
  go_wp2_with fail
  rw [← hW1, ← hKb]
  clear hW1 hKb
  go_loopw [3, 5, 13] (fun x _ y wr => ∃ (i : Nat) (lo : Int), i ≤ pn ∧ 0 ≤ lo ∧ x = .int .i64 lo ∧ y = .int .i64 (i : Int) ∧ Hid (lo = loP pins i) ∧ Hid (∀ j, j < i → PnAt la pins j) ∧ Hid (Below W1.heap.size W1 wr)) (fun _ _ y _ => pn - (intOf y).toNat)
  case atStart => exact ⟨0, 0, Nat.zero_le _, by omega, rfl, rfl, rfl, fun j h => by omega, Below.refl _ _⟩
  case round =>
    obtain ⟨i, lo, hi, hlo0, rfl, rfl, HLo, HJ, HBw⟩ := hrel
    have k0 : ∀ o, (wr.alloc o).cell? ⟨Kb, 0, none⟩ = some (.int .i64 la) := fun o => by
      have h1 := (HBw.out.block _ (blk_lt HB.out.2)).trans HB.out.2
      exact Lib.cell?_alloc_some _ (by simp [World.cell?, h1])
    by_cases hlt : i < pn
    · have hil : i < pins.length := by have := HPn.out; omega
      obtain ⟨b, off, hpa, c0, c1⟩ := (HS.out wr HBw.out).pin (i := i) hil
      simp only at hpa c0 c1
      subst hpa
      have HSu := hidC (loP_succ hil)
      have HP : Hid (PnAt la pins i ↔ (lo ≤ pins[i].1 ∧ pins[i].1 ≤ la ∧ 1 ≤ pins[i].2 ∧ pins[i].2 ≤ 1099511627776)) := ⟨fun h => by rw [HLo.out]; exact h hil, fun h _ => by rw [HLo.out] at h; exact h⟩
      have HBn : Hid (∀ o, Below w.heap.size w (wr.alloc o) ∧ Below W1.heap.size W1 (wr.alloc o)) := fun o => by
        have h1 := HB.out.1
        have h2 : Below W1.heap.size W1 (wr.alloc o) := HBw.out.alloc HBw.out.size o
        exact ⟨h1.trans (h2.mono h1.size), h2⟩
      generalize pins[i].1 = p1 at *
      generalize pins[i].2 = p2 at *
      clear HBw
      by_cases h1 : p1 < lo
      · have h1b : decide (p1 < lo) = true := decide_eq_true h1
        go_wp2
        go_ret
        exact FitPost.no (fun h => by have := HP.out.1 (h.2 i); omega) (HBn.out _).1
      have h1b : decide (p1 < lo) = false := decide_eq_false h1
      by_cases h2 : la < p1
      · have h2b : decide (la < p1) = true := decide_eq_true h2
        go_wp2
        go_ret
        exact FitPost.no (fun h => by have := HP.out.1 (h.2 i); omega) (HBn.out _).1
      have h2b : decide (la < p1) = false := decide_eq_false h2
      by_cases h3 : p2 < 1
      · have h3b : decide (p2 < 1) = true := decide_eq_true h3
        go_wp2
        go_ret
        exact FitPost.no (fun h => by have := HP.out.1 (h.2 i); omega) (HBn.out _).1
      have h3b : decide (p2 < 1) = false := decide_eq_false h3
      by_cases h4 : 1099511627776 < p2
      · have h4b : decide (1099511627776 < p2) = true := decide_eq_true h4
        go_wp2
        go_ret
        exact FitPost.no (fun h => by have := HP.out.1 (h.2 i); omega) (HBn.out _).1
      have h4b : decide (1099511627776 < p2) = false := decide_eq_false h4
      have hwp : IntKind.i64.wrap (p1 + 1) = p1 + 1 := by rw [IntKind.wrap_i64]; omega
      have HJ2 : Hid (∀ j, j < i + 1 → PnAt la pins j) := fun j hj => by
        by_cases hji : j < i
        · exact HJ.out j hji
        · have : j = i := by omega
          subst this
          exact HP.out.2 (by omega)
      go_wp2
      refine ⟨⟨i + 1, p1 + 1, by omega, by omega, rfl, by go_num, HSu.out.symm, HJ2.out, (HBn.out _).2⟩, by simp [intOf]; omega⟩
    · go_wp2
      go_ret
      have h1 := HB.out.1
      exact FitPost.yes ⟨by have := HPn.out; omega, fun j hj => HJ.out j (by have := HPn.out; omega) hj⟩ (h1.trans (HBw.out.mono h1.size))
/-- size -/
theorem snSize_take {l : List Ch} {k : Nat} (h : k < l.length) : snSize (l.take (k + 1)) = snSize (l.take k) + l[k].l.length := by
  unfold snSize
  rw [List.take_succ_eq_append_getElem h, List.map_append, List.sum_append_nat]
  simp
theorem snSize_le {l : List Ch} (h : ∀ c ∈ l, c.l.length ≤ 100000) : snSize l ≤ l.length * 100000 := by
  induction l with
  | nil => simp [snSize]
  | cons c l ih =>
    have h1 := ih (fun x hx => h x (by simp [hx]))
    have h2 := h c (by simp)
    have e : snSize (c :: l) = c.l.length + snSize l := by simp [snSize]
    rw [e, List.length_cons, Nat.add_mul]
    omega
set_option maxRecDepth 100000 in
set_option maxHeartbeats 4000000 in
theorem size_any (N : Nat) (w : World) (s : Sn) (h : SnAt N w s) (hN : N ≤ w.heap.size) (ho : SnOK s) :
    Calls Tryz.prog 37 #[snv s] w fun e w' => SizePost w (snSize s.chs : Int) e w' := by
  obtain ⟨la, pa, pc, pins, ca, cc, chs⟩ := s
  obtain ⟨pn, hpn⟩ : ∃ pn, pn = pins.length := ⟨_, rfl⟩
  obtain ⟨cn, hcn⟩ : ∃ cn, cn = chs.length := ⟨_, rfl⟩
  have hnc := ho.nc
  simp only [snv] at *
  rw [← hpn]
  rw [← hcn] at hnc ⊢
  have HCn := hidC hcn
  obtain ⟨W1, hW1⟩ : ∃ W1, W1 = w.alloc (.cells #[.int .i64 la, .slice pa pn pc, .slice ca cn cc] 25) := ⟨_, rfl⟩
  obtain ⟨Kb, hKb⟩ : ∃ Kb, Kb = w.heap.size := ⟨_, rfl⟩
  have HB : Hid (Below w.heap.size w W1 ∧ W1.heap[Kb]? = some (.cells #[.int .i64 la, .slice pa pn pc, .slice ca cn cc] 25 (0, 0))) := by
    rw [hW1, hKb]
    exact ⟨(Below.refl _ _).alloc (Nat.le_refl _) _, heap_alloc_new _ _ rfl⟩
  have k1 : W1.cell? ⟨Kb, 2, none⟩ = some (.slice ca cn cc) := by have h1 := HB.out.2; simp [World.cell?, h1]
  have HS : Hid (∀ W, Below W1.heap.size W1 W → SnAt N W ⟨la, pa, pc, pins, ca, cc, chs⟩) := fun W hW => by
    have hb := HB.out.1
    exact (h.below (hb.mono hN)).below (hW.mono (by have := hb.size; omega))
  have HV := hidC ho.nv
  clear h hpn hcn ho
  go_enter Tryz.func37, Tryz.ntmps37
  go_wp2_with fail
  rw [← hW1, ← hKb]
  clear hW1 hKb k1
  go_loopw [3, 5, 9] (fun x _ y wr => ∃ (i q : Nat), i ≤ cn ∧ x = .int .i64 (q : Int) ∧ y = .int .i64 (i : Int) ∧ q ≤ i * 100000 ∧ Hid (q = snSize (chs.take i)) ∧ Hid (Below W1.heap.size W1 wr)) (fun _ _ y _ => cn - (intOf y).toNat)
  case atStart => exact ⟨0, 0, Nat.zero_le _, rfl, rfl, Nat.zero_le _, by simp [Hid, snSize], Below.refl _ _⟩
  case round =>
    obtain ⟨i, q, hi, rfl, rfl, hq, HQ, HBw⟩ := hrel
    by_cases hlt : i < cn
    · have hil : i < chs.length := by have := HCn.out; omega
      obtain ⟨b, off, hca, c0, c1, c2⟩ := (HS.out wr HBw.out).chain (i := i) hil
      simp only at hca c0 c1 c2
      subst hca
      have HU := hidC (snSize_take hil)
      have hv := HV.out _ (List.getElem_mem hil)
      have HBn : Hid (∀ o, Below W1.heap.size W1 (wr.alloc o)) := fun o => HBw.out.alloc HBw.out.size o
      generalize chs[i].l.length = na at *
      generalize chs[i].a = sa at *
      generalize chs[i].c = sc at *
      generalize chs[i].k.1 = x1 at *
      generalize chs[i].k.2 = x2 at *
      have hwp : IntKind.i64.wrap ((q : Int) + (na : Int)) = (q : Int) + (na : Int) := by rw [IntKind.wrap_i64]; omega
      have HQ2 : Hid (q + na = snSize (chs.take (i + 1))) := by rw [HU.out, HQ.out]; rfl
      clear HU HQ HBw
      go_wp2
      refine ⟨⟨i + 1, q + na, by omega, by rw [Int.natCast_add], by go_num, by omega, HQ2.out, HBn.out _⟩, by simp [intOf]; omega⟩
    · have hie : i = cn := by omega
      subst hie
      have HF : Hid ((q : Int) = (snSize chs : Int) ∧ Below w.heap.size w wr) := by
        have h2 := HQ.out
        rw [HCn.out, List.take_length] at h2
        have h1 := HB.out.1
        exact ⟨by rw [h2], h1.trans (HBw.out.mono h1.size)⟩
      clear HQ HBw
      go_wp2
      go_ret
      have h9 : SizePost w (snSize chs : Int) (.returned (.int .i64 (q : Int))) wr := ⟨by rw [HF.out.1], HF.out.2⟩
      exact h9
end Go.Proofs.YtbmohlkcmhhpgaaGreat
/-
  chainFits.
-/
namespace Go.Proofs.YtbmohlkcmhhpgaaGreat
open Go.RowKit Go.Sort

theorem IAt.below {W W' : World} {ao : Option Addr} {d : List Int} (h : IAt W ao d) (hb : Below W.heap.size W W') : IAt W' ao d := h.fr (G := fun _ => False) (Fr.ofBelow hb) (fun _ _ h => h)
set_option maxRecDepth 100000 in
set_option maxHeartbeats 4000000 in
theorem chainFits_any (N : Nat) (w : World) (ao : Option Addr) (n c : Nat) (l : List Stp) (h : CsAt N w ao (scs l)) (hN : N ≤ w.heap.size) (hn : n = l.length) (hn2 : n ≤ 100000) (la : Int) (hla : 0 ≤ la ∧ la ≤ 1099511627776) (da : Option Addr) (dn dc : Nat) (d : List Int) (hdn : dn = d.length) (hd : IAt w da d) (hds : d.Pairwise (· < ·)) (hdb : dn ≤ 1000000) :
    Calls Tryz.prog 58 #[.slice ao n c, .int .i64 la, .slice da dn dc] w fun e w' => FitPost w (ChOK la d l) e w' := by
  have HNn := hidC hn
  have HS : Hid (∀ W, Below w.heap.size w W → CsAt N W ao (scs l)) := fun W hW => h.below (hW.mono hN)
  have HD : Hid (∀ W, Below w.heap.size w W → ∀ x y, Calls Tryz.prog 66 #[.int .i64 x, .int .i64 y, .slice da dn dc] W fun e w' => e = .returned (.bool (seenN d x y)) ∧ w' = W) := fun W hW x y => seen_any W x y da dn dc d hdn (hd.below hW) hds hdb
  clear h hn hdn hd hds
  go_enter Tryz.func58, Tryz.ntmps58
  go_wp2_with fail
  go_loopw [7, 8, 9, 12] (fun x _ _ y wr => ∃ (i : Nat) (lo : Int), i ≤ n ∧ 1 ≤ lo ∧ x = .int .i64 lo ∧ y = .int .i64 (i : Int) ∧ Hid (lo = loC l i) ∧ Hid (∀ j, j < i → ChAt la d l j) ∧ Hid (Below w.heap.size w wr)) (fun _ _ _ y _ => n - (intOf y).toNat)
  case atStart => exact ⟨0, 1, Nat.zero_le _, by omega, rfl, rfl, rfl, fun j h => by omega, Below.refl _ _⟩
  case round =>
    obtain ⟨i, lo, hi, hlo0, rfl, rfl, HLo, HJ, HBw⟩ := hrel
    by_cases hlt : i < n
    · have hil : i < l.length := by have := HNn.out; omega
      obtain ⟨b, off, hao, c0, c1, c2, c3⟩ := (HS.out wr HBw.out).stamp hil
      subst hao
      have HSu := hidC (loC_succ hil)
      have HP : Hid (ChAt la d l i ↔ ((lo ≤ l[i].b ∧ l[i].b ≤ la ∧ 0 ≤ l[i].i ∧ l[i].i < 64) ∧ ∀ j, i = j + 1 → seenN d (lo - 1) l[i].b = true)) := ⟨fun h => by rw [HLo.out]; exact h hil, fun h _ => by rw [HLo.out] at h; exact h⟩
      have HBn : Hid (∀ o, Below w.heap.size w (wr.alloc o)) := fun o => HBw.out.alloc HBw.out.size o
      have HPr : Hid (∀ j, i = j + 1 → lo - 1 = (l.getD j ⟨0, 0, false, 0⟩).b ∧ wr.cell? ⟨b, off + j * 4, none⟩ = some (.int .i64 (l.getD j ⟨0, 0, false, 0⟩).b)) := fun j hj => by
        have hjl : j < l.length := by omega
        obtain ⟨b', off', he, q0, _⟩ := (HS.out wr HBw.out).stamp hjl
        cases he
        have e1 : l.getD j ⟨0, 0, false, 0⟩ = l[j] := by simp [List.getD_eq_getElem?_getD, List.getElem?_eq_getElem hjl]
        rw [e1]
        refine ⟨?_, q0⟩
        rw [HLo.out, hj, loC_succ hjl]
        omega
      generalize l[i].b = p1 at *
      generalize l[i].i = p2 at *
      generalize l[i].s = p3 at *
      generalize l[i].v = p4 at *
      clear HBw
      by_cases h1 : p1 < lo
      · have h1b : decide (p1 < lo) = true := decide_eq_true h1
        go_wp2
        go_ret
        exact FitPost.no (fun h => by have := (HP.out.1 (h.2 i)).1; omega) (HBn.out _)
      have h1b : decide (p1 < lo) = false := decide_eq_false h1
      by_cases h2 : la < p1
      · have h2b : decide (la < p1) = true := decide_eq_true h2
        go_wp2
        go_ret
        exact FitPost.no (fun h => by have := (HP.out.1 (h.2 i)).1; omega) (HBn.out _)
      have h2b : decide (la < p1) = false := decide_eq_false h2
      by_cases h3 : p2 < 0
      · have h3b : decide (p2 < 0) = true := decide_eq_true h3
        go_wp2
        go_ret
        exact FitPost.no (fun h => by have := (HP.out.1 (h.2 i)).1; omega) (HBn.out _)
      have h3b : decide (p2 < 0) = false := decide_eq_false h3
      by_cases h4 : 64 ≤ p2
      · have h4b : decide (64 ≤ p2) = true := decide_eq_true h4
        go_wp2
        go_ret
        exact FitPost.no (fun h => by have := (HP.out.1 (h.2 i)).1; omega) (HBn.out _)
      have h4b : decide (64 ≤ p2) = false := decide_eq_false h4
      have hwp : IntKind.i64.wrap (p1 + 1) = p1 + 1 := by rw [IntKind.wrap_i64]; omega
      have HNext : Hid ((∀ j, i = j + 1 → seenN d (lo - 1) p1 = true) → ∀ j, j < i + 1 → ChAt la d l j) := fun hs j hj => by
        by_cases hji : j < i
        · exact HJ.out j hji
        · have : j = i := by omega
          subst this
          exact HP.out.2 ⟨by omega, hs⟩
      by_cases hi0 : i = 0
      · have hg : decide ((0 : Int) < (i : Int)) = false := decide_eq_false (by omega)
        have hgN : decide (0 < i) = false := decide_eq_false (by omega)
        have HJ2 : Hid (∀ j, j < i + 1 → ChAt la d l j) := HNext.out (fun j hj => by omega)
        have HBq : Hid (∀ o q, Below w.heap.size w ((wr.alloc o).drewN q)) := fun o q => (HBn.out o).trans ((drew_below _ q).mono (HBn.out o).size)
        clear hi0 HNext HP HPr
        go_wp2_with fail
        go_quiet (fail)
        go_wp2
        refine ⟨⟨i + 1, p1 + 1, by omega, by omega, rfl, by go_num, HSu.out.symm, HJ2.out, HBq.out _ _⟩, by simp [intOf]; omega⟩
      · have hg : decide ((0 : Int) < (i : Int)) = true := decide_eq_true (by omega)
        have hg' : (0 : Int) < (i : Int) := by omega
        have hgN : decide (0 < i) = true := decide_eq_true (by omega)
        have hgN' : 0 < i := by omega
        obtain ⟨j, hj⟩ : ∃ j, i = j + 1 := ⟨i - 1, by omega⟩
        have hji : (i : Int) - 1 = (j : Int) := by omega
        have hjn : (j : Int) < (n : Int) := by omega
        have hwj : IntKind.i64.wrap ((i : Int) - 1) = (j : Int) := by rw [IntKind.wrap_i64]; omega
        obtain ⟨hpl, hpc⟩ := HPr.out j hj
        obtain ⟨pb, hpb⟩ : ∃ pb, pb = (l.getD j ⟨0, 0, false, 0⟩).b := ⟨_, rfl⟩
        rw [← hpb] at hpc hpl
        have HPl := hidC hpl
        have HIj := hidC hj
        have hpca : ∀ o, (wr.alloc o).cell? ⟨b, off + j * 4, none⟩ = some (.int .i64 pb) := fun o => Lib.cell?_alloc_some _ hpc
        have HBq : Hid (∀ o q, Below w.heap.size w ((wr.alloc o).drewN q)) := fun o q => (HBn.out o).trans ((drew_below _ q).mono (HBn.out o).size)
        have HDq : Hid (∀ o q, Calls Tryz.prog 66 #[.int .i64 pb, .int .i64 p1, .slice da dn dc] ((wr.alloc o).drewN q) fun e w' => e = .returned (.bool (seenN d pb p1)) ∧ w' = (wr.alloc o).drewN q) := fun o q => HD.out _ (HBq.out o q) pb p1
        have HP2 : Hid (ChAt la d l i → seenN d pb p1 = true) := fun h => by have h1 := (HP.out.1 h).2 j HIj.out; rwa [HPl.out] at h1
        have HN2 : Hid (seenN d pb p1 = true → ∀ j, j < i + 1 → ChAt la d l j) := fun h => HNext.out (fun j' _ => by rw [HPl.out]; exact h)
        generalize seenN d pb p1 = sb at *
        clear hi0 hj HNext HP HPr hpb hpl hpc HD HS
        go_wp2_with fail
        go_quiet (first | (go_at_call 66; exact Calls.quiet_of_same (HDq.out _ _)))
        cases sb with
        | false =>
          go_wp2
          go_ret
          exact FitPost.no (fun h => by have := HP2.out (h.2 i); cases this) (HBq.out _ _)
        | true =>
          have HJ2 := hidC (HN2.out rfl)
          go_wp2
          refine ⟨⟨i + 1, p1 + 1, by omega, by omega, rfl, by go_num, HSu.out.symm, HJ2.out, HBq.out _ _⟩, by simp [intOf]; omega⟩
    · have hlb : decide ((i : Int) < (n : Int)) = false := decide_eq_false (by omega)
      have HX : Hid (ChOK la d l ↔ 0 < n) := by
        have hn := HNn.out
        refine ⟨fun h => by have := h.1; omega, fun h => ⟨by omega, fun j hj => HJ.out j (by omega) hj⟩⟩
      by_cases h0 : 0 < n
      · have h0b : decide ((0 : Int) < (n : Int)) = true := decide_eq_true (by omega)
        go_wp2
        go_ret
        first | exact FitPost.yes (HX.out.2 h0) HBw.out | (rw [h0b]; exact FitPost.yes (HX.out.2 h0) HBw.out)
      · have h0b : decide ((0 : Int) < (n : Int)) = false := decide_eq_false (by omega)
        go_wp2
        go_ret
        first | exact FitPost.no (fun h => h0 (HX.out.1 h)) HBw.out | (rw [h0b]; exact FitPost.no (fun h => h0 (HX.out.1 h)) HBw.out)
end Go.Proofs.YtbmohlkcmhhpgaaGreat
/-
  canRestore.
-/
namespace Go.Proofs.YtbmohlkcmhhpgaaGreat
open Go.RowKit Go.Sort

theorem infoI : (Tryz.prog.info? 3).map (fun i => (i.zero, i.size, i.bytes)) = some (some (.int .i64 0), 1, 8) := by kernel_rfl
theorem append_i {w : World} (ty : TypeId) (base : Nat) (v : Value) (n : Nat) (xs : List Value) (hown : w.ownsRow base 3 1 v n xs) (x : Int) (hn : n ≤ 100000) (hbase : base ≤ w.heap.size) :
    ∃ v' w', (Builtin.append_ #[106, 106] ty #[v, .slice (some ⟨w.heap.size, 0, none⟩) 1 1]).run Tryz.prog (w.alloc (.cells #[.int .i64 x] 3)) = .ok v' w' ∧ w'.ownsRow base 3 1 v' (n + 1) (xs ++ [.int .i64 x]) ∧ (w.alloc (.cells #[.int .i64 x] 3)).grownBy w' v.ownBlock := by
  obtain ⟨i0, hi, hz0, hz1, hz2⟩ := info_parts infoI
  have hb : (w.alloc (.cells #[.int .i64 x] 3)).heap[w.heap.size]? = some (.cells #[.int .i64 x] 3 (0, 0)) := heap_alloc_new _ _ rfl
  obtain ⟨v', w', hr, h2, h3, _⟩ := run_append_own_at (P := Tryz.prog) (w := w.alloc (.cells #[.int .i64 x] 3)) base 106 ty 3 i0 (.int .i64 0) 1 8 Tryz.underlying106 hi hz0 hz1 hz2 rfl (by omega) v n xs (World.ownsRow.alloc hown _) ⟨w.heap.size, 0, none⟩ 1 1 [.int .i64 x] rfl (fun j u hu => by
      rw [addr_add, Nat.zero_add]
      simp only [World.cell?, hb]
      simpa using hu) (by intro u hu; simp at hu; subst hu; rfl) (by unfold maxLen; omega) (by omega) (by simp; omega)
  exact ⟨v', w', hr, h2, h3⟩
theorem wpL_appI {w : World} {ops : Array Oper} {rest : List Oper} {o : Oper} {a : Act} {Q : Exit → Act → World → Prop} (hgd : o.guard = none) (s x : Operand) (TS : TypeId)
    (ho : o.op = .call { callee := .builtin .append, args := #[s, x], argTypes := #[TS, TS] }) (v u : Value) (hs : a.eval s = v) (hx : a.eval x = u) {post : Value → World → Prop}
    (hr : ∀ ty, ∃ v' w', (Builtin.append_ #[TS, TS] ty #[v, u]).run Tryz.prog w = .ok v' w' ∧ post v' w') (h : ∀ v' w', post v' w' → wpList Tryz.prog ops Q rest (a.put o.dst v') w') : wpList Tryz.prog ops Q (o :: rest) a w := by
  obtain ⟨v', w', hr, h2⟩ := hr o.type
  refine wpList_plain hgd fun K hK' => ?_
  unfold Oper.wp
  simp [execOp, ho, resolve, invoke, builtin, hs, hx, hr, Result.andThen]
  exact hK' _ _ (h v' w' h2)
theorem rowGrown {w w' : World} {base : Nat} {T : TypeId} {sz n : Nat} {v : Value} {xs : List Value} (h : w.ownsRow base T sz v n xs) (hg : w.grownBy w' v.ownBlock) {W : World} {B : Nat} (hb : Below B W w) (hB : B ≤ base) (hs : B ≤ w.heap.size) : Below B W w' :=
  hb.trans ((Below.refl _ _).grown hg hs (fun k e => by have := (World.ownsRow.lt h k e).1; omega))
set_option maxRecDepth 100000 in
set_option maxHeartbeats 8000000 in
theorem canRestore_any (N : Nat) (w : World) (s : Sn) (h : SnAt N w s) (hN : N ≤ w.heap.size) (ho : SnOK s) :
    Calls Tryz.prog 36 #[snv s] w fun e w' => FitPost w (CanR s) e w' := by
  obtain ⟨la, pa, pc, pins, ca, cc, chs⟩ := s
  obtain ⟨pn, hpn⟩ : ∃ pn, pn = pins.length := ⟨_, rfl⟩
  obtain ⟨cn, hcn⟩ : ∃ cn, cn = chs.length := ⟨_, rfl⟩
  have hnp := ho.np
  have hnc := ho.nc
  simp only [snv] at *
  obtain ⟨W1, hW1⟩ : ∃ W1, W1 = w.alloc (.cells #[.int .i64 la, .slice pa pn pc, .slice ca cn cc] 25) := ⟨_, rfl⟩
  obtain ⟨Kb, hKb⟩ : ∃ Kb, Kb = w.heap.size := ⟨_, rfl⟩
  have HB : Hid (Below w.heap.size w W1 ∧ W1.heap[Kb]? = some (.cells #[.int .i64 la, .slice pa pn pc, .slice ca cn cc] 25 (0, 0))) := by
    rw [hW1, hKb]
    exact ⟨(Below.refl _ _).alloc (Nat.le_refl _) _, heap_alloc_new _ _ rfl⟩
  have HS : Hid (∀ W, Below W1.heap.size W1 W → SnAt N W ⟨la, pa, pc, pins, ca, cc, chs⟩) := fun W hW => by
    have hb := HB.out.1
    exact (h.below (hb.mono hN)).below (hW.mono (by have := hb.size; omega))
  have HPf : Hid (0 ≤ la ∧ la ≤ 1099511627776 → Calls Tryz.prog 57 #[.agg #[.int .i64 la, .slice pa pn pc, .slice ca cn cc]] W1 fun e w' => FitPost W1 (PnOK la pins) e w') := fun hla => by
    have h1 := pinsFit_any N W1 ⟨la, pa, pc, pins, ca, cc, chs⟩ (HS.out W1 (Below.refl _ _)) (by have := HB.out.1.size; omega) ho hla
    simp only [snv, ← hpn, ← hcn] at h1
    exact h1
  have k0 : W1.cell? ⟨Kb, 0, none⟩ = some (.int .i64 la) := by have h1 := HB.out.2; simp [World.cell?, h1]
  have k1 : W1.cell? ⟨Kb, 1, none⟩ = some (.slice pa pn pc) := by have h1 := HB.out.2; simp [World.cell?, h1]
  have k2 : W1.cell? ⟨Kb, 2, none⟩ = some (.slice ca cn cc) := by have h1 := HB.out.2; simp [World.cell?, h1]
  have HO := hidC ho
  rw [← hpn] at hnp ⊢
  rw [← hcn] at hnc ⊢
  have HPn := hidC hpn
  have HCn := hidC hcn
  clear h hpn hcn ho
  go_enter Tryz.func36, Tryz.ntmps36
  by_cases h1 : la < 0
  · have h1b : decide (la < 0) = true := decide_eq_true h1
    go_wp2_with fail
    rw [← hW1, ← hKb]
    go_wp2
    go_ret
    exact FitPost.no (fun h => by have h3 : 0 ≤ la ∧ la ≤ 1099511627776 := h.1; omega) HB.out.1
  have h1b : decide (la < 0) = false := decide_eq_false h1
  by_cases h2 : 1099511627776 < la
  · have h2b : decide (1099511627776 < la) = true := decide_eq_true h2
    go_wp2_with fail
    rw [← hW1, ← hKb]
    go_wp2
    go_ret
    exact FitPost.no (fun h => by have h3 : 0 ≤ la ∧ la ≤ 1099511627776 := h.1; omega) HB.out.1
  have h2b : decide (1099511627776 < la) = false := decide_eq_false h2
  have HPf2 := hidC (HPf.out ⟨by omega, by omega⟩)
  clear HPf
  go_wp2_with fail
  rw [← hW1, ← hKb]
  clear hW1 hKb
  clear k0
  refine HPf2.out.mono ?_
  rintro e W2 ⟨r, rfl, hr, hb2⟩
  have HR := hidC (And.intro hr hb2)
  have HK2 : Hid (∀ W, Below W2.heap.size W2 W → W.cell? ⟨Kb, 0, none⟩ = some (.int .i64 la) ∧ W.cell? ⟨Kb, 1, none⟩ = some (.slice pa pn pc) ∧ W.cell? ⟨Kb, 2, none⟩ = some (.slice ca cn cc)) := fun W hW => by
    have h3 : W2.heap[Kb]? = _ := (hb2.block _ (blk_lt HB.out.2)).trans HB.out.2
    have h4 : W.heap[Kb]? = _ := (hW.block _ (blk_lt h3)).trans h3
    refine ⟨?_, ?_, ?_⟩ <;> simp [World.cell?, h4]
  have HBW : Hid (∀ W, Below W2.heap.size W2 W → Below W1.heap.size W1 W ∧ Below w.heap.size w W) := fun W hW => by
    have h3 := hb2.trans (hW.mono hb2.size)
    have h4 := HB.out.1
    exact ⟨h3, h4.trans (h3.mono h4.size)⟩
  clear hr hb2 HPf2 k1 k2
  cases r with
  | false =>
    go_wp2
    go_ret
    exact FitPost.no (fun h => by have := HR.out.1.2 h.2.1; cases this) (HBW.out _ (Below.refl _ _)).2
  | true =>
    have HPk := hidC (HR.out.1.1 rfl)
    clear HR
    obtain ⟨k0, k1, k2⟩ := HK2.out W2 (Below.refl _ _)
    go_wp2_with fail
    clear k0 k1 k2
    go_loopw [3, 5, 25] (fun x _ y wr => ∃ (i : Nat) (v : Value), i ≤ pn ∧ y = .int .i64 (i : Int) ∧ x = v ∧ Hid (wr.ownsRow W2.heap.size 3 1 v i (((pins.take i).map Prod.fst).map ei) ∧ Below W2.heap.size W2 wr)) (fun _ _ y _ => pn - (intOf y).toNat)
    case atStart => exact ⟨0, _, Nat.zero_le _, rfl, rfl, World.ownsRow_nil _ _ _ _, Below.refl _ _⟩
    case round =>
      obtain ⟨i, v, hi, rfl, hxv, HI⟩ := hrel
      replace hxv := hxv.symm
      subst hxv
      by_cases hlt : i < pn
      · have hil : i < pins.length := by have := HPn.out; omega
        obtain ⟨b, off, hpa, c0, c1⟩ := (HS.out wr (HBW.out wr HI.out.2).1).pin (i := i) hil
        simp only at hpa c0 c1
        subst hpa
        have HP : Hid (((pins.take (i + 1)).map Prod.fst).map ei = ((pins.take i).map Prod.fst).map ei ++ [.int .i64 pins[i].1]) := by
          show _ = _
          rw [List.take_succ_eq_append_getElem hil, List.map_append, List.map_append]
          rfl
        generalize pins[i].1 = p1 at *
        generalize pins[i].2 = p2 at *
        obtain ⟨U, hU⟩ : ∃ U, U = wr.alloc (.cells #[.int .i64 p1, .int .i64 p2] 92) := ⟨_, rfl⟩
        have HUr : Hid (U.ownsRow W2.heap.size 3 1 v i (((pins.take i).map Prod.fst).map ei) ∧ Below W2.heap.size W2 U) := by
          rw [hU]
          exact ⟨World.ownsRow.alloc HI.out.1 _, HI.out.2.alloc HI.out.2.size _⟩
        have HApp : Hid (∀ ty, ∃ v' w', (Builtin.append_ #[106, 106] ty #[v, .slice (some ⟨wr.heap.size + 1, 0, none⟩) 1 1]).run Tryz.prog (U.alloc (.cells #[.int .i64 p1] 3)) = .ok v' w' ∧ (w'.ownsRow W2.heap.size 3 1 v' (i + 1) (((pins.take (i + 1)).map Prod.fst).map ei) ∧ Below W2.heap.size W2 w')) := fun ty => by
          obtain ⟨v', w', q1, q2, q3⟩ := append_i ty W2.heap.size v i _ HUr.out.1 p1 (by omega) HUr.out.2.size
          have hUz : U.heap.size = wr.heap.size + 1 := by rw [hU]; simp
          rw [hUz] at q1
          refine ⟨v', w', q1, by rw [HP.out]; exact q2, ?_⟩
          exact rowGrown (World.ownsRow.alloc HUr.out.1 _) q3 (HUr.out.2.alloc HUr.out.2.size _) (Nat.le_refl _) (by have := HUr.out.2.size; simp; omega)
        clear HP HI HUr
        subst hU
        go_wp2_with (at_builtin; refine wpL_appI rfl _ _ 106 rfl v (.slice (some ⟨wr.heap.size + 1, 0, none⟩) 1 1) rfl rfl (post := fun v' w' => w'.ownsRow W2.heap.size 3 1 v' (i + 1) (((pins.take (i + 1)).map Prod.fst).map ei) ∧ Below W2.heap.size W2 w') HApp.out ?_; rintro v' w3 hown; replace hown := hidC hown)
        exact ⟨⟨i + 1, v', by omega, by go_num, rfl, hown.out⟩, by simp [intOf]; omega⟩
      · have hie : i = pn := by omega
        subst hie
        obtain ⟨da, dc, rfl, hia, _⟩ := IAt.ofRow (d := pins.map Prod.fst) (w := wr) (b := W2.heap.size) (v := v) (by
          have h3 := HI.out.1
          rw [HPn.out, List.take_length] at h3
          rw [List.length_map]
          exact h3)
        have HD : Hid (IAt wr da (pins.map Prod.fst) ∧ Below W2.heap.size W2 wr ∧ (pins.map Prod.fst).Pairwise (· < ·)) := ⟨hia, HI.out.2, PnOK.rise HPk.out⟩
        obtain ⟨_, _, k2⟩ := HK2.out wr HI.out.2
        clear hia HI
        rw [List.length_map, ← HPn.out]
        go_wp2_with fail
        clear k2
        generalize wr = W3 at *
        go_loopw [6, 8, 38] (fun x _ y wr => ∃ (j : Nat) (v : Value), j ≤ cn ∧ y = .int .i64 (j : Int) ∧ x = v ∧ Hid (OwnK wr W3.heap.size v ((chs.take j).map Ch.k) ∧ Below W3.heap.size W3 wr ∧ ∀ c ∈ chs.take j, ChOK la (pins.map Prod.fst) c.l)) (fun _ _ y _ => cn - (intOf y).toNat)
        case atStart => exact ⟨0, _, Nat.zero_le _, rfl, rfl, OwnK.nil _ _, Below.refl _ _, by simp⟩
        case round =>
          obtain ⟨j, v, hj, rfl, hxv, HI⟩ := hrel
          replace hxv := hxv.symm
          subst hxv
          have HB3 : Hid (∀ W, Below wr.heap.size wr W → Below W2.heap.size W2 W ∧ Below W3.heap.size W3 W ∧ Below W1.heap.size W1 W ∧ Below w.heap.size w W) := fun W hW => by
            have h3 := HI.out.2.1.trans (hW.mono HI.out.2.1.size)
            have h4 := HD.out.2.1.trans (h3.mono HD.out.2.1.size)
            have h5 := HBW.out W h4
            exact ⟨h4, h3, h5.1, h5.2⟩
          by_cases hlt : j < cn
          · have hjl : j < chs.length := by have := HCn.out; omega
            obtain ⟨b, off, hca, c0, c1, c2⟩ := (HS.out wr (HB3.out wr (Below.refl _ _)).2.2.1).chain (i := j) hjl
            simp only at hca c0 c1 c2
            subst hca
            have hv := HO.out.nv _ (List.getElem_mem hjl)
            have HCF : Hid (∀ o, Calls Tryz.prog 58 #[.slice chs[j].a chs[j].l.length chs[j].c, .int .i64 la, .slice da i dc] (wr.alloc o) fun e w' => FitPost (wr.alloc o) (ChOK la (pins.map Prod.fst) chs[j].l) e w') := fun o => by
              have hbo : Below wr.heap.size wr (wr.alloc o) := (Below.refl _ _).alloc (Nat.le_refl _) _
              have hbb := HB3.out _ hbo
              have hsn := HS.out _ hbb.2.2.1
              refine chainFits_any N (wr.alloc o) chs[j].a chs[j].l.length chs[j].c chs[j].l (hsn.vs _ (List.getElem_mem hjl)) (by have := hbb.2.2.2.size; omega) rfl hv la ⟨h1, h2⟩ da i dc (pins.map Prod.fst) (by rw [List.length_map]; exact HPn.out) (HD.out.1.below hbb.2.1) HD.out.2.2 (by omega)
            have HT : Hid ((chs.take (j + 1)).map Ch.k = (chs.take j).map Ch.k ++ [(chs[j].k.1, chs[j].k.2)] ∧ (∀ c ∈ chs.take (j + 1), c ∈ chs.take j ∨ c = chs[j]) ∧ chs[j] ∈ chs) := by
              rw [List.take_succ_eq_append_getElem hjl]
              refine ⟨by rw [List.map_append]; rfl, fun c hc => ?_, List.getElem_mem hjl⟩
              rcases List.mem_append.1 hc with h | h
              · exact .inl h
              · exact .inr (by simpa using h)
            have k0 : ∀ o, (wr.alloc o).cell? ⟨Kb, 0, none⟩ = some (.int .i64 la) := fun o => (HK2.out _ (HB3.out _ ((Below.refl wr.heap.size wr).alloc (Nat.le_refl _) o)).1).1
            generalize chs[j] = cj at *
            obtain ⟨⟨x1, x2⟩, sa, sc, sl⟩ := cj
            simp only at c0 c1 c2 HCF HT hv
            obtain ⟨sn, hsn⟩ : ∃ sn, sn = sl.length := ⟨_, rfl⟩
            rw [← hsn] at c2 HCF hv
            clear hsn
            go_wp2_with fail
            refine (HCF.out _).mono ?_
            rintro e W5 ⟨r, rfl, hr, hb5⟩
            have HR5 := hidC (And.intro hr hb5)
            have hbox : (wr.alloc (.cells #[.int .i64 x1, .int .i64 x2, .slice sa sn sc] 50)).heap[wr.heap.size]? = some (.cells #[.int .i64 x1, .int .i64 x2, .slice sa sn sc] 50 (0, 0)) := heap_alloc_new _ _ rfl
            have hbx5 : W5.heap[wr.heap.size]? = some (.cells #[.int .i64 x1, .int .i64 x2, .slice sa sn sc] 50 (0, 0)) := (hb5.block _ (blk_lt hbox)).trans hbox
            have q0 : W5.cell? ⟨wr.heap.size, 0, none⟩ = some (.int .i64 x1) := by simp [World.cell?, hbx5]
            have q1 : W5.cell? ⟨wr.heap.size, 1, none⟩ = some (.int .i64 x2) := by simp [World.cell?, hbx5]
            have HB5 : Hid (Below wr.heap.size wr W5) := ((Below.refl wr.heap.size wr).alloc (Nat.le_refl _) _).trans (hb5.mono (by simp))
            clear hr hb5 HCF c0 c1 c2 k0 hbox hbx5
            cases r with
            | false =>
              have HX : Hid (FitPost w (CanR ⟨la, pa, pc, pins, some ⟨b, off, none⟩, cc, chs⟩) (.returned (.bool false)) W5) := FitPost.no (fun h => by
                have h6 := h.2.2.1 _ HT.out.2.2
                have h7 := HR5.out.1.2 h6
                cases h7) (HB3.out _ HB5.out).2.2.2
              go_wp2
              go_ret
              exact HX.out
            | true =>
              have HOk := hidC (HR5.out.1.1 rfl)
              clear HR5
              have HApp : Hid (∀ ty, ∃ v' w', (Builtin.append_ #[51, 51] ty #[v, .slice (some ⟨W5.heap.size, 0, none⟩) 1 1]).run Tryz.prog (W5.alloc (.cells #[.int .i64 x1, .int .i64 x2] 43)) = .ok v' w' ∧ (OwnK w' W3.heap.size v' ((chs.take (j + 1)).map Ch.k) ∧ Below W3.heap.size W3 w' ∧ ∀ c ∈ chs.take (j + 1), ChOK la (pins.map Prod.fst) c.l)) := fun ty => by
                have hA : OwnK (W5.alloc (.cells #[.int .i64 x1, .int .i64 x2] 43)) W3.heap.size v ((chs.take j).map Ch.k) := (HI.out.1.kept HB5.out).alloc _
                have hlen : ((chs.take j).map Ch.k).length ≤ 100000 := by simp; omega
                have hsz := (HB3.out _ HB5.out).2.1.size
                obtain ⟨v', w', hr5, ho5, hg5, _⟩ := run_append_keys ty W3.heap.size v _ hA (some ⟨W5.heap.size, 0, none⟩) 1 1 [(x1, x2)] rfl (key_src W5 _ x1 x2 rfl) (by simp) (by simp at hlen ⊢; omega) (by simp; omega)
                refine ⟨v', w', hr5, by rw [HT.out.1]; exact ho5, ?_, fun c hc => ?_⟩
                · exact rowGrown hA hg5 ((HB3.out _ HB5.out).2.1.alloc hsz _) (Nat.le_refl _) (by simp; omega)
                · rcases HT.out.2.1 c hc with h6 | h6
                  · exact HI.out.2.2 c h6
                  · rw [h6]; exact HOk.out
              clear HI HOk HT HB5
              go_wp2_with (at_builtin; refine wpL_appI rfl _ _ 51 rfl v (.slice (some ⟨W5.heap.size, 0, none⟩) 1 1) rfl rfl (post := fun v' w' => OwnK w' W3.heap.size v' ((chs.take (j + 1)).map Ch.k) ∧ Below W3.heap.size W3 w' ∧ ∀ c ∈ chs.take (j + 1), ChOK la (pins.map Prod.fst) c.l) HApp.out ?_; rintro v' w3 hown; replace hown := hidC hown)
              exact ⟨⟨j + 1, v', by omega, by go_num, rfl, hown.out⟩, by simp [intOf]; omega⟩
          · have hje : j = cn := by omega
            subst hje
            have HE : Hid (OwnK wr W3.heap.size v (chs.map Ch.k) ∧ ∀ c ∈ chs, ChOK la (pins.map Prod.fst) c.l) := by
              have h3 := HI.out
              rw [HCn.out, List.take_length] at h3
              exact ⟨h3.1, h3.2.2⟩
            obtain ⟨ko, kc, rfl, hka, _, _⟩ := HE.out.1.slice
            have HRi := hidC (rises_any wr ko kc (chs.map Ch.k).length (chs.map Ch.k) rfl hka (by rw [List.length_map, ← HCn.out]; omega))
            have HB6 := hidC (HB3.out wr (Below.refl _ _)).2.2.2
            obtain ⟨kn, hkn⟩ : ∃ kn, kn = (chs.map Ch.k).length := ⟨_, rfl⟩
            obtain ⟨rb, hrb⟩ : ∃ rb, rb = decide (Rise (chs.map Ch.k)) := ⟨_, rfl⟩
            have HRb := hidC hrb
            have HE2 := hidC HE.out.2
            rw [← hkn, ← hrb] at HRi
            rw [← hkn]
            clear HI hka hkn hrb HE
            go_wp2_with fail
            refine HRi.out.mono ?_
            rintro e W6 ⟨rfl, q, os, rfl⟩
            have HX : Hid (FitPost w (CanR ⟨la, pa, pc, pins, ca, cc, chs⟩) (.returned (.bool rb)) (grow (wr.drewN q) os)) := by
              refine ⟨_, rfl, ?_, ?_⟩
              · rw [HRb.out, decide_eq_true_iff]
                exact ⟨fun h => ⟨⟨h1, h2⟩, HPk.out, HE2.out, h⟩, fun h => h.2.2.2⟩
              · have hgr : Grew wr (grow (wr.drewN q) os) := ⟨q, os, rfl⟩
                have hg : Below wr.heap.size wr (grow (wr.drewN q) os) := hgr.below
                exact HB6.out.trans (hg.mono HB6.out.size)
            clear HRi HRb HE2
            go_wp2
            go_ret
            exact HX.out
end Go.Proofs.YtbmohlkcmhhpgaaGreat
