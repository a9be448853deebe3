import Derived.Test.YtiiplikmoodfnaaGreatDoorKLRef2
import Derived.Deep.QuietTactic
import Derived.BigQuiet
import Derived.Test.YtiiplikmoodfnaaGreatDoorKLProc
import Derived.Test.YtiiplikmoodfnaaGreatDoorKAFault
import Derived.Test.YtiiplikmoodfnaaGreatDoorKAJmpH
/-
  THE WALKS OF THE DOCUMENT's Depths, Verify.
-/
namespace Go.Proofs.YtiiplikmoodfnaaGreatDoor
open Go.RowKit Go.Sort

def RDPost (p : Nums) (L : List K) (B : Nat) (e : Ending) (w' : World) : Prop :=
  (verifyN p L ≠ 0 ∧ e = .returned (.tuple #[.slice none 0 0, .int .i64 (verifyN p L)])) ∨
  (verifyN p L = 0 ∧ ∃ g c, e = .returned (.tuple #[.slice (some ⟨g, 0, none⟩) (L.length + 1) c, .int .i64 0]) ∧ IRead w' g (depthsN p L).1 ∧ B ≤ g ∧ L.length + 1 ≤ c)
theorem IRead.grown {W W' : World} {g : Nat} {L : List Int} {row : Option Nat} (h : IRead W g L) (hg : W.grownBy W' row) (hne : some g ≠ row) : IRead W' g L := fun j hj => hg.cell (h j hj) (fun e => hne e)
theorem start_snoc (k : Nat) : startD k ++ [-1] = startD (k + 1) := by simp [startD, List.replicate_succ']

/-- a list of numbers that is read, wherever it lies -/
def LstI (W : World) (B : Nat) (ao : Option Addr) (L : List Int) : Prop := L = [] ∨ ∃ g, ao = some ⟨g, 0, none⟩ ∧ RowI W g L ∧ B ≤ g
theorem IntsAt.lst {W : World} {B : Nat} {v : Value} {L : List Int} (h : IntsAt W B v L) : ∃ ao, v = .slice ao L.length L.length ∧ LstI W B ao L := by
  rcases h with ⟨rfl, rfl⟩ | ⟨g, rfl, h1, h2⟩
  · exact ⟨none, rfl, .inl rfl⟩
  · exact ⟨_, rfl, .inr ⟨g, rfl, h1, h2⟩⟩
theorem LstI.set {W : World} {B g i : Nat} {ao : Option Addr} {L : List Int} (h : LstI W B ao L) (v : Value) (hg : g < B) : LstI (W.setCell ⟨g, i, none⟩ v) B ao L := by
  rcases h with h | ⟨g2, h1, h2, h3⟩
  · exact .inl h
  · exact .inr ⟨g2, h1, h2.other v (by simp; omega), h3⟩
theorem map_getD (nx : List Nat) (j : Nat) (h : j < nx.length) : (nx.map Int.ofNat).getD j 0 = ((nx.getD j 0 : Nat) : Int) := by
  simp [List.getD_eq_getElem?_getD, List.getElem?_eq_getElem h]

set_option maxRecDepth 100000 in
set_option maxHeartbeats 2000000 in
theorem refDepths_any (w : World) (p : Nums) (ao : Option Addr) (n cap : Nat) (L : List K) (h : KeysAt w ao L) (hn : n = L.length) :
    Calls Tryz.prog 41 #[pv p ao n cap] w fun e w' => RDPost p L w.heap.size e w' ∧ Below w.heap.size w w' := by
  have HL : Hid (KeysAt w ao L) := h
  have HN : Hid (n = L.length) := hn
  clear h hn
  go_enter Tryz.func41, Tryz.ntmps41
  go_wp2_with fail
  refine (refLimits_any _ p ao n cap).mono ?_
  rintro e w1 ⟨rfl, g1⟩
  have HB1 : Hid (PBox w1 w.heap.size p ao n cap) := (PBox.new w p ao n cap).kept (Grew.below g1)
  have HW1 : Hid (Below w.heap.size w w1) := ((Below.refl _ _).alloc (Nat.le_refl _) _).trans ((Grew.below g1).mono (by simp))
  clear g1
  obtain ⟨x0, x1, x2, x3, x4⟩ := HB1.out.cells
  cases hl : limB p n with
  | false =>
    have HV : Hid (verifyN p L = 30) := by unfold verifyN depthsN; rw [← HN.out, hl]; rfl
    go_wp2
    go_ret2
    exact ⟨.inl ⟨by rw [HV.out]; decide, by rw [HV.out]; rfl⟩, HW1.out⟩
  | true =>
    have hm : n ≤ 256 := ((limB_iff p n).1 hl).2.2.2.2
    have HLim : Hid (limB p L.length = true) := by rw [← HN.out]; exact hl
    clear hl
    go_wp2_with fail
    clear x0 x1 x2 x3 x4
    go_loopw [4] (fun x wr => ∃ k : Nat, k ≤ n ∧ x = .int .i64 (k : Int) ∧ Hid (lookAll p L k = 0) ∧ Hid (PBox wr w.heap.size p ao n cap) ∧ Hid (Below w.heap.size w wr)) (fun x _ => n - (intOf x).toNat)
    case atStart => exact ⟨0, by omega, rfl, rfl, HB1, HW1⟩
    case round =>
      clear HB1 HW1
      obtain ⟨k, hk, rfl, HA, HB, HW⟩ := hrel
      obtain ⟨x0, x1, x2, x3, x4⟩ := HB.out.cells
      by_cases hlt : k < n
      · have HLk : Hid (lookN p n k (cd L k) = 0 → lookAll p L (k + 1) = 0) := fun h => by
          unfold lookAll firstE
          rw [show firstE _ k = 0 from HA.out, if_neg (by simp), ← HN.out]; exact h
        have HLe : Hid (∀ e, lookN p n k (cd L k) = e → e ≠ 0 → verifyN p L = e) := fun e he h => by
          have e2 : lookAll p L L.length = lookN p n k (cd L k) := by
            have := firstE_stop (n := L.length) (f := fun i => lookN p L.length i (cd L i)) HA.out (by rw [← HN.out, he]; exact h) (by rw [← HN.out]; exact hlt)
            unfold lookAll; rw [this, ← HN.out]
          unfold verifyN depthsN
          rw [HLim.out, if_neg (by simp), if_pos (by rw [e2, he]; exact h)]; rw [← he]; exact e2
        obtain ⟨b, off, rfl, c1, c2⟩ := (HL.out.kept HW.out).get k (by have := HN.out; omega)
        have hbl : b < wr.heap.size := cell_lt c1
        have hpl : w.heap.size < wr.heap.size := HB.out.lt
        generalize cd L k = kk at *
        obtain ⟨op, a⟩ := kk
        simp only at c1 c2
        have hbA : Below wr.heap.size wr (wr.alloc (.cells #[.int .i64 op, .int .i64 a] 76)) := (Below.refl _ _).alloc (Nat.le_refl _) _
        have HBA : Hid (PBox (wr.alloc (.cells #[.int .i64 op, .int .i64 a] 76)) w.heap.size p (some ⟨b, off, none⟩) n cap) := HB.out.kept hbA
        have HWA : Hid (Below w.heap.size w (wr.alloc (.cells #[.int .i64 op, .int .i64 a] 76))) := HW.out.trans (hbA.mono HW.out.size)
        have HBx : Hid (Box (wr.alloc (.cells #[.int .i64 op, .int .i64 a] 76)) wr.heap.size op a) := Box.new rfl
        by_cases hn0 : op < 0
        · have HV : Hid (verifyN p L = 31) := HLe.out 31 (by simp [lookN, isOpB]; omega) (by decide)
          go_wp2
          go_ret2
          exact ⟨.inl ⟨by rw [HV.out]; decide, by rw [HV.out]; rfl⟩, HWA.out⟩
        · have hn0' : decide (op < 0) = false := by simpa using hn0
          by_cases hn1 : 37 ≤ op
          · have HV : Hid (verifyN p L = 31) := HLe.out 31 (by simp [lookN, isOpB]; omega) (by decide)
            go_wp2
            go_ret2
            exact ⟨.inl ⟨by rw [HV.out]; decide, by rw [HV.out]; rfl⟩, HWA.out⟩
          · have hn1' : decide (37 ≤ op) = false := by simpa using hn1
            have ho : isOpB op = true := by simp [isOpB]; omega
            have HO : Hid (isOpB op = true) := ho
            go_wp2_with fail
            refine (refIs_jump _ op HO.out).mono ?_
            rintro e w2 ⟨rfl, hb2⟩
            have HB2 : Hid (PBox w2 w.heap.size p (some ⟨b, off, none⟩) n cap) := HBA.out.kept hb2
            have HW2 : Hid (Below w.heap.size w w2) := HWA.out.trans (hb2.mono HWA.out.size)
            have HBx2 : Hid (Box w2 wr.heap.size op a) := ⟨(hb2.cell (p := ⟨wr.heap.size, 0, none⟩) (by simp)).trans HBx.out.1, (hb2.cell (p := ⟨wr.heap.size, 1, none⟩) (by simp)).trans HBx.out.2⟩
            clear hb2 hbA HBA HWA HBx x0 x1 x2 x3 x4 c1 c2
            obtain ⟨x0, x1, x2, x3, x4⟩ := HB2.out.cells
            obtain ⟨y0, y1⟩ := HBx2.out
            have hwb : w.heap.size ≠ wr.heap.size := by omega
            generalize wr.heap.size = Bx at *
            cases hj : jumpB op with
            | true =>
              by_cases ha : a ≤ (k : Int)
              · have HV : Hid (verifyN p L = 33) := HLe.out 33 (by simp [lookN, HO.out, hj]; omega) (by decide)
                go_wp2
                go_ret2
                exact ⟨.inl ⟨by rw [HV.out]; decide, by rw [HV.out]; rfl⟩, HW2.out⟩
              · have ha' : decide (a ≤ (k : Int)) = false := by simpa using ha
                by_cases hb : (n : Int) < a
                · have HV : Hid (verifyN p L = 33) := HLe.out 33 (by simp [lookN, HO.out, hj]; omega) (by decide)
                  go_wp2
                  go_ret2
                  exact ⟨.inl ⟨by rw [HV.out]; decide, by rw [HV.out]; rfl⟩, HW2.out⟩
                · have hb' : decide ((n : Int) < a) = false := by simpa using hb
                  have HF : Hid (fitsB p op a = true) := by
                    simp [jumpB] at hj
                    rcases hj with rfl | rfl <;> simp [fitsB, Hid]
                  have HX : Hid (lookN p n k (op, a) = 0) := by simp [lookN, HO.out, hj, HF.out, Hid]; omega
                  go_wp2_with fail
                  refine (refArgument_any _ p _ _ _ op a HO.out).mono ?_
                  rintro e w3 ⟨rfl, hb3⟩
                  have HB3 : Hid (PBox w3 w.heap.size p (some ⟨b, off, none⟩) n cap) := HB2.out.kept hb3
                  have HW3 : Hid (Below w.heap.size w w3) := HW2.out.trans (hb3.mono HW2.out.size)
                  have HN2 : Hid (lookAll p L (k + 1) = 0) := HLk.out HX.out
                  rw [HF.out]
                  clear hb3
                  go_wp2
                  go_roundw
                  case rel => exact ⟨k + 1, by omega, by go_num, HN2, HB3, HW3⟩
                  case measure => simp [intOf]; omega
            | false =>
              go_wp2_with fail
              refine (refArgument_any _ p _ _ _ op a HO.out).mono ?_
              rintro e w3 ⟨rfl, hb3⟩
              have HB3 : Hid (PBox w3 w.heap.size p (some ⟨b, off, none⟩) n cap) := HB2.out.kept hb3
              have HW3 : Hid (Below w.heap.size w w3) := HW2.out.trans (hb3.mono HW2.out.size)
              clear hb3
              cases hf : fitsB p op a with
              | true =>
                have HN2 : Hid (lookAll p L (k + 1) = 0) := HLk.out (by simp [lookN, HO.out, hj, hf])
                go_wp2
                go_roundw
                case rel => exact ⟨k + 1, by omega, by go_num, HN2, HB3, HW3⟩
                case measure => simp [intOf]; omega
              | false =>
                have HV : Hid (verifyN p L = 32) := HLe.out 32 (by simp [lookN, HO.out, hj, hf]) (by decide)
                go_wp2
                go_ret2
                exact ⟨.inl ⟨by rw [HV.out]; decide, by rw [HV.out]; rfl⟩, HW3.out⟩
      · obtain rfl : k = n := by omega
        have HS : Hid (lookAll p L L.length = 0) := by rw [← HN.out]; exact HA.out
        have hbs := build_ints1
        go_wp2_with fail
        have hpl : w.heap.size < wr.heap.size := HB.out.lt
        have hbA : Below wr.heap.size wr (wr.alloc (.cells #[.int .i64 0] 3)) := (Below.refl _ _).alloc (Nat.le_refl _) _
        have HBA : Hid (PBox (wr.alloc (.cells #[.int .i64 0] 3)) w.heap.size p ao k cap) := HB.out.kept hbA
        have HWA : Hid (Below w.heap.size w (wr.alloc (.cells #[.int .i64 0] 3))) := HW.out.trans (hbA.mono HW.out.size)
        have HOA : Hid (OwnI (wr.alloc (.cells #[.int .i64 0] 3)) wr.heap.size (.slice (some ⟨wr.heap.size, 0, none⟩) 1 1) (startD 0)) := OwnI.ofRow (L := [0]) (RowI.new wr [0]) (by unfold maxLen; simp) (Nat.le_refl _)
        clear hbA HB HW x0 x1 x2 x3 x4
        generalize wr.heap.size = B0 at *
        generalize wr.alloc (.cells #[.int .i64 0] 3) = W0 at *
        have HB0 : Hid (B0 ≤ W0.heap.size) := by have := (HOA.out.lt B0 rfl).2; show B0 ≤ W0.heap.size; omega
        clear wr
        go_loopw [6, 7] (fun v x wr => ∃ j : Nat, j ≤ k ∧ x = .int .i64 (j : Int) ∧ Hid (OwnI wr B0 v (startD j)) ∧ Hid (PBox wr w.heap.size p ao k cap) ∧ Hid (Below w.heap.size w wr) ∧ Hid (B0 ≤ wr.heap.size)) (fun _ x _ => k - (intOf x).toNat)
        case atStart => exact ⟨0, by omega, rfl, HOA, HBA, HWA, HB0⟩
        case round =>
          clear HOA HBA HWA HB0
          obtain ⟨j, hj, rfl, HO, HB, HW, HB0⟩ := hrel
          obtain ⟨x0, x1, x2, x3, x4⟩ := HB.out.cells
          by_cases hlt : j < k
          · have hln : (startD j).length = j + 1 := by simp [startD]
            have HLn : Hid ((startD j).length = j + 1) := hln
            clear hln
            go_wp2_with (at_builtin; refine wpList_append_int rfl _ _ rfl B0 _ (startD j) rfl (HO.out.alloc _) _ (-1) rfl (cell_new1 _ _ _) (by rw [HLn.out]; omega) (by have := HB0.out; simp; omega) ?_; intro v' w' h1 h2 _)
            have HO2 : Hid (OwnI w' B0 v' (startD (j + 1))) := by rw [start_snoc] at h1; exact h1
            have hs2 : wr.heap.size + 1 ≤ w'.heap.size := by have := h2.size; simpa using this
            have hpw := HB.out.lt
            have HBl : Hid (∀ C, C ≤ wr.heap.size → (∀ g, u6.ownBlock = some g → C ≤ g) → Below C wr w') := fun C hC hg => by
              have h3 : Below C (wr.alloc (.cells #[.int .i64 (-1)] 3)) w' := ⟨h2.os, h2.tape, h2.output, h2.size, fun q hq => h2.block q (by simp; omega) (fun e => by have := hg q e.symm; omega)⟩
              exact ((Below.refl _ _).alloc hC _).trans h3
            have HB2 : Hid (PBox w' w.heap.size p ao k cap) := HB.out.below (HBl.out B0 HB0.out (fun g hg => (HO.out.lt g hg).1)) hpl
            have HW2 : Hid (Below w.heap.size w w') := HW.out.trans (HBl.out w.heap.size (by omega) (fun g hg => by have := (HO.out.lt g hg).1; omega))
            have HB02 : Hid (B0 ≤ w'.heap.size) := by have := HB0.out; show B0 ≤ w'.heap.size; omega
            clear h1 h2 hs2 HBl hpw
            go_wp2
            go_roundw
            case rel => exact ⟨j + 1, by omega, by go_num, HO2, HB2, HW2, HB02⟩
            case measure => simp [intOf]; omega
          · obtain rfl : j = k := by omega
            obtain ⟨g, c, hv, hg0, hg1, hcc, _, _⟩ : ∃ g c, _ ∧ _ ∧ _ ∧ _ ∧ _ ∧ _ := HO.out.shape.resolve_left (by rintro ⟨_, h⟩; simp [startD] at h)
            rw [show (startD j).length = j + 1 by simp [startD]] at hv hcc
            subst hv
            go_wp2_with fail
            have HG : Hid (B0 ≤ g) := hg0
            have HSn : Hid (Sane L) := sane_of HS.out
            have HN' : Hid (j = L.length) := HN
            have HMd0 : Hid (Mild (startD j)) := by
              have := Mild.run HSn.out (k := 0) (by omega) (d := startD L.length) rfl
              rw [← HN'.out] at this; exact this
            clear hbs x0 x1 x2 x3 x4 hg0 hg1 HB0
            generalize wr = wz at *
            go_loopw [8] (fun x wr => ∃ (i : Nat) (d : List Int), i ≤ j ∧ x = .int .i64 (i : Int) ∧ Hid (runD L i = some d) ∧ Hid (Mild d) ∧ Hid (d.length = j + 1) ∧ Hid (OwnI wr B0 (.slice (some ⟨g, 0, none⟩) (j + 1) c) d) ∧ Hid (PBox wr w.heap.size p ao j cap) ∧ Hid (Below w.heap.size w wr)) (fun x _ => j - (intOf x).toNat)
            case atStart => exact ⟨0, startD j, by omega, rfl, by rw [HN'.out]; rfl, HMd0, by simp [startD, Hid], HO, HB, HW⟩
            case round =>
              clear HMd0 HO HB HW
              obtain ⟨i, d, hi, rfl, HRun, HMd, HD, HO, HB, HW⟩ := hrel
              obtain ⟨x0, x1, x2, x3, x4⟩ := HB.out.cells
              by_cases hlt : i < j
              · have HK : Hid (i < L.length) := by have := HN'.out; show i < L.length; omega
                obtain ⟨b, off, rfl, c1, c2⟩ := (HL.out.kept HW.out).get i HK.out
                have HOp : Hid (isOpB (cd L i).1 = true) := (HSn.out i HK.out).1
                have HSt : Hid (∀ d', stepD (cd L i) i d = some d' → runD L (i + 1) = some d') := fun d' h => by rw [runD, HRun.out]; exact h
                have HStn : Hid (stepD (cd L i) i d = none → verifyN p L = 34) := fun h => by
                  have h2 : runD L L.length = none := runD_stuck (k := i + 1) (by rw [runD, HRun.out]; exact h) _ HK.out
                  unfold verifyN depthsN; rw [HLim.out, if_neg (by simp), HS.out, if_neg (by simp), h2]
                have HN2 : Hid ((nextN i (cd L i).1 (cd L i).2).length ≤ 2) := next_two _ _ _
                have hcx := HO.out.row.2.2.2.2 i (by have := HD.out; omega)
                have HM : Hid (-1 ≤ d.getD i 0 ∧ d.getD i 0 ≤ 32) := HMd.out i (by have := HD.out; omega)
                have HNt : Hid (∀ t ∈ nextN i (cd L i).1 (cd L i).2, i < t ∧ t ≤ j) := by have := next_lt HSn.out HK.out; rw [← HN'.out] at this; exact this
                have HMs : Hid (∀ d', stepD (cd L i) i d = some d' → Mild d') := fun d' h => HMd.out.step (HSn.out i HK.out).1 h
                have HNx := fun w => refNext_any w p (some ⟨b, off, none⟩) j cap i L
                have HNx : Hid (∀ w, KeysAt w (some ⟨b, off, none⟩) L → Calls Tryz.prog 66 #[pv p (some ⟨b, off, none⟩) j cap, .int .i64 (i : Int)] w fun e w' => ∃ v, e = .returned v ∧ IntsAt w' w.heap.size v ((nextN i (cd L i).1 (cd L i).2).map Int.ofNat) ∧ Below w.heap.size w w') := fun w h => refNext_any w p (some ⟨b, off, none⟩) j cap i L h HN'.out hlt hm HSn.out
                generalize hkk : cd L i = kk at *
                obtain ⟨op, a⟩ := kk
                have HKK : Hid (cd L i = (op, a)) := hkk
                clear hkk
                simp only at c1 c2 HOp HNt HNx HN2
                generalize hx : d.getD i 0 = x at *
                have HX : Hid (d.getD i 0 = x) := hx
                clear hx
                obtain ⟨xl, xu⟩ := HM.out
                by_cases h1 : x < 0
                · obtain rfl : x = -1 := by omega
                  have HE : Hid (runD L (i + 1) = some d) := HSt.out d (by unfold stepD; rw [if_pos HX.out])
                  go_wp2
                  go_roundw
                  case rel => exact ⟨i + 1, d, by omega, by go_num, HE, HMd, HD, HO, HB, HW⟩
                  case measure => simp [intOf]; omega
                · have h1' : decide (x < 0) = false := by simpa using h1
                  obtain ⟨tk0, tk2⟩ := takes_bound HOp.out
                  obtain ⟨lv0, lv2⟩ := leaves_bound HOp.out
                  go_wp2_with fail
                  refine (refTakes_any _ op HOp.out).mono ?_
                  rintro e W2 ⟨rfl, hb2⟩
                  have HO2 : Hid (OwnI W2 B0 (.slice (some ⟨g, 0, none⟩) (j + 1) c) d) := HO.out.kept hb2
                  have HB2 : Hid (PBox W2 w.heap.size p (some ⟨b, off, none⟩) j cap) := HB.out.kept hb2
                  have HW2 : Hid (Below w.heap.size w W2) := HW.out.trans (hb2.mono HW.out.size)
                  have HSd : Hid (∀ r, (if x - takesN op < 0 ∨ 32 < x - takesN op + leavesN op then none else putD d (x - takesN op + leavesN op) (nextN i op a)) = r → stepD (op, a) i d = r) := fun r h => by
                    unfold stepD; rw [HX.out, if_neg (by omega)]; exact h
                  clear hb2 HO HB HW x0 x1 x2 x3 x4 c1 c2 hcx
                  obtain ⟨x0, x1, x2, x3, x4⟩ := HB2.out.cells
                  have hcx := HO2.out.row.2.2.2.2 i (by have := HD.out; omega)
                  rw [HX.out] at hcx
                  generalize takesN op = tk at *
                  generalize leavesN op = lv at *
                  by_cases hl : x - tk < 0
                  · have HV : Hid (verifyN p L = 34) := HStn.out (HSd.out none (by rw [if_pos (.inl hl)]))
                    go_wp2
                    go_ret2
                    exact ⟨.inl ⟨by rw [HV.out]; decide, by rw [HV.out]; rfl⟩, HW2.out⟩
                  · have hl' : decide (x - tk < 0) = false := by simpa using hl
                    by_cases hu : 32 < x - tk + lv
                    · have HV : Hid (verifyN p L = 34) := HStn.out (HSd.out none (by rw [if_pos (.inr hu)]))
                      go_wp2
                      go_ret2
                      exact ⟨.inl ⟨by rw [HV.out]; decide, by rw [HV.out]; rfl⟩, HW2.out⟩
                    · have hu' : decide (32 < x - tk + lv) = false := by simpa using hu
                      have HSp : Hid (∀ r, putD d (x - tk + lv) (nextN i op a) = r → stepD (op, a) i d = r) := fun r h => HSd.out r (by rw [if_neg (by omega)]; exact h)
                      clear HSd
                      go_wp2_with fail
                      refine (HNx.out _ (HL.out.kept HW2.out)).mono ?_
                      rintro e W4 ⟨v4, rfl, hI4, hb4⟩
                      obtain ⟨a2, rfl, hL4⟩ := hI4.lst
                      have HO4 : Hid (OwnI W4 B0 (.slice (some ⟨g, 0, none⟩) (j + 1) c) d) := HO2.out.kept hb4
                      have HB4 : Hid (PBox W4 w.heap.size p (some ⟨b, off, none⟩) j cap) := HB2.out.kept hb4
                      have HW4 : Hid (Below w.heap.size w W4) := HW2.out.trans (hb4.mono HW2.out.size)
                      have HL4 : Hid (LstI W4 W2.heap.size a2 ((nextN i op a).map Int.ofNat)) := hL4
                      have HGl : Hid (g < W2.heap.size) := HO2.out.row.2.2.2.1
                      have hmap : ((nextN i op a).map Int.ofNat).length = (nextN i op a).length := by simp
                      rw [hmap]
                      clear hb4 hI4 hL4 hmap HO2 HB2 HW2 x0 x1 x2 x3 x4 hcx HNx
                      generalize nextN i op a = nx at *
                      obtain ⟨cc, hcc'⟩ : ∃ cc, cc = nx.length := ⟨_, rfl⟩
                      have hc2 := HN2.out
                      rw [← hcc'] at hc2 ⊢
                      have HC : Hid (cc = nx.length) := hcc'
                      clear hcc'
                      go_wp2_with fail
                      have HDep : Hid (0 ≤ x - tk + lv ∧ x - tk + lv ≤ 32) := ⟨by omega, by omega⟩
                      generalize x - tk + lv = dep at *
                      generalize W2.heap.size = B2 at *
                      clear h1' hl hl' hu hu'
                      generalize wr = wo at *
                      go_loopw [13] (fun y wr => ∃ (q : Nat) (dj : List Int), q ≤ cc ∧ y = .int .i64 (q : Int) ∧ Hid (putD d dep nx = putD dj dep (nx.drop q)) ∧ Hid (Mild dj) ∧ Hid (dj.length = j + 1) ∧ Hid (OwnI wr B0 (.slice (some ⟨g, 0, none⟩) (j + 1) c) dj) ∧ Hid (LstI wr B2 a2 (nx.map Int.ofNat)) ∧ Hid (PBox wr w.heap.size p (some ⟨b, off, none⟩) j cap) ∧ Hid (Below w.heap.size w wr)) (fun y _ => cc - (intOf y).toNat)
                      case atStart => exact ⟨0, d, by omega, rfl, by rw [List.drop_zero]; rfl, HMd, HD, HO4, HL4, HB4, HW4⟩
                      case round =>
                        clear HO4 HL4 HB4 HW4
                        obtain ⟨q, dj, hq, rfl, HP, HMj, HDj, HOj, HLj, HBj, HWj⟩ := hrel
                        by_cases hlq : q < cc
                        · have HJ : Hid (q < nx.length) := by have := HC.out; show q < nx.length; omega
                          obtain ⟨g2, rfl, hrow2, hg2⟩ : ∃ g2, a2 = some ⟨g2, 0, none⟩ ∧ RowI wr g2 (nx.map Int.ofNat) ∧ B2 ≤ g2 := HLj.out.resolve_left (by intro h; have := congrArg List.length h; simp at this; rw [this] at HJ; exact absurd HJ.out (by simp))
                          have ca := hrow2.cell q (by simp; exact HJ.out)
                          rw [map_getD nx q HJ.out] at ca
                          have HT := HNt.out (nx.getD q 0) (by rw [List.getD_eq_getElem?_getD, List.getElem?_eq_getElem HJ.out]; simp)
                          have HP' := HP.out
                          rw [drop_getD nx q HJ.out] at HP'
                          have HP1 : Hid (putD d dep nx = putD dj dep (nx.getD q 0 :: nx.drop (q + 1))) := HP'
                          clear HP HP' hrow2 hg2
                          generalize nx.getD q 0 = t at *
                          obtain ⟨ht1, ht2⟩ := HT
                          have htl : t < dj.length := by have := HDj.out; omega
                          have cd1 := HOj.out.row.2.2.2.2 t htl
                          have cf := HOj.out.frozen t
                          obtain ⟨my0, my1⟩ := HMj.out t htl
                          have HR2 : Hid (OwnI (wr.setCell ⟨g, t, none⟩ (.int .i64 dep)) B0 (.slice (some ⟨g, 0, none⟩) (j + 1) c) (dj.set t dep)) := HOj.out.set t dep
                          have HL2 : Hid (LstI (wr.setCell ⟨g, t, none⟩ (.int .i64 dep)) B2 (some ⟨g2, 0, none⟩) (nx.map Int.ofNat)) := HLj.out.set _ HGl.out
                          have HB2 : Hid (PBox (wr.setCell ⟨g, t, none⟩ (.int .i64 dep)) w.heap.size p (some ⟨b, off, none⟩) j cap) := (heap_setCell_other wr ⟨g, t, none⟩ w.heap.size _ (by have := HG.out; simp; omega)).trans HBj.out
                          have HW2 : Hid (Below w.heap.size w (wr.setCell ⟨g, t, none⟩ (.int .i64 dep))) := below_set HWj.out _ _ (by have := HG.out; simp; omega)
                          have HM2 : Hid (Mild (dj.set t dep)) := HMj.out.set t (by have := HDep.out; omega)
                          have HD2 : Hid ((dj.set t dep).length = j + 1) := by rw [List.length_set]; exact HDj.out
                          generalize hy : dj.getD t 0 = y at *
                          have HY : Hid (dj.getD t 0 = y) := hy
                          clear hy htl
                          by_cases hy1 : y = -1
                          · subst hy1
                            have HP2 : Hid (putD d dep nx = putD (dj.set t dep) dep (nx.drop (q + 1))) := HP1.out.trans (putD_some (.inl HY.out))
                            go_wp2
                            go_roundw
                            case rel => exact ⟨q + 1, dj.set t dep, by omega, by go_num, HP2, HM2, HD2, HR2, HL2, HB2, HW2⟩
                            case measure => simp [intOf]; omega
                          · have hy1' : (0 : Int) ≤ y := by omega
                            have hy1d : decide ((0 : Int) ≤ y) = true := by simpa using hy1'
                            by_cases hy2 : y = dep
                            · subst hy2
                              have HP2 : Hid (putD d y nx = putD (dj.set t y) y (nx.drop (q + 1))) := HP1.out.trans (putD_some (.inr HY.out))
                              go_wp2
                              go_roundw
                              case rel => exact ⟨q + 1, dj.set t y, by omega, by go_num, HP2, HM2, HD2, HR2, HL2, HB2, HW2⟩
                              case measure => simp [intOf]; omega
                            · have hy2' : (y != dep) = true := by simpa using hy2
                              have HV : Hid (verifyN p L = 34) := HStn.out (HSp.out none (HP1.out.trans (putD_none (by rw [HY.out]; exact hy1) (by rw [HY.out]; exact hy2))))
                              go_wp2
                              go_ret2
                              exact ⟨.inl ⟨by rw [HV.out]; decide, by rw [HV.out]; rfl⟩, HWj.out⟩
                        · obtain rfl : q = cc := by omega
                          have HE0 : Hid (stepD (op, a) i d = some dj) := HSp.out _ (HP.out.trans (by rw [HC.out, List.drop_length]; rfl))
                          have HE : Hid (runD L (i + 1) = some dj) := HSt.out dj HE0.out
                          go_wp2
                          go_roundw
                          case rel => exact ⟨i + 1, dj, by omega, by go_num, HE, HMj, HDj, HOj, HBj, HWj⟩
                          case measure => simp [intOf]; omega
              · obtain rfl : i = j := by omega
                have HV : Hid (depthsN p L = (d, 0)) := by
                  have h2 := HRun.out
                  rw [HN'.out] at h2
                  unfold depthsN; rw [HLim.out, if_neg (by simp), HS.out, if_neg (by simp), h2]; rfl
                go_wp2
                go_ret2
                refine ⟨.inr ⟨by unfold verifyN; rw [HV.out], g, c, by rw [← HN'.out]; rfl, by rw [HV.out]; exact HO.out.row.2.2.2.2, by have := HG.out; omega, by rw [← HN'.out]; exact hcc⟩, HW.out⟩

theorem refVerify_any (w : World) (p : Nums) (ao : Option Addr) (n cap : Nat) (L : List K) (h : KeysAt w ao L) (hn : n = L.length) :
    Calls Tryz.prog 24 #[pv p ao n cap] w fun e w' => e = .returned (.int .i64 (verifyN p L)) ∧ Below w.heap.size w w' := by
  go_enter Tryz.func24, Tryz.ntmps24
  have hb0 : Below w.heap.size w (w.alloc (.cells #[.int .i64 p.args, .int .i64 p.reads, .int .i64 p.writes, .int .i64 p.locals, .slice ao n cap] 42)) := (Below.refl _ _).alloc (Nat.le_refl _) _
  have HC := refDepths_any (w.alloc (.cells #[.int .i64 p.args, .int .i64 p.reads, .int .i64 p.writes, .int .i64 p.locals, .slice ao n cap] 42)) p ao n cap L (h.kept hb0) hn
  have HB0 : Hid (Below w.heap.size w (w.alloc (.cells #[.int .i64 p.args, .int .i64 p.reads, .int .i64 p.writes, .int .i64 p.locals, .slice ao n cap] 42))) := hb0
  clear h hn hb0
  go_wp2_with fail
  refine HC.mono ?_
  rintro e w1 ⟨hd, hb1⟩
  have HB : Hid (Below w.heap.size w w1) := HB0.out.trans (hb1.mono HB0.out.size)
  rcases hd with ⟨h1, rfl⟩ | ⟨h1, g, c, rfl, h2, h3, _⟩
  · clear h1
    go_wp2
    go_ret
    exact ⟨rfl, HB.out⟩
  · have HV : Hid (verifyN p L = 0) := h1
    clear h1 h2 h3
    go_wp2
    go_ret
    exact ⟨by rw [HV.out]; rfl, HB.out⟩

end Go.Proofs.YtiiplikmoodfnaaGreatDoor
/-
  THE WALK OF THE DOCUMENT's Longest.
-/
namespace Go.Proofs.YtiiplikmoodfnaaGreatDoor
open Go.RowKit Go.Sort

theorem below_drewK (B : Nat) (W : World) (q : Nat) : Below B W (W.drewN q) := ⟨rfl, rfl, rfl, Nat.le_refl _, fun _ _ => rfl⟩


end Go.Proofs.YtiiplikmoodfnaaGreatDoor
/-
  THE WALKS OF THE DOCUMENT'S Name, Check.
-/
namespace Go.Proofs.YtiiplikmoodfnaaGreatDoor
open Go.RowKit Go.Sort

theorem let_iff (c : Int) : letB c = true ↔ (97 ≤ c ∧ c ≤ 122) ∨ (65 ≤ c ∧ c ≤ 90) := by simp [letB]
theorem dig_iff (c : Int) : digB c = true ↔ 48 ≤ c ∧ c ≤ 57 := by simp [digB]
set_option maxHeartbeats 2000000 in
theorem refName_any (w : World) (s : ByteArray) (hs : s.size ≤ 281474976710656) : Calls Tryz.prog 23 #[.string s] w fun e w' => e = .returned (.bool (nameB s)) ∧ w' = w := by
  by_cases h1 : s.size < 1
  · have HG : Hid (nameB s = false) := by show nameB s = false; unfold nameB; rw [decide_eq_false (by omega), Bool.false_and, Bool.false_and]
    have h1' : (s.size : Int) < 1 := by omega
    go_enter Tryz.func23, Tryz.ntmps23
    go_wp2
    go_ret
    exact ⟨by rw [HG.out]; rfl, rfl⟩
  · have h1' : ¬ (s.size : Int) < 1 := by omega
    by_cases h2 : 31 < s.size
    · have HG : Hid (nameB s = false) := by show nameB s = false; unfold nameB; rw [decide_eq_false (show ¬ s.size ≤ 31 by omega), Bool.and_false, Bool.false_and]
      have h2' : (31 : Int) < (s.size : Int) := by omega
      go_enter Tryz.func23, Tryz.ntmps23
      go_wp2
      go_ret
      exact ⟨by rw [HG.out]; rfl, rfl⟩
    · have h2' : ¬ (31 : Int) < (s.size : Int) := by omega
      have hN : Hid (nameB s = goodN s s.size) := by show nameB s = _; unfold nameB; rw [decide_eq_true (show 0 < s.size by omega), decide_eq_true (show s.size ≤ 31 by omega)]; rfl
      go_enter Tryz.func23, Tryz.ntmps23
      go_wp2
      go_loop [3] (fun x => ∃ k : Nat, k ≤ s.size ∧ x = .int .i64 (k : Int) ∧ Hid (goodN s k = true)) (fun x => s.size - (intOf x).toNat)
      case atStart => exact ⟨0, Nat.zero_le _, rfl, rfl⟩
      case round =>
        obtain ⟨k, hk, rfl, HA⟩ := hrel
        by_cases hlt : k < s.size
        · have HC := chs_at s k hlt
          have HF : Hid (chB k (chs s k) = false → nameB s = false) := fun h => by rw [hN.out, goodN_false h hlt]
          have HT : Hid (chB k (chs s k) = true → goodN s (k + 1) = true) := fun h => by unfold goodN; rw [HA.out, h]; rfl
          generalize chs s k = c at *
          have hcase : (97 ≤ c ∧ c ≤ 122) ∨ (¬ 97 ≤ c ∧ 65 ≤ c ∧ c ≤ 90) ∨ (97 ≤ c ∧ ¬ c ≤ 122 ∧ 65 ≤ c ∧ ¬ c ≤ 90) ∨ (¬ 97 ≤ c ∧ 65 ≤ c ∧ ¬ c ≤ 90) ∨ (¬ 97 ≤ c ∧ ¬ 65 ≤ c) := by omega
          rcases hcase with ⟨c1, c2⟩ | ⟨c1, c2, c3⟩ | hno
          · have HG : Hid (goodN s (k + 1) = true) := HT.out (by unfold chB; rw [(let_iff c).2 (.inl ⟨c1, c2⟩)]; rfl)
            go_wp2
            go_round
            case rel => exact ⟨k + 1, by omega, by go_num, HG⟩
            case measure => simp [intOf]; omega
          · have HG : Hid (goodN s (k + 1) = true) := HT.out (by unfold chB; rw [(let_iff c).2 (.inr ⟨c2, c3⟩)]; rfl)
            go_wp2
            go_round
            case rel => exact ⟨k + 1, by omega, by go_num, HG⟩
            case measure => simp [intOf]; omega
          · have hl : letB c = false := by
              cases e : letB c with
              | false => rfl
              | true => rw [let_iff] at e; omega
            by_cases h0 : k = 0
            · have HG : Hid (nameB s = false) := HF.out (by unfold chB; rw [hl, h0]; rfl)
              have h0' : ((k : Int) == 0) = true := by rw [h0]; rfl
              clear h0 hl
              rcases hno with ⟨c1, c2, c3, c4⟩ | ⟨c1, c2, c3⟩ | ⟨c1, c2⟩ <;>
              (go_wp2
               go_ret
               exact ⟨by rw [HG.out]; rfl, rfl⟩)
            · have h0' : ((k : Int) == 0) = false := by simp; omega
              by_cases h95 : c = 95
              · have HG : Hid (goodN s (k + 1) = true) := HT.out (by unfold chB; rw [hl]; simp [h0, h95])
                have h95' : (c != 95) = false := by simp [h95]
                clear h0 hl h95
                rcases hno with ⟨c1, c2, c3, c4⟩ | ⟨c1, c2, c3⟩ | ⟨c1, c2⟩ <;>
                (go_wp2
                 go_round
                 case rel => exact ⟨k + 1, by omega, by go_num, HG⟩
                 case measure => simp [intOf]; omega)
              · have h95' : (c != 95) = true := by simpa using h95
                by_cases h48 : c < 48
                · have HG : Hid (nameB s = false) := HF.out (by
                    have hd : digB c = false := by
                      cases e : digB c with
                      | false => rfl
                      | true => rw [dig_iff] at e; omega
                    unfold chB; rw [hl, hd]; simp [h95])
                  clear h0 hl h95
                  rcases hno with ⟨c1, c2, c3, c4⟩ | ⟨c1, c2, c3⟩ | ⟨c1, c2⟩ <;>
                  (go_wp2
                   go_ret
                   exact ⟨by rw [HG.out]; rfl, rfl⟩)
                · by_cases h57 : 57 < c
                  · have HG : Hid (nameB s = false) := HF.out (by
                      have hd : digB c = false := by
                        cases e : digB c with
                        | false => rfl
                        | true => rw [dig_iff] at e; omega
                      unfold chB; rw [hl, hd]; simp [h95])
                    clear h0 hl h95
                    rcases hno with ⟨c1, c2, c3, c4⟩ | ⟨c1, c2, c3⟩ | ⟨c1, c2⟩ <;>
                    (go_wp2
                     go_ret
                     exact ⟨by rw [HG.out]; rfl, rfl⟩)
                  · have HG : Hid (goodN s (k + 1) = true) := HT.out (by unfold chB; rw [hl, (dig_iff c).2 (by omega)]; simp [h0])
                    clear h0 hl h95
                    rcases hno with ⟨c1, c2, c3, c4⟩ | ⟨c1, c2, c3⟩ | ⟨c1, c2⟩ <;>
                    (go_wp2
                     go_round
                     case rel => exact ⟨k + 1, by omega, by go_num, HG⟩
                     case measure => simp [intOf]; omega)
        · obtain rfl : k = s.size := by omega
          have HG : Hid (nameB s = true) := by rw [hN.out, HA.out]; rfl
          go_wp2
          go_ret
          exact ⟨by rw [HG.out]; rfl, rfl⟩

set_option maxRecDepth 100000 in
set_option maxHeartbeats 2000000 in
theorem refCheck_any (w : World) (ao : Option Addr) (n cap : Nat) (Ps : List Pr) (h : LibAt w ao Ps) (hn : n = Ps.length) (hm : n ≤ 140737488351232) :
    Calls Tryz.prog 11 #[.slice ao n cap] w fun e w' => e = .returned (.tuple #[.int .i64 ((checkN Ps).1 : Int), .int .i64 (checkN Ps).2]) ∧ Below w.heap.size w w' := by
  have H : Hid (LibAt w ao Ps) := h
  have HN : Hid (n = Ps.length) := hn
  clear h hn
  by_cases h64 : 64 < n
  · have HV : Hid (checkN Ps = (0, 36)) := by show checkN Ps = (0, 36); unfold checkN; rw [if_pos (by have := HN.out; omega)]
    go_enter Tryz.func11, Tryz.ntmps11
    go_wp2
    go_ret2
    exact ⟨by rw [HV.out]; rfl, Below.refl _ _⟩
  · go_enter Tryz.func11, Tryz.ntmps11
    go_wp2
    go_loopw [4] (fun x wr => ∃ k : Nat, k ≤ n ∧ x = .int .i64 (k : Int) ∧ Hid (∀ i, i < k → chkOne Ps i = 0) ∧ Hid (Below w.heap.size w wr)) (fun x _ => n - (intOf x).toNat)
    case atStart => exact ⟨0, Nat.zero_le _, rfl, fun i hi => absurd hi (Nat.not_lt_zero i), Below.refl _ _⟩
    case round =>
      obtain ⟨k, hk, rfl, HA, HB⟩ := hrel
      by_cases hlt : k < n
      · have hlt' : k < Ps.length := by have := HN.out; omega
        obtain ⟨b, off, e, c0, c1, c2, c3, c4, c5⟩ := (H.out.at_.kept HB.out).get k hlt'
        have HS : Hid (chkOne Ps k ≠ 0 → checkN Ps = (k, chkOne Ps k)) := fun h => checkN_stop (by have := HN.out; omega) HA.out h hlt'
        have HF : Hid ((nameB (pd Ps k).name = false ∨ hasB (Ps.take k) (pd Ps k).name = true) → chkOne Ps k = 35) := chkOne_bad
        have HT : Hid (nameB (pd Ps k).name = true → hasB (Ps.take k) (pd Ps k).name = false → chkOne Ps k = verifyN (pd Ps k).p (pd Ps k).L) := chkOne_good
        have HO : Hid (PrOK wr (pd Ps k)) := (H.out.ok _ (pd_mem hlt')).kept HB.out
        have HAt : Hid (ProcsAt wr ao Ps) := H.out.at_.kept HB.out
        subst e
        have HX : Hid (pd Ps k = pd Ps k) := rfl
        generalize hx : pd Ps k = x at *
        clear hx HX
        cases hnm : nameB x.name with
        | false =>
          have HV : Hid (checkN Ps = (k, 35)) := by
            have e := HF.out (.inl hnm)
            have := HS.out (by rw [e]; decide)
            rw [e] at this; exact this
          go_wp2_with fail
          refine (refName_any wr x.name (by have := HO.out.str; omega)).mono ?_
          rintro e w2 ⟨rfl, rfl⟩
          rw [hnm]
          go_wp2
          go_ret2
          exact ⟨by rw [HV.out]; rfl, HB.out⟩
        | true =>
          go_wp2_with fail
          refine (refName_any wr x.name (by have := HO.out.str; omega)).mono ?_
          rintro e w2 ⟨rfl, rfl⟩
          rw [hnm]
          go_wp2_with fail
          generalize w2 = wq at *
          go_loopw [5] (fun y wr => ∃ j : Nat, j ≤ k ∧ y = .int .i64 (j : Int) ∧ Hid (hasB (Ps.take j) x.name = false) ∧ ∃ q, wr = wq.drewN q) (fun y _ => k - (intOf y).toNat)
          case atStart => exact ⟨0, by omega, rfl, rfl, 0, rfl⟩
          case round =>
            obtain ⟨j, hj, rfl, HJ, q, rfl⟩ := hrel
            by_cases hjk : j < k
            · have hjl : j < Ps.length := by have := HN.out; omega
              obtain ⟨b', off', e, d0, _⟩ := HAt.out.get j hjl
              cases e
              have HT2 : Hid (hasB (Ps.take (j + 1)) x.name = (hasB (Ps.take j) x.name || ((pd Ps j).name.toList == x.name.toList))) := hasB_take hjl
              have HS2 : Hid (((pd Ps j).name.toList == x.name.toList) = true → hasB (Ps.take k) x.name = true) := fun h => hasB_at (k := j) (by rw [List.length_take]; omega) (by rw [pd_takeD Ps j k hjk]; exact h)
              generalize (pd Ps j).name = yn at *
              cases hq : yn.toList == x.name.toList with
              | true =>
                have HV : Hid (checkN Ps = (k, 35)) := by
                  have e := HF.out (.inr (HS2.out hq))
                  have := HS.out (by rw [e]; decide)
                  rw [e] at this; exact this
                go_wp2_with fail
                go_quiet (fail)
                go_wp2
                go_ret2
                exact ⟨by rw [HV.out]; rfl, HB.out.trans ((below_drewK _ wq q).trans (below_drewK _ _ nq))⟩
              | false =>
                have HJ2 : Hid (hasB (Ps.take (j + 1)) x.name = false) := by rw [HT2.out, HJ.out, hq]; rfl
                go_wp2_with fail
                go_quiet (fail)
                go_wp2
                go_roundw
                case rel => exact ⟨j + 1, by omega, by go_num, HJ2, q + nq, rfl⟩
                case measure => simp [intOf]; omega
            · obtain rfl : j = k := by omega
              have HV : Hid (chkOne Ps j = verifyN x.p x.L) := HT.out hnm HJ.out
              go_wp2_with fail
              refine (refVerify_any (wq.drewN q) x.p x.ao x.n x.cap x.L HO.out.ks HO.out.len).mono ?_
              rintro e W4 ⟨rfl, hb4⟩
              have HB4 : Hid (Below w.heap.size w W4) := (HB.out.trans (below_drewK _ wq q)).trans (hb4.mono HB.out.size)
              rw [← HV.out]
              clear hb4 HV
              generalize hce : chkOne Ps j = ce at *
              by_cases h0 : ce = 0
              · have HA2 : Hid (∀ i, i < j + 1 → chkOne Ps i = 0) := fun i hi => by
                  by_cases e : i = j
                  · rw [e, hce]; exact h0
                  · exact HA.out i (by omega)
                clear hce
                subst h0
                go_wp2
                go_roundw
                case rel => exact ⟨j + 1, by omega, by go_num, HA2, HB4⟩
                case measure => simp [intOf]; omega
              · have h0' : (ce != 0) = true := by simpa using h0
                have HV : Hid (checkN Ps = (j, ce)) := HS.out h0
                clear hce
                go_wp2
                go_ret2
                exact ⟨by rw [HV.out]; rfl, HB4.out⟩
      · obtain rfl : k = n := by omega
        have HV : Hid (checkN Ps = (0, 0)) := checkN_zero (by have := HN.out; omega) (by rw [← HN.out]; exact HA.out)
        go_wp2
        go_ret2
        exact ⟨by rw [HV.out]; rfl, HB.out⟩
end Go.Proofs.YtiiplikmoodfnaaGreatDoor
/-
  THE DOCUMENT's label: the state.
-/
namespace Go.Proofs.YtiiplikmoodfnaaGreatDoor
open Go.RowKit Go.Sort

theorem infoMk : (Tryz.prog.info? 116).map (fun i => (i.zero, i.size, i.bytes)) = some (some (.agg #[.string ⟨#[]⟩, .int .i64 0]), 2, 24) := by kernel_rfl
/-- what a label's line is: pure -/
def labE (ls : List (List UInt8 × Nat)) (x : Wd) (rest : List Wd) : Option Er :=
  if nameB (S x.1.dropLast) = false then some (x.2, 40)
  else if (labN ls x.1.dropLast).isSome then some (x.2, 43)
  else rEnd (rest, 0)
/-- all below M but B, and but one row, stays -/
structure FrB (B : Nat) (row : Option Nat) (w w' : World) : Prop where
  os : w'.os = w.os
  tape : w'.tape = w.tape
  output : w'.output = w.output
  size : w.heap.size ≤ w'.heap.size
  block : ∀ k, k < w.heap.size → k ≠ B → row ≠ some k → w'.heap[k]? = w.heap[k]?
theorem FrB.bel {B : Nat} {row : Option Nat} {w w1 w' : World} (hb : Go.RowKit.Below w.heap.size w w1) (h : FrB B row w1 w') : FrB B row w w' :=
  ⟨h.os.trans hb.os, h.tape.trans hb.tape, h.output.trans hb.output, Nat.le_trans hb.size h.size, fun k hk h1 h2 => (h.block k (Nat.lt_of_lt_of_le hk hb.size) h1 h2).trans (hb.block k hk)⟩
theorem FrB.then {B : Nat} {row : Option Nat} {w w1 w' : World} (h : FrB B row w w1) (hb : Go.RowKit.Below w1.heap.size w1 w') : FrB B row w w' :=
  ⟨hb.os.trans h.os, hb.tape.trans h.tape, hb.output.trans h.output, Nat.le_trans h.size hb.size, fun k hk h1 h2 => (hb.block k (Nat.lt_of_lt_of_le hk h.size)).trans (h.block k hk h1 h2)⟩
/-- the box's cell of marks is turned -/
theorem RX.set15 {W : World} {B : Nat} {r : Rv} (h : RX W B r) (v : Value) : RX (W.setCell ⟨B, 15, none⟩ v) B { r with marks := v } := heap_setCell_same W B 15 _ _ v h
def RLabPost (w : World) (M B : Nat) (r : Rv) (ls : List (List UInt8 × Nat)) (x : Wd) (rest : List Wd) (cl : Nat) (e : Ending) (w' : World) : Prop :=
  (∃ er, labE ls x rest = some er ∧ e = .returned (ftv (r.line : Int) (er.1 : Int) er.2) ∧ Go.RowKit.Below w.heap.size w w') ∨
  (labE ls x rest = none ∧ e = .returned (ftv 0 0 0) ∧ ∃ v', RX w' B { r with marks := v' } ∧ w'.ownsRow M 116 2 v' (ls.length + 1) (wcs (ls ++ [(x.1.dropLast, cl)])) ∧ FrB B r.marks.ownBlock w w')
end Go.Proofs.YtiiplikmoodfnaaGreatDoor
