/-
  THE WALK OF THE DOCUMENT's Longest.
-/
import Derived.Test.YtjmlogljfboleaaLRefD
import Derived.Deep.QuietTactic
import Derived.BigQuiet
namespace Go.Proofs.Ytjmlogljfboleaa
open Go.RowKit Go.Sort

theorem below_drewK (B : Nat) (W : World) (q : Nat) : Below B W (W.drewN q) := ⟨rfl, rfl, rfl, Nat.le_refl _, fun _ _ => rfl⟩

set_option maxRecDepth 100000 in
set_option maxHeartbeats 2000000 in
theorem refLongest_any (w : World) (p : Nums) (ao : Option Addr) (n cap : Nat) (L : List K) (h : KeysAt w ao L) (hn : n = L.length) :
    Calls Try.prog 9 #[pv p ao n cap] w fun e w' => e = .returned (.tuple #[.int .i64 (longestN p L).1, .int .i64 (longestN p L).2]) ∧ Below w.heap.size w w' := by
  have HL : Hid (KeysAt w ao L) := h
  have HN : Hid (n = L.length) := hn
  clear h hn
  go_enter Try.func9, Try.ntmps9
  go_wp2_with fail
  have hB0 : Below w.heap.size w (w.alloc (.cells #[.int .i64 p.args, .int .i64 p.reads, .int .i64 p.writes, .int .i64 p.locals, .slice ao n cap] 24)) := (Below.refl _ _).alloc (Nat.le_refl _) _
  refine (refVerify_any _ p ao n cap L (HL.out.kept hB0) HN.out).mono ?_
  rintro e w1 ⟨rfl, hb1⟩
  have HB1 : Hid (PBox w1 w.heap.size p ao n cap) := (PBox.new w p ao n cap).kept hb1
  have HW1 : Hid (Below w.heap.size w w1) := hB0.trans (hb1.mono hB0.size)
  clear hb1 hB0
  obtain ⟨x0, x1, x2, x3, x4⟩ := HB1.out.cells
  have HV : Hid (∀ v, verifyN p L = v → v ≠ 0 → longestN p L = (0, v)) := fun v h h0 => by unfold longestN; rw [h, if_pos h0]
  have HV0 : Hid (verifyN p L = 0 → longestN p L = ((mostN L L.length).getD 0 0, 0) ∧ Sane L ∧ n ≤ 256) := fun h => by
    obtain ⟨h1, h2, _⟩ := verify_ok h
    refine ⟨by unfold longestN; rw [h, if_neg (by simp)], sane_of h2, ?_⟩
    rw [HN.out]; exact ((limB_iff p L.length).1 h1).2.2.2.2
  generalize hv : verifyN p L = v at *
  by_cases h0 : v = 0
  · subst h0
    obtain ⟨hl1, hl2, hm⟩ := HV0.out rfl
    have HL1 : Hid (longestN p L = ((mostN L L.length).getD 0 0, 0)) := hl1
    have HS : Hid (Sane L) := hl2
    clear hl1 hl2 HV0 HV hv
    have hmk := make_ints (n + 1) ((n : Int) + 1) (by omega) (by omega)
    have hbA : Below w1.heap.size w1 (w1.alloc (.cells (cellsI (List.replicate (n + 1) 0)) 3)) := (Below.refl _ _).alloc (Nat.le_refl _) _
    have HR1 : Hid (RowI (w1.alloc (.cells (cellsI (List.replicate (n + 1) 0)) 3)) w1.heap.size (mostN L 0)) := by rw [mostN, ← HN.out]; exact RowI.new _ _
    have HBA : Hid (PBox (w1.alloc (.cells (cellsI (List.replicate (n + 1) 0)) 3)) w.heap.size p ao n cap) := HB1.out.kept hbA
    have HWA : Hid (Below w.heap.size w (w1.alloc (.cells (cellsI (List.replicate (n + 1) 0)) 3))) := HW1.out.trans (hbA.mono HW1.out.size)
    have x4' := HBA.out.cells.2.2.2.2
    have hgw : w.heap.size < w1.heap.size := HB1.out.lt
    go_wp2_with fail
    clear x0 x1 x2 x3 x4 x4' hmk hbA
    generalize w1.heap.size = g at *
    generalize w1.alloc (.cells (cellsI (List.replicate (n + 1) 0)) 3) = W0 at *
    clear HB1 HW1
    go_loopw [6] (fun x wr => ∃ k : Nat, k ≤ n ∧ x = .int .i64 ((n : Int) - 1 - (k : Int)) ∧ Hid (RowI wr g (mostN L k)) ∧ Hid (Few (mostN L k) (k : Int)) ∧ Hid (PBox wr w.heap.size p ao n cap) ∧ Hid (Below w.heap.size w wr)) (fun x _ => (intOf x + 1).toNat)
    case atStart => exact ⟨0, by omega, by simp, HR1, fun j hj => by rw [most_length] at hj; simp [mostN, List.getD_eq_getElem?_getD, hj], HBA, HWA⟩
    case round =>
      clear HR1 HBA HWA
      obtain ⟨k, hk, rfl, HR, HF, HB, HW⟩ := hrel
      obtain ⟨x0, x1, x2, x3, x4⟩ := HB.out.cells
      by_cases hlt : k < n
      · obtain ⟨i, hi⟩ : ∃ i, i = n - 1 - k := ⟨_, rfl⟩
        have HI : Hid (i = L.length - 1 - k ∧ k < L.length) := by have := HN.out; exact ⟨by omega, by omega⟩
        rw [show ((n : Int) - 1 - (k : Int)) = ((i : Nat) : Int) by omega]
        have HIk : Hid ((i : Int) = (n : Int) - 1 - (k : Int)) := by show (i : Int) = (n : Int) - 1 - (k : Int); omega
        have hin : i < n := by omega
        clear hi
        have HK : Hid (i < L.length) := by have := HN.out; show i < L.length; omega
        have HNt : Hid (∀ t ∈ nextN i (cd L i).1 (cd L i).2, i < t ∧ t ≤ n) := by have := next_lt HS.out HK.out; rw [← HN.out] at this; exact this
        have HN2 : Hid ((nextN i (cd L i).1 (cd L i).2).length ≤ 2) := next_two _ _ _
        have HSt : Hid (mostN L (k + 1) = (mostN L k).set i (foldM (mostN L k) (nextN i (cd L i).1 (cd L i).2) ((mostN L k).getD i 0) + 1)) := by
          have := most_step L k HI.out.2
          rw [← HI.out.1] at this
          exact this
        have hml : (mostN L k).length = n + 1 := by rw [most_length, HN.out]
        have HLe : Hid ((mostN L k).length = n + 1) := hml
        clear hml
        go_wp2_with fail
        refine (refNext_any wr p ao n cap i L (HL.out.kept HW.out) HN.out hin hm HS.out).mono ?_
        rintro e W4 ⟨v4, rfl, hI4, hb4⟩
        obtain ⟨a2, rfl, hL4⟩ := hI4.lst
        have HR4 : Hid (RowI W4 g (mostN L k)) := HR.out.kept hb4
        have HB4 : Hid (PBox W4 w.heap.size p ao n cap) := HB.out.kept hb4
        have HW4 : Hid (Below w.heap.size w W4) := HW.out.trans (hb4.mono HW.out.size)
        have HL4 : Hid (LstI W4 wr.heap.size a2 ((nextN i (cd L i).1 (cd L i).2).map Int.ofNat)) := hL4
        have HGl : Hid (g < wr.heap.size) := HR.out.lt
        have hmap : ((nextN i (cd L i).1 (cd L i).2).map Int.ofNat).length = (nextN i (cd L i).1 (cd L i).2).length := by simp
        rw [hmap]
        clear hb4 hI4 hL4 hmap x0 x1 x2 x3 x4
        generalize nextN i (cd L i).1 (cd L i).2 = nx at *
        generalize mostN L k = m at *
        have hpl : k ≤ 256 := by omega
        obtain ⟨cc, hcc'⟩ : ∃ cc, cc = nx.length := ⟨_, rfl⟩
        have hc2 := HN2.out
        rw [← hcc'] at hc2 ⊢
        have HC : Hid (cc = nx.length) := hcc'
        clear hcc'
        go_wp2_with fail
        generalize wr.heap.size = B2 at *
        generalize wr = wo at *
        have HLi : Hid (i < m.length) := by have := HLe.out; show i < m.length; omega
        go_loopw [8] (fun y wr => ∃ (q : Nat) (acc : Int), q ≤ cc ∧ y = .int .i64 (q : Int) ∧ Hid (foldM m nx (m.getD i 0) = foldM m (nx.drop q) acc) ∧ Hid (0 ≤ acc ∧ acc ≤ (k : Int)) ∧ Hid (RowI wr g (m.set i acc)) ∧ Hid (LstI wr B2 a2 (nx.map Int.ofNat)) ∧ Hid (PBox wr w.heap.size p ao n cap) ∧ Hid (Below w.heap.size w wr)) (fun y _ => cc - (intOf y).toNat)
        case atStart => exact ⟨0, m.getD i 0, by omega, rfl, by rw [List.drop_zero]; rfl, HF.out i HLi.out, by rw [set_self]; exact HR4, HL4, HB4, HW4⟩
        case round =>
          clear HR4 HL4 HB4 HW4
          obtain ⟨q, acc, hq, rfl, HP, HAcc, HRj, HLj, HBj, HWj⟩ := hrel
          have cI := HRj.out.cell i (by rw [List.length_set]; exact HLi.out)
          rw [getD_set _ _ _ _ HLi.out, if_pos rfl] at cI
          have fI := HRj.out.frozen i
          obtain ⟨ha0, ha1⟩ := HAcc.out
          by_cases hlq : q < cc
          · have HJ : Hid (q < nx.length) := by have := HC.out; show q < nx.length; omega
            obtain ⟨g2, rfl, hrow2, hg2⟩ : ∃ g2, a2 = some ⟨g2, 0, none⟩ ∧ RowI wr g2 (nx.map Int.ofNat) ∧ B2 ≤ g2 := HLj.out.resolve_left (by intro h; have := congrArg List.length h; simp at this; rw [this] at HJ; exact absurd HJ.out (by simp))
            have ca := hrow2.cell q (by simp; exact HJ.out)
            rw [map_getD nx q HJ.out] at ca
            have HT := HNt.out (nx.getD q 0) (by rw [List.getD_eq_getElem?_getD, List.getElem?_eq_getElem HJ.out]; simp)
            have HP' := HP.out
            rw [drop_getD nx q HJ.out, foldM_cons] at HP'
            have HP1 : Hid (foldM m nx (m.getD i 0) = foldM m (nx.drop (q + 1)) (max acc (m.getD (nx.getD q 0) 0))) := HP'
            clear HP HP' hrow2 hg2
            generalize nx.getD q 0 = t at *
            obtain ⟨ht1, ht2⟩ := HT
            have htl : t < m.length := by have := HLe.out; omega
            have cT := HRj.out.cell t (by rw [List.length_set]; exact htl)
            rw [getD_set _ _ _ _ htl, if_neg (by omega)] at cT
            obtain ⟨hy0, hy1⟩ := HF.out t htl
            generalize m.getD t 0 = y at *
            clear htl
            have HLd : Hid (∀ nq, LstI (wr.drewN nq) B2 (some ⟨g2, 0, none⟩) (nx.map Int.ofNat)) := fun _ => HLj.out
            by_cases hgt : acc < y
            · have HR2 : Hid (∀ nq, RowI ((wr.drewN nq).setCell ⟨g, i, none⟩ (.int .i64 y)) g (m.set i y)) := fun nq => by
                have := RowI.set (w := wr.drewN nq) HRj.out i y
                rwa [List.set_set] at this
              have HL2 : Hid (∀ nq, LstI ((wr.drewN nq).setCell ⟨g, i, none⟩ (.int .i64 y)) B2 (some ⟨g2, 0, none⟩) (nx.map Int.ofNat)) := fun nq => (HLd.out nq).set _ HGl.out
              have HB2 : Hid (∀ nq, PBox ((wr.drewN nq).setCell ⟨g, i, none⟩ (.int .i64 y)) w.heap.size p ao n cap) := fun nq => (heap_setCell_other (wr.drewN nq) ⟨g, i, none⟩ w.heap.size _ (by simp; omega)).trans HBj.out
              have HW2 : Hid (∀ nq, Below w.heap.size w ((wr.drewN nq).setCell ⟨g, i, none⟩ (.int .i64 y))) := fun nq => below_set (HWj.out.trans (below_drewK _ _ _)) _ _ (by simp; omega)
              have HP2 : Hid (foldM m nx (m.getD i 0) = foldM m (nx.drop (q + 1)) y) := by rw [show max acc y = y by omega] at HP1; exact HP1
              go_wp2_with fail
              go_quiet (fail)
              have cI2 : (wr.drewN nq).cell? ⟨g, i, none⟩ = some (.int .i64 acc) := cI
              have cT2 : (wr.drewN nq).cell? ⟨g, t, none⟩ = some (.int .i64 y) := cT
              have ca2 : (wr.drewN nq).cell? ⟨g2, q, none⟩ = some (.int .i64 (t : Int)) := ca
              have fI2 : (wr.drewN nq).frozen? ⟨g, i, none⟩ = false := fI
              go_wp2
              go_roundw
              case rel => exact ⟨q + 1, y, by omega, by go_num, HP2, ⟨hy0, hy1⟩, HR2.out nq, HL2.out nq, HB2.out nq, HW2.out nq⟩
              case measure => simp [intOf]; omega
            · have hgt' : decide (acc < y) = false := by simpa using hgt
              have HP2 : Hid (foldM m nx (m.getD i 0) = foldM m (nx.drop (q + 1)) acc) := by rw [show max acc y = acc by omega] at HP1; exact HP1
              go_wp2_with fail
              go_quiet (fail)
              go_wp2
              go_roundw
              case rel => exact ⟨q + 1, acc, by omega, by go_num, HP2, HAcc, HRj, HLd.out nq, HBj, HWj.out.trans (below_drewK _ _ _)⟩
              case measure => simp [intOf]; omega
          · obtain rfl : q = cc := by omega
            have HE : Hid (foldM m nx (m.getD i 0) = acc) := HP.out.trans (by rw [HC.out, List.drop_length]; rfl)
            have HR2 : Hid (RowI (wr.setCell ⟨g, i, none⟩ (.int .i64 (acc + 1))) g (mostN L (k + 1))) := by
              have := HRj.out.set i (acc + 1)
              rw [List.set_set] at this
              rw [HSt.out, HE.out]; exact this
            have HF2 : Hid (Few (mostN L (k + 1)) ((k + 1 : Nat) : Int)) := by
              rw [HSt.out, HE.out]
              exact (HF.out.mono (by omega)).set i (by omega)
            have HB2 : Hid (PBox (wr.setCell ⟨g, i, none⟩ (.int .i64 (acc + 1))) w.heap.size p ao n cap) := (heap_setCell_other wr ⟨g, i, none⟩ w.heap.size _ (by simp; omega)).trans HBj.out
            have HW2 : Hid (Below w.heap.size w (wr.setCell ⟨g, i, none⟩ (.int .i64 (acc + 1)))) := below_set HWj.out _ _ (by simp; omega)
            go_wp2
            go_roundw
            case rel => exact ⟨k + 1, by omega, by have := HIk.out; congr 1; omega, HR2, HF2, HB2, HW2⟩
            case measure => have := HIk.out; simp [intOf] <;> omega
      · obtain rfl : k = n := by omega
        rw [show ((k : Int) - 1 - (k : Int)) = -1 by omega]
        have HZ : Hid ((mostN L k).getD 0 0 = (mostN L L.length).getD 0 0) := by rw [← HN.out]; rfl
        have cZ := HR.out.cell 0 (by rw [most_length]; omega)
        generalize (mostN L k).getD 0 0 = z at *
        go_wp2
        go_ret2
        exact ⟨by rw [HL1.out, ← HZ.out]; rfl, HW.out⟩
  · have h0' : (v != 0) = true := by simpa using h0
    have HE : Hid (longestN p L = (0, v)) := HV.out v rfl h0
    go_wp2
    go_ret2
    exact ⟨by rw [HE.out]; rfl, HW1.out⟩

end Go.Proofs.Ytjmlogljfboleaa
