/-
  works, ended.
-/
import Derived.Test.YteobmijfbjgccabZLin
namespace Go.Proofs.Yteobmijfbjgccab
open Go.RowKit Go.Sort

def wkL : Nat → Nat := fun i => if i = 0 then 2 else 1
def wkB : Nat → List Int := fun i => if i = 0 then [] else [0]
def wkT : Nat → Int := fun i => if i = 0 then 1 else 0
theorem wk1 : tkP wkL wkB 2 wkT 0 = some 1 := by decide
theorem wk2 : tkP (tkL wkL wkT (some 1)) wkB 2 wkT 0 = some 1 := by decide
theorem wk3 : tkP (tkL (tkL wkL wkT (some 1)) wkT (some 1)) wkB 2 wkT 0 = some 0 := by decide
theorem wk4 : tkP (tkL (tkL (tkL wkL wkT (some 1)) wkT (some 1)) wkT (some 0)) wkB 2 wkT 0 = none := by decide
/-- two chores -/
def WkP (w w' : World) (a b : Nat) : Prop := ∃ cb X, cb 0 = a ∧ cb 1 = b ∧ CI w' 2 cb wkL wkB X ∧ RowKit.Below w.heap.size w w' ∧ ∀ k, X k → w.heap.size ≤ k
set_option maxHeartbeats 4000000 in
theorem works_any (w : World) : Calls Try.prog 5 #[] w fun e w' => e = .returned (.bool true) ∧ RowKit.Below w.heap.size w w' := by
  have H1 := hidW (newChore_any (CI.none w (fun _ => 0) (fun _ => 0) (fun _ => [])) 2 none 0 0 [] rfl (fun j u hu => by simp at hu) (by simp) (by omega))
  go_enter Try.func5, Try.ntmps5
  go_wp2_with fail
  refine H1.out.mono ?_
  rintro e w1 ⟨a, X1, rfl, h1, _, h3, h4, h5⟩
  have HB1 := hidW h5
  obtain ⟨W, hW⟩ : ∃ W, W = w1.alloc (.cells #[ptZ a] 35) := ⟨_, rfl⟩
  have hb0 : RowKit.Below w1.heap.size w1 W := by rw [hW]; exact (Below.refl _ _).alloc (Nat.le_refl _) _
  have H2 := hidW (newChore_any (h1.kept hb0) 1 (some ⟨w1.heap.size, 0, none⟩) 1 1 [0] rfl (fun j u hu => by
    refine ⟨w1.heap.size, 0, rfl, ?_⟩
    rw [hW, World.cell?, heap_alloc_new _ _ rfl, Nat.zero_add]
    simpa [pvZ, updZ] using hu) (by simp) (by omega))
  have HF : Hid (∀ e w2, NCP W 1 (updZ (fun _ => 0) 0 a) (updZ (fun _ => 0) 0 (limZ 2)) (updZ (fun _ => []) 0 []) X1 1 [0] e w2 → ∃ b, e = .returned (ptZ b) ∧ Hid (WkP w w2 a b)) := by
    rintro e w2 ⟨b, X2, rfl, g1, _, g3, g4, g5⟩
    refine ⟨b, rfl, updZ (updZ (fun _ => 0) 0 a) 1 b, X2, rfl, rfl, g1.congr (fun i hi => ?_) (fun i hi => ?_), (h5.trans (hb0.mono h5.size)).trans (g5.mono (Nat.le_trans h5.size hb0.size)), fun k hk => ?_⟩
    · rcases (by omega : i = 0 ∨ i = 1) with rfl | rfl <;> rfl
    · rcases (by omega : i = 0 ∨ i = 1) with rfl | rfl <;> rfl
    · rcases g3 k hk with g | g
      · rcases h3 k g with g | g
        · exact g.elim
        · exact g
      · have := h5.size; have := hb0.size; omega
  clear h1 h3 h4 h5 H1 hb0
  go_wp2_with fail
  rw [← hW]
  refine H2.out.mono ?_
  intro e w2 hne
  obtain ⟨b, rfl, HK⟩ := HF.out e w2 hne
  clear hne HF H2 hW HB1
  obtain ⟨cb, X, hca, hcb, hci, hbl, hxn⟩ := HK.out
  have HR0 := hidW (ready_any hci 0 (by omega))
  have HR1 := hidW (ready_any hci 1 (by omega))
  have HL0 := hidW (left_any hci 0 (by omega))
  rw [hca, show rdZ wkL wkB 0 = true by decide] at HR0
  rw [hcb, show rdZ wkL wkB 1 = false by decide] at HR1
  rw [hca, show ((wkL 0 : Nat) : Int) = 2 from rfl] at HL0
  have HCI := hidW hci
  have HBL := hidW hbl
  have HXN := hidW hxn
  have HCA := hidW hca
  have HCB := hidW hcb
  clear HK hci hbl hxn hca hcb
  go_wp2_with fail
  refine HR0.out.mono ?_
  rintro e wx ⟨rfl, hwx⟩
  have hwx' := hwx.symm
  subst hwx'
  clear hwx
  go_wp2_with fail
  refine HR1.out.mono ?_
  rintro e wx ⟨rfl, hwx⟩
  have hwx' := hwx.symm
  subst hwx'
  clear hwx
  go_wp2_with fail
  refine HL0.out.mono ?_
  rintro e wx ⟨rfl, hwx⟩
  have hwx' := hwx.symm
  subst hwx'
  clear hwx
  obtain ⟨V, hV⟩ : ∃ V, V = w2.alloc (.cells #[.iface 35 (ptZ b), .iface 35 (ptZ a)] 49) := ⟨_, rfl⟩
  have hbV : RowKit.Below w2.heap.size w2 V := by rw [hV]; exact (Below.refl _ _).alloc (Nat.le_refl _) _
  have HN := hidW (newLine_any (HCI.out.kept hbV) (some ⟨w2.heap.size, 0, none⟩) 2 2 wkT (by simp) (fun j u hu => by
    refine ⟨w2.heap.size, 0, rfl, ?_⟩
    rw [hV, World.cell?, heap_alloc_new _ _ rfl, Nat.zero_add, ← HCA.out, ← HCB.out]
    rw [show List.map (tvZ cb) (List.map wkT (List.range 2)) = [.iface 35 (ptZ (cb 1)), .iface 35 (ptZ (cb 0))] from rfl] at hu
    simpa using hu) (fun i hi => by rcases (by omega : i = 0 ∨ i = 1) with rfl | rfl <;> decide) (by omega) (by decide))
  have HBV : Hid (RowKit.Below w.heap.size w V ∧ (∀ k, X k → w.heap.size ≤ k)) := ⟨HBL.out.trans (hbV.mono HBL.out.size), HXN.out⟩
  clear hbV HR0 HR1 HL0 HCI HBL HXN HCA HCB
  go_wp2_with fail
  rw [← hV]
  refine HN.out.mono ?_
  rintro e w3 ⟨lb, ao, tc, rfl, g1, g2, g3, g4⟩
  have HS0 := hidW g1
  have HB3 : Hid (RowKit.Below w.heap.size w w3) := HBV.out.1.trans (g2.mono HBV.out.1.size)
  have HXL : Hid (∀ k, X k ∨ k = lb → w.heap.size ≤ k) := fun k hk => by
    rcases hk with hk | rfl
    · exact HBV.out.2 k hk
    · have := HBV.out.1.size; omega
  clear g1 g2 g3 g4 HBV HN hV
  have T1 := hidW (take_any HS0.out 0)
  rw [wk1] at T1
  go_wp2_with fail
  refine T1.out.mono ?_
  rintro e w4 ⟨rfl, g1, g2⟩
  have HS1 := hidW g1
  have HB4 : Hid (RowKit.Below w.heap.size w w4) := HB3.out.trans (g2.below HB3.out.size HXL.out)
  have T2 := hidW (take_any HS1.out 0)
  rw [wk2] at T2
  clear g1 g2 T1 HS0 HB3
  simp only [tkA]
  go_wp2_with fail
  refine T2.out.mono ?_
  rintro e w5 ⟨rfl, g1, g2⟩
  have HS2 := hidW g1
  have HB5 : Hid (RowKit.Below w.heap.size w w5) := HB4.out.trans (g2.below HB4.out.size HXL.out)
  have T3 := hidW (take_any HS2.out 0)
  rw [wk3] at T3
  clear g1 g2 T2 HS1 HB4
  simp only [tkA]
  go_wp2_with fail
  refine T3.out.mono ?_
  rintro e w6 ⟨rfl, g1, g2⟩
  have HS3 := hidW g1
  have HB6 : Hid (RowKit.Below w.heap.size w w6) := HB5.out.trans (g2.below HB5.out.size HXL.out)
  have T4 := hidW (take_any HS3.out 0)
  rw [wk4] at T4
  clear g1 g2 T3 HS2 HB5
  simp only [tkA]
  go_wp2_with fail
  refine T4.out.mono ?_
  rintro e w7 ⟨rfl, g1, g2⟩
  have HS4 := hidW g1
  have HB7 : Hid (RowKit.Below w.heap.size w w7) := HB6.out.trans (g2.below HB6.out.size HXL.out)
  have T5 := hidW (steps_any HS4.out)
  rw [show ((0 + tkK (some 1) + tkK (some 1) + tkK (some 0) + tkK none : Nat) : Int) = 3 from rfl] at T5
  clear g1 g2 T4 HS3 HB6
  simp only [tkA]
  go_wp2_with fail
  refine T5.out.mono ?_
  rintro e wx ⟨rfl, hwx⟩
  have hwx' := hwx.symm
  subst hwx'
  clear hwx
  go_wp2
  go_ret
  exact ⟨rfl, HB7.out⟩
end Go.Proofs.Yteobmijfbjgccab
