import Derived.Test.YtkjmeknaedapjaaDoorJ26
import Derived.Deep.DeepCutAuto
/-
  THE WALK OF preluderef03.Read.
-/
namespace Go.Proofs.YtkjmeknaedapjaaDoor
open Go.RowKit Go.Sort

theorem GM.setO {w W : World} {r : Nat} {ad : Option Addr} {c : Nat} {b : List Nat} {p' : Nat} {e' : Int} {q : Nums} {av : Option Addr} {cv : Nat} {M : List K} (h : GM w W r ad c b p' e' q av cv M) (B i : Nat) (v : Value) (hB : w.heap.size + 2 ≤ B) (hne : ∀ g, (Value.slice av M.length cv).ownBlock = some g → g ≠ B) : GM w (W.setCell ⟨B, i, none⟩ v) r ad c b p' e' q av cv M := by
  obtain ⟨m1, m2⟩ := mods_setNew h.rd h.gr h.r2 h.bl B i v (by omega)
  exact ⟨m1, m2, (heap_setCell_other W ⟨B, i, none⟩ w.heap.size v (by simp; omega)).trans h.b2, (heap_setCell_other W ⟨B, i, none⟩ (w.heap.size + 1) v (by simp; omega)).trans h.b3, h.own.same (fun g hg => heap_setCell_other W ⟨B, i, none⟩ g v (hne g hg)), h.r2, h.bl⟩
/-- an instruction in a box -/
def KBox (W : World) (B : Nat) (op A : Int) : Prop := W.heap[B]? = some (.cells #[.int .i64 op, .int .i64 A] 87 (0, 0))
theorem KBox.cells {W : World} {B : Nat} {op A : Int} (h : KBox W B op A) : W.cell? ⟨B, 0, none⟩ = some (.int .i64 op) ∧ W.cell? ⟨B, 1, none⟩ = some (.int .i64 A) := by
  refine ⟨?_, ?_⟩ <;> simp [World.cell?, show W.heap[B]? = _ from h]
theorem KBox.lt {W : World} {B : Nat} {op A : Int} (h : KBox W B op A) : B < W.heap.size := (Array.getElem?_eq_some_iff.1 h).1

set_option maxRecDepth 100000 in
set_option maxHeartbeats 2000000 in
theorem refRead_any (w : World) (r : Nat) (ad : Option Addr) (c : Nat) (b : List Nat) (p : Nat) (e : Int) (h : IsMod w r ad c b p e) :
    Calls Tryd.prog 46 #[.pointer (some ⟨r, 0, none⟩)] w fun e' w' => GPostM w r ad c b p e e' w' := by
  have HR : Hid (IsMod w r ad c b p e) := h
  clear h
  obtain ⟨H, hH⟩ : ∃ H, H = getH b p e := ⟨_, rfl⟩
  have HP : Hid (getP b p e = (if (getL b H.2.2.1 H.2.2.2 H.2.1).2.2 = 0 then (H.1, (getL b H.2.2.1 H.2.2.2 H.2.1).1, (getL b H.2.2.1 H.2.2.2 H.2.1).2.1, (getL b H.2.2.1 H.2.2.2 H.2.1).2.2) else (⟨0, 0, 0, 0⟩, [], (getL b H.2.2.1 H.2.2.2 H.2.1).2.1, (getL b H.2.2.1 H.2.2.2 H.2.1).2.2))) := by rw [hH]; rfl
  have HHd : Hid (H = getH b p e) := hH
  clear hH
  have HG0 : Hid (GM w ((w.alloc (.cells #[.int .i64 0, .int .i64 0, .int .i64 0, .int .i64 0, .slice none 0 0] 41)).alloc (.cells #[.int .i64 0, .int .i64 0, .int .i64 0, .int .i64 0, .slice none 0 0] 41)) r ad c b p e ⟨0, 0, 0, 0⟩ none 0 []) := by
    have hA : Below w.heap.size w (w.alloc (.cells #[.int .i64 0, .int .i64 0, .int .i64 0, .int .i64 0, .slice none 0 0] 41)) := (Below.refl _ _).alloc (Nat.le_refl _) _
    have hB := hA.alloc (by simp) (.cells #[.int .i64 0, .int .i64 0, .int .i64 0, .int .i64 0, .slice none 0 0] 41)
    have hq := PBox.new (w.alloc (.cells #[.int .i64 0, .int .i64 0, .int .i64 0, .int .i64 0, .slice none 0 0] 41)) ⟨0, 0, 0, 0⟩ none 0 0
    rw [World.size_alloc] at hq
    exact ⟨HR.out.kept hB, grown_below hB, (PBox.new w ⟨0, 0, 0, 0⟩ none 0 0).kept ((Below.refl _ _).alloc (Nat.le_refl _) _), hq, OwnK.nil _ _, HR.out.lt, HR.out.2.1.lt⟩
  go_enter Tryd.func46, Tryd.ntmps46
  go_wp2_with fail
  generalize ((w.alloc (.cells #[.int .i64 0, .int .i64 0, .int .i64 0, .int .i64 0, .slice none 0 0] 41)).alloc (.cells #[.int .i64 0, .int .i64 0, .int .i64 0, .int .i64 0, .slice none 0 0] 41)) = W0 at *
  obtain ⟨⟨n0, q0, f0⟩, hx0⟩ : ∃ x, x = rdUpto b p e 16 := ⟨_, rfl⟩
  have HX0 : Hid (rdUpto b p e 16 = (n0, q0, f0)) := hx0.symm
  have hn0 : n0 ≤ 16 := by have := rdUpto_most b p e 16; rw [HX0.out] at this; exact this
  clear hx0
  refine (uUpto_any W0 r ad c b p e 16 HG0.out.rd).mono ?_
  rintro e1 w1 ⟨rfl, hr1⟩
  rw [HX0.out] at hr1 ⊢
  have HS0 : Hid (GM w w1 r ad c b q0 f0 ⟨0, 0, 0, 0⟩ none 0 []) := HG0.out.step hr1
  have g0 : w1.frozen? ⟨w.heap.size + 1, 0, none⟩ = false := frozen_of_row w1 (w.heap.size + 1) 0 _ _ HS0.out.b3
  obtain ⟨z0, z1, z2, z3, z4⟩ := HS0.out.b3.cells
  simp only at z0 z1 z2 z3 z4
  have HG1 : Hid (GM w (w1.setCell ⟨w.heap.size + 1, 0, none⟩ (.int .i64 (n0 : Int))) r ad c b q0 f0 ⟨n0, 0, 0, 0⟩ none 0 []) := HS0.out.setH (q' := ⟨n0, 0, 0, 0⟩) 0 _ rfl
  clear hr1 HS0 HG0
  go_wp2_with fail
  generalize w1.setCell ⟨w.heap.size + 1, 0, none⟩ (.int .i64 (n0 : Int)) = W1 at *
  clear z0 z1 z2 z3 z4 g0
  obtain ⟨⟨n1, q1, f1⟩, hx1⟩ : ∃ x, x = rdUpto b q0 f0 16 := ⟨_, rfl⟩
  have HX1 : Hid (rdUpto b q0 f0 16 = (n1, q1, f1)) := hx1.symm
  have hn1 : n1 ≤ 16 := by have := rdUpto_most b q0 f0 16; rw [HX1.out] at this; exact this
  clear hx1
  refine (uUpto_any W1 r ad c b q0 f0 16 HG1.out.rd).mono ?_
  rintro e1 w1 ⟨rfl, hr1⟩
  rw [HX1.out] at hr1 ⊢
  have HS1 : Hid (GM w w1 r ad c b q1 f1 ⟨n0, 0, 0, 0⟩ none 0 []) := HG1.out.step hr1
  have g1 : w1.frozen? ⟨w.heap.size + 1, 1, none⟩ = false := frozen_of_row w1 (w.heap.size + 1) 1 _ _ HS1.out.b3
  obtain ⟨z0, z1, z2, z3, z4⟩ := HS1.out.b3.cells
  simp only at z0 z1 z2 z3 z4
  have HG2 : Hid (GM w (w1.setCell ⟨w.heap.size + 1, 1, none⟩ (.int .i64 (n1 : Int))) r ad c b q1 f1 ⟨n0, n1, 0, 0⟩ none 0 []) := HS1.out.setH (q' := ⟨n0, n1, 0, 0⟩) 1 _ rfl
  clear hr1 HS1 HG1
  go_wp2_with fail
  generalize w1.setCell ⟨w.heap.size + 1, 1, none⟩ (.int .i64 (n1 : Int)) = W2 at *
  clear z0 z1 z2 z3 z4 g1
  obtain ⟨⟨n2, q2, f2⟩, hx2⟩ : ∃ x, x = rdUpto b q1 f1 16 := ⟨_, rfl⟩
  have HX2 : Hid (rdUpto b q1 f1 16 = (n2, q2, f2)) := hx2.symm
  have hn2 : n2 ≤ 16 := by have := rdUpto_most b q1 f1 16; rw [HX2.out] at this; exact this
  clear hx2
  refine (uUpto_any W2 r ad c b q1 f1 16 HG2.out.rd).mono ?_
  rintro e1 w1 ⟨rfl, hr1⟩
  rw [HX2.out] at hr1 ⊢
  have HS2 : Hid (GM w w1 r ad c b q2 f2 ⟨n0, n1, 0, 0⟩ none 0 []) := HG2.out.step hr1
  have g2 : w1.frozen? ⟨w.heap.size + 1, 2, none⟩ = false := frozen_of_row w1 (w.heap.size + 1) 2 _ _ HS2.out.b3
  obtain ⟨z0, z1, z2, z3, z4⟩ := HS2.out.b3.cells
  simp only at z0 z1 z2 z3 z4
  have HG3 : Hid (GM w (w1.setCell ⟨w.heap.size + 1, 2, none⟩ (.int .i64 (n2 : Int))) r ad c b q2 f2 ⟨n0, n1, n2, 0⟩ none 0 []) := HS2.out.setH (q' := ⟨n0, n1, n2, 0⟩) 2 _ rfl
  clear hr1 HS2 HG2
  go_wp2_with fail
  generalize w1.setCell ⟨w.heap.size + 1, 2, none⟩ (.int .i64 (n2 : Int)) = W3 at *
  clear z0 z1 z2 z3 z4 g2
  obtain ⟨⟨n3, q3, f3⟩, hx3⟩ : ∃ x, x = rdUpto b q2 f2 16 := ⟨_, rfl⟩
  have HX3 : Hid (rdUpto b q2 f2 16 = (n3, q3, f3)) := hx3.symm
  have hn3 : n3 ≤ 16 := by have := rdUpto_most b q2 f2 16; rw [HX3.out] at this; exact this
  clear hx3
  refine (uUpto_any W3 r ad c b q2 f2 16 HG3.out.rd).mono ?_
  rintro e1 w1 ⟨rfl, hr1⟩
  rw [HX3.out] at hr1 ⊢
  have HS3 : Hid (GM w w1 r ad c b q3 f3 ⟨n0, n1, n2, 0⟩ none 0 []) := HG3.out.step hr1
  have g3 : w1.frozen? ⟨w.heap.size + 1, 3, none⟩ = false := frozen_of_row w1 (w.heap.size + 1) 3 _ _ HS3.out.b3
  obtain ⟨z0, z1, z2, z3, z4⟩ := HS3.out.b3.cells
  simp only at z0 z1 z2 z3 z4
  have HG4 : Hid (GM w (w1.setCell ⟨w.heap.size + 1, 3, none⟩ (.int .i64 (n3 : Int))) r ad c b q3 f3 ⟨n0, n1, n2, n3⟩ none 0 []) := HS3.out.setH (q' := ⟨n0, n1, n2, n3⟩) 3 _ rfl
  clear hr1 HS3 HG3
  go_wp2_with fail
  generalize w1.setCell ⟨w.heap.size + 1, 3, none⟩ (.int .i64 (n3 : Int)) = W4 at *
  clear z0 z1 z2 z3 z4 g3
  obtain ⟨⟨n4, q4, f4⟩, hx4⟩ : ∃ x, x = rdUpto b q3 f3 256 := ⟨_, rfl⟩
  have HX4 : Hid (rdUpto b q3 f3 256 = (n4, q4, f4)) := hx4.symm
  have hn4 : n4 ≤ 256 := by have := rdUpto_most b q3 f3 256; rw [HX4.out] at this; exact this
  clear hx4
  refine (uUpto_any W4 r ad c b q3 f3 256 HG4.out.rd).mono ?_
  rintro e1 w1 ⟨rfl, hr1⟩
  rw [HX4.out] at hr1 ⊢
  have HG5 : Hid (GM w w1 r ad c b q4 f4 ⟨n0, n1, n2, n3⟩ none 0 []) := HG4.out.step hr1
  clear hr1 HG4
  have HHe : Hid (H = (⟨n0, n1, n2, n3⟩, n4, q4, f4)) := by
    show H = _
    rw [HHd.out]
    simp only [getH, HX0.out, HX1.out, HX2.out, HX3.out, HX4.out]
  rw [HHe.out] at HP
  clear HHd HHe HX0 HX1 HX2 HX3 HX4
  simp only at HP
  go_wp2_with fail
  go_loopw [5] (fun x wr => ∃ k : Nat, k ≤ n4 ∧ x = .int .i64 (k : Int) ∧ ∃ av cv, Hid (GM w wr r ad c b (getL b q4 f4 k).2.1 (getL b q4 f4 k).2.2 ⟨n0, n1, n2, n3⟩ av cv (getL b q4 f4 k).1)) (fun x _ => n4 - (intOf x).toNat)
  case atStart => exact ⟨0, Nat.zero_le _, rfl, none, 0, HG5⟩
  case round =>
    clear HG5
    obtain ⟨k, hk, rfl, av, cv, HT⟩ := hrel
    have hln := getL_length b q4 f4 k
    have HStop : Hid ((getL b q4 f4 k).2.2 ≠ 0 → (getL b q4 f4 n4).2 = (getL b q4 f4 k).2) := fun h => getL_stop b q4 f4 k n4 hk h
    have HEnd : Hid (∀ M pk ek, (getL b q4 f4 k) = (M, pk, ek) → k = n4 → getL b q4 f4 n4 = (M, pk, ek)) := fun M pk ek h1 h2 => by rw [← h2]; exact h1
    have HL1 : Hid (getL b q4 f4 (k + 1) = ((getL b q4 f4 k).1 ++ [(getI b (getL b q4 f4 k).2.1 (getL b q4 f4 k).2.2).1], (getI b (getL b q4 f4 k).2.1 (getL b q4 f4 k).2.2).2.1, (getI b (getL b q4 f4 k).2.1 (getL b q4 f4 k).2.2).2.2)) := rfl
    obtain ⟨⟨M, pk, ek⟩, hG⟩ : ∃ x, x = getL b q4 f4 k := ⟨_, rfl⟩
    rw [← hG] at HT HStop HL1 hln
    have HEnd2 : Hid (k = n4 → getL b q4 f4 n4 = (M, pk, ek)) := fun h => HEnd.out M pk ek hG.symm h
    clear hG HEnd
    simp only at HT HStop HL1 hln
    have HLn : Hid (M.length = k) := hln
    clear hln
    have x2 := HT.out.rd.c2
    by_cases he : ek = 0
    · subst he
      by_cases hlt : k < n4
      · go_wp2_with fail
        obtain ⟨⟨z, p1, e1⟩, hz⟩ : ∃ x, x = rdByte b pk 0 := ⟨_, rfl⟩
        have HB1 : Hid (rdByte b pk 0 = (z, p1, e1)) := hz.symm
        have hz256 : z < 256 := by have := rdByte_lt HT.out.rd.2.1.1 pk 0; rw [HB1.out] at this; exact this
        have HI : Hid (getI b pk 0 = getT b z p1 (getE2 z e1)) := by show getI b pk 0 = _; unfold getI; rw [HB1.out]
        clear hz
        refine (uByte_any wr r ad c b pk 0 HT.out.rd).mono ?_
        rintro e' w1 ⟨rfl, hr1⟩
        rw [HB1.out] at hr1 ⊢
        have HT1 : Hid (GM w w1 r ad c b p1 e1 ⟨n0, n1, n2, n3⟩ av cv M) := HT.out.step hr1
        clear hr1 HT x2
        have x2 := HT1.out.rd.c2
        have f2 := HT1.out.rd.frozen 2
        obtain ⟨e2, he2⟩ : ∃ e2, e2 = getE2 z e1 := ⟨_, rfl⟩
        have HE2 : Hid (e2 = if e1 = 0 ∧ (128 ≤ z ∨ 37 ≤ z % 64) then 31 else e1) := by rw [he2]; exact getE2_doc z e1
        have HZ2 : Hid (128 ≤ z → e2 ≠ 0) := by
          intro h1
          rw [HE2.out]
          by_cases h0 : e1 = 0
          · rw [if_pos ⟨h0, .inl h1⟩]; decide
          · rw [if_neg (fun h => h0 h.1)]; exact h0
        rw [← he2] at HI
        clear he2
        go_upto_region 11 with fail
        go_cut [55] from 27 to 85 (fun x wx => ∃ t : Bool, x = .bool t ∧ Hid (t = decide (e1 = 0 ∧ (128 ≤ z ∨ 37 ≤ z % 64))) ∧ wx = w1)
        case first =>
          have hm : (z : Int).tmod 64 = ((z % 64 : Nat) : Int) := by rw [Int.tmod_eq_emod_of_nonneg (by omega)]; omega
          by_cases h0 : e1 = 0
          · subst h0
            by_cases h1 : 128 ≤ z
            · have h1' : (128 : Int) ≤ (z : Int) := by omega
              have HD : Hid (true = decide ((0 : Int) = 0 ∧ (128 ≤ z ∨ 37 ≤ z % 64))) := (decide_eq_true ⟨rfl, .inl h1⟩).symm
              go_wp2_with fail
              go_meet
              case rel => exact ⟨true, rfl, HD, rfl⟩
            · have h1' : ¬ (128 : Int) ≤ (z : Int) := by omega
              by_cases h2 : 37 ≤ z % 64
              · have h2' : (37 : Int) ≤ (z : Int) % 64 := by omega
                have HD : Hid (true = decide ((0 : Int) = 0 ∧ (128 ≤ z ∨ 37 ≤ z % 64))) := (decide_eq_true ⟨rfl, .inr h2⟩).symm
                go_wp2_with fail
                go_meet
                case rel => exact ⟨true, rfl, HD, rfl⟩
              · have h2' : ¬ (37 : Int) ≤ (z : Int) % 64 := by omega
                have HD : Hid (false = decide ((0 : Int) = 0 ∧ (128 ≤ z ∨ 37 ≤ z % 64))) := (decide_eq_false (by omega)).symm
                go_wp2_with fail
                go_meet
                case rel => exact ⟨false, rfl, HD, rfl⟩
          · have h0' : (e1 == 0) = false := by simpa using h0
            have HD : Hid (false = decide (e1 = 0 ∧ (128 ≤ z ∨ 37 ≤ z % 64))) := (decide_eq_false (fun h => h0 h.1)).symm
            clear h0
            go_wp2_with fail
            go_meet
            case rel => exact ⟨false, rfl, HD, rfl⟩
        obtain ⟨t, rfl, HD, rfl⟩ := hcut
        go_upto_if 55 with fail
        go_cut [] from 27 to 85 (fun wx => Hid (GM w wx r ad c b p1 e2 ⟨n0, n1, n2, n3⟩ av cv M))
        case first =>
          cases t with
          | true =>
            have HS : Hid (GM w (wc.setCell ⟨r, 2, none⟩ (.int .i64 31)) r ad c b p1 e2 ⟨n0, n1, n2, n3⟩ av cv M) := by
              have h31 : e2 = 31 := by rw [HE2.out, if_pos (of_decide_eq_true HD.out.symm)]
              rw [h31]
              exact HT1.out.step ⟨HT1.out.rd.setErr 31, grown_setCell wc ⟨r, 2, none⟩ _⟩
            go_wp2_with fail
            go_meet
            case rel => exact HS
          | false =>
            have HS : Hid (GM w wc r ad c b p1 e2 ⟨n0, n1, n2, n3⟩ av cv M) := by
              have h31 : e2 = e1 := by rw [HE2.out, if_neg (of_decide_eq_false HD.out.symm)]
              rw [h31]
              exact HT1.out
            go_wp2_with fail
            go_meet
            case rel => exact HS
        clear x2 f2 HD HT1 HE2 HB1
        have HT2 := hcut
        clear hcut
        generalize wc = W2 at *
        have hm : (z : Int).tmod 64 = (z : Int) % 64 := Int.tmod_eq_emod_of_nonneg (by omega)
        go_upto_region 14 with fail
        have HT3 : Hid (GM w (W2.alloc (.cells #[.int .i64 ((z : Int) % 64), .int .i64 0] 87)) r ad c b p1 e2 ⟨n0, n1, n2, n3⟩ av cv M) := HT2.out.kept ((Below.refl _ _).alloc (Nat.le_refl _) _)
        have HK3 : Hid (KBox (W2.alloc (.cells #[.int .i64 ((z : Int) % 64), .int .i64 0] 87)) W2.heap.size ((z : Int) % 64) 0) := heap_alloc_new _ _ (by simp)
        have HB7 : Hid (w.heap.size + 2 ≤ W2.heap.size) := by have := HT2.out.b3.lt; show _ ≤ _; omega
        have HOB : Hid (∀ g, (Value.slice av M.length cv).ownBlock = some g → g ≠ W2.heap.size) := fun g hg => by have := (HT2.out.own.lt g hg).2; omega
        have HTd : Hid (getI b pk 0 = if 64 ≤ z then (((z : Int) % 64, unfold (rdUpto b p1 e2 18446744073709551615).1), (rdUpto b p1 e2 18446744073709551615).2.1, if (rdUpto b p1 e2 18446744073709551615).2.2 = 0 ∧ unfold (rdUpto b p1 e2 18446744073709551615).1 = 0 then 11 else (rdUpto b p1 e2 18446744073709551615).2.2) else (((z : Int) % 64, 0), p1, e2)) := by rw [HI.out]; exact getT_doc b z p1 e2 HZ2.out
        clear HT2 HI HZ2 hm
        generalize (W2.alloc (.cells #[.int .i64 ((z : Int) % 64), .int .i64 0] 87)) = W3 at *
        generalize W2.heap.size = B7 at *
        go_upto_if 63 with fail
        go_cut [] from 27 to 85 (fun wx => ∃ A : Int, Hid (GM w wx r ad c b (getI b pk 0).2.1 (getI b pk 0).2.2 ⟨n0, n1, n2, n3⟩ av cv M) ∧ Hid (KBox wx B7 ((z : Int) % 64) A) ∧ Hid ((getI b pk 0).1 = ((z : Int) % 64, A)))
        case first =>
          by_cases h64 : 64 ≤ z
          · have h64' : (64 : Int) ≤ (z : Int) := by omega
            have HTd' := HTd.out
            rw [if_pos h64] at HTd'
            have HT' : Hid (getI b pk 0 = (((z : Int) % 64, unfold (rdUpto b p1 e2 18446744073709551615).1), (rdUpto b p1 e2 18446744073709551615).2.1, if (rdUpto b p1 e2 18446744073709551615).2.2 = 0 ∧ unfold (rdUpto b p1 e2 18446744073709551615).1 = 0 then 11 else (rdUpto b p1 e2 18446744073709551615).2.2)) := HTd'
            clear HTd' HTd h64
            go_wp2_with fail
            refine (uInt_any W3 r ad c b p1 e2 HT3.out.rd).mono ?_
            rintro e' w4 ⟨rfl, hr4⟩
            have HK4 : Hid (KBox w4 B7 ((z : Int) % 64) 0) := (hr4.2.block B7 HK3.out.lt (fun e => by have := HT3.out.r2; have := HB7.out; simp at e; omega)).trans HK3.out
            generalize rdUpto b p1 e2 18446744073709551615 = u at *
            obtain ⟨un, up, ue⟩ := u
            simp only at HT' hr4 ⊢
            generalize unfold un = A at *
            have HT4 : Hid (GM w w4 r ad c b up ue ⟨n0, n1, n2, n3⟩ av cv M) := HT3.out.step hr4
            have HT5 : Hid (GM w (w4.setCell ⟨B7, 1, none⟩ (.int .i64 A)) r ad c b up ue ⟨n0, n1, n2, n3⟩ av cv M) := HT4.out.setO B7 1 _ HB7.out HOB.out
            have HK5 : Hid (KBox (w4.setCell ⟨B7, 1, none⟩ (.int .i64 A)) B7 ((z : Int) % 64) A) := heap_setCell_same w4 B7 1 _ _ (.int .i64 A) HK4.out
            have k0 := HK4.out.cells.1
            have k1 := HK4.out.cells.2
            have kf : w4.frozen? ⟨B7, 1, none⟩ = false := frozen_of_row w4 B7 1 _ _ HK4.out
            have hrb : r < B7 := by have := HT3.out.r2; have := HB7.out; omega
            clear hr4 HT4 HT3 HK3 HK4
            go_upto_region 16 with fail
            generalize w4.setCell ⟨B7, 1, none⟩ (.int .i64 A) = w5 at *
            clear k0 k1 kf
            have k2 := HT5.out.rd.c2
            have f2 := HT5.out.rd.frozen 2
            have k7 := HK5.out.cells.2
            have HT6 : Hid (GM w (w5.setCell ⟨r, 2, none⟩ (.int .i64 11)) r ad c b up 11 ⟨n0, n1, n2, n3⟩ av cv M) := HT5.out.step ⟨HT5.out.rd.setErr 11, grown_setCell w5 ⟨r, 2, none⟩ _⟩
            have HK6 : Hid (KBox (w5.setCell ⟨r, 2, none⟩ (.int .i64 11)) B7 ((z : Int) % 64) A) := (heap_setCell_other w5 ⟨r, 2, none⟩ B7 _ (by simp; omega)).trans HK5.out
            by_cases hu : ue = 0
            · subst hu
              by_cases hA : A = 0
              · subst hA
                rw [if_pos ⟨rfl, rfl⟩] at HT'
                go_wp2_with fail
                go_meet
                case rel => exact ⟨0, by rw [HT'.out]; exact HT6, HK6, by rw [HT'.out]; exact rfl⟩
              · have hA' : (A == 0) = false := by simpa using hA
                rw [if_neg (fun h => hA h.2)] at HT'
                go_wp2_with fail
                go_meet
                case rel => exact ⟨A, by rw [HT'.out]; exact HT5, HK5, by rw [HT'.out]; exact rfl⟩
            · have hu' : (ue == 0) = false := by simpa using hu
              rw [if_neg (fun h => hu h.1)] at HT'
              go_wp2_with fail
              go_meet
              case rel => exact ⟨A, by rw [HT'.out]; exact HT5, HK5, by rw [HT'.out]; exact rfl⟩
          · have h64' : ¬ (64 : Int) ≤ (z : Int) := by omega
            have HT' : Hid (getI b pk 0 = (((z : Int) % 64, 0), p1, e2)) := by rw [HTd.out, if_neg h64]; exact rfl
            go_wp2_with fail
            go_meet
            case rel => exact ⟨0, by rw [HT'.out]; exact HT3, HK3, by rw [HT'.out]; exact rfl⟩
        obtain ⟨A, HT7, HK7, HI7⟩ := hcut
        clear HT3 HK3 HTd
        generalize wc = W7 at *
        generalize (getI b pk 0).2.1 = pn at *
        generalize (getI b pk 0).2.2 = en at *
        rw [HI7.out] at HL1
        generalize (z : Int) % 64 = op at *
        have hM : M.length ≤ 256 := by have := HLn.out; omega
        obtain ⟨_, _, _, _, y4⟩ := HT7.out.b3.cells
        obtain ⟨k0, k1⟩ := HK7.out.cells
        go_wp2_with (at_builtin; refine wpList_append_keys rfl _ _ rfl (w.heap.size + 2) (.slice av M.length cv) M rfl (HT7.out.own.alloc _) _ _ _ [(op, A)] rfl rfl (key_src W7 _ op A rfl) (by simp) (by simp; omega) (by have := HT7.out.b3.lt; simp; omega) ?_; intro v8 w8 ho8 hg8 _; obtain ⟨a8, c8, hv8, _, _, _⟩ := ho8.slice; subst hv8; have HT8 : Hid (GM w (w8.setCell ⟨w.heap.size + 1, 4, none⟩ (.slice a8 (M ++ [(op, A)]).length c8)) r ad c b pn en ⟨n0, n1, n2, n3⟩ a8 c8 (M ++ [(op, A)])) := (HT7.out.kept (show Below W7.heap.size W7 _ from (Below.refl _ _).alloc (Nat.le_refl _) _)).put ho8 hg8; have u4 : w8.cell? ⟨w.heap.size + 1, 4, none⟩ = some (.slice av M.length cv) := hg8.cell (Grew.cell ((Grew.refl W7).alloc _) y4) (fun e => by have := (HT7.out.own.lt (w.heap.size + 1) e.symm).1; omega); have g4 : w8.frozen? ⟨w.heap.size + 1, 4, none⟩ = false := (World.frozen?_of_block (hg8.block (w.heap.size + 1) (by have := HT7.out.b3.lt; simp; omega) (fun e => by have := (HT7.out.own.lt (w.heap.size + 1) e.symm).1; omega))).trans ((World.frozen?_of_block (heap_alloc_old _ _ HT7.out.b3.lt)).trans (frozen_of_row W7 (w.heap.size + 1) 4 _ _ HT7.out.b3)); clear ho8 hg8)
        have HT9 : Hid (GM w (w8.setCell ⟨w.heap.size + 1, 4, none⟩ (.slice a8 (M.length + 1) c8)) r ad c b pn en ⟨n0, n1, n2, n3⟩ a8 c8 (M ++ [(op, A)])) := by
          have := HT8.out
          rw [show (M ++ [(op, A)]).length = M.length + 1 by simp] at this
          exact this
        clear HT8
        go_roundw
        case rel => exact ⟨k + 1, by omega, by go_num, a8, c8, by rw [HL1.out]; exact HT9⟩
        case measure => simp [intOf]; omega
      · obtain rfl : k = n4 := by omega
        obtain ⟨x0, x1, x2', x3, x4⟩ := HT.out.b3.cells
        obtain ⟨y0, y1, y2, y3, y4⟩ := HT.out.b2.cells
        have g0 := frozen_of_row wr w.heap.size 0 _ _ HT.out.b2
        have g1 := frozen_of_row wr w.heap.size 1 _ _ HT.out.b2
        have g2 := frozen_of_row wr w.heap.size 2 _ _ HT.out.b2
        have g3 := frozen_of_row wr w.heap.size 3 _ _ HT.out.b2
        have g4 := frozen_of_row wr w.heap.size 4 _ _ HT.out.b2
        simp only at x0 x1 x2' x3 x4 y0 y1 y2 y3 y4
        have HPe : Hid (getP b p e = (⟨n0, n1, n2, n3⟩, M, pk, 0)) := by rw [HP.out, HEnd2.out rfl]; exact if_pos rfl
        obtain ⟨hrd, hown, hld⟩ := HT.out.fin (n0 : Int) (n1 : Int) (n2 : Int) (n3 : Int) av M.length cv
        have HF : Hid (GPostM w r ad c b p e (.returned (pv ⟨n0, n1, n2, n3⟩ av M.length cv)) (((((wr.setCell ⟨w.heap.size, 0, none⟩ (.int .i64 (n0 : Int))).setCell ⟨w.heap.size, 1, none⟩ (.int .i64 (n1 : Int))).setCell ⟨w.heap.size, 2, none⟩ (.int .i64 (n2 : Int))).setCell ⟨w.heap.size, 3, none⟩ (.int .i64 (n3 : Int))).setCell ⟨w.heap.size, 4, none⟩ (.slice av M.length cv))) := by
          refine ⟨av, cv, ?_, ?_, ?_⟩
          · rw [HPe.out]
          · rw [HPe.out]; exact hown.mono (by omega)
          · rw [HPe.out]; exact hrd
        have HLd : Hid ((loadVar 41 ⟨w.heap.size, 0, none⟩).run Tryd.prog (((((wr.setCell ⟨w.heap.size, 0, none⟩ (.int .i64 (n0 : Int))).setCell ⟨w.heap.size, 1, none⟩ (.int .i64 (n1 : Int))).setCell ⟨w.heap.size, 2, none⟩ (.int .i64 (n2 : Int))).setCell ⟨w.heap.size, 3, none⟩ (.int .i64 (n3 : Int))).setCell ⟨w.heap.size, 4, none⟩ (.slice av M.length cv)) = .ok (.agg #[.int .i64 (n0 : Int), .int .i64 (n1 : Int), .int .i64 (n2 : Int), .int .i64 (n3 : Int), .slice av M.length cv]) (((((wr.setCell ⟨w.heap.size, 0, none⟩ (.int .i64 (n0 : Int))).setCell ⟨w.heap.size, 1, none⟩ (.int .i64 (n1 : Int))).setCell ⟨w.heap.size, 2, none⟩ (.int .i64 (n2 : Int))).setCell ⟨w.heap.size, 3, none⟩ (.int .i64 (n3 : Int))).setCell ⟨w.heap.size, 4, none⟩ (.slice av M.length cv))) := hld
        clear hrd hown hld HP HPe
        go_wp2
        refine bodyPost_ret (v := .agg #[.int .i64 (n0 : Int), .int .i64 (n1 : Int), .int .i64 (n2 : Int), .int .i64 (n3 : Int), .slice av M.length cv]) ?_ rfl HF.out
        simp [results, Tryd.results46, asAddr, HLd.out]
    · have he' : (ek != 0) = true := by simpa using he
      have he2 : (ek == 0) = false := by simpa using he
      by_cases hlt : k < n4
      · clear HEnd2
        obtain ⟨x0, x1, x2', x3, x4⟩ := HT.out.b3.cells
        obtain ⟨y0, y1, y2, y3, y4⟩ := HT.out.b2.cells
        have g0 := frozen_of_row wr w.heap.size 0 _ _ HT.out.b2
        have g1 := frozen_of_row wr w.heap.size 1 _ _ HT.out.b2
        have g2 := frozen_of_row wr w.heap.size 2 _ _ HT.out.b2
        have g3 := frozen_of_row wr w.heap.size 3 _ _ HT.out.b2
        have g4 := frozen_of_row wr w.heap.size 4 _ _ HT.out.b2
        simp only at x0 x1 x2' x3 x4 y0 y1 y2 y3 y4
        have hs := HStop.out he
        have HPe : Hid (getP b p e = (⟨0, 0, 0, 0⟩, [], pk, ek)) := by rw [HP.out, if_neg (by rw [hs]; exact he), hs]; exact rfl
        obtain ⟨hrd, hown, hld⟩ := HT.out.fin 0 0 0 0 none 0 0
        have HF : Hid (GPostM w r ad c b p e (.returned (pv ⟨0, 0, 0, 0⟩ none 0 0)) (((((wr.setCell ⟨w.heap.size, 0, none⟩ (.int .i64 0)).setCell ⟨w.heap.size, 1, none⟩ (.int .i64 0)).setCell ⟨w.heap.size, 2, none⟩ (.int .i64 0)).setCell ⟨w.heap.size, 3, none⟩ (.int .i64 0)).setCell ⟨w.heap.size, 4, none⟩ (.slice none 0 0))) := by
          refine ⟨none, 0, ?_, ?_, ?_⟩
          · rw [HPe.out]; rfl
          · rw [HPe.out]; exact OwnK.nil _ _
          · rw [HPe.out]; exact hrd
        have HLd : Hid ((loadVar 41 ⟨w.heap.size, 0, none⟩).run Tryd.prog (((((wr.setCell ⟨w.heap.size, 0, none⟩ (.int .i64 0)).setCell ⟨w.heap.size, 1, none⟩ (.int .i64 0)).setCell ⟨w.heap.size, 2, none⟩ (.int .i64 0)).setCell ⟨w.heap.size, 3, none⟩ (.int .i64 0)).setCell ⟨w.heap.size, 4, none⟩ (.slice none 0 0)) = .ok (.agg #[.int .i64 0, .int .i64 0, .int .i64 0, .int .i64 0, .slice none 0 0]) (((((wr.setCell ⟨w.heap.size, 0, none⟩ (.int .i64 0)).setCell ⟨w.heap.size, 1, none⟩ (.int .i64 0)).setCell ⟨w.heap.size, 2, none⟩ (.int .i64 0)).setCell ⟨w.heap.size, 3, none⟩ (.int .i64 0)).setCell ⟨w.heap.size, 4, none⟩ (.slice none 0 0))) := hld
        clear hs hrd hown hld HP HPe he
        go_wp2
        refine bodyPost_ret (v := .agg #[.int .i64 0, .int .i64 0, .int .i64 0, .int .i64 0, .slice none 0 0]) ?_ rfl HF.out
        simp [results, Tryd.results46, asAddr, HLd.out]
      · obtain rfl : k = n4 := by omega
        obtain ⟨x0, x1, x2', x3, x4⟩ := HT.out.b3.cells
        obtain ⟨y0, y1, y2, y3, y4⟩ := HT.out.b2.cells
        have g0 := frozen_of_row wr w.heap.size 0 _ _ HT.out.b2
        have g1 := frozen_of_row wr w.heap.size 1 _ _ HT.out.b2
        have g2 := frozen_of_row wr w.heap.size 2 _ _ HT.out.b2
        have g3 := frozen_of_row wr w.heap.size 3 _ _ HT.out.b2
        have g4 := frozen_of_row wr w.heap.size 4 _ _ HT.out.b2
        simp only at x0 x1 x2' x3 x4 y0 y1 y2 y3 y4
        have hs := HStop.out he
        have HPe : Hid (getP b p e = (⟨0, 0, 0, 0⟩, [], pk, ek)) := by rw [HP.out, if_neg (by rw [hs]; exact he), hs]; exact rfl
        obtain ⟨hrd, hown, hld⟩ := HT.out.fin 0 0 0 0 none 0 0
        have HF : Hid (GPostM w r ad c b p e (.returned (pv ⟨0, 0, 0, 0⟩ none 0 0)) (((((wr.setCell ⟨w.heap.size, 0, none⟩ (.int .i64 0)).setCell ⟨w.heap.size, 1, none⟩ (.int .i64 0)).setCell ⟨w.heap.size, 2, none⟩ (.int .i64 0)).setCell ⟨w.heap.size, 3, none⟩ (.int .i64 0)).setCell ⟨w.heap.size, 4, none⟩ (.slice none 0 0))) := by
          refine ⟨none, 0, ?_, ?_, ?_⟩
          · rw [HPe.out]; rfl
          · rw [HPe.out]; exact OwnK.nil _ _
          · rw [HPe.out]; exact hrd
        have HLd : Hid ((loadVar 41 ⟨w.heap.size, 0, none⟩).run Tryd.prog (((((wr.setCell ⟨w.heap.size, 0, none⟩ (.int .i64 0)).setCell ⟨w.heap.size, 1, none⟩ (.int .i64 0)).setCell ⟨w.heap.size, 2, none⟩ (.int .i64 0)).setCell ⟨w.heap.size, 3, none⟩ (.int .i64 0)).setCell ⟨w.heap.size, 4, none⟩ (.slice none 0 0)) = .ok (.agg #[.int .i64 0, .int .i64 0, .int .i64 0, .int .i64 0, .slice none 0 0]) (((((wr.setCell ⟨w.heap.size, 0, none⟩ (.int .i64 0)).setCell ⟨w.heap.size, 1, none⟩ (.int .i64 0)).setCell ⟨w.heap.size, 2, none⟩ (.int .i64 0)).setCell ⟨w.heap.size, 3, none⟩ (.int .i64 0)).setCell ⟨w.heap.size, 4, none⟩ (.slice none 0 0))) := hld
        clear hs hrd hown hld HP HPe he
        go_wp2
        refine bodyPost_ret (v := .agg #[.int .i64 0, .int .i64 0, .int .i64 0, .int .i64 0, .slice none 0 0]) ?_ rfl HF.out
        simp [results, Tryd.results46, asAddr, HLd.out]
end Go.Proofs.YtkjmeknaedapjaaDoor
