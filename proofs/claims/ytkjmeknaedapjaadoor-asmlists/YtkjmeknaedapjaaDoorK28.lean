import Derived.Test.YtkjmeknaedapjaaDoorK27
import Derived.Test.YtkjmeknaedapjaaDoorK07
/-
  THE WALKS OF instruction, firstLine.
-/
namespace Go.Proofs.YtkjmeknaedapjaaDoor
open Go.RowKit Go.Sort Go.Shelf

theorem spell_S (op : Int) : spellS op = S (sp op) := (S_of _).symm
set_option maxHeartbeats 1000000 in
theorem instruction_any (w : World) (op A : Int) (hk : In64 A) (hn : NmAt w) (hv : DigVars w) : Calls Tryd.prog 73 #[.agg #[.int .i64 op, .int .i64 A]] w fun e w' => e = .returned (.string (S (instrL (op, A)))) ∧ Grew w w' := by
  have HG1 : Hid (Grew w (w.alloc (.cells #[.int .i64 op, .int .i64 A] 87))) := (Grew.refl w).alloc _
  have HB : Hid (∀ W, Grew (w.alloc (.cells #[.int .i64 op, .int .i64 A] 87)) W → W.cell? ⟨w.heap.size, 0, none⟩ = some (.int .i64 op) ∧ W.cell? ⟨w.heap.size, 1, none⟩ = some (.int .i64 A)) := fun W hW => by
    have hb := Box.new (w := w) (b := w.heap.size) (x := op) (y := A) rfl
    exact ⟨hW.cell hb.1, hW.cell hb.2⟩
  have HN : Hid (NmAt w) := hn
  have HV : Hid (DigVars w) := hv
  have h1 := sp_len op
  have h2 := dg_len hk
  have hs1 : ¬ ((S (sp op)).size + (ByteArray.mk #[32]).size > 9223372036854775807) := S_fit (sp op) [32] (by simp; omega)
  have e1 : S (sp op) ++ ByteArray.mk #[32] = S (sp op ++ [32]) := S_app (sp op) [32]
  have hs2 : ¬ ((S (sp op ++ [32])).size + (S (labelL A)).size > 9223372036854775807) := S_fit _ _ (by simp [labelL]; omega)
  have hs3 : ¬ ((S (sp op ++ [32])).size + (S (dg A)).size > 9223372036854775807) := S_fit _ _ (by simp; omega)
  clear hn hv h1 h2
  go_enter Tryd.func73, Tryd.ntmps73
  obtain ⟨x0, x1⟩ := HB.out _ (Grew.refl _)
  go_wp2_with fail
  generalize w.alloc (.cells #[.int .i64 op, .int .i64 A] 87) = w1 at *
  generalize w.heap.size = B at *
  refine (spell_any w1 op (HN.out.kept HG1.out.below)).mono ?_
  rintro e w2 ⟨rfl, rfl⟩
  rw [spell_S]
  go_wp2_with fail
  refine (isJump_any w2 op).mono ?_
  rintro e w3 ⟨rfl, rfl⟩
  cases hj : jumpB op with
  | true =>
    have HE : Hid (instrL (op, A) = sp op ++ 32 :: labelL A) := by show instrL (op, A) = _; unfold instrL; rw [if_pos hj]
    go_wp2_with fail
    refine (labelOf_any w3 A hk (HV.out.kept HG1.out.below)).mono ?_
    rintro e w4 ⟨rfl, hg4⟩
    have HG4 : Hid (Grew w w4) := HG1.out.trans hg4
    clear hg4
    go_wp2
    go_ret
    exact ⟨by rw [HE.out, S_app, List.append_assoc]; rfl, HG4.out⟩
  | false =>
    go_wp2_with fail
    refine (wants_any w3 op).mono ?_
    rintro e w4 ⟨rfl, rfl⟩
    cases hw : wantsB op with
    | true =>
      have HE : Hid (instrL (op, A) = sp op ++ 32 :: dg A) := by show instrL (op, A) = _; unfold instrL; rw [if_neg (by simp [hj]), if_pos hw]
      go_wp2_with fail
      refine (digits_any w4 A hk (HV.out.kept HG1.out.below)).mono ?_
      rintro e w5 ⟨rfl, hg5⟩
      have HG5 : Hid (Grew w w5) := HG1.out.trans hg5
      clear hg5
      go_wp2
      go_ret
      exact ⟨by rw [HE.out, S_app, List.append_assoc]; rfl, HG5.out⟩
    | false =>
      have HE : Hid (instrL (op, A) = sp op) := by show instrL (op, A) = _; unfold instrL; rw [if_neg (by simp [hj]), if_neg (by simp [hw])]
      go_wp2
      go_ret
      exact ⟨by rw [HE.out]; rfl, HG1.out⟩
/-- the four words -/
def nwL : Nat → List UInt8
  | 0 => [97, 114, 103, 115]
  | 1 => [114, 101, 97, 100, 115]
  | 2 => [119, 114, 105, 116, 101, 115]
  | _ => [108, 111, 99, 97, 108, 115]
theorem nwL_len (i : Nat) : (nwL i).length ≤ 6 := by unfold nwL; split <;> simp
def numP (p : Nums) : Nat → Int
  | 0 => p.args
  | 1 => p.reads
  | 2 => p.writes
  | _ => p.locals
def NwAt (W : World) : Prop := ∀ i, i < 4 → W.cell? ⟨1, i, none⟩ = some (.string (S (nwL i)))
theorem NwAt.kept {W W' : World} (h : NwAt W) (hb : Below W.heap.size W W') : NwAt W' := fun i hi => by
  rw [hb.cell (p := ⟨1, i, none⟩) (cell_lt (h i hi))]; exact h i hi
/-- the first line, up to the i-th number -/
def flL (nm : List UInt8) (p : Nums) : Nat → List UInt8
  | 0 => [112, 114, 111, 99, 32] ++ nm
  | i + 1 => flL nm p i ++ (32 :: nwL i ++ [32] ++ dg (numP p i))
theorem numP_in {p : Nums} (h : NIn p) (i : Nat) : In64 (numP p i) := by
  unfold numP
  split
  · exact h.1
  · exact h.2.1
  · exact h.2.2.1
  · exact h.2.2.2
theorem flL_len {nm : List UInt8} {p : Nums} (h : NIn p) (hn : nm.length ≤ 31) : ∀ i, (flL nm p i).length ≤ 36 + 28 * i
  | 0 => by simp [flL]; omega
  | i + 1 => by
    have h1 := flL_len h hn i
    have h2 := nwL_len i
    have h3 := dg_len (numP_in h i)
    simp [flL]; omega
set_option maxRecDepth 100000 in
theorem idx4 (x0 x1 x2 x3 : Int) (i : Nat) (hi : i < 4) : ∀ w, (Go.Instr.index 132 (.agg #[.int .i64 x0, .int .i64 x1, .int .i64 x2, .int .i64 x3]) (.int .i64 (i : Int))).run Tryd.prog w = .ok (.int .i64 (numP ⟨x0, x1, x2, x3⟩ i)) w := by
  obtain rfl | rfl | rfl | rfl : i = 0 ∨ i = 1 ∨ i = 2 ∨ i = 3 := by omega
  all_goals exact fun _ => by kernel_rfl

set_option maxRecDepth 100000 in
set_option maxHeartbeats 2000000 in
theorem firstLine_any (w : World) (nm : List UInt8) (p : Nums) (ao : Option Addr) (n cap : Nat) (hp : NIn p) (hl : nm.length ≤ 31) (hw : NwAt w) (hv : DigVars w) :
    Calls Tryd.prog 71 #[.agg #[.string (S nm), .int .i64 p.args, .int .i64 p.reads, .int .i64 p.writes, .int .i64 p.locals, .slice ao n cap]] w fun e w' => e = .returned (.string (S (flL nm p 4))) ∧ Grew w w' := by
  have HP : Hid (NIn p) := hp
  have HW : Hid (NwAt w) := hw
  have HV : Hid (DigVars w) := hv
  clear hw hv hp
  obtain ⟨y1, y2, y3, y4⟩ := p
  have mx := mixed
  have hs0 : ¬ ((ByteArray.mk #[112, 114, 111, 99, 32]).size + (S nm).size > 9223372036854775807) := S_fit [112, 114, 111, 99, 32] nm (by simp; omega)
  have e0 : ByteArray.mk #[112, 114, 111, 99, 32] ++ S nm = S (flL nm ⟨y1, y2, y3, y4⟩ 0) := S_app _ _
  go_enter Tryd.func71, Tryd.ntmps71
  have HG1 : Hid (Grew w (w.alloc (.cells #[.string (S nm), .int .i64 y1, .int .i64 y2, .int .i64 y3, .int .i64 y4, .slice ao n cap] 43))) := (Grew.refl w).alloc _
  go_wp2_with fail
  generalize w.alloc (.cells #[.string (S nm), .int .i64 y1, .int .i64 y2, .int .i64 y3, .int .i64 y4, .slice ao n cap] 43) = w1 at *
  go_loopw [3, 22] (fun x y wr => ∃ i : Nat, i ≤ 4 ∧ x = .string (S (flL nm ⟨y1, y2, y3, y4⟩ i)) ∧ y = .int .i64 (i : Int) ∧ Hid (Grew w wr)) (fun _ y _ => 4 - (intOf y).toNat)
  case atStart => exact ⟨0, by omega, rfl, rfl, HG1⟩
  case round =>
    clear HG1
    obtain ⟨i, hi, rfl, rfl, HG⟩ := hrel
    by_cases h4 : i < 4
    · have h4' : (i : Int) < 4 := by omega
      have hix := idx4 y1 y2 y3 y4 i h4
      have HIn := numP_in HP.out i
      have hfl := flL_len HP.out hl i
      have hnw := nwL_len i
      have hdg := dg_len HIn
      have gc : ∀ m os, (grow (wr.drewN m) os).cell? ⟨1, i, none⟩ = some (.string (S (nwL i))) := fun m os => Grew.cell (HG.out.trans ⟨m, os, rfl⟩) (HW.out i h4)
      have HC : Hid (∀ m os, Calls Tryd.prog 89 #[.int .i64 (numP ⟨y1, y2, y3, y4⟩ i)] (grow (wr.drewN m) os) fun e w' => e = .returned (.string (S (dg (numP ⟨y1, y2, y3, y4⟩ i)))) ∧ ∃ q os', w' = grow ((grow (wr.drewN m) os).drewN q) os') := fun m os =>
        digits_any _ _ HIn (HV.out.kept (HG.out.trans ⟨m, os, rfl⟩).below)
      have HS : Hid (flL nm ⟨y1, y2, y3, y4⟩ (i + 1) = flL nm ⟨y1, y2, y3, y4⟩ i ++ (32 :: nwL i ++ [32] ++ dg (numP ⟨y1, y2, y3, y4⟩ i))) := rfl
      generalize numP ⟨y1, y2, y3, y4⟩ i = x at *
      generalize flL nm ⟨y1, y2, y3, y4⟩ i = T at *
      generalize nwL i = u at *
      generalize dg x = d at *
      obtain ⟨u1, h1⟩ : ∃ u1, u1 = 32 :: u := ⟨_, rfl⟩
      obtain ⟨u2, h2⟩ : ∃ u2, u2 = u1 ++ [32] := ⟨_, rfl⟩
      obtain ⟨u3, h3⟩ : ∃ u3, u3 = u2 ++ d := ⟨_, rfl⟩
      obtain ⟨u4, h4e⟩ : ∃ u4, u4 = T ++ u3 := ⟨_, rfl⟩
      have l1 : u1.length ≤ 7 := by rw [h1]; simp; omega
      have l2 : u2.length ≤ 8 := by rw [h2]; simp; omega
      have l3 : u3.length ≤ 28 := by rw [h3]; simp; omega
      have s1 : ¬ ((ByteArray.mk #[32]).size + (S u).size > 9223372036854775807) := S_fit [32] u (by simp; omega)
      have e1 : ByteArray.mk #[32] ++ S u = S u1 := by rw [h1]; exact S_app [32] u
      have s2 : ¬ ((S u1).size + (ByteArray.mk #[32]).size > 9223372036854775807) := S_fit u1 [32] (by simp; omega)
      have e2 : S u1 ++ ByteArray.mk #[32] = S u2 := by rw [h2]; exact S_app u1 [32]
      have s3 : ¬ ((S u2).size + (S d).size > 9223372036854775807) := S_fit u2 d (by omega)
      have e3 : S u2 ++ S d = S u3 := by rw [h3]; exact S_app u2 d
      have s4 : ¬ ((S T).size + (S u3).size > 9223372036854775807) := S_fit T u3 (by omega)
      have e4 : S T ++ S u3 = S u4 := by rw [h4e]; exact S_app T u3
      have HU : Hid (flL nm ⟨y1, y2, y3, y4⟩ (i + 1) = u4) := by rw [HS.out, h4e, h3, h2, h1]; rfl
      clear h1 h2 h3 h4e l1 l2 l3 HS
      clear hfl hnw hdg HIn
      go_wp2_with fail
      refine wp_region_quiet_grown mx (by kernel_rfl) ?_
      repeat (go_big_quiet_step ((go_at_call 89; exact Calls.grown_of (HC.out _ _))))
      refine wpQuiet_nil ?_
      intro _ hw'
      obtain ⟨⟨nq, osq⟩, hw''⟩ := hw'
      subst hw''
      have HG2 : Hid (Grew w (grow (wr.drewN nq) osq)) := HG.out.trans ⟨nq, osq, rfl⟩
      generalize grow (wr.drewN nq) osq = W2 at *
      go_wp2_with fail
      go_roundw
      case rel => exact ⟨i + 1, by omega, by rw [HU.out], by go_num, HG2⟩
      case measure => simp [intOf]; omega
    · obtain rfl : i = 4 := by omega
      rw [show ((4 : Nat) : Int) = 4 from rfl]
      go_wp2
      go_ret
      exact ⟨rfl, HG.out⟩
end Go.Proofs.YtkjmeknaedapjaaDoor
