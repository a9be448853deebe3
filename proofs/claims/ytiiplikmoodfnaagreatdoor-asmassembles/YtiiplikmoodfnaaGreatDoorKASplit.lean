import Derived.Test.YtiiplikmoodfnaaGreatDoorKBytes
import Derived.Deep.LoopGhost
import Derived.Laws.DeepStrings4
import Derived.Test.YtiiplikmoodfnaaGreatDoorKAMath
/-
  THE WALK OF split.
-/
namespace Go.Proofs.YtiiplikmoodfnaaGreatDoor
open Go.RowKit Go.Sort

theorem ends_any (w : World) (c : Nat) (hc : c ≤ 2147483647) : Calls Tryz.prog 25 #[.int .i32 (c : Int)] w fun e w' => e = .returned (.bool (endB c)) ∧ w' = w := by
  have HE : Hid (endB c = (decide (c = 32) || decide (c = 9) || decide (c = 13) || decide (c = 10) || decide (c = 35))) := rfl
  by_cases h1 : c = 32
  · subst h1
    go_enter Tryz.func25, Tryz.ntmps25
    go_wp2
    go_ret
    exact ⟨rfl, rfl⟩
  by_cases h2 : c = 9
  · subst h2
    go_enter Tryz.func25, Tryz.ntmps25
    go_wp2
    go_ret
    exact ⟨rfl, rfl⟩
  by_cases h3 : c = 13
  · subst h3
    go_enter Tryz.func25, Tryz.ntmps25
    go_wp2
    go_ret
    exact ⟨rfl, rfl⟩
  by_cases h4 : c = 10
  · subst h4
    go_enter Tryz.func25, Tryz.ntmps25
    go_wp2
    go_ret
    exact ⟨rfl, rfl⟩
  by_cases h5 : c = 35
  · subst h5
    go_enter Tryz.func25, Tryz.ntmps25
    go_wp2
    go_ret
    exact ⟨rfl, rfl⟩
  have HF : Hid (endB c = false) := by show _ = _; rw [HE.out]; simp [h1, h2, h3, h4, h5]
  have q1 : ((c : Int) == 32) = false := by simp; omega
  have q2 : ((c : Int) == 9) = false := by simp; omega
  have q3 : ((c : Int) == 13) = false := by simp; omega
  have q4 : ((c : Int) == 10) = false := by simp; omega
  have q5 : ((c : Int) == 35) = false := by simp; omega
  have p1 : ¬ (c : Int) = 32 := by omega
  have p2 : ¬ (c : Int) = 9 := by omega
  have p3 : ¬ (c : Int) = 13 := by omega
  have p4 : ¬ (c : Int) = 10 := by omega
  have p5 : ¬ (c : Int) = 35 := by omega
  clear h1 h2 h3 h4 h5 HE
  go_enter Tryz.func25, Tryz.ntmps25
  go_wp2
  go_ret
  exact ⟨by rw [HF.out]; rfl, rfl⟩
def wfV : Option Nat → Value
  | none => .int .i64 (-1)
  | some f => .int .i64 (f : Int)
/-- what split's round knows -/
def SRel (w : World) (l : List UInt8) (sb : ByteArray) (v3 v4 v5 v6 v7 : Value) (wr : World) : Prop :=
  ∃ (k N : Nat) (a1 : Option Addr) (c1 : Nat) (a2 : Option Addr) (c2 : Nat), k ≤ l.length + 1 ∧ v3 = .slice a1 (scRun l k).lines.length c1 ∧ v4 = .slice a2 (scRun l k).words.length c2 ∧ v5 = .int .i64 ((scRun l k).frm : Int) ∧ v6 = wfV (scRun l k).wf ∧ v7 = .bool (scRun l k).com ∧ Hid (SpI w wr sb k N (scRun l k) (.slice a1 (scRun l k).lines.length c1) (.slice a2 (scRun l k).words.length c2))
theorem SRel.mk {w wr : World} {l : List UInt8} {sb : ByteArray} {k N : Nat} {y : Sc} {vl vw v5 v6 v7 : Value} (hy : scRun l k = y) (hk : k ≤ l.length + 1) (h : SpI w wr sb k N y vl vw) (h5 : v5 = .int .i64 (y.frm : Int)) (h6 : v6 = wfV y.wf) (h7 : v7 = .bool y.com) : SRel w l sb vl vw v5 v6 v7 wr := by
  subst hy
  obtain ⟨vals, l1, _⟩ := h.ln
  obtain ⟨a1, c1, e1, _⟩ := own_slice l1
  obtain ⟨a2, c2, e2, _⟩ := own_slice h.wd
  subst e1 e2
  exact ⟨k, N, a1, c1, a2, c2, hk, rfl, rfl, h5, h6, h7, h⟩
def SplitPost (w : World) (l : List UInt8) (e : Ending) (w' : World) : Prop :=
  ∃ a c N vals, e = .returned (.slice a (splitN l).length c) ∧ w'.ownsRow (w.heap.size + 1) 61 1 (.slice a (splitN l).length c) (splitN l).length vals ∧ LnsAt w' (w.heap.size + 1) N vals (splitN l) ∧ Go.RowKit.Below w.heap.size w w'
theorem info_word : (Tryz.prog.info? 83).map (fun i => (i.zero, i.size, i.bytes)) = some (some (.agg #[.string ⟨#[]⟩, .int .i64 0]), 2, 24) := by kernel_rfl
theorem info_words : (Tryz.prog.info? 61).map (fun i => (i.zero, i.size, i.bytes)) = some (some (.slice none 0 0), 1, 24) := by kernel_rfl
theorem src_at (W : World) (ys : List Value) (e : Nat) : ∀ j u, ys[j]? = some u → (W.alloc (.cells ys.toArray e)).cell? ((⟨W.heap.size, 0, none⟩ : Addr).add j) = some u := fun j u hu => by
  rw [addr_add, World.cell?, heap_alloc_new _ _ rfl, Nat.zero_add]; simpa using hu
theorem bel_al (W : World) (o : Obj) : Go.RowKit.Below W.heap.size W (W.alloc o) := (Below.refl _ _).alloc (Nat.le_refl _) _
theorem slice_S (l : List UInt8) (f k : Nat) (h1 : f ≤ k) (h2 : k ≤ l.length) (W : World) : Sem.run Tryz.prog (Instr.slice 9 (.string (S l)) (some (.int .i64 (f : Int))) (some (.int .i64 (k : Int))) none) W = .ok (.string (S (pieceL l f k))) W := by
  rw [run_slice_string_if W 9 (S l) .i64 .i64 _ _ Tryz.underlying9, if_pos (by rw [S_size]; omega), if_pos (by omega), ← S_piece]
  rfl
/-- how many lines and words there can be -/
theorem sc_few (l : List UInt8) : ∀ k, (scRun l k).lines.length ≤ k ∧ (scRun l k).words.length ≤ k
  | 0 => ⟨Nat.le_refl _, Nat.le_refl _⟩
  | k + 1 => by
    obtain ⟨h1, h2⟩ := sc_few l k
    show (scStep l (scRun l k) k (byteAt l k)).lines.length ≤ k + 1 ∧ (scStep l (scRun l k) k (byteAt l k)).words.length ≤ k + 1
    generalize scRun l k = x at *
    have e : (scEnd l x k (byteAt l k)).lines.length ≤ k ∧ (scEnd l x k (byteAt l k)).words.length ≤ k + 1 := by
      unfold scEnd
      cases x.wf with
      | none => exact ⟨show x.lines.length ≤ k from h1, show x.words.length ≤ k + 1 from by omega⟩
      | some f =>
        simp only
        split
        · exact ⟨h1, by simp; omega⟩
        · exact ⟨h1, by omega⟩
    unfold scStep
    split
    · exact ⟨by show ((scEnd l x k (byteAt l k)).lines ++ [_]).length ≤ k + 1; rw [List.length_append]; exact Nat.succ_le_succ e.1, Nat.zero_le _⟩
    · split
      · exact ⟨by show (scEnd l x k (byteAt l k)).lines.length ≤ _; omega, e.2⟩
      · split
        · exact ⟨by show x.lines.length ≤ _; omega, by show x.words.length ≤ _; omega⟩
        · exact ⟨by omega, e.2⟩
theorem iterPos_at {w : World} {k : Nat} {s : ByteArray} {p : Nat} (h : w.heap[k]? = some (.stringIter s p)) : w.iterPos k = p := by simp [World.iterPos, h]
set_option maxRecDepth 100000 in
set_option maxHeartbeats 4000000 in
theorem split_any (w : World) (l : List UInt8) (hl : l.length ≤ 65536) : Calls Tryz.prog 12 #[.string (S l)] w fun e w' => SplitPost w l e w' := by
  have hs : ¬ ((S l).size + (ByteArray.mk #[10]).size > 9223372036854775807) := S_fit l [10] (by simp; omega)
  have hsb : S l ++ ByteArray.mk #[10] = S (l ++ [10]) := S_app l [10]
  have HSt : Hid (SpI w (w.iter (S (l ++ [10])) 0) (S (l ++ [10])) 0 (w.heap.size + 1) (scRun l 0) (.slice none 0 0) (.slice none 0 0)) := SpI.start w _
  have HSz : Hid ((S (l ++ [10])).size = l.length + 1) := by show _ = _; rw [S_size]; simp
  have HDt : Hid ((S (l ++ [10])).data.toList = l ++ [10]) := by show _ = _; simp [S]
  obtain ⟨i0, ii, iz0, iz1, iz2⟩ := info_parts info_word
  obtain ⟨j0, ji, jz0, jz1, jz2⟩ := info_parts info_words
  go_enter Tryz.func12, Tryz.ntmps12
  go_wp2_with fail
  clear hs hsb
  go_loopw [3, 4, 5, 6, 7] (fun v3 v4 v5 v6 v7 wr => SRel w l (S (l ++ [10])) v3 v4 v5 v6 v7 wr) (fun _ _ _ _ _ wr => l.length + 1 - wr.iterPos w.heap.size)
  case atStart => exact SRel.mk rfl (Nat.zero_le _) HSt.out rfl rfl rfl
  case round =>
    clear HSt
    obtain ⟨k, N, a1, c1, a2, c2, hk, rfl, rfl, rfl, rfl, rfl, HS⟩ := hrel
    have hp0 := iterPos_at HS.out.it
    obtain ⟨hf1, hf2⟩ := sc_few l k
    have HOK : Hid (ScOK l k (scRun l k)) := scRun_ok l k hk
    by_cases hlt : k < l.length + 1
    · obtain ⟨c, wd, hdc, hc, hst, hwd⟩ : ∃ c wd, Utf8.decode (S (l ++ [10])) k = (c, wd) ∧ c ≤ 2147483647 ∧ scRun l (k + wd) = scStep l (scRun l k) k c ∧ 1 ≤ wd ∧ k + wd ≤ l.length + 1 := by
        have hd := decode_le (S (l ++ [10])) k
        rcases sign_at l (S (l ++ [10])) HDt.out k (by rw [HSz.out]; exact hlt) with ⟨_, h2⟩ | ⟨_, _, h1, h3, h4⟩
        · exact ⟨_, _, h2, by rw [h2] at hd; exact hd, rfl, Nat.le_refl _, by omega⟩
        · exact ⟨_, _, rfl, hd, h4, h1, by rw [HSz.out] at h3; exact h3⟩
      have hnx : ∀ ty, (Instr.next (.pointer (some ⟨w.heap.size, 0, none⟩)) true ty).run Tryz.prog wr = .ok (.tuple #[.bool true, .int .i64 (k : Int), .int .i32 (c : Int)]) (wr.iterAt w.heap.size (S (l ++ [10])) (k + wd)) := fun ty => by
        have := Lib.run_next_any_at (P := Tryz.prog) wr w.heap.size (S (l ++ [10])) k ty HS.out.it (by rw [HSz.out]; exact hlt)
        rw [hdc] at this; exact this
      have HS1 : Hid (SpI w (wr.iterAt w.heap.size (S (l ++ [10])) (k + wd)) (S (l ++ [10])) (k + wd) N (scRun l k) (.slice a1 (scRun l k).lines.length c1) (.slice a2 (scRun l k).words.length c2)) := HS.out.move (k + wd)
      generalize wr.iterAt w.heap.size (S (l ++ [10])) (k + wd) = W1 at *
      have HSt : Hid (scRun l (k + wd) = scStep l (scRun l k) k c) := hst
      clear hst hdc HS HDt HSz
      generalize scRun l k = x at *
      obtain ⟨lines, words, frm, wf, com⟩ := x
      simp only at hf1 hf2 ⊢
      cases wf with
      | none =>
        simp only [wfV]
        by_cases h10 : c = 10
        · subst h10
          have HY : Hid (scRun l (k + wd) = ⟨lines ++ [words], [], k + 1, none, false⟩) := by show _ = _; rw [HSt.out]; rfl
          obtain ⟨vals, hv1, hv2, hv3⟩ := HS1.out.ln
          have HVl : Hid (W1.ownsRow (w.heap.size + 1) 61 1 (.slice a1 lines.length c1) lines.length vals ∧ LnsAt W1 (w.heap.size + 1) N vals lines ∧ ∀ v ∈ vals, v.oneCell' = true) := ⟨hv1, hv2, hv3⟩
          clear hv1 hv2 hv3 HSt HOK
          go_wp2_with (at_builtin; refine wpList_append_gen rfl _ _ 59 61 j0 (.slice none 0 0) 1 24 Tryz.underlying59 ji jz0 jz1 jz2 rfl (by decide) rfl (w.heap.size + 1) (.slice a1 lines.length c1) lines.length vals rfl (World.ownsRow.alloc HVl.out.1 _) ⟨W1.heap.size, 0, none⟩ 1 1 [(.slice a2 words.length c2)] rfl rfl (src_at W1 _ _) (by intro u hu; simp at hu; rw [hu]; rfl) (by unfold maxLen; omega) (by omega) (Nat.le_trans (Nat.le_trans HS1.out.lo HS1.out.hi) (bel_al _ _).size) ?_; intro v5 w5 h1 h2; have HS5 : Hid (SpI w w5 (S (l ++ [10])) (k + wd) w5.heap.size ⟨lines ++ [words], [], k + 1, none, false⟩ v5 (.slice none 0 0)) := (HS1.out.kept (bel_al W1 _)).line (vals := vals) (World.ownsRow.alloc HVl.out.1 _) (HVl.out.2.1.same (fun g v ws hl hg => heap_alloc_old _ _ (World.ownsRow.lt hl.1 g hg).2)) HVl.out.2.2 rfl h1 h2 _ rfl rfl; obtain ⟨a5, c5, hv5, _⟩ := own_slice h1; subst hv5; clear h1 h2)
          go_roundw
          case rel => exact SRel.mk (HY.out) hwd.2 HS5.out (by go_num) rfl rfl
          case measure => rw [iterPos_at HS5.out.it, hp0]; omega
        · by_cases h35 : c = 35
          · subst h35
            have HY : Hid (scRun l (k + wd) = ⟨lines, words, frm, none, true⟩) := by show _ = _; rw [HSt.out]; rfl
            have HS2 : Hid (SpI w W1 (S (l ++ [10])) (k + wd) N ⟨lines, words, frm, none, true⟩ (.slice a1 lines.length c1) (.slice a2 words.length c2)) := HS1.out.turn _ rfl rfl
            clear HSt HOK
            go_wp2_with fail
            go_roundw
            case rel => exact SRel.mk (HY.out) hwd.2 HS2.out rfl rfl rfl
            case measure => rw [iterPos_at HS2.out.it, hp0]; omega
          · have q10 : ((c : Int) == 10) = false := by simp; omega
            have q35 : ((c : Int) == 35) = false := by simp; omega
            have p10 : ¬ (c : Int) = 10 := by omega
            have p35 : ¬ (c : Int) = 35 := by omega
            obtain ⟨b, hb⟩ : ∃ b, b = endB c := ⟨_, rfl⟩
            have HEn : Hid (∀ W, Calls Tryz.prog 25 #[.int .i32 (c : Int)] W fun e w' => e = .returned (.bool b) ∧ w' = W) := fun W => by rw [hb]; exact ends_any W c hc
            cases com with
            | true =>
              have HY : Hid (scRun l (k + wd) = ⟨lines, words, frm, none, true⟩) := by show _ = _; rw [HSt.out]; simp [scStep, scEnd, h10, h35]
              clear HSt HOK hb
              go_wp2_with fail
              go_roundw
              case rel => exact SRel.mk (HY.out) hwd.2 HS1.out rfl rfl rfl
              case measure => rw [iterPos_at HS1.out.it, hp0]; omega
            | false =>
              cases b with
              | true =>
                have HY : Hid (scRun l (k + wd) = ⟨lines, words, frm, none, false⟩) := by show _ = _; rw [HSt.out]; simp [scStep, scEnd, h10, h35, ← hb]
                clear HSt HOK hb
                go_wp2_with (go_at_call 25; refine (HEn.out _).mono ?_; rintro e wE ⟨rfl, hwE⟩; have hwE' := hwE.symm; subst hwE'; clear hwE)
                go_roundw
                case rel => exact SRel.mk (HY.out) hwd.2 HS1.out rfl rfl rfl
                case measure => rw [iterPos_at HS1.out.it, hp0]; omega
              | false =>
                have HY : Hid (scRun l (k + wd) = ⟨lines, words, frm, some k, false⟩) := by show _ = _; rw [HSt.out]; simp [scStep, h10, h35, ← hb]
                have HS2 : Hid (SpI w W1 (S (l ++ [10])) (k + wd) N ⟨lines, words, frm, some k, false⟩ (.slice a1 lines.length c1) (.slice a2 words.length c2)) := HS1.out.turn _ rfl rfl
                clear HSt HOK hb
                go_wp2_with (go_at_call 25; refine (HEn.out _).mono ?_; rintro e wE ⟨rfl, hwE⟩; have hwE' := hwE.symm; subst hwE'; clear hwE)
                go_roundw
                case rel => exact SRel.mk (HY.out) hwd.2 HS2.out rfl rfl rfl
                case measure => rw [iterPos_at HS2.out.it, hp0]; omega
      | some f =>
        simp only [wfV]
        obtain ⟨g1, g2, g3⟩ := HOK.out.2 f rfl
        simp only at g1
        have hne : ¬ (f : Int) = -1 := by omega
        have hqe : ((f : Int) == -1) = false := by simp <;> omega
        have HCol : Hid (([.string (S (pieceL l f k)), .int .i64 ((f : Int) - (frm : Int) + 1)] : List Value) = wcs [(pieceL l f k, f - frm + 1)]) := by
          show _ = _
          simp only [wcs]
          rw [show ((f - frm + 1 : Nat) : Int) = (f : Int) - (frm : Int) + 1 by omega]
        have hsl := fun W => slice_S l f k (by omega) (by omega) W
        obtain ⟨b, hb⟩ : ∃ b, b = endB c := ⟨_, rfl⟩
        have HEn : Hid (∀ W, Calls Tryz.prog 25 #[.int .i32 (c : Int)] W fun e w' => e = .returned (.bool b) ∧ w' = W) := fun W => by rw [hb]; exact ends_any W c hc
        cases b with
        | false =>
          have h10 : ¬ c = 10 := fun e => by subst e; cases hb
          have h35 : ¬ c = 35 := fun e => by subst e; cases hb
          have q10 : ((c : Int) == 10) = false := by simp; omega
          have q35 : ((c : Int) == 35) = false := by simp; omega
          have p10 : ¬ (c : Int) = 10 := by omega
          have p35 : ¬ (c : Int) = 35 := by omega
          have HY : Hid (scRun l (k + wd) = ⟨lines, words, frm, some f, com⟩) := by show _ = _; rw [HSt.out]; simp [scStep, scEnd, h10, h35, ← hb]
          clear HSt HOK hb HCol hsl
          cases com with
          | true =>
            go_wp2_with (go_at_call 25; refine (HEn.out _).mono ?_; rintro e wE ⟨rfl, hwE⟩; have hwE' := hwE.symm; subst hwE'; clear hwE)
            go_roundw
            case rel => exact SRel.mk (HY.out) hwd.2 HS1.out rfl rfl rfl
            case measure => rw [iterPos_at HS1.out.it, hp0]; omega
          | false =>
            go_wp2_with (go_at_call 25; refine (HEn.out _).mono ?_; rintro e wE ⟨rfl, hwE⟩; have hwE' := hwE.symm; subst hwE'; clear hwE)
            go_roundw
            case rel => exact SRel.mk (HY.out) hwd.2 HS1.out rfl rfl rfl
            case measure => rw [iterPos_at HS1.out.it, hp0]; omega
        | true =>
          by_cases h10 : c = 10
          · subst h10
            have HY : Hid (scRun l (k + wd) = ⟨lines ++ [words ++ [(pieceL l f k, f - frm + 1)]], [], k + 1, none, false⟩) := by show _ = _; rw [HSt.out]; rfl
            clear HSt HOK hb
            go_wp2_with (first | (go_at_call 25; refine (HEn.out _).mono ?_; rintro e wE ⟨rfl, hwE⟩; have hwE' := hwE.symm; subst hwE'; clear hwE) | (at_builtin; refine wpList_append_gen rfl _ _ 61 83 i0 (.agg #[.string ⟨#[]⟩, .int .i64 0]) 2 24 Tryz.underlying61 ii iz0 iz1 iz2 rfl (by decide) rfl N (.slice a2 words.length c2) words.length (wcs words) rfl (World.ownsRow.alloc HS1.out.wd _) ⟨W1.heap.size, 0, none⟩ 1 1 [.string (S (pieceL l f k)), .int .i64 ((f : Int) - (frm : Int) + 1)] rfl rfl (src_at W1 _ _) (by intro u hu; simp at hu; rcases hu with rfl | rfl <;> rfl) (by unfold maxLen; omega) (by omega) (Nat.le_trans HS1.out.hi (bel_al _ _).size) ?_; intro v3 w3 h1 h2; have HS2 : Hid (SpI w w3 (S (l ++ [10])) (k + wd) N ⟨lines, words ++ [(pieceL l f k, f - frm + 1)], frm, none, com⟩ (.slice a1 lines.length c1) v3) := (HS1.out.kept (bel_al W1 _)).word (z := (pieceL l f k, f - frm + 1)) (by rw [HCol.out] at h1; exact h1) h2 _ rfl rfl; obtain ⟨a3, c3, hv3, _⟩ := own_slice h1; subst hv3; clear h1 h2; obtain ⟨vals, hv1, hv2, hv3⟩ := HS2.out.ln; have HVl : Hid (w3.ownsRow (w.heap.size + 1) 61 1 (.slice a1 lines.length c1) lines.length vals ∧ LnsAt w3 (w.heap.size + 1) N vals lines ∧ ∀ v ∈ vals, v.oneCell' = true) := ⟨hv1, hv2, hv3⟩; clear hv1 hv2 hv3) | (at_builtin; refine wpList_append_gen rfl _ _ 59 61 j0 (.slice none 0 0) 1 24 Tryz.underlying59 ji jz0 jz1 jz2 rfl (by decide) rfl (w.heap.size + 1) (.slice a1 lines.length c1) lines.length vals rfl (World.ownsRow.alloc HVl.out.1 _) ⟨w3.heap.size, 0, none⟩ 1 1 [(.slice a3 (words.length + 1) c3)] rfl rfl (src_at w3 _ _) (by intro u hu; simp at hu; rw [hu]; rfl) (by unfold maxLen; omega) (by omega) (Nat.le_trans (Nat.le_trans HS2.out.lo HS2.out.hi) (bel_al _ _).size) ?_; intro v5 w5 h1 h2; have HS5 : Hid (SpI w w5 (S (l ++ [10])) (k + wd) w5.heap.size ⟨lines ++ [words ++ [(pieceL l f k, f - frm + 1)]], [], k + 1, none, false⟩ v5 (.slice none 0 0)) := (HS2.out.kept (bel_al w3 _)).line (vals := vals) (World.ownsRow.alloc HVl.out.1 _) (HVl.out.2.1.same (fun g v ws hl hg => heap_alloc_old _ _ (World.ownsRow.lt hl.1 g hg).2)) HVl.out.2.2 rfl h1 h2 _ rfl rfl; obtain ⟨a5, c5, hv5, _⟩ := own_slice h1; subst hv5; clear h1 h2))
            go_roundw
            case rel => exact SRel.mk (HY.out) hwd.2 HS5.out (by go_num) rfl rfl
            case measure => rw [iterPos_at HS5.out.it, hp0]; omega
          · by_cases h35 : c = 35
            · subst h35
              have HY : Hid (scRun l (k + wd) = ⟨lines, words ++ [(pieceL l f k, f - frm + 1)], frm, none, true⟩) := by show _ = _; rw [HSt.out]; rfl
              clear HSt HOK hb
              go_wp2_with (first | (go_at_call 25; refine (HEn.out _).mono ?_; rintro e wE ⟨rfl, hwE⟩; have hwE' := hwE.symm; subst hwE'; clear hwE) | (at_builtin; refine wpList_append_gen rfl _ _ 61 83 i0 (.agg #[.string ⟨#[]⟩, .int .i64 0]) 2 24 Tryz.underlying61 ii iz0 iz1 iz2 rfl (by decide) rfl N (.slice a2 words.length c2) words.length (wcs words) rfl (World.ownsRow.alloc HS1.out.wd _) ⟨W1.heap.size, 0, none⟩ 1 1 [.string (S (pieceL l f k)), .int .i64 ((f : Int) - (frm : Int) + 1)] rfl rfl (src_at W1 _ _) (by intro u hu; simp at hu; rcases hu with rfl | rfl <;> rfl) (by unfold maxLen; omega) (by omega) (Nat.le_trans HS1.out.hi (bel_al _ _).size) ?_; intro v3 w3 h1 h2; have HS2 : Hid (SpI w w3 (S (l ++ [10])) (k + wd) N ⟨lines, words ++ [(pieceL l f k, f - frm + 1)], frm, none, com⟩ (.slice a1 lines.length c1) v3) := (HS1.out.kept (bel_al W1 _)).word (z := (pieceL l f k, f - frm + 1)) (by rw [HCol.out] at h1; exact h1) h2 _ rfl rfl; obtain ⟨a3, c3, hv3, _⟩ := own_slice h1; subst hv3; clear h1 h2))
              have HS6 : Hid (SpI w w3 (S (l ++ [10])) (k + wd) N ⟨lines, words ++ [(pieceL l f k, f - frm + 1)], frm, none, true⟩ (.slice a1 lines.length c1) (.slice a3 (words.length + 1) c3)) := HS2.out.turn _ rfl rfl
              go_roundw
              case rel => exact SRel.mk (HY.out) hwd.2 HS6.out rfl rfl rfl
              case measure => rw [iterPos_at HS6.out.it, hp0]; omega
            · have q10 : ((c : Int) == 10) = false := by simp; omega
              have q35 : ((c : Int) == 35) = false := by simp; omega
              have p10 : ¬ (c : Int) = 10 := by omega
              have p35 : ¬ (c : Int) = 35 := by omega
              have HY : Hid (scRun l (k + wd) = ⟨lines, words ++ [(pieceL l f k, f - frm + 1)], frm, none, com⟩) := by show _ = _; rw [HSt.out]; simp [scStep, scEnd, h10, h35, ← hb]
              clear HSt HOK hb
              cases com with
              | true =>
                go_wp2_with (first | (go_at_call 25; refine (HEn.out _).mono ?_; rintro e wE ⟨rfl, hwE⟩; have hwE' := hwE.symm; subst hwE'; clear hwE) | (at_builtin; refine wpList_append_gen rfl _ _ 61 83 i0 (.agg #[.string ⟨#[]⟩, .int .i64 0]) 2 24 Tryz.underlying61 ii iz0 iz1 iz2 rfl (by decide) rfl N (.slice a2 words.length c2) words.length (wcs words) rfl (World.ownsRow.alloc HS1.out.wd _) ⟨W1.heap.size, 0, none⟩ 1 1 [.string (S (pieceL l f k)), .int .i64 ((f : Int) - (frm : Int) + 1)] rfl rfl (src_at W1 _ _) (by intro u hu; simp at hu; rcases hu with rfl | rfl <;> rfl) (by unfold maxLen; omega) (by omega) (Nat.le_trans HS1.out.hi (bel_al _ _).size) ?_; intro v3 w3 h1 h2; have HS2 : Hid (SpI w w3 (S (l ++ [10])) (k + wd) N ⟨lines, words ++ [(pieceL l f k, f - frm + 1)], frm, none, true⟩ (.slice a1 lines.length c1) v3) := (HS1.out.kept (bel_al W1 _)).word (z := (pieceL l f k, f - frm + 1)) (by rw [HCol.out] at h1; exact h1) h2 _ rfl rfl; obtain ⟨a3, c3, hv3, _⟩ := own_slice h1; subst hv3; clear h1 h2))
                go_roundw
                case rel => exact SRel.mk (HY.out) hwd.2 HS2.out rfl rfl rfl
                case measure => rw [iterPos_at HS2.out.it, hp0]; omega
              | false =>
                go_wp2_with (first | (go_at_call 25; refine (HEn.out _).mono ?_; rintro e wE ⟨rfl, hwE⟩; have hwE' := hwE.symm; subst hwE'; clear hwE) | (at_builtin; refine wpList_append_gen rfl _ _ 61 83 i0 (.agg #[.string ⟨#[]⟩, .int .i64 0]) 2 24 Tryz.underlying61 ii iz0 iz1 iz2 rfl (by decide) rfl N (.slice a2 words.length c2) words.length (wcs words) rfl (World.ownsRow.alloc HS1.out.wd _) ⟨W1.heap.size, 0, none⟩ 1 1 [.string (S (pieceL l f k)), .int .i64 ((f : Int) - (frm : Int) + 1)] rfl rfl (src_at W1 _ _) (by intro u hu; simp at hu; rcases hu with rfl | rfl <;> rfl) (by unfold maxLen; omega) (by omega) (Nat.le_trans HS1.out.hi (bel_al _ _).size) ?_; intro v3 w3 h1 h2; have HS2 : Hid (SpI w w3 (S (l ++ [10])) (k + wd) N ⟨lines, words ++ [(pieceL l f k, f - frm + 1)], frm, none, false⟩ (.slice a1 lines.length c1) v3) := (HS1.out.kept (bel_al W1 _)).word (z := (pieceL l f k, f - frm + 1)) (by rw [HCol.out] at h1; exact h1) h2 _ rfl rfl; obtain ⟨a3, c3, hv3, _⟩ := own_slice h1; subst hv3; clear h1 h2))
                go_roundw
                case rel => exact SRel.mk (HY.out) hwd.2 HS2.out rfl rfl rfl
                case measure => rw [iterPos_at HS2.out.it, hp0]; omega
    · obtain rfl : k = l.length + 1 := by omega
      have hnx : ∀ ty, (Instr.next (.pointer (some ⟨w.heap.size, 0, none⟩)) true ty).run Tryz.prog wr = .ok (.tuple #[.bool false]) wr := fun ty => Lib.run_next_end_at wr w.heap.size (S (l ++ [10])) (l.length + 1) ty HS.out.it (by rw [HSz.out]; omega)
      have HEnd : Hid (SplitPost w l (.returned (.slice a1 (scRun l (l.length + 1)).lines.length c1)) wr) := by
        obtain ⟨vals, l1, l2, _⟩ := HS.out.ln
        exact ⟨a1, c1, N, vals, rfl, l1, l2, HS.out.bel⟩
      clear hp0 hf1 hf2 HOK
      generalize (scRun l (l.length + 1)).lines.length = n1 at *
      generalize (scRun l (l.length + 1)).words.length = n2 at *
      generalize wfV (scRun l (l.length + 1)).wf = v6 at *
      generalize (scRun l (l.length + 1)).com = v7 at *
      generalize (scRun l (l.length + 1)).frm = v5 at *
      go_wp2
      go_ret
      exact HEnd.out
end Go.Proofs.YtiiplikmoodfnaaGreatDoor
/-
  NAMES: isLetter, isDigit, isName, the document's Name.
-/
namespace Go.Proofs.YtiiplikmoodfnaaGreatDoor
open Go.RowKit Go.Sort

def letB (c : Int) : Bool := (decide (97 ≤ c) && decide (c ≤ 122)) || (decide (65 ≤ c) && decide (c ≤ 90))
def digB (c : Int) : Bool := decide (48 ≤ c) && decide (c ≤ 57)
/-- may a byte stand at a place of a name? -/
def chB (i : Nat) (c : Int) : Bool := letB c || (decide (i ≠ 0) && (digB c || decide (c = 95)))
def chs (s : ByteArray) (i : Nat) : Int := ((s.data.toList.getD i 0).toNat : Int)
def goodN (s : ByteArray) : Nat → Bool
  | 0 => true
  | k + 1 => goodN s k && chB k (chs s k)
def nameB (s : ByteArray) : Bool := decide (0 < s.size) && decide (s.size ≤ 31) && goodN s s.size
theorem chs_at (s : ByteArray) (k : Nat) (h : k < s.size) : (s[k].toNat : Int) = chs s k := by
  have hl : k < s.data.toList.length := by rw [Array.length_toList]; exact h
  unfold chs
  rw [List.getD_eq_getElem?_getD, List.getElem?_eq_getElem hl]; rfl
theorem goodN_false {s : ByteArray} {k n : Nat} (h : chB k (chs s k) = false) (hk : k < n) : goodN s n = false := by
  induction n with
  | zero => omega
  | succ n ih =>
    unfold goodN
    by_cases e : k = n
    · subst e; rw [h]; simp
    · rw [ih (by omega)]; rfl
theorem chs_byte (s : ByteArray) (k : Nat) : 0 ≤ chs s k ∧ chs s k ≤ 255 := by
  unfold chs; have := (s.data.toList.getD k 0).toNat_lt; omega
theorem bool_cases (a b : Bool) : a = true ∨ (a = false ∧ b = true) ∨ (a = false ∧ b = false) := by cases a <;> cases b <;> simp

theorem isLetter_any (w : World) (c : Int) : Calls Tryz.prog 75 #[.int .u8 c] w fun e w' => e = .returned (.bool (letB c)) ∧ w' = w := by
  by_cases h1 : 97 ≤ c
  · by_cases h2 : c ≤ 122
    · have HE : Hid (letB c = true) := by unfold letB; simp [Hid, h1, h2]
      go_enter Tryz.func75, Tryz.ntmps75
      go_wp2
      go_ret
      exact ⟨by rw [HE.out]; rfl, rfl⟩
    · have h3 : 65 ≤ c := by omega
      have h4 : ¬ c ≤ 90 := by omega
      have HE : Hid (letB c = false) := by unfold letB; simp [Hid, h2, h4]
      go_enter Tryz.func75, Tryz.ntmps75
      go_wp2
      go_ret
      exact ⟨by rw [HE.out]; rfl, rfl⟩
  · by_cases h3 : 65 ≤ c
    · by_cases h4 : c ≤ 90
      · have HE : Hid (letB c = true) := by unfold letB; simp [Hid, h3, h4]
        go_enter Tryz.func75, Tryz.ntmps75
        go_wp2
        go_ret
        exact ⟨by rw [HE.out]; rfl, rfl⟩
      · have HE : Hid (letB c = false) := by unfold letB; simp [Hid, h1, h4]
        go_enter Tryz.func75, Tryz.ntmps75
        go_wp2
        go_ret
        exact ⟨by rw [HE.out]; rfl, rfl⟩
    · have HE : Hid (letB c = false) := by unfold letB; simp [Hid, h1, h3]
      go_enter Tryz.func75, Tryz.ntmps75
      go_wp2
      go_ret
      exact ⟨by rw [HE.out]; rfl, rfl⟩
theorem isDigit_any (w : World) (c : Int) : Calls Tryz.prog 76 #[.int .u8 c] w fun e w' => e = .returned (.bool (digB c)) ∧ w' = w := by
  by_cases h1 : 48 ≤ c
  · by_cases h2 : c ≤ 57
    · have HE : Hid (digB c = true) := by unfold digB; simp [Hid, h1, h2]
      go_enter Tryz.func76, Tryz.ntmps76
      go_wp2
      go_ret
      exact ⟨by rw [HE.out]; rfl, rfl⟩
    · have HE : Hid (digB c = false) := by unfold digB; simp [Hid, h2]
      go_enter Tryz.func76, Tryz.ntmps76
      go_wp2
      go_ret
      exact ⟨by rw [HE.out]; rfl, rfl⟩
  · have HE : Hid (digB c = false) := by unfold digB; simp [Hid, h1]
    go_enter Tryz.func76, Tryz.ntmps76
    go_wp2
    go_ret
    exact ⟨by rw [HE.out]; rfl, rfl⟩
set_option maxHeartbeats 1000000 in
theorem isName_any (w : World) (s : ByteArray) (hs : s.size ≤ 281474976710656) : Calls Tryz.prog 57 #[.string s] w fun e w' => e = .returned (.bool (nameB s)) ∧ w' = w := by
  go_enter Tryz.func57, Tryz.ntmps57
  go_wp2
  go_loop [6] (fun x => ∃ k : Nat, k ≤ s.size ∧ x = .int .i64 (k : Int) ∧ Hid (goodN s k = true)) (fun x => s.size - (intOf x).toNat)
  case atStart => exact ⟨0, Nat.zero_le _, rfl, rfl⟩
  case round =>
    obtain ⟨k, hk, rfl, HA⟩ := hrel
    by_cases hlt : k < s.size
    · have HC := chs_at s k hlt
      have HF : Hid (chB k (chs s k) = false → nameB s = false) := fun h => by unfold nameB; rw [goodN_false h hlt]; simp
      have HT : Hid (chB k (chs s k) = true → goodN s (k + 1) = true) := fun h => by unfold goodN; rw [HA.out, h]; rfl
      generalize chs s k = c at *
      cases hl : letB c with
      | true =>
        have HG : Hid (goodN s (k + 1) = true) := HT.out (by unfold chB; rw [hl]; rfl)
        go_wp2_with (first
          | (go_at_call 75; refine (isLetter_any _ c).mono ?_; rintro e w1 ⟨rfl, rfl⟩)
          | (go_at_call 76; refine (isDigit_any _ c).mono ?_; rintro e w1 ⟨rfl, rfl⟩))
        go_round
        case rel => exact ⟨k + 1, by omega, by go_num, HG⟩
        case measure => simp [intOf]; omega
      | false =>
        by_cases h0 : k = 0
        · have HG : Hid (nameB s = false) := HF.out (by unfold chB; rw [hl, h0]; rfl)
          have h0' : ((k : Int) == 0) = true := by rw [h0]; rfl
          clear h0
          go_wp2_with (first
              | (go_at_call 75; refine (isLetter_any _ c).mono ?_; rintro e w1 ⟨rfl, rfl⟩)
              | (go_at_call 76; refine (isDigit_any _ c).mono ?_; rintro e w1 ⟨rfl, rfl⟩))
          go_ret
          exact ⟨by rw [HG.out]; rfl, rfl⟩
        · have h0' : ((k : Int) == 0) = false := by simp; omega
          cases hd : digB c with
          | true =>
            have HG : Hid (goodN s (k + 1) = true) := HT.out (by unfold chB; rw [hl, hd]; simp [h0])
            clear h0
            go_wp2_with (first
              | (go_at_call 75; refine (isLetter_any _ c).mono ?_; rintro e w1 ⟨rfl, rfl⟩)
              | (go_at_call 76; refine (isDigit_any _ c).mono ?_; rintro e w1 ⟨rfl, rfl⟩))
            go_round
            case rel => exact ⟨k + 1, by omega, by go_num, HG⟩
            case measure => simp [intOf]; omega
          | false =>
            by_cases h95 : c = 95
            · have HG : Hid (goodN s (k + 1) = true) := HT.out (by unfold chB; rw [hl, hd]; simp [h0, h95])
              have h95' : (c != 95) = false := by simp [h95]
              clear h0 h95
              go_wp2_with (first
              | (go_at_call 75; refine (isLetter_any _ c).mono ?_; rintro e w1 ⟨rfl, rfl⟩)
              | (go_at_call 76; refine (isDigit_any _ c).mono ?_; rintro e w1 ⟨rfl, rfl⟩))
              go_round
              case rel => exact ⟨k + 1, by omega, by go_num, HG⟩
              case measure => simp [intOf]; omega
            · have HG : Hid (nameB s = false) := HF.out (by unfold chB; rw [hl, hd]; simp [h95])
              have h95' : (c != 95) = true := by simpa using h95
              clear h0 h95
              go_wp2_with (first
              | (go_at_call 75; refine (isLetter_any _ c).mono ?_; rintro e w1 ⟨rfl, rfl⟩)
              | (go_at_call 76; refine (isDigit_any _ c).mono ?_; rintro e w1 ⟨rfl, rfl⟩))
              go_ret
              exact ⟨by rw [HG.out]; rfl, rfl⟩
    · obtain rfl : k = s.size := by omega
      have hN : nameB s = (decide (0 < s.size) && decide (s.size ≤ 31)) := by unfold nameB; rw [HA.out, Bool.and_true]
      by_cases h1 : 0 < s.size
      · have h1' : (0 : Int) < (s.size : Int) := by omega
        by_cases h2 : s.size ≤ 31
        · have h2' : (s.size : Int) ≤ 31 := by omega
          have HG : Hid (nameB s = true) := by show nameB s = true; rw [hN, decide_eq_true h1, decide_eq_true h2]; rfl
          clear hN
          go_wp2
          go_ret
          exact ⟨by rw [HG.out]; rfl, rfl⟩
        · have h2' : ¬ (s.size : Int) ≤ 31 := by omega
          have h2'' : decide ((s.size : Int) ≤ 31) = false := by simpa using h2'
          have HG : Hid (nameB s = false) := by show nameB s = false; rw [hN, decide_eq_false h2, Bool.and_false]
          clear hN
          go_wp2
          go_ret
          exact ⟨by rw [HG.out]; rfl, rfl⟩
      · have h1' : ¬ (0 : Int) < (s.size : Int) := by omega
        have h1'' : decide ((0 : Int) < (s.size : Int)) = false := by simpa using h1'
        have HG : Hid (nameB s = false) := by show nameB s = false; rw [hN, decide_eq_false h1, Bool.false_and]
        clear hN
        go_wp2
        go_ret
        exact ⟨by rw [HG.out]; rfl, rfl⟩
end Go.Proofs.YtiiplikmoodfnaaGreatDoor
/-
  WHAT A TEXT IS ASSEMBLED TO: pure.
-/
namespace Go.Proofs.YtiiplikmoodfnaaGreatDoor
open Go.RowKit Go.Sort

/-- a procedure -/
structure PP where
  name : List UInt8
  p : Nums
  L : List K
/-- a jump that has no place yet: which instruction, its label, where that stands -/
structure Jp where
  frm : Nat
  label : List UInt8
  line : Nat
  col : Nat
/-- what was read so far -/
structure As where
  lib : List PP
  names : List (Nat × Nat)
  opn : Bool
  begun : Nat × Nat
  labels : List (List UInt8 × Nat)
  jumps : List Jp
/-- a line's reader: the words that are left, the column behind the last one -/
abbrev Rd := List Wd × Nat
/-- an error of a line: its column and its number -/
abbrev Er := Nat × Int
def rNext : Rd → Except Er (Wd × Rd)
  | ([], b) => .error (b, 40)
  | (x :: ws, _) => .ok (x, (ws, x.2 + x.1.length))
def rMust (t : List UInt8) (r : Rd) : Except Er Rd :=
  match rNext r with
  | .error e => .error e
  | .ok (x, r') => if x.1 = t then .ok r' else .error (x.2, 40)
def rNum (r : Rd) : Except Er (Int × Rd) :=
  match rNext r with
  | .error e => .error e
  | .ok (x, r') => if (Dec.num1 x.1).2 = true then .ok ((Dec.num1 x.1).1, r') else .error (x.2, 41)
def rEnd (r : Rd) : Option Er :=
  match r.1 with
  | [] => none
  | x :: _ => some (x.2, 40)
def kwN : Nat → List UInt8
  | 0 => [97, 114, 103, 115]
  | 1 => [114, 101, 97, 100, 115]
  | 2 => [119, 114, 105, 116, 101, 115]
  | _ => [108, 111, 99, 97, 108, 115]
def procL : List UInt8 := [112, 114, 111, 99]
def endL : List UInt8 := [101, 110, 100]
/-- the four numbers: the first k of them -/
def rFour (r : Rd) : Nat → Except Er (List Int × Rd)
  | 0 => .ok ([], r)
  | k + 1 =>
    match rFour r k with
    | .error e => .error e
    | .ok (ns, r1) =>
      match rMust (kwN k) r1 with
      | .error e => .error e
      | .ok r2 =>
        match rNum r2 with
        | .error e => .error e
        | .ok (n, r3) => .ok (ns ++ [n], r3)
/-- a procedure's first line -/
def firstA (a : As) (line : Nat) (ws : List Wd) : Except Er As :=
  match rMust procL (ws, 0) with
  | .error e => .error e
  | .ok r1 =>
    match rNext r1 with
    | .error e => .error e
    | .ok (nm, r2) =>
      match rFour r2 4 with
      | .error e => .error e
      | .ok (ns, r3) =>
        match rEnd r3 with
        | some e => .error e
        | none => .ok { a with lib := a.lib ++ [⟨nm.1, ⟨ns.getD 0 0, ns.getD 1 0, ns.getD 2 0, ns.getD 3 0⟩, []⟩], names := a.names ++ [(line, nm.2)], opn := true, begun := (line, (ws.headD ([], 0)).2), labels := [], jumps := [] }
/-- where a label stands -/
def labN (ls : List (List UInt8 × Nat)) (nm : List UInt8) : Option Nat := (ls.find? (fun x => x.1 == nm)).map (·.2)
def lastP (a : As) : PP := a.lib.getLastD ⟨[], ⟨0, 0, 0, 0⟩, []⟩
def setL (a : As) (L : List K) : As := { a with lib := a.lib.dropLast ++ [{ lastP a with L := L }] }
/-- a procedure's end: its jumps get their places; or the first that has none -/
def fixN (ls : List (List UInt8 × Nat)) : List Jp → List K → Except (Nat × Nat × Int) (List K)
  | [], L => .ok L
  | j :: js, L =>
    match labN ls j.label with
    | none => .error (j.line, j.col, 42)
    | some t => fixN ls js (L.set j.frm ((kd L j.frm).1, (t : Int)))
/-- an instruction's argument -/
def argA (a : As) (line : Nat) (op : Int) (r : Rd) : Except Er (Int × List Jp × Rd) :=
  if jumpB op then
    match rNext r with
    | .error e => .error e
    | .ok (x, r1) =>
      if nameB (S x.1) = false then .error (x.2, 40)
      else if (labN a.labels x.1).isSome then .error (x.2, 33)
      else .ok (0, [⟨(lastP a).L.length, x.1, line, x.2⟩], r1)
  else if wantsB op then
    match rNum r with
    | .error e => .error e
    | .ok (n, r1) => .ok (n, [], r1)
  else .ok (0, [], r)
/-- a line inside a procedure -/
def insideA (a : As) (line : Nat) (ws : List Wd) : Except (Nat × Nat × Int) As :=
  match ws with
  | [] => .ok a
  | x :: rest =>
    let r : Rd := (rest, x.2 + x.1.length)
    if x.1 = endL then
      match rEnd r with
      | some e => .error (line, e)
      | none =>
        match fixN a.labels a.jumps (lastP a).L with
        | .error e => .error e
        | .ok L => .ok { setL a L with opn := false }
    else if x.1.getLast? = some 58 then
      if nameB (S x.1.dropLast) = false then .error (line, x.2, 40)
      else if (labN a.labels x.1.dropLast).isSome then .error (line, x.2, 43)
      else match rEnd r with
        | some e => .error (line, e)
        | none => .ok { a with labels := a.labels ++ [(x.1.dropLast, (lastP a).L.length)] }
    else if (opR (S x.1)).2 = false then .error (line, x.2, 40)
    else
      match argA a line ((opR (S x.1)).1 : Int) r with
      | .error e => .error (line, e)
      | .ok (n, js, r1) =>
        match rEnd r1 with
        | some e => .error (line, e)
        | none => .ok (setL { a with jumps := a.jumps ++ js } ((lastP a).L ++ [(((opR (S x.1)).1 : Int), n)]))
/-- one line -/
def lineA (a : As) (line : Nat) (ws : List Wd) : Except (Nat × Nat × Int) As :=
  if ws = [] then .ok a
  else if a.opn then insideA a line ws
  else match firstA a line ws with
    | .error e => .error (line, e)
    | .ok a' => .ok a'
def start0 : As := ⟨[], [], false, (0, 0), [], []⟩
/-- the first k lines -/
def linesA (ls : List (List Wd)) : Nat → Except (Nat × Nat × Int) As
  | 0 => .ok start0
  | k + 1 =>
    match linesA ls k with
    | .error e => .error e
    | .ok a => lineA a (k + 1) (ls.getD k [])
end Go.Proofs.YtiiplikmoodfnaaGreatDoor
