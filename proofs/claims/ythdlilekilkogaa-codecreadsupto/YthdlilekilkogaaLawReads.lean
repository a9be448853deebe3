/-
  THE WALK OF preludelaw01.CodecReads.
-/
import Derived.Test.YthdlilekilkogaaQuad
import Derived.Test.YthdlilekilkogaaLawBack
import Derived.Deep.DeepCutAuto
namespace Go.Proofs.Ythdlilekilkogaa
open Go.RowKit

theorem alloc_at (w : World) (o : Obj) (n : Nat) (h : n = w.heap.size) : (w.alloc o).heap[n]? = some o := by
  subst h
  show (w.heap.push _)[w.heap.size]? = _
  simp
theorem book_new (w : World) (kb : Nat) (h : w.heap[kb]? = some (.cells #[.slice none 0 0, .slice none 0 0] 31 (0, 0))) : IsBook w kb (.slice none 0 0) (.slice none 0 0) [] [] [] [] :=
  ⟨h, ⟨World.ownsRow_nil _ _ _ _, rfl, fun i hi => absurd hi (by simp), fun i j hi => absurd hi (by simp)⟩, ⟨World.ownsRow_nil _ _ _ _, rfl, fun i hi => absurd hi (by simp), fun i j hi => absurd hi (by simp)⟩, fun k hk => by simp [Value.ownBlock] at hk, fun i j hi => absurd hi (by simp)⟩
theorem bytes_row {w : World} {g : Nat} {L : List Nat} (h : RowAt w g L) (hz : ∀ z ∈ L, z < 256) : BytesAt w (some ⟨g, 0, none⟩) L := by
  rw [← List.append_nil L] at h
  exact RowAt.bytes0 h hz
theorem row_kept {w w1 : World} {g : Nat} {L : List Nat} (h : RowAt w g L) (hb : Below w.heap.size w w1) : RowAt w1 g L := (hb.block g (heap_lt h)).trans h

set_option maxRecDepth 100000 in
set_option maxHeartbeats 4000000 in
theorem reads_walk (w : World) (ao0 : Option Addr) (cp0 n0 : Nat) (z0 : List Nat) (hn0 : n0 = z0.length) (hb0 : BytesAt w ao0 z0) (ao1 : Option Addr) (cp1 n1 : Nat) (z1 : List Nat) (hn1 : n1 = z1.length) (hb1 : BytesAt w ao1 z1) (hm0 : n0 ≤ 1048576) (hm1 : n1 ≤ 1048576)
    (so : Option Addr) (sc : Nat) (ops : List OpV) (sn : Nat) (hsn : sn = ops.length) (hs : ScriptAt w so ops) (hm : bulkOps ops ≤ 1048576) :
    Calls Try.prog 4 #[.slice ao0 n0 cp0, .slice ao1 n1 cp1, .slice so sn sc] w fun e w' => e = .returned (.bool true) ∧ Below w.heap.size w w' := by
  have HS0 : Hid (ScriptAt w so ops) := hs
  have HSN : Hid (sn = ops.length) := hsn
  have hsm : sn ≤ 1048576 := by have := ops_length ops; omega
  have HN0 : Hid (n0 = z0.length) := hn0
  have HN1 : Hid (n1 = z1.length) := hn1
  have HB0 : Hid (BytesAt w ao0 z0) := hb0
  have HB1 : Hid (BytesAt w ao1 z1) := hb1
  clear hs hsn hm hn0 hn1 hb0 hb1
  go_enter Try.func4, Try.ntmps4
  go_wp2_with fail
  refine (roomy_any w ao0 cp0 n0 z0 HN0.out HB0.out (by omega)).mono ?_
  rintro e1 w1 ⟨rfl, hr1, hbl1, hs1⟩
  have HR1 : Hid (RowAt w1 w.heap.size (z0 ++ [171, 171, 171])) := hr1
  have HL1 : Hid (Below w.heap.size w w1) := hbl1
  have HZ1 : Hid (w1.heap.size = w.heap.size + 1) := hs1
  clear hr1 hbl1 hs1
  go_wp2_with fail
  refine (roomy_any w1 ao1 cp1 n1 z1 HN1.out (HB1.out.kept HL1.out) (by omega)).mono ?_
  rintro e2 w2 ⟨rfl, hr2, hbl2, hs2⟩
  rw [HZ1.out] at hr2 hs2
  rw [HZ1.out]
  have HR2 : Hid (RowAt w2 (w.heap.size + 1) (z1 ++ [171, 171, 171])) := hr2
  have HR1b : Hid (RowAt w2 w.heap.size (z0 ++ [171, 171, 171])) := row_kept HR1.out hbl2
  have HL2 : Hid (Below w.heap.size w w2) := HL1.out.trans (hbl2.mono (by rw [HZ1.out]; omega))
  have HZ2 : Hid (w2.heap.size = w.heap.size + 2) := hs2
  clear hr2 hbl2 hs2 HR1 HL1 HZ1
  go_wp2_with fail
  refine (read_any w2 (some ⟨w.heap.size, 0, none⟩) (n0 + 3) n0 z0 HN0.out (RowAt.bytes0 HR1b.out HB0.out.1) (by omega)).mono ?_
  rintro e3 w3 ⟨rfl, hr3, hbl3, hs3⟩
  rw [HZ2.out] at hr3 hs3
  rw [HZ2.out]
  have HI3 : Hid (IsReader w3 (w.heap.size + 2 + 1) (some ⟨w.heap.size + 2, 0, none⟩) n0 z0 0 0) := hr3
  have HR2c : Hid (RowAt w3 (w.heap.size + 1) (z1 ++ [171, 171, 171])) := row_kept HR2.out hbl3
  have HR1c : Hid (RowAt w3 w.heap.size (z0 ++ [171, 171, 171])) := row_kept HR1b.out hbl3
  have HL3 : Hid (Below w.heap.size w w3) := HL2.out.trans (hbl3.mono (by rw [HZ2.out]; omega))
  have HZ3 : Hid (w3.heap.size = w.heap.size + 4) := hs3
  clear hr3 hbl3 hs3 HR2 HR1b HL2 HZ2
  go_wp2_with fail
  refine (read_any w3 (some ⟨w.heap.size + 1, 0, none⟩) (n1 + 3) n1 z1 HN1.out (RowAt.bytes0 HR2c.out HB1.out.1) (by omega)).mono ?_
  rintro e4 w4 ⟨rfl, hr4, hbl4, hs4⟩
  rw [HZ3.out] at hr4 hs4
  rw [HZ3.out]
  have hz4 : w4.heap.size = w.heap.size + 6 := hs4
  have HP0 : Hid (Pre w (w.heap.size + 2 + 1) (w.heap.size + 4 + 1) (w.heap.size + 6) w.heap.size (w.heap.size + 1) (fun k => if k < w.heap.size then 9 else if k = w.heap.size then 7 else if k = w.heap.size + 1 then 8 else if k < w.heap.size + 4 then 0 else if k < w.heap.size + 6 then 1 else 4) (w4.alloc (.cells #[.pointer (some ⟨w.heap.size + 2 + 1, 0, none⟩), .pointer (some ⟨w.heap.size + 4 + 1, 0, none⟩)] 47)) (some ⟨w.heap.size + 2, 0, none⟩) (some ⟨w.heap.size + 4, 0, none⟩) n0 n1 z0 z1 (z0 ++ [171, 171, 171]) (z1 ++ [171, 171, 171])) := by
    have hb5 : Below w4.heap.size w4 (w4.alloc (.cells #[.pointer (some ⟨w.heap.size + 2 + 1, 0, none⟩), .pointer (some ⟨w.heap.size + 4 + 1, 0, none⟩)] 47)) := (Below.refl _ _).alloc (Nat.le_refl _) _
    refine ⟨Held.reader ((HI3.out.kept hbl4).kept hb5) ?_, Held.reader (IsReader.kept hr4 hb5) ?_, Held.block (alloc_at _ _ _ hz4.symm) ?_, Held.block (row_kept (row_kept HR1c.out hbl4) hb5) ?_, Held.block (row_kept (row_kept HR2c.out hbl4) hb5) ?_, HL3.out.trans ((hbl4.trans (hb5.mono hbl4.size)).mono HL3.out.size), fun k hk => if_pos hk⟩
    · rintro k (rfl | hk)
      · rw [if_neg (by omega), if_neg (by omega), if_neg (by omega), if_pos (by omega)]
      · simp only [Value.ownBlock, Option.some.injEq] at hk
        subst hk
        rw [if_neg (by omega), if_neg (by omega), if_neg (by omega), if_pos (by omega)]
    · rintro k (rfl | hk)
      · rw [if_neg (by omega), if_neg (by omega), if_neg (by omega), if_neg (by omega), if_pos (by omega)]
      · simp only [Value.ownBlock, Option.some.injEq] at hk
        subst hk
        rw [if_neg (by omega), if_neg (by omega), if_neg (by omega), if_neg (by omega), if_pos (by omega)]
    · rw [if_neg (by omega), if_neg (by omega), if_neg (by omega), if_neg (by omega), if_neg (by omega)]
    · rw [if_neg (by omega), if_pos (by omega)]
    · rw [if_neg (by omega), if_neg (by omega), if_pos (by omega)]
  clear hr4 hbl4 hs4 HI3 HR2c HR1c HL3 HZ3
  go_wp2_with fail
  generalize (w4.alloc (.cells #[.pointer (some ⟨w.heap.size + 2 + 1, 0, none⟩), .pointer (some ⟨w.heap.size + 4 + 1, 0, none⟩)] 47)) = w5 at *
  generalize (fun k => if k < w.heap.size then 9 else if k = w.heap.size then 7 else if k = w.heap.size + 1 then 8 else if k < w.heap.size + 4 then 0 else if k < w.heap.size + 6 then 1 else 4) = lab0 at *
  generalize w.heap.size + 6 = A at *
  generalize w.heap.size + 4 + 1 = R1 at *
  generalize w.heap.size + 2 + 1 = R0 at *
  generalize (some (⟨w.heap.size + 4, 0, none⟩ : Addr)) = a1 at *
  generalize (some (⟨w.heap.size + 2, 0, none⟩ : Addr)) = a0 at *
  generalize w.heap.size + 1 = F1 at *
  clear hz4
  refine (intact_any w5 w.heap.size ao0 (n0 + 3) cp0 n0 z0 HN0.out (HB0.out.kept HP0.out.below) (by rw [← HN0.out]; unfold maxLen; omega) (fun j hj => RowAt.cell HP0.out.f0.holds j (by simpa using hj)) (by rw [← HN0.out]; omega)).mono ?_
  rintro e5 w6 ⟨rfl, q5, hq5⟩
  have HP1 : Hid (Pre w R0 R1 A w.heap.size F1 lab0 w6 a0 a1 n0 n1 z0 z1 (z0 ++ [171, 171, 171]) (z1 ++ [171, 171, 171])) := by rw [hq5]; exact HP0.out.kept ⟨rfl, rfl, rfl, Nat.le_refl _, fun _ _ => rfl⟩
  clear hq5 HP0
  go_wp2_with fail
  refine (intact_any w6 F1 ao1 (n1 + 3) cp1 n1 z1 HN1.out (HB1.out.kept HP1.out.below) (by rw [← HN1.out]; unfold maxLen; omega) (fun j hj => RowAt.cell HP1.out.f1.holds j (by simpa using hj)) (by rw [← HN1.out]; omega)).mono ?_
  rintro e6 w7 ⟨rfl, q6, hq6⟩
  have HP : Hid (Pre w R0 R1 A w.heap.size F1 lab0 w7 a0 a1 n0 n1 z0 z1 (z0 ++ [171, 171, 171]) (z1 ++ [171, 171, 171])) := by rw [hq6]; exact HP1.out.kept ⟨rfl, rfl, rfl, Nat.le_refl _, fun _ _ => rfl⟩
  have HM0 : Hid ((z0 ++ [171, 171, 171]).length = n0 + 3) := by rw [Hid, HN0.out]; simp
  have HM1 : Hid ((z1 ++ [171, 171, 171]).length = n1 + 3) := by rw [Hid, HN1.out]; simp
  clear hq6 HP1
  generalize z0 ++ [171, 171, 171] = N0 at *
  generalize z1 ++ [171, 171, 171] = N1 at *
  go_wp2_with fail
  go_loopw [12] (fun x wr => ∃ (k : Nat) (K : List Nat), k ≤ n0 + 3 ∧ x = .int .i64 (k : Int) ∧ Hid (K.length = n0 + 3) ∧ Hid (Pre w R0 R1 A w.heap.size F1 lab0 wr a0 a1 n0 n1 z0 z1 K N1)) (fun x _ => n0 + 3 - (intOf x).toNat)
  case atStart => exact ⟨0, N0, Nat.zero_le _, rfl, HM0, HP⟩
  case round =>
    clear HP HM0
    obtain ⟨k, K, hk, rfl, HKL, HP⟩ := hrel
    by_cases hlt : k < n0 + 3
    · have hcm : wr.cell? ⟨w.heap.size, k, none⟩ = some (.int .u8 ((K.getD k 0 : Nat) : Int)) := RowAt.cell HP.out.f0.holds k (by rw [HKL.out]; exact hlt)
      have hfm : wr.frozen? ⟨w.heap.size, k, none⟩ = false := RowAt.frozen HP.out.f0.holds k
      have HP' : Hid (Pre w R0 R1 A w.heap.size F1 lab0 (wr.setCell ⟨w.heap.size, k, none⟩ (.int .u8 9)) a0 a1 n0 n1 z0 z1 (K.set k 9) N1) := HP.out.set0 k
      go_wp2_with fail
      go_roundw
      case rel => exact ⟨k + 1, K.set k 9, by omega, by go_num, by rw [Hid, List.length_set]; exact HKL.out, HP'⟩
      case measure => simp [intOf]; omega
    · generalize K = N0 at *
      generalize wr = wl0 at *
      clear HKL
      obtain rfl : k = n0 + 3 := by omega
      go_wp2_with fail
      go_loopw [13] (fun x wr => ∃ (k : Nat) (K : List Nat), k ≤ n1 + 3 ∧ x = .int .i64 (k : Int) ∧ Hid (K.length = n1 + 3) ∧ Hid (Pre w R0 R1 A w.heap.size F1 lab0 wr a0 a1 n0 n1 z0 z1 N0 K)) (fun x _ => n1 + 3 - (intOf x).toNat)
      case atStart => exact ⟨0, N1, Nat.zero_le _, rfl, HM1, HP⟩
      case round =>
        clear HP HM1
        obtain ⟨k, K, hk, rfl, HKL, HP⟩ := hrel
        by_cases hlt : k < n1 + 3
        · have hcm : wr.cell? ⟨F1, k, none⟩ = some (.int .u8 ((K.getD k 0 : Nat) : Int)) := RowAt.cell HP.out.f1.holds k (by rw [HKL.out]; exact hlt)
          have hfm : wr.frozen? ⟨F1, k, none⟩ = false := RowAt.frozen HP.out.f1.holds k
          have HP' : Hid (Pre w R0 R1 A w.heap.size F1 lab0 (wr.setCell ⟨F1, k, none⟩ (.int .u8 9)) a0 a1 n0 n1 z0 z1 N0 (K.set k 9)) := HP.out.set1 k
          go_wp2_with fail
          go_roundw
          case rel => exact ⟨k + 1, K.set k 9, by omega, by go_num, by rw [Hid, List.length_set]; exact HKL.out, HP'⟩
          case measure => simp [intOf]; omega
        · generalize K = N1 at *
          generalize wr = wl1 at *
          clear HKL
          obtain rfl : k = n1 + 3 := by omega
          go_wp2_with fail
          refine (copied_any wl1 ao0 cp0 n0 z0 HN0.out (HB0.out.kept HP.out.below) (by omega)).mono ?_
          rintro e8 u1 ⟨rfl, hr8, hbl8, hs8⟩
          have HRow1 : Hid (RowAt u1 wl1.heap.size z0) := hr8
          have HBl1 : Hid (Below wl1.heap.size wl1 u1) := hbl8
          have hsz1 : u1.heap.size = wl1.heap.size + 1 := hs8
          have HBA1 : Hid (Below u1.heap.size u1 (u1.alloc (.cells #[.slice (some ⟨wl1.heap.size, 0, none⟩) n0 n0, .int .i64 0, .int .i64 0] 51))) := (Below.refl _ _).alloc (Nat.le_refl _) _
          have HTop1 : Hid ((u1.alloc (.cells #[.slice (some ⟨wl1.heap.size, 0, none⟩) n0 n0, .int .i64 0, .int .i64 0] 51)).heap[wl1.heap.size + 1]? = some (.cells #[.slice (some ⟨wl1.heap.size, 0, none⟩) n0 n0, .int .i64 0, .int .i64 0] 51 (0, 0))) := alloc_at _ _ _ hsz1.symm
          have hsz2 : (u1.alloc (.cells #[.slice (some ⟨wl1.heap.size, 0, none⟩) n0 n0, .int .i64 0, .int .i64 0] 51)).heap.size = wl1.heap.size + 2 := by simp [hsz1]
          clear hr8 hbl8 hs8
          go_wp2_with fail
          generalize (u1.alloc (.cells #[.slice (some ⟨wl1.heap.size, 0, none⟩) n0 n0, .int .i64 0, .int .i64 0] 51)) = u2 at *
          have HB2 : Hid (Below wl1.heap.size wl1 u2) := HBl1.out.trans (HBA1.out.mono HBl1.out.size)
          have HRow2 : Hid (RowAt u2 wl1.heap.size z0) := row_kept HRow1.out HBA1.out
          clear HBA1 HRow1 HBl1
          refine (copied_any u2 ao1 cp1 n1 z1 HN1.out (HB1.out.kept (HP.out.kept HB2.out).below) (by omega)).mono ?_
          rintro e9 u3 ⟨rfl, hr9, hbl9, hs9⟩
          rw [hsz2] at hr9 hs9
          have HRow3 : Hid (RowAt u3 (wl1.heap.size + 2) z1) := hr9
          have HRow3b : Hid (RowAt u3 wl1.heap.size z0) := row_kept HRow2.out hbl9
          have HTop3 : Hid (u3.heap[wl1.heap.size + 1]? = some (.cells #[.slice (some ⟨wl1.heap.size, 0, none⟩) n0 n0, .int .i64 0, .int .i64 0] 51 (0, 0))) := (hbl9.block _ (heap_lt HTop1.out)).trans HTop1.out
          have HB3 : Hid (Below wl1.heap.size wl1 u3) := HB2.out.trans (hbl9.mono HB2.out.size)
          have hsz3 : u3.heap.size = wl1.heap.size + 3 := hs9
          rw [hsz2]
          clear hr9 hbl9 hs9 HTop1 HRow2 HB2 hsz1 hsz2
          have HQ0 : Hid (∃ lab, Quad w R0 R1 (wl1.heap.size + 1) (wl1.heap.size + 3) A (wl1.heap.size + 3 + 1) lab (((u3.alloc (.cells #[.slice (some ⟨wl1.heap.size + 2, 0, none⟩) n1 n1, .int .i64 0, .int .i64 0] 51)).alloc (.cells #[.pointer (some ⟨wl1.heap.size + 1, 0, none⟩), .pointer (some ⟨wl1.heap.size + 3, 0, none⟩)] 52)).alloc (.cells #[.slice none 0 0, .slice none 0 0] 31)) a0 a1 n0 n1 z0 z1 wl1.heap.size (wl1.heap.size + 2) 0 0 0 0 0 0 0 0 ∧ Held lab 6 (((u3.alloc (.cells #[.slice (some ⟨wl1.heap.size + 2, 0, none⟩) n1 n1, .int .i64 0, .int .i64 0] 51)).alloc (.cells #[.pointer (some ⟨wl1.heap.size + 1, 0, none⟩), .pointer (some ⟨wl1.heap.size + 3, 0, none⟩)] 52)).alloc (.cells #[.slice none 0 0, .slice none 0 0] 31)) (BookSet (wl1.heap.size + 3 + 1 + 1) (.slice none 0 0) (.slice none 0 0) [] []) (fun w' => IsBook w' (wl1.heap.size + 3 + 1 + 1) (.slice none 0 0) (.slice none 0 0) [] [] [] [])) := by
            have hbW : Below u3.heap.size u3 (((u3.alloc (.cells #[.slice (some ⟨wl1.heap.size + 2, 0, none⟩) n1 n1, .int .i64 0, .int .i64 0] 51)).alloc (.cells #[.pointer (some ⟨wl1.heap.size + 1, 0, none⟩), .pointer (some ⟨wl1.heap.size + 3, 0, none⟩)] 52)).alloc (.cells #[.slice none 0 0, .slice none 0 0] 31)) := (((Below.refl _ _).alloc (Nat.le_refl _) _).alloc (by simp) _).alloc (by simp; omega) _
            have hbl : Below wl1.heap.size wl1 (((u3.alloc (.cells #[.slice (some ⟨wl1.heap.size + 2, 0, none⟩) n1 n1, .int .i64 0, .int .i64 0] 51)).alloc (.cells #[.pointer (some ⟨wl1.heap.size + 1, 0, none⟩), .pointer (some ⟨wl1.heap.size + 3, 0, none⟩)] 52)).alloc (.cells #[.slice none 0 0, .slice none 0 0] 31)) := HB3.out.trans (hbW.mono HB3.out.size)
            have hM1 : (((u3.alloc (.cells #[.slice (some ⟨wl1.heap.size + 2, 0, none⟩) n1 n1, .int .i64 0, .int .i64 0] 51)).alloc (.cells #[.pointer (some ⟨wl1.heap.size + 1, 0, none⟩), .pointer (some ⟨wl1.heap.size + 3, 0, none⟩)] 52)).alloc (.cells #[.slice none 0 0, .slice none 0 0] 31)).heap[wl1.heap.size + 3]? = some (.cells #[.slice (some ⟨wl1.heap.size + 2, 0, none⟩) n1 n1, .int .i64 0, .int .i64 0] 51 (0, 0)) := by
              rw [Below.heap_alloc _ _ _ (by simp; omega), Below.heap_alloc _ _ _ (by simp; omega)]
              exact alloc_at _ _ _ hsz3.symm
            have hBB : (((u3.alloc (.cells #[.slice (some ⟨wl1.heap.size + 2, 0, none⟩) n1 n1, .int .i64 0, .int .i64 0] 51)).alloc (.cells #[.pointer (some ⟨wl1.heap.size + 1, 0, none⟩), .pointer (some ⟨wl1.heap.size + 3, 0, none⟩)] 52)).alloc (.cells #[.slice none 0 0, .slice none 0 0] 31)).heap[wl1.heap.size + 3 + 1]? = some (.cells #[.pointer (some ⟨wl1.heap.size + 1, 0, none⟩), .pointer (some ⟨wl1.heap.size + 3, 0, none⟩)] 52 (0, 0)) := by
              rw [Below.heap_alloc _ _ _ (by simp; omega)]
              exact alloc_at _ _ _ (by simp; omega)
            have hKB : (((u3.alloc (.cells #[.slice (some ⟨wl1.heap.size + 2, 0, none⟩) n1 n1, .int .i64 0, .int .i64 0] 51)).alloc (.cells #[.pointer (some ⟨wl1.heap.size + 1, 0, none⟩), .pointer (some ⟨wl1.heap.size + 3, 0, none⟩)] 52)).alloc (.cells #[.slice none 0 0, .slice none 0 0] 31)).heap[wl1.heap.size + 3 + 1 + 1]? = some (.cells #[.slice none 0 0, .slice none 0 0] 31 (0, 0)) := alloc_at _ _ _ (by simp; omega)
            have hM0 := (hbW.block _ (heap_lt HTop3.out)).trans HTop3.out
            have hr0 := row_kept HRow3b.out hbW
            have hr1 := row_kept HRow3.out hbW
            have hP := HP.out.kept hbl
            generalize (((u3.alloc (.cells #[.slice (some ⟨wl1.heap.size + 2, 0, none⟩) n1 n1, .int .i64 0, .int .i64 0] 51)).alloc (.cells #[.pointer (some ⟨wl1.heap.size + 1, 0, none⟩), .pointer (some ⟨wl1.heap.size + 3, 0, none⟩)] 52)).alloc (.cells #[.slice none 0 0, .slice none 0 0] 31)) = ww at *
            rw [HN0.out] at hM0
            rw [HN1.out] at hM1
            obtain ⟨lab, hlab⟩ : ∃ lab : Nat → Nat, lab = fun k => if k < wl1.heap.size then lab0 k else if k < wl1.heap.size + 2 then 2 else if k < wl1.heap.size + 4 then 3 else if k = wl1.heap.size + 4 then 5 else 6 := ⟨_, rfl⟩
            have hlo : ∀ k, k < wl1.heap.size → lab k = lab0 k := fun k hk => by rw [hlab]; exact if_pos hk
            have hl2 : ∀ k, wl1.heap.size ≤ k → k < wl1.heap.size + 2 → lab k = 2 := fun k h1 h2 => by rw [hlab]; simp only; rw [if_neg (by omega), if_pos h2]
            have hl3 : ∀ k, wl1.heap.size + 2 ≤ k → k < wl1.heap.size + 4 → lab k = 3 := fun k h1 h2 => by rw [hlab]; simp only; rw [if_neg (by omega), if_neg (by omega), if_pos h2]
            have hl5 : lab (wl1.heap.size + 3 + 1) = 5 := by rw [hlab]; show (if _ then _ else _) = _; rw [if_neg (by omega), if_neg (by omega), if_neg (by omega), if_pos rfl]
            have hl6 : lab (wl1.heap.size + 3 + 1 + 1) = 6 := by rw [hlab]; simp only; rw [if_neg (by omega), if_neg (by omega), if_neg (by omega), if_neg (by omega)]
            clear hlab
            have h0m : z0.length ≤ 1048576 := by rw [← HN0.out]; exact hm0
            have h1m : z1.length ≤ 1048576 := by rw [← HN1.out]; exact hm1
            have HR0 := HP.out.r0
            have HR1 := HP.out.r1
            have HCA := HP.out.ca
            have hsz := hbl.size
            have hblk := hbl.block
            refine ⟨lab, ⟨HR0.keep (fun k hk _ => hblk k hk) hsz (fun k hk e => (hlo k hk).trans e), HR1.keep (fun k hk _ => hblk k hk) hsz (fun k hk e => (hlo k hk).trans e), Held.model ⟨hM0, OwnB.ofRow hr0 HB0.out.1 (by unfold maxLen; omega) (Nat.zero_le _), Nat.zero_le _, by omega⟩ ?_, Held.model ⟨hM1, OwnB.ofRow hr1 HB1.out.1 (by unfold maxLen; omega) (Nat.zero_le _), Nat.zero_le _, by omega⟩ ?_, HCA.keep (fun k hk _ => hblk k hk) hsz (fun k hk e => (hlo k hk).trans e), Held.block hBB hl5, hP.below, fun k hk => (hlo k (Nat.lt_of_lt_of_le hk HP.out.below.size)).trans (HP.out.old k hk)⟩, Held.book (book_new _ _ hKB) ?_⟩
            · rintro k (rfl | hk)
              · exact hl2 _ (by omega) (by omega)
              · simp only [Value.ownBlock, Option.some.injEq] at hk
                exact hl2 _ (by omega) (by omega)
            · rintro k (rfl | hk)
              · exact hl3 _ (by omega) (by omega)
              · simp only [Value.ownBlock, Option.some.injEq] at hk
                exact hl3 _ (by omega) (by omega)
            · rintro k (rfl | (hk | ⟨i, hi, _⟩) | (hk | ⟨i, hi, _⟩))
              · exact hl6
              · simp [Value.ownBlock] at hk
              · simp at hi
              · simp [Value.ownBlock] at hk
              · simp at hi
          go_upto_region 16 with fail
          generalize (((u3.alloc (.cells #[.slice (some ⟨wl1.heap.size + 2, 0, none⟩) n1 n1, .int .i64 0, .int .i64 0] 51)).alloc (.cells #[.pointer (some ⟨wl1.heap.size + 1, 0, none⟩), .pointer (some ⟨wl1.heap.size + 3, 0, none⟩)] 52)).alloc (.cells #[.slice none 0 0, .slice none 0 0] 31)) = W0 at *
          generalize wl1.heap.size + 3 + 1 + 1 = kb at *
          generalize wl1.heap.size + 3 + 1 = B at *
          generalize wl1.heap.size + 3 = M1 at *
          generalize wl1.heap.size + 2 = g1 at *
          generalize wl1.heap.size + 1 = M0 at *
          generalize wl1.heap.size = g0 at *
          obtain ⟨labI, hq0, hk0⟩ := HQ0.out
          have HQI : Hid (Quad w R0 R1 M0 M1 A B labI W0 a0 a1 n0 n1 z0 z1 g0 g1 0 0 0 0 0 0 0 0) := hq0
          have HKI : Hid (Held labI 6 W0 (BookSet kb (.slice none 0 0) (.slice none 0 0) [] []) (fun w' => IsBook w' kb (.slice none 0 0) (.slice none 0 0) [] [] [] [])) := hk0
          have HL0 : Hid (z0.length ≤ 1048576) := by rw [Hid, ← HN0.out]; exact hm0
          have HL1 : Hid (z1.length ≤ 1048576) := by rw [Hid, ← HN1.out]; exact hm1
          clear hq0 hk0 HQ0 HP HRow3 HRow3b HTop3 HB3 hsz3
          go_wp2_with fail
          go_loopw [16] (fun x wr => ∃ (k : Nat) (lab : Nat → Nat) (p0 p1 : Nat) (e0 e1 : Int) (vl vw : Value) (ls ws : List Value) (Ls : List (List Nat)), k ≤ sn ∧ x = .int .i64 (k : Int) ∧ Hid (Quad w R0 R1 M0 M1 A B lab wr a0 a1 n0 n1 z0 z1 g0 g1 p0 p1 e0 e1 p0 p1 e0 e1) ∧
              Hid (Held lab 6 wr (BookSet kb vl vw ls ws) (fun w' => IsBook w' kb vl vw ls ws Ls Ls)) ∧ Hid (ls.length ≤ k ∧ ws.length = ls.length ∧ ∀ i, (Ls.getD i []).length ≤ 1048576)) (fun x _ => sn - (intOf x).toNat)
          case atStart => exact ⟨0, labI, 0, 0, 0, 0, _, _, [], [], [], Nat.zero_le _, rfl, HQI, HKI, ⟨by simp, rfl, fun i => by simp⟩⟩
          case round =>
            clear HQI HKI
            obtain ⟨k, lab, p0, p1, e0, e1, vl, vw, ls, ws, Ls, hk, rfl, HQ, HK, HLL⟩ := hrel
            by_cases hlt : k < sn
            · obtain ⟨sb, soff, a, c, hso, o0, o1, o2, o3, o4, _, _, _, hn⟩ := op_kept HS0.out (by rw [← HSN.out]; exact hlt) HQ.out.below
              have hmo := op_most HS0.out (k := k) (by rw [← HSN.out]; exact hlt)
              subst hso
              generalize ops.getD k default = o at *
              cases htwo : o.two with
              | false =>
                rw [htwo] at o4
                go_upto_region 23 with fail
                clear o0 o1 o2 o3 o4
                have HAL : Hid (Below wr.heap.size wr (wr.alloc (.cells #[.int .i64 o.kind, .int .u64 (o.n : Int), .slice a o.bs.length c, .int .i64 o.most, .bool false] 34))) := (Below.refl _ _).alloc (Nat.le_refl _) _
                have HQA : Hid (Quad w R0 R1 M0 M1 A B lab (wr.alloc (.cells #[.int .i64 o.kind, .int .u64 (o.n : Int), .slice a o.bs.length c, .int .i64 o.most, .bool false] 34)) a0 a1 n0 n1 z0 z1 g0 g1 p0 p1 e0 e1 p0 p1 e0 e1) := HQ.out.kept HAL.out (fun _ _ => rfl)
                have HKA : Hid (Held lab 6 (wr.alloc (.cells #[.int .i64 o.kind, .int .u64 (o.n : Int), .slice a o.bs.length c, .int .i64 o.most, .bool false] 34)) (BookSet kb vl vw ls ws) (fun w' => IsBook w' kb vl vw ls ws Ls Ls)) := HK.out.far (Tch.ofBelow HAL.out) id (fun _ _ e => e)
                have HOB : Hid ((wr.alloc (.cells #[.int .i64 o.kind, .int .u64 (o.n : Int), .slice a o.bs.length c, .int .i64 o.most, .bool false] 34)).heap[wr.heap.size]? = some (.cells #[.int .i64 o.kind, .int .u64 (o.n : Int), .slice a o.bs.length c, .int .i64 o.most, .bool false] 34 (0, 0))) := alloc_at _ _ _ rfl
                clear HAL HQ HK
                generalize (wr.alloc (.cells #[.int .i64 o.kind, .int .u64 (o.n : Int), .slice a o.bs.length c, .int .i64 o.most, .bool false] 34)) = wa at *
                generalize wr.heap.size = ob at *
                have y4 : wa.cell? ⟨A, 0, none⟩ = some (.pointer (some ⟨R0, 0, none⟩)) := by simp [World.cell?, HQA.out.ca.holds]
                have y5 : wa.cell? ⟨B, 0, none⟩ = some (.pointer (some ⟨M0, 0, none⟩)) := by simp [World.cell?, HQA.out.cb.holds]
                go_quiet (fail)
                have HQd : Hid (Quad w R0 R1 M0 M1 A B lab (wa.drewN nq) a0 a1 n0 n1 z0 z1 g0 g1 p0 p1 e0 e1 p0 p1 e0 e1) := HQA.out.kept ⟨rfl, rfl, rfl, Nat.le_refl _, fun _ _ => rfl⟩ (fun _ _ => rfl)
                have HKd : Hid (Held lab 6 (wa.drewN nq) (BookSet kb vl vw ls ws) (fun w' => IsBook w' kb vl vw ls ws Ls Ls)) := HKA.out.keep (fun _ _ _ => rfl) (Nat.le_refl _) (fun _ _ e => e)
                have HOd : Hid ((wa.drewN nq).heap[ob]? = some (.cells #[.int .i64 o.kind, .int .u64 (o.n : Int), .slice a o.bs.length c, .int .i64 o.most, .bool false] 34 (0, 0))) := HOB.out
                generalize wa.drewN nq = wd at *
                clear HQA HKA HOB y4 y5
                have s0 : wd.cell? ⟨ob, 0, none⟩ = some (.int .i64 o.kind) := by simp [World.cell?, HOd.out]
                have s1 : wd.cell? ⟨ob, 1, none⟩ = some (.int .u64 (o.n : Int)) := by simp [World.cell?, HOd.out]
                have s2 : wd.cell? ⟨ob, 2, none⟩ = some (.slice a o.bs.length c) := by simp [World.cell?, HOd.out]
                have s3 : wd.cell? ⟨ob, 3, none⟩ = some (.int .i64 o.most) := by simp [World.cell?, HOd.out]
                have s4 : wd.cell? ⟨ob, 4, none⟩ = some (.bool false) := by simp [World.cell?, HOd.out]
                go_wp2_with fail
                refine (ask_any wd lab 0 2 R0 a0 n0 z0 p0 e0 M0 g0 z0.length kb vl vw ls ws Ls 1048576 o.kind o.n a o.bs.length c o.most false (HQd.out.trio0 HKd.out) hmo.1 hmo.2 (by have := HLL.out.1; omega) HLL.out.2.1 HLL.out.2.2 HL0.out (Nat.le_trans HL0.out (by omega))).mono ?_
                rintro e5 w5 ⟨rfl, ha5⟩
                obtain ⟨lab5, p5, x5, vl5, vw5, ls5, ws5, Ls5, hq5, hk5, hl5⟩ := HQd.out.asked0 ha5
                have HQ5 : Hid (Quad w R0 R1 M0 M1 A B lab5 w5 a0 a1 n0 n1 z0 z1 g0 g1 p5 p1 x5 e1 p5 p1 x5 e1) := hq5
                have HK5 : Hid (Held lab5 6 w5 (BookSet kb vl5 vw5 ls5 ws5) (fun w' => IsBook w' kb vl5 vw5 ls5 ws5 Ls5 Ls5)) := hk5
                have HLL5 : Hid (ls5.length ≤ k + 1 ∧ ws5.length = ls5.length ∧ ∀ i, (Ls5.getD i []).length ≤ 1048576) := ⟨by have h1 := hl5.1; have h2 := HLL.out.1; omega, hl5.2⟩
                clear ha5 hq5 hk5 hl5 HQd HKd HOd s0 s1 s2 s3 s4 HLL
                have m0c := HQ5.out.m0.holds.c0
                have m1c := HQ5.out.m0.holds.c1
                have m2c := HQ5.out.m0.holds.c2
                have hp5 := HQ5.out.m0.holds.2.2.1
                have hz5 := HL0.out
                have HRd : Hid (IsReader w5 R0 a0 n0 z0 p5 x5) := HQ5.out.r0.holds
                go_wp2_with fail
                go_quiet (first
                  | (go_at_call 19; exact Calls.quiet_of_same (rAt_any _ R0 a0 n0 z0 p5 x5 (HRd.out.drewN _)))
                  | (go_at_call 20; exact Calls.quiet_of (left_sub _ R0 a0 n0 z0 p5 x5 (HRd.out.drewN _)))
                  | (go_at_call 21; exact Calls.quiet_of_same (rErr_any _ R0 a0 n0 z0 p5 x5 (HRd.out.drewN _))))
                have HQ6 : Hid (Quad w R0 R1 M0 M1 A B lab5 (w5.drewN nq) a0 a1 n0 n1 z0 z1 g0 g1 p5 p1 x5 e1 p5 p1 x5 e1) := HQ5.out.kept ⟨rfl, rfl, rfl, Nat.le_refl _, fun _ _ => rfl⟩ (fun _ _ => rfl)
                have HK6 : Hid (Held lab5 6 (w5.drewN nq) (BookSet kb vl5 vw5 ls5 ws5) (fun w' => IsBook w' kb vl5 vw5 ls5 ws5 Ls5 Ls5)) := HK5.out.keep (fun _ _ _ => rfl) (Nat.le_refl _) (fun _ _ e => e)
                generalize w5.drewN nq = w6 at *
                clear HQ5 HK5 HRd m0c m1c m2c
                go_wp2_with fail
                go_roundw
                case rel => exact ⟨k + 1, lab5, _, _, _, _, vl5, vw5, ls5, ws5, Ls5, by omega, by go_num, HQ6, HK6, HLL5⟩
                case measure => simp [intOf]; omega
              | true =>
                rw [htwo] at o4
                go_upto_region 23 with fail
                clear o0 o1 o2 o3 o4
                have HAL : Hid (Below wr.heap.size wr (wr.alloc (.cells #[.int .i64 o.kind, .int .u64 (o.n : Int), .slice a o.bs.length c, .int .i64 o.most, .bool true] 34))) := (Below.refl _ _).alloc (Nat.le_refl _) _
                have HQA : Hid (Quad w R0 R1 M0 M1 A B lab (wr.alloc (.cells #[.int .i64 o.kind, .int .u64 (o.n : Int), .slice a o.bs.length c, .int .i64 o.most, .bool true] 34)) a0 a1 n0 n1 z0 z1 g0 g1 p0 p1 e0 e1 p0 p1 e0 e1) := HQ.out.kept HAL.out (fun _ _ => rfl)
                have HKA : Hid (Held lab 6 (wr.alloc (.cells #[.int .i64 o.kind, .int .u64 (o.n : Int), .slice a o.bs.length c, .int .i64 o.most, .bool true] 34)) (BookSet kb vl vw ls ws) (fun w' => IsBook w' kb vl vw ls ws Ls Ls)) := HK.out.far (Tch.ofBelow HAL.out) id (fun _ _ e => e)
                have HOB : Hid ((wr.alloc (.cells #[.int .i64 o.kind, .int .u64 (o.n : Int), .slice a o.bs.length c, .int .i64 o.most, .bool true] 34)).heap[wr.heap.size]? = some (.cells #[.int .i64 o.kind, .int .u64 (o.n : Int), .slice a o.bs.length c, .int .i64 o.most, .bool true] 34 (0, 0))) := alloc_at _ _ _ rfl
                clear HAL HQ HK
                generalize (wr.alloc (.cells #[.int .i64 o.kind, .int .u64 (o.n : Int), .slice a o.bs.length c, .int .i64 o.most, .bool true] 34)) = wa at *
                generalize wr.heap.size = ob at *
                have y4 : wa.cell? ⟨A, 1, none⟩ = some (.pointer (some ⟨R1, 0, none⟩)) := by simp [World.cell?, HQA.out.ca.holds]
                have y5 : wa.cell? ⟨B, 1, none⟩ = some (.pointer (some ⟨M1, 0, none⟩)) := by simp [World.cell?, HQA.out.cb.holds]
                go_quiet (fail)
                have HQd : Hid (Quad w R0 R1 M0 M1 A B lab (wa.drewN nq) a0 a1 n0 n1 z0 z1 g0 g1 p0 p1 e0 e1 p0 p1 e0 e1) := HQA.out.kept ⟨rfl, rfl, rfl, Nat.le_refl _, fun _ _ => rfl⟩ (fun _ _ => rfl)
                have HKd : Hid (Held lab 6 (wa.drewN nq) (BookSet kb vl vw ls ws) (fun w' => IsBook w' kb vl vw ls ws Ls Ls)) := HKA.out.keep (fun _ _ _ => rfl) (Nat.le_refl _) (fun _ _ e => e)
                have HOd : Hid ((wa.drewN nq).heap[ob]? = some (.cells #[.int .i64 o.kind, .int .u64 (o.n : Int), .slice a o.bs.length c, .int .i64 o.most, .bool true] 34 (0, 0))) := HOB.out
                generalize wa.drewN nq = wd at *
                clear HQA HKA HOB y4 y5
                have s0 : wd.cell? ⟨ob, 0, none⟩ = some (.int .i64 o.kind) := by simp [World.cell?, HOd.out]
                have s1 : wd.cell? ⟨ob, 1, none⟩ = some (.int .u64 (o.n : Int)) := by simp [World.cell?, HOd.out]
                have s2 : wd.cell? ⟨ob, 2, none⟩ = some (.slice a o.bs.length c) := by simp [World.cell?, HOd.out]
                have s3 : wd.cell? ⟨ob, 3, none⟩ = some (.int .i64 o.most) := by simp [World.cell?, HOd.out]
                have s4 : wd.cell? ⟨ob, 4, none⟩ = some (.bool true) := by simp [World.cell?, HOd.out]
                go_wp2_with fail
                refine (ask_any wd lab 1 3 R1 a1 n1 z1 p1 e1 M1 g1 z1.length kb vl vw ls ws Ls 1048576 o.kind o.n a o.bs.length c o.most true (HQd.out.trio1 HKd.out) hmo.1 hmo.2 (by have := HLL.out.1; omega) HLL.out.2.1 HLL.out.2.2 HL1.out (Nat.le_trans HL1.out (by omega))).mono ?_
                rintro e5 w5 ⟨rfl, ha5⟩
                obtain ⟨lab5, p5, x5, vl5, vw5, ls5, ws5, Ls5, hq5, hk5, hl5⟩ := HQd.out.asked1 ha5
                have HQ5 : Hid (Quad w R0 R1 M0 M1 A B lab5 w5 a0 a1 n0 n1 z0 z1 g0 g1 p0 p5 e0 x5 p0 p5 e0 x5) := hq5
                have HK5 : Hid (Held lab5 6 w5 (BookSet kb vl5 vw5 ls5 ws5) (fun w' => IsBook w' kb vl5 vw5 ls5 ws5 Ls5 Ls5)) := hk5
                have HLL5 : Hid (ls5.length ≤ k + 1 ∧ ws5.length = ls5.length ∧ ∀ i, (Ls5.getD i []).length ≤ 1048576) := ⟨by have h1 := hl5.1; have h2 := HLL.out.1; omega, hl5.2⟩
                clear ha5 hq5 hk5 hl5 HQd HKd HOd s0 s1 s2 s3 s4 HLL
                have m0c := HQ5.out.m1.holds.c0
                have m1c := HQ5.out.m1.holds.c1
                have m2c := HQ5.out.m1.holds.c2
                have hp5 := HQ5.out.m1.holds.2.2.1
                have hz5 := HL1.out
                have HRd : Hid (IsReader w5 R1 a1 n1 z1 p5 x5) := HQ5.out.r1.holds
                go_wp2_with fail
                go_quiet (first
                  | (go_at_call 19; exact Calls.quiet_of_same (rAt_any _ R1 a1 n1 z1 p5 x5 (HRd.out.drewN _)))
                  | (go_at_call 20; exact Calls.quiet_of (left_sub _ R1 a1 n1 z1 p5 x5 (HRd.out.drewN _)))
                  | (go_at_call 21; exact Calls.quiet_of_same (rErr_any _ R1 a1 n1 z1 p5 x5 (HRd.out.drewN _))))
                have HQ6 : Hid (Quad w R0 R1 M0 M1 A B lab5 (w5.drewN nq) a0 a1 n0 n1 z0 z1 g0 g1 p0 p5 e0 x5 p0 p5 e0 x5) := HQ5.out.kept ⟨rfl, rfl, rfl, Nat.le_refl _, fun _ _ => rfl⟩ (fun _ _ => rfl)
                have HK6 : Hid (Held lab5 6 (w5.drewN nq) (BookSet kb vl5 vw5 ls5 ws5) (fun w' => IsBook w' kb vl5 vw5 ls5 ws5 Ls5 Ls5)) := HK5.out.keep (fun _ _ _ => rfl) (Nat.le_refl _) (fun _ _ e => e)
                generalize w5.drewN nq = w6 at *
                clear HQ5 HK5 HRd m0c m1c m2c
                go_wp2_with fail
                go_roundw
                case rel => exact ⟨k + 1, lab5, _, _, _, _, vl5, vw5, ls5, ws5, Ls5, by omega, by go_num, HQ6, HK6, HLL5⟩
                case measure => simp [intOf]; omega
            · obtain rfl : k = sn := by omega
              go_wp2_with fail
              refine (ends_any wr kb vl vw ls ws Ls HK.out.holds HLL.out.2.1 (by have := HLL.out.1; omega) (fun i => Nat.le_trans (HLL.out.2.2 i) (by omega))).mono ?_
              rintro e3 w3 ⟨rfl, hT⟩
              have HQ3 : Hid (Quad w R0 R1 M0 M1 A B lab w3 a0 a1 n0 n1 z0 z1 g0 g1 p0 p1 e0 e1 p0 p1 e0 e1) :=
                HQ.out.far (T := fun j => j = 6) ⟨hT.os, hT.tape, hT.output, hT.size, fun b hb hn => hT.block b hb (fun hS => hn (HK.out.labs b hS))⟩ (fun i h => by omega) (fun _ _ => rfl)
              clear hT HQ HK HLL
              go_wp2_with fail
              go_loopw [22] (fun x wr => ∃ (s p0 p1 : Nat) (e0 e1 : Int), s ≤ 2 ∧ x = .int .i64 (s : Int) ∧ Hid (Quad w R0 R1 M0 M1 A B lab wr a0 a1 n0 n1 z0 z1 g0 g1 p0 p1 e0 e1 p0 p1 e0 e1)) (fun x _ => 2 - (intOf x).toNat)
              case atStart => exact ⟨0, p0, p1, e0, e1, by omega, rfl, HQ3⟩
              case round =>
                clear HQ3
                obtain ⟨s, p0, p1, e0, e1, hs, rfl, HQ⟩ := hrel
                obtain rfl | rfl | rfl : s = 0 ∨ s = 1 ∨ s = 2 := by omega
                · have y4 : wr.cell? ⟨A, 0, none⟩ = some (.pointer (some ⟨R0, 0, none⟩)) := by simp [World.cell?, HQ.out.ca.holds]
                  have y5 : wr.cell? ⟨B, 0, none⟩ = some (.pointer (some ⟨M0, 0, none⟩)) := by simp [World.cell?, HQ.out.cb.holds]
                  have m0c := HQ.out.m0.holds.c0
                  have m1c := HQ.out.m0.holds.c1
                  have hp5 := HQ.out.m0.holds.2.2.1
                  have hz5 := HL0.out
                  have HRd : Hid (IsReader wr R0 a0 n0 z0 p0 e0) := HQ.out.r0.holds
                  have HMd : Hid (IsModel wr M0 (some ⟨g0, 0, none⟩) z0.length z0 p0 e0) := HQ.out.m0.holds
                  clear y4 HRd HMd
                  go_wp2_with fail
                  go_quiet (fail)
                  have HQ1 : Hid (Quad w R0 R1 M0 M1 A B lab (wr.drewN nq) a0 a1 n0 n1 z0 z1 g0 g1 p0 p1 e0 e1 p0 p1 e0 e1) := HQ.out.kept ⟨rfl, rfl, rfl, Nat.le_refl _, fun _ _ => rfl⟩ (fun _ _ => rfl)
                  generalize wr.drewN nq = wq at *
                  clear y5 m0c m1c HQ
                  have y4 : wq.cell? ⟨A, 0, none⟩ = some (.pointer (some ⟨R0, 0, none⟩)) := by simp [World.cell?, HQ1.out.ca.holds]
                  have y5 : wq.cell? ⟨B, 0, none⟩ = some (.pointer (some ⟨M0, 0, none⟩)) := by simp [World.cell?, HQ1.out.cb.holds]
                  have HRd : Hid (IsReader wq R0 a0 n0 z0 p0 e0) := HQ1.out.r0.holds
                  have HMd : Hid (IsModel wq M0 (some ⟨g0, 0, none⟩) z0.length z0 p0 e0) := HQ1.out.m0.holds
                  go_wp2_with fail
                  go_quiet (first
                    | (go_at_call 22; exact Calls.quiet_of (rEnd_any _ R0 a0 n0 z0 p0 e0 (HRd.out.drewN _)))
                    | (go_at_call 23; exact Calls.quiet_of (mEnd_any _ M0 g0 z0.length z0 p0 e0 (HMd.out.drewN _))))
                  have HQ2 : Hid (Quad w R0 R1 M0 M1 A B lab (wq.drewN nq) a0 a1 n0 n1 z0 z1 g0 g1 p0 p1 e0 e1 p0 p1 e0 e1) := HQ1.out.kept ⟨rfl, rfl, rfl, Nat.le_refl _, fun _ _ => rfl⟩ (fun _ _ => rfl)
                  generalize wq.drewN nq = w2 at *
                  clear y4 y5 HRd HMd HQ1
                  have y4 : w2.cell? ⟨A, 0, none⟩ = some (.pointer (some ⟨R0, 0, none⟩)) := by simp [World.cell?, HQ2.out.ca.holds]
                  obtain ⟨s, hs'⟩ : ∃ s, rdRaw z0 p0 e0 ((z0.length : Int) - (p0 : Int)) = s := ⟨_, rfl⟩
                  obtain ⟨el, hel⟩ : ∃ el, s.1.length = el := ⟨_, rfl⟩
                  have HEL : Hid (el = s.1.length) := hel.symm
                  have hell : el ≤ 1048576 := by rw [← hel, ← hs']; exact Nat.le_trans (rdRaw_len _ _ _ _) hz5
                  have HC1 : Hid (Calls Try.prog 24 #[.pointer (some ⟨R0, 0, none⟩), .int .i64 ((z0.length : Int) - (p0 : Int))] w2 fun e' w' => ∃ v, e' = .returned v ∧ OwnB w' w2.heap.size v s.1 ∧ Reads w2 R0 a0 n0 z0 s.2.1 s.2.2 w') := by
                    have h := rRaw_any w2 R0 a0 n0 z0 p0 e0 ((z0.length : Int) - (p0 : Int)) HQ2.out.r0.holds
                    rw [hs'] at h; exact h
                  have HC2 : Hid (∀ w3, IsModel w3 M0 (some ⟨g0, 0, none⟩) z0.length z0 p0 e0 → Calls Try.prog 25 #[.pointer (some ⟨M0, 0, none⟩), .int .i64 ((z0.length : Int) - (p0 : Int))] w3 fun e' w' => ∃ v, e' = .returned v ∧ OwnB w' w3.heap.size v s.1 ∧ Models w3 M0 (some ⟨g0, 0, none⟩) z0.length z0 s.2.1 s.2.2 w') := by
                    intro w3 hm
                    have h := mRaw_any w3 M0 g0 z0.length z0 p0 e0 ((z0.length : Int) - (p0 : Int)) hm
                    rw [hs'] at h; exact h
                  clear hs' hel
                  go_wp2_with fail
                  refine HC1.out.mono ?_
                  rintro e4 w4 ⟨v4, rfl, hown4, hr4⟩
                  obtain ⟨b4, c4, hv4, _, _, _⟩ := hown4.slice
                  rw [← HEL.out] at hv4
                  subst hv4
                  have HQ4 : Hid (Quad w R0 R1 M0 M1 A B lab w4 a0 a1 n0 n1 z0 z1 g0 g1 s.2.1 p1 s.2.2 e1 p0 p1 e0 e1) := HQ2.out.reads0 hr4
                  have HO4 : Hid (OwnB w4 w2.heap.size (.slice b4 el c4) s.1) := hown4
                  have hML : M0 < w2.heap.size := HQ2.out.m0.lts _ (.inl rfl)
                  have HSZ : Hid (w2.heap.size ≤ w4.heap.size) := hr4.2.size
                  clear hown4 hr4 y4 HC1 HQ2
                  have y4 : w4.cell? ⟨B, 0, none⟩ = some (.pointer (some ⟨M0, 0, none⟩)) := by simp [World.cell?, HQ4.out.cb.holds]
                  go_wp2_with fail
                  refine (HC2.out w4 HQ4.out.m0.holds).mono ?_
                  rintro e5 w5 ⟨v5, rfl, hown5, hr5⟩
                  obtain ⟨b5, c5, hv5, _, _, _⟩ := hown5.slice
                  rw [← HEL.out] at hv5
                  subst hv5
                  have HQ5 : Hid (Quad w R0 R1 M0 M1 A B lab w5 a0 a1 n0 n1 z0 z1 g0 g1 s.2.1 p1 s.2.2 e1 s.2.1 p1 s.2.2 e1) := HQ4.out.models0 hr5
                  have HY1 : Hid (BytesAt w5 b4 s.1) := (OwnB.bytes (HO4.out.grown hr5.2 (.inr (fun e => by have := (HO4.out.2.lt _ e).1; omega)))).1
                  have HY2 : Hid (BytesAt w5 b5 s.1) := (OwnB.bytes hown5).1
                  clear hown5 hr5 y4 HC2 HQ4 HO4 HSZ hML
                  have y4 : w5.cell? ⟨A, 0, none⟩ = some (.pointer (some ⟨R0, 0, none⟩)) := by simp [World.cell?, HQ5.out.ca.holds]
                  have y5 : w5.cell? ⟨B, 0, none⟩ = some (.pointer (some ⟨M0, 0, none⟩)) := by simp [World.cell?, HQ5.out.cb.holds]
                  have m0c := HQ5.out.m0.holds.c0
                  have m1c := HQ5.out.m0.holds.c1
                  have hp6 := HQ5.out.m0.holds.2.2.1
                  have HRd : Hid (IsReader w5 R0 a0 n0 z0 s.2.1 s.2.2) := HQ5.out.r0.holds
                  have HMX : Hid (s.1.length ≤ maxLen) := by rw [Hid, ← HEL.out]; unfold maxLen; omega
                  go_wp2_with fail
                  go_quiet (first
                    | (go_at_call 10; exact Calls.quiet_of (same_any _ _ _ _ _ _ _ s.1 s.1 HEL.out HEL.out (HY1.out.drewN _) (HY2.out.drewN _) HMX.out))
                    | (go_at_call 20; exact Calls.quiet_of (left_sub _ R0 a0 n0 z0 s.2.1 s.2.2 (HRd.out.drewN _))))
                  have HQ6 : Hid (Quad w R0 R1 M0 M1 A B lab (w5.drewN nq) a0 a1 n0 n1 z0 z1 g0 g1 s.2.1 p1 s.2.2 e1 s.2.1 p1 s.2.2 e1) := HQ5.out.kept ⟨rfl, rfl, rfl, Nat.le_refl _, fun _ _ => rfl⟩ (fun _ _ => rfl)
                  generalize w5.drewN nq = w6 at *
                  clear HQ5 HRd HY1 HY2 y4 y5 m0c m1c
                  go_wp2_with fail
                  go_roundw
                  case rel => exact ⟨1, _, _, _, _, by omega, by go_num, HQ6⟩
                  case measure => simp [intOf]
                · have y4 : wr.cell? ⟨A, 1, none⟩ = some (.pointer (some ⟨R1, 0, none⟩)) := by simp [World.cell?, HQ.out.ca.holds]
                  have y5 : wr.cell? ⟨B, 1, none⟩ = some (.pointer (some ⟨M1, 0, none⟩)) := by simp [World.cell?, HQ.out.cb.holds]
                  have m0c := HQ.out.m1.holds.c0
                  have m1c := HQ.out.m1.holds.c1
                  have hp5 := HQ.out.m1.holds.2.2.1
                  have hz5 := HL1.out
                  have HRd : Hid (IsReader wr R1 a1 n1 z1 p1 e1) := HQ.out.r1.holds
                  have HMd : Hid (IsModel wr M1 (some ⟨g1, 0, none⟩) z1.length z1 p1 e1) := HQ.out.m1.holds
                  clear y4 HRd HMd
                  go_wp2_with fail
                  go_quiet (fail)
                  have HQ1 : Hid (Quad w R0 R1 M0 M1 A B lab (wr.drewN nq) a0 a1 n0 n1 z0 z1 g0 g1 p0 p1 e0 e1 p0 p1 e0 e1) := HQ.out.kept ⟨rfl, rfl, rfl, Nat.le_refl _, fun _ _ => rfl⟩ (fun _ _ => rfl)
                  generalize wr.drewN nq = wq at *
                  clear y5 m0c m1c HQ
                  have y4 : wq.cell? ⟨A, 1, none⟩ = some (.pointer (some ⟨R1, 0, none⟩)) := by simp [World.cell?, HQ1.out.ca.holds]
                  have y5 : wq.cell? ⟨B, 1, none⟩ = some (.pointer (some ⟨M1, 0, none⟩)) := by simp [World.cell?, HQ1.out.cb.holds]
                  have HRd : Hid (IsReader wq R1 a1 n1 z1 p1 e1) := HQ1.out.r1.holds
                  have HMd : Hid (IsModel wq M1 (some ⟨g1, 0, none⟩) z1.length z1 p1 e1) := HQ1.out.m1.holds
                  go_wp2_with fail
                  go_quiet (first
                    | (go_at_call 22; exact Calls.quiet_of (rEnd_any _ R1 a1 n1 z1 p1 e1 (HRd.out.drewN _)))
                    | (go_at_call 23; exact Calls.quiet_of (mEnd_any _ M1 g1 z1.length z1 p1 e1 (HMd.out.drewN _))))
                  have HQ2 : Hid (Quad w R0 R1 M0 M1 A B lab (wq.drewN nq) a0 a1 n0 n1 z0 z1 g0 g1 p0 p1 e0 e1 p0 p1 e0 e1) := HQ1.out.kept ⟨rfl, rfl, rfl, Nat.le_refl _, fun _ _ => rfl⟩ (fun _ _ => rfl)
                  generalize wq.drewN nq = w2 at *
                  clear y4 y5 HRd HMd HQ1
                  have y4 : w2.cell? ⟨A, 1, none⟩ = some (.pointer (some ⟨R1, 0, none⟩)) := by simp [World.cell?, HQ2.out.ca.holds]
                  obtain ⟨s, hs'⟩ : ∃ s, rdRaw z1 p1 e1 ((z1.length : Int) - (p1 : Int)) = s := ⟨_, rfl⟩
                  obtain ⟨el, hel⟩ : ∃ el, s.1.length = el := ⟨_, rfl⟩
                  have HEL : Hid (el = s.1.length) := hel.symm
                  have hell : el ≤ 1048576 := by rw [← hel, ← hs']; exact Nat.le_trans (rdRaw_len _ _ _ _) hz5
                  have HC1 : Hid (Calls Try.prog 24 #[.pointer (some ⟨R1, 0, none⟩), .int .i64 ((z1.length : Int) - (p1 : Int))] w2 fun e' w' => ∃ v, e' = .returned v ∧ OwnB w' w2.heap.size v s.1 ∧ Reads w2 R1 a1 n1 z1 s.2.1 s.2.2 w') := by
                    have h := rRaw_any w2 R1 a1 n1 z1 p1 e1 ((z1.length : Int) - (p1 : Int)) HQ2.out.r1.holds
                    rw [hs'] at h; exact h
                  have HC2 : Hid (∀ w3, IsModel w3 M1 (some ⟨g1, 0, none⟩) z1.length z1 p1 e1 → Calls Try.prog 25 #[.pointer (some ⟨M1, 0, none⟩), .int .i64 ((z1.length : Int) - (p1 : Int))] w3 fun e' w' => ∃ v, e' = .returned v ∧ OwnB w' w3.heap.size v s.1 ∧ Models w3 M1 (some ⟨g1, 0, none⟩) z1.length z1 s.2.1 s.2.2 w') := by
                    intro w3 hm
                    have h := mRaw_any w3 M1 g1 z1.length z1 p1 e1 ((z1.length : Int) - (p1 : Int)) hm
                    rw [hs'] at h; exact h
                  clear hs' hel
                  go_wp2_with fail
                  refine HC1.out.mono ?_
                  rintro e4 w4 ⟨v4, rfl, hown4, hr4⟩
                  obtain ⟨b4, c4, hv4, _, _, _⟩ := hown4.slice
                  rw [← HEL.out] at hv4
                  subst hv4
                  have HQ4 : Hid (Quad w R0 R1 M0 M1 A B lab w4 a0 a1 n0 n1 z0 z1 g0 g1 p0 s.2.1 e0 s.2.2 p0 p1 e0 e1) := HQ2.out.reads1 hr4
                  have HO4 : Hid (OwnB w4 w2.heap.size (.slice b4 el c4) s.1) := hown4
                  have hML : M1 < w2.heap.size := HQ2.out.m1.lts _ (.inl rfl)
                  have HSZ : Hid (w2.heap.size ≤ w4.heap.size) := hr4.2.size
                  clear hown4 hr4 y4 HC1 HQ2
                  have y4 : w4.cell? ⟨B, 1, none⟩ = some (.pointer (some ⟨M1, 0, none⟩)) := by simp [World.cell?, HQ4.out.cb.holds]
                  go_wp2_with fail
                  refine (HC2.out w4 HQ4.out.m1.holds).mono ?_
                  rintro e5 w5 ⟨v5, rfl, hown5, hr5⟩
                  obtain ⟨b5, c5, hv5, _, _, _⟩ := hown5.slice
                  rw [← HEL.out] at hv5
                  subst hv5
                  have HQ5 : Hid (Quad w R0 R1 M0 M1 A B lab w5 a0 a1 n0 n1 z0 z1 g0 g1 p0 s.2.1 e0 s.2.2 p0 s.2.1 e0 s.2.2) := HQ4.out.models1 hr5
                  have HY1 : Hid (BytesAt w5 b4 s.1) := (OwnB.bytes (HO4.out.grown hr5.2 (.inr (fun e => by have := (HO4.out.2.lt _ e).1; omega)))).1
                  have HY2 : Hid (BytesAt w5 b5 s.1) := (OwnB.bytes hown5).1
                  clear hown5 hr5 y4 HC2 HQ4 HO4 HSZ hML
                  have y4 : w5.cell? ⟨A, 1, none⟩ = some (.pointer (some ⟨R1, 0, none⟩)) := by simp [World.cell?, HQ5.out.ca.holds]
                  have y5 : w5.cell? ⟨B, 1, none⟩ = some (.pointer (some ⟨M1, 0, none⟩)) := by simp [World.cell?, HQ5.out.cb.holds]
                  have m0c := HQ5.out.m1.holds.c0
                  have m1c := HQ5.out.m1.holds.c1
                  have hp6 := HQ5.out.m1.holds.2.2.1
                  have HRd : Hid (IsReader w5 R1 a1 n1 z1 s.2.1 s.2.2) := HQ5.out.r1.holds
                  have HMX : Hid (s.1.length ≤ maxLen) := by rw [Hid, ← HEL.out]; unfold maxLen; omega
                  go_wp2_with fail
                  go_quiet (first
                    | (go_at_call 10; exact Calls.quiet_of (same_any _ _ _ _ _ _ _ s.1 s.1 HEL.out HEL.out (HY1.out.drewN _) (HY2.out.drewN _) HMX.out))
                    | (go_at_call 20; exact Calls.quiet_of (left_sub _ R1 a1 n1 z1 s.2.1 s.2.2 (HRd.out.drewN _))))
                  have HQ6 : Hid (Quad w R0 R1 M0 M1 A B lab (w5.drewN nq) a0 a1 n0 n1 z0 z1 g0 g1 p0 s.2.1 e0 s.2.2 p0 s.2.1 e0 s.2.2) := HQ5.out.kept ⟨rfl, rfl, rfl, Nat.le_refl _, fun _ _ => rfl⟩ (fun _ _ => rfl)
                  generalize w5.drewN nq = w6 at *
                  clear HQ5 HRd HY1 HY2 y4 y5 m0c m1c
                  go_wp2_with fail
                  go_roundw
                  case rel => exact ⟨2, _, _, _, _, by omega, by go_num, HQ6⟩
                  case measure => simp [intOf]
                · go_wp2_with fail
                  go_ret
                  exact ⟨rfl, HQ.out.below⟩
end Go.Proofs.Ythdlilekilkogaa

