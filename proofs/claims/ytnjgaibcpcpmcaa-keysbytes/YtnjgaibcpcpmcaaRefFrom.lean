/-
  THE WALK OF THE DOCUMENT's FromBytes.
-/
import Derived.Test.YtnjgaibcpcpmcaaKBytes
import Derived.Test.YtnjgaibcpcpmcaaRefHash
namespace Go.Proofs.Ytnjgaibcpcpmcaa
open Go.RowKit Go.Sort
set_option maxHeartbeats 1000000 in
set_option maxRecDepth 20000 in
theorem refFromBytes_any (w : World) (ao : Option Addr) (cap n : Nat) (zs : List Nat) (hn : n = zs.length) (h : BytesAt w ao zs) (hnc : n ≤ cap) (hm : n ≤ maxLen) :
    Calls Try.prog 17 #[.slice ao n cap] w fun e w' => e = .returned (.tuple #[.agg #[.int .i64 (fromK zs).1, .int .i64 (fromK zs).2], .int .i64 (fromE zs)]) ∧ Grew w w' := by
  unfold maxLen at hm
  by_cases h1 : n < 10
  · have HE : Hid (fromK zs = (0, 0) ∧ fromE zs = 10) := by rw [Hid]; unfold fromK fromE; rw [if_neg (by omega), if_pos (by omega)]; exact ⟨rfl, rfl⟩
    clear h hn
    go_enter Try.func17, Try.ntmps17
    go_wp2
    refine bodyPost_ret (v := .tuple #[.agg #[.int .i64 0, .int .i64 0], .int .i64 10]) (by simp [results, Try.results17, go_sem]) rfl ?_
    exact ⟨by rw [HE.out.1, HE.out.2], (Grew.refl _).alloc _⟩
  · by_cases h2 : 10 < n
    · have HE : Hid (fromK zs = (0, 0) ∧ fromE zs = 11) := by rw [Hid]; unfold fromK fromE; rw [if_neg (by omega), if_neg (by omega), if_pos (by omega)]; exact ⟨rfl, rfl⟩
      clear h hn
      go_enter Try.func17, Try.ntmps17
      go_wp2
      refine bodyPost_ret (v := .tuple #[.agg #[.int .i64 0, .int .i64 0], .int .i64 11]) (by simp [results, Try.results17, go_sem]) rfl ?_
      exact ⟨by rw [HE.out.1, HE.out.2], (Grew.refl _).alloc _⟩
    · obtain rfl : n = 10 := by omega
      have HE : Hid (fromK zs = fromB zs ∧ fromE zs = 0) := by rw [Hid]; unfold fromK fromE; rw [if_pos (by omega), if_neg (by omega), if_neg (by omega)]; exact ⟨rfl, rfl⟩
      have HB : Hid (fromB zs = (((zs.getD 0 0 * 256 + zs.getD 1 0 : Nat) : Int), (num (zs.drop 2) : Int) - 9223372036854775808)) := rfl
      generalize fromK zs = fk at *
      generalize fromE zs = fe at *
      generalize fromB zs = fb at *
      obtain ⟨hz, rfl | ⟨b, off, rfl, hc⟩⟩ := h
      · simp at hn
      have hu := num10_lt zs hz hn.symm
      have HN : Hid (∀ k, k ≤ 7 → num ((zs.drop 2).take k) < 72057594037927936) := num8_lt zs hz
      have HT : Hid (∀ k, k < 8 → num ((zs.drop 2).take (k + 1)) = num ((zs.drop 2).take k) * 256 + zs.getD (2 + k) 0) := fun k hk => by rw [num_take _ _ (by simp; omega), getD_drop2]
      have HL : Hid ((zs.drop 2).take 8 = zs.drop 2) := by rw [Hid, List.take_of_length_le (by simp; omega)]
      have hbs := fun k => getD_lt hz k
      have c0 := hc 0 (by omega)
      have c1 := hc 1 (by omega)
      rw [Nat.add_zero] at c0
      have HC : Hid (∀ k, k < 8 → w.cell? ⟨b, off + 2 + k, none⟩ = some (.int .u8 ((zs.getD (2 + k) 0 : Nat) : Int))) := fun k hk => by
        have := hc (2 + k) (by omega)
        rwa [← Nat.add_assoc] at this
      have b0 := hbs 0
      have b1 := hbs 1
      have HO : Hid _ := or_byte_i _ _ b0 b1
      have HX : Hid _ := xor_back _ hu
      have HG : Hid (Grew w (w.alloc (Obj.cells #[.int .i64 0, .int .i64 0] 23))) := (Grew.refl _).alloc _
      have hbs' : b < w.heap.size := cell_lt c0
      clear hc hz hn
      go_enter Try.func17, Try.ntmps17
      go_wp2
      go_loop [4, 5] (fun x y => ∃ k : Nat, k ≤ 8 ∧ y = .int .i64 ((k : Int) + 2) ∧ x = .int .u64 ((num ((zs.drop 2).take k) : Nat) : Int)) (fun _ y => 10 - (intOf y).toNat)
      case atStart => exact ⟨0, by omega, rfl, rfl⟩
      case round =>
        obtain ⟨k, hk, rfl, rfl⟩ := hrel
        by_cases hk' : k < 8
        · have hl := HN.out k (by omega)
          have ht := HT.out k hk'
          have hcc := HG.out.cell (HC.out k hk')
          have hb := hbs (2 + k)
          have hi : ((k : Int) + 2).toNat = 2 + k := by omega
          have hlt : (k : Int) + 2 < 10 := by omega
          rw [show off + 2 + k = off + (2 + k) by omega] at hcc
          have HS : Hid _ := ht
          clear c0 c1 hbs
          generalize num ((zs.drop 2).take k) = x at *
          generalize zs.getD (2 + k) 0 = c at *
          clear ht
          go_wp2
          go_round
          case rel => exact ⟨k + 1, by omega, by go_num, by rw [HS.out]; simp⟩
          case measure => simp [intOf]; omega
        · obtain rfl : k = 8 := by omega
          have d0 := HG.out.cell c0
          have d1 := HG.out.cell c1
          rw [HL.out]
          have hx := HX.out
          have HV : Hid (fk = (((zs.getD 0 0 * 256 + zs.getD 1 0 : Nat) : Int), (num (zs.drop 2) : Int) - 9223372036854775808)) := by rw [Hid, HE.out.1, HB.out]
          generalize num (zs.drop 2) = u at *
          generalize zs.getD 0 0 = z0 at *
          generalize zs.getD 1 0 = z1 at *
          clear c0 c1 hbs
          go_wp2
          go_region
          go_wp2
          refine bodyPost_ret (v := .tuple #[.agg #[.int .i64 ((z0 : Int) * 256 + (z1 : Int)), .int .i64 ((u : Int) - 9223372036854775808)], .int .i64 0]) (by simp [results, Try.results17, go_sem]) rfl ?_
          refine ⟨?_, ((Grew.refl _).alloc _).drew⟩
          rw [HV.out, HE.out.2]
          simp

end Go.Proofs.Ytnjgaibcpcpmcaa
