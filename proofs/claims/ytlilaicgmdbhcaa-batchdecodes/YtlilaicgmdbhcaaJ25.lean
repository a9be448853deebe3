import Derived.Test.YtlilaicgmdbhcaaJ04
import Derived.Test.YtlilaicgmdbhcaaJ24
/-
  THE WALK OF THE DOCUMENT's ten.
-/
namespace Go.Proofs.Ytlilaicgmdbhcaa.Kk
open Go.RowKit Go.Sort
set_option maxHeartbeats 1000000 in
theorem ten_any (w : World) (t : Nat) (r : Int) (ht : t ≤ 65535) (hr : In64 r) :
    Calls Try.prog 73 #[.agg #[.int .i64 (t : Int), .int .i64 r]] w fun e w' => e = .returned (.agg (cellsU8 (keyBytes ((t : Int), r)))) ∧ ∃ q os, w' = grow (w.drewN q) os := by
  have hx := xor_row r hr
  have hu := turn_lt hr
  have HK : Hid (keyBytes ((t : Int), r) = [t / 256, t % 256] ++ be 8 (turn r)) := by rw [Hid]; simp [keyBytes]
  generalize keyBytes ((t : Int), r) = KB at *
  generalize turn r = u at *
  obtain ⟨h1, h2⟩ := hr
  go_enter Try.func73, Try.ntmps73
  go_wp2
  rw [row_start]
  have HS : Hid (w.heap.size + 1 + 1 = ((w.alloc (Obj.cells #[Value.int IntKind.i64 (t : Int), Value.int IntKind.i64 r] 77)).alloc (Obj.cells #[.int .u8 0, .int .u8 0, .int .u8 0, .int .u8 0, .int .u8 0, .int .u8 0, .int .u8 0, .int .u8 0, .int .u8 0, .int .u8 0] 113)).heap.size) := by rw [Hid]; simp
  have HG : Hid (Grew w ((w.alloc (Obj.cells #[Value.int IntKind.i64 (t : Int), Value.int IntKind.i64 r] 77)).alloc (Obj.cells #[.int .u8 0, .int .u8 0, .int .u8 0, .int .u8 0, .int .u8 0, .int .u8 0, .int .u8 0, .int .u8 0, .int .u8 0, .int .u8 0] 113))) := ((Grew.refl _).alloc _).alloc _
  have H0 : Hid (((w.alloc (Obj.cells #[Value.int IntKind.i64 (t : Int), Value.int IntKind.i64 r] 77)).alloc (Obj.cells #[.int .u8 0, .int .u8 0, .int .u8 0, .int .u8 0, .int .u8 0, .int .u8 0, .int .u8 0, .int .u8 0, .int .u8 0, .int .u8 0] 113)) = (w.alloc (Obj.cells #[Value.int IntKind.i64 (t : Int), Value.int IntKind.i64 r] 77)).alloc (Obj.cells #[.int .u8 0, .int .u8 0, .int .u8 0, .int .u8 0, .int .u8 0, .int .u8 0, .int .u8 0, .int .u8 0, .int .u8 0, .int .u8 0] 113)) := rfl
  generalize hW : (w.alloc (Obj.cells #[Value.int IntKind.i64 (t : Int), Value.int IntKind.i64 r] 77)).alloc (Obj.cells #[.int .u8 0, .int .u8 0, .int .u8 0, .int .u8 0, .int .u8 0, .int .u8 0, .int .u8 0, .int .u8 0, .int .u8 0, .int .u8 0] 113) = W at *
  have HW : Hid _ := hW
  clear hW H0
  go_loopw [4, 5] (fun x y wr => ∃ n m : Nat, n + m = 8 ∧ x = .int .u64 ((u / 256 ^ n : Nat) : Int) ∧ y = .int .i64 (n : Int) ∧ Hid (wr = W.alloc (.cells (cellsU8 ([t / 256, t % 256] ++ List.replicate m 0 ++ be n u)) 113))) (fun _ y _ => 8 - (intOf y).toNat)
  case atStart => exact ⟨0, 8, rfl, by simp, rfl, rfl⟩
  case round =>
    obtain ⟨n, m, hnm, rfl, rfl, hwr⟩ := hrel
    have hq : u / 256 ^ n < 18446744073709551616 := Nat.lt_of_le_of_lt (Nat.div_le_self _ _) hu
    have HQ : Hid (u / 256 ^ n / 256 = u / 256 ^ (n + 1)) := by rw [Hid, Nat.div_div_eq_div_mul, ← Nat.pow_succ]
    have HB : Hid (be (n + 1) u = (u / 256 ^ n % 256) :: be n u) := be_cons n u
    cases m with
    | zero =>
      obtain rfl : n = 8 := by omega
      have hlen : KB.length = 10 := by rw [HK.out]; simp [be_length]
      have e := hwr.out
      rw [List.replicate_zero, List.append_nil, ← HK.out] at e
      obtain ⟨a, b, c, d, f, g, i, j, k, l, rfl⟩ := list10 hlen
      rw [cells10] at e
      have e2 := HW.out
      subst e2
      subst e
      clear hwr HW HQ HB HS HK hlen hq
      generalize u / 256 ^ 8 = q
      go_wp2
      refine bodyPost_ret (v := .agg (cellsU8 [a, b, c, d, f, g, i, j, k, l])) (by rw [cells10]; simp [results, Try.results73, go_sem]) rfl ?_
      exact ⟨rfl, (((Grew.refl _).alloc _).alloc _).alloc _⟩
    | succ m =>
      have hrow : wr.heap[w.heap.size + 1 + 1]? = some (.cells (cellsU8 ([t / 256, t % 256] ++ List.replicate (m + 1) 0 ++ be n u)) 113 (0, 0)) := by rw [hwr.out]; exact heap_alloc_new _ _ HS.out
      have hlen : ([t / 256, t % 256] ++ List.replicate (m + 1) 0 ++ be n u).length = 10 := by simp [be_length]; omega
      have hcell : wr.cell? ⟨w.heap.size + 1 + 1, m + 2, none⟩ = some (.int .u8 (((([t / 256, t % 256] ++ List.replicate (m + 1) 0 ++ be n u).getD (m + 2) 0 : Nat)) : Int)) := row_cell hrow _ (by omega)
      have hfro : wr.frozen? ⟨w.heap.size + 1 + 1, m + 2, none⟩ = false := frozen_of_row wr _ _ _ _ hrow
      generalize ([t / 256, t % 256] ++ List.replicate (m + 1) 0 ++ be n u).getD (m + 2) 0 = old at hcell
      generalize u / 256 ^ n = q at *
      clear hrow hlen
      have hi : ((9 : Int) - (n : Int)).toNat = m + 2 := by omega
      have hi' : (9 : Int) - (n : Int) = ((m + 2 : Nat) : Int) := by omega
      go_wp2
      go_roundw
      case rel =>
        refine ⟨n + 1, m, by omega, by rw [← HQ.out]; simp, by go_num, ?_⟩
        rw [Hid, hwr.out, show ((q : Int) % 256) = ((q % 256 : Nat) : Int) by omega, setCell_alloc _ _ _ _ _ _ HS.out, set_cellsU8, HB.out]
        rw [set_row]
      case measure => simp [intOf]; omega

end Go.Proofs.Ytlilaicgmdbhcaa.Kk
/-
  THE WALKS OF THE DOCUMENT's Hash, Partition.
-/
namespace Go.Proofs.Ytlilaicgmdbhcaa.Kk
open Go.RowKit Go.Sort


end Go.Proofs.Ytlilaicgmdbhcaa.Kk
/-
  THE WALK OF THE DOCUMENT's FromBytes.
-/
namespace Go.Proofs.Ytlilaicgmdbhcaa.Kk
open Go.RowKit Go.Sort
set_option maxHeartbeats 1000000 in
set_option maxRecDepth 20000 in
theorem refFromBytes_any (w : World) (ao : Option Addr) (cap n : Nat) (zs : List Nat) (hn : n = zs.length) (h : BytesAt w ao zs) (hnc : n ≤ cap) (hm : n ≤ maxLen) :
    Calls Try.prog 83 #[.slice ao n cap] w fun e w' => e = .returned (.tuple #[.agg #[.int .i64 (fromK zs).1, .int .i64 (fromK zs).2], .int .i64 (fromE zs)]) ∧ Grew w w' := by
  unfold maxLen at hm
  by_cases h1 : n < 10
  · have HE : Hid (fromK zs = (0, 0) ∧ fromE zs = 10) := by rw [Hid]; unfold fromK fromE; rw [if_neg (by omega), if_pos (by omega)]; exact ⟨rfl, rfl⟩
    clear h hn
    go_enter Try.func83, Try.ntmps83
    go_wp2
    refine bodyPost_ret (v := .tuple #[.agg #[.int .i64 0, .int .i64 0], .int .i64 10]) (by simp [results, Try.results83, go_sem]) rfl ?_
    exact ⟨by rw [HE.out.1, HE.out.2], (Grew.refl _).alloc _⟩
  · by_cases h2 : 10 < n
    · have HE : Hid (fromK zs = (0, 0) ∧ fromE zs = 11) := by rw [Hid]; unfold fromK fromE; rw [if_neg (by omega), if_neg (by omega), if_pos (by omega)]; exact ⟨rfl, rfl⟩
      clear h hn
      go_enter Try.func83, Try.ntmps83
      go_wp2
      refine bodyPost_ret (v := .tuple #[.agg #[.int .i64 0, .int .i64 0], .int .i64 11]) (by simp [results, Try.results83, go_sem]) rfl ?_
      exact ⟨by rw [HE.out.1, HE.out.2], (Grew.refl _).alloc _⟩
    · obtain rfl : n = 10 := by omega
      have HE : Hid (fromK zs = fromB zs ∧ fromE zs = 0) := by rw [Hid]; unfold fromK fromE; rw [if_pos (by omega), if_neg (by omega), if_neg (by omega)]; exact ⟨rfl, rfl⟩
      have HB : Hid (fromB zs = (((zs.getD 0 0 * 256 + zs.getD 1 0 : Nat) : Int), (num (zs.drop 2) : Int) - 9223372036854775808)) := rfl
      generalize fromK zs = fk at *
      generalize fromE zs = fe at *
      generalize fromB zs = fb at *
      obtain ⟨hz, rfl | ⟨b, off, rfl, hc⟩⟩ := h
      · simp at hn
      have hu := num10_lt zs hz hn.symm
      have HN : Hid (∀ k, k ≤ 7 → num ((zs.drop 2).take k) < 72057594037927936) := num8_lt zs hz
      have HT : Hid (∀ k, k < 8 → num ((zs.drop 2).take (k + 1)) = num ((zs.drop 2).take k) * 256 + zs.getD (2 + k) 0) := fun k hk => by rw [num_take _ _ (by simp; omega), getD_drop2]
      have HL : Hid ((zs.drop 2).take 8 = zs.drop 2) := by rw [Hid, List.take_of_length_le (by simp; omega)]
      have hbs := fun k => getD_lt hz k
      have c0 := hc 0 (by omega)
      have c1 := hc 1 (by omega)
      rw [Nat.add_zero] at c0
      have HC : Hid (∀ k, k < 8 → w.cell? ⟨b, off + 2 + k, none⟩ = some (.int .u8 ((zs.getD (2 + k) 0 : Nat) : Int))) := fun k hk => by
        have := hc (2 + k) (by omega)
        rwa [← Nat.add_assoc] at this
      have b0 := hbs 0
      have b1 := hbs 1
      have HO : Hid _ := or_byte_i _ _ b0 b1
      have HX : Hid _ := xor_back _ hu
      have HG : Hid (Grew w (w.alloc (Obj.cells #[.int .i64 0, .int .i64 0] 77))) := (Grew.refl _).alloc _
      have hbs' : b < w.heap.size := cell_lt c0
      clear hc hz hn
      go_enter Try.func83, Try.ntmps83
      go_wp2
      go_loop [4, 5] (fun x y => ∃ k : Nat, k ≤ 8 ∧ y = .int .i64 ((k : Int) + 2) ∧ x = .int .u64 ((num ((zs.drop 2).take k) : Nat) : Int)) (fun _ y => 10 - (intOf y).toNat)
      case atStart => exact ⟨0, by omega, rfl, rfl⟩
      case round =>
        obtain ⟨k, hk, rfl, rfl⟩ := hrel
        by_cases hk' : k < 8
        · have hl := HN.out k (by omega)
          have ht := HT.out k hk'
          have hcc := HG.out.cell (HC.out k hk')
          have hb := hbs (2 + k)
          have hi : ((k : Int) + 2).toNat = 2 + k := by omega
          have hlt : (k : Int) + 2 < 10 := by omega
          rw [show off + 2 + k = off + (2 + k) by omega] at hcc
          have HS : Hid _ := ht
          clear c0 c1 hbs
          generalize num ((zs.drop 2).take k) = x at *
          generalize zs.getD (2 + k) 0 = c at *
          clear ht
          go_wp2
          go_round
          case rel => exact ⟨k + 1, by omega, by go_num, by rw [HS.out]; simp⟩
          case measure => simp [intOf]; omega
        · obtain rfl : k = 8 := by omega
          have d0 := HG.out.cell c0
          have d1 := HG.out.cell c1
          rw [HL.out]
          have hx := HX.out
          have HV : Hid (fk = (((zs.getD 0 0 * 256 + zs.getD 1 0 : Nat) : Int), (num (zs.drop 2) : Int) - 9223372036854775808)) := by rw [Hid, HE.out.1, HB.out]
          generalize num (zs.drop 2) = u at *
          generalize zs.getD 0 0 = z0 at *
          generalize zs.getD 1 0 = z1 at *
          clear c0 c1 hbs
          go_wp2
          go_region
          go_wp2
          refine bodyPost_ret (v := .tuple #[.agg #[.int .i64 ((z0 : Int) * 256 + (z1 : Int)), .int .i64 ((u : Int) - 9223372036854775808)], .int .i64 0]) (by simp [results, Try.results83, go_sem]) rfl ?_
          refine ⟨?_, ((Grew.refl _).alloc _).drew⟩
          rw [HV.out, HE.out.2]
          simp

end Go.Proofs.Ytlilaicgmdbhcaa.Kk
