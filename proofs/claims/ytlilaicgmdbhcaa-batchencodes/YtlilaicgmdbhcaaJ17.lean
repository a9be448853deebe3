import Derived.Test.YtlilaicgmdbhcaaJ04
import Derived.Test.YtlilaicgmdbhcaaJ16
/-
  THE WALKS OF THE DOCUMENT's Hash, Partition.
-/
namespace Go.Proofs.Ytlilaicgmdbhcaa.Kk
open Go.RowKit Go.Sort


end Go.Proofs.Ytlilaicgmdbhcaa.Kk
/-
  THE WALK OF THE DOCUMENT's FromBytes.
-/
namespace Go.Proofs.Ytlilaicgmdbhcaa.Kk
open Go.RowKit Go.Sort
set_option maxHeartbeats 1000000 in
set_option maxRecDepth 20000 in
theorem refFromBytes_any (w : World) (ao : Option Addr) (cap n : Nat) (zs : List Nat) (hn : n = zs.length) (h : BytesAt w ao zs) (hnc : n ≤ cap) (hm : n ≤ maxLen) :
    Calls Try.prog 83 #[.slice ao n cap] w fun e w' => e = .returned (.tuple #[.agg #[.int .i64 (fromK zs).1, .int .i64 (fromK zs).2], .int .i64 (fromE zs)]) ∧ Grew w w' := by
  unfold maxLen at hm
  by_cases h1 : n < 10
  · have HE : Hid (fromK zs = (0, 0) ∧ fromE zs = 10) := by rw [Hid]; unfold fromK fromE; rw [if_neg (by omega), if_pos (by omega)]; exact ⟨rfl, rfl⟩
    clear h hn
    go_enter Try.func83, Try.ntmps83
    go_wp2
    refine bodyPost_ret (v := .tuple #[.agg #[.int .i64 0, .int .i64 0], .int .i64 10]) (by simp [results, Try.results83, go_sem]) rfl ?_
    exact ⟨by rw [HE.out.1, HE.out.2], (Grew.refl _).alloc _⟩
  · by_cases h2 : 10 < n
    · have HE : Hid (fromK zs = (0, 0) ∧ fromE zs = 11) := by rw [Hid]; unfold fromK fromE; rw [if_neg (by omega), if_neg (by omega), if_pos (by omega)]; exact ⟨rfl, rfl⟩
      clear h hn
      go_enter Try.func83, Try.ntmps83
      go_wp2
      refine bodyPost_ret (v := .tuple #[.agg #[.int .i64 0, .int .i64 0], .int .i64 11]) (by simp [results, Try.results83, go_sem]) rfl ?_
      exact ⟨by rw [HE.out.1, HE.out.2], (Grew.refl _).alloc _⟩
    · obtain rfl : n = 10 := by omega
      have HE : Hid (fromK zs = fromB zs ∧ fromE zs = 0) := by rw [Hid]; unfold fromK fromE; rw [if_pos (by omega), if_neg (by omega), if_neg (by omega)]; exact ⟨rfl, rfl⟩
      have HB : Hid (fromB zs = (((zs.getD 0 0 * 256 + zs.getD 1 0 : Nat) : Int), (num (zs.drop 2) : Int) - 9223372036854775808)) := rfl
      generalize fromK zs = fk at *
      generalize fromE zs = fe at *
      generalize fromB zs = fb at *
      obtain ⟨hz, rfl | ⟨b, off, rfl, hc⟩⟩ := h
      · simp at hn
      have hu := num10_lt zs hz hn.symm
      have HN : Hid (∀ k, k ≤ 7 → num ((zs.drop 2).take k) < 72057594037927936) := num8_lt zs hz
      have HT : Hid (∀ k, k < 8 → num ((zs.drop 2).take (k + 1)) = num ((zs.drop 2).take k) * 256 + zs.getD (2 + k) 0) := fun k hk => by rw [num_take _ _ (by simp; omega), getD_drop2]
      have HL : Hid ((zs.drop 2).take 8 = zs.drop 2) := by rw [Hid, List.take_of_length_le (by simp; omega)]
      have hbs := fun k => getD_lt hz k
      have c0 := hc 0 (by omega)
      have c1 := hc 1 (by omega)
      rw [Nat.add_zero] at c0
      have HC : Hid (∀ k, k < 8 → w.cell? ⟨b, off + 2 + k, none⟩ = some (.int .u8 ((zs.getD (2 + k) 0 : Nat) : Int))) := fun k hk => by
        have := hc (2 + k) (by omega)
        rwa [← Nat.add_assoc] at this
      have b0 := hbs 0
      have b1 := hbs 1
      have HO : Hid _ := or_byte_i _ _ b0 b1
      have HX : Hid _ := xor_back _ hu
      have HG : Hid (Grew w (w.alloc (Obj.cells #[.int .i64 0, .int .i64 0] 77))) := (Grew.refl _).alloc _
      have hbs' : b < w.heap.size := cell_lt c0
      clear hc hz hn
      go_enter Try.func83, Try.ntmps83
      go_wp2
      go_loop [4, 5] (fun x y => ∃ k : Nat, k ≤ 8 ∧ y = .int .i64 ((k : Int) + 2) ∧ x = .int .u64 ((num ((zs.drop 2).take k) : Nat) : Int)) (fun _ y => 10 - (intOf y).toNat)
      case atStart => exact ⟨0, by omega, rfl, rfl⟩
      case round =>
        obtain ⟨k, hk, rfl, rfl⟩ := hrel
        by_cases hk' : k < 8
        · have hl := HN.out k (by omega)
          have ht := HT.out k hk'
          have hcc := HG.out.cell (HC.out k hk')
          have hb := hbs (2 + k)
          have hi : ((k : Int) + 2).toNat = 2 + k := by omega
          have hlt : (k : Int) + 2 < 10 := by omega
          rw [show off + 2 + k = off + (2 + k) by omega] at hcc
          have HS : Hid _ := ht
          clear c0 c1 hbs
          generalize num ((zs.drop 2).take k) = x at *
          generalize zs.getD (2 + k) 0 = c at *
          clear ht
          go_wp2
          go_round
          case rel => exact ⟨k + 1, by omega, by go_num, by rw [HS.out]; simp⟩
          case measure => simp [intOf]; omega
        · obtain rfl : k = 8 := by omega
          have d0 := HG.out.cell c0
          have d1 := HG.out.cell c1
          rw [HL.out]
          have hx := HX.out
          have HV : Hid (fk = (((zs.getD 0 0 * 256 + zs.getD 1 0 : Nat) : Int), (num (zs.drop 2) : Int) - 9223372036854775808)) := by rw [Hid, HE.out.1, HB.out]
          generalize num (zs.drop 2) = u at *
          generalize zs.getD 0 0 = z0 at *
          generalize zs.getD 1 0 = z1 at *
          clear c0 c1 hbs
          go_wp2
          go_region
          go_wp2
          refine bodyPost_ret (v := .tuple #[.agg #[.int .i64 ((z0 : Int) * 256 + (z1 : Int)), .int .i64 ((u : Int) - 9223372036854775808)], .int .i64 0]) (by simp [results, Try.results83, go_sem]) rfl ?_
          refine ⟨?_, ((Grew.refl _).alloc _).drew⟩
          rw [HV.out, HE.out.2]
          simp

end Go.Proofs.Ytlilaicgmdbhcaa.Kk
/-
  THE WALK OF THE DOCUMENT's Bytes; bytes there and back.
-/
namespace Go.Proofs.Ytlilaicgmdbhcaa.Kk
open Go.RowKit Go.Sort

theorem below_grown' {w w1 : World} {row : Option Nat} {B : Nat} (h : w.grownBy w1 row) (hr : ∀ k, row = some k → B ≤ k) (hB : B ≤ w.heap.size) : Below B w w1 :=
  ⟨h.os, h.tape, h.output, h.size, fun k hk => h.block k (by omega) (fun e => by have := hr k e.symm; omega)⟩

theorem grown_alloc' {w : World} {o : Obj} {row : Option Nat} (w1 : World) (h : (w.alloc o).grownBy w1 row) : w.grownBy w1 row :=
  ⟨h.os, h.tape, h.output, Nat.le_trans (by simp) h.size, fun k hk hne => (h.block k (by simp; omega) hne).trans (Below.heap_alloc w o k hk)⟩

set_option maxHeartbeats 1000000 in
set_option maxRecDepth 20000 in
theorem refBytes_key (w : World) (t : Nat) (r : Int) (ht : t ≤ 65535) (hr : In64 r) :
    Calls Try.prog 59 #[.agg #[.int .i64 (t : Int), .int .i64 r]] w fun e w' => ∃ v, e = .returned (.tuple #[v, .int .i64 0]) ∧ OwnB w' w.heap.size v (keyBytes ((t : Int), r)) ∧ Below w.heap.size w w' := by
  have hk : isKey ((t : Int), r) = true := (isKey_iff _ _).2 (by omega)
  have hlen := keyBytes_length ((t : Int), r)
  have hlt := keyBytes_lt hk
  have HSp : Hid (∀ w, Calls Try.prog 73 #[.agg #[.int .i64 (t : Int), .int .i64 r]] w fun e w' => e = .returned (.agg (cellsU8 (keyBytes ((t : Int), r)))) ∧ ∃ q os, w' = grow (w.drewN q) os) := fun w => ten_any w t r ht hr
  have HCk : Hid (∀ w, Calls Try.prog 72 #[.agg #[.int .i64 (t : Int), .int .i64 r]] w fun e w' => e = .returned (.int .i64 0) ∧ ∃ q os, w' = grow (w.drewN q) os) := fun w => by
    have := refCheck_any w t r
    rwa [hk] at this
  generalize keyBytes ((t : Int), r) = L at *
  clear hk hr ht
  go_enter Try.func59, Try.ntmps59
  go_wp2_with fail
  have B0 : Hid (Box (w.alloc (.cells #[.int .i64 (t : Int), .int .i64 r] 77)) w.heap.size t r) := Box.new rfl
  have HG : Hid (Grew w (w.alloc (.cells #[.int .i64 (t : Int), .int .i64 r] 77))) := (Grew.refl _).alloc _
  generalize w.alloc (.cells #[.int .i64 (t : Int), .int .i64 r] 77) = W at *
  refine (HCk.out W).mono ?_
  rintro e w1 ⟨rfl, g1⟩
  have B1 : Hid (Box w1 w.heap.size t r) := B0.out.grew g1
  have HG1 : Hid (Grew w w1) := HG.out.trans g1
  clear g1 HCk B0 HG
  obtain ⟨p1, p2⟩ := B1.out
  go_wp2_with fail
  refine (HSp.out w1).mono ?_
  rintro e w2 ⟨rfl, g2⟩
  have HG2 : Hid (Grew w w2) := HG1.out.trans g2
  clear g2 HSp HG1 B1 p1 p2
  obtain ⟨a, b, c, d, f, g, i, j, k, l, hL⟩ := list10 hlen
  have hC := cells10 a b c d f g i j k l
  rw [← hL] at hC
  rw [hC]
  go_wp2
  rw [← hC]
  clear hC hL
  have HB2 : Hid (w.heap.size ≤ w2.heap.size) := HG2.out.size
  have HRow : Hid ((w2.alloc (.cells (cellsU8 L) 113)).heap[w2.heap.size]? = some (.cells (cellsU8 L) 113 (0, 0))) := heap_alloc_new _ _ rfl
  have HG3 : Hid (Grew w (w2.alloc (.cells (cellsU8 L) 113))) := HG2.out.alloc _
  have HS3 : Hid ((w2.alloc (.cells (cellsU8 L) 113)).heap.size = w2.heap.size + 1) := by rw [Hid]; simp
  generalize w2.alloc (.cells (cellsU8 L) 113) = W3 at *
  go_loopw [6, 7] (fun x y wr => ∃ n : Nat, n ≤ 10 ∧ y = .int .i64 (n : Int) ∧ Hid (OwnB wr W3.heap.size x (L.take n)) ∧ Hid (Below W3.heap.size W3 wr)) (fun _ y _ => 10 - (intOf y).toNat)
  case atStart => exact ⟨0, by omega, rfl, OwnB.nil _ _, Below.refl _ _⟩
  case round =>
    obtain ⟨n, hn, rfl, hO, hB⟩ := hrel
    by_cases hn' : n < 10
    · have hrow : wr.heap[w2.heap.size]? = some (.cells (cellsU8 L) 113 (0, 0)) := by rw [hB.out.block _ (by rw [HS3.out]; omega)]; exact HRow.out
      have hcell := row_cell hrow n (by omega)
      have hb := getD_lt hlt n
      have HT : Hid (L.take (n + 1) = L.take n ++ [L.getD n 0]) := take_snoc L n (by omega)
      clear hrow
      generalize L.getD n 0 = z at *
      go_wp2_with (at_builtin; refine wpList_append_bytes rfl _ _ rfl W3.heap.size _ (L.take n) rfl (hO.out.alloc _) _ _ _ [z] rfl rfl (byte_src _ _ z rfl hb) (by simp) (by simp; omega) (by have := hB.out.size; simp; omega) ?_; intro v' w4 hown1 hgrow1)
      have HW1 : Hid (OwnB w4 W3.heap.size v' (L.take (n + 1))) := by rw [HT.out]; exact hown1
      have HB1 : Hid (Below W3.heap.size W3 w4) := hB.out.trans (below_grown' (grown_alloc' w4 hgrow1) (fun k hk => (hO.out.2.lt k hk).1) hB.out.size)
      go_roundw
      case rel => exact ⟨n + 1, by omega, by go_num, HW1, HB1⟩
      case measure => simp [intOf]; omega
    · obtain rfl : n = 10 := by omega
      have HE : Hid (L.take 10 = L) := by rw [Hid, List.take_of_length_le (by omega)]
      go_wp2
      go_ret2
      refine ⟨u6, rfl, ?_, ?_⟩
      · have := hO.out.mono HG3.out.size
        rwa [HE.out] at this
      · exact HG3.out.below.trans (hB.out.mono HG3.out.size)

theorem refBytes_none (w : World) (t r : Int) (hk : isKey (t, r) = false) :
    Calls Try.prog 59 #[.agg #[.int .i64 t, .int .i64 r]] w fun e w' => e = .returned (.tuple #[.slice none 0 0, .int .i64 20]) ∧ Grew w w' := by
  have HCk : Hid (∀ w, Calls Try.prog 72 #[.agg #[.int .i64 t, .int .i64 r]] w fun e w' => e = .returned (.int .i64 20) ∧ ∃ q os, w' = grow (w.drewN q) os) := fun w => by
    have := refCheck_any w t r
    rwa [hk] at this
  clear hk
  go_enter Try.func59, Try.ntmps59
  go_wp2_with fail
  refine (HCk.out _).mono ?_
  rintro e w1 ⟨rfl, g1⟩
  have HG1 : Hid (Grew w w1) := ((Grew.refl _).alloc _).trans g1
  clear g1
  go_wp2
  go_ret2
  exact ⟨rfl, HG1.out⟩

end Go.Proofs.Ytlilaicgmdbhcaa.Kk
