/-
  THE WALKS OF Bytes, FromBytes.
-/
import Derived.Test.YtciogmenoighoaaQHash
import Derived.Deep.RegionLaw
namespace Go.Proofs.Ytciogmenoighoaa.Kk
open Go.RowKit Go.Sort

set_option maxHeartbeats 1000000 in
set_option maxRecDepth 20000 in
theorem bytes_key (w : World) (t : Nat) (r : Int) (ht : t ≤ 65535) (hr : In64 r) :
    Calls Try.prog 57 #[.agg #[.int .i64 (t : Int), .int .i64 r]] w fun e w' => ∃ B, e = .returned (.tuple #[.slice (some ⟨B, 0, none⟩) 10 10, .int .i64 0]) ∧ w.heap.size ≤ B ∧ w'.heap.size = B + 1 ∧
      w'.heap[B]? = some (.cells (cellsU8 (keyBytes ((t : Int), r))) 135 (0, 0)) ∧ Grew w w' := by
  have hk : isKey ((t : Int), r) = true := (isKey_iff _ _).2 (by omega)
  have hlen := keyBytes_length ((t : Int), r)
  have HSp : Hid (∀ w, Calls Try.prog 74 #[.agg #[.int .i64 (t : Int), .int .i64 r]] w fun e w' => e = .returned (.agg (cellsU8 (keyBytes ((t : Int), r)))) ∧ ∃ q os, w' = grow (w.drewN q) os) := fun w => spell_any w t r ht hr
  have HCk : Hid (∀ w, Calls Try.prog 72 #[.agg #[.int .i64 (t : Int), .int .i64 r]] w fun e w' => e = .returned (.int .i64 0) ∧ ∃ q os, w' = grow (w.drewN q) os) := fun w => by
    have := check_any w t r
    rwa [hk] at this
  generalize keyBytes ((t : Int), r) = L at *
  clear hk hr ht
  go_enter Try.func57, Try.ntmps57
  go_wp2_with fail
  have B0 : Hid (Box (w.alloc (.cells #[.int .i64 (t : Int), .int .i64 r] 78)) w.heap.size t r) := Box.new rfl
  have HG : Hid (Grew w (w.alloc (.cells #[.int .i64 (t : Int), .int .i64 r] 78))) := (Grew.refl _).alloc _
  generalize w.alloc (.cells #[.int .i64 (t : Int), .int .i64 r] 78) = W at *
  refine (HCk.out W).mono ?_
  rintro e w1 ⟨rfl, g1⟩
  have B1 : Hid (Box w1 w.heap.size t r) := B0.out.grew g1
  have HG1 : Hid (Grew w w1) := HG.out.trans g1
  clear g1 HCk B0 HG
  obtain ⟨p1, p2⟩ := B1.out
  go_wp2_with fail
  refine (HSp.out w1).mono ?_
  rintro e w2 ⟨rfl, g2⟩
  have HG2 : Hid (Grew w w2) := HG1.out.trans g2
  clear g2 HSp HG1 B1 p1 p2
  obtain ⟨a, b, c, d, f, g, i, j, k, l, rfl⟩ := list10 hlen
  have hC := cells10 a b c d f g i j k l
  rw [hC]
  have HC : Hid _ := hC
  clear hC
  go_wp2
  go_ret2
  exact ⟨w2.heap.size, rfl, HG2.out.size, by simp, by rw [HC.out]; exact heap_alloc_new _ _ rfl, HG2.out.alloc _⟩

theorem bytes_none (w : World) (t r : Int) (hk : isKey (t, r) = false) :
    Calls Try.prog 57 #[.agg #[.int .i64 t, .int .i64 r]] w fun e w' => e = .returned (.tuple #[.slice none 0 0, .int .i64 20]) ∧ Grew w w' := by
  have HCk : Hid (∀ w, Calls Try.prog 72 #[.agg #[.int .i64 t, .int .i64 r]] w fun e w' => e = .returned (.int .i64 20) ∧ ∃ q os, w' = grow (w.drewN q) os) := fun w => by
    have := check_any w t r
    rwa [hk] at this
  clear hk
  go_enter Try.func57, Try.ntmps57
  go_wp2_with fail
  refine (HCk.out _).mono ?_
  rintro e w1 ⟨rfl, g1⟩
  have HG1 : Hid (Grew w w1) := ((Grew.refl _).alloc _).trans g1
  clear g1
  go_wp2
  go_ret2
  exact ⟨rfl, HG1.out⟩

/-- the key of ten bytes -/
def fromB (zs : List Nat) : K := ((zs.getD 0 0 * 256 + zs.getD 1 0 : Nat), (num (zs.drop 2) : Int) - 9223372036854775808)
def fromK (zs : List Nat) : K := if zs.length = 10 then fromB zs else (0, 0)
def fromE (zs : List Nat) : Int := if zs.length < 10 then 10 else if 10 < zs.length then 11 else 0

theorem or_byte (a c : Nat) (ha : a < 72057594037927936) (hc : c < 256) : bits .or .u64 ((a : Int) * 256) (c : Int) = ((a * 256 + c : Nat) : Int) := by
  have h := u64_or_nat (a * 256) c (by omega) (by omega)
  rw [show ((a * 256 : Nat) : Int) = (a : Int) * 256 by omega] at h
  rw [h]
  congr 1
  have := Nat.two_pow_add_eq_or_of_lt (i := 8) (b := c) hc a
  rw [show 2 ^ 8 * a = a * 256 by omega] at this
  exact this.symm
theorem i64_or_nat (a b : Nat) (ha : a < 65536) (hb : b < 65536) : bits .or .i64 (a : Int) (b : Int) = ((a ||| b : Nat) : Int) := by
  have hx : a ||| b < 2 ^ 16 := Nat.or_lt_two_pow (by omega) (by omega)
  show IntKind.i64.wrap ((BitVec.ofInt 64 (a : Int) ||| BitVec.ofInt 64 (b : Int)).toNat : Int) = _
  rw [BitVec.toNat_or, ofInt_u64 a (by omega), ofInt_u64 b (by omega), IntKind.wrap_i64]
  omega
theorem or_byte_i (a c : Nat) (ha : a < 256) (hc : c < 256) : bits .or .i64 ((a : Int) * 256) (c : Int) = ((a * 256 + c : Nat) : Int) := by
  have h := i64_or_nat (a * 256) c (by omega) (by omega)
  rw [show ((a * 256 : Nat) : Int) = (a : Int) * 256 by omega] at h
  rw [h]
  congr 1
  have := Nat.two_pow_add_eq_or_of_lt (i := 8) (b := c) hc a
  rw [show 2 ^ 8 * a = a * 256 by omega] at this
  exact this.symm
theorem xor_back (u : Nat) (hu : u < 18446744073709551616) : IntKind.i64.wrap (bits .xor .u64 (u : Int) 9223372036854775808) = (u : Int) - 9223372036854775808 := by
  have h := u64_xor_nat u 9223372036854775808 hu (by omega)
  rw [show ((9223372036854775808 : Nat) : Int) = 9223372036854775808 from rfl] at h
  rw [h, xor_top u hu, IntKind.wrap_i64]
  omega
theorem num_take (zs : List Nat) (n : Nat) (h : n < zs.length) : num (zs.take (n + 1)) = num (zs.take n) * 256 + zs.getD n 0 := by
  rw [take_snoc zs n h, num_snoc]

/-- the ret of a function whose first result is a key in a cell -/
theorem num8_lt (zs : List Nat) (hz : ∀ z ∈ zs, z < 256) (n : Nat) (hn : n ≤ 7) : num ((zs.drop 2).take n) < 72057594037927936 := by
  have h := num_lt ((zs.drop 2).take n) (fun z h => hz z (List.mem_of_mem_drop (List.mem_of_mem_take h)))
  have hl : ((zs.drop 2).take n).length ≤ 7 := by simp; omega
  have : 256 ^ ((zs.drop 2).take n).length ≤ 256 ^ 7 := Nat.pow_le_pow_right (by omega) hl
  omega
theorem num10_lt (zs : List Nat) (hz : ∀ z ∈ zs, z < 256) (h10 : zs.length = 10) : num (zs.drop 2) < 18446744073709551616 := by
  have h := num_lt (zs.drop 2) (fun z h => hz z (List.mem_of_mem_drop h))
  rw [show (zs.drop 2).length = 8 by simp; omega] at h
  omega
theorem getD_drop2 (zs : List Nat) (n : Nat) : (zs.drop 2).getD n 0 = zs.getD (2 + n) 0 := by
  simp [List.getD_eq_getElem?_getD]

set_option maxHeartbeats 1000000 in
set_option maxRecDepth 20000 in
theorem fromBytes_any (w : World) (ao : Option Addr) (cap n : Nat) (zs : List Nat) (hn : n = zs.length) (h : BytesAt w ao zs) (hnc : n ≤ cap) (hm : n ≤ maxLen) :
    Calls Try.prog 97 #[.slice ao n cap] w fun e w' => e = .returned (.tuple #[.agg #[.int .i64 (fromK zs).1, .int .i64 (fromK zs).2], .int .i64 (fromE zs)]) ∧ Grew w w' := by
  unfold maxLen at hm
  by_cases h1 : n < 10
  · have HE : Hid (fromK zs = (0, 0) ∧ fromE zs = 10) := by rw [Hid]; unfold fromK fromE; rw [if_neg (by omega), if_pos (by omega)]; exact ⟨rfl, rfl⟩
    clear h hn
    go_enter Try.func97, Try.ntmps97
    go_wp2
    refine bodyPost_ret (v := .tuple #[.agg #[.int .i64 0, .int .i64 0], .int .i64 10]) (by simp [results, Try.results97, go_sem]) rfl ?_
    exact ⟨by rw [HE.out.1, HE.out.2], (Grew.refl _).alloc _⟩
  · by_cases h2 : 10 < n
    · have HE : Hid (fromK zs = (0, 0) ∧ fromE zs = 11) := by rw [Hid]; unfold fromK fromE; rw [if_neg (by omega), if_neg (by omega), if_pos (by omega)]; exact ⟨rfl, rfl⟩
      clear h hn
      go_enter Try.func97, Try.ntmps97
      go_wp2
      refine bodyPost_ret (v := .tuple #[.agg #[.int .i64 0, .int .i64 0], .int .i64 11]) (by simp [results, Try.results97, go_sem]) rfl ?_
      exact ⟨by rw [HE.out.1, HE.out.2], (Grew.refl _).alloc _⟩
    · obtain rfl : n = 10 := by omega
      have HE : Hid (fromK zs = fromB zs ∧ fromE zs = 0) := by rw [Hid]; unfold fromK fromE; rw [if_pos (by omega), if_neg (by omega), if_neg (by omega)]; exact ⟨rfl, rfl⟩
      have HB : Hid (fromB zs = (((zs.getD 0 0 * 256 + zs.getD 1 0 : Nat) : Int), (num (zs.drop 2) : Int) - 9223372036854775808)) := rfl
      generalize fromK zs = fk at *
      generalize fromE zs = fe at *
      generalize fromB zs = fb at *
      obtain ⟨hz, rfl | ⟨b, off, rfl, hc⟩⟩ := h
      · simp at hn
      have hu := num10_lt zs hz hn.symm
      have HN : Hid (∀ k, k ≤ 7 → num ((zs.drop 2).take k) < 72057594037927936) := num8_lt zs hz
      have HT : Hid (∀ k, k < 8 → num ((zs.drop 2).take (k + 1)) = num ((zs.drop 2).take k) * 256 + zs.getD (2 + k) 0) := fun k hk => by rw [num_take _ _ (by simp; omega), getD_drop2]
      have HL : Hid ((zs.drop 2).take 8 = zs.drop 2) := by rw [Hid, List.take_of_length_le (by simp; omega)]
      have hbs := fun k => getD_lt hz k
      have c0 := hc 0 (by omega)
      have c1 := hc 1 (by omega)
      rw [Nat.add_zero] at c0
      have HC : Hid (∀ k, k < 8 → w.cell? ⟨b, off + 2 + k, none⟩ = some (.int .u8 ((zs.getD (2 + k) 0 : Nat) : Int))) := fun k hk => by
        have := hc (2 + k) (by omega)
        rwa [← Nat.add_assoc] at this
      have b0 := hbs 0
      have b1 := hbs 1
      have HO : Hid _ := or_byte_i _ _ b0 b1
      have HX : Hid _ := xor_back _ hu
      have HG : Hid (Grew w (w.alloc (Obj.cells #[.int .i64 0, .int .i64 0] 78))) := (Grew.refl _).alloc _
      have hbs' : b < w.heap.size := cell_lt c0
      clear hc hz hn
      go_enter Try.func97, Try.ntmps97
      go_wp2
      go_loop [4, 18] (fun x y => ∃ k : Nat, k ≤ 8 ∧ y = .int .i64 (k : Int) ∧ x = .int .u64 ((num ((zs.drop 2).take k) : Nat) : Int)) (fun _ y => 8 - (intOf y).toNat)
      case atStart => exact ⟨0, by omega, rfl, rfl⟩
      case round =>
        obtain ⟨k, hk, rfl, rfl⟩ := hrel
        by_cases hk' : k < 8
        · have hl := HN.out k (by omega)
          have ht := HT.out k hk'
          have hcc := HG.out.cell (HC.out k hk')
          have hb := hbs (2 + k)
          have ho := or_byte _ _ hl hb
          rw [← ht] at ho
          clear c0 c1 hbs
          generalize num ((zs.drop 2).take k) = x at *
          generalize zs.getD (2 + k) 0 = c at *
          clear ht
          go_wp2
          go_round
          case rel => exact ⟨k + 1, by omega, by go_num, rfl⟩
          case measure => simp [intOf]; omega
        · obtain rfl : k = 8 := by omega
          have d0 := HG.out.cell c0
          have d1 := HG.out.cell c1
          rw [HL.out]
          have ho := HO.out
          have hx := HX.out
          have HV : Hid (fk = (((zs.getD 0 0 * 256 + zs.getD 1 0 : Nat) : Int), (num (zs.drop 2) : Int) - 9223372036854775808)) := by rw [Hid, HE.out.1, HB.out]
          generalize num (zs.drop 2) = u at *
          generalize zs.getD 0 0 = z0 at *
          generalize zs.getD 1 0 = z1 at *
          clear c0 c1 hbs
          go_wp2
          go_region
          go_wp2
          refine bodyPost_ret (v := .tuple #[.agg #[.int .i64 ((z0 : Int) * 256 + (z1 : Int)), .int .i64 ((u : Int) - 9223372036854775808)], .int .i64 0]) (by simp [results, Try.results97, go_sem]) rfl ?_
          refine ⟨?_, ((Grew.refl _).alloc _).drew⟩
          rw [HV.out, HE.out.2]
          simp

end Go.Proofs.Ytciogmenoighoaa.Kk
