/-
  THE WALKS OF Bytes, FromBytes.
-/
import Derived.Test.YtnjgaibcpcpmcacDoorHash
import Derived.Deep.RegionLaw
namespace Go.Proofs.YtnjgaibcpcpmcacDoor
open Go.RowKit Go.Sort

set_option maxHeartbeats 1000000 in
set_option maxRecDepth 20000 in
theorem bytes_key (w : World) (t : Nat) (r : Int) (ht : t ≤ 65535) (hr : In64 r) :
    Calls Tryd.prog 20 #[.agg #[.int .i64 (t : Int), .int .i64 r]] w fun e w' => ∃ B, e = .returned (.tuple #[.slice (some ⟨B, 0, none⟩) 10 10, .int .i64 0]) ∧ w.heap.size ≤ B ∧ w'.heap.size = B + 1 ∧
      w'.heap[B]? = some (.cells (cellsU8 (keyBytes ((t : Int), r))) 60 (0, 0)) ∧ Grew w w' := by
  have hk : isKey ((t : Int), r) = true := (isKey_iff _ _).2 (by omega)
  have hlen := keyBytes_length ((t : Int), r)
  have HSp : Hid (∀ w, Calls Tryd.prog 34 #[.agg #[.int .i64 (t : Int), .int .i64 r]] w fun e w' => e = .returned (.agg (cellsU8 (keyBytes ((t : Int), r)))) ∧ ∃ q os, w' = grow (w.drewN q) os) := fun w => spell_any w t r ht hr
  have HCk : Hid (∀ w, Calls Tryd.prog 21 #[.agg #[.int .i64 (t : Int), .int .i64 r]] w fun e w' => e = .returned (.int .i64 0) ∧ ∃ q os, w' = grow (w.drewN q) os) := fun w => by
    have := check_any w t r
    rwa [hk] at this
  generalize keyBytes ((t : Int), r) = L at *
  clear hk hr ht
  go_enter Tryd.func20, Tryd.ntmps20
  go_wp2_with fail
  have B0 : Hid (Box (w.alloc (.cells #[.int .i64 (t : Int), .int .i64 r] 24)) w.heap.size t r) := Box.new rfl
  have HG : Hid (Grew w (w.alloc (.cells #[.int .i64 (t : Int), .int .i64 r] 24))) := (Grew.refl _).alloc _
  generalize w.alloc (.cells #[.int .i64 (t : Int), .int .i64 r] 24) = W at *
  refine (HCk.out W).mono ?_
  rintro e w1 ⟨rfl, g1⟩
  have B1 : Hid (Box w1 w.heap.size t r) := B0.out.grew g1
  have HG1 : Hid (Grew w w1) := HG.out.trans g1
  clear g1 HCk B0 HG
  obtain ⟨p1, p2⟩ := B1.out
  go_wp2_with fail
  refine (HSp.out w1).mono ?_
  rintro e w2 ⟨rfl, g2⟩
  have HG2 : Hid (Grew w w2) := HG1.out.trans g2
  clear g2 HSp HG1 B1 p1 p2
  obtain ⟨a, b, c, d, f, g, i, j, k, l, rfl⟩ := list10 hlen
  have hC := cells10 a b c d f g i j k l
  rw [hC]
  have HC : Hid _ := hC
  clear hC
  go_wp2
  go_ret2
  exact ⟨w2.heap.size, rfl, HG2.out.size, by simp, by rw [HC.out]; exact heap_alloc_new _ _ rfl, HG2.out.alloc _⟩

theorem bytes_none (w : World) (t r : Int) (hk : isKey (t, r) = false) :
    Calls Tryd.prog 20 #[.agg #[.int .i64 t, .int .i64 r]] w fun e w' => e = .returned (.tuple #[.slice none 0 0, .int .i64 20]) ∧ Grew w w' := by
  have HCk : Hid (∀ w, Calls Tryd.prog 21 #[.agg #[.int .i64 t, .int .i64 r]] w fun e w' => e = .returned (.int .i64 20) ∧ ∃ q os, w' = grow (w.drewN q) os) := fun w => by
    have := check_any w t r
    rwa [hk] at this
  clear hk
  go_enter Tryd.func20, Tryd.ntmps20
  go_wp2_with fail
  refine (HCk.out _).mono ?_
  rintro e w1 ⟨rfl, g1⟩
  have HG1 : Hid (Grew w w1) := ((Grew.refl _).alloc _).trans g1
  clear g1
  go_wp2
  go_ret2
  exact ⟨rfl, HG1.out⟩

/-- the key of ten bytes -/
def fromB (zs : List Nat) : K := ((zs.getD 0 0 * 256 + zs.getD 1 0 : Nat), (num (zs.drop 2) : Int) - 9223372036854775808)
def fromK (zs : List Nat) : K := if zs.length = 10 then fromB zs else (0, 0)
def fromE (zs : List Nat) : Int := if zs.length < 10 then 10 else if 10 < zs.length then 11 else 0

theorem or_byte (a c : Nat) (ha : a < 72057594037927936) (hc : c < 256) : bits .or .u64 ((a : Int) * 256) (c : Int) = ((a * 256 + c : Nat) : Int) := by
  have h := u64_or_nat (a * 256) c (by omega) (by omega)
  rw [show ((a * 256 : Nat) : Int) = (a : Int) * 256 by omega] at h
  rw [h]
  congr 1
  have := Nat.two_pow_add_eq_or_of_lt (i := 8) (b := c) hc a
  rw [show 2 ^ 8 * a = a * 256 by omega] at this
  exact this.symm
theorem i64_or_nat (a b : Nat) (ha : a < 65536) (hb : b < 65536) : bits .or .i64 (a : Int) (b : Int) = ((a ||| b : Nat) : Int) := by
  have hx : a ||| b < 2 ^ 16 := Nat.or_lt_two_pow (by omega) (by omega)
  show IntKind.i64.wrap ((BitVec.ofInt 64 (a : Int) ||| BitVec.ofInt 64 (b : Int)).toNat : Int) = _
  rw [BitVec.toNat_or, ofInt_u64 a (by omega), ofInt_u64 b (by omega), IntKind.wrap_i64]
  omega
theorem or_byte_i (a c : Nat) (ha : a < 256) (hc : c < 256) : bits .or .i64 ((a : Int) * 256) (c : Int) = ((a * 256 + c : Nat) : Int) := by
  have h := i64_or_nat (a * 256) c (by omega) (by omega)
  rw [show ((a * 256 : Nat) : Int) = (a : Int) * 256 by omega] at h
  rw [h]
  congr 1
  have := Nat.two_pow_add_eq_or_of_lt (i := 8) (b := c) hc a
  rw [show 2 ^ 8 * a = a * 256 by omega] at this
  exact this.symm
theorem xor_back (u : Nat) (hu : u < 18446744073709551616) : IntKind.i64.wrap (bits .xor .u64 (u : Int) 9223372036854775808) = (u : Int) - 9223372036854775808 := by
  have h := u64_xor_nat u 9223372036854775808 hu (by omega)
  rw [show ((9223372036854775808 : Nat) : Int) = 9223372036854775808 from rfl] at h
  rw [h, xor_top u hu, IntKind.wrap_i64]
  omega
theorem num_take (zs : List Nat) (n : Nat) (h : n < zs.length) : num (zs.take (n + 1)) = num (zs.take n) * 256 + zs.getD n 0 := by
  rw [take_snoc zs n h, num_snoc]

/-- the ret of a function whose first result is a key in a cell -/
theorem num8_lt (zs : List Nat) (hz : ∀ z ∈ zs, z < 256) (n : Nat) (hn : n ≤ 7) : num ((zs.drop 2).take n) < 72057594037927936 := by
  have h := num_lt ((zs.drop 2).take n) (fun z h => hz z (List.mem_of_mem_drop (List.mem_of_mem_take h)))
  have hl : ((zs.drop 2).take n).length ≤ 7 := by simp; omega
  have : 256 ^ ((zs.drop 2).take n).length ≤ 256 ^ 7 := Nat.pow_le_pow_right (by omega) hl
  omega
theorem num10_lt (zs : List Nat) (hz : ∀ z ∈ zs, z < 256) (h10 : zs.length = 10) : num (zs.drop 2) < 18446744073709551616 := by
  have h := num_lt (zs.drop 2) (fun z h => hz z (List.mem_of_mem_drop h))
  rw [show (zs.drop 2).length = 8 by simp; omega] at h
  omega
theorem getD_drop2 (zs : List Nat) (n : Nat) : (zs.drop 2).getD n 0 = zs.getD (2 + n) 0 := by
  simp [List.getD_eq_getElem?_getD]

end Go.Proofs.YtnjgaibcpcpmcacDoor
