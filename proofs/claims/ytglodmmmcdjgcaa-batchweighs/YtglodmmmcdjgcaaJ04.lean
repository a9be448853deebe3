import Derived.Test.YtglodmmmcdjgcaaJ01
import Derived.Test.YtglodmmmcdjgcaaJ03
import Derived.Deep.RegionLaw
/-
  THE WALK OF spell.
-/
namespace Go.Proofs.Ytglodmmmcdjgcaa.Kk
open Go.RowKit Go.Sort

theorem list10 {L : List Nat} (h : L.length = 10) : ∃ a b c d e f g i j k, L = [a, b, c, d, e, f, g, i, j, k] := by
  match L, h with
  | [a, b, c, d, e, f, g, i, j, k], _ => exact ⟨a, b, c, d, e, f, g, i, j, k, rfl⟩
theorem setCell_alloc (w : World) (c : Array Value) (t : TypeId) (g i : Nat) (v : Value) (hg : g = w.heap.size) : (w.alloc (.cells c t)).setCell ⟨g, i, none⟩ v = w.alloc (.cells (c.setIfInBounds i v) t) := by
  subst hg
  have h := heap_setCell_same (w.alloc (.cells c t)) w.heap.size i c t v (heap_alloc_new _ _ rfl)
  have ho := fun k hk => heap_setCell_other (w.alloc (.cells c t)) ⟨w.heap.size, i, none⟩ k v hk
  have hs : ((w.alloc (.cells c t)).setCell ⟨w.heap.size, i, none⟩ v).heap = (w.alloc (.cells (c.setIfInBounds i v) t)).heap := by
    apply Array.ext_getElem?
    intro k
    by_cases hk : k = w.heap.size
    · subst hk; rw [h, heap_alloc_new _ _ rfl]
    · rw [ho k hk]
      by_cases hlt : k < w.heap.size
      · rw [heap_alloc_old _ _ hlt, heap_alloc_old _ _ hlt]
      · rw [Array.getElem?_eq_none_iff.2 (by simp; omega), Array.getElem?_eq_none_iff.2 (by simp; omega)]
  unfold World.alloc at hs ⊢
  unfold World.setCell at hs ⊢
  simp only at hs ⊢
  rw [hs]

theorem xor_row (r : Int) (hr : In64 r) : bits .xor .u64 (IntKind.u64.wrap r) 9223372036854775808 = ((turn r : Nat) : Int) := by
  obtain ⟨h1, h2⟩ := hr
  obtain ⟨x, hx, hl⟩ : ∃ x : Nat, IntKind.u64.wrap r = (x : Int) ∧ x < 18446744073709551616 := ⟨(r % 18446744073709551616).toNat, by rw [IntKind.wrap_u64]; omega, by omega⟩
  have h := u64_xor_nat x 9223372036854775808 hl (by omega)
  have hx' := hx
  rw [IntKind.wrap_u64] at hx'
  rw [hx, show (9223372036854775808 : Int) = ((9223372036854775808 : Nat) : Int) from rfl, h, xor_top x hl]
  unfold turn
  omega
theorem row_cell {w : World} {g : Nat} {L : List Nat} {t : TypeId} (h : w.heap[g]? = some (.cells (cellsU8 L) t (0, 0))) (j : Nat) (hj : j < L.length) : w.cell? ⟨g, j, none⟩ = some (.int .u8 ((L.getD j 0 : Nat) : Int)) := by
  have := getElem?_cellsU8 L j hj
  simp [World.cell?, h, this]
theorem set_row (a b m z : Nat) (M : List Nat) : ([a, b] ++ List.replicate (m + 1) 0 ++ M).set (m + 2) z = [a, b] ++ List.replicate m 0 ++ z :: M := by
  rw [List.replicate_succ', List.append_assoc, List.append_assoc, ← List.append_assoc [a, b], List.set_append_right _ _ (by simp)]
  simp
theorem row_start (t : Nat) : (#[.int .u8 ((t : Int) / 256), .int .u8 ((t : Int) % 256), .int .u8 0, .int .u8 0, .int .u8 0, .int .u8 0, .int .u8 0, .int .u8 0, .int .u8 0, .int .u8 0] : Array Value) = cellsU8 ([t / 256, t % 256] ++ List.replicate 8 0 ++ []) := by
  simp [cellsU8, b8, List.replicate_succ]
theorem cells10 (a b c d e f g i j k : Nat) : cellsU8 [a, b, c, d, e, f, g, i, j, k] = #[.int .u8 (a : Int), .int .u8 (b : Int), .int .u8 (c : Int), .int .u8 (d : Int), .int .u8 (e : Int), .int .u8 (f : Int), .int .u8 (g : Int), .int .u8 (i : Int), .int .u8 (j : Int), .int .u8 (k : Int)] := rfl

end Go.Proofs.Ytglodmmmcdjgcaa.Kk
/-
  THE WALKS OF Hash, Partition.
-/
namespace Go.Proofs.Ytglodmmmcdjgcaa.Kk
open Go.RowKit Go.Sort

theorem fnv_step (h c : Nat) (hh : h < 18446744073709551616) (hc : c < 256) :
    bits .xor .u64 (h : Int) (c : Int) = ((h ^^^ c : Nat) : Int) ∧ h ^^^ c < 18446744073709551616 ∧ IntKind.u64.wrap (((h ^^^ c : Nat) : Int) * 1099511628211) = ((fnvStep h c : Nat) : Int) := by
  have h1 : h ^^^ c < 18446744073709551616 := Nat.xor_lt_two_pow (n := 64) hh (by omega)
  refine ⟨u64_xor_nat h c hh (by omega), h1, ?_⟩
  rw [IntKind.wrap_u64]
  unfold fnvStep
  omega
theorem isKey_iff (t r : Int) : isKey (t, r) = true ↔ 0 ≤ t ∧ t ≤ 65535 := by simp [isKey]
theorem isKey_false (t r : Int) : isKey (t, r) = false ↔ ¬ (0 ≤ t ∧ t ≤ 65535) := by rw [← isKey_iff t r]; simp

def okParts (p : Int) : Bool := decide (1 ≤ p) && decide (p ≤ 256)
theorem okParts_iff (p : Int) : okParts p = true ↔ 1 ≤ p ∧ p ≤ 256 := by simp [okParts]
/-- what Partition answers -/
def partV (k : K) (p : Int) : Int := if isKey k then (if okParts p then ((hash k : Int) % p) else 0) else 0
def partE (k : K) (p : Int) : Int := if isKey k then (if okParts p then 0 else 21) else 20



end Go.Proofs.Ytglodmmmcdjgcaa.Kk
/-
  THE WALKS OF Bytes, FromBytes.
-/
namespace Go.Proofs.Ytglodmmmcdjgcaa.Kk
open Go.RowKit Go.Sort

/-- the key of ten bytes -/
def fromB (zs : List Nat) : K := ((zs.getD 0 0 * 256 + zs.getD 1 0 : Nat), (num (zs.drop 2) : Int) - 9223372036854775808)
def fromK (zs : List Nat) : K := if zs.length = 10 then fromB zs else (0, 0)
def fromE (zs : List Nat) : Int := if zs.length < 10 then 10 else if 10 < zs.length then 11 else 0

theorem or_byte (a c : Nat) (ha : a < 72057594037927936) (hc : c < 256) : bits .or .u64 ((a : Int) * 256) (c : Int) = ((a * 256 + c : Nat) : Int) := by
  have h := u64_or_nat (a * 256) c (by omega) (by omega)
  rw [show ((a * 256 : Nat) : Int) = (a : Int) * 256 by omega] at h
  rw [h]
  congr 1
  have := Nat.two_pow_add_eq_or_of_lt (i := 8) (b := c) hc a
  rw [show 2 ^ 8 * a = a * 256 by omega] at this
  exact this.symm
theorem i64_or_nat (a b : Nat) (ha : a < 65536) (hb : b < 65536) : bits .or .i64 (a : Int) (b : Int) = ((a ||| b : Nat) : Int) := by
  have hx : a ||| b < 2 ^ 16 := Nat.or_lt_two_pow (by omega) (by omega)
  show IntKind.i64.wrap ((BitVec.ofInt 64 (a : Int) ||| BitVec.ofInt 64 (b : Int)).toNat : Int) = _
  rw [BitVec.toNat_or, ofInt_u64 a (by omega), ofInt_u64 b (by omega), IntKind.wrap_i64]
  omega
theorem or_byte_i (a c : Nat) (ha : a < 256) (hc : c < 256) : bits .or .i64 ((a : Int) * 256) (c : Int) = ((a * 256 + c : Nat) : Int) := by
  have h := i64_or_nat (a * 256) c (by omega) (by omega)
  rw [show ((a * 256 : Nat) : Int) = (a : Int) * 256 by omega] at h
  rw [h]
  congr 1
  have := Nat.two_pow_add_eq_or_of_lt (i := 8) (b := c) hc a
  rw [show 2 ^ 8 * a = a * 256 by omega] at this
  exact this.symm
theorem xor_back (u : Nat) (hu : u < 18446744073709551616) : IntKind.i64.wrap (bits .xor .u64 (u : Int) 9223372036854775808) = (u : Int) - 9223372036854775808 := by
  have h := u64_xor_nat u 9223372036854775808 hu (by omega)
  rw [show ((9223372036854775808 : Nat) : Int) = 9223372036854775808 from rfl] at h
  rw [h, xor_top u hu, IntKind.wrap_i64]
  omega
theorem num_take (zs : List Nat) (n : Nat) (h : n < zs.length) : num (zs.take (n + 1)) = num (zs.take n) * 256 + zs.getD n 0 := by
  rw [take_snoc zs n h, num_snoc]

/-- the ret of a function whose first result is a key in a cell -/
theorem num8_lt (zs : List Nat) (hz : ∀ z ∈ zs, z < 256) (n : Nat) (hn : n ≤ 7) : num ((zs.drop 2).take n) < 72057594037927936 := by
  have h := num_lt ((zs.drop 2).take n) (fun z h => hz z (List.mem_of_mem_drop (List.mem_of_mem_take h)))
  have hl : ((zs.drop 2).take n).length ≤ 7 := by simp; omega
  have : 256 ^ ((zs.drop 2).take n).length ≤ 256 ^ 7 := Nat.pow_le_pow_right (by omega) hl
  omega
theorem num10_lt (zs : List Nat) (hz : ∀ z ∈ zs, z < 256) (h10 : zs.length = 10) : num (zs.drop 2) < 18446744073709551616 := by
  have h := num_lt (zs.drop 2) (fun z h => hz z (List.mem_of_mem_drop h))
  rw [show (zs.drop 2).length = 8 by simp; omega] at h
  omega
theorem getD_drop2 (zs : List Nat) (n : Nat) : (zs.drop 2).getD n 0 = zs.getD (2 + n) 0 := by
  simp [List.getD_eq_getElem?_getD]

end Go.Proofs.Ytglodmmmcdjgcaa.Kk
