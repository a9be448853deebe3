import Derived.Test.YtcaibgbhebldmaaGreatJ01
import Derived.Test.YtcaibgbhebldmaaGreatJ03
import Derived.Deep.RegionLaw
/-
  THE WALK OF spell.
-/
namespace Go.Proofs.YtcaibgbhebldmaaGreat.Kk
open Go.RowKit Go.Sort

theorem list10 {L : List Nat} (h : L.length = 10) : ∃ a b c d e f g i j k, L = [a, b, c, d, e, f, g, i, j, k] := by
  match L, h with
  | [a, b, c, d, e, f, g, i, j, k], _ => exact ⟨a, b, c, d, e, f, g, i, j, k, rfl⟩
theorem setCell_alloc (w : World) (c : Array Value) (t : TypeId) (g i : Nat) (v : Value) (hg : g = w.heap.size) : (w.alloc (.cells c t)).setCell ⟨g, i, none⟩ v = w.alloc (.cells (c.setIfInBounds i v) t) := by
  subst hg
  have h := heap_setCell_same (w.alloc (.cells c t)) w.heap.size i c t v (heap_alloc_new _ _ rfl)
  have ho := fun k hk => heap_setCell_other (w.alloc (.cells c t)) ⟨w.heap.size, i, none⟩ k v hk
  have hs : ((w.alloc (.cells c t)).setCell ⟨w.heap.size, i, none⟩ v).heap = (w.alloc (.cells (c.setIfInBounds i v) t)).heap := by
    apply Array.ext_getElem?
    intro k
    by_cases hk : k = w.heap.size
    · subst hk; rw [h, heap_alloc_new _ _ rfl]
    · rw [ho k hk]
      by_cases hlt : k < w.heap.size
      · rw [heap_alloc_old _ _ hlt, heap_alloc_old _ _ hlt]
      · rw [Array.getElem?_eq_none_iff.2 (by simp; omega), Array.getElem?_eq_none_iff.2 (by simp; omega)]
  unfold World.alloc at hs ⊢
  unfold World.setCell at hs ⊢
  simp only at hs ⊢
  rw [hs]

theorem xor_row (r : Int) (hr : In64 r) : bits .xor .u64 (IntKind.u64.wrap r) 9223372036854775808 = ((turn r : Nat) : Int) := by
  obtain ⟨h1, h2⟩ := hr
  obtain ⟨x, hx, hl⟩ : ∃ x : Nat, IntKind.u64.wrap r = (x : Int) ∧ x < 18446744073709551616 := ⟨(r % 18446744073709551616).toNat, by rw [IntKind.wrap_u64]; omega, by omega⟩
  have h := u64_xor_nat x 9223372036854775808 hl (by omega)
  have hx' := hx
  rw [IntKind.wrap_u64] at hx'
  rw [hx, show (9223372036854775808 : Int) = ((9223372036854775808 : Nat) : Int) from rfl, h, xor_top x hl]
  unfold turn
  omega
theorem row_cell {w : World} {g : Nat} {L : List Nat} {t : TypeId} (h : w.heap[g]? = some (.cells (cellsU8 L) t (0, 0))) (j : Nat) (hj : j < L.length) : w.cell? ⟨g, j, none⟩ = some (.int .u8 ((L.getD j 0 : Nat) : Int)) := by
  have := getElem?_cellsU8 L j hj
  simp [World.cell?, h, this]
theorem set_row (a b m z : Nat) (M : List Nat) : ([a, b] ++ List.replicate (m + 1) 0 ++ M).set (m + 2) z = [a, b] ++ List.replicate m 0 ++ z :: M := by
  rw [List.replicate_succ', List.append_assoc, List.append_assoc, ← List.append_assoc [a, b], List.set_append_right _ _ (by simp)]
  simp
theorem row_start (t : Nat) : (#[.int .u8 ((t : Int) / 256), .int .u8 ((t : Int) % 256), .int .u8 0, .int .u8 0, .int .u8 0, .int .u8 0, .int .u8 0, .int .u8 0, .int .u8 0, .int .u8 0] : Array Value) = cellsU8 ([t / 256, t % 256] ++ List.replicate 8 0 ++ []) := by
  simp [cellsU8, b8, List.replicate_succ]
theorem cells10 (a b c d e f g i j k : Nat) : cellsU8 [a, b, c, d, e, f, g, i, j, k] = #[.int .u8 (a : Int), .int .u8 (b : Int), .int .u8 (c : Int), .int .u8 (d : Int), .int .u8 (e : Int), .int .u8 (f : Int), .int .u8 (g : Int), .int .u8 (i : Int), .int .u8 (j : Int), .int .u8 (k : Int)] := rfl

set_option maxHeartbeats 1000000 in
theorem spell_any (w : World) (t : Nat) (r : Int) (ht : t ≤ 65535) (hr : In64 r) :
    Calls Tryz.prog 74 #[.agg #[.int .i64 (t : Int), .int .i64 r]] w fun e w' => e = .returned (.agg (cellsU8 (keyBytes ((t : Int), r)))) ∧ ∃ q os, w' = grow (w.drewN q) os := by
  have hx := xor_row r hr
  have hu := turn_lt hr
  have HK : Hid (keyBytes ((t : Int), r) = [t / 256, t % 256] ++ be 8 (turn r)) := by rw [Hid]; simp [keyBytes]
  generalize keyBytes ((t : Int), r) = KB at *
  generalize turn r = u at *
  obtain ⟨h1, h2⟩ := hr
  go_enter Tryz.func74, Tryz.ntmps74
  go_wp2
  rw [row_start]
  have HS : Hid (w.heap.size + 1 + 1 = ((w.alloc (Obj.cells #[Value.int IntKind.i64 (t : Int), Value.int IntKind.i64 r] 89)).alloc (Obj.cells #[.int .u8 0, .int .u8 0, .int .u8 0, .int .u8 0, .int .u8 0, .int .u8 0, .int .u8 0, .int .u8 0, .int .u8 0, .int .u8 0] 146)).heap.size) := by rw [Hid]; simp
  have HG : Hid (Grew w ((w.alloc (Obj.cells #[Value.int IntKind.i64 (t : Int), Value.int IntKind.i64 r] 89)).alloc (Obj.cells #[.int .u8 0, .int .u8 0, .int .u8 0, .int .u8 0, .int .u8 0, .int .u8 0, .int .u8 0, .int .u8 0, .int .u8 0, .int .u8 0] 146))) := ((Grew.refl _).alloc _).alloc _
  have H0 : Hid (((w.alloc (Obj.cells #[Value.int IntKind.i64 (t : Int), Value.int IntKind.i64 r] 89)).alloc (Obj.cells #[.int .u8 0, .int .u8 0, .int .u8 0, .int .u8 0, .int .u8 0, .int .u8 0, .int .u8 0, .int .u8 0, .int .u8 0, .int .u8 0] 146)) = (w.alloc (Obj.cells #[Value.int IntKind.i64 (t : Int), Value.int IntKind.i64 r] 89)).alloc (Obj.cells #[.int .u8 0, .int .u8 0, .int .u8 0, .int .u8 0, .int .u8 0, .int .u8 0, .int .u8 0, .int .u8 0, .int .u8 0, .int .u8 0] 146)) := rfl
  generalize hW : (w.alloc (Obj.cells #[Value.int IntKind.i64 (t : Int), Value.int IntKind.i64 r] 89)).alloc (Obj.cells #[.int .u8 0, .int .u8 0, .int .u8 0, .int .u8 0, .int .u8 0, .int .u8 0, .int .u8 0, .int .u8 0, .int .u8 0, .int .u8 0] 146) = W at *
  have HW : Hid _ := hW
  clear hW H0
  go_loopw [4, 5] (fun x y wr => ∃ n m : Nat, n + m = 8 ∧ x = .int .u64 ((u / 256 ^ n : Nat) : Int) ∧ y = .int .i64 ((m : Int) + 1) ∧ Hid (wr = W.alloc (.cells (cellsU8 ([t / 256, t % 256] ++ List.replicate m 0 ++ be n u)) 146))) (fun _ y _ => (intOf y).toNat)
  case atStart => exact ⟨0, 8, rfl, by simp, rfl, rfl⟩
  case round =>
    obtain ⟨n, m, hnm, rfl, rfl, hwr⟩ := hrel
    have hq : u / 256 ^ n < 18446744073709551616 := Nat.lt_of_le_of_lt (Nat.div_le_self _ _) hu
    have HQ : Hid (u / 256 ^ n / 256 = u / 256 ^ (n + 1)) := by rw [Hid, Nat.div_div_eq_div_mul, ← Nat.pow_succ]
    have HB : Hid (be (n + 1) u = (u / 256 ^ n % 256) :: be n u) := be_cons n u
    cases m with
    | zero =>
      obtain rfl : n = 8 := by omega
      have hlen : KB.length = 10 := by rw [HK.out]; simp [be_length]
      have e := hwr.out
      rw [List.replicate_zero, List.append_nil, ← HK.out] at e
      obtain ⟨a, b, c, d, f, g, i, j, k, l, rfl⟩ := list10 hlen
      rw [cells10] at e
      have e2 := HW.out
      subst e2
      subst e
      clear hwr HW HQ HB HS HK hlen hq
      generalize u / 256 ^ 8 = q
      go_wp2
      refine bodyPost_ret (v := .agg (cellsU8 [a, b, c, d, f, g, i, j, k, l])) (by rw [cells10]; simp [results, Tryz.results74, go_sem]; rfl) rfl ?_
      exact ⟨rfl, (((Grew.refl _).alloc _).alloc _).alloc _⟩
    | succ m =>
      have hrow : wr.heap[w.heap.size + 1 + 1]? = some (.cells (cellsU8 ([t / 256, t % 256] ++ List.replicate (m + 1) 0 ++ be n u)) 146 (0, 0)) := by rw [hwr.out]; exact heap_alloc_new _ _ HS.out
      have hlen : ([t / 256, t % 256] ++ List.replicate (m + 1) 0 ++ be n u).length = 10 := by simp [be_length]; omega
      have hcell : wr.cell? ⟨w.heap.size + 1 + 1, m + 2, none⟩ = some (.int .u8 (((([t / 256, t % 256] ++ List.replicate (m + 1) 0 ++ be n u).getD (m + 2) 0 : Nat)) : Int)) := row_cell hrow _ (by omega)
      have hfro : wr.frozen? ⟨w.heap.size + 1 + 1, m + 2, none⟩ = false := frozen_of_row wr _ _ _ _ hrow
      generalize ([t / 256, t % 256] ++ List.replicate (m + 1) 0 ++ be n u).getD (m + 2) 0 = old at hcell
      generalize u / 256 ^ n = q at *
      clear hrow hlen
      go_wp2
      go_roundw
      case rel =>
        refine ⟨n + 1, m, by omega, by rw [← HQ.out]; simp, rfl, ?_⟩
        rw [Hid, hwr.out, show ((q : Int) % 256) = ((q % 256 : Nat) : Int) by omega, setCell_alloc _ _ _ _ _ _ HS.out, set_cellsU8, HB.out]
        rw [show m + 1 + 1 = m + 2 from rfl, set_row]
      case measure => simp [intOf]; omega

end Go.Proofs.YtcaibgbhebldmaaGreat.Kk
/-
  THE WALKS OF Hash, Partition.
-/
namespace Go.Proofs.YtcaibgbhebldmaaGreat.Kk
open Go.RowKit Go.Sort

theorem fnv_step (h c : Nat) (hh : h < 18446744073709551616) (hc : c < 256) :
    bits .xor .u64 (h : Int) (c : Int) = ((h ^^^ c : Nat) : Int) ∧ h ^^^ c < 18446744073709551616 ∧ IntKind.u64.wrap (((h ^^^ c : Nat) : Int) * 1099511628211) = ((fnvStep h c : Nat) : Int) := by
  have h1 : h ^^^ c < 18446744073709551616 := Nat.xor_lt_two_pow (n := 64) hh (by omega)
  refine ⟨u64_xor_nat h c hh (by omega), h1, ?_⟩
  rw [IntKind.wrap_u64]
  unfold fnvStep
  omega
theorem isKey_iff (t r : Int) : isKey (t, r) = true ↔ 0 ≤ t ∧ t ≤ 65535 := by simp [isKey]
theorem isKey_false (t r : Int) : isKey (t, r) = false ↔ ¬ (0 ≤ t ∧ t ≤ 65535) := by rw [← isKey_iff t r]; simp

theorem index10 (w : World) (C : Array Value) (n : Nat) (c : Int) (hn : n < 10) (h : C[n]? = some (.int .u8 c)) : Sem.run Tryz.prog (Instr.index 146 (.agg C) (.int .i64 (n : Int))) w = .ok (.int .u8 c) w := by
  have hz := Tryz.sizeOf5
  have ha := Tryz.isAgg5
  simp [Instr.index, run_underlying Tryz.underlying146, asIntOf, go_sem, hz, ha, h]
  intro h'; omega


def okParts (p : Int) : Bool := decide (1 ≤ p) && decide (p ≤ 256)
theorem okParts_iff (p : Int) : okParts p = true ↔ 1 ≤ p ∧ p ≤ 256 := by simp [okParts]
/-- what Partition answers -/
def partV (k : K) (p : Int) : Int := if isKey k then (if okParts p then ((hash k : Int) % p) else 0) else 0
def partE (k : K) (p : Int) : Int := if isKey k then (if okParts p then 0 else 21) else 20



end Go.Proofs.YtcaibgbhebldmaaGreat.Kk
/-
  THE WALKS OF Bytes, FromBytes.
-/
namespace Go.Proofs.YtcaibgbhebldmaaGreat.Kk
open Go.RowKit Go.Sort

set_option maxHeartbeats 1000000 in
set_option maxRecDepth 20000 in
theorem bytes_key (w : World) (t : Nat) (r : Int) (ht : t ≤ 65535) (hr : In64 r) :
    Calls Tryz.prog 55 #[.agg #[.int .i64 (t : Int), .int .i64 r]] w fun e w' => ∃ B, e = .returned (.tuple #[.slice (some ⟨B, 0, none⟩) 10 10, .int .i64 0]) ∧ w.heap.size ≤ B ∧ w'.heap.size = B + 1 ∧
      w'.heap[B]? = some (.cells (cellsU8 (keyBytes ((t : Int), r))) 146 (0, 0)) ∧ Grew w w' := by
  have hk : isKey ((t : Int), r) = true := (isKey_iff _ _).2 (by omega)
  have hlen := keyBytes_length ((t : Int), r)
  have HSp : Hid (∀ w, Calls Tryz.prog 74 #[.agg #[.int .i64 (t : Int), .int .i64 r]] w fun e w' => e = .returned (.agg (cellsU8 (keyBytes ((t : Int), r)))) ∧ ∃ q os, w' = grow (w.drewN q) os) := fun w => spell_any w t r ht hr
  have HCk : Hid (∀ w, Calls Tryz.prog 34 #[.agg #[.int .i64 (t : Int), .int .i64 r]] w fun e w' => e = .returned (.int .i64 0) ∧ ∃ q os, w' = grow (w.drewN q) os) := fun w => by
    have := check_any w t r
    rwa [hk] at this
  generalize keyBytes ((t : Int), r) = L at *
  clear hk hr ht
  go_enter Tryz.func55, Tryz.ntmps55
  go_wp2_with fail
  have B0 : Hid (Box (w.alloc (.cells #[.int .i64 (t : Int), .int .i64 r] 89)) w.heap.size t r) := Box.new rfl
  have HG : Hid (Grew w (w.alloc (.cells #[.int .i64 (t : Int), .int .i64 r] 89))) := (Grew.refl _).alloc _
  generalize w.alloc (.cells #[.int .i64 (t : Int), .int .i64 r] 89) = W at *
  refine (HCk.out W).mono ?_
  rintro e w1 ⟨rfl, g1⟩
  have B1 : Hid (Box w1 w.heap.size t r) := B0.out.grew g1
  have HG1 : Hid (Grew w w1) := HG.out.trans g1
  clear g1 HCk B0 HG
  obtain ⟨p1, p2⟩ := B1.out
  go_wp2_with fail
  refine (HSp.out w1).mono ?_
  rintro e w2 ⟨rfl, g2⟩
  have HG2 : Hid (Grew w w2) := HG1.out.trans g2
  clear g2 HSp HG1 B1 p1 p2
  obtain ⟨a, b, c, d, f, g, i, j, k, l, rfl⟩ := list10 hlen
  have hC := cells10 a b c d f g i j k l
  rw [hC]
  have HC : Hid _ := hC
  clear hC
  go_wp2
  go_ret2
  exact ⟨w2.heap.size, rfl, HG2.out.size, by simp, by rw [HC.out]; exact heap_alloc_new _ _ rfl, HG2.out.alloc _⟩

theorem bytes_none (w : World) (t r : Int) (hk : isKey (t, r) = false) :
    Calls Tryz.prog 55 #[.agg #[.int .i64 t, .int .i64 r]] w fun e w' => e = .returned (.tuple #[.slice none 0 0, .int .i64 20]) ∧ Grew w w' := by
  have HCk : Hid (∀ w, Calls Tryz.prog 34 #[.agg #[.int .i64 t, .int .i64 r]] w fun e w' => e = .returned (.int .i64 20) ∧ ∃ q os, w' = grow (w.drewN q) os) := fun w => by
    have := check_any w t r
    rwa [hk] at this
  clear hk
  go_enter Tryz.func55, Tryz.ntmps55
  go_wp2_with fail
  refine (HCk.out _).mono ?_
  rintro e w1 ⟨rfl, g1⟩
  have HG1 : Hid (Grew w w1) := ((Grew.refl _).alloc _).trans g1
  clear g1
  go_wp2
  go_ret2
  exact ⟨rfl, HG1.out⟩

/-- the key of ten bytes -/
def fromB (zs : List Nat) : K := ((zs.getD 0 0 * 256 + zs.getD 1 0 : Nat), (num (zs.drop 2) : Int) - 9223372036854775808)
def fromK (zs : List Nat) : K := if zs.length = 10 then fromB zs else (0, 0)
def fromE (zs : List Nat) : Int := if zs.length < 10 then 10 else if 10 < zs.length then 11 else 0

theorem or_byte (a c : Nat) (ha : a < 72057594037927936) (hc : c < 256) : bits .or .u64 ((a : Int) * 256) (c : Int) = ((a * 256 + c : Nat) : Int) := by
  have h := u64_or_nat (a * 256) c (by omega) (by omega)
  rw [show ((a * 256 : Nat) : Int) = (a : Int) * 256 by omega] at h
  rw [h]
  congr 1
  have := Nat.two_pow_add_eq_or_of_lt (i := 8) (b := c) hc a
  rw [show 2 ^ 8 * a = a * 256 by omega] at this
  exact this.symm
theorem i64_or_nat (a b : Nat) (ha : a < 65536) (hb : b < 65536) : bits .or .i64 (a : Int) (b : Int) = ((a ||| b : Nat) : Int) := by
  have hx : a ||| b < 2 ^ 16 := Nat.or_lt_two_pow (by omega) (by omega)
  show IntKind.i64.wrap ((BitVec.ofInt 64 (a : Int) ||| BitVec.ofInt 64 (b : Int)).toNat : Int) = _
  rw [BitVec.toNat_or, ofInt_u64 a (by omega), ofInt_u64 b (by omega), IntKind.wrap_i64]
  omega
theorem or_byte_i (a c : Nat) (ha : a < 256) (hc : c < 256) : bits .or .i64 ((a : Int) * 256) (c : Int) = ((a * 256 + c : Nat) : Int) := by
  have h := i64_or_nat (a * 256) c (by omega) (by omega)
  rw [show ((a * 256 : Nat) : Int) = (a : Int) * 256 by omega] at h
  rw [h]
  congr 1
  have := Nat.two_pow_add_eq_or_of_lt (i := 8) (b := c) hc a
  rw [show 2 ^ 8 * a = a * 256 by omega] at this
  exact this.symm
theorem xor_back (u : Nat) (hu : u < 18446744073709551616) : IntKind.i64.wrap (bits .xor .u64 (u : Int) 9223372036854775808) = (u : Int) - 9223372036854775808 := by
  have h := u64_xor_nat u 9223372036854775808 hu (by omega)
  rw [show ((9223372036854775808 : Nat) : Int) = 9223372036854775808 from rfl] at h
  rw [h, xor_top u hu, IntKind.wrap_i64]
  omega
theorem num_take (zs : List Nat) (n : Nat) (h : n < zs.length) : num (zs.take (n + 1)) = num (zs.take n) * 256 + zs.getD n 0 := by
  rw [take_snoc zs n h, num_snoc]

/-- the ret of a function whose first result is a key in a cell -/
theorem num8_lt (zs : List Nat) (hz : ∀ z ∈ zs, z < 256) (n : Nat) (hn : n ≤ 7) : num ((zs.drop 2).take n) < 72057594037927936 := by
  have h := num_lt ((zs.drop 2).take n) (fun z h => hz z (List.mem_of_mem_drop (List.mem_of_mem_take h)))
  have hl : ((zs.drop 2).take n).length ≤ 7 := by simp; omega
  have : 256 ^ ((zs.drop 2).take n).length ≤ 256 ^ 7 := Nat.pow_le_pow_right (by omega) hl
  omega
theorem num10_lt (zs : List Nat) (hz : ∀ z ∈ zs, z < 256) (h10 : zs.length = 10) : num (zs.drop 2) < 18446744073709551616 := by
  have h := num_lt (zs.drop 2) (fun z h => hz z (List.mem_of_mem_drop h))
  rw [show (zs.drop 2).length = 8 by simp; omega] at h
  omega
theorem getD_drop2 (zs : List Nat) (n : Nat) : (zs.drop 2).getD n 0 = zs.getD (2 + n) 0 := by
  simp [List.getD_eq_getElem?_getD]

set_option maxHeartbeats 1000000 in
set_option maxRecDepth 20000 in
theorem fromBytes_any (w : World) (ao : Option Addr) (cap n : Nat) (zs : List Nat) (hn : n = zs.length) (h : BytesAt w ao zs) (hnc : n ≤ cap) (hm : n ≤ maxLen) :
    Calls Tryz.prog 121 #[.slice ao n cap] w fun e w' => e = .returned (.tuple #[.agg #[.int .i64 (fromK zs).1, .int .i64 (fromK zs).2], .int .i64 (fromE zs)]) ∧ Grew w w' := by
  unfold maxLen at hm
  by_cases h1 : n < 10
  · have HE : Hid (fromK zs = (0, 0) ∧ fromE zs = 10) := by rw [Hid]; unfold fromK fromE; rw [if_neg (by omega), if_pos (by omega)]; exact ⟨rfl, rfl⟩
    clear h hn
    go_enter Tryz.func121, Tryz.ntmps121
    go_wp2
    refine bodyPost_ret (v := .tuple #[.agg #[.int .i64 0, .int .i64 0], .int .i64 10]) (by simp [results, Tryz.results121, go_sem]) rfl ?_
    exact ⟨by rw [HE.out.1, HE.out.2], (Grew.refl _).alloc _⟩
  · by_cases h2 : 10 < n
    · have HE : Hid (fromK zs = (0, 0) ∧ fromE zs = 11) := by rw [Hid]; unfold fromK fromE; rw [if_neg (by omega), if_neg (by omega), if_pos (by omega)]; exact ⟨rfl, rfl⟩
      clear h hn
      go_enter Tryz.func121, Tryz.ntmps121
      go_wp2
      refine bodyPost_ret (v := .tuple #[.agg #[.int .i64 0, .int .i64 0], .int .i64 11]) (by simp [results, Tryz.results121, go_sem]) rfl ?_
      exact ⟨by rw [HE.out.1, HE.out.2], (Grew.refl _).alloc _⟩
    · obtain rfl : n = 10 := by omega
      have HE : Hid (fromK zs = fromB zs ∧ fromE zs = 0) := by rw [Hid]; unfold fromK fromE; rw [if_pos (by omega), if_neg (by omega), if_neg (by omega)]; exact ⟨rfl, rfl⟩
      have HB : Hid (fromB zs = (((zs.getD 0 0 * 256 + zs.getD 1 0 : Nat) : Int), (num (zs.drop 2) : Int) - 9223372036854775808)) := rfl
      generalize fromK zs = fk at *
      generalize fromE zs = fe at *
      generalize fromB zs = fb at *
      obtain ⟨hz, rfl | ⟨b, off, rfl, hc⟩⟩ := h
      · simp at hn
      have hu := num10_lt zs hz hn.symm
      have HN : Hid (∀ k, k ≤ 7 → num ((zs.drop 2).take k) < 72057594037927936) := num8_lt zs hz
      have HT : Hid (∀ k, k < 8 → num ((zs.drop 2).take (k + 1)) = num ((zs.drop 2).take k) * 256 + zs.getD (2 + k) 0) := fun k hk => by rw [num_take _ _ (by simp; omega), getD_drop2]
      have HL : Hid ((zs.drop 2).take 8 = zs.drop 2) := by rw [Hid, List.take_of_length_le (by simp; omega)]
      have hbs := fun k => getD_lt hz k
      have c0 := hc 0 (by omega)
      have c1 := hc 1 (by omega)
      rw [Nat.add_zero] at c0
      have HC : Hid (∀ k, k < 8 → w.cell? ⟨b, off + 2 + k, none⟩ = some (.int .u8 ((zs.getD (2 + k) 0 : Nat) : Int))) := fun k hk => by
        have := hc (2 + k) (by omega)
        rwa [← Nat.add_assoc] at this
      have b0 := hbs 0
      have b1 := hbs 1
      have HO : Hid _ := or_byte_i _ _ b0 b1
      have HX : Hid _ := xor_back _ hu
      have HG : Hid (Grew w (w.alloc (Obj.cells #[.int .i64 0, .int .i64 0] 89))) := (Grew.refl _).alloc _
      have hbs' : b < w.heap.size := cell_lt c0
      clear hc hz hn
      go_enter Tryz.func121, Tryz.ntmps121
      go_wp2
      go_loop [4, 18] (fun x y => ∃ k : Nat, k ≤ 8 ∧ y = .int .i64 (k : Int) ∧ x = .int .u64 ((num ((zs.drop 2).take k) : Nat) : Int)) (fun _ y => 8 - (intOf y).toNat)
      case atStart => exact ⟨0, by omega, rfl, rfl⟩
      case round =>
        obtain ⟨k, hk, rfl, rfl⟩ := hrel
        by_cases hk' : k < 8
        · have hl := HN.out k (by omega)
          have ht := HT.out k hk'
          have hcc := HG.out.cell (HC.out k hk')
          have hb := hbs (2 + k)
          have ho := or_byte _ _ hl hb
          rw [← ht] at ho
          clear c0 c1 hbs
          generalize num ((zs.drop 2).take k) = x at *
          generalize zs.getD (2 + k) 0 = c at *
          clear ht
          go_wp2
          go_round
          case rel => exact ⟨k + 1, by omega, by go_num, rfl⟩
          case measure => simp [intOf]; omega
        · obtain rfl : k = 8 := by omega
          have d0 := HG.out.cell c0
          have d1 := HG.out.cell c1
          rw [HL.out]
          have ho := HO.out
          have hx := HX.out
          have HV : Hid (fk = (((zs.getD 0 0 * 256 + zs.getD 1 0 : Nat) : Int), (num (zs.drop 2) : Int) - 9223372036854775808)) := by rw [Hid, HE.out.1, HB.out]
          generalize num (zs.drop 2) = u at *
          generalize zs.getD 0 0 = z0 at *
          generalize zs.getD 1 0 = z1 at *
          clear c0 c1 hbs
          go_wp2
          go_region
          go_wp2
          refine bodyPost_ret (v := .tuple #[.agg #[.int .i64 ((z0 : Int) * 256 + (z1 : Int)), .int .i64 ((u : Int) - 9223372036854775808)], .int .i64 0]) (by simp [results, Tryz.results121, go_sem]) rfl ?_
          refine ⟨?_, ((Grew.refl _).alloc _).drew⟩
          rw [HV.out, HE.out.2]
          simp

end Go.Proofs.YtcaibgbhebldmaaGreat.Kk
