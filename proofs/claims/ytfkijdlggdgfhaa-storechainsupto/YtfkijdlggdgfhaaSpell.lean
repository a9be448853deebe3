/-
  THE WALK OF spell.
-/
import Derived.Test.YtfkijdlggdgfhaaKChk
import Derived.Test.YtfkijdlggdgfhaaOwn
namespace Go.Proofs.Ytfkijdlggdgfhaa
open Go.RowKit Go.Sort

theorem list10 {L : List Nat} (h : L.length = 10) : ∃ a b c d e f g i j k, L = [a, b, c, d, e, f, g, i, j, k] := by
  match L, h with
  | [a, b, c, d, e, f, g, i, j, k], _ => exact ⟨a, b, c, d, e, f, g, i, j, k, rfl⟩
theorem setCell_alloc (w : World) (c : Array Value) (t : TypeId) (g i : Nat) (v : Value) (hg : g = w.heap.size) : (w.alloc (.cells c t)).setCell ⟨g, i, none⟩ v = w.alloc (.cells (c.setIfInBounds i v) t) := by
  subst hg
  have h := heap_setCell_same (w.alloc (.cells c t)) w.heap.size i c t v (heap_alloc_new _ _ rfl)
  have ho := fun k hk => heap_setCell_other (w.alloc (.cells c t)) ⟨w.heap.size, i, none⟩ k v hk
  have hs : ((w.alloc (.cells c t)).setCell ⟨w.heap.size, i, none⟩ v).heap = (w.alloc (.cells (c.setIfInBounds i v) t)).heap := by
    apply Array.ext_getElem?
    intro k
    by_cases hk : k = w.heap.size
    · subst hk; rw [h, heap_alloc_new _ _ rfl]
    · rw [ho k hk]
      by_cases hlt : k < w.heap.size
      · rw [heap_alloc_old _ _ hlt, heap_alloc_old _ _ hlt]
      · rw [Array.getElem?_eq_none_iff.2 (by simp; omega), Array.getElem?_eq_none_iff.2 (by simp; omega)]
  unfold World.alloc at hs ⊢
  unfold World.setCell at hs ⊢
  simp only at hs ⊢
  rw [hs]

theorem xor_row (r : Int) (hr : In64 r) : bits .xor .u64 (IntKind.u64.wrap r) 9223372036854775808 = ((turn r : Nat) : Int) := by
  obtain ⟨h1, h2⟩ := hr
  obtain ⟨x, hx, hl⟩ : ∃ x : Nat, IntKind.u64.wrap r = (x : Int) ∧ x < 18446744073709551616 := ⟨(r % 18446744073709551616).toNat, by rw [IntKind.wrap_u64]; omega, by omega⟩
  have h := u64_xor_nat x 9223372036854775808 hl (by omega)
  have hx' := hx
  rw [IntKind.wrap_u64] at hx'
  rw [hx, show (9223372036854775808 : Int) = ((9223372036854775808 : Nat) : Int) from rfl, h, xor_top x hl]
  unfold turn
  omega
theorem row_cell {w : World} {g : Nat} {L : List Nat} {t : TypeId} (h : w.heap[g]? = some (.cells (cellsU8 L) t (0, 0))) (j : Nat) (hj : j < L.length) : w.cell? ⟨g, j, none⟩ = some (.int .u8 ((L.getD j 0 : Nat) : Int)) := by
  have := getElem?_cellsU8 L j hj
  simp [World.cell?, h, this]
theorem set_row (a b m z : Nat) (M : List Nat) : ([a, b] ++ List.replicate (m + 1) 0 ++ M).set (m + 2) z = [a, b] ++ List.replicate m 0 ++ z :: M := by
  rw [List.replicate_succ', List.append_assoc, List.append_assoc, ← List.append_assoc [a, b], List.set_append_right _ _ (by simp)]
  simp
theorem row_start (t : Nat) : (#[.int .u8 ((t : Int) / 256), .int .u8 ((t : Int) % 256), .int .u8 0, .int .u8 0, .int .u8 0, .int .u8 0, .int .u8 0, .int .u8 0, .int .u8 0, .int .u8 0] : Array Value) = cellsU8 ([t / 256, t % 256] ++ List.replicate 8 0 ++ []) := by
  simp [cellsU8, b8, List.replicate_succ]
theorem cells10 (a b c d e f g i j k : Nat) : cellsU8 [a, b, c, d, e, f, g, i, j, k] = #[.int .u8 (a : Int), .int .u8 (b : Int), .int .u8 (c : Int), .int .u8 (d : Int), .int .u8 (e : Int), .int .u8 (f : Int), .int .u8 (g : Int), .int .u8 (i : Int), .int .u8 (j : Int), .int .u8 (k : Int)] := rfl

set_option maxHeartbeats 1000000 in
theorem spell_any (w : World) (t : Nat) (r : Int) (ht : t ≤ 65535) (hr : In64 r) :
    Calls Try.prog 57 #[.agg #[.int .i64 (t : Int), .int .i64 r]] w fun e w' => e = .returned (.agg (cellsU8 (keyBytes ((t : Int), r)))) ∧ ∃ q os, w' = grow (w.drewN q) os := by
  have hx := xor_row r hr
  have hu := turn_lt hr
  have HK : Hid (keyBytes ((t : Int), r) = [t / 256, t % 256] ++ be 8 (turn r)) := by rw [Hid]; simp [keyBytes]
  generalize keyBytes ((t : Int), r) = KB at *
  generalize turn r = u at *
  obtain ⟨h1, h2⟩ := hr
  go_enter Try.func57, Try.ntmps57
  go_wp2
  rw [row_start]
  have HS : Hid (w.heap.size + 1 + 1 = ((w.alloc (Obj.cells #[Value.int IntKind.i64 (t : Int), Value.int IntKind.i64 r] 28)).alloc (Obj.cells #[.int .u8 0, .int .u8 0, .int .u8 0, .int .u8 0, .int .u8 0, .int .u8 0, .int .u8 0, .int .u8 0, .int .u8 0, .int .u8 0] 124)).heap.size) := by rw [Hid]; simp
  have HG : Hid (Grew w ((w.alloc (Obj.cells #[Value.int IntKind.i64 (t : Int), Value.int IntKind.i64 r] 28)).alloc (Obj.cells #[.int .u8 0, .int .u8 0, .int .u8 0, .int .u8 0, .int .u8 0, .int .u8 0, .int .u8 0, .int .u8 0, .int .u8 0, .int .u8 0] 124))) := ((Grew.refl _).alloc _).alloc _
  have H0 : Hid (((w.alloc (Obj.cells #[Value.int IntKind.i64 (t : Int), Value.int IntKind.i64 r] 28)).alloc (Obj.cells #[.int .u8 0, .int .u8 0, .int .u8 0, .int .u8 0, .int .u8 0, .int .u8 0, .int .u8 0, .int .u8 0, .int .u8 0, .int .u8 0] 124)) = (w.alloc (Obj.cells #[Value.int IntKind.i64 (t : Int), Value.int IntKind.i64 r] 28)).alloc (Obj.cells #[.int .u8 0, .int .u8 0, .int .u8 0, .int .u8 0, .int .u8 0, .int .u8 0, .int .u8 0, .int .u8 0, .int .u8 0, .int .u8 0] 124)) := rfl
  generalize hW : (w.alloc (Obj.cells #[Value.int IntKind.i64 (t : Int), Value.int IntKind.i64 r] 28)).alloc (Obj.cells #[.int .u8 0, .int .u8 0, .int .u8 0, .int .u8 0, .int .u8 0, .int .u8 0, .int .u8 0, .int .u8 0, .int .u8 0, .int .u8 0] 124) = W at *
  have HW : Hid _ := hW
  clear hW H0
  go_loopw [4, 5] (fun x y wr => ∃ n m : Nat, n + m = 8 ∧ x = .int .u64 ((u / 256 ^ n : Nat) : Int) ∧ y = .int .i64 ((m : Int) + 1) ∧ Hid (wr = W.alloc (.cells (cellsU8 ([t / 256, t % 256] ++ List.replicate m 0 ++ be n u)) 124))) (fun _ y _ => (intOf y).toNat)
  case atStart => exact ⟨0, 8, rfl, by simp, rfl, rfl⟩
  case round =>
    obtain ⟨n, m, hnm, rfl, rfl, hwr⟩ := hrel
    have hq : u / 256 ^ n < 18446744073709551616 := Nat.lt_of_le_of_lt (Nat.div_le_self _ _) hu
    have HQ : Hid (u / 256 ^ n / 256 = u / 256 ^ (n + 1)) := by rw [Hid, Nat.div_div_eq_div_mul, ← Nat.pow_succ]
    have HB : Hid (be (n + 1) u = (u / 256 ^ n % 256) :: be n u) := be_cons n u
    cases m with
    | zero =>
      obtain rfl : n = 8 := by omega
      have hlen : KB.length = 10 := by rw [HK.out]; simp [be_length]
      have e := hwr.out
      rw [List.replicate_zero, List.append_nil, ← HK.out] at e
      obtain ⟨a, b, c, d, f, g, i, j, k, l, rfl⟩ := list10 hlen
      rw [cells10] at e
      have e2 := HW.out
      subst e2
      subst e
      clear hwr HW HQ HB HS HK hlen hq
      generalize u / 256 ^ 8 = q
      go_wp2
      refine bodyPost_ret (v := .agg (cellsU8 [a, b, c, d, f, g, i, j, k, l])) (by rw [cells10]; simp [results, Try.results57, go_sem]; rfl) rfl ?_
      exact ⟨rfl, (((Grew.refl _).alloc _).alloc _).alloc _⟩
    | succ m =>
      have hrow : wr.heap[w.heap.size + 1 + 1]? = some (.cells (cellsU8 ([t / 256, t % 256] ++ List.replicate (m + 1) 0 ++ be n u)) 124 (0, 0)) := by rw [hwr.out]; exact heap_alloc_new _ _ HS.out
      have hlen : ([t / 256, t % 256] ++ List.replicate (m + 1) 0 ++ be n u).length = 10 := by simp [be_length]; omega
      have hcell : wr.cell? ⟨w.heap.size + 1 + 1, m + 2, none⟩ = some (.int .u8 (((([t / 256, t % 256] ++ List.replicate (m + 1) 0 ++ be n u).getD (m + 2) 0 : Nat)) : Int)) := row_cell hrow _ (by omega)
      have hfro : wr.frozen? ⟨w.heap.size + 1 + 1, m + 2, none⟩ = false := frozen_of_row wr _ _ _ _ hrow
      generalize ([t / 256, t % 256] ++ List.replicate (m + 1) 0 ++ be n u).getD (m + 2) 0 = old at hcell
      generalize u / 256 ^ n = q at *
      clear hrow hlen
      go_wp2
      go_roundw
      case rel =>
        refine ⟨n + 1, m, by omega, by rw [← HQ.out]; simp, rfl, ?_⟩
        rw [Hid, hwr.out, show ((q : Int) % 256) = ((q % 256 : Nat) : Int) by omega, setCell_alloc _ _ _ _ _ _ HS.out, set_cellsU8, HB.out]
        rw [show m + 1 + 1 = m + 2 from rfl, set_row]
      case measure => simp [intOf]; omega

end Go.Proofs.Ytfkijdlggdgfhaa
