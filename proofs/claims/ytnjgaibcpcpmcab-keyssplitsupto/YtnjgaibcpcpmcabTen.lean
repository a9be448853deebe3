/-
  THE WALK OF THE DOCUMENT's ten.
-/
import Derived.Test.YtnjgaibcpcpmcabSpell
import Derived.Test.YtnjgaibcpcpmcabKWalk
namespace Go.Proofs.Ytnjgaibcpcpmcab
open Go.RowKit Go.Sort
set_option maxHeartbeats 1000000 in
theorem ten_any (w : World) (t : Nat) (r : Int) (ht : t ≤ 65535) (hr : In64 r) :
    Calls Try.prog 77 #[.agg #[.int .i64 (t : Int), .int .i64 r]] w fun e w' => e = .returned (.agg (cellsU8 (keyBytes ((t : Int), r)))) ∧ ∃ q os, w' = grow (w.drewN q) os := by
  have hx := xor_row r hr
  have hu := turn_lt hr
  have HK : Hid (keyBytes ((t : Int), r) = [t / 256, t % 256] ++ be 8 (turn r)) := by rw [Hid]; simp [keyBytes]
  generalize keyBytes ((t : Int), r) = KB at *
  generalize turn r = u at *
  obtain ⟨h1, h2⟩ := hr
  go_enter Try.func77, Try.ntmps77
  go_wp2
  rw [row_start]
  have HS : Hid (w.heap.size + 1 + 1 = ((w.alloc (Obj.cells #[Value.int IntKind.i64 (t : Int), Value.int IntKind.i64 r] 28)).alloc (Obj.cells #[.int .u8 0, .int .u8 0, .int .u8 0, .int .u8 0, .int .u8 0, .int .u8 0, .int .u8 0, .int .u8 0, .int .u8 0, .int .u8 0] 69)).heap.size) := by rw [Hid]; simp
  have HG : Hid (Grew w ((w.alloc (Obj.cells #[Value.int IntKind.i64 (t : Int), Value.int IntKind.i64 r] 28)).alloc (Obj.cells #[.int .u8 0, .int .u8 0, .int .u8 0, .int .u8 0, .int .u8 0, .int .u8 0, .int .u8 0, .int .u8 0, .int .u8 0, .int .u8 0] 69))) := ((Grew.refl _).alloc _).alloc _
  have H0 : Hid (((w.alloc (Obj.cells #[Value.int IntKind.i64 (t : Int), Value.int IntKind.i64 r] 28)).alloc (Obj.cells #[.int .u8 0, .int .u8 0, .int .u8 0, .int .u8 0, .int .u8 0, .int .u8 0, .int .u8 0, .int .u8 0, .int .u8 0, .int .u8 0] 69)) = (w.alloc (Obj.cells #[Value.int IntKind.i64 (t : Int), Value.int IntKind.i64 r] 28)).alloc (Obj.cells #[.int .u8 0, .int .u8 0, .int .u8 0, .int .u8 0, .int .u8 0, .int .u8 0, .int .u8 0, .int .u8 0, .int .u8 0, .int .u8 0] 69)) := rfl
  generalize hW : (w.alloc (Obj.cells #[Value.int IntKind.i64 (t : Int), Value.int IntKind.i64 r] 28)).alloc (Obj.cells #[.int .u8 0, .int .u8 0, .int .u8 0, .int .u8 0, .int .u8 0, .int .u8 0, .int .u8 0, .int .u8 0, .int .u8 0, .int .u8 0] 69) = W at *
  have HW : Hid _ := hW
  clear hW H0
  go_loopw [4, 5] (fun x y wr => ∃ n m : Nat, n + m = 8 ∧ x = .int .u64 ((u / 256 ^ n : Nat) : Int) ∧ y = .int .i64 (n : Int) ∧ Hid (wr = W.alloc (.cells (cellsU8 ([t / 256, t % 256] ++ List.replicate m 0 ++ be n u)) 69))) (fun _ y _ => 8 - (intOf y).toNat)
  case atStart => exact ⟨0, 8, rfl, by simp, rfl, rfl⟩
  case round =>
    obtain ⟨n, m, hnm, rfl, rfl, hwr⟩ := hrel
    have hq : u / 256 ^ n < 18446744073709551616 := Nat.lt_of_le_of_lt (Nat.div_le_self _ _) hu
    have HQ : Hid (u / 256 ^ n / 256 = u / 256 ^ (n + 1)) := by rw [Hid, Nat.div_div_eq_div_mul, ← Nat.pow_succ]
    have HB : Hid (be (n + 1) u = (u / 256 ^ n % 256) :: be n u) := be_cons n u
    cases m with
    | zero =>
      obtain rfl : n = 8 := by omega
      have hlen : KB.length = 10 := by rw [HK.out]; simp [be_length]
      have e := hwr.out
      rw [List.replicate_zero, List.append_nil, ← HK.out] at e
      obtain ⟨a, b, c, d, f, g, i, j, k, l, rfl⟩ := list10 hlen
      rw [cells10] at e
      have e2 := HW.out
      subst e2
      subst e
      clear hwr HW HQ HB HS HK hlen hq
      generalize u / 256 ^ 8 = q
      go_wp2
      refine bodyPost_ret (v := .agg (cellsU8 [a, b, c, d, f, g, i, j, k, l])) (by rw [cells10]; simp [results, Try.results77, go_sem]) rfl ?_
      exact ⟨rfl, (((Grew.refl _).alloc _).alloc _).alloc _⟩
    | succ m =>
      have hrow : wr.heap[w.heap.size + 1 + 1]? = some (.cells (cellsU8 ([t / 256, t % 256] ++ List.replicate (m + 1) 0 ++ be n u)) 69 (0, 0)) := by rw [hwr.out]; exact heap_alloc_new _ _ HS.out
      have hlen : ([t / 256, t % 256] ++ List.replicate (m + 1) 0 ++ be n u).length = 10 := by simp [be_length]; omega
      have hcell : wr.cell? ⟨w.heap.size + 1 + 1, m + 2, none⟩ = some (.int .u8 (((([t / 256, t % 256] ++ List.replicate (m + 1) 0 ++ be n u).getD (m + 2) 0 : Nat)) : Int)) := row_cell hrow _ (by omega)
      have hfro : wr.frozen? ⟨w.heap.size + 1 + 1, m + 2, none⟩ = false := frozen_of_row wr _ _ _ _ hrow
      generalize ([t / 256, t % 256] ++ List.replicate (m + 1) 0 ++ be n u).getD (m + 2) 0 = old at hcell
      generalize u / 256 ^ n = q at *
      clear hrow hlen
      have hi : ((9 : Int) - (n : Int)).toNat = m + 2 := by omega
      have hi' : (9 : Int) - (n : Int) = ((m + 2 : Nat) : Int) := by omega
      go_wp2
      go_roundw
      case rel =>
        refine ⟨n + 1, m, by omega, by rw [← HQ.out]; simp, by go_num, ?_⟩
        rw [Hid, hwr.out, show ((q : Int) % 256) = ((q % 256 : Nat) : Int) by omega, setCell_alloc _ _ _ _ _ _ HS.out, set_cellsU8, HB.out]
        rw [set_row]
      case measure => simp [intOf]; omega

end Go.Proofs.Ytnjgaibcpcpmcab
