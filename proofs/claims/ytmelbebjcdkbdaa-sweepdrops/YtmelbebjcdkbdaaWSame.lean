/-
  sameBools, sameChain, sameInts AT LIKE LISTS.
-/
import Derived.Test.YtmelbebjcdkbdaaWRow
namespace Go.Proofs.Ytmelbebjcdkbdaa
open Go.RowKit Go.Sort

theorem WAt.bool {w : World} {ao : Option Addr} {l : List Bool} (h : WAt w ao (l.map Value.bool)) (i : Nat) (hi : i < l.length) : ∃ b off, ao = some ⟨b, off, none⟩ ∧ w.cell? ⟨b, off + i, none⟩ = some (.bool l[i]) := h i _ (by simp [hi])
theorem WB.at_ {w : World} {g : Nat} {L : List Bool} (h : WB w g L) : WAt w (some ⟨g, 0, none⟩) (L.map Value.bool) := fun j u hu => by
  rw [List.getElem?_map] at hu
  cases hx : L[j]? with
  | none => rw [hx] at hu; cases hu
  | some x => rw [hx] at hu; cases hu; exact ⟨g, 0, rfl, by rw [Nat.zero_add]; exact h.cell hx⟩
set_option maxHeartbeats 1000000 in
theorem sameBools_eqW (w : World) (ao bo : Option Addr) (n ca cb : Nat) (L : List Bool) (h1 : WAt w ao (L.map Value.bool)) (h2 : WAt w bo (L.map Value.bool)) (hn : n = L.length) (hm : n ≤ 140737488355328) :
    Calls Try.prog 6 #[.slice ao n ca, .slice bo n cb] w fun e w' => e = .returned (.bool true) ∧ ∃ q, w' = w.drewN q := by
  have H1 := hidW h1
  have H2 := hidW h2
  have HN := hidW hn
  clear h1 h2 hn
  go_enter Try.func6, Try.ntmps6
  go_wp2_with fail
  go_loopw [5] (fun x wr => ∃ k q : Nat, k ≤ n ∧ x = .int .i64 (k : Int) ∧ wr = w.drewN q) (fun x _ => n - (intOf x).toNat)
  case atStart => exact ⟨0, 0, Nat.zero_le _, rfl, rfl⟩
  case round =>
    obtain ⟨k, q, hk, rfl, rfl⟩ := hrel
    by_cases hlt : k < n
    · have hlt' : k < L.length := by have := HN.out; omega
      obtain ⟨b, off, rfl, e1⟩ := H1.out.bool k hlt'
      obtain ⟨d, doff, rfl, e2⟩ := H2.out.bool k hlt'
      generalize L[k] = y at *
      go_wp2_with fail
      go_quiet (fail)
      go_wp2_with fail
      go_roundw
      case rel => exact ⟨k + 1, q + nq, by omega, by go_num, rfl⟩
      case measure => simp [intOf]; omega
    · obtain rfl : k = n := by omega
      go_wp2
      go_ret
      exact ⟨rfl, q, rfl⟩
set_option maxHeartbeats 1000000 in
theorem sameInts_eqW (w : World) (ao bo : Option Addr) (n ca cb : Nat) (L : List Int) (h1 : WAt w ao (i64s L)) (h2 : WAt w bo (i64s L)) (hn : n = L.length) (hm : n ≤ 140737488355328) :
    Calls Try.prog 8 #[.slice ao n ca, .slice bo n cb] w fun e w' => e = .returned (.bool true) ∧ ∃ q, w' = w.drewN q := by
  have H1 := hidW h1
  have H2 := hidW h2
  have HN := hidW hn
  clear h1 h2 hn
  go_enter Try.func8, Try.ntmps8
  go_wp2_with fail
  go_loopw [5] (fun x wr => ∃ k q : Nat, k ≤ n ∧ x = .int .i64 (k : Int) ∧ wr = w.drewN q) (fun x _ => n - (intOf x).toNat)
  case atStart => exact ⟨0, 0, Nat.zero_le _, rfl, rfl⟩
  case round =>
    obtain ⟨k, q, hk, rfl, rfl⟩ := hrel
    by_cases hlt : k < n
    · have hlt' : k < L.length := by have := HN.out; omega
      obtain ⟨b, off, rfl, e1⟩ := H1.out.int k hlt'
      obtain ⟨d, doff, rfl, e2⟩ := H2.out.int k hlt'
      generalize L[k] = y at *
      go_wp2_with fail
      go_quiet (fail)
      go_wp2_with fail
      go_roundw
      case rel => exact ⟨k + 1, q + nq, by omega, by go_num, rfl⟩
      case measure => simp [intOf]; omega
    · obtain rfl : k = n := by omega
      go_wp2
      go_ret
      exact ⟨rfl, q, rfl⟩
theorem run_neVerW (a b : Int) (f ci : Bool) (cv : Int) (w : World) : Sem.run Try.prog (binOp .neq 27 (.agg #[.int .i64 a, .int .i64 b, .bool f, .bool ci, .int .i64 cv]) (.agg #[.int .i64 a, .int .i64 b, .bool f, .bool ci, .int .i64 cv])) w = .ok (.bool false) w := by
  have u3 := Try.underlying4
  have a3 := Try.isAgg4
  have z3 := Try.sizeOf4
  have u2 := Try.underlying2
  have a2 := Try.isAgg2
  have z2 := Try.sizeOf2
  have u1 := Try.underlying3
  have a1 := Try.isAgg3
  have z1 := Try.sizeOf3
  have u4 := Try.underlying25
  have a4 := Try.isAgg25
  have z4 := Try.sizeOf25
  have hS : Try.prog.underlying 27 = some (.struct (Try.prog.fieldsOf 27)) := by kernel_rfl
  have hp : Try.prog.stoodInHeld 27 = false := by kernel_rfl
  have hS' : Try.prog.underlying 25 = some (.struct (Try.prog.fieldsOf 25)) := by kernel_rfl
  have hp' : Try.prog.stoodInHeld 25 = false := by kernel_rfl
  rw [run_neq_struct, show (10000 : Nat) = 9999 + 1 from rfl, run_equalIn_agg w 9999 27 _ _ hS hp]
  simp only [Program.fieldsOf, Try.underlying27]
  have hc : Sem.run Try.prog (Op.equalIn 9999 25 (.agg #[.bool ci, .int .i64 cv]) (.agg #[.bool ci, .int .i64 cv])) w = .ok true w := by
    rw [show (9999 : Nat) = 9998 + 1 from rfl, run_equalIn_agg w 9998 25 _ _ hS' hp']
    simp only [Program.fieldsOf, Try.underlying25]
    go_simp
  go_simp
theorem guardVW : GuardAt Try.prog 27 (fun x : Int × Int × Bool × Bool × Int => .agg #[.int .i64 x.1, .int .i64 x.2.1, .bool x.2.2.1, .bool x.2.2.2.1, .int .i64 x.2.2.2.2]) := GuardAt.agg _ (by kernel_rfl)
theorem run_guardVW (op : BinOp) (a b : Operand) (p q : Int) (f ci : Bool) (cv : Int) (w : World) : Sem.run Try.prog (eqGuard op 27 a b (.agg #[.int .i64 p, .int .i64 q, .bool f, .bool ci, .int .i64 cv]) (.agg #[.int .i64 p, .int .i64 q, .bool f, .bool ci, .int .i64 cv])) w = .ok () w := guardVW op a b (p, q, f, ci, cv) (p, q, f, ci, cv) w
set_option maxHeartbeats 2000000 in
theorem sameChain_eqW (w : World) (ao bo : Option Addr) (n ca cb : Nat) (L : List V5) (h1 : WAt w ao (v5s L)) (h2 : WAt w bo (v5s L)) (hn : n = L.length) (hm : n ≤ 140737488355328) :
    Calls Try.prog 7 #[.slice ao n ca, .slice bo n cb] w fun e w' => e = .returned (.bool true) ∧ ∃ q, w' = w.drewN q := by
  have H1 := hidW h1
  have H2 := hidW h2
  have HN := hidW hn
  clear h1 h2 hn
  go_enter Try.func7, Try.ntmps7
  go_wp2_with fail
  go_loopw [5] (fun x wr => ∃ k q : Nat, k ≤ n ∧ x = .int .i64 (k : Int) ∧ wr = w.drewN q) (fun x _ => n - (intOf x).toNat)
  case atStart => exact ⟨0, 0, Nat.zero_le _, rfl, rfl⟩
  case round =>
    obtain ⟨k, q, hk, rfl, rfl⟩ := hrel
    by_cases hlt : k < n
    · have hlt' : k < L.length := by have := HN.out; omega
      obtain ⟨b, off, rfl, e1, e2, e3, e4, e5⟩ := H1.out.v5 k hlt'
      obtain ⟨d, doff, rfl, d1, d2, d3, d4, d5⟩ := H2.out.v5 k hlt'
      generalize L[k] = y at *
      obtain ⟨vb, vi, vf, vc, vv⟩ := y
      simp only at e1 e2 e3 e4 e5 d1 d2 d3 d4 d5
      have hq := run_neVerW vb vi vf vc vv
      have hgd := fun op x y => run_guardVW op x y vb vi vf vc vv
      go_wp2_with fail
      go_quiet (fail)
      go_wp2_with fail
      go_roundw
      case rel => exact ⟨k + 1, q + nq, by omega, by go_num, rfl⟩
      case measure => simp [intOf]; omega
    · obtain rfl : k = n := by omega
      go_wp2
      go_ret
      exact ⟨rfl, q, rfl⟩
end Go.Proofs.Ytmelbebjcdkbdaa
