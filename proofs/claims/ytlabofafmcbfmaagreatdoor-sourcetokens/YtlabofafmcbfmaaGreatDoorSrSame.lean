/-
  SOURCE: sameTokens at like rows.
-/
import Derived.Test.YtlabofafmcbfmaaGreatDoorSrRow
import Derived.Deep.QuietTactic
import Derived.BigQuiet
namespace Go.Proofs.YtlabofafmcbfmaaGreatDoor
open Go.RowKit Go.Sort

theorem run_neTok (k : Int) (s : ByteArray) (v l c : Int) (w : World) : Sem.run Tryz.prog (binOp .neq 36 (.agg #[.int .i64 k, .string s, .int .i64 v, .int .i64 l, .int .i64 c]) (.agg #[.int .i64 k, .string s, .int .i64 v, .int .i64 l, .int .i64 c])) w = .ok (.bool false) w := by
  have u3 := Tryz.underlying9
  have a3 := Tryz.isAgg9
  have z3 := Tryz.sizeOf9
  have u2 := Tryz.underlying2
  have a2 := Tryz.isAgg2
  have z2 := Tryz.sizeOf2
  have u1 := Tryz.underlying3
  have a1 := Tryz.isAgg3
  have z1 := Tryz.sizeOf3
  have u4 := Tryz.underlying34
  have a4 := Tryz.isAgg34
  have z4 := Tryz.sizeOf34
  have hS : Tryz.prog.underlying 36 = some (.struct (Tryz.prog.fieldsOf 36)) := by kernel_rfl
  have hp : Tryz.prog.stoodInHeld 36 = false := by kernel_rfl
  have hS' : Tryz.prog.underlying 34 = some (.struct (Tryz.prog.fieldsOf 34)) := by kernel_rfl
  have hp' : Tryz.prog.stoodInHeld 34 = false := by kernel_rfl
  rw [run_neq_struct, show (10000 : Nat) = 9999 + 1 from rfl, run_equalIn_agg w 9999 36 _ _ hS hp]
  simp only [Program.fieldsOf, Tryz.underlying36]
  have hc : Sem.run Tryz.prog (Op.equalIn 9999 34 (.agg #[.int .i64 l, .int .i64 c]) (.agg #[.int .i64 l, .int .i64 c])) w = .ok true w := by
    rw [show (9999 : Nat) = 9998 + 1 from rfl, run_equalIn_agg w 9998 34 _ _ hS' hp']
    simp only [Program.fieldsOf, Tryz.underlying34]
    go_simp
  go_simp
theorem guardTk : GuardAt Tryz.prog 36 (fun x : Int × ByteArray × Int × Int × Int => .agg #[.int .i64 x.1, .string x.2.1, .int .i64 x.2.2.1, .int .i64 x.2.2.2.1, .int .i64 x.2.2.2.2]) := GuardAt.agg _ (by kernel_rfl)
theorem run_guardTk (op : BinOp) (a b : Operand) (k : Int) (s : ByteArray) (v l c : Int) (w : World) : Sem.run Tryz.prog (eqGuard op 36 a b (.agg #[.int .i64 k, .string s, .int .i64 v, .int .i64 l, .int .i64 c]) (.agg #[.int .i64 k, .string s, .int .i64 v, .int .i64 l, .int .i64 c])) w = .ok () w := guardTk op a b (k, s, v, l, c) (k, s, v, l, c) w
theorem OwnT.at {W : World} {base : Nat} {v : Value} {ts : List Tok} (h : OwnT W base v ts) {i : Nat} (hi : i < ts.length) : ∃ g c, v = .slice (some ⟨g, 0, none⟩) ts.length c ∧ W.cell? ⟨g, i * 5, none⟩ = some (.int .i64 (ts[i].1 : Int)) ∧ W.cell? ⟨g, i * 5 + 1, none⟩ = some (.string (S ts[i].2.1)) ∧ W.cell? ⟨g, i * 5 + 2, none⟩ = some (.int .i64 ts[i].2.2.1) ∧ W.cell? ⟨g, i * 5 + 3, none⟩ = some (.int .i64 (ts[i].2.2.2.1 : Int)) ∧ W.cell? ⟨g, i * 5 + 4, none⟩ = some (.int .i64 (ts[i].2.2.2.2 : Int)) := by
  have h0 := h
  obtain ⟨hl, ⟨_, e⟩ | ⟨g, c, cur, rfl, _⟩⟩ := h
  · omega
  · refine ⟨g, c, rfl, ?_⟩
    have key : ∀ j, j < 5 → W.cell? ⟨g, i * 5 + j, none⟩ = (tokC ts[i])[j]? := fun j hj => by
      rw [World.ownsRow.cellAt h0 (i * 5 + j) (by omega)]
      exact tkc_at ts i hi j hj
    exact ⟨key 0 (by omega), key 1 (by omega), key 2 (by omega), key 3 (by omega), key 4 (by omega)⟩
theorem OwnT.sl {W : World} {base : Nat} {v : Value} {ts : List Tok} (h : OwnT W base v ts) : ∃ a c, v = .slice a ts.length c := by
  obtain ⟨_, ⟨rfl, e⟩ | ⟨g, c, cur, rfl, _⟩⟩ := h
  · exact ⟨none, 0, by rw [e]⟩
  · exact ⟨_, c, rfl⟩
set_option maxRecDepth 100000 in
set_option maxHeartbeats 1000000 in
theorem sameTok_any (w : World) (b1 b2 : Nat) (v1 v2 : Value) (ts : List Tok) (h1 : OwnT w b1 v1 ts) (h2 : OwnT w b2 v2 ts) (hl : ts.length ≤ 65536) :
    Calls Tryz.prog 7 #[v1, v2] w fun e w' => e = .returned (.bool true) ∧ Below w.heap.size w w' := by
  obtain ⟨a1, c1, rfl⟩ := h1.sl
  obtain ⟨a2, c2, rfl⟩ := h2.sl
  obtain ⟨n, hn⟩ : ∃ n, n = ts.length := ⟨_, rfl⟩
  have H1 := hidS h1
  have H2 := hidS h2
  have HN := hidS hn
  have hl9 : n ≤ 65536 := by rw [hn]; exact hl
  rw [← hn]
  clear h1 h2 hn hl
  go_enter Tryz.func7, Tryz.ntmps7
  go_wp2_with fail
  go_loopw [5] (fun x wr => ∃ (i q : Nat), i ≤ n ∧ x = .int .i64 (i : Int) ∧ wr = w.drewN q) (fun x _ => n - (intOf x).toNat)
  case atStart => exact ⟨0, 0, Nat.zero_le _, rfl, rfl⟩
  case round =>
    obtain ⟨i, q, hi, rfl, rfl⟩ := hrel
    by_cases hlt : i < n
    · have hil : i < ts.length := by have := HN.out; omega
      obtain ⟨g1, d1, e1, p0, p1, p2, p3, p4⟩ := H1.out.at hil
      obtain ⟨g2, d2, e2, q0, q1, q2, q3, q4⟩ := H2.out.at hil
      simp only [Value.slice.injEq] at e1 e2
      obtain ⟨rfl, _, rfl⟩ := e1
      obtain ⟨rfl, _, rfl⟩ := e2
      generalize (ts[i].1 : Int) = x0 at *
      generalize S ts[i].2.1 = x1 at *
      generalize ts[i].2.2.1 = x2 at *
      generalize (ts[i].2.2.2.1 : Int) = x3 at *
      generalize (ts[i].2.2.2.2 : Int) = x4 at *
      have hq := run_neTok x0 x1 x2 x3 x4
      have hgd := fun op a b => run_guardTk op a b x0 x1 x2 x3 x4
      have hib : decide ((i : Int) < (n : Int)) = true := by simp; omega
      go_wp2_with fail
      go_quiet (fail)
      go_wp2
      exact ⟨⟨i + 1, q + nq, by omega, by go_num, by first | rfl | trivial⟩, by simp [intOf]; omega⟩
    · have hie : i = n := by omega
      subst hie
      have HF : Hid (Below w.heap.size w (w.drewN q)) := ((Grew.refl w).drewN q).below
      go_wp2
      go_ret
      exact ⟨rfl, HF.out⟩
end Go.Proofs.YtlabofafmcbfmaaGreatDoor
