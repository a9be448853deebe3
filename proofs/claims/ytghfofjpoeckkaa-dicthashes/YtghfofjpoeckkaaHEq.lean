/-
  '==' OF PAIRS AND OF TEXTS; lists of them in memory.
-/
import Derived.Test.YtghfofjpoeckkaaHTake2
import Derived.Lib.SlicesS
namespace Go.Proofs.Ytghfofjpoeckkaa
open Go.RowKit Go.Sort

theorem hidH {p : Prop} (h : p) : Hid p := h
theorem ne_list {a b : ByteArray} (h : a ≠ b) : (a.toList == b.toList) = false := (Lib.bytes_beq_false_iff a b).2 h
theorem run_neP (x1 x2 y1 y2 : Int) (w : World) : Sem.run Try.prog (binOp .neq 28 (.agg #[.int .i64 x1, .int .i64 x2]) (.agg #[.int .i64 y1, .int .i64 y2])) w = .ok (.bool (!decide ((x1, x2) = (y1, y2)))) w := by
  have u3 := Try.underlying3
  have a3 := Try.isAgg3
  have z3 := Try.sizeOf3
  have hS : Try.prog.underlying 28 = some (.struct (Try.prog.fieldsOf 28)) := by kernel_rfl
  have hp : Try.prog.stoodInHeld 28 = false := by kernel_rfl
  rw [run_neq_struct, show (10000 : Nat) = 9999 + 1 from rfl, run_equalIn_agg w 9999 28 _ _ hS hp]
  simp only [Program.fieldsOf, Try.underlying28]
  go_simp
  by_cases h1 : x1 = y1 <;> by_cases h2 : x2 = y2 <;> simp [h1, h2]
theorem grdP (op : BinOp) (a b : Operand) (x1 x2 y1 y2 : Int) (w : World) : Sem.run Try.prog (eqGuard op 28 a b (.agg #[.int .i64 x1, .int .i64 x2]) (.agg #[.int .i64 y1, .int .i64 y2])) w = .ok () w := (GuardAt.agg (P := Try.prog) (T := 28) (fun x : Int × Int => #[.int .i64 x.1, .int .i64 x.2]) (by kernel_rfl)) op a b (x1, x2) (y1, y2) w
/-- equal pairs -/
theorem run_nePs (x1 x2 : Int) (w : World) : Sem.run Try.prog (binOp .neq 28 (.agg #[.int .i64 x1, .int .i64 x2]) (.agg #[.int .i64 x1, .int .i64 x2])) w = .ok (.bool false) w := by rw [run_neP]; simp
/-- what can be read: texts -/
def StrAt (W : World) (ao : Option Addr) (ks : List K) : Prop := ∀ i (hi : i < ks.length), ∃ b off, ao = some ⟨b, off, none⟩ ∧ W.cell? ⟨b, off + i, none⟩ = some (.string ks[i])
/-- what can be read: pairs -/
def PrsAt (W : World) (ao : Option Addr) (vs : List (Int × Int)) : Prop := ∀ i (hi : i < vs.length), ∃ b off, ao = some ⟨b, off, none⟩ ∧ W.cell? ⟨b, off + i * 2, none⟩ = some (.int .i64 vs[i].1) ∧ W.cell? ⟨b, off + i * 2 + 1, none⟩ = some (.int .i64 vs[i].2)
theorem StrAt.kept {W W' : World} {ao : Option Addr} {ks : List K} (h : StrAt W ao ks) (hb : Below W.heap.size W W') : StrAt W' ao ks := fun i hi => by
  obtain ⟨b, off, e, hc⟩ := h i hi
  exact ⟨b, off, e, (hb.cell (p := ⟨b, off + i, none⟩) (cell_lt hc)).trans hc⟩
theorem PrsAt.kept {W W' : World} {ao : Option Addr} {vs : List (Int × Int)} (h : PrsAt W ao vs) (hb : Below W.heap.size W W') : PrsAt W' ao vs := fun i hi => by
  obtain ⟨b, off, e, hc, hd⟩ := h i hi
  exact ⟨b, off, e, (hb.cell (p := ⟨b, off + i * 2, none⟩) (cell_lt hc)).trans hc, (hb.cell (p := ⟨b, off + i * 2 + 1, none⟩) (cell_lt hd)).trans hd⟩
theorem own_strs {W : World} {base g n cap : Nat} {ks : List K} (h : W.ownsRow base 9 1 (.slice (some ⟨g, 0, none⟩) n cap) n (sks ks)) (hn : n = ks.length) : StrAt W (some ⟨g, 0, none⟩) ks := fun i hi => by
  refine ⟨g, 0, rfl, ?_⟩
  rw [Nat.zero_add, World.ownsRow.cellAt h i (by omega)]
  simp [sks, hi]
/-- a Dict's pairs, in the order in which they came -/
def kvs (es : List En) : List (K × (Int × Int)) := es.map fun e => (e.k, e.v)
theorem kvs_len (es : List En) : (kvs es).length = es.length := by simp [kvs]
/-- the partitions are the hash function's -/
def HsOK (hh : K → Nat) (P : Nat) (es : List En) : Prop := ∀ e ∈ es, e.p = hh e.k % P
/-- how many lie ahead of a partition -/
def cntP (p : Nat) (es : List En) : Nat := (es.filter fun e => decide (e.p < p)).length
theorem cntP_zero (es : List En) : cntP 0 es = 0 := by simp [cntP]
theorem cntP_succ (p : Nat) (es : List En) : cntP (p + 1) es = cntP p es + (pt p es).length := by
  unfold cntP pt
  induction es with
  | nil => rfl
  | cons e es ih =>
    by_cases h1 : e.p < p
    · simp [show e.p < p + 1 by omega, h1, show ¬ e.p = p by omega]; omega
    · by_cases h2 : e.p = p
      · simp [h2]; omega
      · simp [h1, h2, show ¬ e.p < p + 1 by omega]; omega
theorem cntP_all {P : Nat} {es : List En} (h : ∀ e ∈ es, e.p < P) : cntP P es = es.length := by
  unfold cntP
  rw [List.filter_eq_self.2 (fun e he => by simpa using h e he)]
theorem ptI_pt {w : World} {D M L P : Nat} {hf : Value} {es : List En} (h : DA w D M L hf P es) (p : Nat) : ptI P (p : Int) es = pt p es := by
  unfold ptI
  split
  · rfl
  · rename_i hn
    symm
    rw [pt, List.filter_eq_nil_iff]
    intro e he
    have := (h.pp e he).1
    simp
    omega
theorem cntP_le (p : Nat) (es : List En) : cntP p es ≤ es.length := List.length_filter_le _ _
end Go.Proofs.Ytghfofjpoeckkaa
