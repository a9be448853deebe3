/-
  A BOOK IN MEMORY.
-/
import Derived.Test.YtibdogniiglcjabBMap
namespace Go.Proofs.Ytibdogniiglcjab
open Go.RowKit Go.Sort

theorem hidC {p : Prop} (h : p) : Hid p := h
/-- a place -/
abbrev Pl := Int × Int
abbrev pv (p : Pl) : Value := .agg #[.int .i64 p.1, .int .i64 p.2]
abbrev V4 := K × Pl
abbrev ev (v : V4) : Value := .agg #[.int .i64 v.1.1, .int .i64 v.1.2, .int .i64 v.2.1, .int .i64 v.2.2]
abbrev ei (n : Int) : Value := .int .i64 n
def VIn (v : V4) : Prop := KIn v.1 ∧ In64 v.2.1 ∧ In64 v.2.2
theorem kv_inj {a b : K} (h : kv a = kv b) : a = b := by
  obtain ⟨a1, a2⟩ := a
  obtain ⟨b1, b2⟩ := b
  simp only [kv, Value.agg.injEq] at h
  have := congrArg Array.toList h
  simp only [List.cons.injEq, Value.int.injEq, true_and, and_true] at this
  rw [this.1, this.2]
theorem ev_inj {a b : V4} (h : ev a = ev b) : a = b := by
  obtain ⟨⟨a1, a2⟩, a3, a4⟩ := a
  obtain ⟨⟨b1, b2⟩, b3, b4⟩ := b
  simp only [ev, Value.agg.injEq] at h
  have := congrArg Array.toList h
  simp only [List.cons.injEq, Value.int.injEq, true_and, and_true] at this
  obtain ⟨rfl, rfl, rfl, rfl⟩ := this
  rfl
theorem ei_inj {a b : Int} (h : ei a = ei b) : a = b := by simpa using h
theorem keyedK : Maps.Keyed Try.prog 38 := Maps.Keyed.of_law (deep_law_laid (by kernel_rfl) (m := 200) (by decide) (by decide +kernel) (by kernel_rfl) (by kernel_rfl))
theorem keyedV : Maps.Keyed Try.prog 105 := Maps.Keyed.of_law (deep_law_laid (by kernel_rfl) (m := 200) (by decide) (by decide +kernel) (by kernel_rfl) (by kernel_rfl))
theorem keyedI : Maps.Keyed Try.prog 3 := Maps.int_keyed Try.underlying3
theorem int_lit (n : Int) (h : In64 n) : ∃ l, keyOf Try.prog 3 (ei n) = some l := ⟨_, Maps.keyOf_int_mk Try.underlying3 (WalkArith.wf_i64 h)⟩
theorem lits_int (d : Nat) (x : Int) (hx : In64 x) : Try.prog.keyLits (d + 1) 3 [.int .i64 x] = some [.int .i64 x] := by
  unfold Program.keyLits; rw [Try.underlying3]; simp [WalkArith.wf_i64 hx]
theorem lits_int64 (d : Nat) (x : Int) (hx : In64 x) : Try.prog.keyLits (d + 1) 2 [.int .i64 x] = some [.int .i64 x] := by
  unfold Program.keyLits; rw [Try.underlying2]; simp [WalkArith.wf_i64 hx]
theorem cells_i : Try.prog.cellsOf 3 = 1 := by kernel_rfl
theorem cells_i64 : Try.prog.cellsOf 2 = 1 := by kernel_rfl
theorem cells_k : Try.prog.cellsOf 38 = 2 := by kernel_rfl
theorem cells_p : Try.prog.cellsOf 86 = 2 := by kernel_rfl
theorem cells_v : Try.prog.cellsOf 105 = 4 := by kernel_rfl
theorem lits_key (d : Nat) (k : K) (h : KIn k) : Try.prog.keyLits (d + 2) 38 [.int .i64 k.1, .int .i64 k.2] = some [.int .i64 k.1, .int .i64 k.2] := by
  have hu : Try.prog.underlying 38 = some (.struct (Try.prog.fieldsOf 38)) := by kernel_rfl
  unfold Program.keyLits
  rw [hu]
  simp [Program.fieldsOf, Try.underlying38, cells_k, cells_i, cells_i64, lits_int d _ h.1, lits_int64 d _ h.2]
theorem lits_place (d : Nat) (p : Pl) (h : In64 p.1 ∧ In64 p.2) : Try.prog.keyLits (d + 2) 86 [.int .i64 p.1, .int .i64 p.2] = some [.int .i64 p.1, .int .i64 p.2] := by
  have hu : Try.prog.underlying 86 = some (.struct (Try.prog.fieldsOf 86)) := by kernel_rfl
  unfold Program.keyLits
  rw [hu]
  simp [Program.fieldsOf, Try.underlying86, cells_p, cells_i, lits_int d _ h.1, lits_int d _ h.2]
theorem key_lit (k : K) (h : KIn k) : ∃ l, keyOf Try.prog 38 (kv k) = some l := by
  have ht : Try.prog.keyType 38 = true := by kernel_rfl
  have hf : (kv k).formed Try.prog 38 = true := by simp [Value.formed, Try.underlying38, cells_k]
  have hu : Try.prog.underlying 38 = some (.struct (Try.prog.fieldsOf 38)) := by kernel_rfl
  have hz : Try.prog.types.size + 1 = 186 + 2 := by kernel_rfl
  refine ⟨.string (Go.keyBytes [.int .i64 k.1, .int .i64 k.2]), ?_⟩
  unfold keyOf
  rw [hu]
  simp only [ht, hf, Bool.and_self, if_true]
  rw [show (kv k).cells.toList = [.int .i64 k.1, .int .i64 k.2] from rfl, hz, lits_key 186 k h]
  rfl
theorem ver_lit (v : V4) (h : VIn v) : ∃ l, keyOf Try.prog 105 (ev v) = some l := by
  have ht : Try.prog.keyType 105 = true := by kernel_rfl
  have hf : (ev v).formed Try.prog 105 = true := by simp [Value.formed, Try.underlying105, cells_v]
  have hu : Try.prog.underlying 105 = some (.struct (Try.prog.fieldsOf 105)) := by kernel_rfl
  obtain ⟨m, hz⟩ : ∃ m, Try.prog.types.size + 1 = (m + 2) + 1 := ⟨186 - 1, by kernel_rfl⟩
  have hl : Try.prog.keyLits ((m + 2) + 1) 105 [.int .i64 v.1.1, .int .i64 v.1.2, .int .i64 v.2.1, .int .i64 v.2.2] = some [.int .i64 v.1.1, .int .i64 v.1.2, .int .i64 v.2.1, .int .i64 v.2.2] := by
    have h1 := lits_key m v.1 h.1
    have h2 := lits_place m v.2 h.2
    unfold Program.keyLits
    rw [hu]
    simp [Program.fieldsOf, Try.underlying105, cells_v, cells_k, cells_p, h1, h2]
  refine ⟨.string (Go.keyBytes [.int .i64 v.1.1, .int .i64 v.1.2, .int .i64 v.2.1, .int .i64 v.2.2]), ?_⟩
  unfold keyOf
  rw [hu]
  simp only [ht, hf, Bool.and_self, if_true]
  rw [show (ev v).cells.toList = [.int .i64 v.1.1, .int .i64 v.1.2, .int .i64 v.2.1, .int .i64 v.2.2] from rfl, hz, hl]
  rfl
/-- the three kinds -/
theorem kdP : MKd 77 3 3 ei In64 (ei 0) := ⟨Try.underlying77, keyedI, int_lit, fun _ _ h => ei_inj h, fun w => by kernel_rfl⟩
theorem kdC : MKd 78 105 86 ev VIn (pv (0, 0)) := ⟨Try.underlying78, keyedV, ver_lit, fun _ _ h => ev_inj h, fun w => by kernel_rfl⟩
theorem kdN : MKd 79 38 86 kv KIn (pv (0, 0)) := ⟨Try.underlying79, keyedK, key_lit, fun _ _ h => kv_inj h, fun w => by kernel_rfl⟩
end Go.Proofs.Ytibdogniiglcjab
