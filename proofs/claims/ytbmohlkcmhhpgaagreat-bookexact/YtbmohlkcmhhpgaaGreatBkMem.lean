/-
  A BOOK IN MEMORY.
-/
import Derived.Test.YtbmohlkcmhhpgaaGreatBMap
namespace Go.Proofs.YtbmohlkcmhhpgaaGreat
open Go.RowKit Go.Sort

theorem hidC {p : Prop} (h : p) : Hid p := h
/-- a place -/
abbrev Pl := Int × Int
abbrev pv (p : Pl) : Value := .agg #[.int .i64 p.1, .int .i64 p.2]
abbrev V4 := K × Pl
abbrev ev (v : V4) : Value := .agg #[.int .i64 v.1.1, .int .i64 v.1.2, .int .i64 v.2.1, .int .i64 v.2.2]
abbrev ei (n : Int) : Value := .int .i64 n
def VIn (v : V4) : Prop := KIn v.1 ∧ In64 v.2.1 ∧ In64 v.2.2
theorem kv_inj {a b : K} (h : kv a = kv b) : a = b := by
  obtain ⟨a1, a2⟩ := a
  obtain ⟨b1, b2⟩ := b
  simp only [kv, Value.agg.injEq] at h
  have := congrArg Array.toList h
  simp only [List.cons.injEq, Value.int.injEq, true_and, and_true] at this
  rw [this.1, this.2]
theorem ev_inj {a b : V4} (h : ev a = ev b) : a = b := by
  obtain ⟨⟨a1, a2⟩, a3, a4⟩ := a
  obtain ⟨⟨b1, b2⟩, b3, b4⟩ := b
  simp only [ev, Value.agg.injEq] at h
  have := congrArg Array.toList h
  simp only [List.cons.injEq, Value.int.injEq, true_and, and_true] at this
  obtain ⟨rfl, rfl, rfl, rfl⟩ := this
  rfl
theorem ei_inj {a b : Int} (h : ei a = ei b) : a = b := by simpa using h
theorem keyedK : Maps.Keyed Tryz.prog 43 := Maps.Keyed.of_law (deep_law_laid (by kernel_rfl) (m := 200) (by decide) (by decide +kernel) (by kernel_rfl) (by kernel_rfl))
theorem keyedV : Maps.Keyed Tryz.prog 118 := Maps.Keyed.of_law (deep_law_laid (by kernel_rfl) (m := 200) (by decide) (by decide +kernel) (by kernel_rfl) (by kernel_rfl))
theorem keyedI : Maps.Keyed Tryz.prog 3 := Maps.int_keyed Tryz.underlying3
theorem int_lit (n : Int) (h : In64 n) : ∃ l, keyOf Tryz.prog 3 (ei n) = some l := ⟨_, Maps.keyOf_int_mk Tryz.underlying3 (WalkArith.wf_i64 h)⟩
theorem lits_int (d : Nat) (x : Int) (hx : In64 x) : Tryz.prog.keyLits (d + 1) 3 [.int .i64 x] = some [.int .i64 x] := by
  unfold Program.keyLits; rw [Tryz.underlying3]; simp [WalkArith.wf_i64 hx]
theorem lits_int64 (d : Nat) (x : Int) (hx : In64 x) : Tryz.prog.keyLits (d + 1) 2 [.int .i64 x] = some [.int .i64 x] := by
  unfold Program.keyLits; rw [Tryz.underlying2]; simp [WalkArith.wf_i64 hx]
theorem cells_i : Tryz.prog.cellsOf 3 = 1 := by kernel_rfl
theorem cells_i64 : Tryz.prog.cellsOf 2 = 1 := by kernel_rfl
theorem cells_k : Tryz.prog.cellsOf 43 = 2 := by kernel_rfl
theorem cells_p : Tryz.prog.cellsOf 99 = 2 := by kernel_rfl
theorem cells_v : Tryz.prog.cellsOf 118 = 4 := by kernel_rfl
theorem lits_key (d : Nat) (k : K) (h : KIn k) : Tryz.prog.keyLits (d + 2) 43 [.int .i64 k.1, .int .i64 k.2] = some [.int .i64 k.1, .int .i64 k.2] := by
  have hu : Tryz.prog.underlying 43 = some (.struct (Tryz.prog.fieldsOf 43)) := by kernel_rfl
  unfold Program.keyLits
  rw [hu]
  simp [Program.fieldsOf, Tryz.underlying43, cells_k, cells_i, cells_i64, lits_int d _ h.1, lits_int64 d _ h.2]
theorem lits_place (d : Nat) (p : Pl) (h : In64 p.1 ∧ In64 p.2) : Tryz.prog.keyLits (d + 2) 99 [.int .i64 p.1, .int .i64 p.2] = some [.int .i64 p.1, .int .i64 p.2] := by
  have hu : Tryz.prog.underlying 99 = some (.struct (Tryz.prog.fieldsOf 99)) := by kernel_rfl
  unfold Program.keyLits
  rw [hu]
  simp [Program.fieldsOf, Tryz.underlying99, cells_p, cells_i, lits_int d _ h.1, lits_int d _ h.2]
theorem key_lit (k : K) (h : KIn k) : ∃ l, keyOf Tryz.prog 43 (kv k) = some l := by
  have ht : Tryz.prog.keyType 43 = true := by kernel_rfl
  have hf : (kv k).formed Tryz.prog 43 = true := by simp [Value.formed, Tryz.underlying43, cells_k]
  have hu : Tryz.prog.underlying 43 = some (.struct (Tryz.prog.fieldsOf 43)) := by kernel_rfl
  have hz : Tryz.prog.types.size + 1 = 187 + 2 := by kernel_rfl
  refine ⟨.string (Go.keyBytes [.int .i64 k.1, .int .i64 k.2]), ?_⟩
  unfold keyOf
  rw [hu]
  simp only [ht, hf, Bool.and_self, if_true]
  rw [show (kv k).cells.toList = [.int .i64 k.1, .int .i64 k.2] from rfl, hz, lits_key 187 k h]
  rfl
theorem ver_lit (v : V4) (h : VIn v) : ∃ l, keyOf Tryz.prog 118 (ev v) = some l := by
  have ht : Tryz.prog.keyType 118 = true := by kernel_rfl
  have hf : (ev v).formed Tryz.prog 118 = true := by simp [Value.formed, Tryz.underlying118, cells_v]
  have hu : Tryz.prog.underlying 118 = some (.struct (Tryz.prog.fieldsOf 118)) := by kernel_rfl
  obtain ⟨m, hz⟩ : ∃ m, Tryz.prog.types.size + 1 = (m + 2) + 1 := ⟨187 - 1, by kernel_rfl⟩
  have hl : Tryz.prog.keyLits ((m + 2) + 1) 118 [.int .i64 v.1.1, .int .i64 v.1.2, .int .i64 v.2.1, .int .i64 v.2.2] = some [.int .i64 v.1.1, .int .i64 v.1.2, .int .i64 v.2.1, .int .i64 v.2.2] := by
    have h1 := lits_key m v.1 h.1
    have h2 := lits_place m v.2 h.2
    unfold Program.keyLits
    rw [hu]
    simp [Program.fieldsOf, Tryz.underlying118, cells_v, cells_k, cells_p, h1, h2]
  refine ⟨.string (Go.keyBytes [.int .i64 v.1.1, .int .i64 v.1.2, .int .i64 v.2.1, .int .i64 v.2.2]), ?_⟩
  unfold keyOf
  rw [hu]
  simp only [ht, hf, Bool.and_self, if_true]
  rw [show (ev v).cells.toList = [.int .i64 v.1.1, .int .i64 v.1.2, .int .i64 v.2.1, .int .i64 v.2.2] from rfl, hz, hl]
  rfl
/-- the three kinds -/
theorem kdP : MKd 84 3 3 ei In64 (ei 0) := ⟨Tryz.underlying84, keyedI, int_lit, fun _ _ h => ei_inj h, fun w => by kernel_rfl⟩
theorem kdC : MKd 85 118 99 ev VIn (pv (0, 0)) := ⟨Tryz.underlying85, keyedV, ver_lit, fun _ _ h => ev_inj h, fun w => by kernel_rfl⟩
theorem kdN : MKd 86 43 99 kv KIn (pv (0, 0)) := ⟨Tryz.underlying86, keyedK, key_lit, fun _ _ h => kv_inj h, fun w => by kernel_rfl⟩
end Go.Proofs.YtbmohlkcmhhpgaaGreat
