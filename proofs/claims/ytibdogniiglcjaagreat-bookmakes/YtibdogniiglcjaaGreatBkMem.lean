/-
  A BOOK IN MEMORY.
-/
import Derived.Test.YtibdogniiglcjaaGreatBMap
namespace Go.Proofs.YtibdogniiglcjaaGreat
open Go.RowKit Go.Sort

theorem hidC {p : Prop} (h : p) : Hid p := h
/-- a place -/
abbrev Pl := Int × Int
abbrev pv (p : Pl) : Value := .agg #[.int .i64 p.1, .int .i64 p.2]
abbrev V4 := K × Pl
abbrev ev (v : V4) : Value := .agg #[.int .i64 v.1.1, .int .i64 v.1.2, .int .i64 v.2.1, .int .i64 v.2.2]
abbrev ei (n : Int) : Value := .int .i64 n
def VIn (v : V4) : Prop := KIn v.1 ∧ In64 v.2.1 ∧ In64 v.2.2
theorem kv_inj {a b : K} (h : kv a = kv b) : a = b := by
  obtain ⟨a1, a2⟩ := a
  obtain ⟨b1, b2⟩ := b
  simp only [kv, Value.agg.injEq] at h
  have := congrArg Array.toList h
  simp only [List.cons.injEq, Value.int.injEq, true_and, and_true] at this
  rw [this.1, this.2]
theorem ev_inj {a b : V4} (h : ev a = ev b) : a = b := by
  obtain ⟨⟨a1, a2⟩, a3, a4⟩ := a
  obtain ⟨⟨b1, b2⟩, b3, b4⟩ := b
  simp only [ev, Value.agg.injEq] at h
  have := congrArg Array.toList h
  simp only [List.cons.injEq, Value.int.injEq, true_and, and_true] at this
  obtain ⟨rfl, rfl, rfl, rfl⟩ := this
  rfl
theorem ei_inj {a b : Int} (h : ei a = ei b) : a = b := by simpa using h
theorem keyedK : Maps.Keyed Tryz.prog 47 := Maps.Keyed.of_law (deep_law_laid (by kernel_rfl) (m := 200) (by decide) (by decide +kernel) (by kernel_rfl) (by kernel_rfl))
theorem keyedV : Maps.Keyed Tryz.prog 121 := Maps.Keyed.of_law (deep_law_laid (by kernel_rfl) (m := 200) (by decide) (by decide +kernel) (by kernel_rfl) (by kernel_rfl))
theorem keyedI : Maps.Keyed Tryz.prog 3 := Maps.int_keyed Tryz.underlying3
theorem int_lit (n : Int) (h : In64 n) : ∃ l, keyOf Tryz.prog 3 (ei n) = some l := ⟨_, Maps.keyOf_int_mk Tryz.underlying3 (WalkArith.wf_i64 h)⟩
theorem lits_int (d : Nat) (x : Int) (hx : In64 x) : Tryz.prog.keyLits (d + 1) 3 [.int .i64 x] = some [.int .i64 x] := by
  unfold Program.keyLits; rw [Tryz.underlying3]; simp [WalkArith.wf_i64 hx]
theorem lits_int64 (d : Nat) (x : Int) (hx : In64 x) : Tryz.prog.keyLits (d + 1) 2 [.int .i64 x] = some [.int .i64 x] := by
  unfold Program.keyLits; rw [Tryz.underlying2]; simp [WalkArith.wf_i64 hx]
theorem cells_i : Tryz.prog.cellsOf 3 = 1 := by kernel_rfl
theorem cells_i64 : Tryz.prog.cellsOf 2 = 1 := by kernel_rfl
theorem cells_k : Tryz.prog.cellsOf 47 = 2 := by kernel_rfl
theorem cells_p : Tryz.prog.cellsOf 102 = 2 := by kernel_rfl
theorem cells_v : Tryz.prog.cellsOf 121 = 4 := by kernel_rfl
theorem lits_key (d : Nat) (k : K) (h : KIn k) : Tryz.prog.keyLits (d + 2) 47 [.int .i64 k.1, .int .i64 k.2] = some [.int .i64 k.1, .int .i64 k.2] := by
  have hu : Tryz.prog.underlying 47 = some (.struct (Tryz.prog.fieldsOf 47)) := by kernel_rfl
  unfold Program.keyLits
  rw [hu]
  simp [Program.fieldsOf, Tryz.underlying47, cells_k, cells_i, cells_i64, lits_int d _ h.1, lits_int64 d _ h.2]
theorem lits_place (d : Nat) (p : Pl) (h : In64 p.1 ∧ In64 p.2) : Tryz.prog.keyLits (d + 2) 102 [.int .i64 p.1, .int .i64 p.2] = some [.int .i64 p.1, .int .i64 p.2] := by
  have hu : Tryz.prog.underlying 102 = some (.struct (Tryz.prog.fieldsOf 102)) := by kernel_rfl
  unfold Program.keyLits
  rw [hu]
  simp [Program.fieldsOf, Tryz.underlying102, cells_p, cells_i, lits_int d _ h.1, lits_int d _ h.2]
theorem key_lit (k : K) (h : KIn k) : ∃ l, keyOf Tryz.prog 47 (kv k) = some l := by
  have ht : Tryz.prog.keyType 47 = true := by kernel_rfl
  have hf : (kv k).formed Tryz.prog 47 = true := by simp [Value.formed, Tryz.underlying47, cells_k]
  have hu : Tryz.prog.underlying 47 = some (.struct (Tryz.prog.fieldsOf 47)) := by kernel_rfl
  have hz : Tryz.prog.types.size + 1 = 190 + 2 := by kernel_rfl
  refine ⟨.string (Go.keyBytes [.int .i64 k.1, .int .i64 k.2]), ?_⟩
  unfold keyOf
  rw [hu]
  simp only [ht, hf, Bool.and_self, if_true]
  rw [show (kv k).cells.toList = [.int .i64 k.1, .int .i64 k.2] from rfl, hz, lits_key 190 k h]
  rfl
theorem ver_lit (v : V4) (h : VIn v) : ∃ l, keyOf Tryz.prog 121 (ev v) = some l := by
  have ht : Tryz.prog.keyType 121 = true := by kernel_rfl
  have hf : (ev v).formed Tryz.prog 121 = true := by simp [Value.formed, Tryz.underlying121, cells_v]
  have hu : Tryz.prog.underlying 121 = some (.struct (Tryz.prog.fieldsOf 121)) := by kernel_rfl
  obtain ⟨m, hz⟩ : ∃ m, Tryz.prog.types.size + 1 = (m + 2) + 1 := ⟨190 - 1, by kernel_rfl⟩
  have hl : Tryz.prog.keyLits ((m + 2) + 1) 121 [.int .i64 v.1.1, .int .i64 v.1.2, .int .i64 v.2.1, .int .i64 v.2.2] = some [.int .i64 v.1.1, .int .i64 v.1.2, .int .i64 v.2.1, .int .i64 v.2.2] := by
    have h1 := lits_key m v.1 h.1
    have h2 := lits_place m v.2 h.2
    unfold Program.keyLits
    rw [hu]
    simp [Program.fieldsOf, Tryz.underlying121, cells_v, cells_k, cells_p, h1, h2]
  refine ⟨.string (Go.keyBytes [.int .i64 v.1.1, .int .i64 v.1.2, .int .i64 v.2.1, .int .i64 v.2.2]), ?_⟩
  unfold keyOf
  rw [hu]
  simp only [ht, hf, Bool.and_self, if_true]
  rw [show (ev v).cells.toList = [.int .i64 v.1.1, .int .i64 v.1.2, .int .i64 v.2.1, .int .i64 v.2.2] from rfl, hz, hl]
  rfl
/-- the three kinds -/
theorem kdP : MKd 87 3 3 ei In64 (ei 0) := ⟨Tryz.underlying87, keyedI, int_lit, fun _ _ h => ei_inj h, fun w => by kernel_rfl⟩
theorem kdC : MKd 88 121 102 ev VIn (pv (0, 0)) := ⟨Tryz.underlying88, keyedV, ver_lit, fun _ _ h => ev_inj h, fun w => by kernel_rfl⟩
theorem kdN : MKd 89 47 102 kv KIn (pv (0, 0)) := ⟨Tryz.underlying89, keyedK, key_lit, fun _ _ h => kv_inj h, fun w => by kernel_rfl⟩
end Go.Proofs.YtibdogniiglcjaaGreat
