/-
  Keys.
-/
import Derived.Test.YtenmkigoohpfmaaDPut2
import Derived.Deep.DeepAppendRoom
namespace Go.Proofs.Ytenmkigoohpfmaa
open Go.RowKit Go.Sort

def slLen : Value → Nat
  | .slice _ n _ => n
  | _ => 0
/-- an entry amid its line -/
theorem pt_at {p : Nat} : ∀ {es X Y : List En} {x : En}, pt p es = X ++ x :: Y → ∃ A C, es = A ++ x :: C ∧ pt p A = X ∧ pt p C = Y ∧ x.p = p := by
  intro es X Y x h
  obtain ⟨A, B, rfl, h1, h2⟩ := List.filter_eq_append_iff.1 h
  obtain ⟨B1, C, rfl, h3, h4, h5⟩ := List.filter_eq_cons_iff.1 h2
  refine ⟨A ++ B1, C, by simp, ?_, h5, by simpa using h4⟩
  rw [pt_append, show pt p A = X from h1, show pt p B1 = [] from List.filter_eq_nil_iff.2 h3, List.append_nil]
theorem DA.node {w : World} {D M L P : Nat} {hf : Value} {es : List En} (h : DA w D M L hf P es) {p : Int} {X Y : List En} {x : En} (hl : ptI P p es = X ++ x :: Y) :
    w.cell? ⟨x.b, 0, none⟩ = some (.int .i64 x.k.1) ∧ w.cell? ⟨x.b, 1, none⟩ = some (.int .i64 x.k.2) ∧ w.cell? ⟨x.b, 2, none⟩ = some (.int .i64 x.v) ∧ w.cell? ⟨x.b, 5, none⟩ = some (hp Y) := by
  unfold ptI at hl
  split at hl
  · obtain ⟨A, C, rfl, _, h2, h3⟩ := pt_at hl
    have hen := h.en A x C rfl
    rw [h3, h2] at hen
    refine ⟨?_, ?_, ?_, ?_⟩ <;> rw [World.cell?, hen] <;> rfl
  · simp at hl
theorem cks_snoc (L : List K) (k : K) : cks (L ++ [k]) = cks L ++ [.int .i64 k.1, .int .i64 k.2] := by rw [cks_append]; rfl
theorem key_new (w : World) (x y : Int) : ∀ j u, ([.int .i64 x, .int .i64 y] : List Value)[j]? = some u → (w.alloc (.cells #[.int .i64 x, .int .i64 y] 28)).cell? ((⟨w.heap.size, 0, none⟩ : Addr).add j) = some u := by
  intro j u hu
  have hb := Box.new (w := w) (b := w.heap.size) (x := x) (y := y) rfl
  rw [addr_add]
  match j, hu with
  | 0, hu => simp at hu; rw [← hu]; exact hb.1
  | 1, hu => simp at hu; rw [← hu]; exact hb.2
  | j + 2, hu => simp at hu
theorem make_keys0 (c : Nat) (hc : c * 16 ≤ 281474976710656) (u : World) : (Instr.makeSlice 22 (.int .i64 0) (.int .i64 (c : Int))).run Try.prog u = .ok (.slice (some ⟨u.heap.size, 0, none⟩) 0 c) (u.alloc (.cells (madeCells #[.int .i64 0, .int .i64 0] (c * 2)) 28)) := by
  obtain ⟨i0, hi, hz0, hz1, hz2⟩ := info_parts infoK
  have h := run_make (P := Try.prog) u 22 28 i0 (.agg #[.int .i64 0, .int .i64 0]) Try.underlying22 hi hz0 .i64 .i64 (0 : Int) (c : Int) (by omega) (by omega) (by rw [hz2]; omega) (by omega)
  rw [hz1, Int.toNat_natCast] at h
  exact h

end Go.Proofs.Ytenmkigoohpfmaa
