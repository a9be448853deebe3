/-
  TWO Readers AND THEIR MODELS (preludelaw01.CodecReads).
-/
import Derived.Test.YthdlilekilkogaaAsk
namespace Go.Proofs.Ythdlilekilkogaa
open Go.RowKit

structure Quad (w : World) (R0 R1 M0 M1 A B : Nat) (lab : Nat → Nat) (wr : World) (a0 a1 : Option Addr) (c0 c1 : Nat) (b0 b1 : List Nat) (g0 g1 : Nat) (p0 p1 : Nat) (e0 e1 : Int) (q0 q1 : Nat) (x0 x1 : Int) : Prop where
  r0 : Held lab 0 wr (ReaderSet R0 (.slice a0 b0.length c0)) (fun w' => IsReader w' R0 a0 c0 b0 p0 e0)
  r1 : Held lab 1 wr (ReaderSet R1 (.slice a1 b1.length c1)) (fun w' => IsReader w' R1 a1 c1 b1 p1 e1)
  m0 : Held lab 2 wr (ReaderSet M0 (.slice (some ⟨g0, 0, none⟩) b0.length b0.length)) (fun w' => IsModel w' M0 (some ⟨g0, 0, none⟩) b0.length b0 q0 x0)
  m1 : Held lab 3 wr (ReaderSet M1 (.slice (some ⟨g1, 0, none⟩) b1.length b1.length)) (fun w' => IsModel w' M1 (some ⟨g1, 0, none⟩) b1.length b1 q1 x1)
  ca : Held lab 4 wr (fun k => k = A) (fun w' => w'.heap[A]? = some (.cells #[.pointer (some ⟨R0, 0, none⟩), .pointer (some ⟨R1, 0, none⟩)] 47 (0, 0)))
  cb : Held lab 5 wr (fun k => k = B) (fun w' => w'.heap[B]? = some (.cells #[.pointer (some ⟨M0, 0, none⟩), .pointer (some ⟨M1, 0, none⟩)] 52 (0, 0)))
  below : Below w.heap.size w wr
  old : ∀ k, k < w.heap.size → lab k = 9
section
variable {w : World} {R0 R1 M0 M1 A B : Nat} {lab : Nat → Nat} {wr : World} {a0 a1 : Option Addr} {c0 c1 : Nat} {b0 b1 : List Nat} {g0 g1 : Nat} {p0 p1 : Nat} {e0 e1 : Int} {q0 q1 : Nat} {x0 x1 : Int}
theorem Quad.far {lab' : Nat → Nat} {wn : World} {T : Nat → Prop} (h : Quad w R0 R1 M0 M1 A B lab wr a0 a1 c0 c1 b0 b1 g0 g1 p0 p1 e0 e1 q0 q1 x0 x1) (ht : Tch lab T wr wn) (hT : ∀ i, T i → 6 ≤ i ∧ i < 9) (hl : ∀ k, k < wr.heap.size → lab' k = lab k) : Quad w R0 R1 M0 M1 A B lab' wn a0 a1 c0 c1 b0 b1 g0 g1 p0 p1 e0 e1 q0 q1 x0 x1 := by
  have hl' : ∀ i k, k < wr.heap.size → lab k = i → lab' k = i := fun i k hk e => (hl k hk).trans e
  have hn : ∀ i, i < 6 → ¬ T i := fun i hi t => by have := hT i t; omega
  have h9 : ¬ T 9 := fun t => by have := hT 9 t; omega
  exact ⟨h.r0.far ht (hn 0 (by decide)) (hl' 0), h.r1.far ht (hn 1 (by decide)) (hl' 1), h.m0.far ht (hn 2 (by decide)) (hl' 2), h.m1.far ht (hn 3 (by decide)) (hl' 3), h.ca.far ht (hn 4 (by decide)) (hl' 4), h.cb.far ht (hn 5 (by decide)) (hl' 5), h.below.trans (ht.below h.old h9 h.below.size), fun k hk => (hl k (Nat.lt_of_lt_of_le hk h.below.size)).trans (h.old k hk)⟩
theorem Quad.kept {lab' : Nat → Nat} {wn : World} (h : Quad w R0 R1 M0 M1 A B lab wr a0 a1 c0 c1 b0 b1 g0 g1 p0 p1 e0 e1 q0 q1 x0 x1) (hb : Below wr.heap.size wr wn) (hl : ∀ k, k < wr.heap.size → lab' k = lab k) : Quad w R0 R1 M0 M1 A B lab' wn a0 a1 c0 c1 b0 b1 g0 g1 p0 p1 e0 e1 q0 q1 x0 x1 :=
  h.far (Tch.ofBelow hb) (fun _ h => h.elim) hl

theorem Quad.trio0 {kb : Nat} {vl vw : Value} {ls ws : List Value} {Ls : List (List Nat)} (h : Quad w R0 R1 M0 M1 A B lab wr a0 a1 c0 c1 b0 b1 g0 g1 p0 p1 e0 e1 q0 q1 x0 x1) (hk : Held lab 6 wr (BookSet kb vl vw ls ws) (fun w' => IsBook w' kb vl vw ls ws Ls Ls)) :
    Trio lab 0 2 wr R0 a0 c0 b0 p0 e0 M0 g0 b0.length q0 x0 kb vl vw ls ws Ls := ⟨h.r0, h.m0, hk, by decide, by decide, by decide⟩
theorem Quad.asked0 {kb n X : Nat} {wn : World} (h : Quad w R0 R1 M0 M1 A B lab wr a0 a1 c0 c1 b0 b1 g0 g1 p0 p1 e0 e1 q0 q1 x0 x1) (ha : Asked lab 0 2 wr wn R0 a0 c0 b0 M0 g0 b0.length kb n X) :
    ∃ (lab' : Nat → Nat) (p : Nat) (e : Int) (vl vw : Value) (ls ws : List Value) (Ls : List (List Nat)), Quad w R0 R1 M0 M1 A B lab' wn a0 a1 c0 c1 b0 b1 g0 g1 p p1 e e1 p q1 e x1 ∧ Held lab' 6 wn (BookSet kb vl vw ls ws) (fun w' => IsBook w' kb vl vw ls ws Ls Ls) ∧ ls.length ≤ n + 1 ∧ ws.length = ls.length ∧ ∀ t, (Ls.getD t []).length ≤ X := by
  obtain ⟨lab', p, e, vl, vw, ls, ws, Ls, ht3, ht, hl, hr⟩ := ha
  have hl' : ∀ i k, k < wr.heap.size → lab k = i → lab' k = i := fun i k hk e => (hl k hk).trans e
  exact ⟨lab', p, e, vl, vw, ls, ws, Ls, ⟨ht3.r, h.r1.far ht (by unfold IJK; decide) (hl' 1), ht3.m, h.m1.far ht (by unfold IJK; decide) (hl' 3), h.ca.far ht (by unfold IJK; decide) (hl' 4), h.cb.far ht (by unfold IJK; decide) (hl' 5), h.below.trans (ht.below h.old (by unfold IJK; decide) h.below.size), fun k hk => hl' 9 k (Nat.lt_of_lt_of_le hk h.below.size) (h.old k hk)⟩, ht3.k, hr⟩
theorem Quad.reads0 {wn : World} {p : Nat} {e : Int} (h : Quad w R0 R1 M0 M1 A B lab wr a0 a1 c0 c1 b0 b1 g0 g1 p0 p1 e0 e1 q0 q1 x0 x1) (hr : Reads wr R0 a0 c0 b0 p e wn) : Quad w R0 R1 M0 M1 A B lab wn a0 a1 c0 c1 b0 b1 g0 g1 p p1 e e1 q0 q1 x0 x1 := by
  have ht : Tch lab (fun l => l = 0) wr wn := Tch.ofGrown hr.2 (fun k hk => by cases hk; exact h.r0.labs _ (.inl rfl))
  have hl' : ∀ i k, k < wr.heap.size → lab k = i → lab k = i := fun _ _ _ e => e
  exact ⟨Held.reader hr.1 h.r0.labs, h.r1.far ht (by decide) (hl' 1), h.m0.far ht (by decide) (hl' 2), h.m1.far ht (by decide) (hl' 3), h.ca.far ht (by decide) (hl' 4), h.cb.far ht (by decide) (hl' 5), h.below.trans (ht.below h.old (by decide) h.below.size), h.old⟩
theorem Quad.models0 {wn : World} {p : Nat} {e : Int} (h : Quad w R0 R1 M0 M1 A B lab wr a0 a1 c0 c1 b0 b1 g0 g1 p0 p1 e0 e1 q0 q1 x0 x1) (hr : Models wr M0 (some ⟨g0, 0, none⟩) b0.length b0 p e wn) : Quad w R0 R1 M0 M1 A B lab wn a0 a1 c0 c1 b0 b1 g0 g1 p0 p1 e0 e1 p q1 e x1 := by
  have ht : Tch lab (fun l => l = 2) wr wn := Tch.ofGrown hr.2 (fun k hk => by cases hk; exact h.m0.labs _ (.inl rfl))
  have hl' : ∀ i k, k < wr.heap.size → lab k = i → lab k = i := fun _ _ _ e => e
  exact ⟨h.r0.far ht (by decide) (hl' 0), h.r1.far ht (by decide) (hl' 1), Held.model hr.1 h.m0.labs, h.m1.far ht (by decide) (hl' 3), h.ca.far ht (by decide) (hl' 4), h.cb.far ht (by decide) (hl' 5), h.below.trans (ht.below h.old (by decide) h.below.size), h.old⟩

theorem Quad.trio1 {kb : Nat} {vl vw : Value} {ls ws : List Value} {Ls : List (List Nat)} (h : Quad w R0 R1 M0 M1 A B lab wr a0 a1 c0 c1 b0 b1 g0 g1 p0 p1 e0 e1 q0 q1 x0 x1) (hk : Held lab 6 wr (BookSet kb vl vw ls ws) (fun w' => IsBook w' kb vl vw ls ws Ls Ls)) :
    Trio lab 1 3 wr R1 a1 c1 b1 p1 e1 M1 g1 b1.length q1 x1 kb vl vw ls ws Ls := ⟨h.r1, h.m1, hk, by decide, by decide, by decide⟩
theorem Quad.asked1 {kb n X : Nat} {wn : World} (h : Quad w R0 R1 M0 M1 A B lab wr a0 a1 c0 c1 b0 b1 g0 g1 p0 p1 e0 e1 q0 q1 x0 x1) (ha : Asked lab 1 3 wr wn R1 a1 c1 b1 M1 g1 b1.length kb n X) :
    ∃ (lab' : Nat → Nat) (p : Nat) (e : Int) (vl vw : Value) (ls ws : List Value) (Ls : List (List Nat)), Quad w R0 R1 M0 M1 A B lab' wn a0 a1 c0 c1 b0 b1 g0 g1 p0 p e0 e q0 p x0 e ∧ Held lab' 6 wn (BookSet kb vl vw ls ws) (fun w' => IsBook w' kb vl vw ls ws Ls Ls) ∧ ls.length ≤ n + 1 ∧ ws.length = ls.length ∧ ∀ t, (Ls.getD t []).length ≤ X := by
  obtain ⟨lab', p, e, vl, vw, ls, ws, Ls, ht3, ht, hl, hr⟩ := ha
  have hl' : ∀ i k, k < wr.heap.size → lab k = i → lab' k = i := fun i k hk e => (hl k hk).trans e
  exact ⟨lab', p, e, vl, vw, ls, ws, Ls, ⟨h.r0.far ht (by unfold IJK; decide) (hl' 0), ht3.r, h.m0.far ht (by unfold IJK; decide) (hl' 2), ht3.m, h.ca.far ht (by unfold IJK; decide) (hl' 4), h.cb.far ht (by unfold IJK; decide) (hl' 5), h.below.trans (ht.below h.old (by unfold IJK; decide) h.below.size), fun k hk => hl' 9 k (Nat.lt_of_lt_of_le hk h.below.size) (h.old k hk)⟩, ht3.k, hr⟩
theorem Quad.reads1 {wn : World} {p : Nat} {e : Int} (h : Quad w R0 R1 M0 M1 A B lab wr a0 a1 c0 c1 b0 b1 g0 g1 p0 p1 e0 e1 q0 q1 x0 x1) (hr : Reads wr R1 a1 c1 b1 p e wn) : Quad w R0 R1 M0 M1 A B lab wn a0 a1 c0 c1 b0 b1 g0 g1 p0 p e0 e q0 q1 x0 x1 := by
  have ht : Tch lab (fun l => l = 1) wr wn := Tch.ofGrown hr.2 (fun k hk => by cases hk; exact h.r1.labs _ (.inl rfl))
  have hl' : ∀ i k, k < wr.heap.size → lab k = i → lab k = i := fun _ _ _ e => e
  exact ⟨h.r0.far ht (by decide) (hl' 0), Held.reader hr.1 h.r1.labs, h.m0.far ht (by decide) (hl' 2), h.m1.far ht (by decide) (hl' 3), h.ca.far ht (by decide) (hl' 4), h.cb.far ht (by decide) (hl' 5), h.below.trans (ht.below h.old (by decide) h.below.size), h.old⟩
theorem Quad.models1 {wn : World} {p : Nat} {e : Int} (h : Quad w R0 R1 M0 M1 A B lab wr a0 a1 c0 c1 b0 b1 g0 g1 p0 p1 e0 e1 q0 q1 x0 x1) (hr : Models wr M1 (some ⟨g1, 0, none⟩) b1.length b1 p e wn) : Quad w R0 R1 M0 M1 A B lab wn a0 a1 c0 c1 b0 b1 g0 g1 p0 p1 e0 e1 q0 p x0 e := by
  have ht : Tch lab (fun l => l = 3) wr wn := Tch.ofGrown hr.2 (fun k hk => by cases hk; exact h.m1.labs _ (.inl rfl))
  have hl' : ∀ i k, k < wr.heap.size → lab k = i → lab k = i := fun _ _ _ e => e
  exact ⟨h.r0.far ht (by decide) (hl' 0), h.r1.far ht (by decide) (hl' 1), h.m0.far ht (by decide) (hl' 2), Held.model hr.1 h.m1.labs, h.ca.far ht (by decide) (hl' 4), h.cb.far ht (by decide) (hl' 5), h.below.trans (ht.below h.old (by decide) h.below.size), h.old⟩

end

/-- ahead of the models: two Readers, and the two rows that were handed in -/
structure Pre (w : World) (R0 R1 A F0 F1 : Nat) (lab : Nat → Nat) (wr : World) (a0 a1 : Option Addr) (c0 c1 : Nat) (b0 b1 N0 N1 : List Nat) : Prop where
  r0 : Held lab 0 wr (ReaderSet R0 (.slice a0 b0.length c0)) (fun w' => IsReader w' R0 a0 c0 b0 0 0)
  r1 : Held lab 1 wr (ReaderSet R1 (.slice a1 b1.length c1)) (fun w' => IsReader w' R1 a1 c1 b1 0 0)
  ca : Held lab 4 wr (fun k => k = A) (fun w' => w'.heap[A]? = some (.cells #[.pointer (some ⟨R0, 0, none⟩), .pointer (some ⟨R1, 0, none⟩)] 47 (0, 0)))
  f0 : Held lab 7 wr (fun k => k = F0) (fun w' => w'.heap[F0]? = some (.cells (cellsU8 N0) 5 (0, 0)))
  f1 : Held lab 8 wr (fun k => k = F1) (fun w' => w'.heap[F1]? = some (.cells (cellsU8 N1) 5 (0, 0)))
  below : Below w.heap.size w wr
  old : ∀ k, k < w.heap.size → lab k = 9
section
variable {w : World} {R0 R1 A F0 F1 : Nat} {lab : Nat → Nat} {wr : World} {a0 a1 : Option Addr} {c0 c1 : Nat} {b0 b1 N0 N1 : List Nat}
theorem Pre.kept {wn : World} (h : Pre w R0 R1 A F0 F1 lab wr a0 a1 c0 c1 b0 b1 N0 N1) (hb : Below wr.heap.size wr wn) : Pre w R0 R1 A F0 F1 lab wn a0 a1 c0 c1 b0 b1 N0 N1 := by
  have ht : Tch lab (fun _ => False) wr wn := Tch.ofBelow hb
  exact ⟨h.r0.far ht id (fun _ _ e => e), h.r1.far ht id (fun _ _ e => e), h.ca.far ht id (fun _ _ e => e), h.f0.far ht id (fun _ _ e => e), h.f1.far ht id (fun _ _ e => e), h.below.trans (hb.mono h.below.size), h.old⟩
theorem Pre.set0 (h : Pre w R0 R1 A F0 F1 lab wr a0 a1 c0 c1 b0 b1 N0 N1) (k : Nat) : Pre w R0 R1 A F0 F1 lab (wr.setCell ⟨F0, k, none⟩ (.int .u8 9)) a0 a1 c0 c1 b0 b1 (N0.set k 9) N1 := by
  have ht : Tch lab (fun l => l = 7) wr (wr.setCell ⟨F0, k, none⟩ (.int .u8 9)) := ⟨rfl, rfl, rfl, by simp, fun n _ hn => heap_setCell_other wr ⟨F0, k, none⟩ n _ (fun e => hn (by rw [show n = F0 from e]; exact h.f0.labs _ rfl))⟩
  exact ⟨h.r0.far ht (by decide) (fun _ _ e => e), h.r1.far ht (by decide) (fun _ _ e => e), h.ca.far ht (by decide) (fun _ _ e => e), Held.block (RowAt.set (w := wr) h.f0.holds k 9) (h.f0.labs _ rfl), h.f1.far ht (by decide) (fun _ _ e => e), h.below.trans (ht.below h.old (by decide) h.below.size), h.old⟩
theorem Pre.set1 (h : Pre w R0 R1 A F0 F1 lab wr a0 a1 c0 c1 b0 b1 N0 N1) (k : Nat) : Pre w R0 R1 A F0 F1 lab (wr.setCell ⟨F1, k, none⟩ (.int .u8 9)) a0 a1 c0 c1 b0 b1 N0 (N1.set k 9) := by
  have ht : Tch lab (fun l => l = 8) wr (wr.setCell ⟨F1, k, none⟩ (.int .u8 9)) := ⟨rfl, rfl, rfl, by simp, fun n _ hn => heap_setCell_other wr ⟨F1, k, none⟩ n _ (fun e => hn (by rw [show n = F1 from e]; exact h.f1.labs _ rfl))⟩
  exact ⟨h.r0.far ht (by decide) (fun _ _ e => e), h.r1.far ht (by decide) (fun _ _ e => e), h.ca.far ht (by decide) (fun _ _ e => e), h.f0.far ht (by decide) (fun _ _ e => e), Held.block (RowAt.set (w := wr) h.f1.holds k 9) (h.f1.labs _ rfl), h.below.trans (ht.below h.old (by decide) h.below.size), h.old⟩
end
theorem op_most {w : World} {so : Option Addr} {ops : List OpV} {k : Nat} (hs : ScriptAt w so ops) (hk : k < ops.length) : -9223372036854775808 ≤ (ops.getD k default).most ∧ (ops.getD k default).most ≤ 9223372036854775807 := by
  rcases hs with h0 | ⟨sb, soff, _, h2⟩
  · rw [h0] at hk; simp at hk
  · exact (h2 k hk).hm
theorem left_sub (w : World) (r : Nat) (a : Option Addr) (c : Nat) (b : List Nat) (p : Nat) (e : Int) (h : IsReader w r a c b p e) :
    Calls Try.prog 20 #[.pointer (some ⟨r, 0, none⟩)] w fun e' w' => e' = .returned (.int .i64 ((b.length : Int) - (p : Int))) ∧ ∃ q, w' = w.drewN q := by
  have h1 := left_any w r a c b p e h
  have hp := h.2.2.1
  rw [show ((b.length - p : Nat) : Int) = (b.length : Int) - (p : Int) by omega] at h1
  exact h1

end Go.Proofs.Ythdlilekilkogaa
