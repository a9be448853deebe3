/-
  PROCEDURES IN MEMORY.
-/
import Derived.Test.YtkpggbjibngplaaLStr
namespace Go.Proofs.Ytkpggbjibngplaa
open Go.RowKit Go.Sort

/-- a procedure: its name, its program -/
structure Pr where
  name : ByteArray
  p : Nums
  ao : Option Addr
  n : Nat
  cap : Nat
  L : List K
def prc (x : Pr) : List Value := [.string x.name, .int .i64 x.p.args, .int .i64 x.p.reads, .int .i64 x.p.writes, .int .i64 x.p.locals, .slice x.ao x.n x.cap]
abbrev prv (x : Pr) : Value := .agg #[.string x.name, .int .i64 x.p.args, .int .i64 x.p.reads, .int .i64 x.p.writes, .int .i64 x.p.locals, .slice x.ao x.n x.cap]
def prcs : List Pr → List Value
  | [] => []
  | x :: Ps => prc x ++ prcs Ps
theorem prcs_length : ∀ Ps : List Pr, (prcs Ps).length = Ps.length * 6
  | [] => rfl
  | x :: Ps => by simp [prcs, prc, prcs_length Ps]; omega
def prD : Pr := ⟨⟨#[]⟩, ⟨0, 0, 0, 0⟩, none, 0, 0, []⟩
def pd (Ps : List Pr) (j : Nat) : Pr := Ps.getD j prD
theorem pd_mem {Ps : List Pr} {j : Nat} (h : j < Ps.length) : pd Ps j ∈ Ps := by
  simp [pd, List.getD_eq_getElem?_getD, List.getElem?_eq_getElem h]
theorem pd_take (Ps : List Pr) (j : Nat) (h : j < Ps.length) : Ps.take (j + 1) = Ps.take j ++ [pd Ps j] := by
  rw [List.take_succ_eq_append_getElem h]
  simp [pd, List.getD_eq_getElem?_getD, List.getElem?_eq_getElem h]
theorem pd_takeD (Ps : List Pr) (j k : Nat) (h : j < k) : pd (Ps.take k) j = pd Ps j := by
  simp [pd, List.getD_eq_getElem?_getD, h]
theorem prcs_at : ∀ (Ps : List Pr) (j i : Nat), j < Ps.length → i < 6 → (prcs Ps)[j * 6 + i]? = (prc (pd Ps j))[i]?
  | [], j, i, h, _ => by simp at h
  | x :: Ps, 0, i, _, hi => by
    have hl : (prc x).length = 6 := rfl
    simp only [prcs, pd, Nat.zero_mul, Nat.zero_add]
    rw [List.getElem?_append_left (by rw [hl]; exact hi)]; rfl
  | x :: Ps, j + 1, i, h, hi => by
    have hl : (prc x).length = 6 := rfl
    have ih := prcs_at Ps j i (by simp at h; omega) hi
    simp only [prcs]
    rw [List.getElem?_append_right (by rw [hl]; omega), hl, show (j + 1) * 6 + i - 6 = j * 6 + i by omega, ih]
    simp [pd]
/-- WHERE PROCEDURES LIE -/
def ProcsAt (W : World) (ao : Option Addr) (Ps : List Pr) : Prop :=
  Ps = [] ∨ ∃ b off, ao = some ⟨b, off, none⟩ ∧ ∀ j u, (prcs Ps)[j]? = some u → W.cell? ⟨b, off + j, none⟩ = some u
theorem ProcsAt.get {W : World} {ao : Option Addr} {Ps : List Pr} (h : ProcsAt W ao Ps) (j : Nat) (hj : j < Ps.length) : ∃ b off, ao = some ⟨b, off, none⟩ ∧ W.cell? ⟨b, off + j * 6, none⟩ = some (.string (pd Ps j).name) ∧
    W.cell? ⟨b, off + j * 6 + 1, none⟩ = some (.int .i64 (pd Ps j).p.args) ∧ W.cell? ⟨b, off + j * 6 + 2, none⟩ = some (.int .i64 (pd Ps j).p.reads) ∧ W.cell? ⟨b, off + j * 6 + 3, none⟩ = some (.int .i64 (pd Ps j).p.writes) ∧
    W.cell? ⟨b, off + j * 6 + 4, none⟩ = some (.int .i64 (pd Ps j).p.locals) ∧ W.cell? ⟨b, off + j * 6 + 5, none⟩ = some (.slice (pd Ps j).ao (pd Ps j).n (pd Ps j).cap) := by
  rcases h with rfl | ⟨b, off, rfl, hc⟩
  · simp at hj
  · refine ⟨b, off, rfl, ?_, ?_, ?_, ?_, ?_, ?_⟩
    · exact hc (j * 6) _ (prcs_at Ps j 0 hj (by omega))
    · exact hc (j * 6 + 1) _ (prcs_at Ps j 1 hj (by omega))
    · exact hc (j * 6 + 2) _ (prcs_at Ps j 2 hj (by omega))
    · exact hc (j * 6 + 3) _ (prcs_at Ps j 3 hj (by omega))
    · exact hc (j * 6 + 4) _ (prcs_at Ps j 4 hj (by omega))
    · exact hc (j * 6 + 5) _ (prcs_at Ps j 5 hj (by omega))
theorem ProcsAt.lt {W : World} {ao : Option Addr} {Ps : List Pr} (h : ProcsAt W ao Ps) : ∀ a, Ps ≠ [] → ao = some a → a.block < W.heap.size := by
  intro a hne e
  have h0 : 0 < Ps.length := by cases Ps with | nil => exact absurd rfl hne | cons _ _ => simp
  obtain ⟨b, off, e1, hc, _⟩ := h.get 0 h0
  rw [e1] at e
  cases e
  exact cell_lt hc
theorem ProcsAt.below {W W' : World} {ao : Option Addr} {Ps : List Pr} {B : Nat} (h : ProcsAt W ao Ps) (hb : Below B W W') (hlt : ∀ a, Ps ≠ [] → ao = some a → a.block < B) : ProcsAt W' ao Ps := by
  rcases h with rfl | ⟨b, off, rfl, hc⟩
  · exact .inl rfl
  · refine .inr ⟨b, off, rfl, fun j u hu => ?_⟩
    have hne : Ps ≠ [] := by intro e; rw [e] at hu; simp [prcs] at hu
    have h1 := hc j u hu
    simp only [World.cell?] at h1 ⊢
    rw [hb.block b (hlt _ hne rfl)]; exact h1
theorem ProcsAt.kept {W W' : World} {ao : Option Addr} {Ps : List Pr} (h : ProcsAt W ao Ps) (hb : Below W.heap.size W W') : ProcsAt W' ao Ps := h.below hb h.lt
theorem ProcsAt.grew {W W' : World} {ao : Option Addr} {Ps : List Pr} (h : ProcsAt W ao Ps) (hg : Grew W W') : ProcsAt W' ao Ps := h.kept hg.below
theorem prcs_append (A B : List Pr) : prcs (A ++ B) = prcs A ++ prcs B := by
  induction A with
  | nil => rfl
  | cons k A ih => simp [prcs, ih]
theorem ProcsAt.take {W : World} {ao : Option Addr} {Ps : List Pr} (h : ProcsAt W ao Ps) (k : Nat) : ProcsAt W ao (Ps.take k) := by
  rcases h with rfl | ⟨b, off, rfl, hc⟩
  · left; simp
  · right
    refine ⟨b, off, rfl, fun j u hu => hc j u ?_⟩
    have e : prcs Ps = prcs (Ps.take k) ++ prcs (Ps.drop k) := by rw [← prcs_append, List.take_append_drop]
    rw [e, List.getElem?_append_left (List.getElem?_eq_some_iff.1 hu).1]; exact hu
/-- what a procedure holds -/
structure PrOK (W : World) (x : Pr) : Prop where
  len : x.n = x.L.length
  ks : KeysAt W x.ao x.L
  nin : NIn x.p
  kin : ∀ k ∈ x.L, KIn k
  nil : x.ao = none → x.cap = 0
  str : x.name.size ≤ 140737488351232
  big : x.n * 16 ≤ 140737488351232
theorem PrOK.kept {W W' : World} {x : Pr} (h : PrOK W x) (hb : Below W.heap.size W W') : PrOK W' x := ⟨h.len, h.ks.kept hb, h.nin, h.kin, h.nil, h.str, h.big⟩
/-- A LIBRARY -/
structure LibAt (W : World) (ao : Option Addr) (Ps : List Pr) : Prop where
  at_ : ProcsAt W ao Ps
  ok : ∀ x ∈ Ps, PrOK W x
theorem LibAt.kept {W W' : World} {ao : Option Addr} {Ps : List Pr} (h : LibAt W ao Ps) (hb : Below W.heap.size W W') : LibAt W' ao Ps := ⟨h.at_.kept hb, fun x hx => (h.ok x hx).kept hb⟩

/-- the first that is not 0, and its place -/
def firstP (f : Nat → Int) : Nat → Nat × Int
  | 0 => (0, 0)
  | k + 1 => if (firstP f k).2 ≠ 0 then firstP f k else if f k ≠ 0 then (k, f k) else (0, 0)
theorem firstP_zero {f : Nat → Int} {k : Nat} (h : ∀ i, i < k → f i = 0) : firstP f k = (0, 0) := by
  induction k with
  | zero => rfl
  | succ k ih =>
    have e := ih (fun i hi => h i (by omega))
    simp only [firstP, e, h k (by omega)]; rfl
theorem firstP_stop {f : Nat → Int} {k n : Nat} (h : ∀ i, i < k → f i = 0) (hk : f k ≠ 0) (hn : k < n) : firstP f n = (k, f k) := by
  induction n with
  | zero => omega
  | succ n ih =>
    by_cases e : k = n
    · subst e; simp only [firstP, firstP_zero h]; rw [if_neg (by simp), if_pos hk]
    · have := ih (by omega)
      simp only [firstP, this]; rw [if_pos hk]
end Go.Proofs.Ytkpggbjibngplaa
