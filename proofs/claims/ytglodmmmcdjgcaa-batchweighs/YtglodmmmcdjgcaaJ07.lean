import Derived.Test.YtglodmmmcdjgcaaJ06
import Derived.Test.YtglodmmmcdjgcaaJ03
/-
  PROCEDURES IN MEMORY.
-/
namespace Go.Proofs.Ytglodmmmcdjgcaa
open Go.RowKit Go.Sort

/-- a procedure: its name, its program -/
structure Pr where
  name : ByteArray
  p : Nums
  ao : Option Addr
  n : Nat
  cap : Nat
  L : List K
def prc (x : Pr) : List Value := [.string x.name, .int .i64 x.p.args, .int .i64 x.p.reads, .int .i64 x.p.writes, .int .i64 x.p.locals, .slice x.ao x.n x.cap]
abbrev prv (x : Pr) : Value := .agg #[.string x.name, .int .i64 x.p.args, .int .i64 x.p.reads, .int .i64 x.p.writes, .int .i64 x.p.locals, .slice x.ao x.n x.cap]
def prcs : List Pr → List Value
  | [] => []
  | x :: Ps => prc x ++ prcs Ps
theorem prcs_length : ∀ Ps : List Pr, (prcs Ps).length = Ps.length * 6
  | [] => rfl
  | x :: Ps => by simp [prcs, prc, prcs_length Ps]; omega
def prD : Pr := ⟨⟨#[]⟩, ⟨0, 0, 0, 0⟩, none, 0, 0, []⟩
def pd (Ps : List Pr) (j : Nat) : Pr := Ps.getD j prD
theorem pd_mem {Ps : List Pr} {j : Nat} (h : j < Ps.length) : pd Ps j ∈ Ps := by
  simp [pd, List.getD_eq_getElem?_getD, List.getElem?_eq_getElem h]
theorem pd_take (Ps : List Pr) (j : Nat) (h : j < Ps.length) : Ps.take (j + 1) = Ps.take j ++ [pd Ps j] := by
  rw [List.take_succ_eq_append_getElem h]
  simp [pd, List.getD_eq_getElem?_getD, List.getElem?_eq_getElem h]
theorem pd_takeD (Ps : List Pr) (j k : Nat) (h : j < k) : pd (Ps.take k) j = pd Ps j := by
  simp [pd, List.getD_eq_getElem?_getD, h]
theorem prcs_at : ∀ (Ps : List Pr) (j i : Nat), j < Ps.length → i < 6 → (prcs Ps)[j * 6 + i]? = (prc (pd Ps j))[i]?
  | [], j, i, h, _ => by simp at h
  | x :: Ps, 0, i, _, hi => by
    have hl : (prc x).length = 6 := rfl
    simp only [prcs, pd, Nat.zero_mul, Nat.zero_add]
    rw [List.getElem?_append_left (by rw [hl]; exact hi)]; rfl
  | x :: Ps, j + 1, i, h, hi => by
    have hl : (prc x).length = 6 := rfl
    have ih := prcs_at Ps j i (by simp at h; omega) hi
    simp only [prcs]
    rw [List.getElem?_append_right (by rw [hl]; omega), hl, show (j + 1) * 6 + i - 6 = j * 6 + i by omega, ih]
    simp [pd]
/-- WHERE PROCEDURES LIE -/
def ProcsAt (W : World) (ao : Option Addr) (Ps : List Pr) : Prop :=
  Ps = [] ∨ ∃ b off, ao = some ⟨b, off, none⟩ ∧ ∀ j u, (prcs Ps)[j]? = some u → W.cell? ⟨b, off + j, none⟩ = some u
theorem ProcsAt.get {W : World} {ao : Option Addr} {Ps : List Pr} (h : ProcsAt W ao Ps) (j : Nat) (hj : j < Ps.length) : ∃ b off, ao = some ⟨b, off, none⟩ ∧ W.cell? ⟨b, off + j * 6, none⟩ = some (.string (pd Ps j).name) ∧
    W.cell? ⟨b, off + j * 6 + 1, none⟩ = some (.int .i64 (pd Ps j).p.args) ∧ W.cell? ⟨b, off + j * 6 + 2, none⟩ = some (.int .i64 (pd Ps j).p.reads) ∧ W.cell? ⟨b, off + j * 6 + 3, none⟩ = some (.int .i64 (pd Ps j).p.writes) ∧
    W.cell? ⟨b, off + j * 6 + 4, none⟩ = some (.int .i64 (pd Ps j).p.locals) ∧ W.cell? ⟨b, off + j * 6 + 5, none⟩ = some (.slice (pd Ps j).ao (pd Ps j).n (pd Ps j).cap) := by
  rcases h with rfl | ⟨b, off, rfl, hc⟩
  · simp at hj
  · refine ⟨b, off, rfl, ?_, ?_, ?_, ?_, ?_, ?_⟩
    · exact hc (j * 6) _ (prcs_at Ps j 0 hj (by omega))
    · exact hc (j * 6 + 1) _ (prcs_at Ps j 1 hj (by omega))
    · exact hc (j * 6 + 2) _ (prcs_at Ps j 2 hj (by omega))
    · exact hc (j * 6 + 3) _ (prcs_at Ps j 3 hj (by omega))
    · exact hc (j * 6 + 4) _ (prcs_at Ps j 4 hj (by omega))
    · exact hc (j * 6 + 5) _ (prcs_at Ps j 5 hj (by omega))
theorem ProcsAt.lt {W : World} {ao : Option Addr} {Ps : List Pr} (h : ProcsAt W ao Ps) : ∀ a, Ps ≠ [] → ao = some a → a.block < W.heap.size := by
  intro a hne e
  have h0 : 0 < Ps.length := by cases Ps with | nil => exact absurd rfl hne | cons _ _ => simp
  obtain ⟨b, off, e1, hc, _⟩ := h.get 0 h0
  rw [e1] at e
  cases e
  exact cell_lt hc
theorem ProcsAt.below {W W' : World} {ao : Option Addr} {Ps : List Pr} {B : Nat} (h : ProcsAt W ao Ps) (hb : Below B W W') (hlt : ∀ a, Ps ≠ [] → ao = some a → a.block < B) : ProcsAt W' ao Ps := by
  rcases h with rfl | ⟨b, off, rfl, hc⟩
  · exact .inl rfl
  · refine .inr ⟨b, off, rfl, fun j u hu => ?_⟩
    have hne : Ps ≠ [] := by intro e; rw [e] at hu; simp [prcs] at hu
    have h1 := hc j u hu
    simp only [World.cell?] at h1 ⊢
    rw [hb.block b (hlt _ hne rfl)]; exact h1
theorem ProcsAt.kept {W W' : World} {ao : Option Addr} {Ps : List Pr} (h : ProcsAt W ao Ps) (hb : Below W.heap.size W W') : ProcsAt W' ao Ps := h.below hb h.lt
theorem ProcsAt.grew {W W' : World} {ao : Option Addr} {Ps : List Pr} (h : ProcsAt W ao Ps) (hg : Grew W W') : ProcsAt W' ao Ps := h.kept hg.below
theorem prcs_append (A B : List Pr) : prcs (A ++ B) = prcs A ++ prcs B := by
  induction A with
  | nil => rfl
  | cons k A ih => simp [prcs, ih]
theorem ProcsAt.take {W : World} {ao : Option Addr} {Ps : List Pr} (h : ProcsAt W ao Ps) (k : Nat) : ProcsAt W ao (Ps.take k) := by
  rcases h with rfl | ⟨b, off, rfl, hc⟩
  · left; simp
  · right
    refine ⟨b, off, rfl, fun j u hu => hc j u ?_⟩
    have e : prcs Ps = prcs (Ps.take k) ++ prcs (Ps.drop k) := by rw [← prcs_append, List.take_append_drop]
    rw [e, List.getElem?_append_left (List.getElem?_eq_some_iff.1 hu).1]; exact hu
/-- what a procedure holds -/
structure PrOK (W : World) (x : Pr) : Prop where
  len : x.n = x.L.length
  ks : KeysAt W x.ao x.L
  nin : NIn x.p
  kin : ∀ k ∈ x.L, KIn k
  nil : x.ao = none → x.cap = 0
  str : x.name.size ≤ 140737488351232
  big : x.n * 16 ≤ 140737488351232
theorem PrOK.kept {W W' : World} {x : Pr} (h : PrOK W x) (hb : Below W.heap.size W W') : PrOK W' x := ⟨h.len, h.ks.kept hb, h.nin, h.kin, h.nil, h.str, h.big⟩
/-- A LIBRARY -/
structure LibAt (W : World) (ao : Option Addr) (Ps : List Pr) : Prop where
  at_ : ProcsAt W ao Ps
  ok : ∀ x ∈ Ps, PrOK W x
theorem LibAt.kept {W W' : World} {ao : Option Addr} {Ps : List Pr} (h : LibAt W ao Ps) (hb : Below W.heap.size W W') : LibAt W' ao Ps := ⟨h.at_.kept hb, fun x hx => (h.ok x hx).kept hb⟩

/-- the first that is not 0, and its place -/
def firstP (f : Nat → Int) : Nat → Nat × Int
  | 0 => (0, 0)
  | k + 1 => if (firstP f k).2 ≠ 0 then firstP f k else if f k ≠ 0 then (k, f k) else (0, 0)
theorem firstP_zero {f : Nat → Int} {k : Nat} (h : ∀ i, i < k → f i = 0) : firstP f k = (0, 0) := by
  induction k with
  | zero => rfl
  | succ k ih =>
    have e := ih (fun i hi => h i (by omega))
    simp only [firstP, e, h k (by omega)]; rfl
theorem firstP_stop {f : Nat → Int} {k n : Nat} (h : ∀ i, i < k → f i = 0) (hk : f k ≠ 0) (hn : k < n) : firstP f n = (k, f k) := by
  induction n with
  | zero => omega
  | succ n ih =>
    by_cases e : k = n
    · subst e; simp only [firstP, firstP_zero h]; rw [if_neg (by simp), if_pos hk]
    · have := ih (by omega)
      simp only [firstP, this]; rw [if_pos hk]
end Go.Proofs.Ytglodmmmcdjgcaa
/-
  THE WALK OF codec.fresh.
-/
namespace Go.Proofs.Ytglodmmmcdjgcaa
open Go.RowKit

end Go.Proofs.Ytglodmmmcdjgcaa
/-
  THE WALKS OF codec.Writer's METHODS.
-/
namespace Go.Proofs.Ytglodmmmcdjgcaa
open Go.RowKit

/-- WHAT A CALL OF A Writer LEAVES: its own block and its row may turn, and new blocks; its new row is the old one or a new block. -/
structure Wrote (w w' : World) (r : Nat) (v v' : Value) : Prop where
  os : w'.os = w.os
  tape : w'.tape = w.tape
  output : w'.output = w.output
  size : w.heap.size ≤ w'.heap.size
  block : ∀ k, k < w.heap.size → k ≠ r → v.ownBlock ≠ some k → w'.heap[k]? = w.heap[k]?
  lies : ∀ k, v'.ownBlock = some k → v.ownBlock = some k ∨ w.heap.size ≤ k
theorem Wrote.refl (w : World) (r : Nat) (v : Value) : Wrote w w r v v := ⟨rfl, rfl, rfl, Nat.le_refl _, fun _ _ _ _ => rfl, fun _ h => .inl h⟩
theorem Wrote.trans {w w1 w2 : World} {r : Nat} {v v1 v2 : Value} (h : Wrote w w1 r v v1) (k : Wrote w1 w2 r v1 v2) : Wrote w w2 r v v2 := by
  refine ⟨k.os.trans h.os, k.tape.trans h.tape, k.output.trans h.output, Nat.le_trans h.size k.size, fun i hi hr hv => ?_, fun i hi => ?_⟩
  · rw [k.block i (Nat.lt_of_lt_of_le hi h.size) hr (fun e => ?_), h.block i hi hr hv]
    rcases h.lies i e with h1 | h1
    · exact hv h1
    · omega
  · rcases k.lies i hi with h1 | h1
    · exact h.lies i h1
    · exact .inr (Nat.le_trans h.size h1)
theorem Wrote.bytes {w w1 : World} {r : Nat} {v v1 : Value} {ao : Option Addr} {zs : List Nat} (h : Wrote w w1 r v v1) (hb : BytesAt w ao zs) (hlt : ∀ a, zs ≠ [] → ao = some a → a.block ≠ r ∧ v.ownBlock ≠ some a.block) : BytesAt w1 ao zs := by
  have hl := hb.lt
  obtain ⟨hz, rfl | ⟨b, off, rfl, hc⟩⟩ := hb
  · exact ⟨hz, .inl rfl⟩
  · refine ⟨hz, .inr ⟨b, off, rfl, fun j hj => ?_⟩⟩
    have hne : zs ≠ [] := by intro e; rw [e] at hj; simp at hj
    have h1 := hlt _ hne rfl
    have h2 := h.block b (hl _ hne rfl) h1.1 h1.2
    have h3 := hc j hj
    simp only [World.cell?] at h3 ⊢
    rw [h2]; exact h3
theorem grown_alloc {w : World} {o : Obj} {row : Option Nat} (w1 : World) (h : (w.alloc o).grownBy w1 row) : w.grownBy w1 row :=
  ⟨h.os, h.tape, h.output, Nat.le_trans (by simp) h.size, fun k hk hne => (h.block k (by simp; omega) hne).trans (Below.heap_alloc w o k hk)⟩




/-- a number without sign: seven bits a byte -/
def uint : Nat → Nat → List Nat
  | 0, n => [n % 256]
  | f + 1, n => if 128 ≤ n then (n % 128 + 128) :: uint f (n / 128) else [n]
theorem uint_more (f n : Nat) (h : 128 ≤ n) : uint (f + 1) n = (n % 128 + 128) :: uint f (n / 128) := by rw [uint, if_pos h]
theorem uint_last (f n : Nat) (h : ¬ 128 ≤ n) : uint (f + 1) n = [n] := by rw [uint, if_neg h]
theorem uint_lt : ∀ f n, ∀ z ∈ uint f n, z < 256
  | 0, n => by intro z hz; simp [uint] at hz; omega
  | f + 1, n => by
    intro z hz
    unfold uint at hz
    split at hz
    · rcases List.mem_cons.1 hz with rfl | h
      · omega
      · exact uint_lt f _ z h
    · simp at hz; omega
theorem uint_length : ∀ f n, (uint f n).length ≤ f + 1
  | 0, n => by simp [uint]
  | f + 1, n => by
    unfold uint
    split
    · have := uint_length f (n / 128); simp only [List.length_cons]; omega
    · simp
theorem or128 (n : Nat) : bits .or .u8 ((n : Int) % 256) 128 = ((n % 128 + 128 : Nat) : Int) := by
  have h := u8_or_nat (n % 256) 128 (by omega) (by omega)
  have e : (n % 256) ||| 128 = n % 128 + 128 := by
    have h1 : n % 256 = n % 128 + 128 * (n / 128 % 2) := by omega
    have h2 : ∀ a, a < 128 → ∀ b, b < 2 → (a + 128 * b) ||| 128 = a + 128 := by decide +kernel
    rw [h1]
    exact h2 _ (by omega) _ (by omega)
  rw [e] at h
  rw [show ((n : Int) % 256) = ((n % 256 : Nat) : Int) by omega]
  exact h


/-- a number with sign as one without -/
def fold (n : Int) : Nat := if n < 0 then (2 * (-1 - n) + 1).toNat else (2 * n).toNat
theorem fold_lt (n : Int) (h0 : -9223372036854775808 ≤ n) (h1 : n ≤ 9223372036854775807) : fold n < 18446744073709551616 := by
  unfold fold; split <;> omega




end Go.Proofs.Ytglodmmmcdjgcaa
