/-
  THE LONGEST WAYS: what the loop keeps.
-/
import Derived.Test.YtkpggbjibngplaaLBack
namespace Go.Proofs.Ytkpggbjibngplaa
open Go.RowKit Go.Sort Go.Shelf

attribute [local go_sem] Oper.semAt_some

/-- the walk over one instruction: from what stands at its own place on -/
def mostW (m : List Int) (k : K) (i : Nat) : Int := (nextN i k.1 k.2).foldl (fun a t => max a (m.getD t 0)) (m.getD i 0) + 1
def stepM (L : List K) (m : List Int) (i : Nat) : List Int := m.set i (mostW m (cd L i) i)

theorem most_length (L : List K) (k : Nat) : (mostN L k).length = L.length + 1 := by
  induction k with
  | zero => simp [mostN]
  | succ k ih => rw [mostN, List.length_set, ih]
theorem most_zero (L : List K) (k i : Nat) (h : i + k < L.length) : (mostN L k).getD i 0 = 0 := by
  induction k with
  | zero => simp [mostN, List.getD_eq_getElem?_getD, List.getElem?_replicate]; split <;> rfl
  | succ k ih =>
    rw [mostN, getD_set _ _ _ _ (by rw [most_length]; omega), if_neg (by omega)]
    exact ih (by omega)
theorem most_step (L : List K) (k : Nat) (h : k < L.length) : mostN L (k + 1) = stepM L (mostN L k) (L.length - 1 - k) := by
  rw [mostN, stepM, mostW, most_zero L k _ (by omega), mostV]
def foldM (m : List Int) (nx : List Nat) (a : Int) : Int := nx.foldl (fun a t => max a (m.getD t 0)) a
theorem foldM_cons (m : List Int) (t : Nat) (nx : List Nat) (a : Int) : foldM m (t :: nx) a = foldM m nx (max a (m.getD t 0)) := rfl
/-- from 0 to b -/
def Few (m : List Int) (b : Int) : Prop := ∀ j, j < m.length → 0 ≤ m.getD j 0 ∧ m.getD j 0 ≤ b
theorem Few.mono {m : List Int} {b c : Int} (h : Few m b) (hc : b ≤ c) : Few m c := fun j hj => ⟨(h j hj).1, Int.le_trans (h j hj).2 hc⟩
theorem Few.set {m : List Int} {b x : Int} (h : Few m b) (i : Nat) (hx : 0 ≤ x ∧ x ≤ b) : Few (m.set i x) b := by
  intro j hj
  rw [List.length_set] at hj
  rw [getD_set m i j x hj]
  split
  · exact hx
  · exact h j hj
theorem foldM_few {m : List Int} {b : Int} (h : Few m b) (nx : List Nat) (hn : ∀ t ∈ nx, t < m.length) (a : Int) (ha : 0 ≤ a ∧ a ≤ b) : 0 ≤ foldM m nx a ∧ foldM m nx a ≤ b := by
  induction nx generalizing a with
  | nil => exact ha
  | cons t nx ih =>
    rw [foldM_cons]
    have h1 := h t (hn t (by simp))
    exact ih (fun t' ht => hn t' (by simp [ht])) _ (by omega)
/-- what stands while the loop runs -/
structure LI (W5 W : World) (g Bm Bs n cap : Nat) (ao : Option Addr) (m : List Int) : Prop where
  row : RowI W g m
  bm : Boxed W Bm 74 (.slice (some ⟨g, 0, none⟩) (n + 1) (n + 1))
  bs : Boxed W Bs 30 (.slice ao n cap)
  bel : Below g W5 W
theorem LI.keep {W5 W W' : World} {g Bm Bs n cap : Nat} {ao : Option Addr} {m : List Int} (h : LI W5 W g Bm Bs n cap ao m) (hk : ∀ k, k = g ∨ k = Bm ∨ k = Bs → W'.heap[k]? = W.heap[k]?) (hb : Below g W W') : LI W5 W' g Bm Bs n cap ao m :=
  ⟨(hk g (.inl rfl)).trans h.row, (hk Bm (.inr (.inl rfl))).trans h.bm, (hk Bs (.inr (.inr rfl))).trans h.bs, h.bel.trans hb⟩
theorem LI.kept {W5 W W' : World} {g Bm Bs n cap : Nat} {ao : Option Addr} {m : List Int} (h : LI W5 W g Bm Bs n cap ao m) (hb : Below W.heap.size W W') : LI W5 W' g Bm Bs n cap ao m :=
  h.keep (fun k hk => hb.block k (by rcases hk with rfl | rfl | rfl; exact h.row.lt; exact h.bm.lt; exact h.bs.lt)) (hb.mono (Nat.le_of_lt h.row.lt))
theorem LI.set {W5 W : World} {g Bm Bs n cap : Nat} {ao : Option Addr} {m : List Int} (h : LI W5 W g Bm Bs n cap ao m) (i : Nat) (z : Int) (h1 : Bm ≠ g) (h2 : Bs ≠ g) : LI W5 (W.setCell ⟨g, i, none⟩ (.int .i64 z)) g Bm Bs n cap ao (m.set i z) :=
  ⟨h.row.set i z, (heap_setCell_other W ⟨g, i, none⟩ Bm _ h1).trans h.bm, (heap_setCell_other W ⟨g, i, none⟩ Bs _ h2).trans h.bs, below_set h.bel _ _ (Nat.le_refl _)⟩
theorem LI.drewN {W5 W : World} {g Bm Bs n cap : Nat} {ao : Option Addr} {m : List Int} (h : LI W5 W g Bm Bs n cap ao m) (q : Nat) : LI W5 (W.drewN q) g Bm Bs n cap ao m := h.kept ⟨rfl, rfl, rfl, Nat.le_refl _, fun _ _ => rfl⟩
theorem keeps_below {W W' : World} (hb : Below W.heap.size W W') : KeepsOthers W W' := ⟨hb.size, fun _ _ h _ => (hb.block _ (Array.getElem?_eq_some_iff.1 h).1).trans h⟩
theorem KB.ofBelow {n₀ Bs : Nat} {A B : World} (h : Below A.heap.size A B) (h1 : n₀ ≤ A.heap.size) (h2 : Bs < A.heap.size) : KB n₀ Bs A B := ⟨h.mono h1, h.block Bs h2⟩
theorem KB.set {n₀ Bs g i : Nat} {A : World} (v : Value) (h1 : n₀ ≤ g) (h2 : Bs ≠ g) : KB n₀ Bs A (A.setCell ⟨g, i, none⟩ v) := ⟨below_set (Below.refl _ _) _ _ h1, heap_setCell_other A ⟨g, i, none⟩ Bs v h2⟩
theorem KB.put {n₀ Bs B : Nat} (h1 : n₀ ≤ B) (h2 : Bs < B) (W : World) (l : Nat) (o o' : Obj) (hl : B ≤ l) (_ : W.heap[l]? = some o) (_ : o.isCells = false) (_ : o.isWalk = false) : KB n₀ Bs W (W.putObj l o') :=
  ⟨⟨rfl, rfl, rfl, (grownBy_putObj' W l o').size, fun k hk => by by_cases hlt : k < W.heap.size
                                                                 · exact (grownBy_putObj' W l o').block k hlt (by simp; omega)
                                                                 · have := (grownBy_putObj' W l o').size; simp [World.putObj, Array.getElem?_eq_none_iff.2 (Nat.le_of_not_lt hlt)]; omega⟩,
   by by_cases hlt : Bs < W.heap.size
      · exact (grownBy_putObj' W l o').block Bs hlt (by simp; omega)
      · simp [World.putObj, Array.getElem?_eq_none_iff.2 (Nat.le_of_not_lt hlt)]; omega⟩
/-- the beginnings of the loop -/
def Chn (n : Nat) (pre : List Nat) : Prop := pre = dn n pre.length
theorem chn_snoc {n x : Nat} {pre : List Nat} (h : Chn n (pre ++ [x])) : Chn n pre ∧ x = n - 1 - pre.length := by
  unfold Chn at *
  rw [List.length_append, List.length_singleton, dn_succ] at h
  have h1 := List.append_inj' h rfl
  exact ⟨h1.1, by simpa using h1.2⟩
theorem chn_dn (n k : Nat) : Chn n (dn n k) := by unfold Chn; rw [dn_length]
def LInv (W5 : World) (g Bm Bs n cap : Nat) (ao : Option Addr) (L : List K) (pre : List Nat) (W : World) : Prop :=
  ∃ m, LI W5 W g Bm Bs n cap ao m ∧ m.length = n + 1 ∧ Few m (pre.length : Int) ∧ (Chn n pre → m = mostN L pre.length)

theorem set_self (m : List Int) (i : Nat) : m.set i (m.getD i 0) = m := by
  apply List.ext_getElem?
  intro j
  rw [List.getElem?_set]
  by_cases h : i = j
  · subst h
    by_cases hl : i < m.length
    · simp [hl, List.getD_eq_getElem?_getD]
    · simp [hl]
  · simp [h]
theorem verify_ok {p : Nums} {L : List K} (h : verifyN p L = 0) : limB p L.length = true ∧ lookAll p L L.length = 0 ∧ ∃ d, runD L L.length = some d ∧ depthsN p L = (d, 0) := by
  unfold verifyN depthsN at h
  unfold depthsN
  cases hl : limB p L.length with
  | false => rw [hl] at h; simp at h
  | true =>
    rw [hl, if_neg (by simp)] at h
    rw [if_neg (by simp)]
    by_cases h0 : lookAll p L L.length ≠ 0
    · rw [if_pos h0] at h; exact absurd h h0
    · rw [if_neg h0] at h ⊢
      cases hr : runD L L.length with
      | none => rw [hr] at h; simp at h
      | some d => exact ⟨rfl, by simpa using h0, d, rfl, rfl⟩

end Go.Proofs.Ytkpggbjibngplaa
