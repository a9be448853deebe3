import Derived.Test.YtcaibgbhebldmaaGreatJ29
/-
  THE LONGEST WAYS: what the loop keeps.
-/
namespace Go.Proofs.YtcaibgbhebldmaaGreat
open Go.RowKit Go.Sort Go.Shelf

attribute [local go_sem] Oper.semAt_some

/-- the walk over one instruction: from what stands at its own place on -/
def mostW (m : List Int) (k : K) (i : Nat) : Int := (nextN i k.1 k.2).foldl (fun a t => max a (m.getD t 0)) (m.getD i 0) + 1
def stepM (L : List K) (m : List Int) (i : Nat) : List Int := m.set i (mostW m (cd L i) i)

theorem most_length (L : List K) (k : Nat) : (mostN L k).length = L.length + 1 := by
  induction k with
  | zero => simp [mostN]
  | succ k ih => rw [mostN, List.length_set, ih]
theorem most_zero (L : List K) (k i : Nat) (h : i + k < L.length) : (mostN L k).getD i 0 = 0 := by
  induction k with
  | zero => simp [mostN, List.getD_eq_getElem?_getD, List.getElem?_replicate]; split <;> rfl
  | succ k ih =>
    rw [mostN, getD_set _ _ _ _ (by rw [most_length]; omega), if_neg (by omega)]
    exact ih (by omega)
theorem most_step (L : List K) (k : Nat) (h : k < L.length) : mostN L (k + 1) = stepM L (mostN L k) (L.length - 1 - k) := by
  rw [mostN, stepM, mostW, most_zero L k _ (by omega), mostV]
def foldM (m : List Int) (nx : List Nat) (a : Int) : Int := nx.foldl (fun a t => max a (m.getD t 0)) a
theorem foldM_cons (m : List Int) (t : Nat) (nx : List Nat) (a : Int) : foldM m (t :: nx) a = foldM m nx (max a (m.getD t 0)) := rfl
/-- from 0 to b -/
def Few (m : List Int) (b : Int) : Prop := ∀ j, j < m.length → 0 ≤ m.getD j 0 ∧ m.getD j 0 ≤ b
theorem Few.mono {m : List Int} {b c : Int} (h : Few m b) (hc : b ≤ c) : Few m c := fun j hj => ⟨(h j hj).1, Int.le_trans (h j hj).2 hc⟩
theorem Few.set {m : List Int} {b x : Int} (h : Few m b) (i : Nat) (hx : 0 ≤ x ∧ x ≤ b) : Few (m.set i x) b := by
  intro j hj
  rw [List.length_set] at hj
  rw [getD_set m i j x hj]
  split
  · exact hx
  · exact h j hj
theorem foldM_few {m : List Int} {b : Int} (h : Few m b) (nx : List Nat) (hn : ∀ t ∈ nx, t < m.length) (a : Int) (ha : 0 ≤ a ∧ a ≤ b) : 0 ≤ foldM m nx a ∧ foldM m nx a ≤ b := by
  induction nx generalizing a with
  | nil => exact ha
  | cons t nx ih =>
    rw [foldM_cons]
    have h1 := h t (hn t (by simp))
    exact ih (fun t' ht => hn t' (by simp [ht])) _ (by omega)
/-- what stands while the loop runs -/
structure LI (W5 W : World) (g Bm Bs n cap : Nat) (ao : Option Addr) (m : List Int) : Prop where
  row : RowI W g m
  bm : Boxed W Bm 97 (.slice (some ⟨g, 0, none⟩) (n + 1) (n + 1))
  bs : Boxed W Bs 48 (.slice ao n cap)
  bel : Below g W5 W
theorem LI.keep {W5 W W' : World} {g Bm Bs n cap : Nat} {ao : Option Addr} {m : List Int} (h : LI W5 W g Bm Bs n cap ao m) (hk : ∀ k, k = g ∨ k = Bm ∨ k = Bs → W'.heap[k]? = W.heap[k]?) (hb : Below g W W') : LI W5 W' g Bm Bs n cap ao m :=
  ⟨(hk g (.inl rfl)).trans h.row, (hk Bm (.inr (.inl rfl))).trans h.bm, (hk Bs (.inr (.inr rfl))).trans h.bs, h.bel.trans hb⟩
theorem LI.kept {W5 W W' : World} {g Bm Bs n cap : Nat} {ao : Option Addr} {m : List Int} (h : LI W5 W g Bm Bs n cap ao m) (hb : Below W.heap.size W W') : LI W5 W' g Bm Bs n cap ao m :=
  h.keep (fun k hk => hb.block k (by rcases hk with rfl | rfl | rfl; exact h.row.lt; exact h.bm.lt; exact h.bs.lt)) (hb.mono (Nat.le_of_lt h.row.lt))
theorem LI.set {W5 W : World} {g Bm Bs n cap : Nat} {ao : Option Addr} {m : List Int} (h : LI W5 W g Bm Bs n cap ao m) (i : Nat) (z : Int) (h1 : Bm ≠ g) (h2 : Bs ≠ g) : LI W5 (W.setCell ⟨g, i, none⟩ (.int .i64 z)) g Bm Bs n cap ao (m.set i z) :=
  ⟨h.row.set i z, (heap_setCell_other W ⟨g, i, none⟩ Bm _ h1).trans h.bm, (heap_setCell_other W ⟨g, i, none⟩ Bs _ h2).trans h.bs, below_set h.bel _ _ (Nat.le_refl _)⟩
theorem LI.drewN {W5 W : World} {g Bm Bs n cap : Nat} {ao : Option Addr} {m : List Int} (h : LI W5 W g Bm Bs n cap ao m) (q : Nat) : LI W5 (W.drewN q) g Bm Bs n cap ao m := h.kept ⟨rfl, rfl, rfl, Nat.le_refl _, fun _ _ => rfl⟩
theorem keeps_below {W W' : World} (hb : Below W.heap.size W W') : KeepsOthers W W' := ⟨hb.size, fun _ _ h _ => (hb.block _ (Array.getElem?_eq_some_iff.1 h).1).trans h⟩
theorem KB.ofBelow {n₀ Bs : Nat} {A B : World} (h : Below A.heap.size A B) (h1 : n₀ ≤ A.heap.size) (h2 : Bs < A.heap.size) : KB n₀ Bs A B := ⟨h.mono h1, h.block Bs h2⟩
theorem KB.set {n₀ Bs g i : Nat} {A : World} (v : Value) (h1 : n₀ ≤ g) (h2 : Bs ≠ g) : KB n₀ Bs A (A.setCell ⟨g, i, none⟩ v) := ⟨below_set (Below.refl _ _) _ _ h1, heap_setCell_other A ⟨g, i, none⟩ Bs v h2⟩
theorem KB.put {n₀ Bs B : Nat} (h1 : n₀ ≤ B) (h2 : Bs < B) (W : World) (l : Nat) (o o' : Obj) (hl : B ≤ l) (_ : W.heap[l]? = some o) (_ : o.isCells = false) (_ : o.isWalk = false) : KB n₀ Bs W (W.putObj l o') :=
  ⟨⟨rfl, rfl, rfl, (grownBy_putObj' W l o').size, fun k hk => by by_cases hlt : k < W.heap.size
                                                                 · exact (grownBy_putObj' W l o').block k hlt (by simp; omega)
                                                                 · have := (grownBy_putObj' W l o').size; simp [World.putObj, Array.getElem?_eq_none_iff.2 (Nat.le_of_not_lt hlt)]; omega⟩,
   by by_cases hlt : Bs < W.heap.size
      · exact (grownBy_putObj' W l o').block Bs hlt (by simp; omega)
      · simp [World.putObj, Array.getElem?_eq_none_iff.2 (Nat.le_of_not_lt hlt)]; omega⟩
/-- the beginnings of the loop -/
def Chn (n : Nat) (pre : List Nat) : Prop := pre = dn n pre.length
theorem chn_snoc {n x : Nat} {pre : List Nat} (h : Chn n (pre ++ [x])) : Chn n pre ∧ x = n - 1 - pre.length := by
  unfold Chn at *
  rw [List.length_append, List.length_singleton, dn_succ] at h
  have h1 := List.append_inj' h rfl
  exact ⟨h1.1, by simpa using h1.2⟩
theorem chn_dn (n k : Nat) : Chn n (dn n k) := by unfold Chn; rw [dn_length]
def LInv (W5 : World) (g Bm Bs n cap : Nat) (ao : Option Addr) (L : List K) (pre : List Nat) (W : World) : Prop :=
  ∃ m, LI W5 W g Bm Bs n cap ao m ∧ m.length = n + 1 ∧ Few m (pre.length : Int) ∧ (Chn n pre → m = mostN L pre.length)

theorem set_self (m : List Int) (i : Nat) : m.set i (m.getD i 0) = m := by
  apply List.ext_getElem?
  intro j
  rw [List.getElem?_set]
  by_cases h : i = j
  · subst h
    by_cases hl : i < m.length
    · simp [hl, List.getD_eq_getElem?_getD]
    · simp [hl]
  · simp [h]
theorem verify_ok {p : Nums} {L : List K} (h : verifyN p L = 0) : limB p L.length = true ∧ lookAll p L L.length = 0 ∧ ∃ d, runD L L.length = some d ∧ depthsN p L = (d, 0) := by
  unfold verifyN depthsN at h
  unfold depthsN
  cases hl : limB p L.length with
  | false => rw [hl] at h; simp at h
  | true =>
    rw [hl, if_neg (by simp)] at h
    rw [if_neg (by simp)]
    by_cases h0 : lookAll p L L.length ≠ 0
    · rw [if_pos h0] at h; exact absurd h h0
    · rw [if_neg h0] at h ⊢
      cases hr : runD L L.length with
      | none => rw [hr] at h; simp at h
      | some d => exact ⟨rfl, by simpa using h0, d, rfl, rfl⟩

end Go.Proofs.YtcaibgbhebldmaaGreat
/-
  WAYS THROUGH A VERIFIED PROGRAM: depths are kept, the longest way falls.
-/
namespace Go.Proofs.YtcaibgbhebldmaaGreat
open Go.RowKit Go.Sort

theorem putD_keep {x : Int} (hx : x ≠ -1) : ∀ {r : List Nat} {d d' : List Int}, putD d x r = some d' → (∀ j, j < d.length → d.getD j 0 ≠ -1 → d'.getD j 0 = d.getD j 0) ∧ (∀ j, j < d.length → j ∉ r → d'.getD j 0 = d.getD j 0) ∧ (∀ t ∈ r, t < d.length → d'.getD t 0 = x)
  | [], d, d', h => by
    simp [putD] at h
    subst h
    exact ⟨fun _ _ _ => rfl, fun _ _ _ => rfl, fun t ht => by cases ht⟩
  | t :: r, d, d', h => by
    unfold putD at h
    split at h
    · simp at h
    · rename_i hc
      obtain ⟨k1, k2, k3⟩ := putD_keep hx h
      rw [List.length_set] at k1 k2 k3
      refine ⟨fun j hj hd => ?_, fun j hj hr => ?_, fun u hu hul => ?_⟩
      · have e : (d.set t x).getD j 0 = d.getD j 0 := by
          rw [getD_set d t j x hj]
          split
          · rename_i e
            subst e
            by_cases he : d.getD t 0 = x
            · exact he.symm
            · exact absurd ⟨hd, he⟩ hc
          · rfl
        rw [k1 j hj (by rw [e]; exact hd), e]
      · rw [k2 j hj (fun h => hr (by simp [h])), getD_set d t j x hj, if_neg (fun e => hr (by simp [e]))]
      · rcases List.mem_cons.1 hu with e | e
        · subst e
          have e2 : (d.set u x).getD u 0 = x := by rw [getD_set d u u x hul, if_pos rfl]
          rw [k1 u hul (by rw [e2]; exact hx), e2]
        · exact k3 u e hul
theorem step_keep {L : List K} (hs : Sane L) {i : Nat} (hi : i < L.length) {d d' : List Int} (hd : d.length = L.length + 1) (h : stepD (cd L i) i d = some d') :
    (∀ j, j ≤ L.length → d.getD j 0 ≠ -1 → d'.getD j 0 = d.getD j 0) ∧ (∀ j, j ≤ i → d'.getD j 0 = d.getD j 0) ∧
    (d.getD i 0 ≠ -1 → 0 ≤ d.getD i 0 - takesN (cd L i).1 ∧ d.getD i 0 - takesN (cd L i).1 + leavesN (cd L i).1 ≤ 32 ∧ ∀ t ∈ nextN i (cd L i).1 (cd L i).2, d'.getD t 0 = d.getD i 0 - takesN (cd L i).1 + leavesN (cd L i).1) := by
  have hn := next_lt hs hi
  have hl := leaves_bound (hs i hi).1
  unfold stepD at h
  split at h
  · rename_i h1
    simp at h
    subst h
    exact ⟨fun _ _ _ => rfl, fun _ _ => rfl, fun h2 => absurd h1 h2⟩
  · split at h
    · simp at h
    · rename_i h2
      have hx : d.getD i 0 - takesN (cd L i).1 + leavesN (cd L i).1 ≠ -1 := by omega
      obtain ⟨k1, k2, k3⟩ := putD_keep hx h
      refine ⟨fun j hj => k1 j (by omega), fun j hj => k2 j (by omega) (fun hr => by have := (hn j hr).1; omega), fun _ => ⟨by omega, by omega, fun t ht => k3 t ht (by have := (hn t ht).2; omega)⟩⟩
theorem run_some {L : List K} {n : Nat} {d : List Int} (h : runD L n = some d) (k : Nat) (hk : k ≤ n) : ∃ dk, runD L k = some dk := by
  cases e : runD L k with
  | none => rw [runD_stuck e n hk] at h; cases h
  | some dk => exact ⟨dk, rfl⟩
theorem run_keep {L : List K} (hs : Sane L) {k : Nat} {dk : List Int} (h : runD L k = some dk) : ∀ (n : Nat) {d : List Int}, k ≤ n → n ≤ L.length → runD L n = some d → (∀ j, j ≤ L.length → dk.getD j 0 ≠ -1 → d.getD j 0 = dk.getD j 0) ∧ (∀ j, j ≤ k → d.getD j 0 = dk.getD j 0)
  | 0, d, hk, _, hd => by
    obtain rfl : k = 0 := by omega
    rw [h] at hd
    cases hd
    exact ⟨fun _ _ _ => rfl, fun _ _ => rfl⟩
  | n + 1, d, hk, hn, hd => by
    by_cases e : k = n + 1
    · subst e
      rw [h] at hd
      cases hd
      exact ⟨fun _ _ _ => rfl, fun _ _ => rfl⟩
    · obtain ⟨d1, h1⟩ := run_some hd n (by omega)
      obtain ⟨a1, a2⟩ := run_keep hs h n (by omega) (by omega) h1
      unfold runD at hd
      rw [h1] at hd
      simp at hd
      obtain ⟨b1, b2, _⟩ := step_keep hs (i := n) (by omega) (runD_length h1) hd
      refine ⟨fun j hj hne => ?_, fun j hj => ?_⟩
      · have e1 := a1 j hj hne
        rw [b1 j hj (by rw [e1]; exact hne), e1]
      · rw [b2 j (by omega), a2 j hj]
/-- WHAT DEPTHS KEEP -/
theorem depth_way {L : List K} (hs : Sane L) {d : List Int} (h : runD L L.length = some d) : d.getD 0 0 = 0 ∧ ∀ i, i < L.length → d.getD i 0 ≠ -1 →
    0 ≤ d.getD i 0 - takesN (cd L i).1 ∧ d.getD i 0 - takesN (cd L i).1 + leavesN (cd L i).1 ≤ 32 ∧ ∀ t ∈ nextN i (cd L i).1 (cd L i).2, d.getD t 0 = d.getD i 0 - takesN (cd L i).1 + leavesN (cd L i).1 := by
  constructor
  · have h0 : runD L 0 = some (startD L.length) := rfl
    rw [(run_keep hs h0 L.length (by omega) (Nat.le_refl _) h).2 0 (by omega)]; rfl
  · intro i hi hd
    obtain ⟨di, h1⟩ := run_some h i (by omega)
    obtain ⟨d2, h2⟩ := run_some h (i + 1) (by omega)
    have e := (run_keep hs h1 L.length (by omega) (Nat.le_refl _) h).2 i (Nat.le_refl _)
    rw [e] at hd ⊢
    have h2' := h2
    unfold runD at h2'
    rw [h1] at h2'
    simp at h2'
    obtain ⟨_, _, b3⟩ := step_keep hs hi (runD_length h1) h2'
    obtain ⟨c1, c2, c3⟩ := b3 hd
    refine ⟨c1, c2, fun t ht => ?_⟩
    have e2 := c3 t ht
    have hl := leaves_bound (hs i hi).1
    rw [(run_keep hs h2 L.length (by omega) (Nat.le_refl _) h).1 t (next_lt hs hi t ht).2 (by rw [e2]; omega), e2]

theorem foldl_max_le (m : List Int) : ∀ (nx : List Nat) (a : Int), a ≤ nx.foldl (fun a t => max a (m.getD t 0)) a ∧ ∀ t ∈ nx, m.getD t 0 ≤ nx.foldl (fun a t => max a (m.getD t 0)) a
  | [], a => ⟨Int.le_refl _, fun t ht => by cases ht⟩
  | u :: nx, a => by
    obtain ⟨h1, h2⟩ := foldl_max_le m nx (max a (m.getD u 0))
    simp only [List.foldl_cons]
    refine ⟨by omega, fun t ht => ?_⟩
    rcases List.mem_cons.1 ht with e | e
    · subst e; omega
    · exact h2 t e
theorem most_keep (L : List K) : ∀ (n k t : Nat), k ≤ n → n ≤ L.length → L.length - k ≤ t → t ≤ L.length → (mostN L n).getD t 0 = (mostN L k).getD t 0
  | 0, k, t, hk, _, _, _ => by obtain rfl : k = 0 := by omega
                               rfl
  | n + 1, k, t, hk, hn, ht, htl => by
    by_cases e : k = n + 1
    · rw [e]
    · have ih := most_keep L n k t (by omega) (by omega) ht htl
      rw [← ih]
      show ((mostN L n).set _ _).getD t 0 = _
      rw [getD_set _ _ _ _ (by rw [most_length]; omega), if_neg (by omega)]
/-- WHAT THE LONGEST WAY KEEPS -/
theorem long_way {L : List K} (hs : Sane L) : ∀ i, i < L.length → 1 ≤ (mostN L L.length).getD i 0 ∧ ∀ t ∈ nextN i (cd L i).1 (cd L i).2, (mostN L L.length).getD t 0 + 1 ≤ (mostN L L.length).getD i 0 := by
  intro i hi
  have e1 := most_keep L L.length (L.length - 1 - i + 1) i (by omega) (Nat.le_refl _) (by omega) (by omega)
  have hix : L.length - 1 - (L.length - 1 - i) = i := by omega
  have e2 : (mostN L (L.length - 1 - i + 1)).getD i 0 = mostV (mostN L (L.length - 1 - i)) (cd L i) i := by
    show ((mostN L (L.length - 1 - i)).set _ _).getD i 0 = _
    rw [hix, getD_set _ _ _ _ (by rw [most_length]; omega), if_pos rfl]
  rw [e1, e2]
  obtain ⟨h1, h2⟩ := foldl_max_le (mostN L (L.length - 1 - i)) (nextN i (cd L i).1 (cd L i).2) 0
  unfold mostV
  refine ⟨by omega, fun t ht => ?_⟩
  have hn := next_lt hs hi t ht
  rw [most_keep L L.length (L.length - 1 - i) t (by omega) (Nat.le_refl _) (by omega) hn.2]
  have := h2 t ht
  omega
theorem most_nonneg {L : List K} (hs : Sane L) (j : Nat) (hj : j ≤ L.length) : 0 ≤ (mostN L L.length).getD j 0 := by
  by_cases h : j < L.length
  · have := (long_way hs j h).1; omega
  · obtain rfl : j = L.length := by omega
    rw [most_keep L L.length 0 L.length (by omega) (Nat.le_refl _) (by omega) (Nat.le_refl _)]
    show 0 ≤ (List.replicate (L.length + 1) 0).getD L.length 0
    simp [List.getD_eq_getElem?_getD]
theorem most_few (L : List K) (hs : Sane L) : ∀ k, k ≤ L.length → Few (mostN L k) (k : Int)
  | 0, _ => by
    intro j hj
    show 0 ≤ (List.replicate (L.length + 1) 0).getD j 0 ∧ (List.replicate (L.length + 1) 0).getD j 0 ≤ _
    simp only [List.getD_eq_getElem?_getD, List.getElem?_replicate]
    split <;> simp
  | k + 1, hk => by
    have ih := most_few L hs k (by omega)
    rw [most_step L k (by omega)]
    have hz := most_zero L k (L.length - 1 - k) (by omega)
    have hn := next_lt hs (i := L.length - 1 - k) (by omega)
    have := foldM_few ih (nextN (L.length - 1 - k) (cd L (L.length - 1 - k)).1 (cd L (L.length - 1 - k)).2) (fun t ht => by rw [most_length]; have := (hn t ht).2; omega) ((mostN L k).getD (L.length - 1 - k) 0) (by rw [hz]; omega)
    refine (ih.mono (by omega)).set _ ?_
    show 0 ≤ foldM _ _ _ + 1 ∧ foldM _ _ _ + 1 ≤ _
    omega
end Go.Proofs.YtcaibgbhebldmaaGreat
/-
  THE MACHINE, AS A STATE AND ITS STEPS.
-/
namespace Go.Proofs.YtcaibgbhebldmaaGreat
open Go.RowKit Go.Sort

/-- a cell: does something stand there? the value -/
abbrev C := Bool × Int
/-- A MACHINE: place, stack (the topmost first), locals, outputs, writes, ended, fault, number of an abort, steps -/
structure M where
  at_ : Nat
  st : List Int
  lo : List Int
  ou : List Int
  pu : List K
  ended : Bool
  fault : Int
  user : Int
  steps : Nat

def trN (b : Bool) : Int := if b then 1 else 0
def negN (x : Int) : Int := wrap64 (-x)
/-- two values joined: the value, the fault -/
def pairN (op x y : Int) : Int × Int :=
  if op = 10 then (wrap64 (x + y), 0) else
  if op = 11 then (wrap64 (x - y), 0) else
  if op = 12 then (wrap64 (x * y), 0) else
  if op = 13 then (if y = 0 then (0, 201) else (wrap64 (x.tdiv y), 0)) else
  if op = 14 then (if y = 0 then (0, 201) else (x.tmod y, 0)) else
  if op = 15 then (bits .and .i64 x y, 0) else
  if op = 16 then (bits .or .i64 x y, 0) else
  if op = 17 then (bits .xor .i64 x y, 0) else
  if op = 18 then (if y < 0 then (0, 202) else (wrap64 (x * 2 ^ min (IntKind.u64.wrap y).toNat 64), 0)) else
  if op = 19 then (if y < 0 then (0, 202) else (x / 2 ^ min (IntKind.u64.wrap y).toNat 64, 0)) else
  if op = 22 then (trN (x == y), 0) else
  if op = 23 then (trN (x != y), 0) else
  if op = 24 then (trN (decide (x < y)), 0) else
  if op = 25 then (trN (decide (x ≤ y)), 0) else
  if op = 26 then (trN (decide (y < x)), 0) else
  if op = 27 then (trN (decide (y ≤ x)), 0) else
  if op = 28 then (min x y, 0) else
  (max x y, 0)
def M.push (m : M) (x : Int) : M := { m with st := x :: m.st }
def M.pop (m : M) : M := { m with st := m.st.tail }
def M.top (m : M) : Int := m.st.headD 0
def rdV (c : C) : Int := if c.1 then c.2 else 0
def rd (R : List C) (i : Nat) : C := R.getD i (false, 0)
def getN (R : List C) (i : Int) (m : M) : M × Int := if 0 ≤ i ∧ i < (R.length : Int) then (m.push (rdV (rd R i.toNat)), 0) else (m, 203)
def putN (i : Int) (k : K) (m : M) : M × Int := if 0 ≤ i ∧ i < (m.pu.length : Int) then ({ m with pu := m.pu.set i.toNat k }, 0) else (m, 203)
def tellN (x : Int) (m : M) : M × Int := if m.ou.length = 16 then (m, 204) else ({ m with ou := m.ou ++ [x] }, 0)
def pairM (op : Int) (m : M) : M × Int :=
  if (pairN op m.pop.top m.top).2 = 0 then (m.pop.pop.push (pairN op m.pop.top m.top).1, 0) else (m.pop.pop, (pairN op m.pop.top m.top).2)
/-- an instruction that goes on or fails -/
def doN (A : List Int) (R : List C) (op a : Int) (m : M) : M × Int :=
  if op = 1 then (m.push a, 0) else
  if op = 2 then (m.pop, 0) else
  if op = 3 then ((m.pop.push m.top).push m.top, 0) else
  if op = 4 then (m.push (m.lo.getD a.toNat 0), 0) else
  if op = 5 then ({ m.pop with lo := m.lo.set a.toNat m.top }, 0) else
  if op = 6 then (m.push (A.getD a.toNat 0), 0) else
  if op = 7 then getN R a m else
  if op = 8 then (m.push (trN (rd R a.toNat).1), 0) else
  if op = 9 then getN R m.top m.pop else
  if op = 20 then (m.pop.push (negN m.top), 0) else
  if op = 21 then (m.pop.push (trN (m.top == 0)), 0) else
  if op = 32 then putN a (1, m.top) m.pop else
  if op = 33 then putN a (2, 0) m else
  if op = 34 then putN m.pop.top (1, m.top) m.pop.pop else
  if op = 35 then tellN m.top m.pop else
  if op = 36 then ({ m.pop with user := m.top }, 200) else
  pairM op m
def failN (f : Int) (m : M) : M := { m with ended := true, fault := f, st := [], ou := [], lo := List.replicate m.lo.length 0, pu := List.replicate m.pu.length (0, 0) }
def doneB (n : Nat) (m : M) : Bool := m.ended || decide (m.at_ = n)
def tick (m : M) : M := { m with steps := m.steps + 1 }
def stepN (L : List K) (A : List Int) (R : List C) (m : M) : M :=
  if doneB L.length m = true then m else
  if (cd L m.at_).1 = 0 then { tick m with ended := true } else
  if (cd L m.at_).1 = 30 then { tick m with at_ := (cd L m.at_).2.toNat } else
  if (cd L m.at_).1 = 31 then { (tick m).pop with at_ := if m.top = 0 then (cd L m.at_).2.toNat else m.at_ + 1 } else
  if (doN A R (cd L m.at_).1 (cd L m.at_).2 (tick m)).2 = 0 then { (doN A R (cd L m.at_).1 (cd L m.at_).2 (tick m)).1 with at_ := m.at_ + 1 }
  else failN (doN A R (cd L m.at_).1 (cd L m.at_).2 (tick m)).2 (doN A R (cd L m.at_).1 (cd L m.at_).2 (tick m)).1
def startM (p : Nums) : M := ⟨0, [], List.replicate p.locals.toNat 0, [], List.replicate p.writes.toNat (0, 0), false, 0, 0, 0⟩
/-- the state behind k steps -/
def runN (L : List K) (A : List Int) (R : List C) (m : M) : Nat → M
  | 0 => m
  | k + 1 => stepN L A R (runN L A R m k)

/-- A MACHINE OF A SOUND PROGRAM, ON ITS WAY -/
structure Good (p : Nums) (L : List K) (d : List Int) (m : M) : Prop where
  pl : m.at_ ≤ L.length
  live : m.ended = false → (m.st.length : Int) = d.getD m.at_ 0 ∧ m.fault = 0 ∧ m.user = 0 ∧ (m.steps : Int) + (mostN L L.length).getD m.at_ 0 ≤ (mostN L L.length).getD 0 0
  dead : m.ended = true → (m.steps : Int) ≤ (mostN L L.length).getD 0 0 ∧ ((m.fault = 0 ∧ m.user = 0) ∨ (200 ≤ m.fault ∧ m.fault ≤ 204 ∧ m.st = [] ∧ m.ou = [] ∧ m.pu = List.replicate p.writes.toNat (0, 0) ∧ (m.user = 0 ∨ m.fault = 200)))
  lo : m.lo.length = p.locals.toNat
  pu : m.pu.length = p.writes.toNat
  ou : m.ou.length ≤ 16
  st : m.st.length ≤ 32
/-- what a sound program's places keep -/
structure Sound (p : Nums) (L : List K) (d : List Int) : Prop where
  ver : verifyN p L = 0
  sane : Sane L
  d0 : d.getD 0 0 = 0
  way : ∀ i, i < L.length → d.getD i 0 ≠ -1 → 0 ≤ d.getD i 0 - takesN (cd L i).1 ∧ d.getD i 0 - takesN (cd L i).1 + leavesN (cd L i).1 ≤ 32 ∧ ∀ t ∈ nextN i (cd L i).1 (cd L i).2, d.getD t 0 = d.getD i 0 - takesN (cd L i).1 + leavesN (cd L i).1
  lim : limB p L.length = true
  look : ∀ i, i < L.length → lookN p L.length i (cd L i) = 0
theorem sound_of {p : Nums} {L : List K} (h : verifyN p L = 0) : ∃ d, Sound p L d := by
  have h0 := h
  unfold verifyN depthsN at h
  cases hl : limB p L.length with
  | false => rw [hl] at h; simp at h
  | true =>
    rw [hl] at h
    simp only [Bool.true_eq_false, if_false] at h
    by_cases hk : lookAll p L L.length ≠ 0
    · rw [if_pos hk] at h; exact absurd h hk
    · rw [if_neg hk] at h
      have hk0 : lookAll p L L.length = 0 := by simpa using hk
      cases hr : runD L L.length with
      | none => rw [hr] at h; simp at h
      | some d =>
        obtain ⟨w1, w2⟩ := depth_way (sane_of hk0) hr
        exact ⟨d, h0, sane_of hk0, w1, w2, hl, fun i hi => firstE_zero hk0 i hi⟩
theorem good_start {p : Nums} {L : List K} {d : List Int} (h : Sound p L d) : Good p L d (startM p) where
  pl := Nat.zero_le _
  live := fun _ => ⟨by show ((0 : Nat) : Int) = d.getD 0 0; rw [h.d0]; rfl, rfl, rfl, by show ((0 : Nat) : Int) + (mostN L L.length).getD 0 0 ≤ _; omega⟩
  dead := fun e => (by cases e)
  lo := by simp [startM]
  pu := by simp [startM]
  ou := by simp [startM]
  st := by simp [startM]
/-- what fits at a place -/
theorem Sound.fits {p : Nums} {L : List K} {d : List Int} (h : Sound p L d) {i : Nat} (hi : i < L.length) : isOpB (cd L i).1 = true ∧ (jumpB (cd L i).1 = true → (i : Int) < (cd L i).2 ∧ (cd L i).2 ≤ (L.length : Int)) ∧ fitsB p (cd L i).1 (cd L i).2 = true := by
  have hl := h.look i hi
  unfold lookN at hl
  by_cases h1 : isOpB (cd L i).1 = false
  · rw [if_pos h1] at hl; simp at hl
  · rw [if_neg h1] at hl
    by_cases h2 : jumpB (cd L i).1 = true ∧ ((cd L i).2 ≤ (i : Int) ∨ (L.length : Int) < (cd L i).2)
    · rw [if_pos h2] at hl; simp at hl
    · rw [if_neg h2] at hl
      by_cases h3 : fitsB p (cd L i).1 (cd L i).2 = false
      · rw [if_pos h3] at hl; simp at hl
      · exact ⟨by simpa using h1, fun hj => by
          by_cases hc : (cd L i).2 ≤ (i : Int) ∨ (L.length : Int) < (cd L i).2
          · exact absurd ⟨hj, hc⟩ h2
          · omega, by simpa using h3⟩
end Go.Proofs.YtcaibgbhebldmaaGreat
