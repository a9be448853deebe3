/-
  A ROW OF KEYS OF THE CALL's OWN, WRITTEN INTO; slices.Compact AT []api.Key.
-/
import Derived.Test.YtibdogniiglcjaaGreatKRises
import Derived.Test.YtibdogniiglcjaaGreatKNe
import Derived.Shelf.GgSortFunc.RowK
import Derived.Laws.IdiomCopy
import Derived.Laws.OwnMore
namespace Go.Proofs.YtibdogniiglcjaaGreat
open Go.RowKit Go.Sort

theorem cks_set (M : List K) (i : Nat) (k : K) (h : i < M.length) : cks (M.set i k) = ((cks M).set (i * 2) (.int .i64 k.1)).set (i * 2 + 1) (.int .i64 k.2) := by
  induction M generalizing i with
  | nil => simp at h
  | cons m M ih =>
    cases i with
    | zero => simp [cks]
    | succ i =>
      have := ih i (by simp at h; omega)
      rw [List.set_cons_succ, show (i + 1) * 2 = i * 2 + 1 + 1 by omega]
      simp only [cks, List.set_cons_succ]
      rw [this]
theorem cks_take (M : List K) (m : Nat) : cks (M.take m) = (cks M).take (m * 2) := by
  induction M generalizing m with
  | nil => simp [cks]
  | cons k M ih =>
    cases m with
    | zero => simp [cks]
    | succ m =>
      rw [show (m + 1) * 2 = m * 2 + 1 + 1 by omega]
      simp only [cks, List.take_succ_cons, ih]
theorem kd_set (M : List K) (i j : Nat) (k : K) (h : i < M.length) : kd (M.set i k) j = if i = j then k else kd M j := by
  unfold kd
  rw [List.getD_eq_getElem?_getD, List.getD_eq_getElem?_getD, List.getElem?_set]
  by_cases hij : i = j
  · subst hij; rw [if_pos rfl, if_pos h, if_pos rfl]; rfl
  · rw [if_neg hij, if_neg hij]

abbrev own (g n cap : Nat) : Value := .slice (some ⟨g, 0, none⟩) n cap
theorem OwnK.len {w : World} {base g n cap : Nat} {M : List K} (h : OwnK w base (own g n cap) M) : n = M.length ∧ n ≤ cap ∧ cap ≤ maxLen := by
  rcases h.shape with ⟨e, _⟩ | ⟨g', c', e, _, _, h1, h2, _⟩
  · cases e
  · cases e; exact ⟨rfl, h1, h2⟩
theorem OwnK.at {w : World} {base g n cap : Nat} {M : List K} (h : OwnK w base (own g n cap) M) (i : Nat) (hi : i < n) :
    w.cell? ⟨g, i * 2, none⟩ = some (.int .i64 (kd M i).1) ∧ w.cell? ⟨g, i * 2 + 1, none⟩ = some (.int .i64 (kd M i).2) := by
  obtain ⟨hn, _⟩ := h.len
  rcases h.shape with ⟨e, _⟩ | ⟨g', c', e, _, _, _, _, hk⟩
  · cases e
  · cases e
    rcases hk with h0 | ⟨b, off, e, hc⟩
    · rw [h0] at hi; simp at hi
    · cases e
      have := KeysAt.at hc i hi
      simpa using this
theorem OwnK.frozen {w : World} {base g n cap : Nat} {M : List K} (h : OwnK w base (own g n cap) M) (j : Nat) : w.frozen? ⟨g, j, none⟩ = false := by
  obtain ⟨rfl, _⟩ := h.len
  exact World.ownsRow.frozenAt h j
theorem OwnK.set {w : World} {base g n cap : Nat} {M : List K} (h : OwnK w base (own g n cap) M) (i : Nat) (hi : i < n) (x y : Int) :
    OwnK ((w.setCell ⟨g, i * 2, none⟩ (.int .i64 x)).setCell ⟨g, i * 2 + 1, none⟩ (.int .i64 y)) base (own g n cap) (M.set i (x, y)) ∧ w.grownBy ((w.setCell ⟨g, i * 2, none⟩ (.int .i64 x)).setCell ⟨g, i * 2 + 1, none⟩ (.int .i64 y)) (some g) := by
  obtain ⟨rfl, _⟩ := h.len
  obtain ⟨h1, h2⟩ := World.ownsRow.stored h (i * 2) (.int .i64 x)
  obtain ⟨h3, h4⟩ := World.ownsRow.stored h1 (i * 2 + 1) (.int .i64 y)
  refine ⟨?_, ⟨h4.os.trans h2.os, h4.tape.trans h2.tape, h4.output.trans h2.output, Nat.le_trans h2.size h4.size, fun k hk hne => (h4.block k (Nat.lt_of_lt_of_le hk h2.size) hne).trans (h2.block k hk hne)⟩⟩
  unfold OwnK
  rw [List.length_set, cks_set M i (x, y) hi]
  exact h3
theorem OwnK.prefix {w : World} {base g n cap : Nat} {M : List K} (h : OwnK w base (own g n cap) M) (m : Nat) (hm : m ≤ n) : OwnK w base (own g m cap) (M.take m) := by
  obtain ⟨rfl, _⟩ := h.len
  obtain ⟨hl, h⟩ := h
  rcases h with ⟨e, _⟩ | ⟨g', c', cur, e, hb, hg, hnc, hcm, hs, ht⟩
  · cases e
  · cases e
    have hlen : (M.take m).length = m := by simp; omega
    unfold OwnK
    rw [hlen]
    refine ⟨by rw [cks_length, hlen], .inr ⟨g, cap, cur, rfl, hb, hg, by omega, hcm, hs, ?_⟩⟩
    rw [cks_take, ← ht, List.take_take]
    congr 1
    omega
/-- cells written behind the m-th -/
theorem ownsRow_setCells {base : Nat} {e : TypeId} {size g n cap : Nat} : ∀ (vs : List Value) (o : Nat) (w : World) (xs : List Value), w.ownsRow base e size (.slice (some ⟨g, 0, none⟩) n cap) n xs →
    ∃ xs', (w.setCells g o vs).ownsRow base e size (.slice (some ⟨g, 0, none⟩) n cap) n xs' ∧ xs'.take o = xs.take o ∧ w.grownBy (w.setCells g o vs) (some g)
  | [], o, w, xs, h => ⟨xs, h, rfl, World.grownBy.refl _ _⟩
  | v :: vs, o, w, xs, h => by
    obtain ⟨h1, h2⟩ := World.ownsRow.stored h o v
    obtain ⟨xs', h3, h4, h5⟩ := ownsRow_setCells vs (o + 1) (w.setCell ⟨g, o, none⟩ v) _ h1
    refine ⟨xs', h3, ?_, ⟨h5.os.trans h2.os, h5.tape.trans h2.tape, h5.output.trans h2.output, Nat.le_trans h2.size h5.size, fun k hk hne => (h5.block k (Nat.lt_of_lt_of_le hk h2.size) hne).trans (h2.block k hk hne)⟩⟩
    have := congrArg (List.take o) h4
    rw [List.take_take, List.take_take, Nat.min_eq_left (by omega), List.take_set_of_le (by omega)] at this
    exact this
theorem OwnK.cleared {w : World} {base g n cap : Nat} {M : List K} (h : OwnK w base (own g n cap) M) (m : Nat) (hm : m ≤ n) (vs : List Value) :
    OwnK (w.setCells g (m * 2) vs) base (own g m cap) (M.take m) ∧ w.grownBy (w.setCells g (m * 2) vs) (some g) := by
  obtain ⟨rfl, _⟩ := h.len
  obtain ⟨xs', h1, h2, h3⟩ := ownsRow_setCells vs (m * 2) w _ h
  refine ⟨?_, h3⟩
  obtain ⟨hl, h⟩ := h1
  rcases h with ⟨e, _⟩ | ⟨g', c', cur, e, hb, hg, hnc, hcm, hs, ht⟩
  · cases e
  · cases e
    have hlen : (M.take m).length = m := by simp; omega
    unfold OwnK
    rw [hlen]
    refine ⟨by rw [cks_length, hlen], .inr ⟨g, cap, cur, rfl, hb, hg, by omega, hcm, hs, ?_⟩⟩
    rw [cks_take, ← h2, ← ht, List.take_take]
    congr 1
    omega
/-- clear -/
theorem run_clear_keys (w : World) (ty : TypeId) (b o n c : Nat) (hn : 0 < n) (hc : ∀ j, j < n * 2 → (w.cell? ⟨b, o + j, none⟩).isSome = true) (hf : ∀ j, j < n * 2 → w.frozen? ⟨b, o + j, none⟩ = false) :
    ∃ vs, (Builtin.clear_ #[54] ty #[.slice (some ⟨b, o, none⟩) n c]).run Tryz.prog w = .ok (.tuple #[]) (w.setCells b o vs) := by
  have hz : ∀ w, (zeroValue 47).run Tryz.prog w = .ok (.agg #[.int .i64 0, .int .i64 0]) w := Tryz.zeroValue47
  have hst := run_storeCells_cells (P := Tryz.prog) b o (Builtin.zeroCells #[.int .i64 0, .int .i64 0] n).toList 0 w (by simpa [Builtin.zeroCells] using hc) (by simpa [Builtin.zeroCells] using hf) (by
    intro v hv
    simp only [Builtin.zeroCells, Array.toList_map, List.mem_map] at hv
    obtain ⟨i, _, rfl⟩ := hv
    have : i % 2 = 0 ∨ i % 2 = 1 := by omega
    rcases this with h | h <;> simp [h] <;> rfl)
  simp only [Nat.add_zero] at hst
  obtain ⟨m, rfl⟩ : ∃ m, n = m + 1 := ⟨n - 1, by omega⟩
  exact ⟨_, by simp [Builtin.clear_, run_underlying Tryz.underlying54, hz, Value.cells, hst]; rfl⟩

/-- the same members -/
def SameMem (A B : List K) : Prop := ∀ x, x ∈ A ↔ x ∈ B
/-- a list that does not fall -/
def Asc (S : List K) : Prop := ∀ i j, i < j → j < S.length → lt (kd S j) (kd S i) = false
/-- what is kept of the first j -/
structure Comp (S : List K) (j : Nat) (C : List K) : Prop where
  rise : Rise C
  mem : ∀ x, x ∈ C ↔ x ∈ S.take j
  last : ∀ i, i + 1 = C.length → kd C i = kd S (j - 1)
theorem Comp.same {S C : List K} {j : Nat} (h : Comp S j C) (hj : 1 ≤ j) (hl : j < S.length) (he : kd S j = kd S (j - 1)) : Comp S (j + 1) C := by
  refine ⟨h.rise, fun x => ?_, fun i hi => by rw [h.last i hi, ← he]; rfl⟩
  rw [h.mem, take_kd S j hl, List.mem_append, List.mem_singleton]
  constructor
  · exact .inl
  · rintro (h1 | h1)
    · exact h1
    · rw [h1, he]
      have h2 : (S.take j)[j - 1]? = some (kd S (j - 1)) := by rw [List.getElem?_take, if_pos (by omega)]; exact kd_get (by omega)
      exact List.mem_of_getElem? h2
theorem Comp.more {S C : List K} {j : Nat} (h : Comp S j C) (hj : 1 ≤ j) (hl : j < S.length) (hs : Asc S) (hk : ∀ x ∈ S, isKey x = true) (he : kd S j ≠ kd S (j - 1)) : Comp S (j + 1) (C ++ [kd S j]) := by
  refine ⟨rise_snoc h.rise (hk _ (kd_mem hl)) fun i y hi hy => ?_, fun x => ?_, fun i hi => ?_⟩
  · have e1 : kd C i = y := by have := kd_get (L := C) (j := i) (by omega); rw [this] at hy; exact Option.some.inj hy
    rw [← e1, h.last i hi]
    have := hs (j - 1) j (by omega) hl
    cases h1 : lt (kd S (j - 1)) (kd S j) with
    | true => rfl
    | false => exact absurd (eq_of_not_lt this h1) he
  · rw [take_kd S j hl, List.mem_append, List.mem_append, h.mem]
  · have hi' : i = C.length := by simp at hi; omega
    subst hi'
    have := kd_right C [kd S j] 0 (by simp)
    rw [Nat.add_zero] at this
    rw [this]; simp [kd]
theorem Comp.start {S : List K} (h : 1 ≤ S.length) (hk : ∀ x ∈ S, isKey x = true) : Comp S 1 (S.take 1) := by
  obtain ⟨a, S, rfl⟩ : ∃ a T, S = a :: T := by cases S with | nil => simp at h | cons a T => exact ⟨a, T, rfl⟩
  refine ⟨⟨by simpa using (hk a (by simp)), by simp⟩, fun x => Iff.rfl, fun i hi => ?_⟩
  simp at hi; subst hi; simp [kd]
theorem Comp.ne {S C : List K} {j : Nat} (h : Comp S j C) (hj : 1 ≤ j) (hl : j ≤ S.length) : 1 ≤ C.length := by
  have h2 : (S.take j)[0]? = some (kd S 0) := by rw [List.getElem?_take, if_pos (by omega)]; exact kd_get (by omega)
  have := (h.mem _).2 (List.mem_of_getElem? h2)
  cases C with | nil => simp at this | cons => simp

end Go.Proofs.YtibdogniiglcjaaGreat
