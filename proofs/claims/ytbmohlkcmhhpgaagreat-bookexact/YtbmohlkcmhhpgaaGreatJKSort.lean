import Derived.Test.YtbmohlkcmhhpgaaGreatJKCompact
import Derived.Test.YtbmohlkcmhhpgaaGreatShelf2
/-
  THE WALK OF Sort.
-/
namespace Go.Proofs.YtbmohlkcmhhpgaaGreat
open Go.RowKit Go.Sort

theorem ltOf_cmp (x y : K) : ltOf cmp x y = lt x y := by
  unfold ltOf
  cases h : lt x y with
  | true => simpa using (cmp_neg x y).2 h
  | false =>
    have : ¬ cmp x y < 0 := fun h2 => by rw [(cmp_neg x y).1 h2] at h; cases h
    simpa using this
theorem swo : SWO (ltOf cmp) := by
  constructor
  · intro x; rw [ltOf_cmp]; exact lt_irrefl x
  · intro x y z; rw [ltOf_cmp, ltOf_cmp, ltOf_cmp]; exact lt_trans
  · intro x y z
    rw [ltOf_cmp, ltOf_cmp, ltOf_cmp, lt_false, lt_false, lt_false]
    omega
theorem flat_cks (L : List K) : (flatK ck 2 L.toArray).toList = cks L := by
  apply List.ext_getElem?
  intro j
  by_cases hj : j < L.length * 2
  · have hjd : j / 2 < L.length := by omega
    have e := cks_at L (j / 2) hjd
    have hk : L[j / 2]?.getD default = kd L (j / 2) := by rw [kd_get hjd]; rfl
    have : j % 2 = 0 ∨ j % 2 = 1 := by omega
    rw [Array.getElem?_toList]
    rcases this with h | h
    · have hj2 : j = j / 2 * 2 := by omega
      rw [show (cks L)[j]? = (cks L)[j / 2 * 2]? by rw [← hj2], e.1]
      simp [flatK, hj, h, ck, hk]
    · have hj2 : j = j / 2 * 2 + 1 := by omega
      rw [show (cks L)[j]? = (cks L)[j / 2 * 2 + 1]? by rw [← hj2], e.2]
      simp [flatK, hj, h, ck, hk]
  · rw [List.getElem?_eq_none (by simp; omega), List.getElem?_eq_none (by rw [cks_length]; omega)]
theorem OwnK.holds {w : World} {base g n cap : Nat} {L : List K} (h : OwnK w base (own g n cap) L) : HoldsK ck 2 w g 0 L.toArray := by
  obtain ⟨rfl, _⟩ := h.len
  intro j hj
  have hj' : j < L.length * 2 := by simpa using hj
  refine ⟨?_, World.ownsRow.frozenAt h _⟩
  rw [Nat.zero_add, World.ownsRow.cellAt h j hj', ← flat_cks, Array.getElem?_toList]
  simp [hj']
theorem OwnK.sorted {w : World} {base g n cap : Nat} {L M : List K} (h : OwnK w base (own g n cap) L) (hl : M.length = L.length) (m : Nat) (os : Array Obj) :
    OwnK (sortWorldK ck 2 w g 0 m M.toArray os) base (own g n cap) M ∧ w.grownBy (sortWorldK ck 2 w g 0 m M.toArray os) (some g) := by
  obtain ⟨rfl, _⟩ := h.len
  constructor
  · obtain ⟨_, h⟩ := h
    rcases h with ⟨e, _⟩ | ⟨g', c', cur, e, hb, hg, hnc, hcm, hs, ht⟩
    · cases e
    · cases e
      have hgl : g < w.heap.size := (Array.getElem?_eq_some_iff.1 hg).1
      have hh : (sortWorldK ck 2 w g 0 m M.toArray os).heap[g]? = some (.cells (putCells id 0 (flatK ck 2 M.toArray) cur) 43 (0, 0)) := by
        unfold sortWorldK
        rw [heap_grow_old _ _ (by simpa [putRowK, putRow, mapBlock, Sort.ahead] using hgl)]
        simp [putRowK, putRow, mapBlock, Sort.ahead, Array.getElem?_modify, hg, onCells]
      unfold OwnK
      rw [hl]
      refine ⟨by rw [cks_length, hl], .inr ⟨g, cap, _, rfl, hb, hh, hnc, hcm, by simpa [putCells] using hs, ?_⟩⟩
      rw [← flat_cks]
      apply List.ext_getElem?
      intro j
      by_cases hj : j < L.length * 2
      · have hjc : j < cur.size := by omega
        rw [List.getElem?_take_of_lt hj, Array.getElem?_toList, Array.getElem?_toList]
        simp [putCells, hj, hjc, hl]
      · rw [List.getElem?_take_eq_none (by omega), List.getElem?_eq_none (by simp [hl]; omega)]
  · unfold sortWorldK
    refine ⟨rfl, rfl, rfl, by simp [putRowK, putRow, mapBlock, Sort.ahead], fun k hk hne => ?_⟩
    rw [heap_grow_old _ _ (by simpa [putRowK, putRow, mapBlock, Sort.ahead] using hk)]
    have : g ≠ k := fun e => hne (by rw [e])
    simp [putRowK, putRow, mapBlock, Sort.ahead, Array.getElem?_modify, this]

theorem asc_merge (L : List K) : Asc (L.mergeSort fun x y => !(ltOf cmp) y x) := by
  have h := List.pairwise_mergeSort (le := fun x y => !(ltOf cmp) y x) (fun a b c => by
    simp only [ltOf_cmp, Bool.not_eq_true', lt_false]; omega) (fun a b => by
    simp only [ltOf_cmp]
    cases h1 : lt b a with
    | false => simp
    | true => simp [lt_asymm h1]) L
  intro i j hij hj
  have := (List.pairwise_iff_getElem.1 h) i j (by omega) hj hij
  rw [ltOf_cmp] at this
  have e1 := kd_get (L := L.mergeSort fun x y => !(ltOf cmp) y x) (j := i) (by omega)
  have e2 := kd_get hj
  rw [List.getElem?_eq_getElem (by omega)] at e1
  rw [List.getElem?_eq_getElem hj] at e2
  rw [← Option.some.inj e1, ← Option.some.inj e2]
  simpa using this
theorem sortFunc_any (w : World) (base g n cap : Nat) (L : List K) (h : OwnK w base (own g n cap) L) (hm : n ≤ 8796093022208) :
    Calls Tryz.prog 69 #[own g n cap, .func (.func 50) #[] #[]] w fun e w' => e = .returned (.tuple #[]) ∧ ∃ S, OwnK w' base (own g n cap) S ∧ Asc S ∧ SameMem S L ∧ w.grownBy w' (some g) := by
  obtain ⟨hn, _⟩ := h.len
  have hlt : g < w.heap.size := (h.lt g rfl).2
  have := AnyQ.slices_SortFunc_total laysSort 2 Tryz.isAgg43 Tryz.sizeOf43 ck (fun x => rfl) (fun x v hv => by simp [ck] at hv; rcases hv with rfl | rfl <;> rfl) cmp swo 50 #[] g 0 cap L.toArray w
    (enters_of Tryz.func50 (by kernel_rfl) rfl)
    (fun m os dk _ x y => compare_any _ _ _ _ _) h.holds hlt (by simp; omega) (fun x y h1 h2 => by rw [ltOf_cmp] at h1 h2; exact eq_of_not_lt h1 h2)
  have e : L.toArray.size = n := by simp [hn]
  rw [e] at this
  refine this.mono fun e w' ⟨h1, m, os, h2⟩ => ⟨h1, L.toArray.toList.mergeSort (fun x y => !(ltOf cmp) y x), ?_⟩
  rw [h2]
  have h3 := h.sorted (M := L.toArray.toList.mergeSort fun x y => !(ltOf cmp) y x) (by simp) m os
  exact ⟨h3.1, asc_merge _, fun x => by simp [List.mem_mergeSort], h3.2⟩

end Go.Proofs.YtbmohlkcmhhpgaaGreat
