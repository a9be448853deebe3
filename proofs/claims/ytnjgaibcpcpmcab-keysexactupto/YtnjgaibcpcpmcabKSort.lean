/-
  THE WALK OF Sort.
-/
import Derived.Test.YtnjgaibcpcpmcabKCompact
import Derived.Test.YtnjgaibcpcpmcabShelf2
namespace Go.Proofs.Ytnjgaibcpcpmcab
open Go.RowKit Go.Sort

theorem ltOf_cmp (x y : K) : ltOf cmp x y = lt x y := by
  unfold ltOf
  cases h : lt x y with
  | true => simpa using (cmp_neg x y).2 h
  | false =>
    have : ¬ cmp x y < 0 := fun h2 => by rw [(cmp_neg x y).1 h2] at h; cases h
    simpa using this
theorem swo : SWO (ltOf cmp) := by
  constructor
  · intro x; rw [ltOf_cmp]; exact lt_irrefl x
  · intro x y z; rw [ltOf_cmp, ltOf_cmp, ltOf_cmp]; exact lt_trans
  · intro x y z
    rw [ltOf_cmp, ltOf_cmp, ltOf_cmp, lt_false, lt_false, lt_false]
    omega
theorem flat_cks (L : List K) : (flatK ck 2 L.toArray).toList = cks L := by
  apply List.ext_getElem?
  intro j
  by_cases hj : j < L.length * 2
  · have hjd : j / 2 < L.length := by omega
    have e := cks_at L (j / 2) hjd
    have hk : L[j / 2]?.getD default = kd L (j / 2) := by rw [kd_get hjd]; rfl
    have : j % 2 = 0 ∨ j % 2 = 1 := by omega
    rw [Array.getElem?_toList]
    rcases this with h | h
    · have hj2 : j = j / 2 * 2 := by omega
      rw [show (cks L)[j]? = (cks L)[j / 2 * 2]? by rw [← hj2], e.1]
      simp [flatK, hj, h, ck, hk]
    · have hj2 : j = j / 2 * 2 + 1 := by omega
      rw [show (cks L)[j]? = (cks L)[j / 2 * 2 + 1]? by rw [← hj2], e.2]
      simp [flatK, hj, h, ck, hk]
  · rw [List.getElem?_eq_none (by simp; omega), List.getElem?_eq_none (by rw [cks_length]; omega)]
theorem OwnK.holds {w : World} {base g n cap : Nat} {L : List K} (h : OwnK w base (own g n cap) L) : HoldsK ck 2 w g 0 L.toArray := by
  obtain ⟨rfl, _⟩ := h.len
  intro j hj
  have hj' : j < L.length * 2 := by simpa using hj
  refine ⟨?_, World.ownsRow.frozenAt h _⟩
  rw [Nat.zero_add, World.ownsRow.cellAt h j hj', ← flat_cks, Array.getElem?_toList]
  simp [hj']
theorem OwnK.sorted {w : World} {base g n cap : Nat} {L M : List K} (h : OwnK w base (own g n cap) L) (hl : M.length = L.length) (m : Nat) (os : Array Obj) :
    OwnK (sortWorldK ck 2 w g 0 m M.toArray os) base (own g n cap) M ∧ w.grownBy (sortWorldK ck 2 w g 0 m M.toArray os) (some g) := by
  obtain ⟨rfl, _⟩ := h.len
  constructor
  · obtain ⟨_, h⟩ := h
    rcases h with ⟨e, _⟩ | ⟨g', c', cur, e, hb, hg, hnc, hcm, hs, ht⟩
    · cases e
    · cases e
      have hgl : g < w.heap.size := (Array.getElem?_eq_some_iff.1 hg).1
      have hh : (sortWorldK ck 2 w g 0 m M.toArray os).heap[g]? = some (.cells (putCells id 0 (flatK ck 2 M.toArray) cur) 28 (0, 0)) := by
        unfold sortWorldK
        rw [heap_grow_old _ _ (by simpa [putRowK, putRow, mapBlock, Sort.ahead] using hgl)]
        simp [putRowK, putRow, mapBlock, Sort.ahead, Array.getElem?_modify, hg, onCells]
      unfold OwnK
      rw [hl]
      refine ⟨by rw [cks_length, hl], .inr ⟨g, cap, _, rfl, hb, hh, hnc, hcm, by simpa [putCells] using hs, ?_⟩⟩
      rw [← flat_cks]
      apply List.ext_getElem?
      intro j
      by_cases hj : j < L.length * 2
      · have hjc : j < cur.size := by omega
        rw [List.getElem?_take_of_lt hj, Array.getElem?_toList, Array.getElem?_toList]
        simp [putCells, hj, hjc, hl]
      · rw [List.getElem?_take_eq_none (by omega), List.getElem?_eq_none (by simp [hl]; omega)]
  · unfold sortWorldK
    refine ⟨rfl, rfl, rfl, by simp [putRowK, putRow, mapBlock, Sort.ahead], fun k hk hne => ?_⟩
    rw [heap_grow_old _ _ (by simpa [putRowK, putRow, mapBlock, Sort.ahead] using hk)]
    have : g ≠ k := fun e => hne (by rw [e])
    simp [putRowK, putRow, mapBlock, Sort.ahead, Array.getElem?_modify, this]

theorem clone_any (w : World) (ao : Option Addr) (cap n : Nat) (L : List K) (hn : n = L.length) (h : KeysAt w ao L) (hsp : ∀ a, ao = some a → a.spot = none) (hm : n * 16 ≤ 140737488355328) :
    Calls Try.prog 18 #[.slice ao n cap] w fun e w' => ∃ v, e = .returned v ∧ OwnK w' w.heap.size v L ∧ Below w.heap.size w w' := by
  obtain ⟨i0, hi, hz0, hz1, hz2⟩ := info_parts infoK
  cases ao with
  | none =>
    have h0 : L = [] := by
      rcases h with h | ⟨b, off, e, _⟩
      · exact h
      · cases e
    subst h0
    refine (AnyE.slices_Clone_nil laysClone n cap w).mono fun e w' ⟨h1, h2⟩ => ⟨_, h1, OwnK.nil _ _, by subst h2; exact (Grew.refl _).below⟩
  | some a =>
    obtain ⟨b, off, sp⟩ := a
    have hsp' : sp = none := hsp _ rfl
    subst hsp'
    refine (AnyE.slices_Clone laysClone i0 (.agg #[.int .i64 0, .int .i64 0]) 2 16 hi hz0 hz1 hz2 rfl (by omega) Try.sizeOf28 b off n cap (cks L) w (by rw [cks_length, hn]) (by unfold maxLen; omega) hm
      (fun j u hu => ?_) (cks_one L)).mono fun e w' ⟨v, h1, h2, _, h3⟩ => ⟨v, h1, by unfold OwnK; rw [← hn]; exact h2, h3⟩
    rcases h with h0 | ⟨b', off', e, hc⟩
    · subst h0; simp [cks] at hu
    · cases e; exact hc j u hu
theorem asc_merge (L : List K) : Asc (L.mergeSort fun x y => !(ltOf cmp) y x) := by
  have h := List.pairwise_mergeSort (le := fun x y => !(ltOf cmp) y x) (fun a b c => by
    simp only [ltOf_cmp, Bool.not_eq_true', lt_false]; omega) (fun a b => by
    simp only [ltOf_cmp]
    cases h1 : lt b a with
    | false => simp
    | true => simp [lt_asymm h1]) L
  intro i j hij hj
  have := (List.pairwise_iff_getElem.1 h) i j (by omega) hj hij
  rw [ltOf_cmp] at this
  have e1 := kd_get (L := L.mergeSort fun x y => !(ltOf cmp) y x) (j := i) (by omega)
  have e2 := kd_get hj
  rw [List.getElem?_eq_getElem (by omega)] at e1
  rw [List.getElem?_eq_getElem hj] at e2
  rw [← Option.some.inj e1, ← Option.some.inj e2]
  simpa using this
theorem sortFunc_any (w : World) (base g n cap : Nat) (L : List K) (h : OwnK w base (own g n cap) L) (hm : n ≤ 8796093022208) :
    Calls Try.prog 19 #[own g n cap, .func (.func 20) #[] #[]] w fun e w' => e = .returned (.tuple #[]) ∧ ∃ S, OwnK w' base (own g n cap) S ∧ Asc S ∧ SameMem S L ∧ w.grownBy w' (some g) := by
  obtain ⟨hn, _⟩ := h.len
  have hlt : g < w.heap.size := (h.lt g rfl).2
  have := AnyQ.slices_SortFunc_total laysSort 2 Try.isAgg28 Try.sizeOf28 ck (fun x => rfl) (fun x v hv => by simp [ck] at hv; rcases hv with rfl | rfl <;> rfl) cmp swo 20 #[] g 0 cap L.toArray w
    (enters_of Try.func20 (by kernel_rfl) rfl)
    (fun m os dk _ x y => compare_any _ _ _ _ _) h.holds hlt (by simp; omega) (fun x y h1 h2 => by rw [ltOf_cmp] at h1 h2; exact eq_of_not_lt h1 h2)
  have e : L.toArray.size = n := by simp [hn]
  rw [e] at this
  refine this.mono fun e w' ⟨h1, m, os, h2⟩ => ⟨h1, L.toArray.toList.mergeSort (fun x y => !(ltOf cmp) y x), ?_⟩
  rw [h2]
  have h3 := h.sorted (M := L.toArray.toList.mergeSort fun x y => !(ltOf cmp) y x) (by simp) m os
  exact ⟨h3.1, asc_merge _, fun x => by simp [List.mem_mergeSort], h3.2⟩

theorem compact_nil (w : World) : Calls Try.prog 21 #[.slice none 0 0] w fun e w' => e = .returned (.slice none 0 0) ∧ w' = w := by
  go_enter Try.func21, Try.ntmps21
  go_wp2
  go_ret
  exact ⟨rfl, rfl⟩
set_option maxHeartbeats 2000000 in
set_option maxRecDepth 100000 in
theorem sort_any (w : World) (ao : Option Addr) (cap n : Nat) (L : List K) (hn : n = L.length) (h : KeysAt w ao L) (hsp : ∀ a, ao = some a → a.spot = none) (hm : n * 16 ≤ 140737488355328) :
    Calls Try.prog 9 #[.slice ao n cap] w fun e w' => ((L.all isKey = true ∧ ∃ v, e = .returned (.tuple #[v, .int .i64 0]) ∧ OwnK w' w.heap.size v (sortK L)) ∨ (L.all isKey = false ∧ e = .returned (.tuple #[.slice none 0 0, .int .i64 20]))) ∧ Below w.heap.size w w' := by
  have HN : Hid (n = L.length) := hn
  have HK : Hid (KeysAt w ao L) := h
  have HSp : Hid (∀ a, ao = some a → a.spot = none) := hsp
  clear hn h hsp
  go_enter Try.func9, Try.ntmps9
  go_wp2_with fail
  go_loopw [5, 6, 10] (fun _ _ y wr => ∃ k : Nat, k ≤ n ∧ y = .int .i64 (k : Int) ∧ Hid ((L.take k).all isKey = true) ∧ Hid (Grew w wr)) (fun _ _ y _ => n - (intOf y).toNat)
  case atStart => exact ⟨0, Nat.zero_le _, rfl, by simp [Hid], Grew.refl _⟩
  case round =>
    obtain ⟨k, hk, rfl, HA, HG⟩ := hrel
    by_cases hlt : k < n
    · have hl : k < L.length := by have := HN.out; omega
      rcases HK.out.grew HG.out with h0 | ⟨b, off, rfl, hc⟩
      · rw [h0] at hl; simp at hl
      · obtain ⟨c1, c2⟩ := KeysAt.at hc k hl
        have HAT : Hid (isKey (kd L k) = true → (L.take (k + 1)).all isKey = true) := all_take L k HA.out hl
        have HAF : Hid (isKey (kd L k) = false → L.all isKey = false) := all_false hl
        generalize kd L k = kk at *
        obtain ⟨t, r⟩ := kk
        simp only at c1 c2
        clear hc hl HA
        cases hik : isKey (t, r) with
        | false =>
          have HE : Hid (L.all isKey = false) := HAF.out hik
          have HCk : Hid (∀ w, Calls Try.prog 17 #[.agg #[.int .i64 t, .int .i64 r]] w fun e w' => e = .returned (.int .i64 20) ∧ ∃ q os, w' = grow (w.drewN q) os) := fun w => by
            have h := check_any w t r
            rwa [hik] at h
          clear HAT HAF hik
          go_wp2_with fail
          have HG1 : Hid (Grew w (wr.alloc (.cells #[.int .i64 t, .int .i64 r] 28))) := HG.out.alloc _
          generalize wr.alloc (.cells #[.int .i64 t, .int .i64 r] 28) = W1 at *
          refine (HCk.out W1).mono ?_
          rintro e w2 ⟨rfl, g2⟩
          have HB2 : Hid (Below w.heap.size w w2) := (HG1.out.trans g2).below
          clear g2 HCk HG1 c1 c2
          go_wp2
          go_ret2
          exact ⟨.inr ⟨HE.out, rfl⟩, HB2.out⟩
        | true =>
          have HE : Hid ((L.take (k + 1)).all isKey = true) := HAT.out hik
          have HCk : Hid (∀ w, Calls Try.prog 17 #[.agg #[.int .i64 t, .int .i64 r]] w fun e w' => e = .returned (.int .i64 0) ∧ ∃ q os, w' = grow (w.drewN q) os) := fun w => by
            have h := check_any w t r
            rwa [hik] at h
          clear HAT HAF hik
          go_wp2_with fail
          have HG1 : Hid (Grew w (wr.alloc (.cells #[.int .i64 t, .int .i64 r] 28))) := HG.out.alloc _
          generalize wr.alloc (.cells #[.int .i64 t, .int .i64 r] 28) = W1 at *
          refine (HCk.out W1).mono ?_
          rintro e w2 ⟨rfl, g2⟩
          have HG2 : Hid (Grew w w2) := HG1.out.trans g2
          clear g2 HCk HG1 c1 c2
          go_wp2_with fail
          go_roundw
          case rel => exact ⟨k + 1, by omega, by go_num, HE, HG2⟩
          case measure => simp [intOf]; omega
    · obtain rfl : k = n := by omega
      have HAll : Hid (L.all isKey = true) := by have := HA.out; rwa [HN.out, List.take_length] at this
      have HKs : Hid (∀ S, SameMem S L → ∀ x ∈ S, isKey x = true) := fun S hs x hx => List.all_eq_true.1 HAll.out x ((hs x).1 hx)
      clear HA
      go_wp2_with fail
      refine (clone_any wr ao cap k L HN.out (HK.out.grew HG.out) HSp.out hm).mono ?_
      rintro e w1 ⟨v, rfl, hown, hbel⟩
      have HB1 : Hid (Below w.heap.size w w1) := HG.out.below.trans (hbel.mono HG.out.size)
      have HO1 : Hid (OwnK w1 w.heap.size v L) := hown.mono HG.out.size
      clear hown hbel
      rcases HO1.out.shape with ⟨rfl, hL0⟩ | ⟨g, c, rfl, hbg, _, _, _, _⟩
      · have HS0 : Hid (sortK L = []) := by rw [Hid, hL0]; rfl
        have HSf : Hid (∀ w, Calls Try.prog 19 #[.slice none 0 0, .func (.func 20) #[] #[]] w fun e w' => e = .returned (.tuple #[]) ∧ w' = w) := fun w => AnyF.slices_SortFunc_none laysSort none 0 _ w
        have HCo : Hid (∀ w, Calls Try.prog 21 #[.slice none 0 0] w fun e w' => e = .returned (.slice none 0 0) ∧ w' = w) := fun w => compact_nil w
        clear hL0 HO1
        go_wp2_with fail
        refine (HSf.out w1).mono ?_
        rintro e w2 ⟨rfl, rfl⟩
        go_wp2_with fail
        refine (HCo.out w2).mono ?_
        rintro e w3 ⟨rfl, rfl⟩
        go_wp2
        go_ret2
        exact ⟨.inl ⟨HAll.out, _, rfl, by rw [HS0.out]; exact OwnK.nil _ _⟩, HB1.out⟩
      · rw [← HN.out]
        have HO2 : Hid (OwnK w1 w.heap.size (own g k c) L) := by have := HO1.out; rwa [← HN.out] at this
        have hmm : k ≤ 8796093022208 := by omega
        clear HO1
        go_wp2_with fail
        refine (sortFunc_any w1 w.heap.size g k c L HO2.out hmm).mono ?_
        rintro e w2 ⟨rfl, S, ho2, ha2, hs2, hg2⟩
        have HO3 : Hid (OwnK w2 w.heap.size (own g k c) S) := ho2
        have HA3 : Hid (Asc S) := ha2
        have HS3 : Hid (SameMem S L) := hs2
        have HB3 : Hid (Below w.heap.size w w2) := HB1.out.trans (grown_below hg2 (fun b hb => by cases hb; exact hbg) HB1.out.size)
        clear ho2 ha2 hs2 hg2 HO2 HB1
        go_wp2_with fail
        refine (compact_any w2 w.heap.size g k c S HO3.out HA3.out (HKs.out S HS3.out) hmm).mono ?_
        rintro e w3 ⟨m, rfl, C, ho, hr, hs, hg⟩
        have HO4 : Hid (OwnK w3 w.heap.size (own g m c) (sortK L)) := by
          rw [← sortK_eq (l := L) hr (fun x => (hs x).trans (HS3.out x))]; exact ho
        have HB4 : Hid (Below w.heap.size w w3) := HB3.out.trans (grown_below hg (fun b hb => by cases hb; exact hbg) HB3.out.size)
        clear ho hr hs hg HB3 HO3 HA3 HS3
        go_wp2
        go_ret2
        exact ⟨.inl ⟨HAll.out, _, rfl, HO4.out⟩, HB4.out⟩
end Go.Proofs.Ytnjgaibcpcpmcab
