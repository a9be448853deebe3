import Derived.Test.YtbcmmeajglilbaaGreatKCIter
import Derived.Test.YtbcmmeajglilbaaGreatKSMath
/-
  THE WALK OF Sort.
-/
namespace Go.Proofs.YtbcmmeajglilbaaGreat
open Go.RowKit Go.Sort

theorem ltOf_cmp (x y : K) : ltOf cmp x y = lt x y := by
  unfold ltOf
  cases h : lt x y with
  | true => simpa using (cmp_neg x y).2 h
  | false =>
    have : ¬ cmp x y < 0 := fun h2 => by rw [(cmp_neg x y).1 h2] at h; cases h
    simpa using this
theorem swo : SWO (ltOf cmp) := by
  constructor
  · intro x; rw [ltOf_cmp]; exact lt_irrefl x
  · intro x y z; rw [ltOf_cmp, ltOf_cmp, ltOf_cmp]; exact lt_trans
  · intro x y z
    rw [ltOf_cmp, ltOf_cmp, ltOf_cmp, lt_false, lt_false, lt_false]
    omega
theorem flat_cks (L : List K) : (flatK ck 2 L.toArray).toList = cks L := by
  apply List.ext_getElem?
  intro j
  by_cases hj : j < L.length * 2
  · have hjd : j / 2 < L.length := by omega
    have e := cks_at L (j / 2) hjd
    have hk : L[j / 2]?.getD default = kd L (j / 2) := by rw [kd_get hjd]; rfl
    have : j % 2 = 0 ∨ j % 2 = 1 := by omega
    rw [Array.getElem?_toList]
    rcases this with h | h
    · have hj2 : j = j / 2 * 2 := by omega
      rw [show (cks L)[j]? = (cks L)[j / 2 * 2]? by rw [← hj2], e.1]
      simp [flatK, hj, h, ck, hk]
    · have hj2 : j = j / 2 * 2 + 1 := by omega
      rw [show (cks L)[j]? = (cks L)[j / 2 * 2 + 1]? by rw [← hj2], e.2]
      simp [flatK, hj, h, ck, hk]
  · rw [List.getElem?_eq_none (by simp; omega), List.getElem?_eq_none (by rw [cks_length]; omega)]
theorem OwnK.holds {w : World} {base g n cap : Nat} {L : List K} (h : OwnK w base (own g n cap) L) : HoldsK ck 2 w g 0 L.toArray := by
  obtain ⟨rfl, _⟩ := h.len
  intro j hj
  have hj' : j < L.length * 2 := by simpa using hj
  refine ⟨?_, World.ownsRow.frozenAt h _⟩
  rw [Nat.zero_add, World.ownsRow.cellAt h j hj', ← flat_cks, Array.getElem?_toList]
  simp [hj']
theorem OwnK.sorted {w : World} {base g n cap : Nat} {L M : List K} (h : OwnK w base (own g n cap) L) (hl : M.length = L.length) (m : Nat) (os : Array Obj) :
    OwnK (sortWorldK ck 2 w g 0 m M.toArray os) base (own g n cap) M ∧ w.grownBy (sortWorldK ck 2 w g 0 m M.toArray os) (some g) := by
  obtain ⟨rfl, _⟩ := h.len
  constructor
  · obtain ⟨_, h⟩ := h
    rcases h with ⟨e, _⟩ | ⟨g', c', cur, e, hb, hg, hnc, hcm, hs, ht⟩
    · cases e
    · cases e
      have hgl : g < w.heap.size := (Array.getElem?_eq_some_iff.1 hg).1
      have hh : (sortWorldK ck 2 w g 0 m M.toArray os).heap[g]? = some (.cells (putCells id 0 (flatK ck 2 M.toArray) cur) 41 (0, 0)) := by
        unfold sortWorldK
        rw [heap_grow_old _ _ (by simpa [putRowK, putRow, mapBlock, Sort.ahead] using hgl)]
        simp [putRowK, putRow, mapBlock, Sort.ahead, Array.getElem?_modify, hg, onCells]
      unfold OwnK
      rw [hl]
      refine ⟨by rw [cks_length, hl], .inr ⟨g, cap, _, rfl, hb, hh, hnc, hcm, by simpa [putCells] using hs, ?_⟩⟩
      rw [← flat_cks]
      apply List.ext_getElem?
      intro j
      by_cases hj : j < L.length * 2
      · have hjc : j < cur.size := by omega
        rw [List.getElem?_take_of_lt hj, Array.getElem?_toList, Array.getElem?_toList]
        simp [putCells, hj, hjc, hl]
      · rw [List.getElem?_take_eq_none (by omega), List.getElem?_eq_none (by simp [hl]; omega)]
  · unfold sortWorldK
    refine ⟨rfl, rfl, rfl, by simp [putRowK, putRow, mapBlock, Sort.ahead], fun k hk hne => ?_⟩
    rw [heap_grow_old _ _ (by simpa [putRowK, putRow, mapBlock, Sort.ahead] using hk)]
    have : g ≠ k := fun e => hne (by rw [e])
    simp [putRowK, putRow, mapBlock, Sort.ahead, Array.getElem?_modify, this]

theorem clone_any (w : World) (ao : Option Addr) (cap n : Nat) (L : List K) (hn : n = L.length) (h : KeysAt w ao L) (hsp : ∀ a, ao = some a → a.spot = none) (hm : n * 16 ≤ 140737488355328) :
    Calls Tryz.prog 82 #[.slice ao n cap] w fun e w' => ∃ v, e = .returned v ∧ OwnK w' w.heap.size v L ∧ Below w.heap.size w w' := by
  obtain ⟨i0, hi, hz0, hz1, hz2⟩ := info_parts infoK
  cases ao with
  | none =>
    have h0 : L = [] := by
      rcases h with h | ⟨b, off, e, _⟩
      · exact h
      · cases e
    subst h0
    refine (AnyE.slices_Clone_nil laysClone n cap w).mono fun e w' ⟨h1, h2⟩ => ⟨_, h1, OwnK.nil _ _, by subst h2; exact (Grew.refl _).below⟩
  | some a =>
    obtain ⟨b, off, sp⟩ := a
    have hsp' : sp = none := hsp _ rfl
    subst hsp'
    refine (AnyE.slices_Clone laysClone i0 (.agg #[.int .i64 0, .int .i64 0]) 2 16 hi hz0 hz1 hz2 rfl (by omega) Tryz.sizeOf41 b off n cap (cks L) w (by rw [cks_length, hn]) (by unfold maxLen; omega) hm
      (fun j u hu => ?_) (cks_one L)).mono fun e w' ⟨v, h1, h2, _, h3⟩ => ⟨v, h1, by unfold OwnK; rw [← hn]; exact h2, h3⟩
    rcases h with h0 | ⟨b', off', e, hc⟩
    · subst h0; simp [cks] at hu
    · cases e; exact hc j u hu
theorem asc_merge (L : List K) : Asc (L.mergeSort fun x y => !(ltOf cmp) y x) := by
  have h := List.pairwise_mergeSort (le := fun x y => !(ltOf cmp) y x) (fun a b c => by
    simp only [ltOf_cmp, Bool.not_eq_true', lt_false]; omega) (fun a b => by
    simp only [ltOf_cmp]
    cases h1 : lt b a with
    | false => simp
    | true => simp [lt_asymm h1]) L
  intro i j hij hj
  have := (List.pairwise_iff_getElem.1 h) i j (by omega) hj hij
  rw [ltOf_cmp] at this
  have e1 := kd_get (L := L.mergeSort fun x y => !(ltOf cmp) y x) (j := i) (by omega)
  have e2 := kd_get hj
  rw [List.getElem?_eq_getElem (by omega)] at e1
  rw [List.getElem?_eq_getElem hj] at e2
  rw [← Option.some.inj e1, ← Option.some.inj e2]
  simpa using this
theorem sortFunc_any (w : World) (base g n cap : Nat) (L : List K) (h : OwnK w base (own g n cap) L) (hm : n ≤ 8796093022208) :
    Calls Tryz.prog 83 #[own g n cap, .func (.func 84) #[] #[]] w fun e w' => e = .returned (.tuple #[]) ∧ ∃ S, OwnK w' base (own g n cap) S ∧ Asc S ∧ SameMem S L ∧ w.grownBy w' (some g) := by
  obtain ⟨hn, _⟩ := h.len
  have hlt : g < w.heap.size := (h.lt g rfl).2
  have := AnyQ.slices_SortFunc_total laysSort 2 Tryz.isAgg41 Tryz.sizeOf41 ck (fun x => rfl) (fun x v hv => by simp [ck] at hv; rcases hv with rfl | rfl <;> rfl) cmp swo 84 #[] g 0 cap L.toArray w
    (enters_of Tryz.func84 (by kernel_rfl) rfl)
    (fun m os dk _ x y => compare_any _ _ _ _ _) h.holds hlt (by simp; omega) (fun x y h1 h2 => by rw [ltOf_cmp] at h1 h2; exact eq_of_not_lt h1 h2)
  have e : L.toArray.size = n := by simp [hn]
  rw [e] at this
  refine this.mono fun e w' ⟨h1, m, os, h2⟩ => ⟨h1, L.toArray.toList.mergeSort (fun x y => !(ltOf cmp) y x), ?_⟩
  rw [h2]
  have h3 := h.sorted (M := L.toArray.toList.mergeSort fun x y => !(ltOf cmp) y x) (by simp) m os
  exact ⟨h3.1, asc_merge _, fun x => by simp [List.mem_mergeSort], h3.2⟩

theorem compact_nil (w : World) : Calls Tryz.prog 85 #[.slice none 0 0] w fun e w' => e = .returned (.slice none 0 0) ∧ w' = w := by
  go_enter Tryz.func85, Tryz.ntmps85
  go_wp2
  go_ret
  exact ⟨rfl, rfl⟩
set_option maxHeartbeats 2000000 in
set_option maxRecDepth 100000 in
theorem sort_any (w : World) (ao : Option Addr) (cap n : Nat) (L : List K) (hn : n = L.length) (h : KeysAt w ao L) (hsp : ∀ a, ao = some a → a.spot = none) (hm : n * 16 ≤ 140737488355328) :
    Calls Tryz.prog 64 #[.slice ao n cap] w fun e w' => ((L.all isKey = true ∧ ∃ v, e = .returned (.tuple #[v, .int .i64 0]) ∧ OwnK w' w.heap.size v (sortK L)) ∨ (L.all isKey = false ∧ e = .returned (.tuple #[.slice none 0 0, .int .i64 20]))) ∧ Below w.heap.size w w' := by
  have HN : Hid (n = L.length) := hn
  have HK : Hid (KeysAt w ao L) := h
  have HSp : Hid (∀ a, ao = some a → a.spot = none) := hsp
  clear hn h hsp
  go_enter Tryz.func64, Tryz.ntmps64
  go_wp2_with fail
  go_loopw [5, 6, 10] (fun _ _ y wr => ∃ k : Nat, k ≤ n ∧ y = .int .i64 (k : Int) ∧ Hid ((L.take k).all isKey = true) ∧ Hid (Grew w wr)) (fun _ _ y _ => n - (intOf y).toNat)
  case atStart => exact ⟨0, Nat.zero_le _, rfl, by simp [Hid], Grew.refl _⟩
  case round =>
    obtain ⟨k, hk, rfl, HA, HG⟩ := hrel
    by_cases hlt : k < n
    · have hl : k < L.length := by have := HN.out; omega
      rcases HK.out.grew HG.out with h0 | ⟨b, off, rfl, hc⟩
      · rw [h0] at hl; simp at hl
      · obtain ⟨c1, c2⟩ := KeysAt.at hc k hl
        have HAT : Hid (isKey (kd L k) = true → (L.take (k + 1)).all isKey = true) := all_take L k HA.out hl
        have HAF : Hid (isKey (kd L k) = false → L.all isKey = false) := all_false hl
        generalize kd L k = kk at *
        obtain ⟨t, r⟩ := kk
        simp only at c1 c2
        clear hc hl HA
        cases hik : isKey (t, r) with
        | false =>
          have HE : Hid (L.all isKey = false) := HAF.out hik
          have HCk : Hid (∀ w, Calls Tryz.prog 43 #[.agg #[.int .i64 t, .int .i64 r]] w fun e w' => e = .returned (.int .i64 20) ∧ ∃ q os, w' = grow (w.drewN q) os) := fun w => by
            have h := check_any w t r
            rwa [hik] at h
          clear HAT HAF hik
          go_wp2_with fail
          have HG1 : Hid (Grew w (wr.alloc (.cells #[.int .i64 t, .int .i64 r] 41))) := HG.out.alloc _
          generalize wr.alloc (.cells #[.int .i64 t, .int .i64 r] 41) = W1 at *
          refine (HCk.out W1).mono ?_
          rintro e w2 ⟨rfl, g2⟩
          have HB2 : Hid (Below w.heap.size w w2) := (HG1.out.trans g2).below
          clear g2 HCk HG1 c1 c2
          go_wp2
          go_ret2
          exact ⟨.inr ⟨HE.out, rfl⟩, HB2.out⟩
        | true =>
          have HE : Hid ((L.take (k + 1)).all isKey = true) := HAT.out hik
          have HCk : Hid (∀ w, Calls Tryz.prog 43 #[.agg #[.int .i64 t, .int .i64 r]] w fun e w' => e = .returned (.int .i64 0) ∧ ∃ q os, w' = grow (w.drewN q) os) := fun w => by
            have h := check_any w t r
            rwa [hik] at h
          clear HAT HAF hik
          go_wp2_with fail
          have HG1 : Hid (Grew w (wr.alloc (.cells #[.int .i64 t, .int .i64 r] 41))) := HG.out.alloc _
          generalize wr.alloc (.cells #[.int .i64 t, .int .i64 r] 41) = W1 at *
          refine (HCk.out W1).mono ?_
          rintro e w2 ⟨rfl, g2⟩
          have HG2 : Hid (Grew w w2) := HG1.out.trans g2
          clear g2 HCk HG1 c1 c2
          go_wp2_with fail
          go_roundw
          case rel => exact ⟨k + 1, by omega, by go_num, HE, HG2⟩
          case measure => simp [intOf]; omega
    · obtain rfl : k = n := by omega
      have HAll : Hid (L.all isKey = true) := by have := HA.out; rwa [HN.out, List.take_length] at this
      have HKs : Hid (∀ S, SameMem S L → ∀ x ∈ S, isKey x = true) := fun S hs x hx => List.all_eq_true.1 HAll.out x ((hs x).1 hx)
      clear HA
      go_wp2_with fail
      refine (clone_any wr ao cap k L HN.out (HK.out.grew HG.out) HSp.out hm).mono ?_
      rintro e w1 ⟨v, rfl, hown, hbel⟩
      have HB1 : Hid (Below w.heap.size w w1) := HG.out.below.trans (hbel.mono HG.out.size)
      have HO1 : Hid (OwnK w1 w.heap.size v L) := hown.mono HG.out.size
      clear hown hbel
      rcases HO1.out.shape with ⟨rfl, hL0⟩ | ⟨g, c, rfl, hbg, _, _, _, _⟩
      · have HS0 : Hid (sortK L = []) := by rw [Hid, hL0]; rfl
        have HSf : Hid (∀ w, Calls Tryz.prog 83 #[.slice none 0 0, .func (.func 84) #[] #[]] w fun e w' => e = .returned (.tuple #[]) ∧ w' = w) := fun w => AnyF.slices_SortFunc_none laysSort none 0 _ w
        have HCo : Hid (∀ w, Calls Tryz.prog 85 #[.slice none 0 0] w fun e w' => e = .returned (.slice none 0 0) ∧ w' = w) := fun w => compact_nil w
        clear hL0 HO1
        go_wp2_with fail
        refine (HSf.out w1).mono ?_
        rintro e w2 ⟨rfl, rfl⟩
        go_wp2_with fail
        refine (HCo.out w2).mono ?_
        rintro e w3 ⟨rfl, rfl⟩
        go_wp2
        go_ret2
        exact ⟨.inl ⟨HAll.out, _, rfl, by rw [HS0.out]; exact OwnK.nil _ _⟩, HB1.out⟩
      · rw [← HN.out]
        have HO2 : Hid (OwnK w1 w.heap.size (own g k c) L) := by have := HO1.out; rwa [← HN.out] at this
        have hmm : k ≤ 8796093022208 := by omega
        clear HO1
        go_wp2_with fail
        refine (sortFunc_any w1 w.heap.size g k c L HO2.out hmm).mono ?_
        rintro e w2 ⟨rfl, S, ho2, ha2, hs2, hg2⟩
        have HO3 : Hid (OwnK w2 w.heap.size (own g k c) S) := ho2
        have HA3 : Hid (Asc S) := ha2
        have HS3 : Hid (SameMem S L) := hs2
        have HB3 : Hid (Below w.heap.size w w2) := HB1.out.trans (grown_below hg2 (fun b hb => by cases hb; exact hbg) HB1.out.size)
        clear ho2 ha2 hs2 hg2 HO2 HB1
        go_wp2_with fail
        refine (compact_any w2 w.heap.size g k c S HO3.out HA3.out (HKs.out S HS3.out) hmm).mono ?_
        rintro e w3 ⟨m, rfl, C, ho, hr, hs, hg⟩
        have HO4 : Hid (OwnK w3 w.heap.size (own g m c) (sortK L)) := by
          rw [← sortK_eq (l := L) hr (fun x => (hs x).trans (HS3.out x))]; exact ho
        have HB4 : Hid (Below w.heap.size w w3) := HB3.out.trans (grown_below hg (fun b hb => by cases hb; exact hbg) HB3.out.size)
        clear ho hr hs hg HB3 HO3 HA3 HS3
        go_wp2
        go_ret2
        exact ⟨.inl ⟨HAll.out, _, rfl, HO4.out⟩, HB4.out⟩
end Go.Proofs.YtbcmmeajglilbaaGreat
/-
  Keys.
-/
namespace Go.Proofs.YtbcmmeajglilbaaGreat
open Go.RowKit Go.Sort Go.Shelf

attribute [local go_sem] Oper.semAt_some

theorem rowOwn {X Y : World} {b : Nat} {T : TypeId} {sz n : Nat} {v : Value} {xs : List Value} {row : Option Nat} (h : X.ownsRow b T sz v n xs) (hg : X.grownBy Y row) (hr : ∀ r, row = some r → ∃ o : Obj, X.heap[r]? = some o ∧ o.isCells = false) : Y.ownsRow b T sz v n xs := by
  obtain ⟨hl, h⟩ := h
  refine ⟨hl, ?_⟩
  rcases h with h | ⟨g, cap, cur, rfl, hb, hh, r⟩
  · exact .inl h
  · refine .inr ⟨g, cap, cur, rfl, hb, (hg.block g (blk_lt hh) (fun e => ?_)).trans hh, r⟩
    obtain ⟨o, ho, hc⟩ := hr g e.symm
    rw [hh] at ho
    cases ho
    cases hc
theorem keepsRow {X Y : World} {b : Nat} {T : TypeId} {sz n : Nat} {v : Value} {xs : List Value} (h : X.ownsRow b T sz v n xs) (hg : X.grownBy Y v.ownBlock) : KeepsOthers X Y := by
  refine ⟨hg.size, fun k o hk ho => (hg.block k (blk_lt hk) (fun e => ?_)).trans hk⟩
  obtain ⟨_, ⟨rfl, _⟩ | ⟨g, cap, cur, rfl, hb, hh, r⟩⟩ := h
  · cases e
  · cases e
    rw [hh] at hk
    cases hk
    cases ho
theorem wpLIn_app {F : Fence} {n : Nat} {w : World} {ops : Array Oper} {rest : List Oper} {o : Oper} {a : Act} {Q : Exit → Act → World → Prop} (hgd : o.guard = none) (s x : Operand) (TS : TypeId)
    (ho : o.op = .call { callee := .builtin .append, args := #[s, x], argTypes := #[TS, TS] }) (v u : Value) (hs : a.eval s = v) (hx : a.eval x = u) {post : Value → World → Prop}
    (hr : ∀ ty, ∃ v' w', (Builtin.append_ #[TS, TS] ty #[v, u]).run Tryz.prog w = .ok v' w' ∧ post v' w') (h : ∀ v' w', post v' w' → wpListIn F n Tryz.prog ops Q rest (a.put o.dst v') w') : wpListIn F n Tryz.prog ops Q (o :: rest) a w := by
  obtain ⟨v', w', hr, h2⟩ := hr o.type
  refine wpListIn_plain hgd fun K hK' => ?_
  unfold Oper.wpIn
  refine ⟨?_, ?_⟩
  · simp [Oper.about, ho, resolve, Target.leads]
  · rw [Oper.semAt_plain F _ _ (by rw [ho]; intro c hc'; cases hc')]
    simp [execOp, ho, resolve, invoke, builtin, hs, hx, hr, Result.andThen]
    exact hK' _ _ (h v' w' h2)
/-- the list that grows -/
structure KG (w : World) (n0 Bl : Nat) (L : List K) (W : World) (v : Value) : Prop where
  bx : Boxed W Bl 85 v
  ow : OwnK W n0 v L
  bel : Below w.heap.size w W
  sz : n0 ≤ W.heap.size
theorem KG.own {w : World} {n0 Bl B : Nat} {β : Type} (f : β → List K) (hB : w.heap.size ≤ B) : OwnFrom B (fun (s : β) W => ∃ v, KG w n0 Bl (f s) W v) := fun _ X Y row ⟨v, h⟩ hg hr =>
  ⟨v, boxed_own Bl 85 (fun _ : Unit => v) () X Y row h.bx hg (fun r e => (hr r e).2), rowOwn h.ow hg (fun r e => (hr r e).2), h.bel.grown hg h.bel.size (fun k e => Nat.le_trans hB (hr k e).1), Nat.le_trans h.sz hg.size⟩
set_option maxRecDepth 100000 in
set_option maxHeartbeats 2000000 in
theorem keysS_any (w : World) (S V D M L P : Nat) (hf : Value) (cap last : Int) (vs : List Vr) (es : List En) (R : K → Nat × Nat × Nat) (p : Int) (h : SA w S V D M L P hf cap last vs es R) :
    Calls Tryz.prog 32 #[ptr S, .int .i64 p] w fun e w' => ∃ v, e = .returned v ∧ OwnK w' w.heap.size v (sortK ((ptI P p es).map En.k)) ∧ Below w.heap.size w w' := by
  obtain ⟨W1, hW1⟩ : ∃ W1, W1 = w.alloc (.cells #[.slice none 0 0] 85) := ⟨_, rfl⟩
  have HB1 : Hid (Below w.heap.size w W1 ∧ Boxed W1 w.heap.size 85 (.slice none 0 0)) := by
    rw [hW1]
    exact ⟨(Below.refl _ _).alloc (Nat.le_refl _) _, Boxed.new w _ _⟩
  have c4 : ∀ o, (w.alloc o).cell? ⟨S, 4, none⟩ = some (ptr D) := fun o => Lib.cell?_alloc_some _ h.cells.2.2.2.2
  obtain ⟨l, hl⟩ : ∃ l, l = ptI P p es := ⟨_, rfl⟩
  have hsub : ∀ e ∈ l, e ∈ es := fun e he => by
    rw [hl] at he
    unfold ptI at he
    split at he
    · exact (pt_mem.1 he).1
    · cases he
  have HL : Hid ((∀ e ∈ l, KIn e.k ∧ True) ∧ l.length ≤ 65536 ∧ (l.map En.k).all isKey = true) := by
    refine ⟨fun e he => ⟨(h.da.pp e (hsub e he)).2.1, trivial⟩, ?_, ?_⟩
    · have h1 : l.length ≤ es.length := by
        rw [hl]; unfold ptI; split
        · exact List.length_filter_le _ _
        · simp
      have := h.el; have := h.lt; omega
    · rw [List.all_eq_true]
      intro k hk
      obtain ⟨e, he, rfl⟩ := List.mem_map.1 hk
      obtain ⟨v, hv⟩ := List.exists_mem_of_ne_nil _ (h.ne e (hsub e he))
      have h2 : v ∈ vs ∧ v.k = e.k := by simpa [ofK] using hv
      rw [← h2.2]
      exact h.ik v h2.1
  have HE := hidC (each_any W1 D M L P hf es p (h.da.kept HB1.out.1) (by have := HL.out.2.1; rw [← hl]; omega))
  rw [← hl] at HE ⊢
  clear h hl hsub
  refine (callsIn_wide (n := 10)).1 ?_
  refine callsIn_of_wp_marks Tryz.func32 rfl trivial ?_ rfl
  refine wpIn_wide.2 ?_
  simp only [Tryz.ntmps32, List.size_toArray, List.length_cons, List.length_nil, Nat.reduceAdd, Nat.reduceSub, Array.replicate_succ, Array.replicate_zero, List.push_toArray, List.append_toArray, List.nil_append, List.cons_append]
  go_wp2_with fail
  rw [← hW1]
  clear hW1
  refine HE.out.mono ?_
  clear HE
  rintro e W2 ⟨B, g, rfl, HEl⟩
  have hb2 := HEl.out.bel
  have HI : Hid (IL W2 B g l) := HEl.out.il
  have HG0 : Hid (KG w W2.heap.size w.heap.size [] W2 (.slice none 0 0) ∧ w.heap.size < W2.heap.size ∧ B < W2.heap.size ∧ g < W2.heap.size ∧ w.heap.size < B ∧ w.heap.size < g) := by
    have hb := HB1.out.1
    have hl := HB1.out.2.lt
    have hz := hb2.size
    have h1 := HEl.out.ge
    exact ⟨⟨(hb2.block _ hl).trans HB1.out.2, OwnK.nil _ _, hb.trans (hb2.mono hb.size), Nat.le_refl _⟩, by omega, blk_lt HI.out.box, HI.out.gl, by omega, by omega⟩
  clear hb2 HEl c4 HB1
  go_wp2_with fail
  refine (wpIn_wide (n := 10)).1 ?_
  refine loop_cut 0 (fun W => ∃ v, KG w W2.heap.size w.heap.size (l.map En.k) W v) (fun _ _ h => h) ?loop ?rest
  case loop =>
    refine wpIn_rangeFunc_ownH rfl (by omega) (gf := 81) (lb := #[ptr B]) rfl trivial (enters_of Tryz.func81 (by kernel_rfl) rfl)
      (each_stops Fence.wide 9 trivial rfl (by omega) B g l.length l HL.out.1 rfl (by have := HL.out.2.1; omega) W2 HI.out) KBG.trans (KBG.put HG0.out.2.2.1 HG0.out.2.2.2.1) (Below.refl _ _) (fun _ => rfl)
      (fun pre W => ∃ v, KG w W2.heap.size w.heap.size (pre.map (fun x : PX => x.1.1)) W v)
      (fun _ _ _ => False)
      (KG.own _ (by have := HG0.out.2.1; omega))
      (fun _ _ _ _ _ hs _ _ => hs)
      ⟨_, HG0.out.1⟩
      (fun x a' W => ∃ Bx, w.heap.size < Bx ∧ KBoxed W Bx x.1.1.1 x.1.1.2 ∧ a' = { tmps := #[ptr S, .int .i64 p, undef, undef, .slice none 0 0, ptr w.heap.size, ptr Bx, undef, undef, ptr S, ptr S, .pointer (some ⟨S, 4, none⟩), ptr D, .int .i64 p, .func (.func 81) #[] #[ptr B], .agg #[.int .i64 x.1.1.1, .int .i64 x.1.1.2], ptr x.1.2, undef, undef, undef, undef, undef, undef, undef, undef, undef, undef], defers := [] })
      (fun x a' _ X Y row hs hg hr => by obtain ⟨Bx, e1, e2, e3⟩ := hs; exact ⟨Bx, e1, e2.own hg (fun r e => (hr r e).2), e3⟩)
      ?assign ?body ?done ?stop
    case assign =>
      rintro ll pre x W K ⟨v, hk⟩ hK
      gi_wp2
      exact hK _ _ ((KeepsOthers.alloc _ _).from _) (KBG.alloc (by have := hk.sz; have := HG0.out.2.2.1; omega) (by have := hk.sz; have := HG0.out.2.2.2.1; omega) _) ⟨v, hk.bx.alloc _, hk.ow.alloc _, hk.bel.alloc hk.bel.size _, by have := hk.sz; simp; omega⟩ ⟨W.heap.size, by have := hk.sz; have := HG0.out.2.1; omega, KBoxed.new W _ _, rfl⟩
    case body =>
      rintro ll pre x a' W hll ⟨r, hr⟩ ⟨v, hk⟩ ⟨Bx, hBx, bX, rfl⟩ hlt
      obtain ⟨a0, n0, c0, rfl⟩ : ∃ a0 n0 c0, v = .slice a0 n0 c0 := by
        rcases hk.ow.shape with ⟨h1, _⟩ | ⟨g', cap', h1, _⟩
        · exact ⟨_, _, _, h1⟩
        · exact ⟨_, _, _, h1⟩
      have cN := hk.bx.cell
      have x1 := bX.cell.1
      have x2 := bX.cell.2
      obtain ⟨⟨⟨xt, xr⟩, xv⟩, hxk, hxv⟩ := x
      simp only at x1 x2
      have HX : Hid (∀ ty, ∃ v' W5, (Builtin.append_ #[85, 85] ty #[(.slice a0 n0 c0), .slice (some ⟨W.heap.size, 0, none⟩) 1 1]).run Tryz.prog (W.alloc (.cells #[.int .i64 xt, .int .i64 xr] 41)) = .ok v' W5 ∧ (∃ a' n' c', v' = .slice a' n' c') ∧ (W5.cell? ⟨w.heap.size, 0, none⟩ = some (.slice a0 n0 c0) ∧ W5.frozen? ⟨w.heap.size, 0, none⟩ = false) ∧ KeepsOthers W W5 ∧ KBG B g W (W5.setCell ⟨w.heap.size, 0, none⟩ v') ∧ KG w W2.heap.size w.heap.size (pre.map (fun x : PX => x.1.1) ++ [(xt, xr)]) (W5.setCell ⟨w.heap.size, 0, none⟩ v') v') := by
        intro ty
        have hA : OwnK (W.alloc (.cells #[.int .i64 xt, .int .i64 xr] 41)) W2.heap.size (.slice a0 n0 c0) (pre.map (fun x : PX => x.1.1)) := hk.ow.alloc _
        have hlen := HL.out.2.1
        obtain ⟨v', W5, hr5, ho5, hg5, hw5⟩ := run_append_keys ty W2.heap.size (.slice a0 n0 c0) (pre.map (fun x : PX => x.1.1)) hA (some ⟨W.heap.size, 0, none⟩) 1 1 [(xt, xr)] rfl (.inr ⟨W.heap.size, 0, rfl, fun j u hu => by
          have hb := heap_alloc_new (w := W) (.cells #[.int .i64 xt, .int .i64 xr] 41) W.heap.size rfl
          rw [World.cell?, hb]
          simpa [cks] using hu⟩) (by simp) (by simp; omega) (by have := hk.sz; simp; omega)
        have hbl : w.heap.size < W.heap.size := hk.bx.lt
        have hne : some w.heap.size ≠ (Value.slice a0 n0 c0).ownBlock := fun e => by
          have := (hk.ow.lt _ e.symm).1
          have := HG0.out.2.1
          omega
        have hb5 : Boxed W5 w.heap.size 85 (.slice a0 n0 c0) := (hk.bx.alloc _).kept hg5 hne
        have hBW : ∀ k, k < W2.heap.size → some k ≠ (Value.slice a0 n0 c0).ownBlock := fun k hk' e => by
          have := (hk.ow.lt _ e.symm).1
          omega
        have hk5 : KBG B g W W5 := (KBG.alloc (by have := hk.sz; have := HG0.out.2.2.1; omega) (by have := hk.sz; have := HG0.out.2.2.2.1; omega) _).trans (KBG.grown hg5 (by have := hk.sz; have := HG0.out.2.2.1; simp; omega) (by have := hk.sz; have := HG0.out.2.2.2.1; simp; omega) (hBW _ HG0.out.2.2.1) (hBW _ HG0.out.2.2.2.1))
        refine ⟨v', W5, hr5, ?_, ⟨hb5.cell, hb5.frozen⟩, (KeepsOthers.alloc _ _).trans (keepsRow hA hg5), hk5.trans ⟨by simp, heap_setCell_other _ _ _ _ (by have := HG0.out.2.2.2.2.1; simp; omega), heap_setCell_other _ _ _ _ (by have := HG0.out.2.2.2.2.2; simp; omega)⟩, hb5.set v', ?_, ?_, ?_⟩
        · rcases ho5.shape with ⟨h1, _⟩ | ⟨g', cap', h1, _⟩
          · exact ⟨_, _, _, h1⟩
          · exact ⟨_, _, _, h1⟩
        · refine ho5.same (fun q hq => heap_setCell_other _ _ _ _ ?_)
          have := (ho5.lt q hq).1
          have := HG0.out.2.1
          simp; omega
        · have h1 : Below w.heap.size w W5 := (hk.bel.alloc hk.bel.size _).trans ((Below.refl _ _).grown hg5 (by have := hk.bel.size; simp; omega) (fun k e => by have := (hk.ow.lt _ e).1; have := HG0.out.2.1; omega))
          exact h1.setCell (p := ⟨w.heap.size, 0, none⟩) (Nat.le_refl _) _
        · have := hk.sz; have := hg5.size; simp at this ⊢; omega
      gi_wp2_with (
        gi_at_builtin
        refine wpLIn_app rfl _ _ 85 rfl (.slice a0 n0 c0) (.slice (some ⟨W.heap.size, 0, none⟩) 1 1) rfl rfl HX.out ?_
        rintro v' W5 ⟨⟨a', n', c', rfl⟩, ⟨c5, f5⟩, HK5⟩
        have HK6 := hidC HK5
        clear HX HK5)
      exact ⟨(HK6.out.1.trans (KeepsOthers.setCell _ _ _)).from _, HK6.out.2.1, _, by simpa using HK6.out.2.2⟩
    case done =>
      rintro D' ys W hD rfl ⟨v, hk⟩ hK
      refine ⟨.inl rfl, D', hD, rfl, ⟨v, ?_⟩, hK⟩
      have e1 : (upto (pd l HL.out.1) l.length).map (fun x : PX => x.1.1) = l.map En.k := by
        refine List.ext_getElem (by simp [upto]) (fun i h1 h2 => ?_)
        simp only [List.getElem_map, upto, List.getElem_range]
        rw [pd_at HL.out.1 (by simpa [upto] using h1)]
      rw [e1] at hk
      exact hk
    case stop =>
      rintro D' c pre W hD _ hIx hK
      exact hIx.elim
  case rest =>
    rintro D1 W6 hD1 ⟨v, hk⟩ hK1
    have cN := hk.bx.cell
    obtain ⟨ao, cc, rfl, hka, _, hcc⟩ : ∃ ao cc, v = .slice ao l.length cc ∧ KeysAt W6 ao (l.map En.k) ∧ (ao = none → cc = 0) ∧ (∀ a, ao = some a → a.spot = none) := by
      rcases hk.ow.shape with ⟨rfl, h0⟩ | ⟨g', cap', rfl, _, _, _, _, hb⟩
      · have : l.length = 0 := by have := congrArg List.length h0; simpa using this
        exact ⟨none, 0, by rw [this], .inl h0, fun _ => rfl, fun a e => by cases e⟩
      · exact ⟨_, cap', by simp, hb, by simp, fun a e => by cases e; rfl⟩
    have HS := hidC (sort_any W6 ao cc l.length (l.map En.k) (by simp) hka hcc (by have := HL.out.2.1; omega))
    have HB6 : Hid (Below w.heap.size w W6 ∧ W6.heap[D1]? = some (.deferred (some [])) ∧ w.heap.size ≤ D1) := ⟨hk.bel, hK1, by have := HG0.out.2.1; omega⟩
    clear hk hka hcc hK1
    go_wp2_with fail
    refine HS.out.mono ?_
    rintro e W7 ⟨⟨_, v7, rfl, ho7⟩ | ⟨hx, _⟩, hb7⟩
    · have HO7 := hidC ho7
      have HB7 := hidC hb7
      clear ho7 hb7 HS
      go_wp2
      have hd7 : W7.heap[D1]? = some (.deferred (some [])) := (HB7.out.block _ (blk_lt HB6.out.2.1)).trans HB6.out.2.1
      refine ⟨by simp, .inl ⟨D1, _, rfl, run_takeDeferred hd7, ?_⟩⟩
      refine ⟨v7, by simp [results, Tryz.f32, go_sem], v7, rfl, ?_, ?_⟩
      · refine rowOwn (OwnK.mono HO7.out (by have := HB6.out.1.size; omega)) (grownBy_putObj' W7 D1 _) (fun r e => by cases e; exact ⟨_, hd7, rfl⟩)
      · have h1 := HB6.out.1.trans (HB7.out.mono HB6.out.1.size)
        exact h1.trans (belowK_b (w := w) (Nat.le_refl _) W7 D1 _ (.deferred none) HB6.out.2.2 hd7 rfl rfl)
    · rw [HL.out.2.2] at hx; cases hx
theorem keys_st (n0 : Nat) (F : Nat → Prop) (w : World) (S P : Nat) (cap last : Int) (vs : List Vr) (h : ST n0 F w S P cap last vs) (p : Int) :
    Calls Tryz.prog 32 #[ptr S, .int .i64 p] w fun e w' => ∃ v L, e = .returned v ∧ OwnK w' w.heap.size v L ∧ KsOf P p vs L ∧ Below w.heap.size w w' := by
  obtain ⟨V, D, M, L, es, R, h1, h2⟩ := h
  refine (keysS_any w S V D M L P _ cap last vs es R p h1).mono ?_
  rintro e w' ⟨v, rfl, ho, hb⟩
  refine ⟨v, _, rfl, ho, ⟨sortK_rise (fun k hk => ?_), fun k => ?_⟩, hb⟩
  · obtain ⟨e, he, rfl⟩ := List.mem_map.1 hk
    have he' : e ∈ es := by
      unfold ptI at he
      split at he
      · exact (pt_mem.1 he).1
      · cases he
    obtain ⟨x, hx⟩ := List.exists_mem_of_ne_nil _ (h1.ne e he')
    have h3 : x ∈ vs ∧ x.k = e.k := by simpa [ofK] using hx
    rw [← h3.2]
    exact h1.ik x h3.1
  · rw [sortK_mem]
    constructor
    · intro hk
      obtain ⟨e, he, rfl⟩ := List.mem_map.1 hk
      unfold ptI at he
      split at he
      · rename_i hp
        obtain ⟨he1, he2⟩ := pt_mem.1 he
        obtain ⟨x, hx⟩ := List.exists_mem_of_ne_nil _ (h1.ne e he1)
        have h3 : x ∈ vs ∧ x.k = e.k := by simpa [ofK] using hx
        refine ⟨⟨x, h3.1, h3.2⟩, ?_⟩
        rw [← h1.ph e he1, he2]
        omega
      · cases he
    · rintro ⟨⟨x, hx, rfl⟩, hp⟩
      obtain ⟨e, he, hek⟩ := h1.all x hx
      refine List.mem_map.2 ⟨e, ?_, hek⟩
      have h4 := h1.ph e he
      have h5 := (h1.da.pp e he).1
      rw [hek] at h4
      unfold ptI
      rw [if_pos (by omega)]
      exact pt_mem.2 ⟨he, by omega⟩
end Go.Proofs.YtbcmmeajglilbaaGreat
/-
  slices.Backward: THE ITERATOR FROM THE BACK.
-/
namespace Go.Proofs.YtbcmmeajglilbaaGreat
open Go.RowKit Go.Sort Go.Shelf

attribute [local go_sem] Oper.semAt_some

/-- a place within m -/
def cl (m i : Nat) : Nat := min i (m - 1)
theorem cl_lt {m i : Nat} (h : 0 < m) : cl m i < m := by unfold cl; omega
theorem cl_of {m i : Nat} (h : i < m) : cl m i = i := by unfold cl; omega
/-- the last k places, from the back -/
def dn (m k : Nat) : List Nat := (List.range k).map (fun j => m - 1 - j)
theorem dn_succ (m k : Nat) : dn m (k + 1) = dn m k ++ [m - 1 - k] := by simp [dn, List.range_succ]
theorem dn_length (m k : Nat) : (dn m k).length = k := by simp [dn]
def nd (L : List Nat) (j : Nat) : Nat := L.getD j 0
/-- what is handed on at a place -/
abbrev encB (m : Nat) (L : List Nat) (i : Nat) : Array Value := #[.int .i64 ((cl m i : Nat) : Int), ptr (nd L (cl m i))]
/-- the iterator's box, and the list -/
structure BK (W : World) (Bs g off c : Nat) (L : List Nat) : Prop where
  bx : W.heap[Bs]? = some (.cells #[.slice (some ⟨g, off, none⟩) L.length c] 115 (0, 0))
  at_ : ∀ j, j < L.length → W.cell? ⟨g, off + j, none⟩ = some (ptr (nd L j))
  gl : g < W.heap.size
theorem BK.kbg {W W' : World} {Bs g off c : Nat} {L : List Nat} (h : BK W Bs g off c L) (hk : KBG Bs g W W') : BK W' Bs g off c L :=
  ⟨hk.2.1.trans h.bx, fun j hj => by
    have h1 := h.at_ j hj
    unfold World.cell? at h1 ⊢
    simp only at h1 ⊢
    rw [hk.2.2]
    exact h1, Nat.lt_of_lt_of_le h.gl hk.1⟩
theorem BK.cell {W : World} {Bs g off c : Nat} {L : List Nat} (h : BK W Bs g off c L) : W.cell? ⟨Bs, 0, none⟩ = some (.slice (some ⟨g, off, none⟩) L.length c) := by rw [World.cell?, h.bx]; rfl

set_option maxRecDepth 100000 in
set_option maxHeartbeats 1000000 in
theorem back1_in (F : Fence) (n : Nat) (hf : F.fn 91) (hro : F.round = none) (hn : 1 ≤ n) (l Bs g off c m : Nat) (L : List Nat) (hm : m ≤ 1000000) (hLm : m = L.length) (J Jx : List Nat → World → Prop)
    (hY : ∀ pre x W, J pre W → pre.length < m → YieldAt F (n - 1) Tryz.prog l (encB m L x) W fun e W' =>
      (e = .returned (.bool true) ∧ J (pre ++ [x]) W' ∧ KBG Bs g W W') ∨ (e = .returned (.bool false) ∧ Jx (pre ++ [x]) W'))
    (W : World) (hB : BK W Bs g off c L) (h0 : J [] W) :
    CallsIn F n Tryz.prog 91 #[.func (.yield l) #[] #[], ptr Bs] W fun e W' => (∃ v, e = .returned v) ∧
      ((∃ ys, ys = dn m m ∧ J ys W') ∨ (∃ pre, (∃ k, k ≤ m ∧ pre = dn m k) ∧ Jx pre W')) := by
  have HL : Hid (BK W Bs g off c L) := hB
  have HLm : Hid (m = L.length) := hLm
  have hBs := hB.cell
  rw [← hLm] at hBs
  clear hB hLm
  refine callsIn_of_wp Tryz.func91 rfl hf ?_ hro
  simp only [Tryz.ntmps91, List.size_toArray, List.length_cons, List.length_nil, Nat.reduceAdd, Nat.reduceSub, Array.replicate_succ, Array.replicate_zero, List.push_toArray, List.append_toArray, List.nil_append, List.cons_append]
  gi_wp2
  clear hBs
  gi_loopw [3] (fun i wr => ∃ k : Nat, k ≤ m ∧ i = .int .i64 ((m : Int) - 1 - (k : Int)) ∧ J (dn m k) wr ∧ KBG Bs g W wr)
    (fun i _ => (intOf i + 1).toNat)
  case atStart => exact ⟨0, Nat.zero_le _, by simp, h0, KBG.refl _ _ _⟩
  case round =>
    obtain ⟨k, hk, rfl, hJs, hnx⟩ := hrel
    have hBw := HL.out.kbg hnx
    have hBs := hBw.cell
    rw [← HLm.out] at hBs
    by_cases hlt : k < m
    · have c1 := hBw.at_ (m - 1 - k) (by have := HLm.out; omega)
      obtain ⟨fn, tmps, assign, body, hy, hR⟩ := hY _ (m - 1 - k) _ hJs (by rw [dn_length]; exact hlt)
      simp only [encB] at hy
      rw [cl_of (by omega)] at hy
      have hi : ((m : Int) - 1 - (k : Int)) = ((m - 1 - k : Nat) : Int) := by omega
      have hge : (0 : Int) ≤ ((m - 1 - k : Nat) : Int) := by omega
      have HI : Hid (((m : Int) - 1 - (k : Int)) = ((m - 1 - k : Nat) : Int)) := hi
      clear hi hBw
      rw [HI.out]
      obtain ⟨q, hq⟩ : ∃ q, q = m - 1 - k := ⟨_, rfl⟩
      rw [← hq] at c1 hy hR hge ⊢
      have HQ : Hid (q = m - 1 - k) := hq
      have hqm : q < m := by omega
      clear hq
      gi_wp2
      refine hR.mono ?_
      rintro e W3 (⟨rfl, hJ3, hk3⟩ | ⟨rfl, hJx3⟩)
      · gi_wp2
        go_roundw
        case rel => exact ⟨k + 1, by omega, by have := HQ.out; congr 1; omega, by rw [dn_succ, ← HQ.out]; exact hJ3, hnx.trans hk3⟩
        case measure => have := HQ.out; simp [intOf] <;> omega
      · gi_wp2
        refine bodyPost_ret (results_none rfl _ _ _) rfl ?_
        exact ⟨⟨_, rfl⟩, .inr ⟨_, ⟨k + 1, by omega, by rw [dn_succ, ← HQ.out]⟩, hJx3⟩⟩
    · obtain rfl : k = m := by omega
      rw [show ((k : Int) - 1 - (k : Int)) = -1 by omega]
      gi_wp2
      go_end0
      exact ⟨⟨_, rfl⟩, .inl ⟨_, rfl, hJs⟩⟩

theorem backward_any (w : World) (ao : Option Addr) (n cap : Nat) :
    Calls Tryz.prog 79 #[.slice ao n cap] w fun e w' => e = .returned (.func (.func 91) #[] #[.pointer (some ⟨w.heap.size, 0, none⟩)]) ∧ w' = w.alloc (.cells #[.slice ao n cap] 115) := by
  go_enter Tryz.func79, Tryz.ntmps79
  go_wp2
  go_ret
  exact ⟨rfl, rfl⟩

theorem back_stops (F : Fence) (n : Nat) (hf : F.fn 91) (hro : F.round = none) (hn : 1 ≤ n) (Bs g off c m : Nat) (L : List Nat) (hm : m ≤ 1000000) (hLm : m = L.length) (w : World) (hB : BK w Bs g off c L) :
    SeqStopsK F n Tryz.prog 91 #[ptr Bs] (encB m L) (KBG Bs g) (fun ys => ys = dn m m) (fun pre => ∃ k, k ≤ m ∧ pre = dn m k) m w := fun l J Jx W hW _ _ hY h0 =>
  back1_in F n hf hro hn l Bs g off c m L hm hLm J Jx hY W (hB.kbg (KBG.below hW (blk_lt hB.bx) hB.gl)) h0
end Go.Proofs.YtbcmmeajglilbaaGreat
