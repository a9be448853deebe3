/-
  kept: the lists that were handed out.
-/
import Derived.Test.YteobmijfbjgccaaZStepL
import Derived.Laws.Append
namespace Go.Proofs.Yteobmijfbjgccaa
open Go.RowKit Go.Sort

theorem OwZ.setZ {N TE g n c : Nat} {w : World} {ys : List Value} (h : OwZ N TE w (some ⟨g, 0, none⟩) n c ys) {k : Nat} (hk : k < n) (x : Value) : OwZ N TE (w.setCell ⟨g, k, none⟩ x) (some ⟨g, 0, none⟩) n c (ys.set k x) ∧ w.frozen? ⟨g, k, none⟩ = false ∧ ∃ y, w.cell? ⟨g, k, none⟩ = some y := by
  obtain ⟨hl, h⟩ := h
  rcases h with ⟨h, _⟩ | ⟨g', cap, cur, e, hb, hh, hn, hc, hs, ht⟩
  · cases h
  · cases e
    refine ⟨⟨by simpa using hl, .inr ⟨g, _, cur.setIfInBounds k x, rfl, hb, heap_setCell_same w g k _ _ _ hh, hn, hc, by simpa using hs, ?_⟩⟩, frozen_of_row w _ _ _ _ hh, ?_⟩
    · rw [Array.toList_setIfInBounds, List.take_set, ht]
    · refine ⟨cur[k]'(by omega), ?_⟩
      simp [World.cell?, hh, show k < cur.size by omega]
/-- append in its room, or anew and nothing turned -/
theorem appCZ {N : Nat} {w : World} {ao : Option Addr} {n c : Nat} {ys : List Value} (h : OwZ N 3 w ao n c ys) (hN : N ≤ w.heap.size) (a : Addr) (m cc : Nat) (news : List Value) (hl : news.length = m) (hnews : ∀ j u, news[j]? = some u → w.cell? (a.add j) = some u) (h1 : ∀ u ∈ news, u.oneCell' = true) (hb : n + m ≤ 100000000) (ty : TypeId) :
    ∃ v' w', (Builtin.append_ #[23, 23] ty #[.slice ao n c, .slice (some a) m cc]).run Try.prog w = .ok v' w' ∧ ∃ ao' c', v' = .slice ao' (n + m) c' ∧ OwZ N 3 w' ao' (n + m) c' (ys ++ news) ∧
      ((ao' = ao ∧ c' = c ∧ FrZ (fun k => ∃ g, ao = some g ∧ g.block = k) w w') ∨ ((∀ g, ao' = some g → w.heap.size ≤ g.block) ∧ RowKit.Below w.heap.size w w')) := by
  obtain ⟨i0, hi', hz0, hz1, hz2⟩ := info_parts infoZI
  have h0 := h
  rcases h with ⟨hlx, ⟨e, rfl⟩ | ⟨g, cap, cur, e, hbg, hh, hnc, hcm, hcs, ht⟩⟩
  · cases e
    have hy : ys = [] := List.eq_nil_of_length_eq_zero (by rw [hlx, Nat.zero_mul])
    subst hy
    obtain ⟨v', w', hr, h2, h3, _⟩ := run_append_own_at (P := Try.prog) (w := w) w.heap.size 23 ty 3 i0 (.int .i64 0) 1 8 Try.underlying23 hi' hz0 hz1 hz2 rfl (by decide) (.slice none 0 0) 0 [] (World.ownsRow_nil _ _ _ _) a m cc news (by omega) hnews h1 (by unfold maxLen; omega) (by omega) (Nat.le_refl _)
    have hbl : RowKit.Below w.heap.size w w' := ⟨h3.os, h3.tape, h3.output, h3.size, fun k hk => h3.block k hk (by simp [Value.ownBlock])⟩
    obtain ⟨ao', c', e'⟩ : ∃ ao' c', v' = .slice ao' (0 + m) c' := by
      obtain ⟨_, ⟨e, e2⟩ | ⟨g, cap, cur, e, _⟩⟩ := h2
      · exact ⟨none, 0, by rw [e, e2]⟩
      · exact ⟨_, _, e⟩
    subst e'
    have ho : OwZ w.heap.size 3 w' ao' (0 + m) c' ([] ++ news) := h2
    exact ⟨_, w', hr, ao', c', rfl, ho.monoN hN, .inr ⟨fun g hg => (ho.lt g hg).1, hbl⟩⟩
  · cases e
    by_cases hroom : n + m ≤ c
    · obtain ⟨w', hr, h2, h3⟩ := run_append_own_spare (P := Try.prog) (w := w) N 23 ty 3 i0 1 Try.underlying23 hi' hz1 g n c ys h0 a m cc news (by omega) hnews h1 hroom
      exact ⟨_, w', hr, some ⟨g, 0, none⟩, c, rfl, h2, .inl ⟨rfl, rfl, ⟨h3.os, h3.tape, h3.output, h3.size, fun k hk hS => h3.block k hk (fun e => hS ⟨_, rfl, by cases e; rfl⟩)⟩⟩⟩
    · have hfit : Builtin.nextslicecap (n + m) c * i0.bytes ≤ 281474976710656 := growslice_fits (by omega) (by rw [hz2]; omega)
      have hr := run_append_grow (P := Try.prog) w 23 ty 3 i0 (.int .i64 0) Try.underlying23 hi' hz0 ⟨g, 0, none⟩ n c ys (by rw [hz1]; exact hlx) (World.ownsRow.cells h0 rfl) a m cc news (by rw [hz1]; omega) hnews (by omega) (by omega) hfit
      have hlen : (ys ++ news).length = (n + m) * 1 := by rw [List.length_append, hl, hlx]; omega
      have hO : (w.drew.alloc (.cells (ys.toArray ++ news.toArray ++ Builtin.zeroCells (Value.int .i64 0).cells (grownCap w (n + m) c 3 - (n + m))) 3)).ownsRow w.heap.size 3 1 (.slice (some ⟨w.heap.size, 0, none⟩) (n + m) (grownCap w (n + m) c 3)) (n + m) (ys ++ news) := by
        refine ⟨hlen, .inr ⟨w.heap.size, _, _, rfl, Nat.le_refl _, Go.heap_alloc_new w.drew _, grownCap_ge w (n + m) c 3, grownCap_le_maxLen w (n + m) c 3 (by unfold maxLen; omega), ?_, ?_⟩⟩
        · have hge := grownCap_ge w (n + m) c 3
          simp only [Array.size_append, List.size_toArray, size_zeroCells, Value.cells, hl, hlx]
          generalize grownCap w (n + m) c 3 = G at *
          simp
          omega
        · simp only [Array.toList_append, List.append_assoc]
          rw [← List.append_assoc, ← hlen]
          exact List.take_left
      have hO' : OwZ w.heap.size 3 _ _ _ _ _ := hO
      exact ⟨_, _, hr, _, _, rfl, hO'.monoN hN, .inr ⟨fun g hg => (hO'.lt g hg).1, ⟨rfl, rfl, rfl, by simp, fun k hk => Go.heap_alloc_old w.drew _ hk⟩⟩⟩
/-- a row's beginning -/
theorem OwZ.takeZ {N TE : Nat} {w : World} {ao : Option Addr} {n m c : Nat} {xs ys : List Value} (h : OwZ N TE w ao (n + m) c (xs ++ ys)) (hx : xs.length = n) (h0 : ao = none → n = 0 ∧ c = 0) : OwZ N TE w ao n c xs := by
  obtain ⟨hl, ⟨e, e2⟩ | ⟨g', cp, cur, e, hg, hh, h5, h6, h7, h8⟩⟩ := h
  · simp only [Value.slice.injEq] at e
    obtain ⟨rfl, _, rfl⟩ := e
    obtain rfl : n = 0 := by omega
    exact ⟨by omega, .inl ⟨rfl, rfl⟩⟩
  · simp only [Value.slice.injEq] at e
    obtain ⟨rfl, _, rfl⟩ := e
    refine ⟨by omega, .inr ⟨g', c, cur, rfl, hg, hh, by omega, h6, h7, ?_⟩⟩
    have h9 := congrArg (List.take (n * 1)) h8
    rw [List.take_take, Nat.min_eq_left (by omega), show n * 1 = xs.length by omega, List.take_left] at h9
    rw [show n * 1 = xs.length by omega]
    exact h9
/-- THE LISTS, while they are tried -/
structure KL (N : Nat) (w : World) (pb : Nat) (Cp : Array Value) (lio : Option Addr) (lic t : Nat) (ro : Nat → Option Addr) (rc : Nat → Nat) (vals : Nat → List Int) : Prop where
  pc : w.heap[pb]? = some (.cells Cp 55 (0, 0))
  p4 : Cp[4]? = some (.slice lio t lic)
  li : OwZ N 23 w lio t lic ((List.range t).map (fun i => .slice (ro i) (vals i).length (rc i)))
  rw : ∀ i, i < t → OwZ N 3 w (ro i) (vals i).length (rc i) (i64s (vals i)) ∧ (vals i).length ≤ 10000000
  ne : ∀ i j, i < j → j < t → ∀ g g', ro i = some g → ro j = some g' → g.block ≠ g'.block
section
variable {N : Nat} {w w' : World} {pb : Nat} {Cp : Array Value} {lio : Option Addr} {lic t : Nat} {ro : Nat → Option Addr} {rc : Nat → Nat} {vals : Nat → List Int}
theorem KL.kept (h : KL N w pb Cp lio lic t ro rc vals) (hb : RowKit.Below w.heap.size w w') : KL N w' pb Cp lio lic t ro rc vals :=
  ⟨(hb.block _ (blk_ltZ h.pc)).trans h.pc, h.p4, h.li.kept (fun g hg => hb.block _ (h.li.lt g hg).2), fun i hi => ⟨(h.rw i hi).1.kept (fun g hg => hb.block _ ((h.rw i hi).1.lt g hg).2), (h.rw i hi).2⟩, h.ne⟩
theorem KL.cell (h : KL N w pb Cp lio lic t ro rc vals) : w.cell? ⟨pb, 4, none⟩ = some (.slice lio t lic) := by
  simp only [World.cell?, h.pc]
  exact h.p4
theorem KL.item (h : KL N w pb Cp lio lic t ro rc vals) {i : Nat} (hi : i < t) : ∃ b off, lio = some ⟨b, off, none⟩ ∧ w.cell? ⟨b, off + i, none⟩ = some (.slice (ro i) (vals i).length (rc i)) := h.li.at_ i _ (by simp [hi])
theorem KL.upd (h : KL N w pb Cp lio lic t ro rc vals) {i : Nat} (hi : i < t) (hf : FrZ (fun k => ∃ g, ro i = some g ∧ g.block = k) w w') {v' : List Int} (ho : OwZ N 3 w' (ro i) v'.length (rc i) (i64s v')) (hl : v'.length = (vals i).length) : KL N w' pb Cp lio lic t ro rc (updZ vals i v') := by
  have hS : ∀ (k : Nat) (C : Array Value) (T : TypeId), w.heap[k]? = some (Obj.cells C T (0, 0)) → T ≠ 3 → w'.heap[k]? = w.heap[k]? := fun k C T hk hT => hf.block k (blk_ltZ hk) (fun hs => by
    obtain ⟨g, hg, e⟩ := hs
    obtain ⟨C', hC'⟩ := (h.rw i hi).1.ty g hg
    rw [e, hk] at hC'; cases hC'; exact hT rfl)
  have hlen : ∀ j, (updZ vals i v' j).length = (vals j).length := fun j => by
    by_cases e : j = i
    · subst e; rw [updZ_same, hl]
    · rw [updZ_ne e]
  refine ⟨(hS _ _ _ h.pc (by decide)).trans h.pc, h.p4, ?_, fun j hj => ?_, h.ne⟩
  · simp only [hlen]
    exact h.li.kept (fun g hg => by obtain ⟨C, hC⟩ := h.li.ty g hg; exact hS _ _ _ hC (by decide))
  · by_cases e : j = i
    · subst e
      rw [updZ_same]
      exact ⟨ho, by rw [hl]; exact (h.rw j hj).2⟩
    · rw [updZ_ne e]
      refine ⟨(h.rw j hj).1.kept (fun g hg => hf.block _ ((h.rw j hj).1.lt g hg).2 (fun hs => ?_)), (h.rw j hj).2⟩
      obtain ⟨g', hg', e'⟩ := hs
      rcases Nat.lt_or_gt_of_ne e with hlt | hgt
      · exact h.ne j i hlt hi g g' hg hg' e'.symm
      · exact h.ne i j hgt hj g' g hg' hg e'
theorem KL.congr {vals' : Nat → List Int} (h : KL N w pb Cp lio lic t ro rc vals) (he : ∀ i, i < t → vals i = vals' i) : KL N w pb Cp lio lic t ro rc vals' := by
  refine ⟨h.pc, h.p4, ?_, fun i hi => by rw [← he i hi]; exact h.rw i hi, h.ne⟩
  have e : (List.range t).map (fun i => Value.slice (ro i) (vals i).length (rc i)) = (List.range t).map (fun i => Value.slice (ro i) (vals' i).length (rc i)) := List.map_congr_left (fun i hi => by rw [he i (List.mem_range.1 hi)])
  rw [← e]
  exact h.li
theorem KL.nil0 (h : KL N w pb Cp lio lic t ro rc vals) {i : Nat} (hi : i < t) : ro i = none → (vals i).length = 0 ∧ rc i = 0 := fun e => by
  obtain ⟨_, ⟨h1, h2⟩ | ⟨_, _, _, h1, _⟩⟩ := (h.rw i hi).1
  · simp only [Value.slice.injEq] at h1
    exact ⟨h2, h1.2.2⟩
  · rw [e] at h1; simp at h1
end
theorem updZ_id {α : Type} (f : Nat → α) (i j : Nat) : updZ f i (f i) j = f j := by
  by_cases e : j = i
  · subst e; rw [updZ_same]
  · rw [updZ_ne e]
/-- a list that grows -/
structure GK (N : Nat) (w : World) (pb : Nat) (Cp : Array Value) (lio : Option Addr) (lic t : Nat) (ro : Nat → Option Addr) (rc : Nat → Nat) (vals : Nat → List Int) (i : Nat) (go : Option Addr) (gn gc : Nat) (ys : List Int) : Prop where
  kl : KL N w pb Cp lio lic t ro rc vals
  gr : OwZ N 3 w go gn gc (i64s (vals i ++ ys))
  wh : (go = ro i ∧ gc = rc i) ∨ (∀ j, j < t → ∀ g g', ro j = some g → go = some g' → g.block ≠ g'.block)
theorem GK.app {N : Nat} {w : World} {pb : Nat} {Cp : Array Value} {lio : Option Addr} {lic t : Nat} {ro : Nat → Option Addr} {rc : Nat → Nat} {vals : Nat → List Int} {i : Nat} {go : Option Addr} {gn gc : Nat} {ys : List Int} (h : GK N w pb Cp lio lic t ro rc vals i go gn gc ys) (hi : i < t) (hN : N ≤ w.heap.size) (a : Addr) (m cc : Nat) (zs : List Int) (hl : zs.length = m) (hz : ∀ j u, (i64s zs)[j]? = some u → w.cell? (a.add j) = some u) (hb : gn + m ≤ 100000000) (ty : TypeId) :
    ∃ v' w', (Builtin.append_ #[23, 23] ty #[.slice go gn gc, .slice (some a) m cc]).run Try.prog w = .ok v' w' ∧ ∃ go' gc', v' = .slice go' (gn + m) gc' ∧ Hid (GK N w' pb Cp lio lic t ro rc vals i go' (gn + m) gc' (ys ++ zs) ∧ RowKit.Below N w w' ∧ (∀ (k : Nat) (C : Array Value), w.heap[k]? = some (Obj.cells C 70 (0, 0)) → w'.heap[k]? = some (Obj.cells C 70 (0, 0)))) := by
  have hgn : (vals i ++ ys).length = gn := by have := h.gr.len; simpa [i64s] using this
  obtain ⟨v', w', hr, go', gc', rfl, ho, hc⟩ := appCZ h.gr hN a m cc (i64s zs) (by simp [i64s, hl]) hz (i64s_one zs) hb ty
  have ho' : OwZ N 3 w' go' (gn + m) gc' (i64s (vals i ++ (ys ++ zs))) := by
    rw [← List.append_assoc]
    simpa [i64s] using ho
  refine ⟨_, w', hr, go', gc', rfl, ?_⟩
  rcases hc with ⟨rfl, rfl, hf⟩ | ⟨hfr, hbl⟩
  · have hB : RowKit.Below N w w' := hf.below hN (fun k hk => by obtain ⟨g, hg, rfl⟩ := hk; exact (h.gr.lt g hg).1)
    have h64 : ∀ (k : Nat) (C : Array Value), w.heap[k]? = some (Obj.cells C 70 (0, 0)) → w'.heap[k]? = some (Obj.cells C 70 (0, 0)) := fun k C hk => (hf.block k (blk_ltZ hk) (fun hs => by
      obtain ⟨g, hg, e⟩ := hs
      obtain ⟨C', hC'⟩ := h.gr.ty g hg
      rw [e, hk] at hC'; cases hC')).trans hk
    rcases h.wh with ⟨e1, e2⟩ | hd
    · have htk : OwZ N 3 w' (ro i) (vals i).length (rc i) (i64s (vals i)) := by
        have h3 := ho'
        rw [i64s, List.map_append, e1, e2, show gn + m = (vals i).length + (ys.length + zs.length) by rw [← hgn, List.length_append, hl]; omega] at h3
        exact h3.takeZ (by simp) (h.kl.nil0 hi)
      have hkl := h.kl.upd hi (by rw [← e1]; exact hf) htk rfl
      exact ⟨⟨hkl.congr (fun j _ => updZ_id vals i j), ho', .inl ⟨e1, e2⟩⟩, hB, h64⟩
    · refine ⟨⟨⟨?_, h.kl.p4, ?_, fun j hj => ⟨?_, (h.kl.rw j hj).2⟩, h.kl.ne⟩, ho', .inr hd⟩, hB, h64⟩
      · exact (hf.block _ (blk_ltZ h.kl.pc) (fun hs => by
          obtain ⟨g, hg, e⟩ := hs
          obtain ⟨C', hC'⟩ := h.gr.ty g hg
          rw [e, h.kl.pc] at hC'; cases hC')).trans h.kl.pc
      · exact h.kl.li.kept (fun g hg => hf.block _ (h.kl.li.lt g hg).2 (fun hs => by
          obtain ⟨g', hg', e⟩ := hs
          obtain ⟨C', hC'⟩ := h.gr.ty g' hg'
          obtain ⟨C'', hC''⟩ := h.kl.li.ty g hg
          rw [e, hC''] at hC'; cases hC'))
      · exact (h.kl.rw j hj).1.kept (fun g hg => hf.block _ ((h.kl.rw j hj).1.lt g hg).2 (fun hs => by
          obtain ⟨g', hg', e⟩ := hs
          exact hd j hj g g' hg hg' e.symm))
  · refine ⟨⟨h.kl.kept hbl, ho', .inr (fun j hj g g' hg hg' e => ?_)⟩, hbl.mono hN, fun k C hk => (hbl.block k (blk_ltZ hk)).trans hk⟩
    have q1 := ((h.kl.rw j hj).1.lt g hg).2
    have q2 := hfr g' hg'
    omega
end Go.Proofs.Yteobmijfbjgccaa
