/-
  THE WALKS OF ask, the kinds 0 to 5, in one text.
-/
import Derived.Test.YtnjgaibcpcpmcabSAskH
namespace Go.Proofs.Ytnjgaibcpcpmcab
open Go.RowKit Go.Sort

set_option maxHeartbeats 20000000 in
set_option maxRecDepth 100000 in
theorem ask_0 : AskOK 0 := by
  intro w base SB X O lv wv xs ys Ms t r parts aA aB nA cA nB cB A B hS hlen hA hB hn hx hb
  have HS : Hid (Sh w base SB X O lv wv xs ys Ms) := hS
  have HA : Hid (Lst w aA nA cA A) := hA
  have HB : Hid (Lst w aB nB cB B) := hB
  have HLn : Hid (ys.length = xs.length) := hlen
  clear hS hA hB hlen
  go_enter Try.func15, Try.ntmps15
  go_wp2_with fail
  have HX0 : Hid (OBox (w.alloc (.cells #[.int .i64 0, .slice aA nA cA, .slice aB nB cB, .int .i64 t, .int .i64 r, .int .i64 parts] 49)) w.heap.size #[.int .i64 0, .slice aA nA cA, .slice aB nB cB, .int .i64 t, .int .i64 r, .int .i64 parts]) := heap_alloc_new _ _ rfl
  have HB0 : Hid (Below w.heap.size w (w.alloc (.cells #[.int .i64 0, .slice aA nA cA, .slice aB nB cB, .int .i64 t, .int .i64 r, .int .i64 parts] 49))) := below_alloc _ _
  have HZ0 : Hid ((w.alloc (.cells #[.int .i64 0, .slice aA nA cA, .slice aB nB cB, .int .i64 t, .int .i64 r, .int .i64 parts] 49)).heap.size = w.heap.size + 1) := World.size_alloc _ _
  generalize w.alloc (.cells #[.int .i64 0, .slice aA nA cA, .slice aB nB cB, .int .i64 t, .int .i64 r, .int .i64 parts] 49) = W0 at *
  obtain ⟨b0, hb0⟩ : ∃ b, b = w.heap.size := ⟨_, rfl⟩
  rw [← hb0] at HX0 ⊢
  have Hb0 : Hid (b0 = w.heap.size) := hb0
  clear hb0
  have HL0 : Hid (Lst W0 aA nA cA A ∧ Lst W0 aB nB cB B) := ⟨HA.out.kept HB0.out, HB.out.kept HB0.out⟩
  refine (lent_l W0 aA nA cA A HL0.out.1 (by omega)).mono ?_
  rintro e W1 ⟨a1, c1, rfl, hl1, hb1⟩
  have HT1 : Hid (Lent W1 W0.heap.size a1 nA c1 aA A ∧ Below W0.heap.size W0 W1) := ⟨hl1, hb1⟩
  have HX1 : Hid (OBox W1 b0 #[.int .i64 0, .slice aA nA cA, .slice aB nB cB, .int .i64 t, .int .i64 r, .int .i64 parts]) := HX0.out.below hb1
  have c2 := HX1.out.cell 2 _ rfl
  clear hl1 hb1
  go_wp2_with fail
  refine (lent_l W1 aB nB cB B (HL0.out.2.kept HT1.out.2) (by omega)).mono ?_
  rintro e W2 ⟨a2, c2', rfl, hl2, hb2⟩
  have HT2 : Hid (Lent W2 W1.heap.size a2 nB c2' aB B ∧ Below W1.heap.size W1 W2) := ⟨hl2, hb2⟩
  have HT1' : Hid (Lent W2 W0.heap.size a1 nA c1 aA A) := HT1.out.1.kept hb2
  have HX2 : Hid (OBox W2 b0 #[.int .i64 0, .slice aA nA cA, .slice aB nB cB, .int .i64 t, .int .i64 r, .int .i64 parts]) := HX1.out.below hb2
  have Hw2 : Hid (Below w.heap.size w W2) := HB0.out.trans ((HT1.out.2.trans (hb2.mono HT1.out.2.size)).mono HB0.out.size)
  have HL2 : Hid (Lst W2 aA nA cA A ∧ Lst W2 aB nB cB B) := ⟨HA.out.kept Hw2.out, HB.out.kept Hw2.out⟩
  have k0 := HX2.out.cell 0 _ rfl
  clear hl2 hb2 c2 HX0 HX1 HL0
  have HLw : Hid (∀ a, B ≠ [] → aB = some a → a.block < w.heap.size) := HB.out.at_.lt
  have HXc : Hid (∀ W, Below W2.heap.size W2 W → W.cell? ⟨b0, 1, none⟩ = some (.slice aA nA cA) ∧ W.cell? ⟨b0, 2, none⟩ = some (.slice aB nB cB) ∧ W.cell? ⟨b0, 3, none⟩ = some (.int .i64 t) ∧ W.cell? ⟨b0, 4, none⟩ = some (.int .i64 r)) := fun W hW => ⟨(HX2.out.below hW).cell 1 _ rfl, (HX2.out.below hW).cell 2 _ rfl, (HX2.out.below hW).cell 3 _ rfl, (HX2.out.below hW).cell 4 _ rfl⟩
  have k1 := HX2.out.cell 1 _ rfl
  have k3 := HX2.out.cell 3 _ rfl
  have k4 := HX2.out.cell 4 _ rfl
  have mx := mixed
  have HR1 : Hid (∀ n os, Calls Try.prog 25 #[.slice a1 nA c1] (grow (W2.drewN n) os) fun e w' => e = .returned (.bool (decide (Rise A))) ∧ ∃ q os', w' = grow ((grow (W2.drewN n) os).drewN q) os') := fun n os => rises_any _ a1 c1 nA A HT1'.out.lst.len (HT1'.out.lst.at_.grew ⟨n, os, rfl⟩) (by omega)
  have HR2 : Hid (∀ n os, Calls Try.prog 26 #[.slice aA nA cA] (grow (W2.drewN n) os) fun e w' => e = .returned (.bool (decide (Rise A))) ∧ ∃ q os', w' = grow ((grow (W2.drewN n) os).drewN q) os') := fun n os => refRises_any _ aA cA nA A HL2.out.1.len (HL2.out.1.at_.grew ⟨n, os, rfl⟩) (by omega)
  generalize decide (Rise A) = bb at *
  have g1 : ∀ n os, (grow (W2.drewN n) os).cell? ⟨b0, 1, none⟩ = some (.slice aA nA cA) := fun n os => Grew.cell ⟨n, os, rfl⟩ k1
  clear k1 k3 k4
  go_wp2_with fail
  refine wp_region_quiet_grown mx (by kernel_rfl) ?_
  repeat (go_big_quiet_step (first | (go_at_call 25; exact Calls.grown_of (HR1.out _ _)) | (go_at_call 26; exact Calls.grown_of (HR2.out _ _))))
  refine wpQuiet_nil ?_
  intro _ hw'
  obtain ⟨⟨nq, osq⟩, hw''⟩ := hw'
  subst hw''
  have HE : Hid (Got W2 (grow (W2.drewN nq) osq) (nA + nB) (.slice none 0 0) (.slice none 0 0) []) := Got.nil _ (Grew.below ⟨nq, osq, rfl⟩)
  generalize grow (W2.drewN nq) osq = W4 at *
  generalize ([] : List K) = MM at HE
  clear HR1 HR2
  obtain ⟨k1, k2, _, _⟩ := HXc.out _ HE.out.bel
  go_wp2_with fail
  refine (back_l W4 W0.heap.size nA c1 cA a1 aA A (HT1'.out.kept HE.out.bel) (HL2.out.1.kept HE.out.bel) (by omega)).mono ?_
  rintro e W5 ⟨rfl, hg5⟩
  have HS5 : Hid (St5 w base SB X O lv wv xs ys Ms W0 W1 W2 W5 a1 a2 aB b0 nB c2' cB nA B #[.int .i64 0, .slice aA nA cA, .slice aB nB cB, .int .i64 t, .int .i64 r, .int .i64 parts] (.slice none 0 0) (.slice none 0 0) MM) := St5.one HS.out Hb0.out HB0.out HT1.out.2 HT2.out HT1'.out HX2.out HL2.out.2 HE.out HZ0.out HLw.out hg5 (fun x hx => (HT1.out.1.lt x hx).2)
  have k2' := HS5.out.box.cell 2 _ rfl
  clear hg5 k1 k2
  go_wp2_with fail
  refine (back_l W5 W1.heap.size nB c2' cB a2 aB B HS5.out.lent HS5.out.lst (by omega)).mono ?_
  rintro e W6 ⟨rfl, hg6⟩
  have HS6 : Hid (Sh W6 base SB X O lv wv xs ys Ms ∧ OwnK W6 W2.heap.size (.slice none 0 0) MM ∧ OwnK W6 W2.heap.size (.slice none 0 0) MM ∧ Below w.heap.size w W6 ∧ W2.heap.size ≤ W6.heap.size) := HS5.out.two HT2.out.1 hg6
  have HNe : Hid ((∀ b, ((.slice none 0 0) : Value).ownBlock = some b → ((.slice none 0 0) : Value).ownBlock ≠ some b) ∧ MM.length ≤ nA + nB) := ⟨HE.out.ne, HE.out.len⟩
  obtain ⟨s0, s1⟩ := HS6.out.1.cells
  clear hg6 k2' HS5 HE
  have hbw : base ≤ W6.heap.size := by have h1 := HS6.out.2.2.2.1.size; omega
  have hb2 : base ≤ W2.heap.size := by have h1 := Hw2.out.size; omega
  have HFr : Hid (∀ b, W2.heap.size ≤ b → O b = none) := fun b h => HS.out.fresh b (by have h1 := Hw2.out.size; omega)
  have HS6a : Hid (Sh (W6.alloc (.cells #[(.slice none 0 0)] 29)) base SB X O lv wv xs ys Ms ∧ OwnK (W6.alloc (.cells #[(.slice none 0 0)] 29)) W2.heap.size (.slice none 0 0) MM ∧ OwnK (W6.alloc (.cells #[(.slice none 0 0)] 29)) W2.heap.size (.slice none 0 0) MM ∧ Below base w (W6.alloc (.cells #[(.slice none 0 0)] 29))) := ⟨HS6.out.1.below (below_alloc _ _), HS6.out.2.1.kept (below_alloc _ _), HS6.out.2.2.1.kept (below_alloc _ _), (HS6.out.2.2.2.1.mono hb).trans ((below_alloc _ _).mono hbw)⟩
  go_wp2_with (at_builtin; refine wpList_append_rows rfl _ _ rfl base lv xs rfl HS6a.out.1.lists _ (.slice none 0 0) rfl (cell_new1 _ _ _) rfl (by omega) (by simp only [World.size_alloc]; omega) ?_; intro v7 w7 h7 hg7 hat7; obtain ⟨⟨r0, r1⟩, f0, f1⟩ := HS6a.out.1.row1 hg7; obtain ⟨a7, c7, hv7⟩ := rows_shape h7; have HS7 : Hid ((∃ O', Sh (w7.setCell ⟨SB, 0, none⟩ v7) base SB X O' v7 wv (xs ++ [(.slice none 0 0)]) ys (fun j => if j = xs.length then MM else Ms j) ∧ ∀ b, (((.slice none 0 0) : Value).ownBlock = some b ∨ (w7.setCell ⟨SB, 0, none⟩ v7).heap.size ≤ b) → O' b = none) ∧ OwnK (w7.setCell ⟨SB, 0, none⟩ v7) W2.heap.size (.slice none 0 0) MM ∧ OwnK (w7.setCell ⟨SB, 0, none⟩ v7) W2.heap.size (.slice none 0 0) MM ∧ Below base w (w7.setCell ⟨SB, 0, none⟩ v7)) := putX_all HS6a.out.1 HLn.out HS6a.out.2.1 HS6a.out.2.2.1 HFr.out hb2 HNe.out.1 HS6a.out.2.2.2 h7 hg7 hat7; clear h7 hg7 hat7; rw [List.length_append, List.length_singleton] at hv7; subst hv7)
  generalize w7.setCell ⟨SB, 0, none⟩ (.slice a7 (xs.length + 1) c7) = W7 at *
  obtain ⟨⟨O7, hO7, hf7⟩, hG7, hH7, hB7⟩ := HS7.out
  have HQ7 : Hid (Sh W7 base SB X O7 (.slice a7 (xs.length + 1) c7) wv (xs ++ [(.slice none 0 0)]) ys (fun j => if j = xs.length then MM else Ms j) ∧ (∀ b, (((.slice none 0 0) : Value).ownBlock = some b ∨ W7.heap.size ≤ b) → O7 b = none) ∧ OwnK W7 W2.heap.size (.slice none 0 0) MM ∧ OwnK W7 W2.heap.size (.slice none 0 0) MM ∧ Below base w W7) := ⟨hO7, hf7, hG7, hH7, hB7⟩
  obtain ⟨r0', r1'⟩ := hO7.cells
  clear hO7 hf7 hG7 hH7 hB7 HS7 HS6 HS6a r0 r1 f0 f1 s0 s1 HX2 HXc HT1 HT1' HT2 HL2 Hb0 HB0 HZ0 HA HB HLw
  have hb7 : base ≤ W7.heap.size := by have h1 := HQ7.out.2.2.2.2.size; omega
  have HLH : Hid (∀ W, Below W7.heap.size W7 W → Lst W none 0 0 MM) := fun W hW => own_lst2 (HQ7.out.2.2.2.1.kept hW)
  have hnw : 0 ≤ 2097152 := by have h1 := HNe.out.2; have h2 := (HLH.out W7 (Below.refl _ _)).len; omega
  have HDr : Hid (Below W7.heap.size W7 W7.drew) := ⟨rfl, rfl, rfl, Nat.le_refl _, fun _ _ => rfl⟩
  go_cut [] (fun wx => Hid (∃ O' v9 e9, Sh wx base SB X O' (.slice a7 (xs.length + 1) c7) v9 (xs ++ [(.slice none 0 0)]) (ys ++ [e9]) (fun j => if j = xs.length then MM else Ms j) ∧ OwnK wx W2.heap.size (.slice none 0 0) MM ∧ OwnK wx W2.heap.size (.slice none 0 0) MM ∧ Below base w wx))
  case first =>
    go_region_law (first | (refine step_append_rows rfl _ _ rfl base wv ys rfl ((HQ7.out.1.below HB8.out).below (below_alloc _ _)).want _ (.slice a8 n8 c8) rfl (cell_new1 _ _ _) rfl (by rw [HLn.out]; omega) (by have h1 := HB8.out.size; simp only [World.size_alloc]; omega) ?_; intro v9 w9 h9 hg9 hat9; obtain ⟨⟨q2, q3⟩, f0, f1⟩ := ((HQ7.out.1.below HB8.out).below (below_alloc _ _)).row2 hg9; obtain ⟨a9, c9, hv9⟩ := rows_shape h9; have HS9 : Hid (∃ O' v9' e9, Sh (w9.setCell ⟨SB, 1, none⟩ v9) base SB X O' (.slice a7 (xs.length + 1) c7) v9' (xs ++ [(.slice none 0 0)]) (ys ++ [e9]) (fun j => if j = xs.length then MM else Ms j) ∧ OwnK (w9.setCell ⟨SB, 1, none⟩ v9) W2.heap.size (.slice none 0 0) MM ∧ OwnK (w9.setCell ⟨SB, 1, none⟩ v9) W2.heap.size (.slice none 0 0) MM ∧ Below base w (w9.setCell ⟨SB, 1, none⟩ v9)) := putY_all HLn.out HQ7.out.1 HQ7.out.2.1 HQ7.out.2.2.1 HQ7.out.2.2.2.1 HQ7.out.2.2.2.2 hb7 HB8.out HO8.out h9 hg9 hat9; clear h9 hg9 hat9; rw [List.length_append, List.length_singleton] at hv9; subst hv9) | (go_simp; (go_at_call 37; go_loud (refine (copiedK_any _ none 0 0 MM (HLH.out _ HDr.out).len (HLH.out _ HDr.out).at_ (HLH.out _ HDr.out).nil (by omega)).mono ?_; rintro e w8 ⟨v8, rfl, ho8, hb8⟩; have HB8 : Hid (Below W7.heap.size W7 w8) := HDr.out.trans hb8; have HO8 : Hid (OwnK w8 W7.heap.size v8 MM) := ho8; clear ho8 hb8; obtain ⟨a8, n8, c8, hv8⟩ := own_lst HO8.out; subst hv8; obtain ⟨q0, q1⟩ := (HQ7.out.1.below HB8.out).cells; have q1a : (w8.alloc (.cells #[.slice a8 n8 c8] 29)).cell? ⟨SB, 1, none⟩ = some wv := Grew.cell ((Grew.refl _).alloc _) q1))))
    all_goals go_wp2_with fail
    all_goals go_meet
    all_goals exact HS9
  case rest =>
    obtain ⟨O9, v9, e9, h9⟩ := hcut.out
    have HZ : Hid (Sh wc base SB X O9 (.slice a7 (xs.length + 1) c7) v9 (xs ++ [(.slice none 0 0)]) (ys ++ [e9]) (fun j => if j = xs.length then MM else Ms j) ∧ OwnK wc W2.heap.size (.slice none 0 0) MM ∧ OwnK wc W2.heap.size (.slice none 0 0) MM ∧ Below base w wc) := h9
    clear h9 hcut HLH HDr HQ7 r0' r1'
    have HLz : Hid (Lst wc none 0 0 MM ∧ Lst wc none 0 0 MM) := ⟨own_lst2 HZ.out.2.1, own_lst2 HZ.out.2.2.1⟩
    have hng : 0 ≤ 2097152 := by have h1 := HNe.out.2; have h2 := HLz.out.1.len; omega
    go_wp2_with fail
    refine (num_any' _ _).mono ?_
    rintro e w' ⟨rfl, rfl⟩
    go_wp2_with fail
    refine (num_any' _ _).mono ?_
    rintro e w' ⟨rfl, rfl⟩
    go_wp2_with fail
    refine (sameKeys_any wc none none 0 0 0 0 MM MM HLz.out.1 HLz.out.2 (by omega) (by omega)).mono ?_
    rintro e w' ⟨he, q, rfl⟩
    rw [decide_eq_true rfl] at he
    subst he
    have HFin : Hid ((∃ O' lv' wv' xs' ys' Ms', Sh (wc.drewN q) base SB X O' lv' wv' xs' ys' Ms' ∧ ys'.length = xs'.length ∧ (∃ g, xs' = xs ++ [g]) ∧ ∃ M : List K, M.length ≤ nA + nB ∧ ∀ j, Ms' j = if j = xs.length then M else Ms j) ∧ Below base w (wc.drewN q)) := by
      have hd : Below wc.heap.size wc (wc.drewN q) := ⟨rfl, rfl, rfl, Nat.le_refl _, fun _ _ => rfl⟩
      refine ⟨⟨_, _, _, _, _, _, HZ.out.1.below hd, by have h1 := HLn.out; simp; omega, ⟨_, rfl⟩, MM, HNe.out.2, fun j => rfl⟩, HZ.out.2.2.2.trans (hd.mono (by have h1 := HZ.out.2.2.2.size; omega))⟩
    clear HZ HLz
    go_wp2
    go_ret
    exact ⟨rfl, HFin.out.1, HFin.out.2⟩


set_option maxHeartbeats 20000000 in
set_option maxRecDepth 100000 in
theorem ask_1 : AskOK 1 := by
  intro w base SB X O lv wv xs ys Ms t r parts aA aB nA cA nB cB A B hS hlen hA hB hn hx hb
  have HS : Hid (Sh w base SB X O lv wv xs ys Ms) := hS
  have HA : Hid (Lst w aA nA cA A) := hA
  have HB : Hid (Lst w aB nB cB B) := hB
  have HLn : Hid (ys.length = xs.length) := hlen
  clear hS hA hB hlen
  go_enter Try.func15, Try.ntmps15
  go_wp2_with fail
  have HX0 : Hid (OBox (w.alloc (.cells #[.int .i64 1, .slice aA nA cA, .slice aB nB cB, .int .i64 t, .int .i64 r, .int .i64 parts] 49)) w.heap.size #[.int .i64 1, .slice aA nA cA, .slice aB nB cB, .int .i64 t, .int .i64 r, .int .i64 parts]) := heap_alloc_new _ _ rfl
  have HB0 : Hid (Below w.heap.size w (w.alloc (.cells #[.int .i64 1, .slice aA nA cA, .slice aB nB cB, .int .i64 t, .int .i64 r, .int .i64 parts] 49))) := below_alloc _ _
  have HZ0 : Hid ((w.alloc (.cells #[.int .i64 1, .slice aA nA cA, .slice aB nB cB, .int .i64 t, .int .i64 r, .int .i64 parts] 49)).heap.size = w.heap.size + 1) := World.size_alloc _ _
  generalize w.alloc (.cells #[.int .i64 1, .slice aA nA cA, .slice aB nB cB, .int .i64 t, .int .i64 r, .int .i64 parts] 49) = W0 at *
  obtain ⟨b0, hb0⟩ : ∃ b, b = w.heap.size := ⟨_, rfl⟩
  rw [← hb0] at HX0 ⊢
  have Hb0 : Hid (b0 = w.heap.size) := hb0
  clear hb0
  have HL0 : Hid (Lst W0 aA nA cA A ∧ Lst W0 aB nB cB B) := ⟨HA.out.kept HB0.out, HB.out.kept HB0.out⟩
  refine (lent_l W0 aA nA cA A HL0.out.1 (by omega)).mono ?_
  rintro e W1 ⟨a1, c1, rfl, hl1, hb1⟩
  have HT1 : Hid (Lent W1 W0.heap.size a1 nA c1 aA A ∧ Below W0.heap.size W0 W1) := ⟨hl1, hb1⟩
  have HX1 : Hid (OBox W1 b0 #[.int .i64 1, .slice aA nA cA, .slice aB nB cB, .int .i64 t, .int .i64 r, .int .i64 parts]) := HX0.out.below hb1
  have c2 := HX1.out.cell 2 _ rfl
  clear hl1 hb1
  go_wp2_with fail
  refine (lent_l W1 aB nB cB B (HL0.out.2.kept HT1.out.2) (by omega)).mono ?_
  rintro e W2 ⟨a2, c2', rfl, hl2, hb2⟩
  have HT2 : Hid (Lent W2 W1.heap.size a2 nB c2' aB B ∧ Below W1.heap.size W1 W2) := ⟨hl2, hb2⟩
  have HT1' : Hid (Lent W2 W0.heap.size a1 nA c1 aA A) := HT1.out.1.kept hb2
  have HX2 : Hid (OBox W2 b0 #[.int .i64 1, .slice aA nA cA, .slice aB nB cB, .int .i64 t, .int .i64 r, .int .i64 parts]) := HX1.out.below hb2
  have Hw2 : Hid (Below w.heap.size w W2) := HB0.out.trans ((HT1.out.2.trans (hb2.mono HT1.out.2.size)).mono HB0.out.size)
  have HL2 : Hid (Lst W2 aA nA cA A ∧ Lst W2 aB nB cB B) := ⟨HA.out.kept Hw2.out, HB.out.kept Hw2.out⟩
  have k0 := HX2.out.cell 0 _ rfl
  clear hl2 hb2 c2 HX0 HX1 HL0
  have HLw : Hid (∀ a, B ≠ [] → aB = some a → a.block < w.heap.size) := HB.out.at_.lt
  have HXc : Hid (∀ W, Below W2.heap.size W2 W → W.cell? ⟨b0, 1, none⟩ = some (.slice aA nA cA) ∧ W.cell? ⟨b0, 2, none⟩ = some (.slice aB nB cB) ∧ W.cell? ⟨b0, 3, none⟩ = some (.int .i64 t) ∧ W.cell? ⟨b0, 4, none⟩ = some (.int .i64 r)) := fun W hW => ⟨(HX2.out.below hW).cell 1 _ rfl, (HX2.out.below hW).cell 2 _ rfl, (HX2.out.below hW).cell 3 _ rfl, (HX2.out.below hW).cell 4 _ rfl⟩
  have k1 := HX2.out.cell 1 _ rfl
  have k3 := HX2.out.cell 3 _ rfl
  have k4 := HX2.out.cell 4 _ rfl
  go_wp2_with fail
  refine (sort_r W2 a1 nA c1 A HT1'.out.lst HT1'.out.flat (by omega)).mono ?_
  rintro e W3 ⟨ag, ng, cg, rfl, ho, hb3⟩
  have HB3 : Hid (Below W2.heap.size W2 W3 ∧ OwnK W3 W2.heap.size (.slice ag ng cg) (resS A)) := ⟨hb3, ho.out⟩
  clear k1 k3 k4
  obtain ⟨k1, k2, _, _⟩ := HXc.out _ hb3
  clear ho hb3
  have HRf : Hid (Calls Try.prog 27 #[.slice aA nA cA] W3 fun e w' => ∃ a n c, e = .returned (.tuple #[.slice a n c, .int .i64 (codeS A)]) ∧ Hid (OwnK w' W3.heap.size (.slice a n c) (resS A)) ∧ Below W3.heap.size W3 w') := refSort_r W3 aA nA cA A (HL2.out.1.kept HB3.out.1) (by omega)
  have HMl : Hid ((resS A).length ≤ nA + nB) := by have := resS_len A; have := HL2.out.1.len; rw [Hid]; omega
  generalize resS A = MM at *
  generalize codeS A = cc at *
  go_wp2_with fail
  refine HRf.out.mono ?_
  rintro e W4 ⟨aw, nw, cw, rfl, ho4, hb4⟩
  have HE : Hid (Got W2 W4 (nA + nB) (.slice ag ng cg) (.slice aw nw cw) MM) := Got.two HB3.out.2 HB3.out.1 ho4.out hb4 HMl.out
  clear ho4 hb4 HRf HB3 HMl k1 k2
  obtain ⟨k1, k2, _, _⟩ := HXc.out _ HE.out.bel
  go_wp2_with fail
  refine (back_l W4 W0.heap.size nA c1 cA a1 aA A (HT1'.out.kept HE.out.bel) (HL2.out.1.kept HE.out.bel) (by omega)).mono ?_
  rintro e W5 ⟨rfl, hg5⟩
  have HS5 : Hid (St5 w base SB X O lv wv xs ys Ms W0 W1 W2 W5 a1 a2 aB b0 nB c2' cB nA B #[.int .i64 1, .slice aA nA cA, .slice aB nB cB, .int .i64 t, .int .i64 r, .int .i64 parts] (.slice ag ng cg) (.slice aw nw cw) MM) := St5.one HS.out Hb0.out HB0.out HT1.out.2 HT2.out HT1'.out HX2.out HL2.out.2 HE.out HZ0.out HLw.out hg5 (fun x hx => (HT1.out.1.lt x hx).2)
  have k2' := HS5.out.box.cell 2 _ rfl
  clear hg5 k1 k2
  go_wp2_with fail
  refine (back_l W5 W1.heap.size nB c2' cB a2 aB B HS5.out.lent HS5.out.lst (by omega)).mono ?_
  rintro e W6 ⟨rfl, hg6⟩
  have HS6 : Hid (Sh W6 base SB X O lv wv xs ys Ms ∧ OwnK W6 W2.heap.size (.slice ag ng cg) MM ∧ OwnK W6 W2.heap.size (.slice aw nw cw) MM ∧ Below w.heap.size w W6 ∧ W2.heap.size ≤ W6.heap.size) := HS5.out.two HT2.out.1 hg6
  have HNe : Hid ((∀ b, ((.slice ag ng cg) : Value).ownBlock = some b → ((.slice aw nw cw) : Value).ownBlock ≠ some b) ∧ MM.length ≤ nA + nB) := ⟨HE.out.ne, HE.out.len⟩
  obtain ⟨s0, s1⟩ := HS6.out.1.cells
  clear hg6 k2' HS5 HE
  have hbw : base ≤ W6.heap.size := by have h1 := HS6.out.2.2.2.1.size; omega
  have hb2 : base ≤ W2.heap.size := by have h1 := Hw2.out.size; omega
  have HFr : Hid (∀ b, W2.heap.size ≤ b → O b = none) := fun b h => HS.out.fresh b (by have h1 := Hw2.out.size; omega)
  have HS6a : Hid (Sh (W6.alloc (.cells #[(.slice ag ng cg)] 29)) base SB X O lv wv xs ys Ms ∧ OwnK (W6.alloc (.cells #[(.slice ag ng cg)] 29)) W2.heap.size (.slice ag ng cg) MM ∧ OwnK (W6.alloc (.cells #[(.slice ag ng cg)] 29)) W2.heap.size (.slice aw nw cw) MM ∧ Below base w (W6.alloc (.cells #[(.slice ag ng cg)] 29))) := ⟨HS6.out.1.below (below_alloc _ _), HS6.out.2.1.kept (below_alloc _ _), HS6.out.2.2.1.kept (below_alloc _ _), (HS6.out.2.2.2.1.mono hb).trans ((below_alloc _ _).mono hbw)⟩
  go_wp2_with (at_builtin; refine wpList_append_rows rfl _ _ rfl base lv xs rfl HS6a.out.1.lists _ (.slice ag ng cg) rfl (cell_new1 _ _ _) rfl (by omega) (by simp only [World.size_alloc]; omega) ?_; intro v7 w7 h7 hg7 hat7; obtain ⟨⟨r0, r1⟩, f0, f1⟩ := HS6a.out.1.row1 hg7; obtain ⟨a7, c7, hv7⟩ := rows_shape h7; have HS7 : Hid ((∃ O', Sh (w7.setCell ⟨SB, 0, none⟩ v7) base SB X O' v7 wv (xs ++ [(.slice ag ng cg)]) ys (fun j => if j = xs.length then MM else Ms j) ∧ ∀ b, (((.slice aw nw cw) : Value).ownBlock = some b ∨ (w7.setCell ⟨SB, 0, none⟩ v7).heap.size ≤ b) → O' b = none) ∧ OwnK (w7.setCell ⟨SB, 0, none⟩ v7) W2.heap.size (.slice ag ng cg) MM ∧ OwnK (w7.setCell ⟨SB, 0, none⟩ v7) W2.heap.size (.slice aw nw cw) MM ∧ Below base w (w7.setCell ⟨SB, 0, none⟩ v7)) := putX_all HS6a.out.1 HLn.out HS6a.out.2.1 HS6a.out.2.2.1 HFr.out hb2 HNe.out.1 HS6a.out.2.2.2 h7 hg7 hat7; clear h7 hg7 hat7; rw [List.length_append, List.length_singleton] at hv7; subst hv7)
  generalize w7.setCell ⟨SB, 0, none⟩ (.slice a7 (xs.length + 1) c7) = W7 at *
  obtain ⟨⟨O7, hO7, hf7⟩, hG7, hH7, hB7⟩ := HS7.out
  have HQ7 : Hid (Sh W7 base SB X O7 (.slice a7 (xs.length + 1) c7) wv (xs ++ [(.slice ag ng cg)]) ys (fun j => if j = xs.length then MM else Ms j) ∧ (∀ b, (((.slice aw nw cw) : Value).ownBlock = some b ∨ W7.heap.size ≤ b) → O7 b = none) ∧ OwnK W7 W2.heap.size (.slice ag ng cg) MM ∧ OwnK W7 W2.heap.size (.slice aw nw cw) MM ∧ Below base w W7) := ⟨hO7, hf7, hG7, hH7, hB7⟩
  obtain ⟨r0', r1'⟩ := hO7.cells
  clear hO7 hf7 hG7 hH7 hB7 HS7 HS6 HS6a r0 r1 f0 f1 s0 s1 HX2 HXc HT1 HT1' HT2 HL2 Hb0 HB0 HZ0 HA HB HLw
  have hb7 : base ≤ W7.heap.size := by have h1 := HQ7.out.2.2.2.2.size; omega
  have HLH : Hid (∀ W, Below W7.heap.size W7 W → Lst W aw nw cw MM) := fun W hW => own_lst2 (HQ7.out.2.2.2.1.kept hW)
  have hnw : nw ≤ 2097152 := by have h1 := HNe.out.2; have h2 := (HLH.out W7 (Below.refl _ _)).len; omega
  have HDr : Hid (Below W7.heap.size W7 W7.drew) := ⟨rfl, rfl, rfl, Nat.le_refl _, fun _ _ => rfl⟩
  go_cut [] (fun wx => Hid (∃ O' v9 e9, Sh wx base SB X O' (.slice a7 (xs.length + 1) c7) v9 (xs ++ [(.slice ag ng cg)]) (ys ++ [e9]) (fun j => if j = xs.length then MM else Ms j) ∧ OwnK wx W2.heap.size (.slice ag ng cg) MM ∧ OwnK wx W2.heap.size (.slice aw nw cw) MM ∧ Below base w wx))
  case first =>
    go_region_law (first | (refine step_append_rows rfl _ _ rfl base wv ys rfl ((HQ7.out.1.below HB8.out).below (below_alloc _ _)).want _ (.slice a8 n8 c8) rfl (cell_new1 _ _ _) rfl (by rw [HLn.out]; omega) (by have h1 := HB8.out.size; simp only [World.size_alloc]; omega) ?_; intro v9 w9 h9 hg9 hat9; obtain ⟨⟨q2, q3⟩, f0, f1⟩ := ((HQ7.out.1.below HB8.out).below (below_alloc _ _)).row2 hg9; obtain ⟨a9, c9, hv9⟩ := rows_shape h9; have HS9 : Hid (∃ O' v9' e9, Sh (w9.setCell ⟨SB, 1, none⟩ v9) base SB X O' (.slice a7 (xs.length + 1) c7) v9' (xs ++ [(.slice ag ng cg)]) (ys ++ [e9]) (fun j => if j = xs.length then MM else Ms j) ∧ OwnK (w9.setCell ⟨SB, 1, none⟩ v9) W2.heap.size (.slice ag ng cg) MM ∧ OwnK (w9.setCell ⟨SB, 1, none⟩ v9) W2.heap.size (.slice aw nw cw) MM ∧ Below base w (w9.setCell ⟨SB, 1, none⟩ v9)) := putY_all HLn.out HQ7.out.1 HQ7.out.2.1 HQ7.out.2.2.1 HQ7.out.2.2.2.1 HQ7.out.2.2.2.2 hb7 HB8.out HO8.out h9 hg9 hat9; clear h9 hg9 hat9; rw [List.length_append, List.length_singleton] at hv9; subst hv9) | (go_simp; (go_at_call 37; go_loud (refine (copiedK_any _ aw cw nw MM (HLH.out _ HDr.out).len (HLH.out _ HDr.out).at_ (HLH.out _ HDr.out).nil (by omega)).mono ?_; rintro e w8 ⟨v8, rfl, ho8, hb8⟩; have HB8 : Hid (Below W7.heap.size W7 w8) := HDr.out.trans hb8; have HO8 : Hid (OwnK w8 W7.heap.size v8 MM) := ho8; clear ho8 hb8; obtain ⟨a8, n8, c8, hv8⟩ := own_lst HO8.out; subst hv8; obtain ⟨q0, q1⟩ := (HQ7.out.1.below HB8.out).cells; have q1a : (w8.alloc (.cells #[.slice a8 n8 c8] 29)).cell? ⟨SB, 1, none⟩ = some wv := Grew.cell ((Grew.refl _).alloc _) q1))))
    all_goals go_wp2_with fail
    all_goals go_meet
    all_goals exact HS9
  case rest =>
    obtain ⟨O9, v9, e9, h9⟩ := hcut.out
    have HZ : Hid (Sh wc base SB X O9 (.slice a7 (xs.length + 1) c7) v9 (xs ++ [(.slice ag ng cg)]) (ys ++ [e9]) (fun j => if j = xs.length then MM else Ms j) ∧ OwnK wc W2.heap.size (.slice ag ng cg) MM ∧ OwnK wc W2.heap.size (.slice aw nw cw) MM ∧ Below base w wc) := h9
    clear h9 hcut HLH HDr HQ7 r0' r1'
    have HLz : Hid (Lst wc ag ng cg MM ∧ Lst wc aw nw cw MM) := ⟨own_lst2 HZ.out.2.1, own_lst2 HZ.out.2.2.1⟩
    have hng : ng ≤ 2097152 := by have h1 := HNe.out.2; have h2 := HLz.out.1.len; omega
    go_wp2_with fail
    refine (num_any' _ _).mono ?_
    rintro e w' ⟨rfl, rfl⟩
    go_wp2_with fail
    refine (num_any' _ _).mono ?_
    rintro e w' ⟨rfl, rfl⟩
    go_wp2_with fail
    refine (sameKeys_any wc ag aw ng cg nw cw MM MM HLz.out.1 HLz.out.2 (by omega) (by omega)).mono ?_
    rintro e w' ⟨he, q, rfl⟩
    rw [decide_eq_true rfl] at he
    subst he
    have HFin : Hid ((∃ O' lv' wv' xs' ys' Ms', Sh (wc.drewN q) base SB X O' lv' wv' xs' ys' Ms' ∧ ys'.length = xs'.length ∧ (∃ g, xs' = xs ++ [g]) ∧ ∃ M : List K, M.length ≤ nA + nB ∧ ∀ j, Ms' j = if j = xs.length then M else Ms j) ∧ Below base w (wc.drewN q)) := by
      have hd : Below wc.heap.size wc (wc.drewN q) := ⟨rfl, rfl, rfl, Nat.le_refl _, fun _ _ => rfl⟩
      refine ⟨⟨_, _, _, _, _, _, HZ.out.1.below hd, by have h1 := HLn.out; simp; omega, ⟨_, rfl⟩, MM, HNe.out.2, fun j => rfl⟩, HZ.out.2.2.2.trans (hd.mono (by have h1 := HZ.out.2.2.2.size; omega))⟩
    clear HZ HLz
    go_wp2
    go_ret
    exact ⟨rfl, HFin.out.1, HFin.out.2⟩


set_option maxHeartbeats 20000000 in
set_option maxRecDepth 100000 in
theorem ask_2 : AskOK 2 := by
  intro w base SB X O lv wv xs ys Ms t r parts aA aB nA cA nB cB A B hS hlen hA hB hn hx hb
  have HS : Hid (Sh w base SB X O lv wv xs ys Ms) := hS
  have HA : Hid (Lst w aA nA cA A) := hA
  have HB : Hid (Lst w aB nB cB B) := hB
  have HLn : Hid (ys.length = xs.length) := hlen
  clear hS hA hB hlen
  go_enter Try.func15, Try.ntmps15
  go_wp2_with fail
  have HX0 : Hid (OBox (w.alloc (.cells #[.int .i64 2, .slice aA nA cA, .slice aB nB cB, .int .i64 t, .int .i64 r, .int .i64 parts] 49)) w.heap.size #[.int .i64 2, .slice aA nA cA, .slice aB nB cB, .int .i64 t, .int .i64 r, .int .i64 parts]) := heap_alloc_new _ _ rfl
  have HB0 : Hid (Below w.heap.size w (w.alloc (.cells #[.int .i64 2, .slice aA nA cA, .slice aB nB cB, .int .i64 t, .int .i64 r, .int .i64 parts] 49))) := below_alloc _ _
  have HZ0 : Hid ((w.alloc (.cells #[.int .i64 2, .slice aA nA cA, .slice aB nB cB, .int .i64 t, .int .i64 r, .int .i64 parts] 49)).heap.size = w.heap.size + 1) := World.size_alloc _ _
  generalize w.alloc (.cells #[.int .i64 2, .slice aA nA cA, .slice aB nB cB, .int .i64 t, .int .i64 r, .int .i64 parts] 49) = W0 at *
  obtain ⟨b0, hb0⟩ : ∃ b, b = w.heap.size := ⟨_, rfl⟩
  rw [← hb0] at HX0 ⊢
  have Hb0 : Hid (b0 = w.heap.size) := hb0
  clear hb0
  have HL0 : Hid (Lst W0 aA nA cA A ∧ Lst W0 aB nB cB B) := ⟨HA.out.kept HB0.out, HB.out.kept HB0.out⟩
  refine (lent_l W0 aA nA cA A HL0.out.1 (by omega)).mono ?_
  rintro e W1 ⟨a1, c1, rfl, hl1, hb1⟩
  have HT1 : Hid (Lent W1 W0.heap.size a1 nA c1 aA A ∧ Below W0.heap.size W0 W1) := ⟨hl1, hb1⟩
  have HX1 : Hid (OBox W1 b0 #[.int .i64 2, .slice aA nA cA, .slice aB nB cB, .int .i64 t, .int .i64 r, .int .i64 parts]) := HX0.out.below hb1
  have c2 := HX1.out.cell 2 _ rfl
  clear hl1 hb1
  go_wp2_with fail
  refine (lent_l W1 aB nB cB B (HL0.out.2.kept HT1.out.2) (by omega)).mono ?_
  rintro e W2 ⟨a2, c2', rfl, hl2, hb2⟩
  have HT2 : Hid (Lent W2 W1.heap.size a2 nB c2' aB B ∧ Below W1.heap.size W1 W2) := ⟨hl2, hb2⟩
  have HT1' : Hid (Lent W2 W0.heap.size a1 nA c1 aA A) := HT1.out.1.kept hb2
  have HX2 : Hid (OBox W2 b0 #[.int .i64 2, .slice aA nA cA, .slice aB nB cB, .int .i64 t, .int .i64 r, .int .i64 parts]) := HX1.out.below hb2
  have Hw2 : Hid (Below w.heap.size w W2) := HB0.out.trans ((HT1.out.2.trans (hb2.mono HT1.out.2.size)).mono HB0.out.size)
  have HL2 : Hid (Lst W2 aA nA cA A ∧ Lst W2 aB nB cB B) := ⟨HA.out.kept Hw2.out, HB.out.kept Hw2.out⟩
  have k0 := HX2.out.cell 0 _ rfl
  clear hl2 hb2 c2 HX0 HX1 HL0
  have HLw : Hid (∀ a, B ≠ [] → aB = some a → a.block < w.heap.size) := HB.out.at_.lt
  have HXc : Hid (∀ W, Below W2.heap.size W2 W → W.cell? ⟨b0, 1, none⟩ = some (.slice aA nA cA) ∧ W.cell? ⟨b0, 2, none⟩ = some (.slice aB nB cB) ∧ W.cell? ⟨b0, 3, none⟩ = some (.int .i64 t) ∧ W.cell? ⟨b0, 4, none⟩ = some (.int .i64 r)) := fun W hW => ⟨(HX2.out.below hW).cell 1 _ rfl, (HX2.out.below hW).cell 2 _ rfl, (HX2.out.below hW).cell 3 _ rfl, (HX2.out.below hW).cell 4 _ rfl⟩
  have k1 := HX2.out.cell 1 _ rfl
  have k3 := HX2.out.cell 3 _ rfl
  have k4 := HX2.out.cell 4 _ rfl
  go_wp2_with fail
  refine (find_any W2 a1 c1 nA A t r HT1'.out.lst.len HT1'.out.lst.at_ (by omega)).mono ?_
  rintro e W3 ⟨rfl, hg3⟩
  have HB3 : Hid (Below W2.heap.size W2 W3) := Grew.below hg3
  clear k1 k3 k4
  obtain ⟨k1, _, k3, k4⟩ := HXc.out _ HB3.out
  have HLA : Hid (Lst W3 aA nA cA A) := HL2.out.1.kept HB3.out
  have HFn : Hid (Calls Try.prog 29 #[.slice aA nA cA, .agg #[.int .i64 t, .int .i64 r]] W3 fun e w' => e = .returned (.tuple #[.int .i64 (findN A (t, r) : Int), .bool (findB A (t, r))]) ∧ ∃ q os, w' = grow (W3.drewN q) os) := refFind_any W3 aA cA nA A t r HLA.out.len HLA.out.at_ (by omega)
  generalize findN A (t, r) = fn at *
  generalize findB A (t, r) = fb at *
  clear hg3
  go_wp2_with fail
  refine HFn.out.mono ?_
  rintro e W4 ⟨rfl, hg4⟩
  have HE : Hid (Got W2 W4 (nA + nB) (.slice none 0 0) (.slice none 0 0) []) := Got.nil _ (HB3.out.trans ((Grew.below hg4).mono HB3.out.size))
  generalize ([] : List K) = MM at HE
  clear hg4 HFn HLA HB3 k1 k3 k4
  obtain ⟨k1, k2, _, _⟩ := HXc.out _ HE.out.bel
  go_wp2_with fail
  refine (back_l W4 W0.heap.size nA c1 cA a1 aA A (HT1'.out.kept HE.out.bel) (HL2.out.1.kept HE.out.bel) (by omega)).mono ?_
  rintro e W5 ⟨rfl, hg5⟩
  have HS5 : Hid (St5 w base SB X O lv wv xs ys Ms W0 W1 W2 W5 a1 a2 aB b0 nB c2' cB nA B #[.int .i64 2, .slice aA nA cA, .slice aB nB cB, .int .i64 t, .int .i64 r, .int .i64 parts] (.slice none 0 0) (.slice none 0 0) MM) := St5.one HS.out Hb0.out HB0.out HT1.out.2 HT2.out HT1'.out HX2.out HL2.out.2 HE.out HZ0.out HLw.out hg5 (fun x hx => (HT1.out.1.lt x hx).2)
  have k2' := HS5.out.box.cell 2 _ rfl
  clear hg5 k1 k2
  go_wp2_with fail
  refine (back_l W5 W1.heap.size nB c2' cB a2 aB B HS5.out.lent HS5.out.lst (by omega)).mono ?_
  rintro e W6 ⟨rfl, hg6⟩
  have HS6 : Hid (Sh W6 base SB X O lv wv xs ys Ms ∧ OwnK W6 W2.heap.size (.slice none 0 0) MM ∧ OwnK W6 W2.heap.size (.slice none 0 0) MM ∧ Below w.heap.size w W6 ∧ W2.heap.size ≤ W6.heap.size) := HS5.out.two HT2.out.1 hg6
  have HNe : Hid ((∀ b, ((.slice none 0 0) : Value).ownBlock = some b → ((.slice none 0 0) : Value).ownBlock ≠ some b) ∧ MM.length ≤ nA + nB) := ⟨HE.out.ne, HE.out.len⟩
  obtain ⟨s0, s1⟩ := HS6.out.1.cells
  clear hg6 k2' HS5 HE
  have hbw : base ≤ W6.heap.size := by have h1 := HS6.out.2.2.2.1.size; omega
  have hb2 : base ≤ W2.heap.size := by have h1 := Hw2.out.size; omega
  have HFr : Hid (∀ b, W2.heap.size ≤ b → O b = none) := fun b h => HS.out.fresh b (by have h1 := Hw2.out.size; omega)
  have HS6a : Hid (Sh (W6.alloc (.cells #[(.slice none 0 0)] 29)) base SB X O lv wv xs ys Ms ∧ OwnK (W6.alloc (.cells #[(.slice none 0 0)] 29)) W2.heap.size (.slice none 0 0) MM ∧ OwnK (W6.alloc (.cells #[(.slice none 0 0)] 29)) W2.heap.size (.slice none 0 0) MM ∧ Below base w (W6.alloc (.cells #[(.slice none 0 0)] 29))) := ⟨HS6.out.1.below (below_alloc _ _), HS6.out.2.1.kept (below_alloc _ _), HS6.out.2.2.1.kept (below_alloc _ _), (HS6.out.2.2.2.1.mono hb).trans ((below_alloc _ _).mono hbw)⟩
  go_wp2_with (at_builtin; refine wpList_append_rows rfl _ _ rfl base lv xs rfl HS6a.out.1.lists _ (.slice none 0 0) rfl (cell_new1 _ _ _) rfl (by omega) (by simp only [World.size_alloc]; omega) ?_; intro v7 w7 h7 hg7 hat7; obtain ⟨⟨r0, r1⟩, f0, f1⟩ := HS6a.out.1.row1 hg7; obtain ⟨a7, c7, hv7⟩ := rows_shape h7; have HS7 : Hid ((∃ O', Sh (w7.setCell ⟨SB, 0, none⟩ v7) base SB X O' v7 wv (xs ++ [(.slice none 0 0)]) ys (fun j => if j = xs.length then MM else Ms j) ∧ ∀ b, (((.slice none 0 0) : Value).ownBlock = some b ∨ (w7.setCell ⟨SB, 0, none⟩ v7).heap.size ≤ b) → O' b = none) ∧ OwnK (w7.setCell ⟨SB, 0, none⟩ v7) W2.heap.size (.slice none 0 0) MM ∧ OwnK (w7.setCell ⟨SB, 0, none⟩ v7) W2.heap.size (.slice none 0 0) MM ∧ Below base w (w7.setCell ⟨SB, 0, none⟩ v7)) := putX_all HS6a.out.1 HLn.out HS6a.out.2.1 HS6a.out.2.2.1 HFr.out hb2 HNe.out.1 HS6a.out.2.2.2 h7 hg7 hat7; clear h7 hg7 hat7; rw [List.length_append, List.length_singleton] at hv7; subst hv7)
  generalize w7.setCell ⟨SB, 0, none⟩ (.slice a7 (xs.length + 1) c7) = W7 at *
  obtain ⟨⟨O7, hO7, hf7⟩, hG7, hH7, hB7⟩ := HS7.out
  have HQ7 : Hid (Sh W7 base SB X O7 (.slice a7 (xs.length + 1) c7) wv (xs ++ [(.slice none 0 0)]) ys (fun j => if j = xs.length then MM else Ms j) ∧ (∀ b, (((.slice none 0 0) : Value).ownBlock = some b ∨ W7.heap.size ≤ b) → O7 b = none) ∧ OwnK W7 W2.heap.size (.slice none 0 0) MM ∧ OwnK W7 W2.heap.size (.slice none 0 0) MM ∧ Below base w W7) := ⟨hO7, hf7, hG7, hH7, hB7⟩
  obtain ⟨r0', r1'⟩ := hO7.cells
  clear hO7 hf7 hG7 hH7 hB7 HS7 HS6 HS6a r0 r1 f0 f1 s0 s1 HX2 HXc HT1 HT1' HT2 HL2 Hb0 HB0 HZ0 HA HB HLw
  have hb7 : base ≤ W7.heap.size := by have h1 := HQ7.out.2.2.2.2.size; omega
  have HLH : Hid (∀ W, Below W7.heap.size W7 W → Lst W none 0 0 MM) := fun W hW => own_lst2 (HQ7.out.2.2.2.1.kept hW)
  have hnw : 0 ≤ 2097152 := by have h1 := HNe.out.2; have h2 := (HLH.out W7 (Below.refl _ _)).len; omega
  have HDr : Hid (Below W7.heap.size W7 W7.drew) := ⟨rfl, rfl, rfl, Nat.le_refl _, fun _ _ => rfl⟩
  go_cut [] (fun wx => Hid (∃ O' v9 e9, Sh wx base SB X O' (.slice a7 (xs.length + 1) c7) v9 (xs ++ [(.slice none 0 0)]) (ys ++ [e9]) (fun j => if j = xs.length then MM else Ms j) ∧ OwnK wx W2.heap.size (.slice none 0 0) MM ∧ OwnK wx W2.heap.size (.slice none 0 0) MM ∧ Below base w wx))
  case first =>
    go_region_law (first | (refine step_append_rows rfl _ _ rfl base wv ys rfl ((HQ7.out.1.below HB8.out).below (below_alloc _ _)).want _ (.slice a8 n8 c8) rfl (cell_new1 _ _ _) rfl (by rw [HLn.out]; omega) (by have h1 := HB8.out.size; simp only [World.size_alloc]; omega) ?_; intro v9 w9 h9 hg9 hat9; obtain ⟨⟨q2, q3⟩, f0, f1⟩ := ((HQ7.out.1.below HB8.out).below (below_alloc _ _)).row2 hg9; obtain ⟨a9, c9, hv9⟩ := rows_shape h9; have HS9 : Hid (∃ O' v9' e9, Sh (w9.setCell ⟨SB, 1, none⟩ v9) base SB X O' (.slice a7 (xs.length + 1) c7) v9' (xs ++ [(.slice none 0 0)]) (ys ++ [e9]) (fun j => if j = xs.length then MM else Ms j) ∧ OwnK (w9.setCell ⟨SB, 1, none⟩ v9) W2.heap.size (.slice none 0 0) MM ∧ OwnK (w9.setCell ⟨SB, 1, none⟩ v9) W2.heap.size (.slice none 0 0) MM ∧ Below base w (w9.setCell ⟨SB, 1, none⟩ v9)) := putY_all HLn.out HQ7.out.1 HQ7.out.2.1 HQ7.out.2.2.1 HQ7.out.2.2.2.1 HQ7.out.2.2.2.2 hb7 HB8.out HO8.out h9 hg9 hat9; clear h9 hg9 hat9; rw [List.length_append, List.length_singleton] at hv9; subst hv9) | (go_simp; (go_at_call 37; go_loud (refine (copiedK_any _ none 0 0 MM (HLH.out _ HDr.out).len (HLH.out _ HDr.out).at_ (HLH.out _ HDr.out).nil (by omega)).mono ?_; rintro e w8 ⟨v8, rfl, ho8, hb8⟩; have HB8 : Hid (Below W7.heap.size W7 w8) := HDr.out.trans hb8; have HO8 : Hid (OwnK w8 W7.heap.size v8 MM) := ho8; clear ho8 hb8; obtain ⟨a8, n8, c8, hv8⟩ := own_lst HO8.out; subst hv8; obtain ⟨q0, q1⟩ := (HQ7.out.1.below HB8.out).cells; have q1a : (w8.alloc (.cells #[.slice a8 n8 c8] 29)).cell? ⟨SB, 1, none⟩ = some wv := Grew.cell ((Grew.refl _).alloc _) q1))))
    all_goals go_wp2_with fail
    all_goals go_meet
    all_goals exact HS9
  case rest =>
    obtain ⟨O9, v9, e9, h9⟩ := hcut.out
    have HZ : Hid (Sh wc base SB X O9 (.slice a7 (xs.length + 1) c7) v9 (xs ++ [(.slice none 0 0)]) (ys ++ [e9]) (fun j => if j = xs.length then MM else Ms j) ∧ OwnK wc W2.heap.size (.slice none 0 0) MM ∧ OwnK wc W2.heap.size (.slice none 0 0) MM ∧ Below base w wc) := h9
    clear h9 hcut HLH HDr HQ7 r0' r1'
    have HLz : Hid (Lst wc none 0 0 MM ∧ Lst wc none 0 0 MM) := ⟨own_lst2 HZ.out.2.1, own_lst2 HZ.out.2.2.1⟩
    have hng : 0 ≤ 2097152 := by have h1 := HNe.out.2; have h2 := HLz.out.1.len; omega
    go_wp2_with fail
    refine (num_any' _ _).mono ?_
    rintro e w' ⟨rfl, rfl⟩
    go_wp2_with fail
    refine (num_any' _ _).mono ?_
    rintro e w' ⟨rfl, rfl⟩
    go_wp2_with fail
    refine (sameKeys_any wc none none 0 0 0 0 MM MM HLz.out.1 HLz.out.2 (by omega) (by omega)).mono ?_
    rintro e w' ⟨he, q, rfl⟩
    rw [decide_eq_true rfl] at he
    subst he
    have HFin : Hid ((∃ O' lv' wv' xs' ys' Ms', Sh (wc.drewN q) base SB X O' lv' wv' xs' ys' Ms' ∧ ys'.length = xs'.length ∧ (∃ g, xs' = xs ++ [g]) ∧ ∃ M : List K, M.length ≤ nA + nB ∧ ∀ j, Ms' j = if j = xs.length then M else Ms j) ∧ Below base w (wc.drewN q)) := by
      have hd : Below wc.heap.size wc (wc.drewN q) := ⟨rfl, rfl, rfl, Nat.le_refl _, fun _ _ => rfl⟩
      refine ⟨⟨_, _, _, _, _, _, HZ.out.1.below hd, by have h1 := HLn.out; simp; omega, ⟨_, rfl⟩, MM, HNe.out.2, fun j => rfl⟩, HZ.out.2.2.2.trans (hd.mono (by have h1 := HZ.out.2.2.2.size; omega))⟩
    clear HZ HLz
    go_wp2
    go_ret
    exact ⟨rfl, HFin.out.1, HFin.out.2⟩


set_option maxHeartbeats 20000000 in
set_option maxRecDepth 100000 in
theorem ask_3 : AskOK 3 := by
  intro w base SB X O lv wv xs ys Ms t r parts aA aB nA cA nB cB A B hS hlen hA hB hn hx hb
  have HS : Hid (Sh w base SB X O lv wv xs ys Ms) := hS
  have HA : Hid (Lst w aA nA cA A) := hA
  have HB : Hid (Lst w aB nB cB B) := hB
  have HLn : Hid (ys.length = xs.length) := hlen
  clear hS hA hB hlen
  go_enter Try.func15, Try.ntmps15
  go_wp2_with fail
  have HX0 : Hid (OBox (w.alloc (.cells #[.int .i64 3, .slice aA nA cA, .slice aB nB cB, .int .i64 t, .int .i64 r, .int .i64 parts] 49)) w.heap.size #[.int .i64 3, .slice aA nA cA, .slice aB nB cB, .int .i64 t, .int .i64 r, .int .i64 parts]) := heap_alloc_new _ _ rfl
  have HB0 : Hid (Below w.heap.size w (w.alloc (.cells #[.int .i64 3, .slice aA nA cA, .slice aB nB cB, .int .i64 t, .int .i64 r, .int .i64 parts] 49))) := below_alloc _ _
  have HZ0 : Hid ((w.alloc (.cells #[.int .i64 3, .slice aA nA cA, .slice aB nB cB, .int .i64 t, .int .i64 r, .int .i64 parts] 49)).heap.size = w.heap.size + 1) := World.size_alloc _ _
  generalize w.alloc (.cells #[.int .i64 3, .slice aA nA cA, .slice aB nB cB, .int .i64 t, .int .i64 r, .int .i64 parts] 49) = W0 at *
  obtain ⟨b0, hb0⟩ : ∃ b, b = w.heap.size := ⟨_, rfl⟩
  rw [← hb0] at HX0 ⊢
  have Hb0 : Hid (b0 = w.heap.size) := hb0
  clear hb0
  have HL0 : Hid (Lst W0 aA nA cA A ∧ Lst W0 aB nB cB B) := ⟨HA.out.kept HB0.out, HB.out.kept HB0.out⟩
  refine (lent_l W0 aA nA cA A HL0.out.1 (by omega)).mono ?_
  rintro e W1 ⟨a1, c1, rfl, hl1, hb1⟩
  have HT1 : Hid (Lent W1 W0.heap.size a1 nA c1 aA A ∧ Below W0.heap.size W0 W1) := ⟨hl1, hb1⟩
  have HX1 : Hid (OBox W1 b0 #[.int .i64 3, .slice aA nA cA, .slice aB nB cB, .int .i64 t, .int .i64 r, .int .i64 parts]) := HX0.out.below hb1
  have c2 := HX1.out.cell 2 _ rfl
  clear hl1 hb1
  go_wp2_with fail
  refine (lent_l W1 aB nB cB B (HL0.out.2.kept HT1.out.2) (by omega)).mono ?_
  rintro e W2 ⟨a2, c2', rfl, hl2, hb2⟩
  have HT2 : Hid (Lent W2 W1.heap.size a2 nB c2' aB B ∧ Below W1.heap.size W1 W2) := ⟨hl2, hb2⟩
  have HT1' : Hid (Lent W2 W0.heap.size a1 nA c1 aA A) := HT1.out.1.kept hb2
  have HX2 : Hid (OBox W2 b0 #[.int .i64 3, .slice aA nA cA, .slice aB nB cB, .int .i64 t, .int .i64 r, .int .i64 parts]) := HX1.out.below hb2
  have Hw2 : Hid (Below w.heap.size w W2) := HB0.out.trans ((HT1.out.2.trans (hb2.mono HT1.out.2.size)).mono HB0.out.size)
  have HL2 : Hid (Lst W2 aA nA cA A ∧ Lst W2 aB nB cB B) := ⟨HA.out.kept Hw2.out, HB.out.kept Hw2.out⟩
  have k0 := HX2.out.cell 0 _ rfl
  clear hl2 hb2 c2 HX0 HX1 HL0
  have HLw : Hid (∀ a, B ≠ [] → aB = some a → a.block < w.heap.size) := HB.out.at_.lt
  have HXc : Hid (∀ W, Below W2.heap.size W2 W → W.cell? ⟨b0, 1, none⟩ = some (.slice aA nA cA) ∧ W.cell? ⟨b0, 2, none⟩ = some (.slice aB nB cB) ∧ W.cell? ⟨b0, 3, none⟩ = some (.int .i64 t) ∧ W.cell? ⟨b0, 4, none⟩ = some (.int .i64 r)) := fun W hW => ⟨(HX2.out.below hW).cell 1 _ rfl, (HX2.out.below hW).cell 2 _ rfl, (HX2.out.below hW).cell 3 _ rfl, (HX2.out.below hW).cell 4 _ rfl⟩
  have k1 := HX2.out.cell 1 _ rfl
  have k3 := HX2.out.cell 3 _ rfl
  have k4 := HX2.out.cell 4 _ rfl
  go_wp2_with fail
  refine (union_r W2 a1 a2 nA nB c1 c2' A B HT1'.out.lst HT2.out.1.lst HT1'.out.flat (by omega)).mono ?_
  rintro e W3 ⟨ag, ng, cg, rfl, ho, hb3⟩
  have HB3 : Hid (Below W2.heap.size W2 W3 ∧ OwnK W3 W2.heap.size (.slice ag ng cg) (resU A B)) := ⟨hb3, ho.out⟩
  clear k1 k3 k4
  obtain ⟨k1, k2, _, _⟩ := HXc.out _ hb3
  clear ho hb3
  have HRf : Hid (Calls Try.prog 31 #[.slice aA nA cA, .slice aB nB cB] W3 fun e w' => ∃ a n c, e = .returned (.tuple #[.slice a n c, .int .i64 (codeU A B)]) ∧ Hid (OwnK w' W3.heap.size (.slice a n c) (resU A B)) ∧ Below W3.heap.size W3 w') := refUnion_r W3 aA aB nA nB cA cB A B (HL2.out.1.kept HB3.out.1) (HL2.out.2.kept HB3.out.1) (by omega)
  have HMl : Hid ((resU A B).length ≤ nA + nB) := by have := resU_len A B; have := HL2.out.1.len; have := HL2.out.2.len; rw [Hid]; omega
  generalize resU A B = MM at *
  generalize codeU A B = cc at *
  go_wp2_with fail
  refine HRf.out.mono ?_
  rintro e W4 ⟨aw, nw, cw, rfl, ho4, hb4⟩
  have HE : Hid (Got W2 W4 (nA + nB) (.slice ag ng cg) (.slice aw nw cw) MM) := Got.two HB3.out.2 HB3.out.1 ho4.out hb4 HMl.out
  clear ho4 hb4 HRf HB3 HMl k1 k2
  obtain ⟨k1, k2, _, _⟩ := HXc.out _ HE.out.bel
  go_wp2_with fail
  refine (back_l W4 W0.heap.size nA c1 cA a1 aA A (HT1'.out.kept HE.out.bel) (HL2.out.1.kept HE.out.bel) (by omega)).mono ?_
  rintro e W5 ⟨rfl, hg5⟩
  have HS5 : Hid (St5 w base SB X O lv wv xs ys Ms W0 W1 W2 W5 a1 a2 aB b0 nB c2' cB nA B #[.int .i64 3, .slice aA nA cA, .slice aB nB cB, .int .i64 t, .int .i64 r, .int .i64 parts] (.slice ag ng cg) (.slice aw nw cw) MM) := St5.one HS.out Hb0.out HB0.out HT1.out.2 HT2.out HT1'.out HX2.out HL2.out.2 HE.out HZ0.out HLw.out hg5 (fun x hx => (HT1.out.1.lt x hx).2)
  have k2' := HS5.out.box.cell 2 _ rfl
  clear hg5 k1 k2
  go_wp2_with fail
  refine (back_l W5 W1.heap.size nB c2' cB a2 aB B HS5.out.lent HS5.out.lst (by omega)).mono ?_
  rintro e W6 ⟨rfl, hg6⟩
  have HS6 : Hid (Sh W6 base SB X O lv wv xs ys Ms ∧ OwnK W6 W2.heap.size (.slice ag ng cg) MM ∧ OwnK W6 W2.heap.size (.slice aw nw cw) MM ∧ Below w.heap.size w W6 ∧ W2.heap.size ≤ W6.heap.size) := HS5.out.two HT2.out.1 hg6
  have HNe : Hid ((∀ b, ((.slice ag ng cg) : Value).ownBlock = some b → ((.slice aw nw cw) : Value).ownBlock ≠ some b) ∧ MM.length ≤ nA + nB) := ⟨HE.out.ne, HE.out.len⟩
  obtain ⟨s0, s1⟩ := HS6.out.1.cells
  clear hg6 k2' HS5 HE
  have hbw : base ≤ W6.heap.size := by have h1 := HS6.out.2.2.2.1.size; omega
  have hb2 : base ≤ W2.heap.size := by have h1 := Hw2.out.size; omega
  have HFr : Hid (∀ b, W2.heap.size ≤ b → O b = none) := fun b h => HS.out.fresh b (by have h1 := Hw2.out.size; omega)
  have HS6a : Hid (Sh (W6.alloc (.cells #[(.slice ag ng cg)] 29)) base SB X O lv wv xs ys Ms ∧ OwnK (W6.alloc (.cells #[(.slice ag ng cg)] 29)) W2.heap.size (.slice ag ng cg) MM ∧ OwnK (W6.alloc (.cells #[(.slice ag ng cg)] 29)) W2.heap.size (.slice aw nw cw) MM ∧ Below base w (W6.alloc (.cells #[(.slice ag ng cg)] 29))) := ⟨HS6.out.1.below (below_alloc _ _), HS6.out.2.1.kept (below_alloc _ _), HS6.out.2.2.1.kept (below_alloc _ _), (HS6.out.2.2.2.1.mono hb).trans ((below_alloc _ _).mono hbw)⟩
  go_wp2_with (at_builtin; refine wpList_append_rows rfl _ _ rfl base lv xs rfl HS6a.out.1.lists _ (.slice ag ng cg) rfl (cell_new1 _ _ _) rfl (by omega) (by simp only [World.size_alloc]; omega) ?_; intro v7 w7 h7 hg7 hat7; obtain ⟨⟨r0, r1⟩, f0, f1⟩ := HS6a.out.1.row1 hg7; obtain ⟨a7, c7, hv7⟩ := rows_shape h7; have HS7 : Hid ((∃ O', Sh (w7.setCell ⟨SB, 0, none⟩ v7) base SB X O' v7 wv (xs ++ [(.slice ag ng cg)]) ys (fun j => if j = xs.length then MM else Ms j) ∧ ∀ b, (((.slice aw nw cw) : Value).ownBlock = some b ∨ (w7.setCell ⟨SB, 0, none⟩ v7).heap.size ≤ b) → O' b = none) ∧ OwnK (w7.setCell ⟨SB, 0, none⟩ v7) W2.heap.size (.slice ag ng cg) MM ∧ OwnK (w7.setCell ⟨SB, 0, none⟩ v7) W2.heap.size (.slice aw nw cw) MM ∧ Below base w (w7.setCell ⟨SB, 0, none⟩ v7)) := putX_all HS6a.out.1 HLn.out HS6a.out.2.1 HS6a.out.2.2.1 HFr.out hb2 HNe.out.1 HS6a.out.2.2.2 h7 hg7 hat7; clear h7 hg7 hat7; rw [List.length_append, List.length_singleton] at hv7; subst hv7)
  generalize w7.setCell ⟨SB, 0, none⟩ (.slice a7 (xs.length + 1) c7) = W7 at *
  obtain ⟨⟨O7, hO7, hf7⟩, hG7, hH7, hB7⟩ := HS7.out
  have HQ7 : Hid (Sh W7 base SB X O7 (.slice a7 (xs.length + 1) c7) wv (xs ++ [(.slice ag ng cg)]) ys (fun j => if j = xs.length then MM else Ms j) ∧ (∀ b, (((.slice aw nw cw) : Value).ownBlock = some b ∨ W7.heap.size ≤ b) → O7 b = none) ∧ OwnK W7 W2.heap.size (.slice ag ng cg) MM ∧ OwnK W7 W2.heap.size (.slice aw nw cw) MM ∧ Below base w W7) := ⟨hO7, hf7, hG7, hH7, hB7⟩
  obtain ⟨r0', r1'⟩ := hO7.cells
  clear hO7 hf7 hG7 hH7 hB7 HS7 HS6 HS6a r0 r1 f0 f1 s0 s1 HX2 HXc HT1 HT1' HT2 HL2 Hb0 HB0 HZ0 HA HB HLw
  have hb7 : base ≤ W7.heap.size := by have h1 := HQ7.out.2.2.2.2.size; omega
  have HLH : Hid (∀ W, Below W7.heap.size W7 W → Lst W aw nw cw MM) := fun W hW => own_lst2 (HQ7.out.2.2.2.1.kept hW)
  have hnw : nw ≤ 2097152 := by have h1 := HNe.out.2; have h2 := (HLH.out W7 (Below.refl _ _)).len; omega
  have HDr : Hid (Below W7.heap.size W7 W7.drew) := ⟨rfl, rfl, rfl, Nat.le_refl _, fun _ _ => rfl⟩
  go_cut [] (fun wx => Hid (∃ O' v9 e9, Sh wx base SB X O' (.slice a7 (xs.length + 1) c7) v9 (xs ++ [(.slice ag ng cg)]) (ys ++ [e9]) (fun j => if j = xs.length then MM else Ms j) ∧ OwnK wx W2.heap.size (.slice ag ng cg) MM ∧ OwnK wx W2.heap.size (.slice aw nw cw) MM ∧ Below base w wx))
  case first =>
    go_region_law (first | (refine step_append_rows rfl _ _ rfl base wv ys rfl ((HQ7.out.1.below HB8.out).below (below_alloc _ _)).want _ (.slice a8 n8 c8) rfl (cell_new1 _ _ _) rfl (by rw [HLn.out]; omega) (by have h1 := HB8.out.size; simp only [World.size_alloc]; omega) ?_; intro v9 w9 h9 hg9 hat9; obtain ⟨⟨q2, q3⟩, f0, f1⟩ := ((HQ7.out.1.below HB8.out).below (below_alloc _ _)).row2 hg9; obtain ⟨a9, c9, hv9⟩ := rows_shape h9; have HS9 : Hid (∃ O' v9' e9, Sh (w9.setCell ⟨SB, 1, none⟩ v9) base SB X O' (.slice a7 (xs.length + 1) c7) v9' (xs ++ [(.slice ag ng cg)]) (ys ++ [e9]) (fun j => if j = xs.length then MM else Ms j) ∧ OwnK (w9.setCell ⟨SB, 1, none⟩ v9) W2.heap.size (.slice ag ng cg) MM ∧ OwnK (w9.setCell ⟨SB, 1, none⟩ v9) W2.heap.size (.slice aw nw cw) MM ∧ Below base w (w9.setCell ⟨SB, 1, none⟩ v9)) := putY_all HLn.out HQ7.out.1 HQ7.out.2.1 HQ7.out.2.2.1 HQ7.out.2.2.2.1 HQ7.out.2.2.2.2 hb7 HB8.out HO8.out h9 hg9 hat9; clear h9 hg9 hat9; rw [List.length_append, List.length_singleton] at hv9; subst hv9) | (go_simp; (go_at_call 37; go_loud (refine (copiedK_any _ aw cw nw MM (HLH.out _ HDr.out).len (HLH.out _ HDr.out).at_ (HLH.out _ HDr.out).nil (by omega)).mono ?_; rintro e w8 ⟨v8, rfl, ho8, hb8⟩; have HB8 : Hid (Below W7.heap.size W7 w8) := HDr.out.trans hb8; have HO8 : Hid (OwnK w8 W7.heap.size v8 MM) := ho8; clear ho8 hb8; obtain ⟨a8, n8, c8, hv8⟩ := own_lst HO8.out; subst hv8; obtain ⟨q0, q1⟩ := (HQ7.out.1.below HB8.out).cells; have q1a : (w8.alloc (.cells #[.slice a8 n8 c8] 29)).cell? ⟨SB, 1, none⟩ = some wv := Grew.cell ((Grew.refl _).alloc _) q1))))
    all_goals go_wp2_with fail
    all_goals go_meet
    all_goals exact HS9
  case rest =>
    obtain ⟨O9, v9, e9, h9⟩ := hcut.out
    have HZ : Hid (Sh wc base SB X O9 (.slice a7 (xs.length + 1) c7) v9 (xs ++ [(.slice ag ng cg)]) (ys ++ [e9]) (fun j => if j = xs.length then MM else Ms j) ∧ OwnK wc W2.heap.size (.slice ag ng cg) MM ∧ OwnK wc W2.heap.size (.slice aw nw cw) MM ∧ Below base w wc) := h9
    clear h9 hcut HLH HDr HQ7 r0' r1'
    have HLz : Hid (Lst wc ag ng cg MM ∧ Lst wc aw nw cw MM) := ⟨own_lst2 HZ.out.2.1, own_lst2 HZ.out.2.2.1⟩
    have hng : ng ≤ 2097152 := by have h1 := HNe.out.2; have h2 := HLz.out.1.len; omega
    go_wp2_with fail
    refine (num_any' _ _).mono ?_
    rintro e w' ⟨rfl, rfl⟩
    go_wp2_with fail
    refine (num_any' _ _).mono ?_
    rintro e w' ⟨rfl, rfl⟩
    go_wp2_with fail
    refine (sameKeys_any wc ag aw ng cg nw cw MM MM HLz.out.1 HLz.out.2 (by omega) (by omega)).mono ?_
    rintro e w' ⟨he, q, rfl⟩
    rw [decide_eq_true rfl] at he
    subst he
    have HFin : Hid ((∃ O' lv' wv' xs' ys' Ms', Sh (wc.drewN q) base SB X O' lv' wv' xs' ys' Ms' ∧ ys'.length = xs'.length ∧ (∃ g, xs' = xs ++ [g]) ∧ ∃ M : List K, M.length ≤ nA + nB ∧ ∀ j, Ms' j = if j = xs.length then M else Ms j) ∧ Below base w (wc.drewN q)) := by
      have hd : Below wc.heap.size wc (wc.drewN q) := ⟨rfl, rfl, rfl, Nat.le_refl _, fun _ _ => rfl⟩
      refine ⟨⟨_, _, _, _, _, _, HZ.out.1.below hd, by have h1 := HLn.out; simp; omega, ⟨_, rfl⟩, MM, HNe.out.2, fun j => rfl⟩, HZ.out.2.2.2.trans (hd.mono (by have h1 := HZ.out.2.2.2.size; omega))⟩
    clear HZ HLz
    go_wp2
    go_ret
    exact ⟨rfl, HFin.out.1, HFin.out.2⟩


set_option maxHeartbeats 20000000 in
set_option maxRecDepth 100000 in
theorem ask_4 : AskOK 4 := by
  intro w base SB X O lv wv xs ys Ms t r parts aA aB nA cA nB cB A B hS hlen hA hB hn hx hb
  have HS : Hid (Sh w base SB X O lv wv xs ys Ms) := hS
  have HA : Hid (Lst w aA nA cA A) := hA
  have HB : Hid (Lst w aB nB cB B) := hB
  have HLn : Hid (ys.length = xs.length) := hlen
  clear hS hA hB hlen
  go_enter Try.func15, Try.ntmps15
  go_wp2_with fail
  have HX0 : Hid (OBox (w.alloc (.cells #[.int .i64 4, .slice aA nA cA, .slice aB nB cB, .int .i64 t, .int .i64 r, .int .i64 parts] 49)) w.heap.size #[.int .i64 4, .slice aA nA cA, .slice aB nB cB, .int .i64 t, .int .i64 r, .int .i64 parts]) := heap_alloc_new _ _ rfl
  have HB0 : Hid (Below w.heap.size w (w.alloc (.cells #[.int .i64 4, .slice aA nA cA, .slice aB nB cB, .int .i64 t, .int .i64 r, .int .i64 parts] 49))) := below_alloc _ _
  have HZ0 : Hid ((w.alloc (.cells #[.int .i64 4, .slice aA nA cA, .slice aB nB cB, .int .i64 t, .int .i64 r, .int .i64 parts] 49)).heap.size = w.heap.size + 1) := World.size_alloc _ _
  generalize w.alloc (.cells #[.int .i64 4, .slice aA nA cA, .slice aB nB cB, .int .i64 t, .int .i64 r, .int .i64 parts] 49) = W0 at *
  obtain ⟨b0, hb0⟩ : ∃ b, b = w.heap.size := ⟨_, rfl⟩
  rw [← hb0] at HX0 ⊢
  have Hb0 : Hid (b0 = w.heap.size) := hb0
  clear hb0
  have HL0 : Hid (Lst W0 aA nA cA A ∧ Lst W0 aB nB cB B) := ⟨HA.out.kept HB0.out, HB.out.kept HB0.out⟩
  refine (lent_l W0 aA nA cA A HL0.out.1 (by omega)).mono ?_
  rintro e W1 ⟨a1, c1, rfl, hl1, hb1⟩
  have HT1 : Hid (Lent W1 W0.heap.size a1 nA c1 aA A ∧ Below W0.heap.size W0 W1) := ⟨hl1, hb1⟩
  have HX1 : Hid (OBox W1 b0 #[.int .i64 4, .slice aA nA cA, .slice aB nB cB, .int .i64 t, .int .i64 r, .int .i64 parts]) := HX0.out.below hb1
  have c2 := HX1.out.cell 2 _ rfl
  clear hl1 hb1
  go_wp2_with fail
  refine (lent_l W1 aB nB cB B (HL0.out.2.kept HT1.out.2) (by omega)).mono ?_
  rintro e W2 ⟨a2, c2', rfl, hl2, hb2⟩
  have HT2 : Hid (Lent W2 W1.heap.size a2 nB c2' aB B ∧ Below W1.heap.size W1 W2) := ⟨hl2, hb2⟩
  have HT1' : Hid (Lent W2 W0.heap.size a1 nA c1 aA A) := HT1.out.1.kept hb2
  have HX2 : Hid (OBox W2 b0 #[.int .i64 4, .slice aA nA cA, .slice aB nB cB, .int .i64 t, .int .i64 r, .int .i64 parts]) := HX1.out.below hb2
  have Hw2 : Hid (Below w.heap.size w W2) := HB0.out.trans ((HT1.out.2.trans (hb2.mono HT1.out.2.size)).mono HB0.out.size)
  have HL2 : Hid (Lst W2 aA nA cA A ∧ Lst W2 aB nB cB B) := ⟨HA.out.kept Hw2.out, HB.out.kept Hw2.out⟩
  have k0 := HX2.out.cell 0 _ rfl
  clear hl2 hb2 c2 HX0 HX1 HL0
  have HLw : Hid (∀ a, B ≠ [] → aB = some a → a.block < w.heap.size) := HB.out.at_.lt
  have HXc : Hid (∀ W, Below W2.heap.size W2 W → W.cell? ⟨b0, 1, none⟩ = some (.slice aA nA cA) ∧ W.cell? ⟨b0, 2, none⟩ = some (.slice aB nB cB) ∧ W.cell? ⟨b0, 3, none⟩ = some (.int .i64 t) ∧ W.cell? ⟨b0, 4, none⟩ = some (.int .i64 r)) := fun W hW => ⟨(HX2.out.below hW).cell 1 _ rfl, (HX2.out.below hW).cell 2 _ rfl, (HX2.out.below hW).cell 3 _ rfl, (HX2.out.below hW).cell 4 _ rfl⟩
  have k1 := HX2.out.cell 1 _ rfl
  have k3 := HX2.out.cell 3 _ rfl
  have k4 := HX2.out.cell 4 _ rfl
  go_wp2_with fail
  refine (meet_r W2 a1 a2 nA nB c1 c2' A B HT1'.out.lst HT2.out.1.lst HT1'.out.flat (by omega)).mono ?_
  rintro e W3 ⟨ag, ng, cg, rfl, ho, hb3⟩
  have HB3 : Hid (Below W2.heap.size W2 W3 ∧ OwnK W3 W2.heap.size (.slice ag ng cg) (resM A B)) := ⟨hb3, ho.out⟩
  clear k1 k3 k4
  obtain ⟨k1, k2, _, _⟩ := HXc.out _ hb3
  clear ho hb3
  have HRf : Hid (Calls Try.prog 33 #[.slice aA nA cA, .slice aB nB cB] W3 fun e w' => ∃ a n c, e = .returned (.tuple #[.slice a n c, .int .i64 (codeU A B)]) ∧ Hid (OwnK w' W3.heap.size (.slice a n c) (resM A B)) ∧ Below W3.heap.size W3 w') := refMeet_r W3 aA aB nA nB cA cB A B (HL2.out.1.kept HB3.out.1) (HL2.out.2.kept HB3.out.1) (by omega)
  have HMl : Hid ((resM A B).length ≤ nA + nB) := by have := resM_len A B; have := HL2.out.1.len; rw [Hid]; omega
  generalize resM A B = MM at *
  generalize codeU A B = cc at *
  go_wp2_with fail
  refine HRf.out.mono ?_
  rintro e W4 ⟨aw, nw, cw, rfl, ho4, hb4⟩
  have HE : Hid (Got W2 W4 (nA + nB) (.slice ag ng cg) (.slice aw nw cw) MM) := Got.two HB3.out.2 HB3.out.1 ho4.out hb4 HMl.out
  clear ho4 hb4 HRf HB3 HMl k1 k2
  obtain ⟨k1, k2, _, _⟩ := HXc.out _ HE.out.bel
  go_wp2_with fail
  refine (back_l W4 W0.heap.size nA c1 cA a1 aA A (HT1'.out.kept HE.out.bel) (HL2.out.1.kept HE.out.bel) (by omega)).mono ?_
  rintro e W5 ⟨rfl, hg5⟩
  have HS5 : Hid (St5 w base SB X O lv wv xs ys Ms W0 W1 W2 W5 a1 a2 aB b0 nB c2' cB nA B #[.int .i64 4, .slice aA nA cA, .slice aB nB cB, .int .i64 t, .int .i64 r, .int .i64 parts] (.slice ag ng cg) (.slice aw nw cw) MM) := St5.one HS.out Hb0.out HB0.out HT1.out.2 HT2.out HT1'.out HX2.out HL2.out.2 HE.out HZ0.out HLw.out hg5 (fun x hx => (HT1.out.1.lt x hx).2)
  have k2' := HS5.out.box.cell 2 _ rfl
  clear hg5 k1 k2
  go_wp2_with fail
  refine (back_l W5 W1.heap.size nB c2' cB a2 aB B HS5.out.lent HS5.out.lst (by omega)).mono ?_
  rintro e W6 ⟨rfl, hg6⟩
  have HS6 : Hid (Sh W6 base SB X O lv wv xs ys Ms ∧ OwnK W6 W2.heap.size (.slice ag ng cg) MM ∧ OwnK W6 W2.heap.size (.slice aw nw cw) MM ∧ Below w.heap.size w W6 ∧ W2.heap.size ≤ W6.heap.size) := HS5.out.two HT2.out.1 hg6
  have HNe : Hid ((∀ b, ((.slice ag ng cg) : Value).ownBlock = some b → ((.slice aw nw cw) : Value).ownBlock ≠ some b) ∧ MM.length ≤ nA + nB) := ⟨HE.out.ne, HE.out.len⟩
  obtain ⟨s0, s1⟩ := HS6.out.1.cells
  clear hg6 k2' HS5 HE
  have hbw : base ≤ W6.heap.size := by have h1 := HS6.out.2.2.2.1.size; omega
  have hb2 : base ≤ W2.heap.size := by have h1 := Hw2.out.size; omega
  have HFr : Hid (∀ b, W2.heap.size ≤ b → O b = none) := fun b h => HS.out.fresh b (by have h1 := Hw2.out.size; omega)
  have HS6a : Hid (Sh (W6.alloc (.cells #[(.slice ag ng cg)] 29)) base SB X O lv wv xs ys Ms ∧ OwnK (W6.alloc (.cells #[(.slice ag ng cg)] 29)) W2.heap.size (.slice ag ng cg) MM ∧ OwnK (W6.alloc (.cells #[(.slice ag ng cg)] 29)) W2.heap.size (.slice aw nw cw) MM ∧ Below base w (W6.alloc (.cells #[(.slice ag ng cg)] 29))) := ⟨HS6.out.1.below (below_alloc _ _), HS6.out.2.1.kept (below_alloc _ _), HS6.out.2.2.1.kept (below_alloc _ _), (HS6.out.2.2.2.1.mono hb).trans ((below_alloc _ _).mono hbw)⟩
  go_wp2_with (at_builtin; refine wpList_append_rows rfl _ _ rfl base lv xs rfl HS6a.out.1.lists _ (.slice ag ng cg) rfl (cell_new1 _ _ _) rfl (by omega) (by simp only [World.size_alloc]; omega) ?_; intro v7 w7 h7 hg7 hat7; obtain ⟨⟨r0, r1⟩, f0, f1⟩ := HS6a.out.1.row1 hg7; obtain ⟨a7, c7, hv7⟩ := rows_shape h7; have HS7 : Hid ((∃ O', Sh (w7.setCell ⟨SB, 0, none⟩ v7) base SB X O' v7 wv (xs ++ [(.slice ag ng cg)]) ys (fun j => if j = xs.length then MM else Ms j) ∧ ∀ b, (((.slice aw nw cw) : Value).ownBlock = some b ∨ (w7.setCell ⟨SB, 0, none⟩ v7).heap.size ≤ b) → O' b = none) ∧ OwnK (w7.setCell ⟨SB, 0, none⟩ v7) W2.heap.size (.slice ag ng cg) MM ∧ OwnK (w7.setCell ⟨SB, 0, none⟩ v7) W2.heap.size (.slice aw nw cw) MM ∧ Below base w (w7.setCell ⟨SB, 0, none⟩ v7)) := putX_all HS6a.out.1 HLn.out HS6a.out.2.1 HS6a.out.2.2.1 HFr.out hb2 HNe.out.1 HS6a.out.2.2.2 h7 hg7 hat7; clear h7 hg7 hat7; rw [List.length_append, List.length_singleton] at hv7; subst hv7)
  generalize w7.setCell ⟨SB, 0, none⟩ (.slice a7 (xs.length + 1) c7) = W7 at *
  obtain ⟨⟨O7, hO7, hf7⟩, hG7, hH7, hB7⟩ := HS7.out
  have HQ7 : Hid (Sh W7 base SB X O7 (.slice a7 (xs.length + 1) c7) wv (xs ++ [(.slice ag ng cg)]) ys (fun j => if j = xs.length then MM else Ms j) ∧ (∀ b, (((.slice aw nw cw) : Value).ownBlock = some b ∨ W7.heap.size ≤ b) → O7 b = none) ∧ OwnK W7 W2.heap.size (.slice ag ng cg) MM ∧ OwnK W7 W2.heap.size (.slice aw nw cw) MM ∧ Below base w W7) := ⟨hO7, hf7, hG7, hH7, hB7⟩
  obtain ⟨r0', r1'⟩ := hO7.cells
  clear hO7 hf7 hG7 hH7 hB7 HS7 HS6 HS6a r0 r1 f0 f1 s0 s1 HX2 HXc HT1 HT1' HT2 HL2 Hb0 HB0 HZ0 HA HB HLw
  have hb7 : base ≤ W7.heap.size := by have h1 := HQ7.out.2.2.2.2.size; omega
  have HLH : Hid (∀ W, Below W7.heap.size W7 W → Lst W aw nw cw MM) := fun W hW => own_lst2 (HQ7.out.2.2.2.1.kept hW)
  have hnw : nw ≤ 2097152 := by have h1 := HNe.out.2; have h2 := (HLH.out W7 (Below.refl _ _)).len; omega
  have HDr : Hid (Below W7.heap.size W7 W7.drew) := ⟨rfl, rfl, rfl, Nat.le_refl _, fun _ _ => rfl⟩
  go_cut [] (fun wx => Hid (∃ O' v9 e9, Sh wx base SB X O' (.slice a7 (xs.length + 1) c7) v9 (xs ++ [(.slice ag ng cg)]) (ys ++ [e9]) (fun j => if j = xs.length then MM else Ms j) ∧ OwnK wx W2.heap.size (.slice ag ng cg) MM ∧ OwnK wx W2.heap.size (.slice aw nw cw) MM ∧ Below base w wx))
  case first =>
    go_region_law (first | (refine step_append_rows rfl _ _ rfl base wv ys rfl ((HQ7.out.1.below HB8.out).below (below_alloc _ _)).want _ (.slice a8 n8 c8) rfl (cell_new1 _ _ _) rfl (by rw [HLn.out]; omega) (by have h1 := HB8.out.size; simp only [World.size_alloc]; omega) ?_; intro v9 w9 h9 hg9 hat9; obtain ⟨⟨q2, q3⟩, f0, f1⟩ := ((HQ7.out.1.below HB8.out).below (below_alloc _ _)).row2 hg9; obtain ⟨a9, c9, hv9⟩ := rows_shape h9; have HS9 : Hid (∃ O' v9' e9, Sh (w9.setCell ⟨SB, 1, none⟩ v9) base SB X O' (.slice a7 (xs.length + 1) c7) v9' (xs ++ [(.slice ag ng cg)]) (ys ++ [e9]) (fun j => if j = xs.length then MM else Ms j) ∧ OwnK (w9.setCell ⟨SB, 1, none⟩ v9) W2.heap.size (.slice ag ng cg) MM ∧ OwnK (w9.setCell ⟨SB, 1, none⟩ v9) W2.heap.size (.slice aw nw cw) MM ∧ Below base w (w9.setCell ⟨SB, 1, none⟩ v9)) := putY_all HLn.out HQ7.out.1 HQ7.out.2.1 HQ7.out.2.2.1 HQ7.out.2.2.2.1 HQ7.out.2.2.2.2 hb7 HB8.out HO8.out h9 hg9 hat9; clear h9 hg9 hat9; rw [List.length_append, List.length_singleton] at hv9; subst hv9) | (go_simp; (go_at_call 37; go_loud (refine (copiedK_any _ aw cw nw MM (HLH.out _ HDr.out).len (HLH.out _ HDr.out).at_ (HLH.out _ HDr.out).nil (by omega)).mono ?_; rintro e w8 ⟨v8, rfl, ho8, hb8⟩; have HB8 : Hid (Below W7.heap.size W7 w8) := HDr.out.trans hb8; have HO8 : Hid (OwnK w8 W7.heap.size v8 MM) := ho8; clear ho8 hb8; obtain ⟨a8, n8, c8, hv8⟩ := own_lst HO8.out; subst hv8; obtain ⟨q0, q1⟩ := (HQ7.out.1.below HB8.out).cells; have q1a : (w8.alloc (.cells #[.slice a8 n8 c8] 29)).cell? ⟨SB, 1, none⟩ = some wv := Grew.cell ((Grew.refl _).alloc _) q1))))
    all_goals go_wp2_with fail
    all_goals go_meet
    all_goals exact HS9
  case rest =>
    obtain ⟨O9, v9, e9, h9⟩ := hcut.out
    have HZ : Hid (Sh wc base SB X O9 (.slice a7 (xs.length + 1) c7) v9 (xs ++ [(.slice ag ng cg)]) (ys ++ [e9]) (fun j => if j = xs.length then MM else Ms j) ∧ OwnK wc W2.heap.size (.slice ag ng cg) MM ∧ OwnK wc W2.heap.size (.slice aw nw cw) MM ∧ Below base w wc) := h9
    clear h9 hcut HLH HDr HQ7 r0' r1'
    have HLz : Hid (Lst wc ag ng cg MM ∧ Lst wc aw nw cw MM) := ⟨own_lst2 HZ.out.2.1, own_lst2 HZ.out.2.2.1⟩
    have hng : ng ≤ 2097152 := by have h1 := HNe.out.2; have h2 := HLz.out.1.len; omega
    go_wp2_with fail
    refine (num_any' _ _).mono ?_
    rintro e w' ⟨rfl, rfl⟩
    go_wp2_with fail
    refine (num_any' _ _).mono ?_
    rintro e w' ⟨rfl, rfl⟩
    go_wp2_with fail
    refine (sameKeys_any wc ag aw ng cg nw cw MM MM HLz.out.1 HLz.out.2 (by omega) (by omega)).mono ?_
    rintro e w' ⟨he, q, rfl⟩
    rw [decide_eq_true rfl] at he
    subst he
    have HFin : Hid ((∃ O' lv' wv' xs' ys' Ms', Sh (wc.drewN q) base SB X O' lv' wv' xs' ys' Ms' ∧ ys'.length = xs'.length ∧ (∃ g, xs' = xs ++ [g]) ∧ ∃ M : List K, M.length ≤ nA + nB ∧ ∀ j, Ms' j = if j = xs.length then M else Ms j) ∧ Below base w (wc.drewN q)) := by
      have hd : Below wc.heap.size wc (wc.drewN q) := ⟨rfl, rfl, rfl, Nat.le_refl _, fun _ _ => rfl⟩
      refine ⟨⟨_, _, _, _, _, _, HZ.out.1.below hd, by have h1 := HLn.out; simp; omega, ⟨_, rfl⟩, MM, HNe.out.2, fun j => rfl⟩, HZ.out.2.2.2.trans (hd.mono (by have h1 := HZ.out.2.2.2.size; omega))⟩
    clear HZ HLz
    go_wp2
    go_ret
    exact ⟨rfl, HFin.out.1, HFin.out.2⟩


set_option maxHeartbeats 20000000 in
set_option maxRecDepth 100000 in
theorem ask_5 : AskOK 5 := by
  intro w base SB X O lv wv xs ys Ms t r parts aA aB nA cA nB cB A B hS hlen hA hB hn hx hb
  have HS : Hid (Sh w base SB X O lv wv xs ys Ms) := hS
  have HA : Hid (Lst w aA nA cA A) := hA
  have HB : Hid (Lst w aB nB cB B) := hB
  have HLn : Hid (ys.length = xs.length) := hlen
  clear hS hA hB hlen
  go_enter Try.func15, Try.ntmps15
  go_wp2_with fail
  have HX0 : Hid (OBox (w.alloc (.cells #[.int .i64 5, .slice aA nA cA, .slice aB nB cB, .int .i64 t, .int .i64 r, .int .i64 parts] 49)) w.heap.size #[.int .i64 5, .slice aA nA cA, .slice aB nB cB, .int .i64 t, .int .i64 r, .int .i64 parts]) := heap_alloc_new _ _ rfl
  have HB0 : Hid (Below w.heap.size w (w.alloc (.cells #[.int .i64 5, .slice aA nA cA, .slice aB nB cB, .int .i64 t, .int .i64 r, .int .i64 parts] 49))) := below_alloc _ _
  have HZ0 : Hid ((w.alloc (.cells #[.int .i64 5, .slice aA nA cA, .slice aB nB cB, .int .i64 t, .int .i64 r, .int .i64 parts] 49)).heap.size = w.heap.size + 1) := World.size_alloc _ _
  generalize w.alloc (.cells #[.int .i64 5, .slice aA nA cA, .slice aB nB cB, .int .i64 t, .int .i64 r, .int .i64 parts] 49) = W0 at *
  obtain ⟨b0, hb0⟩ : ∃ b, b = w.heap.size := ⟨_, rfl⟩
  rw [← hb0] at HX0 ⊢
  have Hb0 : Hid (b0 = w.heap.size) := hb0
  clear hb0
  have HL0 : Hid (Lst W0 aA nA cA A ∧ Lst W0 aB nB cB B) := ⟨HA.out.kept HB0.out, HB.out.kept HB0.out⟩
  refine (lent_l W0 aA nA cA A HL0.out.1 (by omega)).mono ?_
  rintro e W1 ⟨a1, c1, rfl, hl1, hb1⟩
  have HT1 : Hid (Lent W1 W0.heap.size a1 nA c1 aA A ∧ Below W0.heap.size W0 W1) := ⟨hl1, hb1⟩
  have HX1 : Hid (OBox W1 b0 #[.int .i64 5, .slice aA nA cA, .slice aB nB cB, .int .i64 t, .int .i64 r, .int .i64 parts]) := HX0.out.below hb1
  have c2 := HX1.out.cell 2 _ rfl
  clear hl1 hb1
  go_wp2_with fail
  refine (lent_l W1 aB nB cB B (HL0.out.2.kept HT1.out.2) (by omega)).mono ?_
  rintro e W2 ⟨a2, c2', rfl, hl2, hb2⟩
  have HT2 : Hid (Lent W2 W1.heap.size a2 nB c2' aB B ∧ Below W1.heap.size W1 W2) := ⟨hl2, hb2⟩
  have HT1' : Hid (Lent W2 W0.heap.size a1 nA c1 aA A) := HT1.out.1.kept hb2
  have HX2 : Hid (OBox W2 b0 #[.int .i64 5, .slice aA nA cA, .slice aB nB cB, .int .i64 t, .int .i64 r, .int .i64 parts]) := HX1.out.below hb2
  have Hw2 : Hid (Below w.heap.size w W2) := HB0.out.trans ((HT1.out.2.trans (hb2.mono HT1.out.2.size)).mono HB0.out.size)
  have HL2 : Hid (Lst W2 aA nA cA A ∧ Lst W2 aB nB cB B) := ⟨HA.out.kept Hw2.out, HB.out.kept Hw2.out⟩
  have k0 := HX2.out.cell 0 _ rfl
  clear hl2 hb2 c2 HX0 HX1 HL0
  have HLw : Hid (∀ a, B ≠ [] → aB = some a → a.block < w.heap.size) := HB.out.at_.lt
  have HXc : Hid (∀ W, Below W2.heap.size W2 W → W.cell? ⟨b0, 1, none⟩ = some (.slice aA nA cA) ∧ W.cell? ⟨b0, 2, none⟩ = some (.slice aB nB cB) ∧ W.cell? ⟨b0, 3, none⟩ = some (.int .i64 t) ∧ W.cell? ⟨b0, 4, none⟩ = some (.int .i64 r)) := fun W hW => ⟨(HX2.out.below hW).cell 1 _ rfl, (HX2.out.below hW).cell 2 _ rfl, (HX2.out.below hW).cell 3 _ rfl, (HX2.out.below hW).cell 4 _ rfl⟩
  have k1 := HX2.out.cell 1 _ rfl
  have k3 := HX2.out.cell 3 _ rfl
  have k4 := HX2.out.cell 4 _ rfl
  go_wp2_with fail
  refine (minus_r W2 a1 a2 nA nB c1 c2' A B HT1'.out.lst HT2.out.1.lst HT1'.out.flat (by omega)).mono ?_
  rintro e W3 ⟨ag, ng, cg, rfl, ho, hb3⟩
  have HB3 : Hid (Below W2.heap.size W2 W3 ∧ OwnK W3 W2.heap.size (.slice ag ng cg) (resD A B)) := ⟨hb3, ho.out⟩
  clear k1 k3 k4
  obtain ⟨k1, k2, _, _⟩ := HXc.out _ hb3
  clear ho hb3
  have HRf : Hid (Calls Try.prog 35 #[.slice aA nA cA, .slice aB nB cB] W3 fun e w' => ∃ a n c, e = .returned (.tuple #[.slice a n c, .int .i64 (codeU A B)]) ∧ Hid (OwnK w' W3.heap.size (.slice a n c) (resD A B)) ∧ Below W3.heap.size W3 w') := refMinus_r W3 aA aB nA nB cA cB A B (HL2.out.1.kept HB3.out.1) (HL2.out.2.kept HB3.out.1) (by omega)
  have HMl : Hid ((resD A B).length ≤ nA + nB) := by have := resD_len A B; have := HL2.out.1.len; rw [Hid]; omega
  generalize resD A B = MM at *
  generalize codeU A B = cc at *
  go_wp2_with fail
  refine HRf.out.mono ?_
  rintro e W4 ⟨aw, nw, cw, rfl, ho4, hb4⟩
  have HE : Hid (Got W2 W4 (nA + nB) (.slice ag ng cg) (.slice aw nw cw) MM) := Got.two HB3.out.2 HB3.out.1 ho4.out hb4 HMl.out
  clear ho4 hb4 HRf HB3 HMl k1 k2
  obtain ⟨k1, k2, _, _⟩ := HXc.out _ HE.out.bel
  go_wp2_with fail
  refine (back_l W4 W0.heap.size nA c1 cA a1 aA A (HT1'.out.kept HE.out.bel) (HL2.out.1.kept HE.out.bel) (by omega)).mono ?_
  rintro e W5 ⟨rfl, hg5⟩
  have HS5 : Hid (St5 w base SB X O lv wv xs ys Ms W0 W1 W2 W5 a1 a2 aB b0 nB c2' cB nA B #[.int .i64 5, .slice aA nA cA, .slice aB nB cB, .int .i64 t, .int .i64 r, .int .i64 parts] (.slice ag ng cg) (.slice aw nw cw) MM) := St5.one HS.out Hb0.out HB0.out HT1.out.2 HT2.out HT1'.out HX2.out HL2.out.2 HE.out HZ0.out HLw.out hg5 (fun x hx => (HT1.out.1.lt x hx).2)
  have k2' := HS5.out.box.cell 2 _ rfl
  clear hg5 k1 k2
  go_wp2_with fail
  refine (back_l W5 W1.heap.size nB c2' cB a2 aB B HS5.out.lent HS5.out.lst (by omega)).mono ?_
  rintro e W6 ⟨rfl, hg6⟩
  have HS6 : Hid (Sh W6 base SB X O lv wv xs ys Ms ∧ OwnK W6 W2.heap.size (.slice ag ng cg) MM ∧ OwnK W6 W2.heap.size (.slice aw nw cw) MM ∧ Below w.heap.size w W6 ∧ W2.heap.size ≤ W6.heap.size) := HS5.out.two HT2.out.1 hg6
  have HNe : Hid ((∀ b, ((.slice ag ng cg) : Value).ownBlock = some b → ((.slice aw nw cw) : Value).ownBlock ≠ some b) ∧ MM.length ≤ nA + nB) := ⟨HE.out.ne, HE.out.len⟩
  obtain ⟨s0, s1⟩ := HS6.out.1.cells
  clear hg6 k2' HS5 HE
  have hbw : base ≤ W6.heap.size := by have h1 := HS6.out.2.2.2.1.size; omega
  have hb2 : base ≤ W2.heap.size := by have h1 := Hw2.out.size; omega
  have HFr : Hid (∀ b, W2.heap.size ≤ b → O b = none) := fun b h => HS.out.fresh b (by have h1 := Hw2.out.size; omega)
  have HS6a : Hid (Sh (W6.alloc (.cells #[(.slice ag ng cg)] 29)) base SB X O lv wv xs ys Ms ∧ OwnK (W6.alloc (.cells #[(.slice ag ng cg)] 29)) W2.heap.size (.slice ag ng cg) MM ∧ OwnK (W6.alloc (.cells #[(.slice ag ng cg)] 29)) W2.heap.size (.slice aw nw cw) MM ∧ Below base w (W6.alloc (.cells #[(.slice ag ng cg)] 29))) := ⟨HS6.out.1.below (below_alloc _ _), HS6.out.2.1.kept (below_alloc _ _), HS6.out.2.2.1.kept (below_alloc _ _), (HS6.out.2.2.2.1.mono hb).trans ((below_alloc _ _).mono hbw)⟩
  go_wp2_with (at_builtin; refine wpList_append_rows rfl _ _ rfl base lv xs rfl HS6a.out.1.lists _ (.slice ag ng cg) rfl (cell_new1 _ _ _) rfl (by omega) (by simp only [World.size_alloc]; omega) ?_; intro v7 w7 h7 hg7 hat7; obtain ⟨⟨r0, r1⟩, f0, f1⟩ := HS6a.out.1.row1 hg7; obtain ⟨a7, c7, hv7⟩ := rows_shape h7; have HS7 : Hid ((∃ O', Sh (w7.setCell ⟨SB, 0, none⟩ v7) base SB X O' v7 wv (xs ++ [(.slice ag ng cg)]) ys (fun j => if j = xs.length then MM else Ms j) ∧ ∀ b, (((.slice aw nw cw) : Value).ownBlock = some b ∨ (w7.setCell ⟨SB, 0, none⟩ v7).heap.size ≤ b) → O' b = none) ∧ OwnK (w7.setCell ⟨SB, 0, none⟩ v7) W2.heap.size (.slice ag ng cg) MM ∧ OwnK (w7.setCell ⟨SB, 0, none⟩ v7) W2.heap.size (.slice aw nw cw) MM ∧ Below base w (w7.setCell ⟨SB, 0, none⟩ v7)) := putX_all HS6a.out.1 HLn.out HS6a.out.2.1 HS6a.out.2.2.1 HFr.out hb2 HNe.out.1 HS6a.out.2.2.2 h7 hg7 hat7; clear h7 hg7 hat7; rw [List.length_append, List.length_singleton] at hv7; subst hv7)
  generalize w7.setCell ⟨SB, 0, none⟩ (.slice a7 (xs.length + 1) c7) = W7 at *
  obtain ⟨⟨O7, hO7, hf7⟩, hG7, hH7, hB7⟩ := HS7.out
  have HQ7 : Hid (Sh W7 base SB X O7 (.slice a7 (xs.length + 1) c7) wv (xs ++ [(.slice ag ng cg)]) ys (fun j => if j = xs.length then MM else Ms j) ∧ (∀ b, (((.slice aw nw cw) : Value).ownBlock = some b ∨ W7.heap.size ≤ b) → O7 b = none) ∧ OwnK W7 W2.heap.size (.slice ag ng cg) MM ∧ OwnK W7 W2.heap.size (.slice aw nw cw) MM ∧ Below base w W7) := ⟨hO7, hf7, hG7, hH7, hB7⟩
  obtain ⟨r0', r1'⟩ := hO7.cells
  clear hO7 hf7 hG7 hH7 hB7 HS7 HS6 HS6a r0 r1 f0 f1 s0 s1 HX2 HXc HT1 HT1' HT2 HL2 Hb0 HB0 HZ0 HA HB HLw
  have hb7 : base ≤ W7.heap.size := by have h1 := HQ7.out.2.2.2.2.size; omega
  have HLH : Hid (∀ W, Below W7.heap.size W7 W → Lst W aw nw cw MM) := fun W hW => own_lst2 (HQ7.out.2.2.2.1.kept hW)
  have hnw : nw ≤ 2097152 := by have h1 := HNe.out.2; have h2 := (HLH.out W7 (Below.refl _ _)).len; omega
  have HDr : Hid (Below W7.heap.size W7 W7.drew) := ⟨rfl, rfl, rfl, Nat.le_refl _, fun _ _ => rfl⟩
  go_cut [] (fun wx => Hid (∃ O' v9 e9, Sh wx base SB X O' (.slice a7 (xs.length + 1) c7) v9 (xs ++ [(.slice ag ng cg)]) (ys ++ [e9]) (fun j => if j = xs.length then MM else Ms j) ∧ OwnK wx W2.heap.size (.slice ag ng cg) MM ∧ OwnK wx W2.heap.size (.slice aw nw cw) MM ∧ Below base w wx))
  case first =>
    go_region_law (first | (refine step_append_rows rfl _ _ rfl base wv ys rfl ((HQ7.out.1.below HB8.out).below (below_alloc _ _)).want _ (.slice a8 n8 c8) rfl (cell_new1 _ _ _) rfl (by rw [HLn.out]; omega) (by have h1 := HB8.out.size; simp only [World.size_alloc]; omega) ?_; intro v9 w9 h9 hg9 hat9; obtain ⟨⟨q2, q3⟩, f0, f1⟩ := ((HQ7.out.1.below HB8.out).below (below_alloc _ _)).row2 hg9; obtain ⟨a9, c9, hv9⟩ := rows_shape h9; have HS9 : Hid (∃ O' v9' e9, Sh (w9.setCell ⟨SB, 1, none⟩ v9) base SB X O' (.slice a7 (xs.length + 1) c7) v9' (xs ++ [(.slice ag ng cg)]) (ys ++ [e9]) (fun j => if j = xs.length then MM else Ms j) ∧ OwnK (w9.setCell ⟨SB, 1, none⟩ v9) W2.heap.size (.slice ag ng cg) MM ∧ OwnK (w9.setCell ⟨SB, 1, none⟩ v9) W2.heap.size (.slice aw nw cw) MM ∧ Below base w (w9.setCell ⟨SB, 1, none⟩ v9)) := putY_all HLn.out HQ7.out.1 HQ7.out.2.1 HQ7.out.2.2.1 HQ7.out.2.2.2.1 HQ7.out.2.2.2.2 hb7 HB8.out HO8.out h9 hg9 hat9; clear h9 hg9 hat9; rw [List.length_append, List.length_singleton] at hv9; subst hv9) | (go_simp; (go_at_call 37; go_loud (refine (copiedK_any _ aw cw nw MM (HLH.out _ HDr.out).len (HLH.out _ HDr.out).at_ (HLH.out _ HDr.out).nil (by omega)).mono ?_; rintro e w8 ⟨v8, rfl, ho8, hb8⟩; have HB8 : Hid (Below W7.heap.size W7 w8) := HDr.out.trans hb8; have HO8 : Hid (OwnK w8 W7.heap.size v8 MM) := ho8; clear ho8 hb8; obtain ⟨a8, n8, c8, hv8⟩ := own_lst HO8.out; subst hv8; obtain ⟨q0, q1⟩ := (HQ7.out.1.below HB8.out).cells; have q1a : (w8.alloc (.cells #[.slice a8 n8 c8] 29)).cell? ⟨SB, 1, none⟩ = some wv := Grew.cell ((Grew.refl _).alloc _) q1))))
    all_goals go_wp2_with fail
    all_goals go_meet
    all_goals exact HS9
  case rest =>
    obtain ⟨O9, v9, e9, h9⟩ := hcut.out
    have HZ : Hid (Sh wc base SB X O9 (.slice a7 (xs.length + 1) c7) v9 (xs ++ [(.slice ag ng cg)]) (ys ++ [e9]) (fun j => if j = xs.length then MM else Ms j) ∧ OwnK wc W2.heap.size (.slice ag ng cg) MM ∧ OwnK wc W2.heap.size (.slice aw nw cw) MM ∧ Below base w wc) := h9
    clear h9 hcut HLH HDr HQ7 r0' r1'
    have HLz : Hid (Lst wc ag ng cg MM ∧ Lst wc aw nw cw MM) := ⟨own_lst2 HZ.out.2.1, own_lst2 HZ.out.2.2.1⟩
    have hng : ng ≤ 2097152 := by have h1 := HNe.out.2; have h2 := HLz.out.1.len; omega
    go_wp2_with fail
    refine (num_any' _ _).mono ?_
    rintro e w' ⟨rfl, rfl⟩
    go_wp2_with fail
    refine (num_any' _ _).mono ?_
    rintro e w' ⟨rfl, rfl⟩
    go_wp2_with fail
    refine (sameKeys_any wc ag aw ng cg nw cw MM MM HLz.out.1 HLz.out.2 (by omega) (by omega)).mono ?_
    rintro e w' ⟨he, q, rfl⟩
    rw [decide_eq_true rfl] at he
    subst he
    have HFin : Hid ((∃ O' lv' wv' xs' ys' Ms', Sh (wc.drewN q) base SB X O' lv' wv' xs' ys' Ms' ∧ ys'.length = xs'.length ∧ (∃ g, xs' = xs ++ [g]) ∧ ∃ M : List K, M.length ≤ nA + nB ∧ ∀ j, Ms' j = if j = xs.length then M else Ms j) ∧ Below base w (wc.drewN q)) := by
      have hd : Below wc.heap.size wc (wc.drewN q) := ⟨rfl, rfl, rfl, Nat.le_refl _, fun _ _ => rfl⟩
      refine ⟨⟨_, _, _, _, _, _, HZ.out.1.below hd, by have h1 := HLn.out; simp; omega, ⟨_, rfl⟩, MM, HNe.out.2, fun j => rfl⟩, HZ.out.2.2.2.trans (hd.mono (by have h1 := HZ.out.2.2.2.size; omega))⟩
    clear HZ HLz
    go_wp2
    go_ret
    exact ⟨rfl, HFin.out.1, HFin.out.2⟩

end Go.Proofs.Ytnjgaibcpcpmcab
