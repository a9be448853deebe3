import Derived.Test.YtbcmmeajglilbaaGreatKSpBook
/-
  StorePlays: ASKED: kinds 6 and 7.
-/
namespace Go.Proofs.YtbcmmeajglilbaaGreat
open Go.RowKit Go.Sort

theorem vrow_rev {w : World} {b : Nat} {v : Value} {ys : List Vr} (h : w.ownsRow b TV 5 v ys.length (ctv ys.reverse)) : VRow w b v ys.reverse := by
  unfold VRow; rw [List.length_reverse]; exact h
/-- a row that was made behind w is there from W on -/
def NwV (w W : World) (v : Value) (ys : List Vr) : Prop := (∀ U, Below W.heap.size W U → VRow U 0 v ys) ∧ ∀ g, v.ownBlock = some g → w.heap.size ≤ g ∧ g < W.heap.size
theorem nwV {w W : World} {v : Value} {ys : List Vr} (h : VRow W w.heap.size v ys) : NwV w W v ys :=
  ⟨fun _ hU => ownsRow_mono (VRow.same h (fun g hg => hU.block g (World.ownsRow.lt h g hg).2)) (Nat.zero_le _), fun g hg => World.ownsRow.lt h g hg⟩
def NwK (w W : World) (v : Value) (L : List K) : Prop := (∀ U, Below W.heap.size W U → OwnK U 0 v L) ∧ ∀ g, v.ownBlock = some g → w.heap.size ≤ g ∧ g < W.heap.size
theorem nwK {w W : World} {v : Value} {L : List K} (h : OwnK W w.heap.size v L) : NwK w W v L :=
  ⟨fun _ hU => (h.kept hU).mono (Nat.zero_le _), fun g hg => OwnK.lt h g hg⟩
theorem bt {n : Nat} {a b c : World} (h : Below n a b) (h2 : Below b.heap.size b c) (hn : n ≤ b.heap.size) : Below n a c := h.trans (h2.mono hn)
theorem ksOf_len {P : Nat} {p : Int} {vs : List Vr} {L : List K} (hP : 1 ≤ P ∧ P ≤ 256) (hik : ∀ v ∈ vs, isKey v.k = true) (h : KsOf P p vs L) : L = sortK (ksP P p vs) ∧ L.length ≤ vs.length := by
  have h2 := (ksP_of (p := p) hP hik).2
  have e : L = sortK (ksP P p vs) := rise_unique h.1 h2.1 (fun k => (h.2 k).trans (h2.2 k).symm)
  exact ⟨e, by rw [e]; exact Nat.le_trans (sortK_length _) (ksP_len P p vs)⟩
section
variable (X Y : Nat → Prop) (w : World) (S R P : Nat) (cap last : Int) (av : Value) (vs : List Vr) (B N M : Nat)
set_option maxRecDepth 100000 in
set_option maxHeartbeats 4000000 in
theorem asked6 (h : PO X w S R P cap last av vs) (hQ : BQ Y w B N M) (hN : N ≤ 9000000) (o : Oq) (ho : OqIn o) (hkd : o.kd = 6) :
    Calls Tryz.prog 7 #[ptr S, ptr R, .agg (oqC o), ptr B] w fun e w' => AskP Y w B N M e w' := by
  obtain ⟨kd, k1, k2, ba, ix, v, n, ci, cv, two⟩ := o
  obtain ⟨hk, hba, hix, hv, hcv⟩ := ho
  simp only at hk hba hix hv hcv hkd
  simp only [oqC]
  subst hkd
  obtain ⟨W1, hW1⟩ : ∃ W1, W1 = w.alloc (.cells #[.int .i64 6, .int .i64 k1, .int .i64 k2, .int .i64 ba, .int .i64 ix, .int .i64 v, .int .i64 n, .bool ci, .int .i64 cv, .bool two] 45) := ⟨_, rfl⟩
  obtain ⟨B5, hB5⟩ : ∃ g, g = w.heap.size := ⟨_, rfl⟩
  have hb1 : Below w.heap.size w W1 := by rw [hW1]; exact (Below.refl _ _).alloc (Nat.le_refl _) _
  have b5 : W1.heap[B5]? = some (.cells #[.int .i64 6, .int .i64 k1, .int .i64 k2, .int .i64 ba, .int .i64 ix, .int .i64 v, .int .i64 n, .bool ci, .int .i64 cv, .bool two] 45 (0, 0)) := by rw [hW1, hB5]; exact heap_alloc_new _ _ rfl
  have HP : Hid (∀ U, Below W1.heap.size W1 U → PO X U S R P cap last av vs) := fun U hU => (h.kept hb1).kept hU
  have HBx : Hid (∀ U : World, Below W1.heap.size W1 U → U.cell? ⟨B5, 0, none⟩ = some (.int .i64 6) ∧ U.cell? ⟨B5, 1, none⟩ = some (.int .i64 k1) ∧ U.cell? ⟨B5, 2, none⟩ = some (.int .i64 k2) ∧ U.cell? ⟨B5, 3, none⟩ = some (.int .i64 ba) ∧ U.cell? ⟨B5, 5, none⟩ = some (.int .i64 v) ∧ U.cell? ⟨B5, 6, none⟩ = some (.int .i64 n)) := fun U hU => by
    have hW := (hU.block _ (blk_lt b5)).trans b5
    refine ⟨?_, ?_, ?_, ?_, ?_, ?_⟩ <;> simp [World.cell?, hW]
  have HQ : Hid (∀ U, Below W1.heap.size W1 U → BQ Y U B N M) := fun U hU => (hQ.kept hb1).kept hU
  have HYl : Hid (∀ g, Y g → g < w.heap.size) := hQ.lt
  have HW := hidS hb1
  have HN := hidS hN
  have HK := hidS hk
  obtain ⟨z0, z1, z2, _, _, _⟩ := HBx.out W1 (Below.refl _ _)
  obtain ⟨ys, hys⟩ : ∃ ys, ys = (ofK (k1, k2) vs).reverse := ⟨_, rfl⟩
  have HL : Hid (ys.length ≤ 65536) := by
    show _ ≤ _
    rw [hys, List.length_reverse]
    exact Nat.le_trans (ofK_len _ _) h.len
  have HCh : Hid (∀ U, Below W1.heap.size W1 U → Calls Tryz.prog 28 #[ptr S, .agg #[.int .i64 k1, .int .i64 k2]] U fun e w' => ∃ ao c, e = .returned (.slice ao ys.length c) ∧ NwV U w' (.slice ao ys.length c) ys ∧ Below U.heap.size U w') := fun U hU => (chain_st 0 _ U S P cap last vs (HP.out U hU).st k1 k2 hk).mono fun e w' ⟨v, a1, a2, a3⟩ => by
    have h1 := vrow_rev a2
    rw [← hys] at h1
    obtain ⟨ao, c, rfl⟩ := h1.sl
    exact ⟨ao, c, a1, nwV h1, a3⟩
  have HRc : Hid (∀ U, Below W1.heap.size W1 U → Calls Tryz.prog 29 #[ptr R, .agg #[.int .i64 k1, .int .i64 k2]] U fun e w' => ∃ ao c, e = .returned (.slice ao ys.length c) ∧ NwV U w' (.slice ao ys.length c) ys ∧ Below U.heap.size U w') := fun U hU => (rchain_any U 0 R P cap last av vs (HP.out U hU).rd (HP.out U hU).len (HP.out U hU).pl (HP.out U hU).ba k1 k2).mono fun e w' ⟨v, a1, a2, a3⟩ => by
    have h1 := vrow_rev a2
    rw [← hys] at h1
    obtain ⟨ao, c, rfl⟩ := h1.sl
    exact ⟨ao, c, a1, nwV h1, a3⟩
  obtain ⟨ny, hny⟩ : ∃ ny, ny = ys.length := ⟨_, rfl⟩
  have HNy := hidS hny
  rw [← hny] at HCh HRc
  clear hb1 b5 HP h hk hba hix hv hcv hQ hN hys hny
  go_enter Tryz.func7, Tryz.ntmps7
  go_wp2_with fail
  rw [← hW1, ← hB5]
  clear hW1 hB5
  refine (HCh.out W1 (Below.refl _ _)).mono ?_
  rintro e U1 ⟨o1, c1, rfl, n1, hb1⟩
  have HN1 := hidS n1
  have HB1 := hidS hb1
  clear z1 z2
  obtain ⟨_, z1, z2, _, _, _⟩ := HBx.out U1 hb1
  clear n1 hb1
  go_wp2_with fail
  refine (HCh.out U1 HB1.out).mono ?_
  rintro e U2 ⟨o2, c2, rfl, n2, hb2⟩
  have HN2 := hidS n2
  have HT2 := hidS hb2
  have HB2 := hidS (bt HB1.out hb2 HB1.out.size)
  clear z1 z2
  obtain ⟨_, z1, z2, _, _, _⟩ := HBx.out U2 HB2.out
  clear n2 hb2 HCh
  go_wp2_with fail
  refine (HRc.out U2 HB2.out).mono ?_
  rintro e U3 ⟨o3, c3, rfl, n3, hb3⟩
  have HN3 := hidS n3
  have HT3 := hidS hb3
  have HB3 := hidS (bt HB2.out hb3 HB2.out.size)
  have HV1 : Hid (∀ U, Below U3.heap.size U3 U → VRow U 0 (.slice o1 ny c1) ys) := fun U hU => HN1.out.1 U (bt HT2.out (bt HT3.out hU HT3.out.size) HT2.out.size)
  have HV2 : Hid (∀ U, Below U3.heap.size U3 U → VRow U 0 (.slice o2 ny c2) ys) := fun U hU => HN2.out.1 U (bt HT3.out hU HT3.out.size)
  have HS1 : Hid (∀ q, Calls Tryz.prog 30 #[.slice o1 ny c1, .slice o3 ny c3] (U3.drewN q) fun e w' => e = .returned (.bool true) ∧ ∃ q', w' = U3.drewN q') := fun q => (sameChain_any _ 0 0 _ _ ys (HV1.out _ (drew_below _ _)) (HN3.out.1 _ (drew_below _ _)) HL.out).mono fun e w' ⟨a1, q', a2⟩ => ⟨a1, q + q', by rw [a2, World.drewN_drewN]⟩
  have HS2 : Hid (∀ q, Calls Tryz.prog 30 #[.slice o2 ny c2, .slice o3 ny c3] (U3.drewN q) fun e w' => e = .returned (.bool true) ∧ ∃ q', w' = U3.drewN q') := fun q => (sameChain_any _ 0 0 _ _ ys (HV2.out _ (drew_below _ _)) (HN3.out.1 _ (drew_below _ _)) HL.out).mono fun e w' ⟨a1, q', a2⟩ => ⟨a1, q + q', by rw [a2, World.drewN_drewN]⟩
  clear n3 hb3 HRc z0 z1 z2
  go_wp2_with fail
  refine (HS1.out 0).mono ?_
  rintro e w' ⟨rfl, q1, rfl⟩
  go_wp2_with fail
  refine (HS2.out q1).mono ?_
  rintro e w' ⟨rfl, q2, rfl⟩
  have HB4 : Hid (Below U3.heap.size U3 (U3.drewN q2)) := drew_below _ _
  generalize U3.drewN q2 = U4 at *
  clear HS1 HS2
  have HFin : Hid (Calls Tryz.prog 31 #[ptr B, .slice o1 ny c1, .slice o2 ny c2] U4 fun e w' => e = .returned (.tuple #[]) ∧ AskP Y w B N M (.returned (.bool true)) w') := by
    have hU4 : Below W1.heap.size W1 U4 := bt HB3.out HB4.out HB3.out.size
    have hs1 := HB1.out.size
    have hs2 := HT2.out.size
    have hs3 := HT3.out.size
    have hs4 := HB4.out.size
    have hs0 := HW.out.size
    obtain ⟨vc, vk, vl, vw, cC, cL, cW, cK, yL, nC, nK, hk4⟩ := HQ.out U4 hU4
    have v1 := HV1.out U4 HB4.out
    have v2 := HV2.out U4 HB4.out
    have g1 := HN1.out.2
    have g2 := HN2.out.2
    refine (chain_any U4 0 0 B N vc vk vl vw _ _ _ _ _ ys hk4.t v1 v2 (fun g hg hg2 => by have := g1 g hg; have := g2 g hg2; omega) HL.out HN.out (Nat.zero_le _) (Nat.zero_le _)).mono fun e w' hp => ?_
    obtain ⟨e1, e2, e3⟩ := hk4.chain v1 v2 (fun g hg hy => by have := g1 g hg; have := HYl.out g hy; omega) HL.out hp
    have hbw : Below w.heap.size w U4 := bt HW.out hU4 HW.out.size
    refine ⟨e1, rfl, _, _, _, e2, (Tn.bel (X := Y) hbw).trans e3 (fun k hk hx => ?_), fun k hk => ?_, Nat.le_refl _, by omega⟩
    · rcases hx with hx | hx
      · exact hx
      · have := g1 k hx; omega
    · rcases hk.1 with h1 | h1 | h1 | h1
      · exact .inl h1
      · right; have := g1 k h1; omega
      · right; have := g2 k h1; omega
      · right; have := hbw.size; omega
  clear HV1 HV2 HN1 HN2 HN3 HB1 HB2 HB3 HB4 HT2 HT3 HQ HYl HW HN HK HBx HL HNy
  go_wp2_with fail
  refine HFin.out.mono ?_
  rintro e w9 ⟨rfl, h9⟩
  have HE := hidS h9
  clear h9 HFin
  go_wp2
  go_ret
  exact HE.out
set_option maxRecDepth 100000 in
set_option maxHeartbeats 4000000 in
theorem asked7 (h : PO X w S R P cap last av vs) (hQ : BQ Y w B N M) (hM : M ≤ 8999999) (o : Oq) (ho : OqIn o) (hkd : o.kd = 7) :
    Calls Tryz.prog 7 #[ptr S, ptr R, .agg (oqC o), ptr B] w fun e w' => AskP Y w B N M e w' := by
  obtain ⟨kd, k1, k2, ba, ix, v, n, ci, cv, two⟩ := o
  obtain ⟨hk, hba, hix, hv, hcv⟩ := ho
  simp only at hk hba hix hv hcv hkd
  simp only [oqC]
  subst hkd
  obtain ⟨W1, hW1⟩ : ∃ W1, W1 = w.alloc (.cells #[.int .i64 7, .int .i64 k1, .int .i64 k2, .int .i64 ba, .int .i64 ix, .int .i64 v, .int .i64 n, .bool ci, .int .i64 cv, .bool two] 45) := ⟨_, rfl⟩
  obtain ⟨B5, hB5⟩ : ∃ g, g = w.heap.size := ⟨_, rfl⟩
  have hb1 : Below w.heap.size w W1 := by rw [hW1]; exact (Below.refl _ _).alloc (Nat.le_refl _) _
  have b5 : W1.heap[B5]? = some (.cells #[.int .i64 7, .int .i64 k1, .int .i64 k2, .int .i64 ba, .int .i64 ix, .int .i64 v, .int .i64 n, .bool ci, .int .i64 cv, .bool two] 45 (0, 0)) := by rw [hW1, hB5]; exact heap_alloc_new _ _ rfl
  have HP : Hid (∀ U, Below W1.heap.size W1 U → PO X U S R P cap last av vs) := fun U hU => (h.kept hb1).kept hU
  have HBx : Hid (∀ U : World, Below W1.heap.size W1 U → U.cell? ⟨B5, 0, none⟩ = some (.int .i64 7) ∧ U.cell? ⟨B5, 1, none⟩ = some (.int .i64 k1) ∧ U.cell? ⟨B5, 2, none⟩ = some (.int .i64 k2) ∧ U.cell? ⟨B5, 3, none⟩ = some (.int .i64 ba) ∧ U.cell? ⟨B5, 5, none⟩ = some (.int .i64 v) ∧ U.cell? ⟨B5, 6, none⟩ = some (.int .i64 n)) := fun U hU => by
    have hW := (hU.block _ (blk_lt b5)).trans b5
    refine ⟨?_, ?_, ?_, ?_, ?_, ?_⟩ <;> simp [World.cell?, hW]
  have HQ : Hid (∀ U, Below W1.heap.size W1 U → BQ Y U B N M) := fun U hU => (hQ.kept hb1).kept hU
  have HYl : Hid (∀ g, Y g → g < w.heap.size) := hQ.lt
  have HW := hidS hb1
  have HM := hidS hM
  obtain ⟨z0, _, _, _, _, z6⟩ := HBx.out W1 (Below.refl _ _)
  obtain ⟨ys, hys⟩ : ∃ ys, ys = sortK (ksP P n vs) := ⟨_, rfl⟩
  have hks : ∀ {L}, KsOf P n vs L → L = ys ∧ ys.length ≤ 65536 := fun {L} hL => by
    obtain ⟨e1, e2⟩ := ksOf_len h.st.P0 h.st.ik hL
    rw [hys, ← e1]
    exact ⟨rfl, Nat.le_trans e2 h.len⟩
  have HL : Hid (ys.length ≤ 65536) := (hks (ksP_of (p := n) h.st.P0 h.st.ik).2).2
  have HCh : Hid (∀ U, Below W1.heap.size W1 U → Calls Tryz.prog 32 #[ptr S, .int .i64 n] U fun e w' => ∃ ao c, e = .returned (.slice ao ys.length c) ∧ NwK U w' (.slice ao ys.length c) ys ∧ Below U.heap.size U w') := fun U hU => (keys_st 0 _ U S P cap last vs (HP.out U hU).st n).mono fun e w' ⟨v, L, a1, a2, a4, a3⟩ => by
    obtain ⟨rfl, _⟩ := hks a4
    obtain ⟨ao, c, rfl, _⟩ := a2.slice
    exact ⟨ao, c, a1, nwK a2, a3⟩
  have HRc : Hid (∀ U, Below W1.heap.size W1 U → Calls Tryz.prog 33 #[ptr R, .int .i64 n] U fun e w' => ∃ ao c, e = .returned (.slice ao ys.length c) ∧ NwK U w' (.slice ao ys.length c) ys ∧ Below U.heap.size U w') := fun U hU => (rkeys_any U 0 R P cap last av vs (HP.out U hU).rd (HP.out U hU).len (HP.out U hU).st.P0 (HP.out U hU).st.ik (fun v hv => ((HP.out U hU).st.inn v hv).1.2) n).mono fun e w' ⟨v, L, a1, a2, a4, a3⟩ => by
    obtain ⟨rfl, _⟩ := hks a4
    obtain ⟨ao, c, rfl, _⟩ := a2.slice
    exact ⟨ao, c, a1, nwK a2, a3⟩
  obtain ⟨ny, hny⟩ : ∃ ny, ny = ys.length := ⟨_, rfl⟩
  have HNy := hidS hny
  rw [← hny] at HCh HRc
  clear hb1 b5 HP h hk hba hix hv hcv hQ hM hys hny hks
  go_enter Tryz.func7, Tryz.ntmps7
  go_wp2_with fail
  rw [← hW1, ← hB5]
  clear hW1 hB5
  refine (HCh.out W1 (Below.refl _ _)).mono ?_
  rintro e U1 ⟨o1, c1, rfl, n1, hb1⟩
  have HN1 := hidS n1
  have HB1 := hidS hb1
  clear z6
  obtain ⟨_, _, _, _, _, z6⟩ := HBx.out U1 hb1
  clear n1 hb1
  go_wp2_with fail
  refine (HCh.out U1 HB1.out).mono ?_
  rintro e U2 ⟨o2, c2, rfl, n2, hb2⟩
  have HN2 := hidS n2
  have HT2 := hidS hb2
  have HB2 := hidS (bt HB1.out hb2 HB1.out.size)
  clear z6
  obtain ⟨_, _, _, _, _, z6⟩ := HBx.out U2 HB2.out
  clear n2 hb2 HCh
  go_wp2_with fail
  refine (HRc.out U2 HB2.out).mono ?_
  rintro e U3 ⟨o3, c3, rfl, n3, hb3⟩
  have HN3 := hidS n3
  have HT3 := hidS hb3
  have HB3 := hidS (bt HB2.out hb3 HB2.out.size)
  have HV1 : Hid (∀ U, Below U3.heap.size U3 U → OwnK U 0 (.slice o1 ny c1) ys) := fun U hU => HN1.out.1 U (bt HT2.out (bt HT3.out hU HT3.out.size) HT2.out.size)
  have HV2 : Hid (∀ U, Below U3.heap.size U3 U → OwnK U 0 (.slice o2 ny c2) ys) := fun U hU => HN2.out.1 U (bt HT3.out hU HT3.out.size)
  have HS1 : Hid (∀ q, Calls Tryz.prog 34 #[.slice o1 ny c1, .slice o3 ny c3] (U3.drewN q) fun e w' => e = .returned (.bool true) ∧ ∃ q', w' = U3.drewN q') := fun q => (sameKeysP_any _ 0 0 _ _ ys (HV1.out _ (drew_below _ _)) (HN3.out.1 _ (drew_below _ _)) HL.out).mono fun e w' ⟨a1, q', a2⟩ => ⟨a1, q + q', by rw [a2, World.drewN_drewN]⟩
  have HS2 : Hid (∀ q, Calls Tryz.prog 34 #[.slice o2 ny c2, .slice o3 ny c3] (U3.drewN q) fun e w' => e = .returned (.bool true) ∧ ∃ q', w' = U3.drewN q') := fun q => (sameKeysP_any _ 0 0 _ _ ys (HV2.out _ (drew_below _ _)) (HN3.out.1 _ (drew_below _ _)) HL.out).mono fun e w' ⟨a1, q', a2⟩ => ⟨a1, q + q', by rw [a2, World.drewN_drewN]⟩
  clear n3 hb3 HRc z0 z6
  go_wp2_with fail
  refine (HS1.out 0).mono ?_
  rintro e w' ⟨rfl, q1, rfl⟩
  go_wp2_with fail
  refine (HS2.out q1).mono ?_
  rintro e w' ⟨rfl, q2, rfl⟩
  have HB4 : Hid (Below U3.heap.size U3 (U3.drewN q2)) := drew_below _ _
  generalize U3.drewN q2 = U4 at *
  clear HS1 HS2
  have HFin : Hid (Calls Tryz.prog 35 #[ptr B, .slice o1 ny c1] U4 fun e w' => e = .returned (.tuple #[]) ∧ Calls Tryz.prog 35 #[ptr B, .slice o2 ny c2] w' fun e w' => e = .returned (.tuple #[]) ∧ AskP Y w B N M (.returned (.bool true)) w') := by
    have hU4 : Below W1.heap.size W1 U4 := bt HB3.out HB4.out HB3.out.size
    have hs1 := HB1.out.size
    have hs2 := HT2.out.size
    have hs3 := HT3.out.size
    have hs4 := HB4.out.size
    have hs0 := HW.out.size
    have hm := HM.out
    obtain ⟨vc, vk, vl, vw, cC, cL, cW, cK, yL, nC, nK, hk4⟩ := HQ.out U4 hU4
    have v1 := HV1.out U4 HB4.out
    have v2 := HV2.out U4 HB4.out
    have g1 := HN1.out.2
    have g2 := HN2.out.2
    have hbw : Below w.heap.size w U4 := bt HW.out hU4 HW.out.size
    refine (set_any U4 0 0 B M vc vk vl vw _ cK ys hk4.t.bx hk4.rk v1 HL.out (by omega) (Nat.zero_le _) (Nat.zero_le _)).mono fun e w5 hp => ?_
    obtain ⟨e1, e2, e3⟩ := hk4.set v1 (fun g hg hy => by have := g1 g hg; have := HYl.out g hy; omega) HL.out hp
    refine ⟨e1, ?_⟩
    have hz5 := e3.size
    have v25 : OwnK w5 0 (.slice o2 ny c2) ys := OwnK.same v2 (fun g hg => e3.block g (OwnK.lt v2 g hg).2 (fun hx => by
      have h2 := g2 g hg
      rcases hx with hx | hx
      · have := HYl.out g hx; omega
      · have := g1 g hx; omega))
    obtain ⟨vc5, vk5, vl5, vw5, cC5, cL5, cW5, cK5, yL5, nC5, nK5, hk5⟩ := e2
    refine (set_any w5 0 0 B (M + 1) vc5 vk5 vl5 vw5 _ cK5 ys hk5.t.bx hk5.rk v25 HL.out (by omega) (Nat.zero_le _) (Nat.zero_le _)).mono fun e w6 hp => ?_
    obtain ⟨f1, f2, f3⟩ := hk5.set v25 (fun g hg hy => by
      have h2 := g2 g hg
      rcases hy.1 with h1 | h1 | h1 | h1
      · have := HYl.out g h1; omega
      · have := g1 g h1; omega
      · have := g1 g h1; omega
      · omega) HL.out hp
    refine ⟨f1, rfl, _, _, _, f2, (((Tn.bel (X := Y) hbw).trans e3 (fun k hk hx => ?_)).trans f3 (fun k hk hx => ?_)), fun k hk => ?_, by omega, by omega⟩
    · rcases hx with hx | hx
      · exact hx
      · have := g1 k hx; omega
    · rcases hx with hx | hx
      · rcases hx.1 with h1 | h1 | h1 | h1
        · exact h1
        · have := g1 k h1; omega
        · have := g1 k h1; omega
        · have := hbw.size; omega
      · have := g2 k hx; omega
    · have hz := hbw.size
      rcases hk.1 with h1 | h1 | h1 | h1
      · rcases h1.1 with h1 | h1 | h1 | h1
        · exact .inl h1
        · right; have := g1 k h1; omega
        · right; have := g1 k h1; omega
        · right; omega
      · right; have := g2 k h1; omega
      · right; have := g2 k h1; omega
      · right; omega
  clear HV1 HV2 HN1 HN2 HN3 HB1 HB2 HB3 HB4 HT2 HT3 HQ HYl HW HM HBx HL HNy
  go_wp2_with fail
  refine HFin.out.mono ?_
  rintro e w8 ⟨rfl, h8⟩
  have HF2 := hidS h8
  clear h8 HFin
  go_wp2_with fail
  refine HF2.out.mono ?_
  rintro e w9 ⟨rfl, h9⟩
  have HE := hidS h9
  clear h9 HF2
  go_wp2
  go_ret
  exact HE.out
end
end Go.Proofs.YtbcmmeajglilbaaGreat
/-
  StorePlays: THE BOOK'S whole.
-/
namespace Go.Proofs.YtbcmmeajglilbaaGreat
open Go.RowKit Go.Sort

theorem one_at {w : World} {T n : Nat} {co : Option Addr} {cc : Nat} {f : Nat → Value} (h : w.ownsRow 0 T 1 (.slice co n cc) n ((List.range n).map f)) {i : Nat} (hi : i < n) : ∃ g, co = some ⟨g, 0, none⟩ ∧ w.cell? ⟨g, i, none⟩ = some (f i) := by
  have hr := h
  obtain ⟨_, ⟨_, h2⟩ | ⟨g, c, _, h1, _⟩⟩ := h
  · omega
  · simp only [Value.slice.injEq] at h1
    obtain ⟨rfl, _, rfl⟩ := h1
    refine ⟨g, rfl, ?_⟩
    rw [World.ownsRow.cellAt hr i (by omega)]
    simp [hi]
theorem key_at {w : World} {b : Nat} {o : Option Addr} {n c : Nat} {L : List K} (h : OwnK w b (.slice o n c) L) {j : Nat} (hj : j < L.length) : ∃ g, o = some ⟨g, 0, none⟩ ∧ w.cell? ⟨g, j * 2, none⟩ = some (.int .i64 (kd L j).1) ∧ w.cell? ⟨g, j * 2 + 1, none⟩ = some (.int .i64 (kd L j).2) := by
  rcases h.shape with ⟨_, rfl⟩ | ⟨g, cap, h1, _, _, _, _, hc⟩
  · simp at hj
  · simp only [Value.slice.injEq] at h1
    obtain ⟨rfl, _, _⟩ := h1
    rcases hc with h0 | ⟨g', o', h2, hc⟩
    · rw [h0] at hj; simp at hj
    · simp only [Option.some.injEq, Addr.mk.injEq] at h2
      obtain ⟨rfl, rfl, _⟩ := h2
      obtain ⟨p0, p1⟩ := KeysAt.at hc j hj
      simp only [Nat.zero_add] at p0 p1
      exact ⟨g, rfl, p0, p1⟩
theorem mks_kd {i n j : Nat} (hj : j < n) : kd (mks i n) j = mkP i j := by
  unfold kd
  simp [mks, hj]
section
variable {Y : Nat → Prop} {w : World} {B N M : Nat} {vc vk vl vw : Value} {cC cL cW cK : Nat → Value} {yL : Nat → List Vr} {nC nK : Nat → Nat}
set_option maxRecDepth 100000 in
set_option maxHeartbeats 4000000 in
theorem whole_any (h : BkA Y w B N M vc vk vl vw cC cL cW cK yL nC nK) (hN : N ≤ 9000000) (hM : M ≤ 9000000) :
    Calls Tryz.prog 9 #[ptr B] w fun e w' => TruD w e w' := by
  obtain ⟨co, cc, rfl⟩ := row_slice h.t.rc
  obtain ⟨ko, kc, rfl⟩ := row_slice h.rk
  obtain ⟨lo, lc, rfl⟩ := row_slice h.t.rl
  obtain ⟨wo, wc, rfl⟩ := row_slice h.t.rw
  have b0 : w.cell? ⟨B, 0, none⟩ = some (.slice co N cc) := by simp [World.cell?, h.t.bx]
  have b1 : w.cell? ⟨B, 1, none⟩ = some (.slice ko M kc) := by simp [World.cell?, h.t.bx]
  have b2 : w.cell? ⟨B, 2, none⟩ = some (.slice lo N lc) := by simp [World.cell?, h.t.bx]
  have b3 : w.cell? ⟨B, 3, none⟩ = some (.slice wo N wc) := by simp [World.cell?, h.t.bx]
  have HB2 : Hid (∀ q, (w.drewN q).cell? ⟨B, 2, none⟩ = some (.slice lo N lc) ∧ (w.drewN q).cell? ⟨B, 3, none⟩ = some (.slice wo N wc)) := fun q => ⟨b2, b3⟩
  have H0 : Hid (∀ i, i < N → ∃ g o n c, co = some ⟨g, 0, none⟩ ∧ w.cell? ⟨g, i, none⟩ = some (.slice o n c) ∧ n ≤ 65576 ∧ ∀ j, j < n → ∃ g', o = some ⟨g', 0, none⟩ ∧ w.cell? ⟨g', j * 5, none⟩ = some (.int .i64 (-1 - (i : Int))) ∧ w.cell? ⟨g', j * 5 + 1, none⟩ = some (.int .i64 (j : Int)) ∧ w.cell? ⟨g', j * 5 + 2, none⟩ = some (.bool false) ∧ w.cell? ⟨g', j * 5 + 3, none⟩ = some (.bool false) ∧ w.cell? ⟨g', j * 5 + 4, none⟩ = some (.int .i64 0)) := fun i hi => by
    obtain ⟨g, e1, e2⟩ := one_at h.t.rc hi
    obtain ⟨hv, hn⟩ := h.c i hi
    obtain ⟨o, c, e3⟩ := hv.sl
    rw [mvs_len] at e3
    rw [e3] at e2
    refine ⟨g, o, nC i, c, e1, e2, hn, fun j hj => ?_⟩
    obtain ⟨g', c', e4, p0, p1, p2, p3, p4⟩ := hv.at (i := j) (by rw [mvs_len]; exact hj)
    rw [e3] at e4
    simp only [Value.slice.injEq] at e4
    rw [mvs_at hj] at p0 p1 p2 p3 p4
    exact ⟨g', e4.1, p0, p1, p2, p3, p4⟩
  have H1 : Hid (∀ i, i < M → ∃ g o n c, ko = some ⟨g, 0, none⟩ ∧ w.cell? ⟨g, i, none⟩ = some (.slice o n c) ∧ n ≤ 65576 ∧ ∀ j, j < n → ∃ g', o = some ⟨g', 0, none⟩ ∧ w.cell? ⟨g', j * 2, none⟩ = some (.int .i64 (-1 - (i : Int))) ∧ w.cell? ⟨g', j * 2 + 1, none⟩ = some (.int .i64 (j : Int))) := fun i hi => by
    obtain ⟨g, e1, e2⟩ := one_at h.rk hi
    obtain ⟨hv, hn⟩ := h.k i hi
    obtain ⟨o, c, e3, _⟩ := hv.slice
    rw [mks_len] at e3
    rw [e3] at e2 hv
    refine ⟨g, o, nK i, c, e1, e2, hn, fun j hj => ?_⟩
    obtain ⟨g', e4, p0, p1⟩ := key_at hv (j := j) (by rw [mks_len]; exact hj)
    rw [mks_kd hj] at p0 p1
    exact ⟨g', e4, p0, p1⟩
  have H2 : Hid (∀ i, i < N → ∃ g g2 x y, lo = some ⟨g, 0, none⟩ ∧ wo = some ⟨g2, 0, none⟩ ∧ (∀ q, (w.drewN q).cell? ⟨g, i, none⟩ = some x ∧ (w.drewN q).cell? ⟨g2, i, none⟩ = some y) ∧ (∃ o n c, x = .slice o n c) ∧ (∃ o n c, y = .slice o n c) ∧ ∀ q q', Calls Tryz.prog 30 #[x, y] ((w.drewN q).drewN q') fun e w' => e = .returned (.bool true) ∧ ∃ q2, w' = (w.drewN q).drewN q2) := fun i hi => by
    obtain ⟨g, e1, e2⟩ := one_at h.t.rl hi
    obtain ⟨g2, e3, e4⟩ := one_at h.t.rw hi
    obtain ⟨hv, hn⟩ := h.l i hi
    have hv2 := h.v i hi
    refine ⟨g, g2, cL i, cW i, e1, e3, fun q => ⟨e2, e4⟩, ?_, ?_, fun q q' => ?_⟩
    · obtain ⟨o, c, e5⟩ := hv.sl
      exact ⟨o, _, c, e5⟩
    · obtain ⟨o, c, e5⟩ := hv2.sl
      exact ⟨o, _, c, e5⟩
    · exact (sameChain_any ((w.drewN q).drewN q') 0 0 _ _ (yL i) (hv.same (fun _ _ => rfl)) (hv2.same (fun _ _ => rfl)) hn).mono fun e w' ⟨a1, q2, a2⟩ => ⟨a1, q' + q2, by rw [a2, World.drewN_drewN]⟩
  clear h
  go_enter Tryz.func9, Tryz.ntmps9
  go_wp2_with fail
  go_loopw [3, 4] (fun x _ wr => ∃ (i : Nat), i ≤ N ∧ x = .int .i64 (i : Int) ∧ wr = w) (fun x _ _ => N - (intOf x).toNat)
  case atStart => exact ⟨0, Nat.zero_le _, rfl, rfl⟩
  case round =>
    obtain ⟨i, hi, rfl, hwe⟩ := hrel
    subst hwe
    by_cases hlt : i < N
    · obtain ⟨g, o, n, c, rfl, d0, hn, hj⟩ := H0.out i hlt
      have HJ := hidS hj
      clear hj
      go_wp2_with fail
      go_loopw [4] (fun x wq => ∃ (j : Nat), j ≤ n ∧ x = .int .i64 (j : Int) ∧ wq = wr) (fun x _ => n - (intOf x).toNat)
      case atStart => exact ⟨0, Nat.zero_le _, rfl, rfl⟩
      case round =>
        obtain ⟨j, hjn, rfl, hwe⟩ := hrel
        subst hwe
        by_cases hlj : j < n
        · obtain ⟨g', rfl, p0, p1, p2, p3, p4⟩ := HJ.out j hlj
          have hq := run_neVer (-1 - (i : Int)) (j : Int) false false 0
          have hgd := fun op a b => run_guardV op a b (-1 - (i : Int)) (j : Int) false false 0
          go_wp2
          exact ⟨⟨j + 1, by omega, by go_num, trivial⟩, by simp [intOf]; omega⟩
        · have hje : j = n := by omega
          subst hje
          clear HJ
          go_wp2
          exact ⟨⟨i + 1, by omega, by go_num, trivial⟩, by simp [intOf]; omega⟩
    · have hie : i = N := by omega
      subst hie
      clear H0
      go_wp2_with fail
      go_loopw [5, 6] (fun x _ wq => ∃ (i : Nat), i ≤ M ∧ x = .int .i64 (i : Int) ∧ wq = wr) (fun x _ _ => M - (intOf x).toNat)
      case atStart => exact ⟨0, Nat.zero_le _, rfl, rfl⟩
      case round =>
        obtain ⟨k, hk, rfl, hwe⟩ := hrel
        subst hwe
        by_cases hlt2 : k < M
        · obtain ⟨g, o, n, c, rfl, d0, hn, hj⟩ := H1.out k hlt2
          have HJ := hidS hj
          clear hj
          go_wp2_with fail
          go_loopw [6] (fun x wq => ∃ (j : Nat), j ≤ n ∧ x = .int .i64 (j : Int) ∧ wq = wr) (fun x _ => n - (intOf x).toNat)
          case atStart => exact ⟨0, Nat.zero_le _, rfl, rfl⟩
          case round =>
            obtain ⟨j, hjn, rfl, hwe⟩ := hrel
            subst hwe
            by_cases hlj : j < n
            · obtain ⟨g', rfl, p0, p1⟩ := HJ.out j hlj
              have hq := run_neKey (-1 - (k : Int)) (j : Int) (-1 - (k : Int)) (j : Int)
              have hgd := fun op a b => run_eqGuard op a b (-1 - (k : Int)) (j : Int) (-1 - (k : Int)) (j : Int)
              rw [decide_eq_true rfl] at hq
              go_wp2
              exact ⟨⟨j + 1, by omega, by go_num, trivial⟩, by simp [intOf]; omega⟩
            · have hje : j = n := by omega
              subst hje
              clear HJ
              go_wp2
              exact ⟨⟨k + 1, by omega, by go_num, trivial⟩, by simp [intOf]; omega⟩
        · have hke : k = M := by omega
          subst hke
          clear H1
          go_wp2_with fail
          obtain ⟨w0, hw0⟩ : ∃ w0, w0 = wr := ⟨_, rfl⟩
          have HPost : Hid (∀ q, TruD wr (.returned (.bool true)) (w0.drewN q)) := fun q => ⟨rfl, q, by rw [hw0]⟩
          have HW0 := hidS hw0
          rw [← hw0] at HB2 H2
          clear hw0 b2 b3
          go_loopw [7] (fun x wq => ∃ (t : Nat), t ≤ i ∧ x = .int .i64 (t : Int) ∧ Hid (∃ q, wq = w0.drewN q)) (fun x _ => i - (intOf x).toNat)
          case atStart => exact ⟨0, Nat.zero_le _, rfl, 0, by rw [HW0.out]; rfl⟩
          case round =>
            obtain ⟨t, ht, rfl, HQ⟩ := hrel
            obtain ⟨q, hq⟩ := HQ.out
            obtain ⟨c2, c3⟩ := HB2.out q
            rw [← hq] at c2 c3
            by_cases hlt3 : t < i
            · obtain ⟨g, g2, x, y, rfl, rfl, hc, ⟨o5, n5, c5, rfl⟩, ⟨o6, n6, c6, rfl⟩, hcall⟩ := H2.out t hlt3
              obtain ⟨d0, d1⟩ := hc q
              rw [← hq] at d0 d1
              have HC : Hid (∀ q', Calls Tryz.prog 30 #[.slice o5 n5 c5, .slice o6 n6 c6] (wr.drewN q') fun e w' => e = .returned (.bool true) ∧ ∃ q2, w' = wr.drewN q2) := fun q' => by rw [hq]; exact hcall q q'
              have HD : Hid (∀ q', ∃ q2, wr.drewN q' = w0.drewN q2) := fun q' => ⟨q + q', by rw [hq, World.drewN_drewN]⟩
              clear hq hc hcall
              go_upto_region 20 with fail
              go_quiet (first | (go_at_call 30; exact HC.out _))
              have HZ := hidS (HD.out nq)
              clear HC HD d0 d1 c2 c3
              generalize wr.drewN nq = W2 at *
              go_wp2
              exact ⟨⟨t + 1, by omega, by go_num, HZ⟩, by simp [intOf]; omega⟩
            · have hte : t = i := by omega
              subst hte
              have HF := hidS (HPost.out q)
              rw [← hq] at HF
              clear hq
              go_wp2
              go_ret
              exact HF.out
end
end Go.Proofs.YtbcmmeajglilbaaGreat
/-
  StorePlays: BOTH PAIRS AND THE BOOK.
-/
namespace Go.Proofs.YtbcmmeajglilbaaGreat
open Go.RowKit Go.Sort

/-- blocks of G stay -/
structure FrG (G : Nat → Prop) (w w' : World) : Prop where
  os : w'.os = w.os
  tape : w'.tape = w.tape
  output : w'.output = w.output
  size : w.heap.size ≤ w'.heap.size
  block : ∀ k, k < w.heap.size → G k → w'.heap[k]? = w.heap[k]?
theorem FrG.bel {G : Nat → Prop} {w w' : World} (h : Below w.heap.size w w') : FrG G w w' := ⟨h.os, h.tape, h.output, h.size, fun k hk _ => h.block k hk⟩
theorem FrG.trans {G : Nat → Prop} {a b c : World} (h : FrG G a b) (h2 : FrG G b c) : FrG G a c :=
  ⟨h2.os.trans h.os, h2.tape.trans h.tape, h2.output.trans h.output, Nat.le_trans h.size h2.size, fun k hk hg => (h2.block k (Nat.lt_of_lt_of_le hk h.size) hg).trans (h.block k hk hg)⟩
theorem FrG.sub {G G' : Nat → Prop} {a b : World} (h : FrG G a b) (hs : ∀ k, G' k → G k) : FrG G' a b := ⟨h.os, h.tape, h.output, h.size, fun k hk hg => h.block k hk (hs k hg)⟩
theorem FrG.tn {G X : Nat → Prop} {a b : World} (h : Tn X a b) (hd : ∀ k, X k → ¬ G k) : FrG G a b := ⟨h.os, h.tape, h.output, h.size, fun k hk hg => h.block k hk (fun hx => hd k hx hg)⟩
/-- a pair, or none -/
def PT (X : Nat → Prop) (w : World) (s r : Value) (l : Int) : Prop := (s = .pointer none ∧ r = .pointer none ∧ l = 0 ∧ ∀ k, ¬ X k) ∨ ∃ S R P cap av vs, s = ptr S ∧ r = ptr R ∧ PO X w S R P cap l av vs
theorem PT.tn {X Y : Nat → Prop} {w w' : World} {s r : Value} {l : Int} (h : PT X w s r l) (ht : Tn Y w w') (hd : ∀ k, X k → ¬ Y k) : PT X w' s r l := by
  rcases h with h | ⟨S, R, P, cap, av, vs, e1, e2, h⟩
  · exact .inl h
  · exact .inr ⟨S, R, P, cap, av, vs, e1, e2, h.tn ht hd⟩
theorem PT.lt {X : Nat → Prop} {w : World} {s r : Value} {l : Int} (h : PT X w s r l) : ∀ k, X k → k < w.heap.size := by
  rcases h with ⟨_, _, _, h⟩ | ⟨S, R, P, cap, av, vs, e1, e2, h⟩
  · exact fun k hk => absurd hk (h k)
  · exact h.lt
theorem PT.l0 {X : Nat → Prop} {w : World} {s r : Value} {l : Int} (h : PT X w s r l) : 0 ≤ l := by
  rcases h with ⟨_, _, h, _⟩ | ⟨S, R, P, cap, av, vs, e1, e2, h⟩
  · omega
  · exact h.l0
/-- both pairs, apart from each other and from G -/
def LP (G : Nat → Prop) (ss rs : Nat → Value) (w : World) (ls : Nat → Int) (Xs : Nat → Nat → Prop) : Prop :=
  (∀ t, t < 2 → PT (Xs t) w (ss t) (rs t) (ls t)) ∧ (∀ s t k, s < 2 → t < 2 → s ≠ t → Xs s k → ¬ Xs t k) ∧ ∀ t k, t < 2 → Xs t k → ¬ G k
/-- both pairs and the book -/
def LSa (G : Nat → Prop) (B : Nat) (ss rs : Nat → Value) (w : World) (ls : Nat → Int) (N M : Nat) : Prop :=
  ∃ Xs Y, LP G ss rs w ls Xs ∧ BQ Y w B N M ∧ (∀ t k, t < 2 → Xs t k → ¬ Y k) ∧ (∀ k, Y k → ¬ G k) ∧ ∀ k, G k → k < w.heap.size
section
variable {G : Nat → Prop} {B N M : Nat} {ss rs : Nat → Value} {w w' : World} {ls : Nat → Int}
theorem LP.tn {Xs : Nat → Nat → Prop} {Y : Nat → Prop} (h : LP G ss rs w ls Xs) (ht : Tn Y w w') (hd : ∀ t k, t < 2 → Xs t k → ¬ Y k) : LP G ss rs w' ls Xs := ⟨fun t h2 => (h.1 t h2).tn ht (fun k hk => hd t k h2 hk), h.2.1, h.2.2⟩
theorem LSa.kept (h : LSa G B ss rs w ls N M) (hb : Below w.heap.size w w') : LSa G B ss rs w' ls N M := by
  obtain ⟨Xs, Y, h1, h2, h3, h4, hGl⟩ := h
  exact ⟨Xs, Y, h1.tn (Y := fun _ => False) ⟨hb.os, hb.tape, hb.output, hb.size, fun k hk _ => hb.block k hk⟩ (fun _ _ _ _ h => h), h2.kept hb, h3, h4, fun k hk => Nat.lt_of_lt_of_le (hGl k hk) hb.size⟩
/-- a block of G turns -/
theorem LSa.turn (h : LSa G B ss rs w ls N M) {Z : Nat → Prop} (ht : Tn Z w w') (hz : ∀ k, Z k → G k) : LSa G B ss rs w' ls N M := by
  obtain ⟨Xs, Y, h1, h2, h3, h4, hGl⟩ := h
  exact ⟨Xs, Y, h1.tn ht (fun t k h5 hx hZ => h1.2.2 t k h5 hx (hz k hZ)), h2.tn ht (fun k hy hZ => h4 k hy (hz k hZ)), h3, h4, fun k hk => Nat.lt_of_lt_of_le (hGl k hk) ht.size⟩
/-- what is new stays outside -/
theorem LSa.more (h : LSa G B ss rs w ls N M) (hb : Below w.heap.size w w') {G' : Nat → Prop} (hg : ∀ k, G' k → (G k ∨ w.heap.size ≤ k) ∧ k < w'.heap.size) : LSa G' B ss rs w' ls N M := by
  obtain ⟨Xs, Y, h1, h2, h3, h4, hGl⟩ := h
  refine ⟨Xs, Y, ⟨fun t h5 => (h1.1 t h5).tn (Y := fun _ => False) ⟨hb.os, hb.tape, hb.output, hb.size, fun k hk _ => hb.block k hk⟩ (fun _ _ h => h), h1.2.1, fun t k h5 hx hg' => ?_⟩, h2.kept hb, h3, fun k hy hg' => ?_, fun k hk => (hg k hk).2⟩
  · rcases (hg k hg').1 with h6 | h6
    · exact h1.2.2 t k h5 hx h6
    · have := (h1.1 t h5).lt k hx; omega
  · rcases (hg k hg').1 with h6 | h6
    · exact h4 k hy h6
    · have := h2.lt k hy; omega
theorem LSa.sub (h : LSa G B ss rs w ls N M) {G' : Nat → Prop} (hg : ∀ k, G' k → G k) : LSa G' B ss rs w ls N M := by
  have hGl := h
  obtain ⟨_, _, _, _, _, _, hGl⟩ := hGl
  exact h.more (Below.refl _ _) (fun k hk => ⟨.inl (hg k hk), hGl k (hg k hk)⟩)
theorem LSa.cases (h : LSa G B ss rs w ls N M) {t : Nat} (ht : t < 2) : (ss t = .pointer none) ∨ ∃ S R, ss t = ptr S ∧ rs t = ptr R := by
  obtain ⟨Xs, Y, h1, h2, h3, h4, hGl⟩ := h
  rcases h1.1 t ht with ⟨h, _⟩ | ⟨S, R, _, _, _, _, e1, e2, _⟩
  · exact .inl h
  · exact .inr ⟨S, R, e1, e2⟩
theorem LSa.l0 (h : LSa G B ss rs w ls N M) {t : Nat} (ht : t < 2) : 0 ≤ ls t := by
  obtain ⟨Xs, Y, h1, h2, h3, h4, hGl⟩ := h
  exact (h1.1 t ht).l0
theorem LSa.last (h : LSa G B ss rs w ls N M) {t : Nat} (ht : t < 2) {R : Nat} (hr : rs t = ptr R) : w.cell? ⟨R, 3, none⟩ = some (.int .i64 (ls t)) := by
  obtain ⟨Xs, Y, h1, h2, h3, h4, hGl⟩ := h
  rcases h1.1 t ht with ⟨_, h, _⟩ | ⟨S, R', _, _, _, _, e1, e2, hp⟩
  · rw [hr] at h; cases h
  · rw [hr] at e2
    simp only [ptr, Value.pointer.injEq, Option.some.injEq, Addr.mk.injEq, and_true] at e2
    subst e2
    exact hp.rd.cells.2.2.2
def PostC (G : Nat → Prop) (B : Nat) (ss rs : Nat → Value) (w : World) (ls : Nat → Int) (t : Nat) (N M : Nat) (e : Ending) (w' : World) : Prop := e = .returned (.bool true) ∧ FrG G w w' ∧ ∃ l', l' ≤ ls t + 1 ∧ LSa G B ss rs w' (updN ls t l') N M
theorem LSa.changed (h : LSa G B ss rs w ls N M) {t : Nat} (ht : t < 2) (hs : ss t ≠ .pointer none) (hl : ls t + 1 ≤ 1000000000000000) (o : Oq) (ho : OqIn o) :
    Calls Tryz.prog 6 #[ss t, rs t, .agg (oqC o)] w fun e w' => PostC G B ss rs w ls t N M e w' := by
  obtain ⟨Xs, Y, h1, h2, h3, h4, hGl⟩ := h
  rcases h1.1 t ht with ⟨h, _⟩ | ⟨S, R, P, cap, av, vs, e1, e2, hp⟩
  · exact absurd h hs
  · rw [e1, e2]
    refine (changed_any (Xs t) w S R P cap (ls t) av vs hp hl o ho).mono fun e w' ⟨a1, X', l', av', vs', p1, p2, p3, p4⟩ => ?_
    have hlt := fun s (hs : s < 2) => (h1.1 s hs).lt
    refine ⟨a1, FrG.tn p2 (fun k hk => h1.2.2 t k ht hk), l', p4, updN Xs t X', Y, ⟨fun s h5 => ?_, fun a b k ha hb hne hx hy => ?_, fun s k h5 hx hG => ?_⟩, h2.tn p2 (fun k hy hx => h3 t k ht hx hy), fun s k h5 hx hy => ?_, h4, fun k hk => Nat.lt_of_lt_of_le (hGl k hk) p2.size⟩
    · by_cases e : s = t
      · subst e
        simp only [updN, if_pos]
        exact .inr ⟨S, R, P, cap, av', vs', e1, e2, p1⟩
      · simp only [updN, if_neg e]
        exact (h1.1 s h5).tn p2 (fun k hk hx => h1.2.1 s t k h5 ht e hk hx)
    · by_cases ea : a = t
      · subst ea
        simp only [updN, if_pos] at hx
        simp only [updN, if_neg (Ne.symm hne)] at hy
        rcases p3 k hx with h6 | h6
        · exact h1.2.1 a b k ha hb hne h6 hy
        · have := hlt b hb k hy; omega
      · simp only [updN, if_neg ea] at hx
        by_cases eb : b = t
        · subst eb
          simp only [updN, if_pos] at hy
          rcases p3 k hy with h6 | h6
          · exact h1.2.1 a b k ha hb hne hx h6
          · have := hlt a ha k hx; omega
        · simp only [updN, if_neg eb] at hy
          exact h1.2.1 a b k ha hb hne hx hy
    · by_cases e : s = t
      · subst e
        simp only [updN, if_pos] at hx
        rcases p3 k hx with h6 | h6
        · exact h1.2.2 s k h5 h6 hG
        · have := hGl k hG; omega
      · simp only [updN, if_neg e] at hx
        exact h1.2.2 s k h5 hx hG
    · by_cases e : s = t
      · subst e
        simp only [updN, if_pos] at hx
        rcases p3 k hx with h6 | h6
        · exact h3 s k h5 h6 hy
        · have := h2.lt k hy; omega
      · simp only [updN, if_neg e] at hx
        exact h3 s k h5 hx hy
def PostA (G : Nat → Prop) (B : Nat) (ss rs : Nat → Value) (w : World) (ls : Nat → Int) (N M : Nat) (e : Ending) (w' : World) : Prop := e = .returned (.bool true) ∧ FrG G w w' ∧ ∃ N' M', N' ≤ N + 1 ∧ M' ≤ M + 2 ∧ LSa G B ss rs w' ls N' M'
theorem LSa.asked (h : LSa G B ss rs w ls N M) {t : Nat} (ht : t < 2) (hs : ss t ≠ .pointer none) (hN : N ≤ 9000000) (hM : M ≤ 8999999) (o : Oq) (ho : OqIn o) :
    Calls Tryz.prog 7 #[ss t, rs t, .agg (oqC o), ptr B] w fun e w' => PostA G B ss rs w ls N M e w' := by
  have hT : ∀ {e w'}, TruB w e w' → PostA G B ss rs w ls N M e w' := fun hx => ⟨hx.1, FrG.bel hx.2, N, M, by omega, by omega, h.kept hx.2⟩
  obtain ⟨Xs, Y, h1, h2, h3, h4, hGl⟩ := h
  have hA : ∀ {e w'}, AskP Y w B N M e w' → PostA G B ss rs w ls N M e w' := by
    rintro e w' ⟨a1, Y', N', M', b1, b2, b3, b4, b5⟩
    refine ⟨a1, FrG.tn b2 h4, N', M', b4, b5, Xs, Y', h1.tn b2 h3, b1, fun t k h5 hx hy => ?_, fun k hy hg => ?_, fun k hk => Nat.lt_of_lt_of_le (hGl k hk) b2.size⟩
    · rcases b3 k hy with h6 | h6
      · exact h3 t k h5 hx h6
      · have := (h1.1 t h5).lt k hx; omega
    · rcases b3 k hy with h6 | h6
      · exact h4 k h6 hg
      · have := hGl k hg; omega
  rcases h1.1 t ht with ⟨h, _⟩ | ⟨S, R, P, cap, av, vs, e1, e2, hp⟩
  · exact absurd h hs
  · rw [e1, e2]
    by_cases k4 : o.kd = 4
    · exact (asked4 (Xs t) w S R P cap (ls t) av vs hp o ho k4 B).mono fun e w' hx => hT hx
    by_cases k5 : o.kd = 5
    · exact (asked5 (Xs t) w S R P cap (ls t) av vs hp o ho k5 B).mono fun e w' hx => hT hx
    by_cases k6 : o.kd = 6
    · exact (asked6 (Xs t) Y w S R P cap (ls t) av vs B N M hp h2 hN o ho k6).mono fun e w' hx => hA hx
    by_cases k7 : o.kd = 7
    · exact (asked7 (Xs t) Y w S R P cap (ls t) av vs B N M hp h2 hM o ho k7).mono fun e w' hx => hA hx
    by_cases k8 : o.kd = 8
    · exact (asked8 (Xs t) w S R P cap (ls t) av vs hp o ho k8 B).mono fun e w' hx => hT hx
    exact (asked0 w S R o ⟨k4, k5, k6, k7, k8⟩ B).mono fun e w' hx => hT hx
/-- Part of a key, the document's -/
theorem LSa.part (h : LSa G B ss rs w ls N M) {t : Nat} (ht : t < 2) (hs : ss t ≠ .pointer none) (k1 k2 : Int) (hk : KIn (k1, k2)) :
    Calls Tryz.prog 8 #[rs t, .agg #[.int .i64 k1, .int .i64 k2]] w fun e w' => ∃ x, e = .returned (.int .i64 x) ∧ Below w.heap.size w w' := by
  obtain ⟨Xs, Y, h1, h2, h3, h4, hGl⟩ := h
  rcases h1.1 t ht with ⟨h, _⟩ | ⟨S, R, P, cap, av, vs, e1, e2, hp⟩
  · exact absurd h hs
  · rw [e2]
    exact (rpart_any w 0 R P cap (ls t) av vs hp.rd hp.st.P0 k1 k2 hk.2).mono fun e w' ⟨a1, q, os, a2⟩ => ⟨_, a1, by rw [a2]; exact Grew.below ⟨q, os, rfl⟩⟩
/-- at the end every list is whole -/
theorem LSa.whole (h : LSa G B ss rs w ls N M) (hN : N ≤ 9000000) (hM : M ≤ 9000000) :
    Calls Tryz.prog 9 #[ptr B] w fun e w' => e = .returned (.bool true) ∧ Below w.heap.size w w' := by
  obtain ⟨Xs, Y, h1, ⟨vc, vk, vl, vw, cC, cL, cW, cK, yL, nC, nK, hb⟩, h3, h4, hGl⟩ := h
  exact (whole_any hb hN hM).mono fun e w' ⟨a1, q, a2⟩ => ⟨a1, by rw [a2]; exact drew_below w q⟩
end
/-- a pair that was just made -/
theorem po_new {w w1 w2 : World} {S n : Nat} {c : Int} (hs : ST 0 (fun k => k < w.heap.size) w1 S n c 0 []) (hb : Below w.heap.size w w1) {R : Nat} (hR : w1.heap.size ≤ R) (hr : RDs w2 0 R n c 0 (.slice none 0 0) []) (hb2 : Below w1.heap.size w1 w2) :
    PO (fun k => w.heap.size ≤ k ∧ k < w2.heap.size) w2 S R n c 0 (.slice none 0 0) [] := by
  have hz := hb.size
  have hz2 := hb2.size
  refine ⟨?_, hr, ⟨by omega, hr.lt (.inl rfl)⟩, fun g hg => (by cases hg), fun v hv => (by cases hv), fun k hk => hk.2, by omega⟩
  refine ST.kept (ST.frame hs (fun k hk => ?_)) hb2
  rcases hk with hk | rfl | hk
  · by_cases h1 : k < w.heap.size
    · exact .inl h1
    · exact .inr (by
        by_cases h2 : k < w2.heap.size
        · exact absurd ⟨by omega, h2⟩ hk
        · omega)
  · exact .inr hR
  · cases hk
/-- the empty book -/
theorem bq_new {w : World} {B : Nat} (h : w.heap[B]? = some (.cells #[.slice none 0 0, .slice none 0 0, .slice none 0 0, .slice none 0 0] 39 (0, 0))) : BQ (fun k => k = B) w B 0 0 := by
  have e : ∀ T, w.ownsRow 0 T 1 (.slice none 0 0) 0 [] := fun T => World.ownsRow_nil _ _ _ _
  refine ⟨_, _, _, _, fun _ => .bool false, fun _ => .bool false, fun _ => .bool false, fun _ => .bool false, fun _ => [], fun _ => 0, fun _ => 0, ⟨h, e _, e _, e _, fun g hg => (by cases hg), fun g hg => (by cases hg), fun g hg => (by cases hg)⟩, e _, fun i hi => by omega, fun i hi => by omega, fun i hi => by omega, fun i hi => by omega, fun g hg => ?_, fun i hi => by omega, fun i hi => by omega, fun g hg => by rw [hg]; exact blk_lt h⟩
  rcases hg with hg | hg | hg | hg | hg
  · exact hg
  all_goals cases hg
end Go.Proofs.YtbcmmeajglilbaaGreat
