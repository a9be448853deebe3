import Derived.Test.YtbcmmeajglilbaaGreatKSpChn
/-
  StorePlays: THE BOOK AS A WHOLE.
-/
namespace Go.Proofs.YtbcmmeajglilbaaGreat
open Go.RowKit Go.Sort

/-- THE BOOK, in the blocks Y: N chains (marks; kept as it was; what it must be), M lists of keys (marks) -/
structure BkA (Y : Nat → Prop) (w : World) (B N M : Nat) (vc vk vl vw : Value) (cC cL cW cK : Nat → Value) (yL : Nat → List Vr) (nC nK : Nat → Nat) : Prop where
  t : T3 w 0 B vc vk vl vw N N N ((List.range N).map cC) ((List.range N).map cL) ((List.range N).map cW)
  rk : w.ownsRow 0 85 1 vk M ((List.range M).map cK)
  c : ∀ i, i < N → VRow w 0 (cC i) (mvs i (nC i)) ∧ nC i ≤ 65576
  l : ∀ i, i < N → VRow w 0 (cL i) (yL i) ∧ (yL i).length ≤ 65536
  v : ∀ i, i < N → VRow w 0 (cW i) (yL i)
  k : ∀ i, i < M → OwnK w 0 (cK i) (mks i (nK i)) ∧ nK i ≤ 65576
  yt : ∀ g, (g = B ∨ vc.ownBlock = some g ∨ vk.ownBlock = some g ∨ vl.ownBlock = some g ∨ vw.ownBlock = some g) → Y g
  yc : ∀ i, i < N → ∀ g, ((cC i).ownBlock = some g ∨ (cL i).ownBlock = some g ∨ (cW i).ownBlock = some g) → Y g
  yk : ∀ i, i < M → ∀ g, (cK i).ownBlock = some g → Y g
  lt : ∀ g, Y g → g < w.heap.size
def BQ (Y : Nat → Prop) (w : World) (B N M : Nat) : Prop := ∃ vc vk vl vw cC cL cW cK yL nC nK, BkA Y w B N M vc vk vl vw cC cL cW cK yL nC nK
section
variable {Y : Nat → Prop} {w w' : World} {B N M : Nat} {vc vk vl vw : Value} {cC cL cW cK : Nat → Value} {yL : Nat → List Vr} {nC nK : Nat → Nat}
theorem BkA.off (h : BkA Y w B N M vc vk vl vw cC cL cW cK yL nC nK) (hs : ∀ k, k < w.heap.size → Y k → w'.heap[k]? = w.heap[k]?) (hz : w.heap.size ≤ w'.heap.size) : BkA Y w' B N M vc vk vl vw cC cL cW cK yL nC nK := by
  have hy : ∀ g, Y g → w'.heap[g]? = w.heap[g]? := fun g hg => hs g (h.lt g hg) hg
  refine ⟨h.t.same (fun g hg => hy g (h.yt g ?_)), ownsRow_same h.rk (fun g hg => hy g (h.yt g (.inr (.inr (.inl hg))))), fun i hi => ⟨(h.c i hi).1.same (fun g hg => hy g (h.yc i hi g (.inl hg))), (h.c i hi).2⟩, fun i hi => ⟨(h.l i hi).1.same (fun g hg => hy g (h.yc i hi g (.inr (.inl hg)))), (h.l i hi).2⟩, fun i hi => (h.v i hi).same (fun g hg => hy g (h.yc i hi g (.inr (.inr hg)))), fun i hi => ⟨OwnK.same (h.k i hi).1 (fun g hg => hy g (h.yk i hi g hg)), (h.k i hi).2⟩, h.yt, h.yc, h.yk, fun g hg => Nat.lt_of_lt_of_le (h.lt g hg) hz⟩
  rcases hg with hg | hg | hg | hg
  · exact .inl hg
  · exact .inr (.inl hg)
  · exact .inr (.inr (.inr (.inl hg)))
  · exact .inr (.inr (.inr (.inr hg)))
theorem BQ.kept (h : BQ Y w B N M) (hb : Below w.heap.size w w') : BQ Y w' B N M := by
  obtain ⟨vc, vk, vl, vw, cC, cL, cW, cK, yL, nC, nK, h⟩ := h
  exact ⟨vc, vk, vl, vw, cC, cL, cW, cK, yL, nC, nK, h.off (fun k hk _ => hb.block k hk) hb.size⟩
/-- where only others' blocks turn -/
theorem BQ.tn {X : Nat → Prop} (h : BQ Y w B N M) (ht : Tn X w w') (hd : ∀ k, Y k → ¬ X k) : BQ Y w' B N M := by
  obtain ⟨vc, vk, vl, vw, cC, cL, cW, cK, yL, nC, nK, h⟩ := h
  exact ⟨vc, vk, vl, vw, cC, cL, cW, cK, yL, nC, nK, h.off (fun k hk hy => ht.block k hk (hd k hy)) ht.size⟩
theorem BQ.lt (h : BQ Y w B N M) : ∀ g, Y g → g < w.heap.size := by
  obtain ⟨vc, vk, vl, vw, cC, cL, cW, cK, yL, nC, nK, h⟩ := h
  exact h.lt
/-- the blocks behind a call with a list of one's own -/
def Yn (Y : Nat → Prop) (w w' : World) (lv av : Value) : Nat → Prop := fun k => (Y k ∨ lv.ownBlock = some k ∨ av.ownBlock = some k ∨ w.heap.size ≤ k) ∧ k < w'.heap.size
theorem BkA.set (h : BkA Y w B N M vc vk vl vw cC cL cW cK yL nC nK) {lv : Value} {L : List K} {e : Ending} (hl : OwnK w 0 lv L) (hd : ∀ g, lv.ownBlock = some g → ¬ Y g) (hL : L.length ≤ 65536) (hp : SetP w 0 0 B M vc vk vl vw lv cK L e w') :
    e = .returned (.tuple #[]) ∧ BQ (Yn Y w w' lv lv) w' B N (M + 1) ∧ Tn (fun k => Y k ∨ lv.ownBlock = some k) w w' := by
  obtain ⟨he, vk', mv, q1, q2, q3, q4, q5, q6⟩ := hp
  have hsz : ∀ {g}, g < w.heap.size → g < w'.heap.size := fun hg => Nat.lt_of_lt_of_le hg q4.size
  have kp : ∀ {b T sz n : Nat} {v : Value} {xs : List Value}, w.ownsRow b T sz v n xs → T ≠ 39 → T ≠ 85 → T ≠ 41 → w'.ownsRow b T sz v n xs := fun ho t1 t2 t3 => ownsRow_same ho (fun g hg => q4.block g (World.ownsRow.lt ho g hg).2 (fun hx => by
    obtain ⟨cur, h1⟩ := own_ty ho hg
    rcases hx with rfl | hx | hx
    · exact ty_neP h1 h.t.bx t1 rfl
    · obtain ⟨cur2, h2⟩ := own_ty h.rk hx
      exact ty_neP h1 h2 t2 rfl
    · obtain ⟨cur2, h2⟩ := own_ty hl hx
      exact ty_neP h1 h2 t3 rfl))
  have kk : ∀ i, i < M → OwnK w' 0 (cK i) (mks i (nK i)) := fun i hi => OwnK.same (h.k i hi).1 (fun g hg => q4.block g (OwnK.lt (h.k i hi).1 g hg).2 (fun hx => by
    obtain ⟨cur, h1⟩ := own_ty (h.k i hi).1 hg
    rcases hx with rfl | hx | hx
    · exact ty_neP h1 h.t.bx (by decide) rfl
    · obtain ⟨cur2, h2⟩ := own_ty h.rk hx
      exact ty_neP h1 h2 (by decide) rfl
    · exact hd g hx (h.yk i hi g hg)))
  have yY : ∀ g, Y g → Yn Y w w' lv lv g := fun g hg => ⟨.inl hg, hsz (h.lt g hg)⟩
  refine ⟨he, ⟨vc, vk', vl, vw, cC, cL, cW, updN cK M mv, yL, nC, updN nK M (L.length + 40), ⟨q1, kp h.t.rc (by decide) (by decide) (by decide), kp h.t.rl (by decide) (by decide) (by decide), kp h.t.rw (by decide) (by decide) (by decide), h.t.cl, h.t.cw, h.t.lw⟩, q2, fun i hi => ⟨kp (h.c i hi).1 (by decide) (by decide) (by decide), (h.c i hi).2⟩, fun i hi => ⟨kp (h.l i hi).1 (by decide) (by decide) (by decide), (h.l i hi).2⟩, fun i hi => kp (h.v i hi) (by decide) (by decide) (by decide), fun i hi => ?_, fun g hg => ?_, fun i hi g hg => yY g (h.yc i hi g hg), fun i hi g hg => ?_, fun g hg => hg.2⟩, ⟨q4.os, q4.tape, q4.output, q4.size, fun k hk hx => q4.block k hk (fun h1 => hx ?_)⟩⟩
  · by_cases hm : i = M
    · subst hm
      simp only [updN, if_pos]
      exact ⟨q3, by omega⟩
    · simp only [updN, if_neg hm]
      exact ⟨kk i (by omega), (h.k i (by omega)).2⟩
  · rcases hg with hg | hg | hg | hg | hg
    · exact yY g (h.yt g (.inl hg))
    · exact yY g (h.yt g (.inr (.inl hg)))
    · refine ⟨?_, (World.ownsRow.lt q2 g hg).2⟩
      rcases q6 g hg with h1 | h1
      · exact .inl (h.yt g (.inr (.inr (.inl h1))))
      · exact .inr (.inr (.inr h1))
    · exact yY g (h.yt g (.inr (.inr (.inr (.inl hg)))))
    · exact yY g (h.yt g (.inr (.inr (.inr (.inr hg)))))
  · by_cases hm : i = M
    · subst hm
      simp only [updN, if_pos] at hg
      refine ⟨?_, (OwnK.lt q3 g hg).2⟩
      rcases q5 g hg with h1 | h1
      · exact .inr (.inl h1)
      · exact .inr (.inr (.inr h1))
    · simp only [updN, if_neg hm] at hg
      exact yY g (h.yk i (by omega) g hg)
  · rcases h1 with h1 | h1 | h1
    · exact .inl (h.yt k (.inl h1))
    · exact .inl (h.yt k (.inr (.inr (.inl h1))))
    · exact .inr h1
theorem BkA.chain (h : BkA Y w B N M vc vk vl vw cC cL cW cK yL nC nK) {lv av : Value} {ys : List Vr} {e : Ending} (_hl : VRow w 0 lv ys) (_ha : VRow w 0 av ys) (hd : ∀ g, lv.ownBlock = some g → ¬ Y g) (hL : ys.length ≤ 65536) (hp : ChnP w 0 0 B N vc vk vl vw lv av ((List.range N).map cC) ((List.range N).map cL) ((List.range N).map cW) ys e w') :
    e = .returned (.tuple #[]) ∧ BQ (Yn Y w w' lv av) w' B (N + 1) M ∧ Tn (fun k => Y k ∨ lv.ownBlock = some k) w w' := by
  obtain ⟨he, vc', vl', vw', mv, wv, q1, q2, q3, q4, q5, q6, q7, q8, q9, q10⟩ := hp
  have hsz : ∀ {g}, g < w.heap.size → g < w'.heap.size := fun hg => Nat.lt_of_lt_of_le hg q5.size
  have kp : ∀ {b T sz n : Nat} {v : Value} {xs : List Value}, w.ownsRow b T sz v n xs → T ≠ 39 → T ≠ 81 → (∀ g, v.ownBlock = some g → lv.ownBlock ≠ some g) → w'.ownsRow b T sz v n xs := fun ho t1 t2 t3 => ownsRow_same ho (fun g hg => q5.block g (World.ownsRow.lt ho g hg).2 (fun hx => by
    obtain ⟨cur, h1⟩ := own_ty ho hg
    rcases hx with rfl | hx | hx | hx | hx
    · exact ty_neP h1 h.t.bx t1 rfl
    · obtain ⟨cur2, h2⟩ := own_ty h.t.rc hx
      exact ty_neP h1 h2 t2 rfl
    · obtain ⟨cur2, h2⟩ := own_ty h.t.rl hx
      exact ty_neP h1 h2 t2 rfl
    · obtain ⟨cur2, h2⟩ := own_ty h.t.rw hx
      exact ty_neP h1 h2 t2 rfl
    · exact t3 g hg hx))
  have yY : ∀ g, Y g → Yn Y w w' lv av g := fun g hg => ⟨.inl hg, hsz (h.lt g hg)⟩
  have nl : ∀ {g}, Y g → lv.ownBlock ≠ some g := fun hy hg => hd _ hg hy
  have oN : ∀ {v v' : Value} {g : Nat}, OwnN v v' w.heap.size → v'.ownBlock = some g → (∀ g, v.ownBlock = some g → Y g) → g < w'.heap.size → Yn Y w w' lv av g := fun ho hg hy hlt => ⟨by
    rcases ho _ hg with h1 | h1
    · exact .inl (hy _ h1)
    · exact .inr (.inr (.inr h1)), hlt⟩
  refine ⟨he, ⟨vc', vk, vl', vw', updN cC N mv, updN cL N av, updN cW N wv, cK, updN yL N ys, updN nC N (ys.length + 40), nK, ?_, kp h.rk (by decide) (by decide) (fun g hg => nl (h.yt g (.inr (.inr (.inl hg))))), fun i hi => ?_, fun i hi => ?_, fun i hi => ?_, fun i hi => ⟨kp (h.k i hi).1 (by decide) (by decide) (fun g hg => nl (h.yk i hi g hg)), (h.k i hi).2⟩, fun g hg => ?_, fun i hi g hg => ?_, fun i hi g hg => yY g (h.yk i hi g hg), fun g hg => hg.2⟩, ⟨q5.os, q5.tape, q5.output, q5.size, fun k hk hx => q5.block k hk (fun h1 => hx ?_)⟩⟩
  · rw [range_upd, range_upd, range_upd]; exact q1
  · by_cases hm : i = N
    · subst hm
      simp only [updN, if_pos]
      exact ⟨q2, by omega⟩
    · simp only [updN, if_neg hm]
      have hi' : i < N := by omega
      exact ⟨kp (h.c i hi').1 (by decide) (by decide) (fun g hg => nl (h.yc i hi' g (.inl hg))), (h.c i hi').2⟩
  · by_cases hm : i = N
    · subst hm
      simp only [updN, if_pos]
      exact ⟨q3, hL⟩
    · simp only [updN, if_neg hm]
      have hi' : i < N := by omega
      exact ⟨kp (h.l i hi').1 (by decide) (by decide) (fun g hg => nl (h.yc i hi' g (.inr (.inl hg)))), (h.l i hi').2⟩
  · by_cases hm : i = N
    · subst hm
      simp only [updN, if_pos]
      exact q4
    · simp only [updN, if_neg hm]
      have hi' : i < N := by omega
      exact kp (h.v i hi') (by decide) (by decide) (fun g hg => nl (h.yc i hi' g (.inr (.inr hg))))
  · rcases hg with hg | hg | hg | hg | hg
    · exact yY g (h.yt g (.inl hg))
    · exact oN q8 hg (fun g hg => h.yt g (.inr (.inl hg))) (q1.lt (.inr (.inl hg)))
    · exact yY g (h.yt g (.inr (.inr (.inl hg))))
    · exact oN q9 hg (fun g hg => h.yt g (.inr (.inr (.inr (.inl hg))))) (q1.lt (.inr (.inr (.inl hg))))
    · exact oN q10 hg (fun g hg => h.yt g (.inr (.inr (.inr (.inr hg))))) (q1.lt (.inr (.inr (.inr hg))))
  · by_cases hm : i = N
    · subst hm
      simp only [updN, if_pos] at hg
      rcases hg with hg | hg | hg
      · refine ⟨?_, (World.ownsRow.lt q2 g hg).2⟩
        rcases q6 g hg with h1 | h1
        · exact .inr (.inl h1)
        · exact .inr (.inr (.inr h1))
      · exact ⟨.inr (.inr (.inl hg)), (World.ownsRow.lt q3 g hg).2⟩
      · exact ⟨.inr (.inr (.inr (q7 g hg))), (World.ownsRow.lt q4 g hg).2⟩
    · simp only [updN, if_neg hm] at hg
      exact yY g (h.yc i (by omega) g hg)
  · rcases h1 with h1 | h1 | h1 | h1 | h1
    · exact .inl (h.yt k (.inl h1))
    · exact .inl (h.yt k (.inr (.inl h1)))
    · exact .inl (h.yt k (.inr (.inr (.inr (.inl h1)))))
    · exact .inl (h.yt k (.inr (.inr (.inr (.inr h1)))))
    · exact .inr h1
end
/-- what an asking leaves of the book -/
def AskP (Y : Nat → Prop) (w : World) (B N M : Nat) (e : Ending) (w' : World) : Prop :=
  e = .returned (.bool true) ∧ ∃ Y' N' M', BQ Y' w' B N' M' ∧ Tn Y w w' ∧ (∀ k, Y' k → Y k ∨ w.heap.size ≤ k) ∧ N' ≤ N + 1 ∧ M' ≤ M + 2
end Go.Proofs.YtbcmmeajglilbaaGreat
/-
  StorePlays: ASKED: kinds 5, 8 and none. By gen_spaskd.py.
-/
namespace Go.Proofs.YtbcmmeajglilbaaGreat
open Go.RowKit Go.Sort

def TruB (w : World) (e : Ending) (w' : World) : Prop := e = .returned (.bool true) ∧ Below w.heap.size w w'
theorem lat_vis (k : K) (b : Int) (vs : List Vr) : numI vs (lastI (visF k b) vs vs.length) = visN (ofK k vs) b := by
  rw [← num_vis]
  congr 1
  refine lastI_congr (fun v _ => ?_) _ (Nat.le_refl _)
  simp [visF]
section
variable (X : Nat → Prop) (w : World) (S R P : Nat) (cap last : Int) (av : Value) (vs : List Vr)
set_option maxRecDepth 100000 in
set_option maxHeartbeats 4000000 in
theorem asked5 (h : PO X w S R P cap last av vs) (o : Oq) (ho : OqIn o) (hkd : o.kd = 5) (B : Nat) :
    Calls Tryz.prog 7 #[ptr S, ptr R, .agg (oqC o), ptr B] w fun e w' => TruB w e w' := by
  obtain ⟨kd, k1, k2, ba, ix, v, n, ci, cv, two⟩ := o
  obtain ⟨hk, hba, hix, hv, hcv⟩ := ho
  simp only at hk hba hix hv hcv hkd
  simp only [oqC]
  subst hkd
  obtain ⟨W1, hW1⟩ : ∃ W1, W1 = w.alloc (.cells #[.int .i64 5, .int .i64 k1, .int .i64 k2, .int .i64 ba, .int .i64 ix, .int .i64 v, .int .i64 n, .bool ci, .int .i64 cv, .bool two] 45) := ⟨_, rfl⟩
  obtain ⟨B5, hB5⟩ : ∃ g, g = w.heap.size := ⟨_, rfl⟩
  have hb1 : Below w.heap.size w W1 := by rw [hW1]; exact (Below.refl _ _).alloc (Nat.le_refl _) _
  have b5 : W1.heap[B5]? = some (.cells #[.int .i64 5, .int .i64 k1, .int .i64 k2, .int .i64 ba, .int .i64 ix, .int .i64 v, .int .i64 n, .bool ci, .int .i64 cv, .bool two] 45 (0, 0)) := by rw [hW1, hB5]; exact heap_alloc_new _ _ rfl
  have HP : Hid (∀ U, Below W1.heap.size W1 U → PO X U S R P cap last av vs) := fun U hU => (h.kept hb1).kept hU
  have HBx : Hid (∀ U : World, Below W1.heap.size W1 U → U.cell? ⟨B5, 0, none⟩ = some (.int .i64 5) ∧ U.cell? ⟨B5, 1, none⟩ = some (.int .i64 k1) ∧ U.cell? ⟨B5, 2, none⟩ = some (.int .i64 k2) ∧ U.cell? ⟨B5, 3, none⟩ = some (.int .i64 ba) ∧ U.cell? ⟨B5, 5, none⟩ = some (.int .i64 v) ∧ U.cell? ⟨B5, 6, none⟩ = some (.int .i64 n)) := fun U hU => by
    have hW := (hU.block _ (blk_lt b5)).trans b5
    refine ⟨?_, ?_, ?_, ?_, ?_, ?_⟩ <;> simp [World.cell?, hW]
  have HF : Hid (∀ U, Below W1.heap.size W1 U → TruB w (.returned (.bool true)) U) := fun U hU => ⟨rfl, hb1.trans (hU.mono hb1.size)⟩
  have HN1 : Hid (∀ U, Below W1.heap.size W1 U → Calls Tryz.prog 24 #[ptr S, .agg #[.int .i64 k1, .int .i64 k2]] U fun e w' => e = .returned (.int .i64 (newestN (k1, k2) vs)) ∧ Below W1.heap.size W1 w') := fun U hU => by
    exact (newest_st 0 _ U S P cap last vs (HP.out U hU).st k1 k2 hk).mono fun e w' ⟨a1, a2⟩ => ⟨a1, hU.trans (a2.mono hU.size)⟩
  have HN2 : Hid (∀ U, Below W1.heap.size W1 U → Calls Tryz.prog 25 #[ptr R, .agg #[.int .i64 k1, .int .i64 k2]] U fun e w' => e = .returned (.int .i64 (newestN (k1, k2) vs)) ∧ Below W1.heap.size W1 w') := fun U hU => by
    exact (rnewest_any U 0 R P cap last av vs (HP.out U hU).rd (HP.out U hU).len (HP.out U hU).pl (HP.out U hU).ba k1 k2).mono fun e w' ⟨a1, q, os, a2⟩ => ⟨a1, hU.trans (Below.mono (by rw [a2]; exact Grew.below ⟨q, os, rfl⟩) hU.size)⟩
  have HV1 : Hid (∀ U, Below W1.heap.size W1 U → Calls Tryz.prog 26 #[ptr S, .agg #[.int .i64 k1, .int .i64 k2], .int .i64 ba] U fun e w' => e = .returned (.int .i64 (visN (ofK (k1, k2) vs) ba)) ∧ Below W1.heap.size W1 w') := fun U hU => by
    exact (visible_st 0 _ U S P cap last vs (HP.out U hU).st k1 k2 ba hk).mono fun e w' ⟨a1, a2⟩ => ⟨a1, hU.trans (a2.mono hU.size)⟩
  have HV2 : Hid (∀ U, Below W1.heap.size W1 U → Calls Tryz.prog 27 #[ptr R, .agg #[.int .i64 k1, .int .i64 k2], .int .i64 ba] U fun e w' => e = .returned (.int .i64 (visN (ofK (k1, k2) vs) ba)) ∧ Below W1.heap.size W1 w') := fun U hU => by
    rw [← lat_vis]
    exact (rvisible_any U 0 R P cap last av vs (HP.out U hU).rd (HP.out U hU).len (HP.out U hU).pl k1 k2 ba).mono fun e w' ⟨a1, q, os, a2⟩ => ⟨a1, hU.trans (Below.mono (by rw [a2]; exact Grew.below ⟨q, os, rfl⟩) hU.size)⟩
  have HS : Hid (∀ U : World, Below W1.heap.size W1 U → U.cell? ⟨B5, 1, none⟩ = some (.int .i64 k1) ∧ U.cell? ⟨B5, 2, none⟩ = some (.int .i64 k2) ∧ U.cell? ⟨B5, 3, none⟩ = some (.int .i64 ba)) := fun U hU => ⟨(HBx.out U hU).2.1, (HBx.out U hU).2.2.1, (HBx.out U hU).2.2.2.1⟩
  obtain ⟨z0, z1, z2, z3, _, _⟩ := HBx.out W1 (Below.refl _ _)
  have HN1d := hidS (HN1.out W1.drew (drew_below W1 1))
  generalize newestN (k1, k2) vs = x1 at *
  generalize visN (ofK (k1, k2) vs) ba = x2 at *
  clear hb1 b5 HP HBx h hk hba hix hv hcv
  go_enter Tryz.func7, Tryz.ntmps7
  go_upto_region 9 with fail
  rw [← hW1, ← hB5]
  clear hW1 hB5
  go_region_held3 (fun w' => w'.cell? ⟨B5, 1, none⟩ = some (.int .i64 k1) ∧ w'.cell? ⟨B5, 2, none⟩ = some (.int .i64 k2) ∧ w'.cell? ⟨B5, 3, none⟩ = some (.int .i64 ba)) (first | with_reducible exact HQD.out | with_reducible exact HQC.out | with_reducible exact HQB.out | with_reducible exact HQA.out | go_keep) (first
    | (go_at_call 24; with_reducible refine HN1d.out.mono ?_; rintro e wA ⟨rfl, hbA⟩; have HQA := hidC (HS.out _ hbA); have HBA := hidC hbA; clear hbA)
    | (go_at_call 25; with_reducible refine (HN2.out _ (by with_reducible exact HBA.out)).mono ?_; rintro e wB ⟨rfl, hbB⟩; have HQB := hidC (HS.out _ hbB); have HBB := hidC hbB; clear hbB)
    | (go_at_call 26; with_reducible refine (HV1.out _ (by with_reducible exact HBB.out)).mono ?_; rintro e wC ⟨rfl, hbC⟩; have HQC := hidC (HS.out _ hbC); have HBC := hidC hbC; clear hbC)
    | (go_at_call 27; with_reducible refine (HV2.out _ (by with_reducible exact HBC.out)).mono ?_; rintro e wD ⟨rfl, hbD⟩; have HQD := hidC (HS.out _ hbD); have HBD := hidC hbD; clear hbD))
  have HE := hidS (HF.out _ HBD.out)
  clear HQA HQB HQC HQD HBA HBB HBC HBD HN1 HN1d HN2 HV1 HV2 HF HS z0 z1 z2 z3
  go_wp2
  go_ret
  exact HE.out
set_option maxRecDepth 100000 in
set_option maxHeartbeats 4000000 in
theorem asked0 (o : Oq) (hkd : o.kd ≠ 4 ∧ o.kd ≠ 5 ∧ o.kd ≠ 6 ∧ o.kd ≠ 7 ∧ o.kd ≠ 8) (B : Nat) :
    Calls Tryz.prog 7 #[ptr S, ptr R, .agg (oqC o), ptr B] w fun e w' => TruB w e w' := by
  obtain ⟨kd, k1, k2, ba, ix, v, n, ci, cv, two⟩ := o
  simp only at hkd
  simp only [oqC]
  have HF : Hid (∀ o, TruB w (.returned (.bool true)) (w.alloc o)) := fun o => ⟨rfl, (Below.refl _ _).alloc (Nat.le_refl _) _⟩
  have e4 : (kd == 4) = false := by simpa using hkd.1
  have e5 : (kd == 5) = false := by simpa using hkd.2.1
  have e6 : (kd == 6) = false := by simpa using hkd.2.2.1
  have e7 : (kd == 7) = false := by simpa using hkd.2.2.2.1
  have e8 : (kd == 8) = false := by simpa using hkd.2.2.2.2
  clear hkd
  go_enter Tryz.func7, Tryz.ntmps7
  go_wp2_with fail
  go_ret
  exact HF.out _
set_option maxRecDepth 100000 in
set_option maxHeartbeats 8000000 in
theorem asked8 (h : PO X w S R P cap last av vs) (o : Oq) (ho : OqIn o) (hkd : o.kd = 8) (B : Nat) :
    Calls Tryz.prog 7 #[ptr S, ptr R, .agg (oqC o), ptr B] w fun e w' => TruB w e w' := by
  obtain ⟨kd, k1, k2, ba, ix, v, n, ci, cv, two⟩ := o
  obtain ⟨hk, hba, hix, hv, hcv⟩ := ho
  simp only at hk hba hix hv hcv hkd
  simp only [oqC]
  subst hkd
  obtain ⟨W1, hW1⟩ : ∃ W1, W1 = w.alloc (.cells #[.int .i64 8, .int .i64 k1, .int .i64 k2, .int .i64 ba, .int .i64 ix, .int .i64 v, .int .i64 n, .bool ci, .int .i64 cv, .bool two] 45) := ⟨_, rfl⟩
  obtain ⟨B5, hB5⟩ : ∃ g, g = w.heap.size := ⟨_, rfl⟩
  have hb1 : Below w.heap.size w W1 := by rw [hW1]; exact (Below.refl _ _).alloc (Nat.le_refl _) _
  have b5 : W1.heap[B5]? = some (.cells #[.int .i64 8, .int .i64 k1, .int .i64 k2, .int .i64 ba, .int .i64 ix, .int .i64 v, .int .i64 n, .bool ci, .int .i64 cv, .bool two] 45 (0, 0)) := by rw [hW1, hB5]; exact heap_alloc_new _ _ rfl
  have HP : Hid (∀ U, Below W1.heap.size W1 U → PO X U S R P cap last av vs) := fun U hU => (h.kept hb1).kept hU
  have HBx : Hid (∀ U : World, Below W1.heap.size W1 U → U.cell? ⟨B5, 0, none⟩ = some (.int .i64 8) ∧ U.cell? ⟨B5, 1, none⟩ = some (.int .i64 k1) ∧ U.cell? ⟨B5, 2, none⟩ = some (.int .i64 k2) ∧ U.cell? ⟨B5, 3, none⟩ = some (.int .i64 ba) ∧ U.cell? ⟨B5, 5, none⟩ = some (.int .i64 v) ∧ U.cell? ⟨B5, 6, none⟩ = some (.int .i64 n)) := fun U hU => by
    have hW := (hU.block _ (blk_lt b5)).trans b5
    refine ⟨?_, ?_, ?_, ?_, ?_, ?_⟩ <;> simp [World.cell?, hW]
  have HF : Hid (∀ U, Below W1.heap.size W1 U → TruB w (.returned (.bool true)) U) := fun U hU => ⟨rfl, hb1.trans (hU.mono hb1.size)⟩
  obtain ⟨ao, ac, rfl⟩ := h.rd.sl
  obtain ⟨nv, hnv⟩ : ∃ nv, nv = vs.length := ⟨_, rfl⟩
  have HN1 : Hid (∀ U, Below W1.heap.size W1 U → Calls Tryz.prog 36 #[ptr S] U fun e w' => e = .returned (.int .i64 (nv : Int)) ∧ Below W1.heap.size W1 w') := fun U hU => by
    rw [hnv]
    exact (live_st 0 _ U S P cap last vs (HP.out U hU).st).mono fun e w' ⟨a1, a2⟩ => ⟨a1, by rw [a2]; exact hU⟩
  have HN2 : Hid (∀ U, Below W1.heap.size W1 U → Calls Tryz.prog 37 #[ptr S] U fun e w' => e = .returned (.int .i64 (cap - (nv : Int))) ∧ Below W1.heap.size W1 w') := fun U hU => by
    rw [hnv]
    exact (room_st 0 _ U S P cap last vs (HP.out U hU).st).mono fun e w' ⟨a1, a2⟩ => ⟨a1, hU.trans (a2.mono hU.size)⟩
  have HN3 : Hid (∀ U, Below W1.heap.size W1 U → Calls Tryz.prog 38 #[ptr S] U fun e w' => e = .returned (.int .i64 (P : Int)) ∧ Below W1.heap.size W1 w') := fun U hU => by
    exact (parts_st 0 _ U S P cap last vs (HP.out U hU).st).mono fun e w' ⟨a1, a2⟩ => ⟨a1, by rw [a2]; exact hU⟩
  have HN4 : Hid (∀ U, Below W1.heap.size W1 U → Calls Tryz.prog 39 #[ptr S, .agg #[.int .i64 k1, .int .i64 k2]] U fun e w' => e = .returned (.int .i64 (partV (k1, k2) (P : Int))) ∧ Below W1.heap.size W1 w') := fun U hU => by
    exact (spart_any 0 _ U S P cap last vs (HP.out U hU).st k1 k2 hk).mono fun e w' ⟨a1, a2⟩ => ⟨a1, hU.trans (a2.mono hU.size)⟩
  have HN5 : Hid (∀ U, Below W1.heap.size W1 U → Calls Tryz.prog 8 #[ptr R, .agg #[.int .i64 k1, .int .i64 k2]] U fun e w' => e = .returned (.int .i64 (partV (k1, k2) (P : Int))) ∧ Below W1.heap.size W1 w') := fun U hU => by
    exact (rpart_any U 0 R P cap last (.slice ao vs.length ac) vs (HP.out U hU).rd (HP.out U hU).st.P0 k1 k2 hk.2).mono fun e w' ⟨a1, q, os, a2⟩ => ⟨a1, hU.trans (Below.mono (by rw [a2]; exact Grew.below ⟨q, os, rfl⟩) hU.size)⟩
  have HS : Hid (∀ U : World, Below W1.heap.size W1 U → (U.cell? ⟨B5, 1, none⟩ = some (.int .i64 k1) ∧ U.cell? ⟨B5, 2, none⟩ = some (.int .i64 k2)) ∧ U.cell? ⟨R, 0, none⟩ = some (.int .i64 (P : Int)) ∧ U.cell? ⟨R, 1, none⟩ = some (.int .i64 cap) ∧ U.cell? ⟨R, 2, none⟩ = some (.slice ao nv ac)) := fun U hU => ⟨⟨(HBx.out U hU).2.1, (HBx.out U hU).2.2.1⟩, (HP.out U hU).rd.cells.1, (HP.out U hU).rd.cells.2.1, by rw [hnv]; exact (HP.out U hU).rd.cells.2.2.1⟩
  have hcn : (1 ≤ cap ∧ cap ≤ 65536) ∧ nv ≤ 65536 := ⟨by have h1 := h.st.lt; omega, by rw [hnv]; exact h.len⟩
  have hrw : IntKind.i64.wrap (cap - (nv : Int)) = cap - (nv : Int) := by rw [IntKind.wrap_i64]; omega
  obtain ⟨z0, z1, z2, z3, _, _⟩ := HBx.out W1 (Below.refl _ _)
  obtain ⟨_, y0, y1, y2⟩ := HS.out W1 (Below.refl _ _)
  have HN1d := hidS (HN1.out W1.drew (drew_below W1 1))
  generalize partV (k1, k2) (P : Int) = x1 at *
  generalize hx2 : cap - (nv : Int) = x2 at *
  clear hb1 b5 HP HBx h hk hba hix hv hcv hnv hcn
  go_enter Tryz.func7, Tryz.ntmps7
  go_upto_region 26 with fail
  rw [← hW1, ← hB5]
  clear hW1 hB5
  go_region_held3 (fun w' => (w'.cell? ⟨B5, 1, none⟩ = some (.int .i64 k1) ∧ w'.cell? ⟨B5, 2, none⟩ = some (.int .i64 k2)) ∧ w'.cell? ⟨R, 0, none⟩ = some (.int .i64 (P : Int)) ∧ w'.cell? ⟨R, 1, none⟩ = some (.int .i64 cap) ∧ w'.cell? ⟨R, 2, none⟩ = some (.slice ao nv ac)) (first | with_reducible exact HQE.out | with_reducible exact HQD.out | with_reducible exact HQC.out | with_reducible exact HQB.out | with_reducible exact HQA.out | go_keep) (first
    | (go_at_call 36; with_reducible refine HN1d.out.mono ?_; rintro e wA ⟨rfl, hbA⟩; have HQA := hidC (HS.out _ hbA); have HBA := hidC hbA; clear hbA)
    | (go_at_call 37; with_reducible refine (HN2.out _ (by with_reducible exact HBA.out)).mono ?_; rintro e wB ⟨rfl, hbB⟩; have HQB := hidC (HS.out _ hbB); have HBB := hidC hbB; clear hbB)
    | (go_at_call 38; with_reducible refine (HN3.out _ (by with_reducible exact HBB.out)).mono ?_; rintro e wC ⟨rfl, hbC⟩; have HQC := hidC (HS.out _ hbC); have HBC := hidC hbC; clear hbC)
    | (go_at_call 39; with_reducible refine (HN4.out _ (by with_reducible exact HBC.out)).mono ?_; rintro e wD ⟨rfl, hbD⟩; have HQD := hidC (HS.out _ hbD); have HBD := hidC hbD; clear hbD)
    | (go_at_call 8; with_reducible refine (HN5.out _ (by with_reducible exact HBD.out)).mono ?_; rintro e wE ⟨rfl, hbE⟩; have HQE := hidC (HS.out _ hbE); have HBE := hidC hbE; clear hbE))
  have HE := hidS (HF.out _ HBE.out)
  clear HQA HQB HQC HQD HQE HBA HBB HBC HBD HBE HN1 HN1d HN2 HN3 HN4 HN5 HF HS z0 z1 z2 z3 y0 y1 y2
  go_wp2
  go_ret
  exact HE.out
end
end Go.Proofs.YtbcmmeajglilbaaGreat
/-
  StorePlays: ASKED: kind 4. By gen_spaskd.py.
-/
namespace Go.Proofs.YtbcmmeajglilbaaGreat
open Go.RowKit Go.Sort

theorem run_eqVer (a b : Int) (f ci : Bool) (cv : Int) (w : World) : Sem.run Tryz.prog (binOp .eql 71 (.agg #[.int .i64 a, .int .i64 b, .bool f, .bool ci, .int .i64 cv]) (.agg #[.int .i64 a, .int .i64 b, .bool f, .bool ci, .int .i64 cv])) w = .ok (.bool true) w := by
  have u3 := Tryz.underlying4
  have a3 := Tryz.isAgg4
  have z3 := Tryz.sizeOf4
  have u2 := Tryz.underlying2
  have a2 := Tryz.isAgg2
  have z2 := Tryz.sizeOf2
  have u1 := Tryz.underlying3
  have a1 := Tryz.isAgg3
  have z1 := Tryz.sizeOf3
  have u4 := Tryz.underlying43
  have a4 := Tryz.isAgg43
  have z4 := Tryz.sizeOf43
  have hS : Tryz.prog.underlying 71 = some (.struct (Tryz.prog.fieldsOf 71)) := by kernel_rfl
  have hp : Tryz.prog.stoodInHeld 71 = false := by kernel_rfl
  have hS' : Tryz.prog.underlying 43 = some (.struct (Tryz.prog.fieldsOf 43)) := by kernel_rfl
  have hp' : Tryz.prog.stoodInHeld 43 = false := by kernel_rfl
  rw [run_eql_struct, show (10000 : Nat) = 9999 + 1 from rfl, run_equalIn_agg w 9999 71 _ _ hS hp]
  simp only [Program.fieldsOf, Tryz.underlying71]
  have hc : Sem.run Tryz.prog (Op.equalIn 9999 43 (.agg #[.bool ci, .int .i64 cv]) (.agg #[.bool ci, .int .i64 cv])) w = .ok true w := by
    rw [show (9999 : Nat) = 9998 + 1 from rfl, run_equalIn_agg w 9998 43 _ _ hS' hp']
    simp only [Program.fieldsOf, Tryz.underlying43]
    go_simp
  go_simp
theorem lkV_form (o : Option Vr) : ∃ a0 a1 a2 a3 a4 a5, lkV o = (.agg #[.int .i64 a0, .int .i64 a1, .bool a2, .bool a3, .int .i64 a4], a5) := by
  cases o with
  | none => exact ⟨_, _, _, _, _, _, rfl⟩
  | some v => exact ⟨_, _, _, _, _, _, rfl⟩
section
variable (X : Nat → Prop) (w : World) (S R P : Nat) (cap last : Int) (av : Value) (vs : List Vr)
set_option maxRecDepth 100000 in
set_option maxHeartbeats 8000000 in
theorem asked4 (h : PO X w S R P cap last av vs) (o : Oq) (ho : OqIn o) (hkd : o.kd = 4) (B : Nat) :
    Calls Tryz.prog 7 #[ptr S, ptr R, .agg (oqC o), ptr B] w fun e w' => TruB w e w' := by
  obtain ⟨kd, k1, k2, ba, ix, v, n, ci, cv, two⟩ := o
  obtain ⟨hk, hba, hix, hv, hcv⟩ := ho
  simp only at hk hba hix hv hcv hkd
  simp only [oqC]
  subst hkd
  obtain ⟨W1, hW1⟩ : ∃ W1, W1 = w.alloc (.cells #[.int .i64 4, .int .i64 k1, .int .i64 k2, .int .i64 ba, .int .i64 ix, .int .i64 v, .int .i64 n, .bool ci, .int .i64 cv, .bool two] 45) := ⟨_, rfl⟩
  obtain ⟨B5, hB5⟩ : ∃ g, g = w.heap.size := ⟨_, rfl⟩
  have hb1 : Below w.heap.size w W1 := by rw [hW1]; exact (Below.refl _ _).alloc (Nat.le_refl _) _
  have b5 : W1.heap[B5]? = some (.cells #[.int .i64 4, .int .i64 k1, .int .i64 k2, .int .i64 ba, .int .i64 ix, .int .i64 v, .int .i64 n, .bool ci, .int .i64 cv, .bool two] 45 (0, 0)) := by rw [hW1, hB5]; exact heap_alloc_new _ _ rfl
  have HP : Hid (∀ U, Below W1.heap.size W1 U → PO X U S R P cap last av vs) := fun U hU => (h.kept hb1).kept hU
  have HBx : Hid (∀ U : World, Below W1.heap.size W1 U → U.cell? ⟨B5, 0, none⟩ = some (.int .i64 4) ∧ U.cell? ⟨B5, 1, none⟩ = some (.int .i64 k1) ∧ U.cell? ⟨B5, 2, none⟩ = some (.int .i64 k2) ∧ U.cell? ⟨B5, 3, none⟩ = some (.int .i64 ba) ∧ U.cell? ⟨B5, 5, none⟩ = some (.int .i64 v) ∧ U.cell? ⟨B5, 6, none⟩ = some (.int .i64 n)) := fun U hU => by
    have hW := (hU.block _ (blk_lt b5)).trans b5
    refine ⟨?_, ?_, ?_, ?_, ?_, ?_⟩ <;> simp [World.cell?, hW]
  have HF : Hid (∀ U, Below W1.heap.size W1 U → TruB w (.returned (.bool true)) U) := fun U hU => ⟨rfl, hb1.trans (hU.mono hb1.size)⟩
  obtain ⟨a0, a1, a2, a3, a4, a5, hlk⟩ := lkV_form (fv vs v)
  obtain ⟨⟨x1, x2⟩, x3, hko⟩ : ∃ x x3, koV (fv vs v) = (x, x3) := ⟨_, _, rfl⟩
  have HL1 : Hid (∀ U, Below W1.heap.size W1 U → Calls Tryz.prog 18 #[ptr S, .int .i64 v] U fun e w' => e = .returned (.tuple #[.agg #[.int .i64 a0, .int .i64 a1, .bool a2, .bool a3, .int .i64 a4], .int .i64 a5]) ∧ Below U.heap.size U w') := fun U hU => by
    have h1 := look_st 0 _ U S P cap last vs (HP.out U hU).st v hv
    rw [hlk] at h1
    exact h1
  have HL2 : Hid (∀ U, Below W1.heap.size W1 U → Calls Tryz.prog 19 #[ptr R, .int .i64 v] U fun e w' => e = .returned (.tuple #[.agg #[.int .i64 a0, .int .i64 a1, .bool a2, .bool a3, .int .i64 a4], .int .i64 a5]) ∧ Below U.heap.size U w') := fun U hU => by
    have h1 := rlook_any U 0 R P cap last av vs (HP.out U hU).rd (HP.out U hU).len (HP.out U hU).st.nd v
    rw [hlk] at h1
    exact h1
  have HK1 : Hid (∀ U, Below W1.heap.size W1 U → Calls Tryz.prog 20 #[ptr S, .int .i64 v] U fun e w' => e = .returned (.tuple #[.agg #[.int .i64 x1, .int .i64 x2], .int .i64 x3]) ∧ Below U.heap.size U w') := fun U hU => by
    have h1 := keyOf_st 0 _ U S P cap last vs (HP.out U hU).st v hv
    rw [hko] at h1
    exact h1
  have HK2 : Hid (∀ U, Below W1.heap.size W1 U → Calls Tryz.prog 21 #[ptr R, .int .i64 v] U fun e w' => e = .returned (.tuple #[.agg #[.int .i64 x1, .int .i64 x2], .int .i64 x3]) ∧ Below U.heap.size U w') := fun U hU => by
    have h1 := rkeyof_any U 0 R P cap last av vs (HP.out U hU).rd (HP.out U hU).len (HP.out U hU).st.nd v
    rw [hko] at h1
    exact h1
  have z0 := (HBx.out W1 (Below.refl _ _)).1
  have z5 := (HBx.out W1 (Below.refl _ _)).2.2.2.2.1
  have HW0 : Hid (∀ U, Below W1.heap.size W1 U → Below W1.heap.size W1 U) := fun U hU => hU
  obtain ⟨V0, hV0⟩ : ∃ V, V = W1 := ⟨_, rfl⟩
  generalize hx4 : befN vs v = x4
  have HB1 : Hid (∀ U, Below W1.heap.size W1 U → Calls Tryz.prog 22 #[ptr S, .int .i64 v] U fun e w' => e = .returned (.int .i64 x4) ∧ Below U.heap.size U w') := fun U hU => by
    rw [← hx4]
    exact sbefore_any 0 _ U S P cap last vs (HP.out U hU).st v hv
  have HB2 : Hid (∀ U, Below W1.heap.size W1 U → Calls Tryz.prog 23 #[ptr R, .int .i64 v] U fun e w' => e = .returned (.int .i64 x4) ∧ Below U.heap.size U w') := fun U hU => by
    rw [← hx4]
    exact (rbefore_any U 0 R P cap last av vs (HP.out U hU).rd (HP.out U hU).len (HP.out U hU).pl (HP.out U hU).st.nd v).mono fun e w' ⟨a1, q, os, a2⟩ => ⟨a1, by rw [a2]; exact Grew.below ⟨q, os, rfl⟩⟩
  clear hb1 b5 HP h hk hba hix hv hcv hlk hko hx4
  go_enter Tryz.func7, Tryz.ntmps7
  go_wp2_with fail
  rw [← hW1, ← hB5]
  clear hW1 hB5
  refine (HL1.out _ (HW0.out W1 (Below.refl _ _))).mono ?_
  rintro e U1 ⟨rfl, hb1⟩
  obtain ⟨V1, hV1⟩ : ∃ V, V = U1.alloc (.cells #[.int .i64 a0, .int .i64 a1, .bool a2, .bool a3, .int .i64 a4] 71) := ⟨_, rfl⟩
  obtain ⟨g1, hg1⟩ : ∃ g, g = U1.heap.size := ⟨_, rfl⟩
  have HT1 : Hid (Below W1.heap.size W1 V1) := by rw [hV1]; exact hb1.trans (((Below.refl _ _).alloc (Nat.le_refl _) _).mono hb1.size)
  have HG1 : Hid (V1.heap[g1]? = some (.cells #[.int .i64 a0, .int .i64 a1, .bool a2, .bool a3, .int .i64 a4] 71 (0, 0))) := by rw [hV1, hg1]; exact heap_alloc_new _ _ rfl
  have HQ1 : Hid (∀ U, Below V1.heap.size V1 U → (U.cell? ⟨g1, 0, none⟩ = some (.int .i64 a0) ∧ U.cell? ⟨g1, 1, none⟩ = some (.int .i64 a1) ∧ U.cell? ⟨g1, 2, none⟩ = some (.bool a2) ∧ U.cell? ⟨g1, 3, none⟩ = some (.bool a3) ∧ U.cell? ⟨g1, 4, none⟩ = some (.int .i64 a4)) ∧ Below W1.heap.size W1 U) := fun U hU => by
    have h1 := HW0.out U (HT1.out.trans (hU.mono HT1.out.size))
    have h2 := (hU.block _ (blk_lt HG1.out)).trans HG1.out
    exact ⟨⟨by simp [World.cell?, h2], by simp [World.cell?, h2], by simp [World.cell?, h2], by simp [World.cell?, h2], by simp [World.cell?, h2]⟩, h1⟩
  clear z5
  have z5 := (HBx.out V1 ((HQ1.out V1 (Below.refl _ _)).2)).2.2.2.2.1
  have z5a : ∀ o, (U1.alloc o).cell? ⟨B5, 5, none⟩ = some (.int .i64 v) := fun o => Lib.cell?_alloc_some _ ((HBx.out U1 ((HW0.out W1 (Below.refl _ _)).trans (hb1.mono (HW0.out W1 (Below.refl _ _)).size))).2.2.2.2.1)
  clear hb1 HT1 HG1
  go_wp2_with fail
  rw [← hV1, ← hg1]
  clear hV1 hg1 z5a
  refine (HL2.out _ ((HQ1.out V1 (Below.refl _ _)).2)).mono ?_
  rintro e U2 ⟨rfl, hb2⟩
  obtain ⟨V2, hV2⟩ : ∃ V, V = U2.alloc (.cells #[.int .i64 a0, .int .i64 a1, .bool a2, .bool a3, .int .i64 a4] 71) := ⟨_, rfl⟩
  obtain ⟨g2, hg2⟩ : ∃ g, g = U2.heap.size := ⟨_, rfl⟩
  have HT2 : Hid (Below V1.heap.size V1 V2) := by rw [hV2]; exact hb2.trans (((Below.refl _ _).alloc (Nat.le_refl _) _).mono hb2.size)
  have HG2 : Hid (V2.heap[g2]? = some (.cells #[.int .i64 a0, .int .i64 a1, .bool a2, .bool a3, .int .i64 a4] 71 (0, 0))) := by rw [hV2, hg2]; exact heap_alloc_new _ _ rfl
  have HQ2 : Hid (∀ U, Below V2.heap.size V2 U → (U.cell? ⟨g1, 0, none⟩ = some (.int .i64 a0) ∧ U.cell? ⟨g1, 1, none⟩ = some (.int .i64 a1) ∧ U.cell? ⟨g1, 2, none⟩ = some (.bool a2) ∧ U.cell? ⟨g1, 3, none⟩ = some (.bool a3) ∧ U.cell? ⟨g1, 4, none⟩ = some (.int .i64 a4)) ∧ (U.cell? ⟨g2, 0, none⟩ = some (.int .i64 a0) ∧ U.cell? ⟨g2, 1, none⟩ = some (.int .i64 a1) ∧ U.cell? ⟨g2, 2, none⟩ = some (.bool a2) ∧ U.cell? ⟨g2, 3, none⟩ = some (.bool a3) ∧ U.cell? ⟨g2, 4, none⟩ = some (.int .i64 a4)) ∧ Below W1.heap.size W1 U) := fun U hU => by
    have h1 := HQ1.out U (HT2.out.trans (hU.mono HT2.out.size))
    have h2 := (hU.block _ (blk_lt HG2.out)).trans HG2.out
    exact ⟨h1.1, ⟨by simp [World.cell?, h2], by simp [World.cell?, h2], by simp [World.cell?, h2], by simp [World.cell?, h2], by simp [World.cell?, h2]⟩, h1.2⟩
  clear z5
  have z5 := (HBx.out V2 ((HQ2.out V2 (Below.refl _ _)).2.2)).2.2.2.2.1
  have z5a : ∀ o, (U2.alloc o).cell? ⟨B5, 5, none⟩ = some (.int .i64 v) := fun o => Lib.cell?_alloc_some _ ((HBx.out U2 (((HQ1.out V1 (Below.refl _ _)).2).trans (hb2.mono ((HQ1.out V1 (Below.refl _ _)).2).size))).2.2.2.2.1)
  clear hb2 HT2 HG2 HQ1
  go_wp2_with fail
  rw [← hV2, ← hg2]
  clear hV2 hg2 z5a
  refine (HK1.out _ ((HQ2.out V2 (Below.refl _ _)).2.2)).mono ?_
  rintro e U3 ⟨rfl, hb3⟩
  obtain ⟨V3, hV3⟩ : ∃ V, V = U3.alloc (.cells #[.int .i64 x1, .int .i64 x2] 41) := ⟨_, rfl⟩
  obtain ⟨g3, hg3⟩ : ∃ g, g = U3.heap.size := ⟨_, rfl⟩
  have HT3 : Hid (Below V2.heap.size V2 V3) := by rw [hV3]; exact hb3.trans (((Below.refl _ _).alloc (Nat.le_refl _) _).mono hb3.size)
  have HG3 : Hid (V3.heap[g3]? = some (.cells #[.int .i64 x1, .int .i64 x2] 41 (0, 0))) := by rw [hV3, hg3]; exact heap_alloc_new _ _ rfl
  have HQ3 : Hid (∀ U, Below V3.heap.size V3 U → (U.cell? ⟨g1, 0, none⟩ = some (.int .i64 a0) ∧ U.cell? ⟨g1, 1, none⟩ = some (.int .i64 a1) ∧ U.cell? ⟨g1, 2, none⟩ = some (.bool a2) ∧ U.cell? ⟨g1, 3, none⟩ = some (.bool a3) ∧ U.cell? ⟨g1, 4, none⟩ = some (.int .i64 a4)) ∧ (U.cell? ⟨g2, 0, none⟩ = some (.int .i64 a0) ∧ U.cell? ⟨g2, 1, none⟩ = some (.int .i64 a1) ∧ U.cell? ⟨g2, 2, none⟩ = some (.bool a2) ∧ U.cell? ⟨g2, 3, none⟩ = some (.bool a3) ∧ U.cell? ⟨g2, 4, none⟩ = some (.int .i64 a4)) ∧ (U.cell? ⟨g3, 0, none⟩ = some (.int .i64 x1) ∧ U.cell? ⟨g3, 1, none⟩ = some (.int .i64 x2)) ∧ Below W1.heap.size W1 U) := fun U hU => by
    have h1 := HQ2.out U (HT3.out.trans (hU.mono HT3.out.size))
    have h2 := (hU.block _ (blk_lt HG3.out)).trans HG3.out
    exact ⟨h1.1, h1.2.1, ⟨by simp [World.cell?, h2], by simp [World.cell?, h2]⟩, h1.2.2⟩
  clear z5
  have z5 := (HBx.out V3 ((HQ3.out V3 (Below.refl _ _)).2.2.2)).2.2.2.2.1
  have z5a : ∀ o, (U3.alloc o).cell? ⟨B5, 5, none⟩ = some (.int .i64 v) := fun o => Lib.cell?_alloc_some _ ((HBx.out U3 (((HQ2.out V2 (Below.refl _ _)).2.2).trans (hb3.mono ((HQ2.out V2 (Below.refl _ _)).2.2).size))).2.2.2.2.1)
  clear hb3 HT3 HG3 HQ2
  go_wp2_with fail
  rw [← hV3, ← hg3]
  clear hV3 hg3 z5a
  refine (HK2.out _ ((HQ3.out V3 (Below.refl _ _)).2.2.2)).mono ?_
  rintro e U4 ⟨rfl, hb4⟩
  obtain ⟨V4, hV4⟩ : ∃ V, V = U4.alloc (.cells #[.int .i64 x1, .int .i64 x2] 41) := ⟨_, rfl⟩
  obtain ⟨g4, hg4⟩ : ∃ g, g = U4.heap.size := ⟨_, rfl⟩
  have HT4 : Hid (Below V3.heap.size V3 V4) := by rw [hV4]; exact hb4.trans (((Below.refl _ _).alloc (Nat.le_refl _) _).mono hb4.size)
  have HG4 : Hid (V4.heap[g4]? = some (.cells #[.int .i64 x1, .int .i64 x2] 41 (0, 0))) := by rw [hV4, hg4]; exact heap_alloc_new _ _ rfl
  have HQ4 : Hid (∀ U, Below V4.heap.size V4 U → (U.cell? ⟨g1, 0, none⟩ = some (.int .i64 a0) ∧ U.cell? ⟨g1, 1, none⟩ = some (.int .i64 a1) ∧ U.cell? ⟨g1, 2, none⟩ = some (.bool a2) ∧ U.cell? ⟨g1, 3, none⟩ = some (.bool a3) ∧ U.cell? ⟨g1, 4, none⟩ = some (.int .i64 a4)) ∧ (U.cell? ⟨g2, 0, none⟩ = some (.int .i64 a0) ∧ U.cell? ⟨g2, 1, none⟩ = some (.int .i64 a1) ∧ U.cell? ⟨g2, 2, none⟩ = some (.bool a2) ∧ U.cell? ⟨g2, 3, none⟩ = some (.bool a3) ∧ U.cell? ⟨g2, 4, none⟩ = some (.int .i64 a4)) ∧ (U.cell? ⟨g3, 0, none⟩ = some (.int .i64 x1) ∧ U.cell? ⟨g3, 1, none⟩ = some (.int .i64 x2)) ∧ (U.cell? ⟨g4, 0, none⟩ = some (.int .i64 x1) ∧ U.cell? ⟨g4, 1, none⟩ = some (.int .i64 x2)) ∧ Below W1.heap.size W1 U) := fun U hU => by
    have h1 := HQ3.out U (HT4.out.trans (hU.mono HT4.out.size))
    have h2 := (hU.block _ (blk_lt HG4.out)).trans HG4.out
    exact ⟨h1.1, h1.2.1, h1.2.2.1, ⟨by simp [World.cell?, h2], by simp [World.cell?, h2]⟩, h1.2.2.2⟩
  clear z5
  have z5 := (HBx.out V4 ((HQ4.out V4 (Below.refl _ _)).2.2.2.2)).2.2.2.2.1
  have z5a : ∀ o, (U4.alloc o).cell? ⟨B5, 5, none⟩ = some (.int .i64 v) := fun o => Lib.cell?_alloc_some _ ((HBx.out U4 (((HQ3.out V3 (Below.refl _ _)).2.2.2).trans (hb4.mono ((HQ3.out V3 (Below.refl _ _)).2.2.2).size))).2.2.2.2.1)
  clear hb4 HT4 HG4 HQ3
  go_upto_region 7 with fail
  rw [← hV4, ← hg4]
  clear hV4 hg4 z5a
  have HS : Hid (∀ U : World, Below V4.heap.size V4 U → (U.cell? ⟨g1, 0, none⟩ = some (.int .i64 a0) ∧ U.cell? ⟨g1, 1, none⟩ = some (.int .i64 a1) ∧ U.cell? ⟨g1, 2, none⟩ = some (.bool a2) ∧ U.cell? ⟨g1, 3, none⟩ = some (.bool a3) ∧ U.cell? ⟨g1, 4, none⟩ = some (.int .i64 a4)) ∧ (U.cell? ⟨g2, 0, none⟩ = some (.int .i64 a0) ∧ U.cell? ⟨g2, 1, none⟩ = some (.int .i64 a1) ∧ U.cell? ⟨g2, 2, none⟩ = some (.bool a2) ∧ U.cell? ⟨g2, 3, none⟩ = some (.bool a3) ∧ U.cell? ⟨g2, 4, none⟩ = some (.int .i64 a4)) ∧ (U.cell? ⟨g3, 0, none⟩ = some (.int .i64 x1) ∧ U.cell? ⟨g3, 1, none⟩ = some (.int .i64 x2)) ∧ (U.cell? ⟨g4, 0, none⟩ = some (.int .i64 x1) ∧ U.cell? ⟨g4, 1, none⟩ = some (.int .i64 x2)) ∧ U.cell? ⟨B5, 5, none⟩ = some (.int .i64 v)) := fun U hU => ⟨(HQ4.out U hU).1, (HQ4.out U hU).2.1, (HQ4.out U hU).2.2.1, (HQ4.out U hU).2.2.2.1, (HBx.out U (HQ4.out U hU).2.2.2.2).2.2.2.2.1⟩
  have HC1 : Hid (∀ U, Below V4.heap.size V4 U → Calls Tryz.prog 22 #[ptr S, .int .i64 v] U fun e w' => e = .returned (.int .i64 x4) ∧ Below V4.heap.size V4 w') := fun U hU => (HB1.out U (HQ4.out U hU).2.2.2.2).mono fun e w' ⟨a1, a2⟩ => ⟨a1, hU.trans (a2.mono hU.size)⟩
  have HC2 : Hid (∀ U, Below V4.heap.size V4 U → Calls Tryz.prog 23 #[ptr R, .int .i64 v] U fun e w' => e = .returned (.int .i64 x4) ∧ Below V4.heap.size V4 w') := fun U hU => (HB2.out U (HQ4.out U hU).2.2.2.2).mono fun e w' ⟨a1, a2⟩ => ⟨a1, hU.trans (a2.mono hU.size)⟩
  have HC1d := hidS (HC1.out V4.drew (drew_below V4 1))
  have HE : Hid (∀ U, Below V4.heap.size V4 U → TruB w (.returned (.bool true)) U) := fun U hU => HF.out U (HQ4.out U hU).2.2.2.2
  obtain ⟨⟨p0, p1, p2, p3, p4⟩, ⟨q0, q1, q2, q3, q4⟩, ⟨r0, r1⟩, ⟨s0, s1⟩, _⟩ := HS.out V4 (Below.refl _ _)
  have hvn := fun w : World => run_eqVer a0 a1 a2 a3 a4 w
  have hvg := fun (op : BinOp) (a b : Operand) (w : World) => run_guardV op a b a0 a1 a2 a3 a4 w
  have hkn := fun w : World => run_eqKey x1 x2 x1 x2 w
  simp only [decide_true] at hkn
  have hkg := fun (op : BinOp) (a b : Operand) (w : World) => run_eqGuard op a b x1 x2 x1 x2 w
  clear HL1 HL2 HK1 HK2 HB1 HB2 HQ4 HF HBx HW0 hV0
  go_region_held3 (fun w' => (w'.cell? ⟨g1, 0, none⟩ = some (.int .i64 a0) ∧ w'.cell? ⟨g1, 1, none⟩ = some (.int .i64 a1) ∧ w'.cell? ⟨g1, 2, none⟩ = some (.bool a2) ∧ w'.cell? ⟨g1, 3, none⟩ = some (.bool a3) ∧ w'.cell? ⟨g1, 4, none⟩ = some (.int .i64 a4)) ∧ (w'.cell? ⟨g2, 0, none⟩ = some (.int .i64 a0) ∧ w'.cell? ⟨g2, 1, none⟩ = some (.int .i64 a1) ∧ w'.cell? ⟨g2, 2, none⟩ = some (.bool a2) ∧ w'.cell? ⟨g2, 3, none⟩ = some (.bool a3) ∧ w'.cell? ⟨g2, 4, none⟩ = some (.int .i64 a4)) ∧ (w'.cell? ⟨g3, 0, none⟩ = some (.int .i64 x1) ∧ w'.cell? ⟨g3, 1, none⟩ = some (.int .i64 x2)) ∧ (w'.cell? ⟨g4, 0, none⟩ = some (.int .i64 x1) ∧ w'.cell? ⟨g4, 1, none⟩ = some (.int .i64 x2)) ∧ w'.cell? ⟨B5, 5, none⟩ = some (.int .i64 v)) (first | with_reducible exact HQB.out | with_reducible exact HQA.out | go_keep) (first
    | (go_at_call 22; with_reducible refine HC1d.out.mono ?_; rintro e wA ⟨rfl, hbA⟩; have HQA := hidC (HS.out _ hbA); have HBA := hidC hbA; clear hbA)
    | (go_at_call 23; with_reducible refine (HC2.out _ (by with_reducible exact HBA.out)).mono ?_; rintro e wB ⟨rfl, hbB⟩; have HQB := hidC (HS.out _ hbB); have HBB := hidC hbB; clear hbB))
  have HZ := hidS (HE.out _ HBB.out)
  clear HQA HQB HBA HBB HC1 HC1d HC2 HE HS p0 p1 p2 p3 p4 q0 q1 q2 q3 q4 r0 r1 s0 s1 z5
  go_wp2
  go_ret
  exact HZ.out
end
end Go.Proofs.YtbcmmeajglilbaaGreat
