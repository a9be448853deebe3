/-
  thin: THE MATHEMATICS.
-/
import Derived.Test.YtbmohlkcmhhpgaaGreatBkSeen
namespace Go.Proofs.YtbmohlkcmhhpgaaGreat
open Go.RowKit Go.Sort

theorem chg_congr : ∀ (l : List V4) (f g : K → Pl), (∀ v ∈ l, f v.1 = g v.1) → chg f l = chg g l
  | [], _, _, _ => rfl
  | v :: l, f, g, h => by
    simp only [chg]
    rw [h v (by simp), chg_congr l (upd f v) (upd g v) (fun u hu => by unfold upd; rw [h u (by simp [hu])])]
theorem nf_congr {k : K} : ∀ (l : List V4) (f g : K → Pl), f k = g k → nf f l k = nf g l k
  | [], _, _, h => h
  | v :: l, f, g, h => by
    rw [nf_cons, nf_cons]
    exact nf_congr l _ _ (by unfold upd; rw [h])
/-- what stands at a version -/
theorem chg_at {X Y : List V4} {u : V4} (hn : (X ++ u :: Y).Nodup) : fm (chg f0 (X ++ u :: Y)) u = some (pv (nf f0 X u.1)) := by
  rw [chg_append]
  simp only [chg]
  refine fm_mid ?_
  have := chg_fst (X ++ u :: Y) f0
  rw [chg_append] at this
  simp only [chg] at this
  rw [this]
  exact hn
/-- one is let go -/
theorem chg_drop {A M Y : List V4} {u v : V4} (hk : v.1 = u.1) (hM : ∀ x ∈ M, x.1 ≠ u.1) :
    ∃ P1 P2, chg f0 (A ++ v :: (M ++ u :: Y)) = P1 ++ (v, pv (nf f0 A u.1)) :: (P2 ++ (u, pv v.2) :: chg (upd (nf f0 (A ++ v :: M)) u) Y) ∧ chg f0 (A ++ (M ++ u :: Y)) = P1 ++ (P2 ++ (u, pv (nf f0 A u.1)) :: chg (upd (nf f0 (A ++ v :: M)) u) Y) := by
  refine ⟨chg f0 A, chg (nf f0 A) M, ?_, ?_⟩
  · rw [chg_append]
    simp only [chg]
    rw [chg_append, hk, chg_congr M (upd (nf f0 A) v) (nf f0 A) (fun x hx => by unfold upd; rw [if_neg (by rw [hk]; exact hM x hx)])]
    simp only [chg]
    have e1 : nf (upd (nf f0 A) v) M u.1 = v.2 := by
      rw [nf_other M _ hM]
      unfold upd
      rw [if_pos hk.symm]
    rw [e1, nf_append f0 A (v :: M), nf_cons]
  · rw [chg_append, chg_append]
    simp only [chg]
    have e1 : nf (nf f0 A) M u.1 = nf f0 A u.1 := nf_other M _ hM
    rw [e1]
    congr 3
    refine chg_congr Y _ _ (fun x _ => ?_)
    unfold upd
    split
    · rfl
    · rename_i hx
      rw [nf_append f0 A (v :: M), nf_cons]
      exact nf_congr M _ _ (by unfold upd; rw [if_neg (by rw [hk]; exact hx)])
theorem nf_drop {A M Y : List V4} {u v : V4} (hk : v.1 = u.1) (k : K) : nf f0 (A ++ (M ++ u :: Y)) k = nf f0 (A ++ v :: (M ++ u :: Y)) k := by
  rw [nf_append, nf_append f0 A (v :: (M ++ u :: Y)), nf_cons, nf_append, nf_append _ M, nf_cons, nf_cons]
  refine nf_congr Y _ _ ?_
  unfold upd
  by_cases h : k = u.1
  · rw [if_pos h, if_pos h]
  · rw [if_neg h, if_neg h]
    refine nf_congr M _ _ ?_
    show _ = if k = v.1 then v.2 else _
    rw [if_neg (by rw [hk]; exact h)]
/-- the last one of a key -/
theorem last_split {k : K} : ∀ (l : List V4), (∃ v ∈ l, v.1 = k) → ∃ X u Y, l = X ++ u :: Y ∧ u.1 = k ∧ ∀ v ∈ Y, v.1 ≠ k := by
  intro l
  induction l with
  | nil => rintro ⟨v, hv, _⟩; cases hv
  | cons a l ih =>
    rintro ⟨v, hv, hk⟩
    by_cases h : ∃ v ∈ l, v.1 = k
    · obtain ⟨X, u, Y, rfl, h1, h2⟩ := ih h
      exact ⟨a :: X, u, Y, rfl, h1, h2⟩
    · rcases List.mem_cons.1 hv with rfl | hv
      · exact ⟨[], v, l, rfl, hk, fun x hx e => h ⟨x, hx, e⟩⟩
      · exact absurd ⟨v, hv, hk⟩ h
/-- what thin keeps, from the back -/
def keepR (d : List Int) (k : K) : List V4 → Int → List V4
  | [], _ => []
  | v :: l, nb => if v.1 = k then (if seenN d v.2.1 nb then v :: keepR d k l v.2.1 else keepR d k l nb) else v :: keepR d k l nb
theorem keepR_other {d : List Int} {k : K} {nb : Int} : ∀ (M l : List V4), (∀ v ∈ M, v.1 ≠ k) → keepR d k (M ++ l) nb = M ++ keepR d k l nb
  | [], _, _ => rfl
  | v :: M, l, h => by
    simp only [List.cons_append, keepR]
    rw [if_neg (h v (by simp)), keepR_other M l (fun u hu => h u (by simp [hu]))]
def thinT (d : List Int) (k : K) (X : List V4) (u : V4) (Y : List V4) : List V4 := (keepR d k X.reverse u.2.1).reverse ++ u :: Y
theorem thinT_end {d : List Int} {k : K} {X : List V4} {u : V4} {Y : List V4} (h : ∀ v ∈ X, v.1 ≠ k) : thinT d k X u Y = X ++ u :: Y := by
  unfold thinT
  have := keepR_other (d := d) (nb := u.2.1) X.reverse [] (fun v hv => h v (by simpa using hv))
  rw [List.append_nil] at this
  rw [this]
  simp [keepR]
theorem thinT_keep {d : List Int} {k : K} {A M : List V4} {v u : V4} {Y : List V4} (hM : ∀ x ∈ M, x.1 ≠ k) (hv : v.1 = k) (hs : seenN d v.2.1 u.2.1 = true) : thinT d k (A ++ v :: M) u Y = thinT d k A v (M ++ u :: Y) := by
  unfold thinT
  have e1 : (A ++ v :: M).reverse = M.reverse ++ v :: A.reverse := by simp
  rw [e1, keepR_other M.reverse _ (fun x hx => hM x (by simpa using hx))]
  simp only [keepR]
  rw [if_pos hv, if_pos hs]
  simp
theorem thinT_drop {d : List Int} {k : K} {A M : List V4} {v u : V4} {Y : List V4} (hM : ∀ x ∈ M, x.1 ≠ k) (hv : v.1 = k) (hs : seenN d v.2.1 u.2.1 = false) : thinT d k (A ++ v :: M) u Y = thinT d k (A ++ M) u Y := by
  unfold thinT
  have e1 : (A ++ v :: M).reverse = M.reverse ++ v :: A.reverse := by simp
  have e2 : (A ++ M).reverse = M.reverse ++ A.reverse := by simp
  rw [e1, e2, keepR_other M.reverse _ (fun x hx => hM x (by simpa using hx)), keepR_other M.reverse _ (fun x hx => hM x (by simpa using hx))]
  simp only [keepR]
  rw [if_pos hv, if_neg (by rw [hs]; decide)]
theorem BA.drop {w W2 : World} {B Mp Mc Mn : Nat} {cap latest floor : Int} {pins : List (Int × Int)} {A M Y : List V4} {u v : V4} {nw : List K} (h : BA w B Mp Mc Mn cap latest floor pins (A ++ v :: (M ++ u :: Y)) nw) (hk : v.1 = u.1) (hs : ∀ k, k < w.heap.size → k ≠ Mc → W2.heap[k]? = w.heap[k]?) (hm : MAt ev VIn W2 Mc (chg f0 (A ++ (M ++ u :: Y)))) : BA W2 B Mp Mc Mn cap latest floor pins (A ++ (M ++ u :: Y)) nw := by
  have hne := h.Bne
  have hsub : (A ++ (M ++ u :: Y)).Sublist (A ++ v :: (M ++ u :: Y)) := List.Sublist.append_left (List.sublist_cons_self _ _) _
  refine ⟨(hs B (blk_lt h.bk) hne.2.1).trans h.bk, h.mp.same (hs _ h.mp.lt h.ne.1), hm, ?_, fun k => ?_, h.ne, h.cp, h.la, ?_, fun x hx => h.pl x (hsub.subset hx), h.ps, h.rs.sublist hsub, fun x hx => h.ik x (hsub.subset hx)⟩
  · have := h.mn.same (hs _ h.mn.lt h.ne.2.2.symm)
    simp only [nf_drop hk]
    exact this
  · rw [h.nwa]
    constructor
    · rintro ⟨x, hx, e⟩
      rcases List.mem_append.1 hx with hx | hx
      · exact ⟨x, by simp [hx], e⟩
      · rcases List.mem_cons.1 hx with rfl | hx
        · exact ⟨u, by simp, by rw [← hk]; exact e⟩
        · exact ⟨x, by simp only [List.mem_append] at hx ⊢; exact .inr hx, e⟩
    · rintro ⟨x, hx, e⟩
      exact ⟨x, hsub.subset hx, e⟩
  · have := h.ln
    have := hsub.length_le
    omega
/-- one is let go, in the map -/
theorem BA.thinStep {w : World} {B Mp Mc Mn : Nat} {cap latest floor : Int} {pins : List (Int × Int)} {A M Y : List V4} {u v : V4} {nw : List K} (h : BA w B Mp Mc Mn cap latest floor pins (A ++ v :: (M ++ u :: Y)) nw) (hk : v.1 = u.1) (hM : ∀ x ∈ M, x.1 ≠ u.1) :
    ∃ W5, (Instr.mapUpdate 85 (.map (some Mc)) (ev u) (pv (nf f0 A u.1))).run Tryz.prog w = .ok () W5 ∧ w.grownBy W5 (some Mc) ∧ ∃ W6, (∀ ty, (Builtin.delete_ #[85, 118] ty #[.map (some Mc), ev v]).run Tryz.prog W5.drew = .ok (.tuple #[]) W6) ∧ W5.grownBy W6 (some Mc) ∧ BA W6 B Mp Mc Mn cap latest floor pins (A ++ (M ++ u :: Y)) nw := by
  obtain ⟨P1, P2, e1, e2⟩ := chg_drop (A := A) (Y := Y) hk hM
  have hmc := h.mc
  rw [e1] at hmc
  have e3 : P1 ++ (v, pv (nf f0 A u.1)) :: (P2 ++ (u, pv v.2) :: chg (upd (nf f0 (A ++ v :: M)) u) Y) = (P1 ++ (v, pv (nf f0 A u.1)) :: P2) ++ (u, pv v.2) :: chg (upd (nf f0 (A ++ v :: M)) u) Y := by simp
  rw [e3] at hmc
  obtain ⟨W5, hp, hm5, hg5⟩ := kdC.putOld hmc (pv (nf f0 A u.1))
  refine ⟨W5, hp, hg5, ?_⟩
  have e4 : (P1 ++ (v, pv (nf f0 A u.1)) :: P2) ++ (u, pv (nf f0 A u.1)) :: chg (upd (nf f0 (A ++ v :: M)) u) Y = P1 ++ (v, pv (nf f0 A u.1)) :: (P2 ++ (u, pv (nf f0 A u.1)) :: chg (upd (nf f0 (A ++ v :: M)) u) Y) := by simp
  rw [e4] at hm5
  have hm5' : MAt ev VIn W5.drew Mc _ := hm5.same (w' := W5.drew) rfl
  obtain ⟨W6, hd, hm6, hg6⟩ := kdC.del hm5'
  have hg6' : W5.grownBy W6 (some Mc) := ⟨hg6.os, hg6.tape, hg6.output, hg6.size, hg6.block⟩
  refine ⟨W6, hd, hg6', h.drop hk (fun k hk hne => ?_) (by rw [e2]; exact hm6)⟩
  exact (hg6'.block k (Nat.lt_of_lt_of_le hk hg5.size) (fun e => by cases e; exact hne rfl)).trans (hg5.block k hk (fun e => by cases e; exact hne rfl))
end Go.Proofs.YtbmohlkcmhhpgaaGreat
