/-
  WHAT THE WALK OF split LEANS ON.
-/
import Derived.Test.YtnjgaibcpcpmcabSOut
import Derived.Test.YtnjgaibcpcpmcabRefSplit
namespace Go.Proofs.Ytnjgaibcpcpmcab
open Go.RowKit Go.Sort

/-- a list of lists of the call's own -/
structure Fam (w : World) (base : Nat) (v : Value) (es : List Value) (Cs : Nat → List K) : Prop where
  row : OwnR w base v es
  mem : ∀ (p : Nat) (x : Value), es[p]? = some x → OwnK w base x (Cs p)
  ap : ∀ (p q : Nat) (x y : Value), es[p]? = some x → es[q]? = some y → p ≠ q → ∀ b, x.ownBlock = some b → y.ownBlock ≠ some b
  nr : ∀ (p : Nat) (x : Value), es[p]? = some x → ∀ b, x.ownBlock = some b → v.ownBlock ≠ some b
theorem Fam.nil (w : World) (base : Nat) (Cs : Nat → List K) : Fam w base (.slice none 0 0) [] Cs := ⟨OwnR.nil _ _, fun p x h => by simp at h, fun p q x y h => by simp at h, fun p x h => by simp at h⟩
theorem Fam.kept {w w1 : World} {base : Nat} {v : Value} {es : List Value} {Cs : Nat → List K} (h : Fam w base v es Cs) (hb : Below w.heap.size w w1) : Fam w1 base v es Cs := ⟨h.row.kept hb, fun p x hx => (h.mem p x hx).kept hb, h.ap, h.nr⟩
theorem parts_fam {w : World} {base G P : Nat} {vs : Nat → Value} {Ls : Nat → List K} (h : Parts w base G P vs Ls) (hb : base ≤ G) (hP : P ≤ 256) : Fam w base (.slice (some ⟨G, 0, none⟩) P P) ((List.range P).map vs) Ls := by
  have hat : ∀ p x, ((List.range P).map vs)[p]? = some x → p < P ∧ x = vs p := fun p x hx => by
    have hl := (List.getElem?_eq_some_iff.1 hx).1
    rw [List.length_map, List.length_range] at hl
    rw [List.getElem?_map, List.getElem?_range hl] at hx
    exact ⟨hl, (Option.some.inj hx).symm⟩
  refine ⟨?_, fun p x hx => ?_, fun p q x y hx hy hne b h1 => ?_, fun p x hx b h1 h2 => ?_⟩
  · unfold OwnR
    rw [List.length_map, List.length_range]
    refine ⟨by simp, .inr ⟨G, P, outer vs P, rfl, hb, h.row, Nat.le_refl _, by unfold maxLen; omega, by rw [outer_size]; omega, ?_⟩⟩
    unfold outer
    rw [Nat.mul_one, List.take_of_length_le (by simp)]
  · obtain ⟨h1, rfl⟩ := hat p x hx; exact h.own p h1
  · obtain ⟨h2, rfl⟩ := hat p x hx
    obtain ⟨h3, rfl⟩ := hat q y hy
    exact h.apart p q h2 h3 hne b h1
  · obtain ⟨h3, rfl⟩ := hat p x hx
    cases h2
    exact h.notG p h3 h1
/-- the answers of Split -/
def codeP (A : List K) (parts : Int) : Int := if okParts parts = true then (if A.all isKey = true then 0 else 20) else 21
def lenP (A : List K) (parts : Int) : Nat := if okParts parts = true then (if A.all isKey = true then parts.toNat else 0) else 0
theorem lenP_le (A : List K) (parts : Int) : lenP A parts ≤ 256 := by
  unfold lenP
  split
  · rename_i h
    obtain ⟨_, h2⟩ := (okParts_iff parts).1 h
    split <;> omega
  · omega
theorem split_r (w : World) (ao : Option Addr) (n cap : Nat) (parts : Int) (A : List K) (h : Lst w ao n cap A) (hin : ∀ k ∈ A, In64 k.2) (hm : n * 16 ≤ 140737488355328) :
    Calls Try.prog 6 #[.slice ao n cap, .int .i64 parts] w fun e w' => ∃ a c, ∃ es : List Value, e = .returned (.tuple #[.slice a (lenP A parts) c, .int .i64 (codeP A parts)]) ∧ Hid (es.length = lenP A parts ∧ Fam w' w.heap.size (.slice a (lenP A parts) c) es (partL A parts.toNat)) ∧ Below w.heap.size w w' := by
  by_cases hp : okParts parts = true
  · obtain ⟨h1, h2⟩ := (okParts_iff parts).1 hp
    obtain ⟨P, rfl⟩ := Int.eq_ofNat_of_zero_le (show 0 ≤ parts by omega)
    refine (split_any w ao cap n P A h.len h.at_ hin (by omega) (by omega) hm).mono fun e w' ⟨hq, hb⟩ => ?_
    unfold lenP codeP
    rw [if_pos hp, if_pos hp]
    rcases hq with ⟨ha, vs, rfl, hP⟩ | ⟨ha, rfl⟩
    · rw [if_pos ha, if_pos ha]
      exact ⟨_, _, _, rfl, ⟨by simp, parts_fam hP (Nat.le_refl _) (by omega)⟩, hb⟩
    · rw [if_neg (by rw [ha]; decide), if_neg (by rw [ha]; decide)]
      exact ⟨none, 0, [], rfl, ⟨rfl, Fam.nil _ _ _⟩, hb⟩
  · refine (split_parts w _ parts (by simpa using hp)).mono fun e w' ⟨he, hw⟩ => ?_
    subst he hw
    unfold lenP codeP
    rw [if_neg hp, if_neg hp]
    exact ⟨none, 0, [], rfl, ⟨rfl, Fam.nil _ _ _⟩, Below.refl _ _⟩
theorem refSplit_r (w : World) (ao : Option Addr) (n cap : Nat) (parts : Int) (A : List K) (h : Lst w ao n cap A) (hin : ∀ k ∈ A, In64 k.2) (hm : n * 16 ≤ 140737488355328) :
    Calls Try.prog 54 #[.slice ao n cap, .int .i64 parts] w fun e w' => ∃ a c, ∃ es : List Value, e = .returned (.tuple #[.slice a (lenP A parts) c, .int .i64 (codeP A parts)]) ∧ Hid (es.length = lenP A parts ∧ Fam w' w.heap.size (.slice a (lenP A parts) c) es (partL A parts.toNat)) ∧ Below w.heap.size w w' := by
  by_cases hp : okParts parts = true
  · obtain ⟨h1, h2⟩ := (okParts_iff parts).1 hp
    obtain ⟨P, rfl⟩ := Int.eq_ofNat_of_zero_le (show 0 ≤ parts by omega)
    refine (refSplit_any w ao cap n P A h.len h.at_ hin (by omega) (by omega) hm).mono fun e w' ⟨hq, hb⟩ => ?_
    unfold lenP codeP
    rw [if_pos hp, if_pos hp]
    rcases hq with ⟨ha, vs, G, rfl, hG, hP⟩ | ⟨ha, rfl⟩
    · rw [if_pos ha, if_pos ha]
      exact ⟨_, _, _, rfl, ⟨by simp, parts_fam hP hG (by omega)⟩, hb⟩
    · rw [if_neg (by rw [ha]; decide), if_neg (by rw [ha]; decide)]
      exact ⟨none, 0, [], rfl, ⟨rfl, Fam.nil _ _ _⟩, hb⟩
  · refine (refSplit_parts w _ parts (by simpa using hp)).mono fun e w' ⟨he, hw⟩ => ?_
    subst he
    unfold lenP codeP
    rw [if_neg hp, if_neg hp]
    exact ⟨none, 0, [], rfl, ⟨rfl, Fam.nil _ _ _⟩, hw⟩

theorem Sh.lt_of {w : World} {base SB : Nat} {X : Xt} {O : Nat → Option Nat} {lv wv : Value} {xs ys : List Value} {Ms : Nat → List K} (h : Sh w base SB X O lv wv xs ys Ms) {b l : Nat} (hb : O b = some l) : b < w.heap.size := by
  by_cases h1 : b < w.heap.size
  · exact h1
  · have := h.fresh b (by omega); rw [hb] at this; cases this
/-- the shelf's cells while a framed row grows -/
theorem Sh.row3 {w w1 : World} {base SB : Nat} {X : Xt} {O : Nat → Option Nat} {lv wv : Value} {xs ys : List Value} {Ms : Nat → List K} {row : Option Nat} (h : Sh w base SB X O lv wv xs ys Ms) (hr : ∀ b, row = some b → O b = some 3) (hg : w.grownBy w1 row) : w1.heap[SB]? = some (.cells #[lv, wv, X.ov, X.sv] 47 (0, 0)) :=
  (hg.block SB h.lt (fun e => by have := hr SB e.symm; rw [h.sb.2] at this; cases this)).trans h.cell
theorem shelf_cell {w : World} {SB : Nat} {c0 c1 c2 c3 : Value} (h : w.heap[SB]? = some (.cells #[c0, c1, c2, c3] 47 (0, 0))) : w.cell? ⟨SB, 0, none⟩ = some c0 ∧ w.cell? ⟨SB, 1, none⟩ = some c1 ∧ w.cell? ⟨SB, 2, none⟩ = some c2 ∧ w.cell? ⟨SB, 3, none⟩ = some c3 ∧ ∀ j, w.frozen? ⟨SB, j, none⟩ = false := by
  refine ⟨?_, ?_, ?_, ?_, fun j => ?_⟩ <;> simp [World.cell?, World.frozen?, h]
theorem rr_shape {w : World} {base : Nat} {gv : Value} {es : List Value} (h : OwnRR w base gv es) : ∃ a c, gv = .slice a es.length c := by
  rcases h.shape with ⟨rfl, rfl⟩ | ⟨g, cap, rfl, _⟩
  · exact ⟨none, 0, rfl⟩
  · exact ⟨_, cap, rfl⟩

/-- a list of lists is put into the row of them -/
theorem Out.putO {W w4 : World} {base SB : Nat} {X : Xt} {O : Nat → Option Nat} {Q : Nat → Nat} {lv wv v l : Value} {xs ys us zs es1 : List Value} {Ms : Nat → List K} {es fs : Nat → List Value} {Cs : Nat → Nat → List K} (hS : Sh W base SB X O lv wv xs ys Ms) (hO : Out W base O Q X.ov X.sv us zs es fs Cs)
    (hl : OwnR W base l es1) (hln : ∀ b, l.ownBlock = some b → O b = none) (h4 : OwnRR w4 base v (us ++ [l])) (hg : W.grownBy w4 X.ov.ownBlock) (hat : v.ownBlock = X.ov.ownBlock ∨ v.ownBlock = some W.heap.size) :
    ∃ X' O' Q', X'.ov = v ∧ X'.sv = X.sv ∧ Sh (w4.setCell ⟨SB, 2, none⟩ v) base SB X' O' lv wv xs ys Ms ∧ Out (w4.setCell ⟨SB, 2, none⟩ v) base O' Q' v X.sv (us ++ [l]) zs (updf es us.length es1) fs Cs ∧ ∀ b, b < W.heap.size → O b = none → l.ownBlock ≠ some b → O' b = none ∧ (w4.setCell ⟨SB, 2, none⟩ v).heap[b]? = W.heap[b]? := by
  have hne : ∀ b l', O b = some l' → l' ≠ 3 → X.ov.ownBlock ≠ some b := fun b l' hb hl' e => by rw [(hO.o2 b e).1] at hb; exact hl' (Option.some.inj hb).symm
  have hc1 := hS.row3 (fun b hb => (hO.o2 b hb).1) hg
  have hso : ∀ b, b ≠ SB → (w4.setCell ⟨SB, 2, none⟩ v).heap[b]? = w4.heap[b]? := fun b hb => heap_setCell_other w4 ⟨SB, 2, none⟩ b v hb
  have h3S : ∀ b, O b = some 3 → b ≠ SB := fun b hb e => by subst e; rw [hS.sb.2] at hb; cases hb
  have hnS : ∀ b, O b = none → b ≠ SB := fun b hb e => by subst e; rw [hS.sb.2] at hb; cases hb
  have hv : ∀ b, v.ownBlock = some b → O b = some 3 ∧ Q b = 0 ∨ b = W.heap.size := fun b hb => by
    rcases hat with e | e
    · rw [e] at hb; exact .inl (hO.o2 b hb)
    · rw [e] at hb; exact .inr (Option.some.inj hb).symm
  have hfw : O W.heap.size = none := hS.fresh _ (Nat.le_refl _)
  have hvS : ∀ b, v.ownBlock = some b → b ≠ SB := fun b hb => by
    rcases hv b hb with h | h
    · exact h3S b h.1
    · rw [h]; exact hnS _ hfw
  have same : ∀ b, b < W.heap.size → b ≠ SB → X.ov.ownBlock ≠ some b → (w4.setCell ⟨SB, 2, none⟩ v).heap[b]? = W.heap[b]? := fun b h1 h2 h3 => (hso b h2).trans (hg.block b h1 (fun e => h3 e.symm))
  have oldQ : ∀ b q, O b = some 3 ∧ Q b = q → q ≠ 0 → (w4.setCell ⟨SB, 2, none⟩ v).heap[b]? = W.heap[b]? ∧ (if v.ownBlock = some b ∨ l.ownBlock = some b then some 3 else O b) = some 3 ∧ (if v.ownBlock = some b then 0 else if O b = some 3 then Q b else 3 + us.length) = q := fun b q hb hq => by
    have hvn : v.ownBlock ≠ some b := fun e => by
      rcases hv b e with h | h
      · exact hq (hb.2.symm.trans h.2)
      · rw [h, hfw] at hb; cases hb.1
    refine ⟨same b (hS.lt_of hb.1) (h3S b hb.1) (fun e => hq (hb.2.symm.trans (hO.o2 b e).2)), by rw [hb.1]; split <;> rfl, by rw [if_neg hvn, if_pos hb.1]; exact hb.2⟩
  have hnv : ∀ b, O b = none → b < W.heap.size → v.ownBlock ≠ some b := fun b h1 h2 e => by
    rcases hv b e with h | h
    · rw [h1] at h; cases h.1
    · omega
  refine ⟨⟨frm (w4.setCell ⟨SB, 2, none⟩ v) (fun b => if v.ownBlock = some b ∨ l.ownBlock = some b then some 3 else O b), v, X.sv⟩, fun b => if v.ownBlock = some b ∨ l.ownBlock = some b then some 3 else O b, fun b => if v.ownBlock = some b then 0 else if O b = some 3 then Q b else 3 + us.length, rfl, rfl,
    hS.reframe _ ?_ (fun b l' hb hl' hbS => same b (hS.lt_of hb) hbS (hne b l' hb hl')) (fun b l' hb hl' => ?_) (fun b hb => ?_) (fun _ _ ho => frm_some (O := fun b => if v.ownBlock = some b ∨ l.ownBlock = some b then some 3 else O b) ho), ⟨?_, fun b hb => ⟨if_pos (.inl hb), if_pos hb⟩, ?_, fun b hb => ?_, fun i e he => ?_, fun i e he => ?_, fun i hi p x hx => ?_⟩, fun b h1 h2 h3 => ?_⟩
  · have := heap_setCell_same w4 SB 2 _ _ v hc1
    simpa using this
  · rw [if_neg (fun h => ?_)]; exact hb
    rcases h with h | h
    · rcases hv b h with h | h
      · rw [h.1] at hb; exact hl' (Option.some.inj hb).symm
      · rw [h, hfw] at hb; cases hb
    · rw [hln b h] at hb; cases hb
  · have hsz : w4.heap.size ≤ b := by simpa [World.setCell] using hb
    rw [if_neg (fun h => ?_)]; exact hS.fresh b (Nat.le_trans hg.size hsz)
    rcases h with h | h
    · have := (h4.lt b h).2; omega
    · have := (hl.lt b h).2; have := hg.size; omega
  · exact OwnRR.same (w := w4) h4 fun g hgg => hso g (hvS g hgg)
  · exact hO.s1.same fun g hgg => (oldQ g 1 (hO.s2 g hgg) (by omega)).1
  · exact (oldQ b 1 (hO.s2 b hb) (by omega)).2
  · rw [List.getElem?_append] at he
    split at he
    · rename_i hi
      obtain ⟨g1, g2⟩ := hO.u i e he
      rw [updf_other _ _ _ _ (by omega)]
      exact ⟨g1.same fun g hgg => (oldQ g (3 + i) (g2 g hgg) (by omega)).1, fun b hb => (oldQ b (3 + i) (g2 b hb) (by omega)).2⟩
    · rename_i hi
      have hq : i = us.length := by
        by_cases e2 : i - us.length = 0
        · omega
        · rw [List.getElem?_eq_none (by simp; omega)] at he; cases he
      subst hq
      rw [Nat.sub_self] at he
      cases he
      rw [updf_same]
      refine ⟨hl.same fun g hgg => same g (hl.lt g hgg).2 (hnS g (hln g hgg)) (fun e => by have := (hO.o2 g e).1; rw [hln g hgg] at this; cases this), fun b hb => ⟨if_pos (.inr hb), ?_⟩⟩
      rw [if_neg (hnv b (hln b hb) (hl.lt b hb).2), if_neg (by rw [hln b hb]; simp)]
  · obtain ⟨g1, g2⟩ := hO.z i e he
    exact ⟨g1.same fun g hgg => (oldQ g 2 (g2 g hgg) (by omega)).1, fun b hb => (oldQ b 2 (g2 b hb) (by omega)).2⟩
  · obtain ⟨g1, g2⟩ := hO.f i hi p x hx
    exact ⟨g1.same fun g hgg => (oldQ g 2 (g2 g hgg) (by omega)).1, fun b hb => (oldQ b 2 (g2 b hb) (by omega)).2⟩
  · refine ⟨?_, same b h1 (hnS b h2) (fun e => by have := (hO.o2 b e).1; rw [h2] at this; cases this)⟩
    simp only
    rw [if_neg (fun h => ?_)]; exact h2
    rcases h with h | h
    · exact hnv b h2 h1 h
    · exact h3 h

/-- the document's is put into its row -/
theorem Out.putW {W w4 : World} {base SB : Nat} {X : Xt} {O : Nat → Option Nat} {Q : Nat → Nat} {lv wv v l : Value} {xs ys us zs es1 : List Value} {Ms : Nat → List K} {es fs : Nat → List Value} {Cs : Nat → Nat → List K} (hS : Sh W base SB X O lv wv xs ys Ms) (hO : Out W base O Q X.ov X.sv us zs es fs Cs)
    (hl : OwnR W base l es1) (hln : ∀ b, l.ownBlock = some b → O b = none) {C1 : Nat → List K} (hfm : ∀ (p : Nat) (x : Value), es1[p]? = some x → OwnK W base x (C1 p) ∧ ∀ b, x.ownBlock = some b → O b = none) (h4 : OwnRR w4 base v (zs ++ [l])) (hg : W.grownBy w4 X.sv.ownBlock) (hat : v.ownBlock = X.sv.ownBlock ∨ v.ownBlock = some W.heap.size) :
    ∃ X' O' Q', X'.ov = X.ov ∧ X'.sv = v ∧ Sh (w4.setCell ⟨SB, 3, none⟩ v) base SB X' O' lv wv xs ys Ms ∧ Out (w4.setCell ⟨SB, 3, none⟩ v) base O' Q' X.ov v us (zs ++ [l]) es (updf fs zs.length es1) (updf Cs zs.length C1) ∧ ∀ b, b < W.heap.size → O b = none → l.ownBlock ≠ some b → (∀ x ∈ es1, x.ownBlock ≠ some b) → O' b = none ∧ (w4.setCell ⟨SB, 3, none⟩ v).heap[b]? = W.heap[b]? := by
  have hmx : ∀ b, (∃ x ∈ es1, x.ownBlock = some b) → O b = none ∧ b < W.heap.size := fun b ⟨x, hx, hxb⟩ => by
    obtain ⟨p, hp⟩ := List.mem_iff_getElem?.1 hx
    exact ⟨(hfm p x hp).2 b hxb, ((hfm p x hp).1.lt b hxb).2⟩
  have hne : ∀ b l', O b = some l' → l' ≠ 3 → X.sv.ownBlock ≠ some b := fun b l' hb hl' e => by rw [(hO.s2 b e).1] at hb; exact hl' (Option.some.inj hb).symm
  have hc1 := hS.row3 (fun b hb => (hO.s2 b hb).1) hg
  have hso : ∀ b, b ≠ SB → (w4.setCell ⟨SB, 3, none⟩ v).heap[b]? = w4.heap[b]? := fun b hb => heap_setCell_other w4 ⟨SB, 3, none⟩ b v hb
  have h3S : ∀ b, O b = some 3 → b ≠ SB := fun b hb e => by subst e; rw [hS.sb.2] at hb; cases hb
  have hnS : ∀ b, O b = none → b ≠ SB := fun b hb e => by subst e; rw [hS.sb.2] at hb; cases hb
  have hv : ∀ b, v.ownBlock = some b → O b = some 3 ∧ Q b = 1 ∨ b = W.heap.size := fun b hb => by
    rcases hat with e | e
    · rw [e] at hb; exact .inl (hO.s2 b hb)
    · rw [e] at hb; exact .inr (Option.some.inj hb).symm
  have hfw : O W.heap.size = none := hS.fresh _ (Nat.le_refl _)
  have hvS : ∀ b, v.ownBlock = some b → b ≠ SB := fun b hb => by
    rcases hv b hb with h | h
    · exact h3S b h.1
    · rw [h]; exact hnS _ hfw
  have same : ∀ b, b < W.heap.size → b ≠ SB → X.sv.ownBlock ≠ some b → (w4.setCell ⟨SB, 3, none⟩ v).heap[b]? = W.heap[b]? := fun b h1 h2 h3 => (hso b h2).trans (hg.block b h1 (fun e => h3 e.symm))
  have oldQ : ∀ b q, O b = some 3 ∧ Q b = q → q ≠ 1 → (w4.setCell ⟨SB, 3, none⟩ v).heap[b]? = W.heap[b]? ∧ (if v.ownBlock = some b ∨ l.ownBlock = some b ∨ ∃ x ∈ es1, x.ownBlock = some b then some 3 else O b) = some 3 ∧ (if v.ownBlock = some b then 1 else if O b = some 3 then Q b else 2) = q := fun b q hb hq => by
    have hvn : v.ownBlock ≠ some b := fun e => by
      rcases hv b e with h | h
      · exact hq (hb.2.symm.trans h.2)
      · rw [h, hfw] at hb; cases hb.1
    refine ⟨same b (hS.lt_of hb.1) (h3S b hb.1) (fun e => hq (hb.2.symm.trans (hO.s2 b e).2)), by rw [hb.1]; split <;> rfl, by rw [if_neg hvn, if_pos hb.1]; exact hb.2⟩
  have hnv : ∀ b, O b = none → b < W.heap.size → v.ownBlock ≠ some b := fun b h1 h2 e => by
    rcases hv b e with h | h
    · rw [h1] at h; cases h.1
    · omega
  refine ⟨⟨frm (w4.setCell ⟨SB, 3, none⟩ v) (fun b => if v.ownBlock = some b ∨ l.ownBlock = some b ∨ ∃ x ∈ es1, x.ownBlock = some b then some 3 else O b), X.ov, v⟩, fun b => if v.ownBlock = some b ∨ l.ownBlock = some b ∨ ∃ x ∈ es1, x.ownBlock = some b then some 3 else O b, fun b => if v.ownBlock = some b then 1 else if O b = some 3 then Q b else 2, rfl, rfl,
    hS.reframe _ ?_ (fun b l' hb hl' hbS => same b (hS.lt_of hb) hbS (hne b l' hb hl')) (fun b l' hb hl' => ?_) (fun b hb => ?_) (fun _ _ ho => frm_some (O := fun b => if v.ownBlock = some b ∨ l.ownBlock = some b ∨ ∃ x ∈ es1, x.ownBlock = some b then some 3 else O b) ho), ⟨?_, fun b hb => ?_, ?_, fun b hb => ⟨if_pos (.inl hb), if_pos hb⟩, fun i e he => ?_, fun i e he => ?_, fun i hi p x hx => ?_⟩, fun b h1 h2 h3 h5 => ?_⟩
  · have := heap_setCell_same w4 SB 3 _ _ v hc1
    simpa using this
  · rw [if_neg (fun h => ?_)]; exact hb
    rcases h with h | h | h
    · rcases hv b h with h | h
      · rw [h.1] at hb; exact hl' (Option.some.inj hb).symm
      · rw [h, hfw] at hb; cases hb
    · rw [hln b h] at hb; cases hb
    · rw [(hmx b h).1] at hb; cases hb
  · have hsz : w4.heap.size ≤ b := by simpa [World.setCell] using hb
    rw [if_neg (fun h => ?_)]; exact hS.fresh b (Nat.le_trans hg.size hsz)
    rcases h with h | h | h
    · have := (h4.lt b h).2; omega
    · have := (hl.lt b h).2; have := hg.size; omega
    · have := (hmx b h).2; have := hg.size; omega
  · exact hO.o1.same fun g hgg => (oldQ g 0 (hO.o2 g hgg) (by omega)).1
  · exact (oldQ b 0 (hO.o2 b hb) (by omega)).2
  · exact OwnRR.same (w := w4) h4 fun g hgg => hso g (hvS g hgg)
  · obtain ⟨g1, g2⟩ := hO.u i e he
    exact ⟨g1.same fun g hgg => (oldQ g (3 + i) (g2 g hgg) (by omega)).1, fun b hb => (oldQ b (3 + i) (g2 b hb) (by omega)).2⟩
  · rw [List.getElem?_append] at he
    split at he
    · rename_i hi
      obtain ⟨g1, g2⟩ := hO.z i e he
      rw [updf_other _ _ _ _ (by omega)]
      exact ⟨g1.same fun g hgg => (oldQ g 2 (g2 g hgg) (by omega)).1, fun b hb => (oldQ b 2 (g2 b hb) (by omega)).2⟩
    · rename_i hi
      have hq : i = zs.length := by
        by_cases e2 : i - zs.length = 0
        · omega
        · rw [List.getElem?_eq_none (by simp; omega)] at he; cases he
      subst hq
      rw [Nat.sub_self] at he
      cases he
      rw [updf_same]
      refine ⟨hl.same fun g hgg => same g (hl.lt g hgg).2 (hnS g (hln g hgg)) (fun e => by have := (hO.s2 g e).1; rw [hln g hgg] at this; cases this), fun b hb => ⟨if_pos (.inr (.inl hb)), ?_⟩⟩
      rw [if_neg (hnv b (hln b hb) (hl.lt b hb).2), if_neg (by rw [hln b hb]; simp)]
  · by_cases hq : i = zs.length
    · subst hq
      rw [updf_same] at hx
      rw [updf_same]
      obtain ⟨g1, g2⟩ := hfm p x hx
      refine ⟨g1.same fun g hgg => same g (g1.lt g hgg).2 (hnS g (g2 g hgg)) (fun e => by have := (hO.s2 g e).1; rw [g2 g hgg] at this; cases this), fun b hb => ⟨if_pos (.inr (.inr ⟨x, List.mem_iff_getElem?.2 ⟨p, hx⟩, hb⟩)), ?_⟩⟩
      rw [if_neg (hnv b (g2 b hb) (g1.lt b hb).2), if_neg (by rw [g2 b hb]; simp)]
    · rw [updf_other _ _ _ _ hq] at hx
      rw [updf_other _ _ _ _ hq]
      obtain ⟨g1, g2⟩ := hO.f i (by rw [List.length_append, List.length_singleton] at hi; omega) p x hx
      exact ⟨g1.same fun g hgg => (oldQ g 2 (g2 g hgg) (by omega)).1, fun b hb => (oldQ b 2 (g2 b hb) (by omega)).2⟩
  · refine ⟨?_, same b h1 (hnS b h2) (fun e => by have := (hO.s2 b e).1; rw [h2] at this; cases this)⟩
    simp only
    rw [if_neg (fun h => ?_)]; exact h2
    rcases h with h | h | ⟨x, hx, hxb⟩
    · exact hnv b h2 h1 h
    · exact h3 h
    · exact h5 x hx hxb

/-- while the lists of a list of lists are put into the rows -/
structure LI (w wr : World) (base SB : Nat) (X : Xt) (O : Nat → Option Nat) (lv wv : Value) (xs es1 ys : List Value) (Ms Ms' C1 : Nat → List K) (kx ky : Nat) : Prop where
  sh : Sh wr base SB X O lv wv (xs ++ es1.take kx) ys Ms'
  yl : ys.length = xs.length + ky
  m0 : ∀ j, j < xs.length → Ms' j = Ms j
  m1 : ∀ p, p < kx → Ms' (xs.length + p) = C1 p
  r : ∀ (p : Nat) (x : Value), kx ≤ p → es1[p]? = some x → OwnK wr base x (C1 p) ∧ ∀ b, x.ownBlock = some b → O b = none
  bel : Below base w wr
theorem LI.below {w wr w1 : World} {base SB : Nat} {X : Xt} {O : Nat → Option Nat} {lv wv : Value} {xs es1 ys : List Value} {Ms Ms' C1 : Nat → List K} {kx ky : Nat} (h : LI w wr base SB X O lv wv xs es1 ys Ms Ms' C1 kx ky) (hb : Below wr.heap.size wr w1) : LI w w1 base SB X O lv wv xs es1 ys Ms Ms' C1 kx ky :=
  ⟨h.sh.below hb, h.yl, h.m0, h.m1, fun p x hp hx => ⟨(h.r p x hp hx).1.kept hb, (h.r p x hp hx).2⟩, h.bel.trans (hb.mono (by have := h.sh.sb.1; have := h.sh.lt; omega))⟩
theorem LI.stepX {w wr w1 : World} {base SB : Nat} {X : Xt} {O : Nat → Option Nat} {lv wv v e : Value} {xs es1 ys : List Value} {Ms Ms' C1 : Nat → List K} {k : Nat} (h : LI w wr base SB X O lv wv xs es1 ys Ms Ms' C1 k k) (he : es1[k]? = some e)
    (ap : ∀ (p q : Nat) (x y : Value), es1[p]? = some x → es1[q]? = some y → p ≠ q → ∀ b, x.ownBlock = some b → y.ownBlock ≠ some b)
    (hrow : OwnR w1 base v ((xs ++ es1.take k) ++ [e])) (hg : wr.grownBy w1 lv.ownBlock) (hat : v.ownBlock = lv.ownBlock ∨ v.ownBlock = some wr.heap.size) : ∃ O' Ms'', LI w (w1.setCell ⟨SB, 0, none⟩ v) base SB X O' v wv xs es1 ys Ms Ms'' C1 (k + 1) k := by
  have hkl : k < es1.length := (List.getElem?_eq_some_iff.1 he).1
  have hle : (xs ++ es1.take k).length = xs.length + k := by rw [List.length_append, List.length_take]; omega
  obtain ⟨o1, o2⟩ := h.r k e (Nat.le_refl _) he
  obtain ⟨O', h1, h2⟩ := h.sh.putX (by rw [hle, h.yl]; omega) o1 o2 hrow hg hat
  have htk : es1.take (k + 1) = es1.take k ++ [e] := by rw [List.take_add_one, he]; rfl
  have hnS : ∀ b, O b = none → O b ≠ some 1 ∧ b ≠ SB := fun b hb => ⟨by rw [hb]; simp, fun e => by rw [e, h.sh.sb.2] at hb; cases hb⟩
  refine ⟨O', _, ⟨by rw [htk, ← List.append_assoc]; exact h1, h.yl, fun j hj => ?_, fun p hp => ?_, fun p x hp hx => ?_, below_set h.bel hg (fun b hb => (h.sh.lists.lt b hb).1) (by have := h.sh.sb.1; have := h.sh.lt; omega) h.sh.sb.1⟩⟩
  · rw [if_neg (by omega)]; exact h.m0 j hj
  · rw [hle]
    by_cases e2 : p = k
    · subst e2; rw [if_pos rfl]
    · rw [if_neg (by omega)]; exact h.m1 p (by omega)
  · obtain ⟨g1, g2⟩ := h.r p x (by omega) hx
    refine ⟨h.sh.keepX hg g1 (fun b hb => hnS b (g2 b hb)), fun b hb => ?_⟩
    rw [h2 b (g1.lt b hb).2 (fun e2 => ap k p e x he hx (by omega) b e2 hb)]
    exact g2 b hb
theorem LI.stepY {w wr w1 : World} {base SB : Nat} {X : Xt} {O : Nat → Option Nat} {lv wv v e : Value} {xs es1 ys : List Value} {Ms Ms' C1 : Nat → List K} {k : Nat} (h : LI w wr base SB X O lv wv xs es1 ys Ms Ms' C1 (k + 1) k) (ho : OwnK wr base e (C1 k)) (hO : ∀ b, e.ownBlock = some b → O b = none ∧ ∀ (p : Nat) (x : Value), k + 1 ≤ p → es1[p]? = some x → x.ownBlock ≠ some b)
    (hrow : OwnR w1 base v (ys ++ [e])) (hg : wr.grownBy w1 wv.ownBlock) (hat : v.ownBlock = wv.ownBlock ∨ v.ownBlock = some wr.heap.size) : ∃ O', LI w (w1.setCell ⟨SB, 1, none⟩ v) base SB X O' lv v xs es1 (ys ++ [e]) Ms Ms' C1 (k + 1) (k + 1) := by
  obtain ⟨O', h1, h2⟩ := h.sh.putY (e := e) (by rw [h.yl, h.m1 k (by omega)]; exact ho) (fun b hb => (hO b hb).1) hrow hg hat
  have hnS : ∀ b, O b = none → O b ≠ some 2 ∧ b ≠ SB := fun b hb => ⟨by rw [hb]; simp, fun e => by rw [e, h.sh.sb.2] at hb; cases hb⟩
  refine ⟨O', ⟨h1, by rw [List.length_append, List.length_singleton, h.yl]; omega, h.m0, h.m1, fun p x hp hx => ?_, below_set h.bel hg (fun b hb => (h.sh.want.lt b hb).1) (by have := h.sh.sb.1; have := h.sh.lt; omega) h.sh.sb.1⟩⟩
  obtain ⟨g1, g2⟩ := h.r p x hp hx
  refine ⟨h.sh.keepY hg g1 (fun b hb => hnS b (g2 b hb)), fun b hb => ?_⟩
  rw [h2 b (g1.lt b hb).2 (fun e2 => (hO b e2).2 p x hp hx hb)]
  exact g2 b hb

end Go.Proofs.Ytnjgaibcpcpmcab
