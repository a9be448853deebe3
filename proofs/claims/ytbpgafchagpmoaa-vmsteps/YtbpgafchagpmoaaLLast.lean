/-
  A REGION THAT DRAWS ITS ORDER, ONLY READS, AND STORES WITH ITS LAST OPERATION, FOR WHICH ALL OTHERS ARE WAITED: one walk in the text's order; also in the round of a loop over a function.
-/
import Derived.Test.YtbpgafchagpmoaaLRound
namespace Go.Proofs.Ytbpgafchagpmoaa
open Go.RowKit Go.Sort

/-- all have come but the last, which may come now; behind it nothing is left -/
def lastB (md : Region.Mode) (ops : Array Oper) (N : Nat) (listed : Array Bool) : Bool := (Region.ready md ops listed == [N]) && (Region.ready md ops (listed.setIfInBounds N true)).isEmpty
/-- the text's order goes, up to the last -/
def lexL (md : Region.Mode) (ops : Array Oper) (N : Nat) : Nat → Nat → Array Bool → Bool
  | 0, _, listed => lastB md ops N listed
  | fuel + 1, k, listed => (Region.ready md ops listed).contains k && Region.free md ops listed k && lexL md ops N fuel (k + 1) (listed.setIfInBounds k true)
/-- the last waits for each other -/
def waitsB (md : Region.Mode) (ops : Array Oper) (N : Nat) : Bool := match ops[N]? with
  | some o => (List.range N).all fun i => o.after.any fun e => Region.binds md e && e.on == i
  | none => false
theorem waits_spec {md : Region.Mode} {ops : Array Oper} {N : Nat} (h : waitsB md ops N = true) {listed : Array Bool} {i : Nat} (hi : i < N) (hN : N ∈ Region.ready md ops listed) : listed.getD i false = true := by
  obtain ⟨_, o, ho, hall⟩ := mem_ready.1 hN
  unfold waitsB at h
  rw [ho] at h
  have h1 := List.all_eq_true.1 h i (List.mem_range.2 hi)
  obtain ⟨e, he, hb⟩ := Array.any_eq_true'.1 h1
  simp only [Bool.and_eq_true, beq_iff_eq] at hb
  have := hall e he hb.1
  rwa [hb.2] at this
theorem unlisted {md : Region.Mode} {ops : Array Oper} {listed : Array Bool} {i : Nat} (hr : i ∈ Region.ready md ops listed) : ¬ listed.getD i false = true := by
  have h0 := (mem_ready.1 hr).1
  intro h1
  rcases Nat.lt_or_ge i listed.size with h' | h'
  · simp [h'] at h0 h1; rw [h0] at h1; cases h1
  · simp [Array.getElem?_eq_none h'] at h1

def wpQ2 (F : Fence) (n : Nat) (P : Program) (md : Region.Mode) (ops : Array Oper) (C : World → Prop) (N : Nat) (Q : Act → Prop) : Nat → Array Bool → Act → Prop
  | 0, listed, a => lastB md ops N listed = true ∧ Q a
  | fuel + 1, listed, a => Region.ready md ops listed ≠ [] ∧ ∀ i ∈ Region.ready md ops listed, qOpIn F n P ops C i (wpQ2 F n P md ops C N Q fuel (listed.setIfInBounds i true)) a

theorem wpQ2_first {F : Fence} {n : Nat} {P : Program} {md : Region.Mode} {ops : Array Oper} {C : World → Prop} {N : Nat} {Q : Act → Prop} {i : Nat} {oi : Oper} {v : Value} (hN : waitsB md ops N = true) (hiN : i < N) (hi : ops[i]? = some oi) (hsel : ∀ (j : Nat) (o : Oper) cs b, ops[j]? = some o → o.op ≠ .select cs b) :
    ∀ (fuel : Nat) (listed : Array Bool) (a : Act),
      (∀ j oj, ops[j]? = some oj → j ≠ i → listed.getD j true = false → (∀ e ∈ oj.after, Region.binds md e = true → e.on ≠ i) → oi.apart ops oj = true) →
      i ∈ Region.ready md ops listed → YieldsQuiet F n P ops C oi v a →
      wpQ2 F n P md ops C N Q fuel (listed.setIfInBounds i true) (a.put oi.dst v) → wpQ2 F n P md ops C N Q (fuel + 1) listed a := by
  intro fuel
  induction fuel with
  | zero =>
    intro listed a _ hr hy H
    refine ⟨fun h => (by rw [h] at hr; cases hr), fun j hj => ?_⟩
    by_cases hji : j = i
    · subst hji; exact hy.qOpIn hi H
    · have h1 := ready_mono hj hji
      have h2 := H.1
      simp only [lastB, Bool.and_eq_true, beq_iff_eq] at h2
      rw [h2.1] at h1
      simp at h1
      subst h1
      exact absurd (waits_spec hN hiN hj) (unlisted hr)
  | succ fuel ih =>
    intro listed a hfree hr hy H
    refine ⟨fun h => (by rw [h] at hr; cases hr), fun j hj => ?_⟩
    by_cases hji : j = i
    · subst hji; exact hy.qOpIn hi H
    · have h1 := H.2 j (ready_mono hj hji)
      obtain ⟨hjun, oj, hoj, hall⟩ := mem_ready.1 hj
      have hnot : ∀ e ∈ oj.after, Region.binds md e = true → e.on ≠ i := fun e he hb heq => by
        have h1 := hall e he hb
        rw [heq] at h1
        exact unlisted hr h1
      have h2 := qOpIn_put hoj (hfree j oj hoj hji hjun hnot) (fun cs b => hsel i oi cs b hi) (fun cs b => hsel j oj cs b hoj) hy h1
      refine qOpIn_mono (fun a' h3 => ih (listed.setIfInBounds j true) a' (fun k ok hk hki hun hno => ?_) (ready_mono hr (Ne.symm hji)) h3.1 ?_) h2
      · refine hfree k ok hk hki ?_ hno
        by_cases hjk : j = k
        · subst hjk; exact hjun
        · rw [getD_set_ne true hjk] at hun; exact hun
      · rw [Array.setIfInBounds_comm _ _ hji]
        exact h3.2

theorem wpQ2_lex {F : Fence} {n : Nat} {P : Program} {md : Region.Mode} {ops : Array Oper} {C : World → Prop} {N : Nat} {Q : Act → Prop} (hN : waitsB md ops N = true) (hs : Region.noSelect ops = true) : ∀ (l : List Oper) (k : Nat) (listed : Array Bool) (a : Act), k + l.length ≤ N → (∀ j, j < l.length → l[j]? = ops[k + j]?) →
    lexL md ops N l.length k listed = true → wpQuietIn F n P ops C Q l a → wpQ2 F n P md ops C N Q l.length listed a
  | [], _, _, _, _, _, hB, h => ⟨hB, h⟩
  | o :: l, k, listed, a, hk, hl, hB, h => by
    have h0 : ops[k]? = some o := by simpa using (hl 0 (by simp)).symm
    simp only [List.length_cons] at hk
    simp only [List.length_cons, lexL, Bool.and_eq_true] at hB
    obtain ⟨⟨hr, hf⟩, hB'⟩ := hB
    have hst : qOpIn F n P ops C k (wpQuietIn F n P ops C Q l) a := by unfold qOpIn; simp only [h0]; exact h
    obtain ⟨v, hy, hK⟩ := yieldsQuiet_of_qOpIn h0 hst
    exact wpQ2_first hN (by omega) h0 (Region.noSelect_spec hs) l.length listed a (Region.free_spec h0 hf) (by simpa using hr) hy
      (wpQ2_lex hN hs l (k + 1) _ _ (by omega) (fun j hj => by have := hl (j + 1) (by simp; omega); simpa [Nat.add_assoc, Nat.add_comm 1 j] using this) hB' hK)

theorem wpAnyIn_of_Q2 {F : Fence} {n : Nat} {P : Program} {md : Region.Mode} {ops : Array Oper} {C : World → Prop} {N : Nat} {o : Oper} {Q : Exit → Act → World → Prop} (hro : F.round = none) (ho : ops[N]? = some o) :
    ∀ (fuel : Nat) (listed : Array Bool) (a : Act) (w : World), C w → wpQ2 F n P md ops C N (fun a' => ∀ w', C w' → wpListIn F n P ops Q [o] a' w') fuel listed a → wpAnyIn F n P md ops Q (fuel + 1) listed a w
  | 0, listed, a, w, hw, h => by
    have h1 := h.1
    simp only [lastB, Bool.and_eq_true, beq_iff_eq, List.isEmpty_iff] at h1
    refine ⟨fun h0 => (by rw [h1.1] at h0; cases h0), fun i hi => ?_⟩
    rw [h1.1] at hi
    simp at hi
    subst hi
    have h2 := h.2 w hw
    unfold wpListIn at h2
    unfold wpOpIn
    simp only [ho]
    split
    · rename_i hwn
      rw [if_pos hwn] at h2
      exact Oper.wpIn_mono (fun a w hk => ⟨h1.2, hk⟩) h2
    · rename_i hwn
      rw [if_neg hwn] at h2
      exact ⟨h2.1, h1.2, h2.2⟩
  | fuel + 1, listed, a, w, hw, h => ⟨fun h0 => absurd h0 h.1, fun i hi => wpOpIn_of_qOpIn hro hw (fun a' w' hw' hq => wpAnyIn_of_Q2 hro ho fuel _ a' w' hw' hq) (h.2 i hi)⟩

/-- IN A ROUND -/
theorem region_round_last {F : Fence} {n l : Nat} {P : Program} {id : Nat} {Q : Exit → Act → World → Prop} {a : Act} {w : World} {ops : List Oper} (N : Nat) {o : Oper} (hro : F.round = none) (hm : P.follows .mixedOrders = true) (hd : ops.toArray.all noDefer = true)
    (hB : (Region.noSelect ops.toArray && waitsB .any ops.toArray N && lexL .any ops.toArray N N 0 (Array.replicate ops.length false)) = true) (hsz : ops.length = N + 1) (ho : ops[N]? = some o)
    (h : wpQuietIn F n P ops.toArray (fun w' => ∃ n, w' = w.drewN n) (fun a' => ∀ w', (∃ n, w' = w.drewN n) → wpListIn F n P ops.toArray Q [o] a' w') (ops.take N) a) : (Code.region id ops.toArray true).wpIn (F.inRound l) n P Q a w := by
  simp only [Bool.and_eq_true] at hB
  refine wpIn_region_any hm (wpAny_round hro hd _ _ _ _ ?_)
  rw [List.size_toArray]
  have hlen : (ops.take N).length = N := by rw [List.length_take]; omega
  have h2 := wpQ2_lex (F := F) (n := n) (C := fun w' => ∃ n, w' = w.drewN n) hB.1.2 hB.1.1 (ops.take N) 0 (Array.replicate ops.length false) a (by omega) (fun j hj => by
    rw [hlen] at hj
    rw [List.getElem?_take, if_pos hj]; simp) (by rw [hlen]; exact hB.2) h
  rw [hlen] at h2
  have h3 := wpAnyIn_of_Q2 hro (by simpa using ho) N _ a (w.drewN 1) ⟨1, rfl⟩ h2
  rw [← hsz] at h3
  exact h3

end Go.Proofs.Ytbpgafchagpmoaa
