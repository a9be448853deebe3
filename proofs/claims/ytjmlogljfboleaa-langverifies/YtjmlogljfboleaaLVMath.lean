/-
  LangVerifies: the states of its lists.
-/
import Derived.Test.YtjmlogljfboleaaLTwo
import Derived.Test.YtjmlogljfboleaaLLongest
namespace Go.Proofs.Ytjmlogljfboleaa
open Go.RowKit Go.Sort

/-- a list that was handed out -/
structure GotI (W : World) (B : Nat) (v : Value) (D : List Int) (g : Nat) : Prop where
  own : OwnI W B v D
  rd : IRead W g D
  blk : ∀ k, v.ownBlock = some k → k = g ∧ D ≠ []
  lt : g < W.heap.size
  form : ∃ ao, v = .slice ao D.length D.length ∧ (D ≠ [] → ao = some ⟨g, 0, none⟩ ∧ B ≤ g)
theorem GotI.kept {W W' : World} {B : Nat} {v : Value} {D : List Int} {g : Nat} (h : GotI W B v D g) (hb : Below W.heap.size W W') : GotI W' B v D g :=
  ⟨h.own.kept hb, h.rd.kept hb, h.blk, Nat.lt_of_lt_of_le h.lt hb.size, h.form⟩
theorem OwnI.monoB {w : World} {base base' : Nat} {v : Value} {L : List Int} (h : OwnI w base v L) (hb : base' ≤ base) : OwnI w base' v L := by
  obtain ⟨hl, h⟩ := h
  refine ⟨hl, ?_⟩
  rcases h with h | ⟨g, cap, cur, e, hg, r⟩
  · exact .inl h
  · exact .inr ⟨g, cap, cur, e, by omega, r⟩
theorem GotI.monoB {W : World} {B B' : Nat} {v : Value} {D : List Int} {g : Nat} (h : GotI W B v D g) (hb : B' ≤ B) : GotI W B' v D g :=
  ⟨h.own.monoB hb, h.rd, h.blk, h.lt, let ⟨ao, e, hf⟩ := h.form; ⟨ao, e, fun hD => ⟨(hf hD).1, Nat.le_trans hb (hf hD).2⟩⟩⟩
theorem depths_bad {p : Nums} {L : List K} (h : verifyN p L ≠ 0) : (depthsN p L).1 = [] := by
  unfold verifyN at h
  unfold depthsN at h ⊢
  split
  · rfl
  · rename_i h1
    rw [if_neg h1] at h
    split
    · rfl
    · rename_i h2
      rw [if_neg h2] at h
      cases hr : runD L L.length with
      | none => rfl
      | some d => rw [hr] at h; simp at h
theorem depths_good {p : Nums} {L : List K} (h : verifyN p L = 0) : (depthsN p L).1.length = L.length + 1 ∧ L.length ≤ 256 := by
  obtain ⟨h1, _, d, hd, he⟩ := verify_ok h
  rw [he]
  exact ⟨runD_length hd, ((limB_iff p L.length).1 h1).2.2.2.2⟩
theorem depths_small (p : Nums) (L : List K) : (depthsN p L).1.length ≤ 257 := by
  by_cases h : verifyN p L = 0
  · obtain ⟨h1, h2⟩ := depths_good h; omega
  · rw [depths_bad h]; simp
theorem DPost.got {p : Nums} {L : List K} {B : Nat} {e : Ending} {W : World} (h : DPost p L B e W) (h0 : 0 < W.heap.size) : ∃ v g, e = .returned (.tuple #[v, .int .i64 (verifyN p L)]) ∧ GotI W B v (depthsN p L).1 g := by
  rcases h with ⟨h1, rfl⟩ | ⟨h1, g, rfl, h2, h3⟩
  · rw [depths_bad h1]
    exact ⟨_, 0, rfl, ⟨World.ownsRow_nil _ _ _ _, fun j hj => by simp at hj, fun k hk => by simp [Value.ownBlock] at hk, h0, none, rfl, fun h => absurd rfl h⟩⟩
  · obtain ⟨hl, hm⟩ := depths_good h1
    refine ⟨_, g, by rw [h1], ?_⟩
    rw [← hl]
    exact ⟨OwnI.ofRow h2 (by unfold maxLen; omega) h3, h2.read, fun k hk => ⟨by simp [Value.ownBlock] at hk; exact hk.symm, fun h => by rw [h] at hl; simp at hl⟩, h2.lt, _, rfl, fun _ => ⟨rfl, h3⟩⟩
/-- a list of the document's -/
def WantI (W : World) (ao : Option Addr) (D : List Int) : Prop := D = [] ∨ ∃ g, ao = some ⟨g, 0, none⟩ ∧ IRead W g D
theorem WantI.kept {W W' : World} {ao : Option Addr} {D : List Int} (h : WantI W ao D) (hb : Below W.heap.size W W') : WantI W' ao D := h.imp id fun ⟨g, e, r⟩ => ⟨g, e, r.kept hb⟩
theorem WantI.below {W W' : World} {ao : Option Addr} {D : List Int} {B : Nat} (h : WantI W ao D) (hb : Below B W W') (hB : W.heap.size ≤ B) : WantI W' ao D := h.kept (hb.mono hB)
theorem RDPost.got {p : Nums} {L : List K} {B : Nat} {e : Ending} {W : World} (h : RDPost p L B e W) : ∃ ao c, e = .returned (.tuple #[.slice ao (depthsN p L).1.length c, .int .i64 (verifyN p L)]) ∧ WantI W ao (depthsN p L).1 := by
  rcases h with ⟨h1, rfl⟩ | ⟨h1, g, c, rfl, h2, h3, _⟩
  · rw [depths_bad h1]
    exact ⟨none, 0, rfl, .inl rfl⟩
  · obtain ⟨hl, _⟩ := depths_good h1
    exact ⟨_, c, by rw [h1, hl], .inr ⟨g, rfl, h2⟩⟩
theorem GotI.want {W : World} {B : Nat} {v : Value} {D : List Int} {g : Nat} (h : GotI W B v D g) : ∃ ao, v = .slice ao D.length D.length ∧ WantI W ao D := by
  obtain ⟨ao, e, hf⟩ := h.form
  refine ⟨ao, e, ?_⟩
  by_cases hD : D = []
  · exact .inl hD
  · exact .inr ⟨g, (hf hD).1, h.rd⟩

/-- the numbers that are written over a list -/
def negs (k : Nat) : List Int := (List.range k).map fun (i : Nat) => -70 - (i : Int)
theorem negs_length (k : Nat) : (negs k).length = k := by simp [negs]
theorem negs_succ (k : Nat) : negs (k + 1) = negs k ++ [-70 - (k : Int)] := by simp [negs, List.range_succ]
theorem negs_get (k j : Nat) (h : j < k) : (negs k).getD j 0 = -70 - (j : Int) := by simp [negs, List.getD_eq_getElem?_getD, h]
def overD (D : List Int) (k : Nat) : List Int := negs k ++ D.drop k
theorem overD_zero (D : List Int) : overD D 0 = D := by simp [overD, negs]
theorem overD_length (D : List Int) (k : Nat) (h : k ≤ D.length) : (overD D k).length = D.length := by simp [overD, negs_length]; omega
theorem overD_full (D : List Int) : overD D D.length = negs D.length := by simp [overD]
theorem overD_set (D : List Int) (k : Nat) (h : k < D.length) : (overD D k).set k (-70 - (k : Int)) = overD D (k + 1) := by
  unfold overD
  rw [List.set_append_right _ _ (by rw [negs_length]; exact Nat.le_refl _), negs_length, Nat.sub_self, List.drop_eq_getElem_cons h, List.set_cons_zero, negs_succ, List.append_assoc]
  rfl
/-- the numbers that are added behind -/
def adds (c : Int) (k : Nat) : List Int := (List.range k).map fun (i : Nat) => c + (i : Int)
theorem adds_length (c : Int) (k : Nat) : (adds c k).length = k := by simp [adds]
theorem adds_succ (c : Int) (k : Nat) : adds c (k + 1) = adds c k ++ [c + (k : Int)] := by simp [adds, List.range_succ]
theorem adds_get (c : Int) (k j : Nat) (h : j < k) : (adds c k).getD j 0 = c + (j : Int) := by simp [adds, List.getD_eq_getElem?_getD, h]
theorem getD_app (A X : List Int) (j : Nat) (h : j < A.length) : (A ++ X).getD j 0 = A.getD j 0 := by
  rw [List.getD_eq_getElem?_getD, List.getD_eq_getElem?_getD, List.getElem?_append_left h]
theorem getD_appR (A X : List Int) (j : Nat) : (A ++ X).getD (A.length + j) 0 = X.getD j 0 := by
  rw [List.getD_eq_getElem?_getD, List.getD_eq_getElem?_getD, List.getElem?_append_right (by omega), Nat.add_sub_cancel_left]

theorem Two.paint {base : Nat} {W9 W : World} {ga gb n c : Nat} {A D : List Int} {vy : Value} (h : Two base W9 W ga gb A D [] [] (.slice (some ⟨ga, 0, none⟩) n c) vy) (i : Nat) (z : Int) :
    Two base W9 (W.setCell ⟨ga, i, none⟩ (.int .i64 z)) ga gb (A.set i z) D [] [] (.slice (some ⟨ga, 0, none⟩) n c) vy := by
  have hox := h.ox
  rw [List.append_nil] at hox
  have hs := hox.set i z
  have hx := h.ax ga rfl
  refine ⟨hs.row.2.2.2.2, h.ib.other ⟨ga, i, none⟩ _ (fun e => hx.1 e.symm), by rw [List.append_nil]; exact hs, h.oy.same (fun g hg => heap_setCell_other W ⟨ga, i, none⟩ g _ (fun e => hx.2 (by have e2 : g = ga := e; rw [← e2]; exact hg))), h.ax, h.ay, below_set h.bel _ _ (hox.lt ga rfl).1, by simpa using h.la, by simpa using h.lb⟩
theorem Two.start {base : Nat} {W9 W : World} {ga gb : Nat} {D : List Int} {va vb : Value} (ha : GotI W base va D ga) (hb : GotI W base vb D gb) (hne : D ≠ [] → ga ≠ gb) (hbel : Below base W9 W) : Two base W9 W ga gb D D [] [] va vb := by
  refine ⟨ha.rd, hb.rd, by rw [List.append_nil]; exact ha.own, by rw [List.append_nil]; exact hb.own, fun k hk => ?_, fun k hk => ?_, hbel, ha.lt, hb.lt⟩
  · obtain ⟨rfl, hD⟩ := ha.blk k hk
    exact ⟨hne hD, fun e => hne hD (hb.blk _ e).1⟩
  · obtain ⟨rfl, hD⟩ := hb.blk k hk
    exact fun e => hne hD e.symm

end Go.Proofs.Ytjmlogljfboleaa
