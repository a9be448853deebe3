/-
  ROWS OF BOOLS THAT GROW: one that is full goes elsewhere.
-/
import Derived.Test.YtmelbebjcdkbdaaWRow
import Derived.Laws.Append
namespace Go.Proofs.Ytmelbebjcdkbdaa
open Go.RowKit Go.Sort

/-- a row of bools that grows: still the full one in block g below N, or one in a block from N on -/
def XW (N : Nat) (W : World) (v : Value) (L : List Bool) : Prop :=
  (∃ g, v = .slice (some ⟨g, 0, none⟩) L.length L.length ∧ g < N ∧ WB W g L) ∨ W.ownsRow N 4 1 v L.length (L.map Value.bool)
theorem XW.slice {N : Nat} {W : World} {v : Value} {L : List Bool} (h : XW N W v L) : ∃ ao c, v = .slice ao L.length c ∧ WAt W ao (L.map Value.bool) := by
  rcases h with ⟨g, rfl, _, h⟩ | h
  · refine ⟨_, _, rfl, fun j u hu => ?_⟩
    rw [List.getElem?_map] at hu
    cases hx : L[j]? with
    | none => rw [hx] at hu; cases hu
    | some x => rw [hx] at hu; cases hu; exact ⟨g, 0, rfl, by rw [Nat.zero_add]; exact h.cell hx⟩
  · have h0 := h
    obtain ⟨_, ⟨e, e2⟩ | ⟨g, cap, cur, rfl, _⟩⟩ := h
    · subst e
      refine ⟨none, 0, by rw [e2], ?_⟩
      rw [List.eq_nil_of_length_eq_zero e2]
      intro j u hu
      simp at hu
    · exact ⟨_, _, rfl, own_atW h0⟩
theorem XW.kept {N : Nat} {W W' : World} {v : Value} {L : List Bool} (h : XW N W v L) (hs : ∀ g, v.ownBlock = some g → W'.heap[g]? = W.heap[g]?) : XW N W' v L := by
  rcases h with ⟨g, rfl, hg, h⟩ | ⟨hl, h⟩
  · exact .inl ⟨g, rfl, hg, (hs g rfl).trans h⟩
  · refine .inr ⟨hl, ?_⟩
    rcases h with h | ⟨g, cap, cur, rfl, hb, hh, r⟩
    · exact .inl h
    · exact .inr ⟨g, cap, cur, rfl, hb, (hs g rfl).trans hh, r⟩
theorem XW.lt {N : Nat} {W : World} {v : Value} {L : List Bool} (h : XW N W v L) (g : Nat) (hg : v.ownBlock = some g) : g < W.heap.size := by
  rcases h with ⟨g', rfl, _, h⟩ | h
  · cases hg; exact h.lt
  · exact (World.ownsRow.lt h g hg).2
set_option maxHeartbeats 1000000 in
/-- one bool more -/
theorem XW.app {N : Nat} {W : World} {v : Value} {L : List Bool} (h : XW N W v L) (hN : N ≤ W.heap.size) (hL : L.length + 1 ≤ 100000000000000) (ty : TypeId) (a : Addr) (c : Nat) (z : Bool) (ha : W.cell? a = some (.bool z)) :
    ∃ v' w', (Builtin.append_ #[28, 28] ty #[v, .slice (some a) 1 c]).run Try.prog W = .ok v' w' ∧ XW N w' v' (L ++ [z]) ∧ (∀ k, k < W.heap.size → (v.ownBlock = some k → k < N) → w'.heap[k]? = W.heap[k]?) ∧ Below N W w' ∧ (v'.ownBlock = v.ownBlock ∨ v'.ownBlock = some W.heap.size) ∧ ∃ ao c', v' = .slice ao (L.length + 1) c' := by
  obtain ⟨i0, hi, hz0, hz1, hz2⟩ := info_parts infoWB
  have hnews : ∀ (j : Nat) (u : Value), ([Value.bool z] : List Value)[j]? = some u → W.cell? (a.add j) = some u := fun j u hu => by
    cases j with
    | zero =>
      simp at hu
      subst hu
      rw [show a.add 0 = a by simp [Addr.add]]
      exact ha
    | succ j => simp at hu
  have hone : ∀ u ∈ ([Value.bool z] : List Value), u.oneCell' = true := fun u hu => by simp at hu; subst hu; rfl
  have hmap : (L ++ [z]).map Value.bool = L.map Value.bool ++ [Value.bool z] := by simp
  have hlen : (L ++ [z]).length = L.length + 1 := by simp
  rcases h with ⟨g, rfl, hg, h⟩ | h
  · have hfit : Builtin.nextslicecap (L.length + 1) L.length * i0.bytes ≤ 281474976710656 := growslice_fits (by omega) (by rw [hz2]; omega)
    have hown := h.own 0 (Nat.zero_le _) (by unfold maxLen; omega)
    have hr := run_append_grow (P := Try.prog) W 28 ty 4 i0 (.bool false) Try.underlying28 hi hz0 ⟨g, 0, none⟩ L.length L.length (L.map Value.bool) (by rw [hz1]; simp) (World.ownsRow.cells hown rfl) a 1 c [Value.bool z] (by rw [hz1]; rfl) hnews (by omega) (by omega) hfit
    refine ⟨_, _, hr, .inr ?_, fun k hk _ => ?_, ⟨rfl, rfl, rfl, by simp, fun k hk => ?_⟩, .inr rfl, _, _, rfl⟩
    · rw [hlen, hmap]
      refine ⟨by simp, .inr ⟨W.heap.size, _, _, rfl, hN, Go.heap_alloc_new W.drew _, grownCap_ge W (L.length + 1) L.length 4, grownCap_le_maxLen W (L.length + 1) L.length 4 (by unfold maxLen; omega), ?_, ?_⟩⟩
      · have hge := grownCap_ge W (L.length + 1) L.length 4
        simp only [Array.size_append, List.size_toArray, size_zeroCells, List.length_map, List.length_cons, List.length_nil, Value.cells]
        generalize grownCap W (L.length + 1) L.length 4 = G at *
        simp
        omega
      · simp only [Array.toList_append, List.append_assoc]
        rw [← List.append_assoc, show (L.length + 1) * 1 = (L.map Value.bool ++ [Value.bool z]).length by simp]
        exact List.take_left
    · exact Go.heap_alloc_old W.drew _ hk
    · exact Go.heap_alloc_old W.drew _ (Nat.lt_of_lt_of_le hk hN)
  · obtain ⟨v', w', hr, h2, h3, h4, h5⟩ := run_append_own_at (P := Try.prog) (w := W) N 28 ty 4 i0 (.bool false) 1 1 Try.underlying28 hi hz0 hz1 hz2 rfl (by decide) v L.length (L.map Value.bool) h a 1 c [Value.bool z] rfl hnews hone (by unfold maxLen; omega) (by omega) hN
    have hoth : ∀ k, k < W.heap.size → (v.ownBlock = some k → k < N) → w'.heap[k]? = W.heap[k]? := fun k hk hv => h3.block k hk (fun e => by
      have h6 := (World.ownsRow.lt h k e.symm).1
      have h7 := hv e.symm
      omega)
    refine ⟨v', w', hr, .inr (by rw [hlen, hmap]; exact h2), hoth, ⟨h3.os, h3.tape, h3.output, h3.size, fun k hk => hoth k (Nat.lt_of_lt_of_le hk hN) (fun _ => hk)⟩, h5, ?_⟩
    obtain ⟨_, ⟨e, e2⟩ | ⟨g', cap, cur, e, _⟩⟩ := h2
    · omega
    · exact ⟨_, _, e⟩
end Go.Proofs.Ytmelbebjcdkbdaa
