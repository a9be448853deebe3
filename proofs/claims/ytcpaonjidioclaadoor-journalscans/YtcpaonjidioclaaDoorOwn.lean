/-
  A SLICE OF BYTES THAT IS THE CALL's OWN; append.
-/
import Derived.Test.YtcpaonjidioclaaDoorMem
import Derived.Laws.AppendOwnNone
import Derived.Maps.AppendAt
namespace Go.Proofs.YtcpaonjidioclaaDoor
open Go.RowKit

/-- v is nil and L is empty; or v lies at the head of a row of the call's own (from block 'base' on), whose first bytes are L. -/
def OwnB (w : World) (base : Nat) (v : Value) (L : List Nat) : Prop := (∀ z ∈ L, z < 256) ∧ w.ownsRow base 5 1 v L.length (L.map b8)

theorem OwnB.nil (w : World) (base : Nat) : OwnB w base (.slice none 0 0) [] := ⟨by simp, World.ownsRow_nil _ _ _ _⟩
theorem OwnB.shape {w : World} {base : Nat} {v : Value} {L : List Nat} (h : OwnB w base v L) :
    (v = .slice none 0 0 ∧ L = []) ∨ ∃ g cap, v = .slice (some ⟨g, 0, none⟩) L.length cap ∧ base ≤ g ∧ g < w.heap.size ∧ L.length ≤ cap ∧ cap ≤ maxLen ∧ BytesAt w (some ⟨g, 0, none⟩) L := by
  obtain ⟨hz, hl, h⟩ := h
  rcases h with ⟨rfl, h0⟩ | ⟨g, cap, cur, rfl, hb, hg, hn, hm, hs, ht⟩
  · exact .inl ⟨rfl, List.eq_nil_of_length_eq_zero h0⟩
  · refine .inr ⟨g, cap, rfl, hb, (Array.getElem?_eq_some_iff.1 hg).1, hn, hm, hz, .inr ⟨g, 0, rfl, fun j hj => ?_⟩⟩
    have e := World.ownsRow.cellAt (w := w) (base := base) (e := 5) (size := 1) (g := g) (cap := cap) ⟨hl, .inr ⟨g, cap, cur, rfl, hb, hg, hn, hm, hs, ht⟩⟩ j (by omega)
    rw [Nat.zero_add, e]
    simp [b8, List.getD_eq_getElem?_getD, List.getElem?_eq_getElem hj]
/-- as a slice, in any case -/
theorem OwnB.slice {w : World} {base : Nat} {v : Value} {L : List Nat} (h : OwnB w base v L) : ∃ ao cap, v = .slice ao L.length cap ∧ BytesAt w ao L ∧ (ao = none → cap = 0) ∧ L.length ≤ cap := by
  rcases h.shape with ⟨rfl, rfl⟩ | ⟨g, cap, rfl, _, _, hc, _, hb⟩
  · exact ⟨none, 0, rfl, ⟨by simp, .inl rfl⟩, fun _ => rfl, by simp⟩
  · exact ⟨_, cap, rfl, hb, by simp, hc⟩
theorem OwnB.alloc {w : World} {base : Nat} {v : Value} {L : List Nat} (h : OwnB w base v L) (o : Obj) : OwnB (w.alloc o) base v L := ⟨h.1, h.2.alloc o⟩
theorem OwnB.drewN {w : World} {base : Nat} {v : Value} {L : List Nat} (h : OwnB w base v L) (n : Nat) : OwnB (w.drewN n) base v L := h
theorem OwnB.mono {w : World} {base base' : Nat} {v : Value} {L : List Nat} (h : OwnB w base v L) (hb : base' ≤ base) : OwnB w base' v L := by
  obtain ⟨hz, hl, h⟩ := h
  refine ⟨hz, hl, ?_⟩
  rcases h with h | ⟨g, cap, cur, e, hg, r⟩
  · exact .inl h
  · exact .inr ⟨g, cap, cur, e, by omega, r⟩
/-- what lies below a number stays -/
theorem OwnB.below {w w1 : World} {base B : Nat} {v : Value} {L : List Nat} (h : OwnB w base v L) (hb : Below B w w1) (hlt : ∀ g, v.ownBlock = some g → g < B) : OwnB w1 base v L := by
  obtain ⟨hz, hl, h⟩ := h
  refine ⟨hz, hl, ?_⟩
  rcases h with h | ⟨g, cap, cur, rfl, hg, hh, r⟩
  · exact .inl h
  · refine .inr ⟨g, cap, cur, rfl, hg, ?_, r⟩
    rw [hb.block g (hlt g rfl)]; exact hh
theorem OwnB.kept {w w1 : World} {base : Nat} {v : Value} {L : List Nat} (h : OwnB w base v L) (hb : Below w.heap.size w w1) : OwnB w1 base v L :=
  h.below hb fun g hg => (h.2.lt g hg).2
theorem OwnB.grown {w w1 : World} {base : Nat} {v : Value} {L : List Nat} {row : Option Nat} (h : OwnB w base v L) (hg : w.grownBy w1 row) (hne : v.ownBlock = none ∨ v.ownBlock ≠ row) : OwnB w1 base v L := ⟨h.1, h.2.kept hg hne⟩
theorem OwnB.made {w : World} {L : List Nat} (hz : ∀ z ∈ L, z < 256) (hm : L.length ≤ maxLen) {base : Nat} (hb : base ≤ w.heap.size) : OwnB (w.alloc (.cells (cellsU8 L) 5)) base (.slice (some ⟨w.heap.size, 0, none⟩) L.length L.length) L := by
  refine ⟨hz, by simp, .inr ⟨w.heap.size, L.length, cellsU8 L, rfl, hb, rowAt_alloc w L, Nat.le_refl _, hm, by simp [size_cellsU8], ?_⟩⟩
  simp only [cellsU8, Nat.mul_one]
  rw [List.take_of_length_le (by simp)]
theorem OwnB.ofRow {w : World} {g : Nat} {L : List Nat} (h : RowAt w g L) (hz : ∀ z ∈ L, z < 256) (hm : L.length ≤ maxLen) {base : Nat} (hb : base ≤ g) : OwnB w base (.slice (some ⟨g, 0, none⟩) L.length L.length) L := by
  refine ⟨hz, by simp, .inr ⟨g, L.length, cellsU8 L, rfl, hb, h, Nat.le_refl _, hm, by simp [size_cellsU8], ?_⟩⟩
  simp only [cellsU8, Nat.mul_one]
  rw [List.take_of_length_le (by simp)]
theorem ownBlock_lt {w : World} {base : Nat} {v : Value} {L : List Nat} (h : OwnB w base v L) : ∀ k, v.ownBlock = some k → base ≤ k := fun k hk => (h.2.lt k hk).1

theorem OwnB.frozen {w : World} {base g n cap : Nat} {L : List Nat} (h : OwnB w base (.slice (some ⟨g, 0, none⟩) n cap) L) (j : Nat) : w.frozen? ⟨g, j, none⟩ = false := by
  obtain ⟨hz, hl, h0 | ⟨g', cap', cur, e, hb, hg, r⟩⟩ := h
  · cases h0.1
  · cases e; exact frozen_of_row w g j _ _ hg
theorem OwnB.cell {w : World} {base g n cap : Nat} {L : List Nat} (h : OwnB w base (.slice (some ⟨g, 0, none⟩) n cap) L) (j : Nat) (hj : j < L.length) : w.cell? ⟨g, j, none⟩ = some (.int .u8 ((L.getD j 0 : Nat) : Int)) := by
  rcases h.shape with ⟨h, _⟩ | ⟨g', cap', h, _, _, _, _, hb⟩
  · cases h
  · simp only [Value.slice.injEq, Option.some.injEq, Addr.mk.injEq] at h
    obtain ⟨⟨rfl, _⟩, _⟩ := h
    obtain ⟨_, h1 | ⟨b', o', e, hcc⟩⟩ := hb
    · rw [h1] at hj; simp at hj
    · simp only [Option.some.injEq, Addr.mk.injEq] at e
      obtain ⟨rfl, rfl, _⟩ := e
      have := hcc j hj
      rwa [Nat.zero_add] at this
theorem OwnB.bytes {w : World} {base n cap : Nat} {ao : Option Addr} {L : List Nat} (h : OwnB w base (.slice ao n cap) L) : BytesAt w ao L ∧ n = L.length := by
  obtain ⟨ao', cap', e, hb, _⟩ := h.slice
  simp only [Value.slice.injEq] at e
  obtain ⟨rfl, rfl, _⟩ := e
  exact ⟨hb, rfl⟩
theorem OwnB.set {w : World} {base g n cap : Nat} {L : List Nat} (h : OwnB w base (.slice (some ⟨g, 0, none⟩) n cap) L) (p z : Nat) (hz : z < 256) : OwnB (w.setCell ⟨g, p, none⟩ (.int .u8 (z : Int))) base (.slice (some ⟨g, 0, none⟩) n cap) (L.set p z) := by
  have hn : n = L.length := by
    obtain ⟨_, _, h0 | ⟨g', cap', cur, e, r⟩⟩ := h
    · cases h0.1
    · cases e; rfl
  subst hn
  have hs := h.2.stored p (.int .u8 (z : Int))
  refine ⟨?_, ?_⟩
  · intro y hy
    rcases List.mem_or_eq_of_mem_set hy with h1 | h1
    · exact h.1 y h1
    · omega
  · rw [List.length_set, List.map_set]
    exact hs.1

/-- THE LAW OF append AT A SLICE OF BYTES OF THE CALL's OWN, whatever slice of bytes is appended. -/
theorem wpList_append_bytes {w : World} {ops : Array Oper} {rest : List Oper} {o : Oper} {a : Act} {Q : Exit → Act → World → Prop} (hgd : o.guard = none) (s x : Operand)
    (ho : o.op = .call { callee := .builtin .append, args := #[s, x], argTypes := #[22, 22] }) (base : Nat) (v : Value) (L : List Nat) (hs : a.eval s = v) (hown : OwnB w base v L)
    (ao : Option Addr) (m c : Nat) (zs : List Nat) (hx : a.eval x = .slice ao m c) (hm : m = zs.length) (hsrc : BytesAt w ao zs) (hnil : ao = none → c = 0) (hlen : L.length + zs.length ≤ 140737488355328) (hbase : base ≤ w.heap.size)
    (h : ∀ v' w', OwnB w' base v' (L ++ zs) → w.grownBy w' v.ownBlock → wpList Tryd.prog ops Q rest (a.put o.dst v') w') : wpList Tryd.prog ops Q (o :: rest) a w := by
  obtain ⟨i0, hi, hz0, hz1, hz2⟩ := info_parts info8
  subst hm
  have hzz : ∀ z ∈ L ++ zs, z < 256 := by
    intro z hz
    rcases List.mem_append.1 hz with h1 | h1
    · exact hown.1 z h1
    · exact hsrc.1 z h1
  cases ao with
  | none =>
    have h0 : zs = [] := by
      obtain ⟨_, h1 | ⟨b, off, h1, _⟩⟩ := hsrc
      · exact h1
      · cases h1
    subst h0
    obtain rfl := hnil rfl
    refine wpList_append_own_none hgd s x 22 ho base 5 i0 1 Tryd.underlying22 hi v L.length (L.map b8) hs hown.2 hx ?_
    exact h v w (by simpa using hown) (World.grownBy.refl _ _)
  | some ad =>
    refine wpList_append_own w hgd s x 22 ho base 5 i0 (.int .u8 0) 1 1 Tryd.underlying22 hi hz0 hz1 hz2 rfl (by decide) v L.length (L.map b8) hs hown.2 ad zs.length c (zs.map b8) hx (by simp) ?_ (oneCells zs) (by unfold maxLen; omega) (by omega) hbase ?_
    · intro j u hu
      by_cases h0 : zs = []
      · subst h0; simp at hu
      · obtain ⟨ad', e, hc⟩ := bytes_src hsrc h0
        cases e
        exact hc j u hu
    · intro v' w' hown' hgrow _
      refine h v' w' ⟨hzz, ?_⟩ hgrow
      rw [List.length_append, List.map_append]
      exact hown'

/-- the same, and where the new slice lies: in the old one's row, or in a new block -/
theorem wpList_append_bytes_at {w : World} {ops : Array Oper} {rest : List Oper} {o : Oper} {a : Act} {Q : Exit → Act → World → Prop} (hgd : o.guard = none) (s x : Operand)
    (ho : o.op = .call { callee := .builtin .append, args := #[s, x], argTypes := #[22, 22] }) (base : Nat) (v : Value) (L : List Nat) (hs : a.eval s = v) (hown : OwnB w base v L)
    (ao : Option Addr) (m c : Nat) (zs : List Nat) (hx : a.eval x = .slice ao m c) (hm : m = zs.length) (hsrc : BytesAt w ao zs) (hnil : ao = none → c = 0) (hlen : L.length + zs.length ≤ 140737488355328) (hbase : base ≤ w.heap.size)
    (h : ∀ v' w', OwnB w' base v' (L ++ zs) → w.grownBy w' v.ownBlock → (v'.ownBlock = v.ownBlock ∨ v'.ownBlock = some w.heap.size) → wpList Tryd.prog ops Q rest (a.put o.dst v') w') : wpList Tryd.prog ops Q (o :: rest) a w := by
  obtain ⟨i0, hi, hz0, hz1, hz2⟩ := info_parts info8
  subst hm
  have hzz : ∀ z ∈ L ++ zs, z < 256 := by
    intro z hz
    rcases List.mem_append.1 hz with h1 | h1
    · exact hown.1 z h1
    · exact hsrc.1 z h1
  cases ao with
  | none =>
    have h0 : zs = [] := by
      obtain ⟨_, h1 | ⟨b, off, h1, _⟩⟩ := hsrc
      · exact h1
      · cases h1
    subst h0
    obtain rfl := hnil rfl
    refine wpList_append_own_none hgd s x 22 ho base 5 i0 1 Tryd.underlying22 hi v L.length (L.map b8) hs hown.2 hx ?_
    exact h v w (by simpa using hown) (World.grownBy.refl _ _) (.inl rfl)
  | some ad =>
    refine wpList_append_own_at w hgd s x 22 ho base 5 i0 (.int .u8 0) 1 1 Tryd.underlying22 hi hz0 hz1 hz2 rfl (by decide) v L.length (L.map b8) hs hown.2 ad zs.length c (zs.map b8) hx (by simp) ?_ (oneCells zs) (by unfold maxLen; omega) (by omega) hbase ?_
    · intro j u hu
      by_cases h0 : zs = []
      · subst h0; simp at hu
      · obtain ⟨ad', e, hc⟩ := bytes_src hsrc h0
        cases e
        exact hc j u hu
    · intro v' w' hown' hgrow _ hat
      refine h v' w' ⟨hzz, ?_⟩ hgrow hat
      rw [List.length_append, List.map_append]
      exact hown'

/-- one byte, laid for an append -/
theorem byte_src (w : World) (B z : Nat) (hB : B = w.heap.size) (hz : z < 256) : BytesAt (w.alloc (.cells #[.int .u8 (z : Int)] 5)) (some ⟨B, 0, none⟩) [z] := by
  subst hB
  have h := rowAt_alloc w [z]
  rw [show cellsU8 [z] = #[.int .u8 (z : Int)] from rfl, ← List.append_nil [z]] at h
  exact h.bytes0 (by simpa using hz)

end Go.Proofs.YtcpaonjidioclaaDoor
