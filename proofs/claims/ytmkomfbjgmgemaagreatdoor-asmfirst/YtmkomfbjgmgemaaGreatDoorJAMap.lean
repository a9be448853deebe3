import Derived.Test.YtmkomfbjgmgemaaGreatDoorJLStr
import Derived.Maps.OwnSet
import Derived.Maps.Views
import Derived.StringKeys
import Derived.WalkArith
import Derived.Test.YtmkomfbjgmgemaaGreatDoorJBytes
import Derived.Laws.AppendOwnNone
import Derived.Maps.AppendAt
import Derived.Test.YtmkomfbjgmgemaaGreatDoorJLProc
import Derived.Laws.IdiomStrings
/-
  THE MAP OF LABELS.
-/
namespace Go.Proofs.YtmkomfbjgmgemaaGreatDoor
open Go.RowKit Go.Sort Go.WideMaps

/-- block b is the map of the labels ls -/
def LM (W : World) (b : Nat) (ls : List (List UInt8 × Nat)) : Prop := ∃ D, W.ownsMap Tryz.prog 9 (plainElem (H := Unit) Tryz.prog 3) b ls.length D ∧ ∀ nm : List UInt8, Maps.has D (.string nm) = (labN ls nm).isSome ∧ ∀ t, labN ls nm = some t → D.atKey (.string nm) (.lit (.int .i64 0)) = .lit (.int .i64 (t : Int))
theorem LM.made (W : World) : LM (W.alloc (.map #[] 0)) W.heap.size [] :=
  ⟨_, World.ownsMap_made W Tryz.prog 9 (plainElem (H := Unit) Tryz.prog 3), fun nm => ⟨rfl, fun t h => by cases h⟩⟩
theorem LM.same {W W' : World} {b : Nat} {ls : List (List UInt8 × Nat)} (h : LM W b ls) (hb : W'.heap[b]? = W.heap[b]?) : LM W' b ls := by
  obtain ⟨D, ⟨es, clock, h1, h2⟩, h3⟩ := h
  exact ⟨D, ⟨es, clock, hb.trans h1, h2⟩, h3⟩
theorem LM.lt {W : World} {b : Nat} {ls : List (List UInt8 × Nat)} (h : LM W b ls) : b < W.heap.size := by
  obtain ⟨D, h1, _⟩ := h
  exact h1.lt
theorem S_data (l : List UInt8) : (S l).data.toList = l := by simp [S]
theorem LM.look {W : World} {b : Nat} {ls : List (List UInt8 × Nat)} (h : LM W b ls) (nm : List UInt8) (hs : nm.length ≤ 1000000) :
    ∃ c : Int, (Instr.lookup 50 (.map (some b)) (.string (S nm)) true).run Tryz.prog W = .ok (.tuple #[.int .i64 c, .bool (labN ls nm).isSome]) W ∧ (∀ u, labN ls nm = some u → c = (u : Int)) := by
  obtain ⟨D, h1, h2⟩ := h
  have hk := keyOf_string_mk (P := Tryz.prog) (k := 9) Tryz.underlying9 (s := S nm) (by rw [S_size]; unfold maxLen; omega)
  rw [S_data] at hk
  obtain ⟨v, ps, hrun, hv⟩ := h1.look_ok (Maps.string_keyed Tryz.underlying9) Tryz.underlying50 (z := .int .i64 0) (by kernel_rfl) (plainElem_int Tryz.underlying3 (by decide)) hk
  obtain ⟨c, rfl, hc, _⟩ := plainElem_int_inv Tryz.underlying3 hv
  obtain ⟨e1, e2⟩ := h2 nm
  rw [e1] at hrun
  refine ⟨c, hrun, fun u hu => ?_⟩
  have := e2 u hu
  simp only [Prod.mk.injEq] at hc
  rw [this] at hc
  have h3 := hc.1
  simp only [DataW.lit.injEq, Lit.int.injEq, true_and] at h3
  exact h3.symm
theorem labN_snoc (ls : List (List UInt8 × Nat)) (nm nm' : List UInt8) (t : Nat) (h : labN ls nm = none) : labN (ls ++ [(nm, t)]) nm' = if nm' = nm then some t else labN ls nm' := by
  unfold labN at *
  rw [List.find?_append]
  by_cases e : nm' = nm
  · subst e
    rw [if_pos rfl]
    have hn : ls.find? (fun x => x.1 == nm') = none := by simpa using h
    rw [hn]; simp
  · rw [if_neg e]
    have hm : ([(nm, t)] : List (List UInt8 × Nat)).find? (fun x => x.1 == nm') = none := by simp; exact fun e' => e e'.symm
    rw [hm]; simp
theorem LM.put {W : World} {b : Nat} {ls : List (List UInt8 × Nat)} (h : LM W b ls) (nm : List UInt8) (t : Nat) (hs : nm.length ≤ 1000000) (ht : t ≤ 1000000) (hl : ls.length ≤ 1000000) (hn : labN ls nm = none) :
    ∃ W', (Instr.mapUpdate 50 (.map (some b)) (.string (S nm)) (.int .i64 (t : Int))).run Tryz.prog W = .ok () W' ∧ LM W' b (ls ++ [(nm, t)]) ∧ W.grownBy W' (some b) := by
  obtain ⟨D, h1, h2⟩ := h
  have hk := keyOf_string_mk (P := Tryz.prog) (k := 9) Tryz.underlying9 (s := S nm) (by rw [S_size]; unfold maxLen; omega)
  rw [S_data] at hk
  have hw : (Lit.int .i64 (t : Int)).wf = true := WalkArith.wf_i64 ⟨by omega, by omega⟩
  obtain ⟨W', hrun, h3, h4⟩ := h1.update (Maps.string_keyed Tryz.underlying9) Tryz.underlying50 (by unfold maxLen; omega) hk (plainElem_int Tryz.underlying3 hw)
  have hkl : WideAt.IsKeyLit (.string nm) := trivial
  refine ⟨W', hrun, ⟨_, by rw [List.length_append]; exact h3, fun nm' => ?_⟩, h4⟩
  rw [labN_snoc ls nm nm' t hn]
  by_cases e : nm' = nm
  · subst e
    rw [if_pos rfl, Maps.has_put_same h1.isMap hkl, Maps.atKey_put_same h1.isMap hkl]
    exact ⟨rfl, fun u hu => by cases hu; rfl⟩
  · have hne : (Lit.string nm') ≠ .string nm := fun e' => e (by cases e'; rfl)
    rw [if_neg e, Maps.has_put_other hne, Maps.atKey_put_other hne]
    exact h2 nm'
end Go.Proofs.YtmkomfbjgmgemaaGreatDoor
/-
  A SLICE OF BYTES THAT IS THE CALL's OWN; append.
-/
namespace Go.Proofs.YtmkomfbjgmgemaaGreatDoor
open Go.RowKit

/-- v is nil and L is empty; or v lies at the head of a row of the call's own (from block 'base' on), whose first bytes are L. -/
def OwnB (w : World) (base : Nat) (v : Value) (L : List Nat) : Prop := (∀ z ∈ L, z < 256) ∧ w.ownsRow base 5 1 v L.length (L.map b8)

theorem OwnB.nil (w : World) (base : Nat) : OwnB w base (.slice none 0 0) [] := ⟨by simp, World.ownsRow_nil _ _ _ _⟩
theorem OwnB.shape {w : World} {base : Nat} {v : Value} {L : List Nat} (h : OwnB w base v L) :
    (v = .slice none 0 0 ∧ L = []) ∨ ∃ g cap, v = .slice (some ⟨g, 0, none⟩) L.length cap ∧ base ≤ g ∧ g < w.heap.size ∧ L.length ≤ cap ∧ cap ≤ maxLen ∧ BytesAt w (some ⟨g, 0, none⟩) L := by
  obtain ⟨hz, hl, h⟩ := h
  rcases h with ⟨rfl, h0⟩ | ⟨g, cap, cur, rfl, hb, hg, hn, hm, hs, ht⟩
  · exact .inl ⟨rfl, List.eq_nil_of_length_eq_zero h0⟩
  · refine .inr ⟨g, cap, rfl, hb, (Array.getElem?_eq_some_iff.1 hg).1, hn, hm, hz, .inr ⟨g, 0, rfl, fun j hj => ?_⟩⟩
    have e := World.ownsRow.cellAt (w := w) (base := base) (e := 5) (size := 1) (g := g) (cap := cap) ⟨hl, .inr ⟨g, cap, cur, rfl, hb, hg, hn, hm, hs, ht⟩⟩ j (by omega)
    rw [Nat.zero_add, e]
    simp [b8, List.getD_eq_getElem?_getD, List.getElem?_eq_getElem hj]
/-- as a slice, in any case -/
theorem OwnB.slice {w : World} {base : Nat} {v : Value} {L : List Nat} (h : OwnB w base v L) : ∃ ao cap, v = .slice ao L.length cap ∧ BytesAt w ao L ∧ (ao = none → cap = 0) ∧ L.length ≤ cap := by
  rcases h.shape with ⟨rfl, rfl⟩ | ⟨g, cap, rfl, _, _, hc, _, hb⟩
  · exact ⟨none, 0, rfl, ⟨by simp, .inl rfl⟩, fun _ => rfl, by simp⟩
  · exact ⟨_, cap, rfl, hb, by simp, hc⟩
theorem OwnB.alloc {w : World} {base : Nat} {v : Value} {L : List Nat} (h : OwnB w base v L) (o : Obj) : OwnB (w.alloc o) base v L := ⟨h.1, h.2.alloc o⟩
theorem OwnB.drewN {w : World} {base : Nat} {v : Value} {L : List Nat} (h : OwnB w base v L) (n : Nat) : OwnB (w.drewN n) base v L := h
theorem OwnB.mono {w : World} {base base' : Nat} {v : Value} {L : List Nat} (h : OwnB w base v L) (hb : base' ≤ base) : OwnB w base' v L := by
  obtain ⟨hz, hl, h⟩ := h
  refine ⟨hz, hl, ?_⟩
  rcases h with h | ⟨g, cap, cur, e, hg, r⟩
  · exact .inl h
  · exact .inr ⟨g, cap, cur, e, by omega, r⟩
/-- what lies below a number stays -/
theorem OwnB.below {w w1 : World} {base B : Nat} {v : Value} {L : List Nat} (h : OwnB w base v L) (hb : Below B w w1) (hlt : ∀ g, v.ownBlock = some g → g < B) : OwnB w1 base v L := by
  obtain ⟨hz, hl, h⟩ := h
  refine ⟨hz, hl, ?_⟩
  rcases h with h | ⟨g, cap, cur, rfl, hg, hh, r⟩
  · exact .inl h
  · refine .inr ⟨g, cap, cur, rfl, hg, ?_, r⟩
    rw [hb.block g (hlt g rfl)]; exact hh
theorem OwnB.kept {w w1 : World} {base : Nat} {v : Value} {L : List Nat} (h : OwnB w base v L) (hb : Below w.heap.size w w1) : OwnB w1 base v L :=
  h.below hb fun g hg => (h.2.lt g hg).2
theorem OwnB.grown {w w1 : World} {base : Nat} {v : Value} {L : List Nat} {row : Option Nat} (h : OwnB w base v L) (hg : w.grownBy w1 row) (hne : v.ownBlock = none ∨ v.ownBlock ≠ row) : OwnB w1 base v L := ⟨h.1, h.2.kept hg hne⟩
theorem OwnB.made {w : World} {L : List Nat} (hz : ∀ z ∈ L, z < 256) (hm : L.length ≤ maxLen) {base : Nat} (hb : base ≤ w.heap.size) : OwnB (w.alloc (.cells (cellsU8 L) 5)) base (.slice (some ⟨w.heap.size, 0, none⟩) L.length L.length) L := by
  refine ⟨hz, by simp, .inr ⟨w.heap.size, L.length, cellsU8 L, rfl, hb, rowAt_alloc w L, Nat.le_refl _, hm, by simp [size_cellsU8], ?_⟩⟩
  simp only [cellsU8, Nat.mul_one]
  rw [List.take_of_length_le (by simp)]
theorem OwnB.ofRow {w : World} {g : Nat} {L : List Nat} (h : RowAt w g L) (hz : ∀ z ∈ L, z < 256) (hm : L.length ≤ maxLen) {base : Nat} (hb : base ≤ g) : OwnB w base (.slice (some ⟨g, 0, none⟩) L.length L.length) L := by
  refine ⟨hz, by simp, .inr ⟨g, L.length, cellsU8 L, rfl, hb, h, Nat.le_refl _, hm, by simp [size_cellsU8], ?_⟩⟩
  simp only [cellsU8, Nat.mul_one]
  rw [List.take_of_length_le (by simp)]
theorem ownBlock_lt {w : World} {base : Nat} {v : Value} {L : List Nat} (h : OwnB w base v L) : ∀ k, v.ownBlock = some k → base ≤ k := fun k hk => (h.2.lt k hk).1

theorem OwnB.frozen {w : World} {base g n cap : Nat} {L : List Nat} (h : OwnB w base (.slice (some ⟨g, 0, none⟩) n cap) L) (j : Nat) : w.frozen? ⟨g, j, none⟩ = false := by
  obtain ⟨hz, hl, h0 | ⟨g', cap', cur, e, hb, hg, r⟩⟩ := h
  · cases h0.1
  · cases e; exact frozen_of_row w g j _ _ hg
theorem OwnB.cell {w : World} {base g n cap : Nat} {L : List Nat} (h : OwnB w base (.slice (some ⟨g, 0, none⟩) n cap) L) (j : Nat) (hj : j < L.length) : w.cell? ⟨g, j, none⟩ = some (.int .u8 ((L.getD j 0 : Nat) : Int)) := by
  rcases h.shape with ⟨h, _⟩ | ⟨g', cap', h, _, _, _, _, hb⟩
  · cases h
  · simp only [Value.slice.injEq, Option.some.injEq, Addr.mk.injEq] at h
    obtain ⟨⟨rfl, _⟩, _⟩ := h
    obtain ⟨_, h1 | ⟨b', o', e, hcc⟩⟩ := hb
    · rw [h1] at hj; simp at hj
    · simp only [Option.some.injEq, Addr.mk.injEq] at e
      obtain ⟨rfl, rfl, _⟩ := e
      have := hcc j hj
      rwa [Nat.zero_add] at this
theorem OwnB.bytes {w : World} {base n cap : Nat} {ao : Option Addr} {L : List Nat} (h : OwnB w base (.slice ao n cap) L) : BytesAt w ao L ∧ n = L.length := by
  obtain ⟨ao', cap', e, hb, _⟩ := h.slice
  simp only [Value.slice.injEq] at e
  obtain ⟨rfl, rfl, _⟩ := e
  exact ⟨hb, rfl⟩
theorem OwnB.set {w : World} {base g n cap : Nat} {L : List Nat} (h : OwnB w base (.slice (some ⟨g, 0, none⟩) n cap) L) (p z : Nat) (hz : z < 256) : OwnB (w.setCell ⟨g, p, none⟩ (.int .u8 (z : Int))) base (.slice (some ⟨g, 0, none⟩) n cap) (L.set p z) := by
  have hn : n = L.length := by
    obtain ⟨_, _, h0 | ⟨g', cap', cur, e, r⟩⟩ := h
    · cases h0.1
    · cases e; rfl
  subst hn
  have hs := h.2.stored p (.int .u8 (z : Int))
  refine ⟨?_, ?_⟩
  · intro y hy
    rcases List.mem_or_eq_of_mem_set hy with h1 | h1
    · exact h.1 y h1
    · omega
  · rw [List.length_set, List.map_set]
    exact hs.1

/-- THE LAW OF append AT A SLICE OF BYTES OF THE CALL's OWN, whatever slice of bytes is appended. -/
theorem wpList_append_bytes {w : World} {ops : Array Oper} {rest : List Oper} {o : Oper} {a : Act} {Q : Exit → Act → World → Prop} (hgd : o.guard = none) (s x : Operand)
    (ho : o.op = .call { callee := .builtin .append, args := #[s, x], argTypes := #[71, 71] }) (base : Nat) (v : Value) (L : List Nat) (hs : a.eval s = v) (hown : OwnB w base v L)
    (ao : Option Addr) (m c : Nat) (zs : List Nat) (hx : a.eval x = .slice ao m c) (hm : m = zs.length) (hsrc : BytesAt w ao zs) (hnil : ao = none → c = 0) (hlen : L.length + zs.length ≤ 140737488355328) (hbase : base ≤ w.heap.size)
    (h : ∀ v' w', OwnB w' base v' (L ++ zs) → w.grownBy w' v.ownBlock → wpList Tryz.prog ops Q rest (a.put o.dst v') w') : wpList Tryz.prog ops Q (o :: rest) a w := by
  obtain ⟨i0, hi, hz0, hz1, hz2⟩ := info_parts info8
  subst hm
  have hzz : ∀ z ∈ L ++ zs, z < 256 := by
    intro z hz
    rcases List.mem_append.1 hz with h1 | h1
    · exact hown.1 z h1
    · exact hsrc.1 z h1
  cases ao with
  | none =>
    have h0 : zs = [] := by
      obtain ⟨_, h1 | ⟨b, off, h1, _⟩⟩ := hsrc
      · exact h1
      · cases h1
    subst h0
    obtain rfl := hnil rfl
    refine wpList_append_own_none hgd s x 71 ho base 5 i0 1 Tryz.underlying71 hi v L.length (L.map b8) hs hown.2 hx ?_
    exact h v w (by simpa using hown) (World.grownBy.refl _ _)
  | some ad =>
    refine wpList_append_own w hgd s x 71 ho base 5 i0 (.int .u8 0) 1 1 Tryz.underlying71 hi hz0 hz1 hz2 rfl (by decide) v L.length (L.map b8) hs hown.2 ad zs.length c (zs.map b8) hx (by simp) ?_ (oneCells zs) (by unfold maxLen; omega) (by omega) hbase ?_
    · intro j u hu
      by_cases h0 : zs = []
      · subst h0; simp at hu
      · obtain ⟨ad', e, hc⟩ := bytes_src hsrc h0
        cases e
        exact hc j u hu
    · intro v' w' hown' hgrow _
      refine h v' w' ⟨hzz, ?_⟩ hgrow
      rw [List.length_append, List.map_append]
      exact hown'

/-- the same, and where the new slice lies: in the old one's row, or in a new block -/
theorem wpList_append_bytes_at {w : World} {ops : Array Oper} {rest : List Oper} {o : Oper} {a : Act} {Q : Exit → Act → World → Prop} (hgd : o.guard = none) (s x : Operand)
    (ho : o.op = .call { callee := .builtin .append, args := #[s, x], argTypes := #[71, 71] }) (base : Nat) (v : Value) (L : List Nat) (hs : a.eval s = v) (hown : OwnB w base v L)
    (ao : Option Addr) (m c : Nat) (zs : List Nat) (hx : a.eval x = .slice ao m c) (hm : m = zs.length) (hsrc : BytesAt w ao zs) (hnil : ao = none → c = 0) (hlen : L.length + zs.length ≤ 140737488355328) (hbase : base ≤ w.heap.size)
    (h : ∀ v' w', OwnB w' base v' (L ++ zs) → w.grownBy w' v.ownBlock → (v'.ownBlock = v.ownBlock ∨ v'.ownBlock = some w.heap.size) → wpList Tryz.prog ops Q rest (a.put o.dst v') w') : wpList Tryz.prog ops Q (o :: rest) a w := by
  obtain ⟨i0, hi, hz0, hz1, hz2⟩ := info_parts info8
  subst hm
  have hzz : ∀ z ∈ L ++ zs, z < 256 := by
    intro z hz
    rcases List.mem_append.1 hz with h1 | h1
    · exact hown.1 z h1
    · exact hsrc.1 z h1
  cases ao with
  | none =>
    have h0 : zs = [] := by
      obtain ⟨_, h1 | ⟨b, off, h1, _⟩⟩ := hsrc
      · exact h1
      · cases h1
    subst h0
    obtain rfl := hnil rfl
    refine wpList_append_own_none hgd s x 71 ho base 5 i0 1 Tryz.underlying71 hi v L.length (L.map b8) hs hown.2 hx ?_
    exact h v w (by simpa using hown) (World.grownBy.refl _ _) (.inl rfl)
  | some ad =>
    refine wpList_append_own_at w hgd s x 71 ho base 5 i0 (.int .u8 0) 1 1 Tryz.underlying71 hi hz0 hz1 hz2 rfl (by decide) v L.length (L.map b8) hs hown.2 ad zs.length c (zs.map b8) hx (by simp) ?_ (oneCells zs) (by unfold maxLen; omega) (by omega) hbase ?_
    · intro j u hu
      by_cases h0 : zs = []
      · subst h0; simp at hu
      · obtain ⟨ad', e, hc⟩ := bytes_src hsrc h0
        cases e
        exact hc j u hu
    · intro v' w' hown' hgrow _ hat
      refine h v' w' ⟨hzz, ?_⟩ hgrow hat
      rw [List.length_append, List.map_append]
      exact hown'

/-- one byte, laid for an append -/
theorem byte_src (w : World) (B z : Nat) (hB : B = w.heap.size) (hz : z < 256) : BytesAt (w.alloc (.cells #[.int .u8 (z : Int)] 5)) (some ⟨B, 0, none⟩) [z] := by
  subst hB
  have h := rowAt_alloc w [z]
  rw [show cellsU8 [z] = #[.int .u8 (z : Int)] from rfl, ← List.append_nil [z]] at h
  exact h.bytes0 (by simpa using hz)

end Go.Proofs.YtmkomfbjgmgemaaGreatDoor
/-
  A SLICE OF PROCEDURES OF THE CALL'S OWN; append; 'string(b)'.
-/
namespace Go.Proofs.YtmkomfbjgmgemaaGreatDoor
open Go.RowKit Go.Sort

theorem prcs_one (Ps : List Pr) : ∀ v ∈ prcs Ps, v.oneCell' = true := by
  induction Ps with
  | nil => simp [prcs]
  | cons x Ps ih =>
    intro v hv
    rcases List.mem_append.1 (show v ∈ prc x ++ prcs Ps from hv) with h | h
    · simp only [prc, List.mem_cons, List.not_mem_nil, or_false] at h
      rcases h with rfl | rfl | rfl | rfl | rfl | rfl <;> rfl
    · exact ih v h
def OwnP (w : World) (base : Nat) (v : Value) (Ps : List Pr) : Prop := w.ownsRow base 38 6 v Ps.length (prcs Ps)
theorem OwnP.nil (w : World) (base : Nat) : OwnP w base (.slice none 0 0) [] := World.ownsRow_nil _ _ _ _
theorem OwnP.shape {w : World} {base : Nat} {v : Value} {Ps : List Pr} (h : OwnP w base v Ps) :
    (v = .slice none 0 0 ∧ Ps = []) ∨ ∃ g cap, v = .slice (some ⟨g, 0, none⟩) Ps.length cap ∧ base ≤ g ∧ g < w.heap.size ∧ Ps.length ≤ cap ∧ cap ≤ maxLen ∧ ProcsAt w (some ⟨g, 0, none⟩) Ps := by
  obtain ⟨hl, h⟩ := h
  rcases h with ⟨rfl, h0⟩ | ⟨g, cap, cur, rfl, hb, hg, hn, hm, hs, ht⟩
  · exact .inl ⟨rfl, List.eq_nil_of_length_eq_zero h0⟩
  · refine .inr ⟨g, cap, rfl, hb, (Array.getElem?_eq_some_iff.1 hg).1, hn, hm, .inr ⟨g, 0, rfl, fun j u hu => ?_⟩⟩
    have hj : j < Ps.length * 6 := by rw [← prcs_length]; exact (List.getElem?_eq_some_iff.1 hu).1
    have e := World.ownsRow.cellAt (w := w) (base := base) (e := 38) (size := 6) (g := g) (cap := cap) ⟨hl, .inr ⟨g, cap, cur, rfl, hb, hg, hn, hm, hs, ht⟩⟩ j hj
    rw [Nat.zero_add, e, hu]
theorem OwnP.slice {w : World} {base : Nat} {v : Value} {Ps : List Pr} (h : OwnP w base v Ps) : ∃ ao cap, v = .slice ao Ps.length cap ∧ ProcsAt w ao Ps ∧ (ao = none → cap = 0) ∧ Ps.length ≤ cap := by
  rcases h.shape with ⟨rfl, rfl⟩ | ⟨g, cap, rfl, _, _, hc, _, hb⟩
  · exact ⟨none, 0, rfl, .inl rfl, fun _ => rfl, by simp⟩
  · exact ⟨_, cap, rfl, hb, by simp, hc⟩
theorem OwnP.alloc {w : World} {base : Nat} {v : Value} {Ps : List Pr} (h : OwnP w base v Ps) (o : Obj) : OwnP (w.alloc o) base v Ps := World.ownsRow.alloc h o
theorem OwnP.mono {w : World} {base base' : Nat} {v : Value} {Ps : List Pr} (h : OwnP w base v Ps) (hb : base' ≤ base) : OwnP w base' v Ps := by
  obtain ⟨hl, h⟩ := h
  refine ⟨hl, ?_⟩
  rcases h with h | ⟨g, cap, cur, e, hg, r⟩
  · exact .inl h
  · exact .inr ⟨g, cap, cur, e, by omega, r⟩
theorem OwnP.lt {w : World} {base : Nat} {v : Value} {Ps : List Pr} (h : OwnP w base v Ps) : ∀ k, v.ownBlock = some k → base ≤ k ∧ k < w.heap.size := World.ownsRow.lt h
theorem OwnP.same {w w1 : World} {base : Nat} {v : Value} {Ps : List Pr} (h : OwnP w base v Ps) (hs : ∀ g, v.ownBlock = some g → w1.heap[g]? = w.heap[g]?) : OwnP w1 base v Ps := by
  obtain ⟨hl, h⟩ := h
  refine ⟨hl, ?_⟩
  rcases h with h | ⟨g, cap, cur, rfl, hg, hh, r⟩
  · exact .inl h
  · exact .inr ⟨g, cap, cur, rfl, hg, (hs g rfl).trans hh, r⟩
theorem OwnP.kept {w w1 : World} {base : Nat} {v : Value} {Ps : List Pr} (h : OwnP w base v Ps) (hb : Below w.heap.size w w1) : OwnP w1 base v Ps :=
  h.same fun g hg => hb.block g (h.lt g hg).2
theorem infoP : (Tryz.prog.info? 38).map (fun i => (i.zero, i.size, i.bytes)) = some (some (.agg #[.string ⟨#[]⟩, .int .i64 0, .int .i64 0, .int .i64 0, .int .i64 0, .slice none 0 0]), 6, 72) := by kernel_rfl
theorem run_append_procs {w : World} (ty : TypeId) (base : Nat) (v : Value) (Ps : List Pr) (hown : OwnP w base v Ps)
    (ad : Addr) (m c : Nat) (Qs : List Pr) (hm : m = Qs.length) (hsrc : ∀ j u, (prcs Qs)[j]? = some u → w.cell? (ad.add j) = some u) (hlen : (Ps.length + Qs.length) * 72 ≤ 140737488355328) (hbase : base ≤ w.heap.size) :
    ∃ v' w', (Builtin.append_ #[23, 23] ty #[v, .slice (some ad) m c]).run Tryz.prog w = .ok v' w' ∧ OwnP w' base v' (Ps ++ Qs) ∧ w.grownBy w' v.ownBlock ∧ (v'.ownBlock = v.ownBlock ∨ v'.ownBlock = some w.heap.size) := by
  obtain ⟨i0, hi, hz0, hz1, hz2⟩ := info_parts infoP
  subst hm
  obtain ⟨v', w', hr, h2, h3, _, h5⟩ := run_append_own_at (P := Tryz.prog) w base 23 ty 38 i0 (.agg #[.string ⟨#[]⟩, .int .i64 0, .int .i64 0, .int .i64 0, .int .i64 0, .slice none 0 0]) 6 72 Tryz.underlying23 hi hz0 hz1 hz2 rfl (by decide) v Ps.length (prcs Ps) hown ad Qs.length c (prcs Qs) (prcs_length Qs)
      hsrc (prcs_one Qs) (by unfold maxLen; omega) hlen hbase
  exact ⟨v', w', hr, by unfold OwnP; rw [List.length_append, prcs_append]; exact h2, h3, h5⟩
theorem wpList_append_procs {w : World} {ops : Array Oper} {rest : List Oper} {o : Oper} {a : Act} {Q : Exit → Act → World → Prop} (hgd : o.guard = none) (s x : Operand)
    (ho : o.op = .call { callee := .builtin .append, args := #[s, x], argTypes := #[23, 23] }) (base : Nat) (v : Value) (Ps : List Pr) (hs : a.eval s = v) (hown : OwnP w base v Ps)
    (ad : Addr) (m c : Nat) (Qs : List Pr) (hx : a.eval x = .slice (some ad) m c) (hm : m = Qs.length) (hsrc : ∀ j u, (prcs Qs)[j]? = some u → w.cell? (ad.add j) = some u) (hlen : (Ps.length + Qs.length) * 72 ≤ 140737488355328) (hbase : base ≤ w.heap.size)
    (h : ∀ v' w', OwnP w' base v' (Ps ++ Qs) → w.grownBy w' v.ownBlock → (v'.ownBlock = v.ownBlock ∨ v'.ownBlock = some w.heap.size) → wpList Tryz.prog ops Q rest (a.put o.dst v') w') : wpList Tryz.prog ops Q (o :: rest) a w := by
  obtain ⟨v', w', hr, h2, h3, h4⟩ := run_append_procs o.type base v Ps hown ad m c Qs hm hsrc hlen hbase
  refine wpList_plain hgd fun K hK' => ?_
  unfold Oper.wp
  simp [execOp, ho, resolve, invoke, builtin, hs, hx, hr, Result.andThen]
  exact hK' _ _ (h v' w' h2 h3 h4)
theorem step_append_procs {w : World} {ops : Array Oper} {o : Oper} {a : Act} {K' : Act → World → Prop} {Q : Exit → Act → World → Prop} {E : Prop} (hgd : o.guard = none) (s x : Operand)
    (ho : o.op = .call { callee := .builtin .append, args := #[s, x], argTypes := #[23, 23] }) (base : Nat) (v : Value) (Ps : List Pr) (hs : a.eval s = v) (hown : OwnP w base v Ps)
    (ad : Addr) (m c : Nat) (Qs : List Pr) (hx : a.eval x = .slice (some ad) m c) (hm : m = Qs.length) (hsrc : ∀ j u, (prcs Qs)[j]? = some u → w.cell? (ad.add j) = some u) (hlen : (Ps.length + Qs.length) * 72 ≤ 140737488355328) (hbase : base ≤ w.heap.size)
    (h : ∀ v' w', OwnP w' base v' (Ps ++ Qs) → w.grownBy w' v.ownBlock → (v'.ownBlock = v.ownBlock ∨ v'.ownBlock = some w.heap.size) → K' (a.put o.dst v') w') :
    if Region.wanted o (yielded ops a.tmps) = true then Oper.wp Tryz.prog o a w K' Q else E := by
  have hw : Region.wanted o (yielded ops a.tmps) = true := by simp [Region.wanted, hgd]
  rw [if_pos hw]
  obtain ⟨v', w', hr, h2, h3, h4⟩ := run_append_procs o.type base v Ps hown ad m c Qs hm hsrc hlen hbase
  unfold Oper.wp execOp
  simp only [ho, resolve, invoke, builtin, Sem.run_bind, Sem.run_pure, Result.andThen_ok, List.map_toArray, List.map_cons, List.map_nil, hs, hx, hr]
  exact h v' w' h2 h3 h4
/-- one procedure, laid for an append -/
theorem proc_src (w : World) (B : Nat) (x : Pr) (hB : B = w.heap.size) : ∀ j u, (prcs [x])[j]? = some u → (w.alloc (.cells #[.string x.name, .int .i64 x.p.args, .int .i64 x.p.reads, .int .i64 x.p.writes, .int .i64 x.p.locals, .slice x.ao x.n x.cap] 38)).cell? ((⟨B, 0, none⟩ : Addr).add j) = some u := by
  subst hB
  intro j u hu
  rw [addr_add, Nat.zero_add]
  have hb : (w.alloc (.cells #[.string x.name, .int .i64 x.p.args, .int .i64 x.p.reads, .int .i64 x.p.writes, .int .i64 x.p.locals, .slice x.ao x.n x.cap] 38)).heap[w.heap.size]? = some (.cells #[.string x.name, .int .i64 x.p.args, .int .i64 x.p.reads, .int .i64 x.p.writes, .int .i64 x.p.locals, .slice x.ao x.n x.cap] 38 (0, 0)) := heap_alloc_new _ _ rfl
  simp only [World.cell?, hb]
  have e : prcs [x] = [.string x.name, .int .i64 x.p.args, .int .i64 x.p.reads, .int .i64 x.p.writes, .int .i64 x.p.locals, .slice x.ao x.n x.cap] := by simp [prcs, prc]
  rw [e] at hu
  simpa using hu
end Go.Proofs.YtmkomfbjgmgemaaGreatDoor
