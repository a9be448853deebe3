/-
  SLICES OF SLICES OF BYTES THAT CAME IN; SLICES OF ints OF THE CALL's OWN.
-/
import Derived.Test.YthdlilekilkogabDoorOwn
import Derived.Test.YthdlilekilkogabDoorFour
namespace Go.Proofs.YthdlilekilkogabDoor
open Go.RowKit

/-- A SLICE OF SLICES OF BYTES: the address and what is read behind it. -/
def ListsAt (w : World) (b off : Nat) (ls : List (List Nat)) : Prop :=
  ∀ i, i < ls.length → ∃ a cap, w.cell? ⟨b, off + i, none⟩ = some (.slice a (ls.getD i []).length cap) ∧ BytesAt w a (ls.getD i []) ∧ (a = none → cap = 0)
theorem ListsAt.kept {w w1 : World} {b off : Nat} {ls : List (List Nat)} (h : ListsAt w b off ls) (hb : Below w.heap.size w w1) : ListsAt w1 b off ls := by
  intro i hi
  obtain ⟨a, cap, hc, hba, hn⟩ := h i hi
  exact ⟨a, cap, (hb.cell (p := ⟨b, off + i, none⟩) (World.block_lt_of_cell? w _ hc)).trans hc, hba.kept hb, hn⟩
theorem ListsAt.lt {w : World} {b off : Nat} {ls : List (List Nat)} (h : ListsAt w b off ls) (i : Nat) : ∀ z ∈ ls.getD i [], z < 256 := by
  by_cases hi : i < ls.length
  · obtain ⟨a, cap, _, hba, _⟩ := h i hi
    exact hba.1
  · rw [List.getD_eq_getElem?_getD, List.getElem?_eq_none (by omega)]; simp

/-- a slice of ints of the call's own -/
def OwnI (w : World) (base : Nat) (v : Value) (L : List Nat) : Prop := w.ownsRow base 3 1 v L.length (L.map fun z => Value.int .i64 (Int.ofNat z))
theorem OwnI.nil (w : World) (base : Nat) : OwnI w base (.slice none 0 0) [] := World.ownsRow_nil _ _ _ _
theorem OwnI.alloc {w : World} {base : Nat} {v : Value} {L : List Nat} (h : OwnI w base v L) (o : Obj) : OwnI (w.alloc o) base v L := World.ownsRow.alloc h o
theorem OwnI.kept {w w1 : World} {base : Nat} {v : Value} {L : List Nat} (h : OwnI w base v L) (hb : Below w.heap.size w w1) : OwnI w1 base v L := by
  obtain ⟨hl, h⟩ := h
  refine ⟨hl, ?_⟩
  rcases h with h | ⟨g, cap, cur, rfl, hg, hh, r⟩
  · exact .inl h
  · exact .inr ⟨g, cap, cur, rfl, hg, by rw [hb.block g (Array.getElem?_eq_some_iff.1 hh).1]; exact hh, r⟩
theorem OwnI.grown {w w1 : World} {base : Nat} {v : Value} {L : List Nat} {row : Option Nat} (h : OwnI w base v L) (hg : w.grownBy w1 row) (hne : v.ownBlock = none ∨ v.ownBlock ≠ row) : OwnI w1 base v L := World.ownsRow.kept h hg hne
theorem OwnI.shape {w : World} {base : Nat} {v : Value} {L : List Nat} (h : OwnI w base v L) :
    (v = .slice none 0 0 ∧ L = []) ∨ ∃ g cap, v = .slice (some ⟨g, 0, none⟩) L.length cap ∧ base ≤ g ∧ ∀ j, j < L.length → w.cell? ⟨g, j, none⟩ = some (.int .i64 ((L.getD j 0 : Nat) : Int)) := by
  obtain ⟨hl, h0⟩ := h
  rcases h0 with ⟨rfl, h0⟩ | ⟨g, cap, cur, rfl, hb, hg, hn, hm, hs, ht⟩
  · exact .inl ⟨rfl, List.eq_nil_of_length_eq_zero h0⟩
  · refine .inr ⟨g, cap, rfl, hb, fun j hj => ?_⟩
    have e := World.ownsRow.cellAt (w := w) (base := base) (e := 3) (size := 1) (g := g) (cap := cap) ⟨hl, .inr ⟨g, cap, cur, rfl, hb, hg, hn, hm, hs, ht⟩⟩ j (by omega)
    rw [e]
    simp [List.getD_eq_getElem?_getD, List.getElem?_eq_getElem hj]
theorem own_apart {w : World} {b b' : Nat} {v v' : Value} {L L' : List Nat} (h : OwnB w b v L) (h' : OwnI w b' v' L') : v.ownBlock = none ∨ v.ownBlock ≠ v'.ownBlock := by
  obtain ⟨_, _, h0 | ⟨g, cap, cur, rfl, _, hg, _⟩⟩ := h
  · left; rw [h0.1]; rfl
  · right
    obtain ⟨_, h1 | ⟨g', cap', cur', rfl, _, hg', _⟩⟩ := h'
    · rw [h1.1]; simp [Value.ownBlock]
    · intro e
      simp only [Value.ownBlock, Option.some.injEq] at e
      rw [e] at hg
      rw [hg] at hg'
      simp at hg'
theorem own_apart' {w : World} {b b' : Nat} {v v' : Value} {L L' : List Nat} (h : OwnB w b v L) (h' : OwnI w b' v' L') : v'.ownBlock = none ∨ v'.ownBlock ≠ v.ownBlock := by
  obtain ⟨_, h1 | ⟨g', cap', cur', rfl, _, hg', _⟩⟩ := h'
  · left; rw [h1.1]; rfl
  · right
    obtain ⟨_, _, h0 | ⟨g, cap, cur, rfl, _, hg, _⟩⟩ := h
    · rw [h0.1]; simp [Value.ownBlock]
    · intro e
      simp only [Value.ownBlock, Option.some.injEq] at e
      rw [e] at hg'
      rw [hg] at hg'
      simp at hg'
theorem ownBlockI {w : World} {base : Nat} {v : Value} {L : List Nat} (h : OwnI w base v L) : ∀ k, v.ownBlock = some k → base ≤ k := fun k hk => (World.ownsRow.lt h k hk).1

theorem int_src (w : World) (B : Nat) (z : Int) (hB : B = w.heap.size) : (w.alloc (.cells #[.int .i64 z] 3)).cell? ⟨B, 0, none⟩ = some (.int .i64 z) := by
  rw [World.cell?_alloc_at _ _ _ _ hB]; rfl
theorem infoInt : (Tryd.prog.info? 3).map (fun i => (i.zero, i.size, i.bytes)) = some (some (.int .i64 0), 1, 8) := by kernel_rfl
/-- append(xs, n) at a slice of ints of the call's own -/
theorem wpList_append_int {w : World} {ops : Array Oper} {rest : List Oper} {o : Oper} {a : Act} {Q : Exit → Act → World → Prop} (hgd : o.guard = none) (s x : Operand)
    (ho : o.op = .call { callee := .builtin .append, args := #[s, x], argTypes := #[30, 30] }) (base : Nat) (v : Value) (L : List Nat) (hs : a.eval s = v) (hown : OwnI w base v L)
    (B z : Nat) (hx : a.eval x = .slice (some ⟨B, 0, none⟩) 1 1) (hc : w.cell? ⟨B, 0, none⟩ = some (.int .i64 (z : Int))) (hlen : L.length + 1 ≤ 17592186044416) (hbase : base ≤ w.heap.size)
    (h : ∀ v' w', OwnI w' base v' (L ++ [z]) → w.grownBy w' v.ownBlock → wpList Tryd.prog ops Q rest (a.put o.dst v') w') : wpList Tryd.prog ops Q (o :: rest) a w := by
  obtain ⟨i0, hi, hz0, hz1, hz2⟩ := info_parts infoInt
  refine wpList_append_own w hgd s x 30 ho base 3 i0 (.int .i64 0) 1 8 Tryd.underlying30 hi hz0 hz1 hz2 rfl (by decide) v L.length _ hs hown ⟨B, 0, none⟩ 1 1 [.int .i64 (z : Int)] hx rfl ?_ ?_ (by unfold maxLen; omega) (by omega) hbase ?_
  · intro j u hu
    match j, hu with
    | 0, hu => simp at hu; subst hu; exact hc
  · intro u hu; simp at hu; subst hu; rfl
  · intro v' w' hown' hgrow _
    refine h v' w' ?_ hgrow
    unfold OwnI
    rw [List.length_append, List.map_append]
    exact hown'

end Go.Proofs.YthdlilekilkogabDoor
