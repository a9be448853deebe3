/-
  LISTS OF KEYS IN MEMORY; append.
-/
import Derived.Test.YtenmkigoohpfmaaKChk
import Derived.Laws.AppendOwnNone
import Derived.Maps.AppendAt
namespace Go.Proofs.Ytenmkigoohpfmaa
open Go.RowKit Go.Sort

/-- the cells of keys -/
def cks : List K → List Value
  | [] => []
  | k :: L => .int .i64 k.1 :: .int .i64 k.2 :: cks L
theorem cks_length (L : List K) : (cks L).length = L.length * 2 := by
  induction L with
  | nil => rfl
  | cons k L ih => simp only [cks, List.length_cons, ih]; omega
theorem cks_append (A B : List K) : cks (A ++ B) = cks A ++ cks B := by
  induction A with
  | nil => rfl
  | cons k A ih => simp [cks, ih]
/-- the j-th key -/
def kd (L : List K) (j : Nat) : K := L.getD j (0, 0)
theorem kd_cons_succ (k : K) (L : List K) (j : Nat) : kd (k :: L) (j + 1) = kd L j := by simp [kd]
theorem kd_get {L : List K} {j : Nat} (h : j < L.length) : L[j]? = some (kd L j) := by
  simp [kd, List.getD_eq_getElem?_getD, List.getElem?_eq_getElem h]
theorem kd_mem {L : List K} {j : Nat} (h : j < L.length) : kd L j ∈ L := List.mem_of_getElem? (kd_get h)
theorem kd_left (A B : List K) (j : Nat) (h : j < A.length) : kd (A ++ B) j = kd A j := by
  have h1 := kd_get (L := A ++ B) (j := j) (by simp; omega)
  rw [List.getElem?_append_left h, kd_get h] at h1
  exact (Option.some.inj h1).symm
theorem kd_right (A B : List K) (j : Nat) (h : j < B.length) : kd (A ++ B) (A.length + j) = kd B j := by
  have h1 := kd_get (L := A ++ B) (j := A.length + j) (by simp; omega)
  rw [List.getElem?_append_right (by omega), show A.length + j - A.length = j by omega, kd_get h] at h1
  exact (Option.some.inj h1).symm
theorem take_kd (L : List K) (j : Nat) (h : j < L.length) : L.take (j + 1) = L.take j ++ [kd L j] := by
  rw [List.take_succ_eq_append_getElem h]
  have := kd_get h
  rw [List.getElem?_eq_getElem h] at this
  rw [Option.some.inj this]
theorem cks_at (L : List K) (j : Nat) (h : j < L.length) : (cks L)[j * 2]? = some (.int .i64 (kd L j).1) ∧ (cks L)[j * 2 + 1]? = some (.int .i64 (kd L j).2) := by
  induction L generalizing j with
  | nil => simp at h
  | cons k L ih =>
    cases j with
    | zero => simp [cks, kd]
    | succ j =>
      have := ih j (by simp at h; omega)
      rw [kd_cons_succ, show (j + 1) * 2 = j * 2 + 1 + 1 by omega]
      simpa [cks] using this
theorem cks_one (L : List K) : ∀ v ∈ cks L, v.oneCell' = true := by
  induction L with
  | nil => simp [cks]
  | cons k L ih =>
    intro v hv
    simp only [cks, List.mem_cons] at hv
    rcases hv with rfl | rfl | h
    · rfl
    · rfl
    · exact ih v h

/-- A SLICE OF KEYS: the address and what its cells hold -/
def KeysAt (w : World) (ao : Option Addr) (L : List K) : Prop :=
  L = [] ∨ ∃ b off, ao = some ⟨b, off, none⟩ ∧ ∀ j u, (cks L)[j]? = some u → w.cell? ⟨b, off + j, none⟩ = some u
theorem KeysAt.at {w : World} {b off : Nat} {L : List K} (h : ∀ j u, (cks L)[j]? = some u → w.cell? ⟨b, off + j, none⟩ = some u) (j : Nat) (hj : j < L.length) :
    w.cell? ⟨b, off + j * 2, none⟩ = some (.int .i64 (kd L j).1) ∧ w.cell? ⟨b, off + j * 2 + 1, none⟩ = some (.int .i64 (kd L j).2) := by
  obtain ⟨h1, h2⟩ := cks_at L j hj
  exact ⟨h _ _ h1, by rw [Nat.add_assoc]; exact h _ _ h2⟩
theorem KeysAt.lt {w : World} {ao : Option Addr} {L : List K} (h : KeysAt w ao L) : ∀ a, L ≠ [] → ao = some a → a.block < w.heap.size := by
  intro a hne he
  rcases h with rfl | ⟨b, off, rfl, hc⟩
  · exact absurd rfl hne
  · cases he
    cases L with
    | nil => exact absurd rfl hne
    | cons k L => exact cell_lt (hc 0 _ (by simp [cks]; rfl))
theorem KeysAt.below {w w1 : World} {ao : Option Addr} {L : List K} (h : KeysAt w ao L) {B : Nat} (hb : Below B w w1) (hlt : ∀ a, L ≠ [] → ao = some a → a.block < B) : KeysAt w1 ao L := by
  rcases h with rfl | ⟨b, off, rfl, hc⟩
  · exact .inl rfl
  · by_cases hne : L = []
    · exact .inl hne
    · exact .inr ⟨b, off, rfl, fun j u hu => (hb.cell (p := ⟨b, off + j, none⟩) (hlt ⟨b, off, none⟩ hne rfl)).trans (hc j u hu)⟩
theorem KeysAt.kept {w w1 : World} {ao : Option Addr} {L : List K} (h : KeysAt w ao L) (hb : Below w.heap.size w w1) : KeysAt w1 ao L := h.below hb h.lt
theorem KeysAt.grew {w w1 : World} {ao : Option Addr} {L : List K} (h : KeysAt w ao L) (hg : Grew w w1) : KeysAt w1 ao L := h.kept hg.below
theorem addr_add (b off j : Nat) : (⟨b, off, none⟩ : Addr).add j = ⟨b, off + j, none⟩ := by unfold Addr.add; split <;> simp_all

/-- a slice of keys of the call's own -/
def OwnK (w : World) (base : Nat) (v : Value) (L : List K) : Prop := w.ownsRow base 28 2 v L.length (cks L)
theorem OwnK.nil (w : World) (base : Nat) : OwnK w base (.slice none 0 0) [] := World.ownsRow_nil _ _ _ _
theorem OwnK.shape {w : World} {base : Nat} {v : Value} {L : List K} (h : OwnK w base v L) :
    (v = .slice none 0 0 ∧ L = []) ∨ ∃ g cap, v = .slice (some ⟨g, 0, none⟩) L.length cap ∧ base ≤ g ∧ g < w.heap.size ∧ L.length ≤ cap ∧ cap ≤ maxLen ∧ KeysAt w (some ⟨g, 0, none⟩) L := by
  obtain ⟨hl, h⟩ := h
  rcases h with ⟨rfl, h0⟩ | ⟨g, cap, cur, rfl, hb, hg, hn, hm, hs, ht⟩
  · exact .inl ⟨rfl, List.eq_nil_of_length_eq_zero h0⟩
  · refine .inr ⟨g, cap, rfl, hb, (Array.getElem?_eq_some_iff.1 hg).1, hn, hm, .inr ⟨g, 0, rfl, fun j u hu => ?_⟩⟩
    have hj : j < L.length * 2 := by rw [← cks_length]; exact (List.getElem?_eq_some_iff.1 hu).1
    have e := World.ownsRow.cellAt (w := w) (base := base) (e := 28) (size := 2) (g := g) (cap := cap) ⟨hl, .inr ⟨g, cap, cur, rfl, hb, hg, hn, hm, hs, ht⟩⟩ j hj
    rw [Nat.zero_add, e, hu]
theorem OwnK.slice {w : World} {base : Nat} {v : Value} {L : List K} (h : OwnK w base v L) : ∃ ao cap, v = .slice ao L.length cap ∧ KeysAt w ao L ∧ (ao = none → cap = 0) ∧ L.length ≤ cap := by
  rcases h.shape with ⟨rfl, rfl⟩ | ⟨g, cap, rfl, _, _, hc, _, hb⟩
  · exact ⟨none, 0, rfl, .inl rfl, fun _ => rfl, by simp⟩
  · exact ⟨_, cap, rfl, hb, by simp, hc⟩
theorem OwnK.alloc {w : World} {base : Nat} {v : Value} {L : List K} (h : OwnK w base v L) (o : Obj) : OwnK (w.alloc o) base v L := World.ownsRow.alloc h o
theorem OwnK.drewN {w : World} {base : Nat} {v : Value} {L : List K} (h : OwnK w base v L) (n : Nat) : OwnK (w.drewN n) base v L := h
theorem OwnK.mono {w : World} {base base' : Nat} {v : Value} {L : List K} (h : OwnK w base v L) (hb : base' ≤ base) : OwnK w base' v L := by
  obtain ⟨hl, h⟩ := h
  refine ⟨hl, ?_⟩
  rcases h with h | ⟨g, cap, cur, e, hg, r⟩
  · exact .inl h
  · exact .inr ⟨g, cap, cur, e, by omega, r⟩
theorem OwnK.lt {w : World} {base : Nat} {v : Value} {L : List K} (h : OwnK w base v L) : ∀ k, v.ownBlock = some k → base ≤ k ∧ k < w.heap.size := World.ownsRow.lt h
theorem OwnK.same {w w1 : World} {base : Nat} {v : Value} {L : List K} (h : OwnK w base v L) (hs : ∀ g, v.ownBlock = some g → w1.heap[g]? = w.heap[g]?) : OwnK w1 base v L := by
  obtain ⟨hl, h⟩ := h
  refine ⟨hl, ?_⟩
  rcases h with h | ⟨g, cap, cur, rfl, hg, hh, r⟩
  · exact .inl h
  · exact .inr ⟨g, cap, cur, rfl, hg, (hs g rfl).trans hh, r⟩
theorem OwnK.kept {w w1 : World} {base : Nat} {v : Value} {L : List K} (h : OwnK w base v L) (hb : Below w.heap.size w w1) : OwnK w1 base v L :=
  h.same fun g hg => hb.block g (h.lt g hg).2

theorem infoK : (Try.prog.info? 28).map (fun i => (i.zero, i.size, i.bytes)) = some (some (.agg #[.int .i64 0, .int .i64 0]), 2, 16) := by kernel_rfl
/-- append at a slice of keys of the call's own, whatever slice of keys is appended: one equation -/
theorem run_append_keys {w : World} (ty : TypeId) (base : Nat) (v : Value) (L : List K) (hown : OwnK w base v L)
    (ao : Option Addr) (m c : Nat) (M : List K) (hm : m = M.length) (hsrc : KeysAt w ao M) (hnil : ao = none → c = 0) (hlen : (L.length + M.length) * 16 ≤ 140737488355328) (hbase : base ≤ w.heap.size) :
    ∃ v' w', (Builtin.append_ #[22, 22] ty #[v, .slice ao m c]).run Try.prog w = .ok v' w' ∧ OwnK w' base v' (L ++ M) ∧ w.grownBy w' v.ownBlock ∧ (v'.ownBlock = v.ownBlock ∨ v'.ownBlock = some w.heap.size) := by
  obtain ⟨i0, hi, hz0, hz1, hz2⟩ := info_parts infoK
  subst hm
  cases ao with
  | none =>
    have h0 : M = [] := by
      rcases hsrc with h1 | ⟨b, off, h1, _⟩
      · exact h1
      · cases h1
    subst h0
    obtain rfl := hnil rfl
    exact ⟨v, w, run_append_owned_none (P := Try.prog) (w := w) base 22 ty 28 i0 2 Try.underlying22 hi v L.length (cks L) hown, by simpa using hown, World.grownBy.refl _ _, .inl rfl⟩
  | some ad =>
    obtain ⟨v', w', hr, h2, h3, _, h5⟩ := run_append_own_at (P := Try.prog) w base 22 ty 28 i0 (.agg #[.int .i64 0, .int .i64 0]) 2 16 Try.underlying22 hi hz0 hz1 hz2 rfl (by decide) v L.length (cks L) hown ad M.length c (cks M) (cks_length M)
      (by
        intro j u hu
        rcases hsrc with h0 | ⟨b, off, e, hc⟩
        · subst h0; simp [cks] at hu
        · cases e
          rw [addr_add]; exact hc j u hu) (cks_one M) (by unfold maxLen; omega) hlen hbase
    exact ⟨v', w', hr, by unfold OwnK; rw [List.length_append, cks_append]; exact h2, h3, h5⟩
theorem wpList_append_keys {w : World} {ops : Array Oper} {rest : List Oper} {o : Oper} {a : Act} {Q : Exit → Act → World → Prop} (hgd : o.guard = none) (s x : Operand)
    (ho : o.op = .call { callee := .builtin .append, args := #[s, x], argTypes := #[22, 22] }) (base : Nat) (v : Value) (L : List K) (hs : a.eval s = v) (hown : OwnK w base v L)
    (ao : Option Addr) (m c : Nat) (M : List K) (hx : a.eval x = .slice ao m c) (hm : m = M.length) (hsrc : KeysAt w ao M) (hnil : ao = none → c = 0) (hlen : (L.length + M.length) * 16 ≤ 140737488355328) (hbase : base ≤ w.heap.size)
    (h : ∀ v' w', OwnK w' base v' (L ++ M) → w.grownBy w' v.ownBlock → (v'.ownBlock = v.ownBlock ∨ v'.ownBlock = some w.heap.size) → wpList Try.prog ops Q rest (a.put o.dst v') w') : wpList Try.prog ops Q (o :: rest) a w := by
  obtain ⟨v', w', hr, h2, h3, h4⟩ := run_append_keys o.type base v L hown ao m c M hm hsrc hnil hlen hbase
  refine wpList_plain hgd fun K hK' => ?_
  unfold Oper.wp
  simp [execOp, ho, resolve, invoke, builtin, hs, hx, hr, Result.andThen]
  exact hK' _ _ (h v' w' h2 h3 h4)
theorem step_append_keys {w : World} {ops : Array Oper} {o : Oper} {a : Act} {K' : Act → World → Prop} {Q : Exit → Act → World → Prop} {E : Prop} (hgd : o.guard = none) (s x : Operand)
    (ho : o.op = .call { callee := .builtin .append, args := #[s, x], argTypes := #[22, 22] }) (base : Nat) (v : Value) (L : List K) (hs : a.eval s = v) (hown : OwnK w base v L)
    (ao : Option Addr) (m c : Nat) (M : List K) (hx : a.eval x = .slice ao m c) (hm : m = M.length) (hsrc : KeysAt w ao M) (hnil : ao = none → c = 0) (hlen : (L.length + M.length) * 16 ≤ 140737488355328) (hbase : base ≤ w.heap.size)
    (h : ∀ v' w', OwnK w' base v' (L ++ M) → w.grownBy w' v.ownBlock → (v'.ownBlock = v.ownBlock ∨ v'.ownBlock = some w.heap.size) → K' (a.put o.dst v') w') :
    if Region.wanted o (yielded ops a.tmps) = true then Oper.wp Try.prog o a w K' Q else E := by
  have hw : Region.wanted o (yielded ops a.tmps) = true := by simp [Region.wanted, hgd]
  rw [if_pos hw]
  obtain ⟨v', w', hr, h2, h3, h4⟩ := run_append_keys o.type base v L hown ao m c M hm hsrc hnil hlen hbase
  unfold Oper.wp execOp
  simp only [ho, resolve, invoke, builtin, Sem.run_bind, Sem.run_pure, Result.andThen_ok, List.map_toArray, List.map_cons, List.map_nil, hs, hx, hr]
  exact h v' w' h2 h3 h4
/-- one key, laid for an append -/
theorem key_src (w : World) (B : Nat) (x y : Int) (hB : B = w.heap.size) : KeysAt (w.alloc (.cells #[.int .i64 x, .int .i64 y] 28)) (some ⟨B, 0, none⟩) [(x, y)] := by
  have hb := Box.new (w := w) (b := B) (x := x) (y := y) hB
  refine .inr ⟨B, 0, rfl, fun j u hu => ?_⟩
  match j, hu with
  | 0, hu => simp [cks] at hu; rw [← hu]; exact hb.1
  | 1, hu => simp [cks] at hu; rw [← hu]; exact hb.2
  | j + 2, hu => simp [cks] at hu

theorem grown_below {w w1 : World} {row : Option Nat} {B : Nat} (h : w.grownBy w1 row) (hr : ∀ k, row = some k → B ≤ k) (hB : B ≤ w.heap.size) : Below B w w1 :=
  ⟨h.os, h.tape, h.output, h.size, fun k hk => h.block k (by omega) (fun e => by have := hr k e.symm; omega)⟩

end Go.Proofs.Ytenmkigoohpfmaa
