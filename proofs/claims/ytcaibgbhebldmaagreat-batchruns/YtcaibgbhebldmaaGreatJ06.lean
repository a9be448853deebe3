import Derived.Test.YtcaibgbhebldmaaGreatJ05
import Derived.WalkKit
import Derived.WalkLawsBesides
import Derived.ProofKit
import Derived.OpenShut
import Derived.BigQuiet
import Derived.Deep.QuietTactic
import Derived.Laws.BitsAllLaws
import Derived.Laws.StructEq
import Derived.Shelf.SlSortCmp.QuietGrown
import Derived.Shelf.SlicesE.Kit
import Derived.Laws.AppendOwnNone
import Derived.Maps.AppendAt
/-
  A WORLD THAT HAS GROWN; '==' OF KEYS.
-/
namespace Go.Proofs.YtcaibgbhebldmaaGreat
open Go.RowKit Go.Sort

theorem mixed : Tryz.prog.follows .mixedOrders = true := by kernel_rfl
/-- A WORLD THAT HAS GROWN: draws, new blocks behind. -/
def Grew (w w' : World) : Prop := ∃ q os, w' = grow (w.drewN q) os
theorem Grew.refl (w : World) : Grew w w := ⟨0, #[], by rw [grow_empty]; rfl⟩
theorem Grew.trans {a b c : World} (h1 : Grew a b) (h2 : Grew b c) : Grew a c := by
  obtain ⟨q, os, rfl⟩ := h1
  obtain ⟨q', os', rfl⟩ := h2
  exact ⟨q + q', os ++ os', by show grow (grow ((a.drewN q).drewN q') os) os' = _; rw [grow_grow, World.drewN_drewN]⟩
theorem Grew.alloc {a b : World} (h : Grew a b) (o : Obj) : Grew a (b.alloc o) := h.trans ⟨0, #[o], alloc_eq_grow _ _⟩
theorem Grew.drewN {a b : World} (h : Grew a b) (n : Nat) : Grew a (b.drewN n) := h.trans ⟨n, #[], by rw [grow_empty]⟩
theorem Grew.drew {a b : World} (h : Grew a b) : Grew a b.drew := h.drewN 1
theorem Grew.grow {a b : World} (h : Grew a b) (n : Nat) (os : Array Obj) : Grew a (grow (b.drewN n) os) := h.trans ⟨n, os, rfl⟩
theorem Grew.size {a b : World} (h : Grew a b) : a.heap.size ≤ b.heap.size := by obtain ⟨q, os, rfl⟩ := h; simp [Sort.grow]
theorem Grew.heap {a b : World} (h : Grew a b) {k : Nat} (hk : k < a.heap.size) : b.heap[k]? = a.heap[k]? := by
  obtain ⟨q, os, rfl⟩ := h; exact Sort.heap_grow_old (a.drewN q) os hk
theorem Grew.below {a b : World} (h : Grew a b) : Below a.heap.size a b := by
  refine ⟨?_, ?_, ?_, h.size, fun k hk => h.heap hk⟩ <;> obtain ⟨q, os, rfl⟩ := h <;> rfl
theorem cell_lt {w : World} {p : Addr} {v : Value} (hc : w.cell? p = some v) : p.block < w.heap.size := by
  by_cases hlt : p.block < w.heap.size
  · exact hlt
  · have hn : w.heap[p.block]? = none := Array.getElem?_eq_none_iff.2 (by omega)
    simp [World.cell?, hn] at hc
theorem Grew.cell {a b : World} (h : Grew a b) {p : Addr} {v : Value} (hc : a.cell? p = some v) : b.cell? p = some v := by
  obtain ⟨q, os, rfl⟩ := h
  exact cell_grown (cell_lt hc) hc q os

theorem heap_alloc_new {w : World} (o : Obj) (k : Nat) (h : k = w.heap.size) : (w.alloc o).heap[k]? = some o := by
  subst h; show (w.heap.push _)[w.heap.size]? = _; simp
theorem heap_alloc_old {w : World} (o : Obj) (k : Nat) (h : k < w.heap.size) : (w.alloc o).heap[k]? = w.heap[k]? := by
  show (w.heap.push _)[k]? = _; rw [Array.getElem?_push_lt h]; exact (Array.getElem?_eq_getElem h).symm
/-- a key's two cells -/
def ck (k : K) : List Value := [.int .i64 k.1, .int .i64 k.2]
/-- a key as a value -/
abbrev kv (k : K) : Value := .agg #[.int .i64 k.1, .int .i64 k.2]

/-- A BOX: a block's first two cells hold a key -/
def Box (w : World) (b : Nat) (x y : Int) : Prop := w.cell? ⟨b, 0, none⟩ = some (.int .i64 x) ∧ w.cell? ⟨b, 1, none⟩ = some (.int .i64 y)
theorem Box.new {w : World} {b : Nat} {x y : Int} (hb : b = w.heap.size) : Box (w.alloc (.cells #[.int .i64 x, .int .i64 y] 102)) b x y := by
  have h := heap_alloc_new (w := w) (.cells #[.int .i64 x, .int .i64 y] 102) b hb
  constructor <;> simp [World.cell?, h]
theorem Box.alloc {w : World} {b : Nat} {x y : Int} (h : Box w b x y) (o : Obj) : Box (w.alloc o) b x y := by
  have hg : Grew w (w.alloc o) := (Grew.refl w).alloc o
  exact ⟨hg.cell h.1, hg.cell h.2⟩
theorem Box.grew {w w1 : World} {b : Nat} {x y : Int} (h : Box w b x y) (hg : Grew w w1) : Box w1 b x y := ⟨hg.cell h.1, hg.cell h.2⟩

/-- '==' of two keys -/
theorem eqKey : EqlAt Tryz.prog 102 (fun x : K => .agg (ck x).toArray) (fun x y => decide (x = y)) := by
  refine ⟨fun x y w => ?_, GuardAt.agg _ (by kernel_rfl)⟩
  have u3 := Tryz.underlying3
  have a3 := Tryz.isAgg3
  have z3 := Tryz.sizeOf3
  have u2 := Tryz.underlying2
  have a2 := Tryz.isAgg2
  have z2 := Tryz.sizeOf2
  have hS : Tryz.prog.underlying 102 = some (.struct (Tryz.prog.fieldsOf 102)) := by kernel_rfl
  have hp : Tryz.prog.stoodInHeld 102 = false := by kernel_rfl
  simp only [ck]
  rw [run_eql_struct, show (10000 : Nat) = 9999 + 1 from rfl, run_equalIn_agg w 9999 102 _ _ hS hp]
  simp only [Program.fieldsOf, Tryz.underlying102]
  go_simp
  obtain ⟨x1, x2⟩ := x
  obtain ⟨y1, y2⟩ := y
  by_cases h1 : x1 = y1 <;> by_cases h2 : x2 = y2 <;> simp [h1, h2]
theorem run_eqKey (x1 x2 y1 y2 : Int) (w : World) : Sem.run Tryz.prog (binOp .eql 102 (.agg #[.int .i64 x1, .int .i64 x2]) (.agg #[.int .i64 y1, .int .i64 y2])) w = .ok (.bool (decide ((x1, x2) = (y1, y2)))) w := eqKey.1 (x1, x2) (y1, y2) w
theorem run_eqGuard (op : BinOp) (a b : Operand) (x1 x2 y1 y2 : Int) (w : World) : Sem.run Tryz.prog (eqGuard op 102 a b (.agg #[.int .i64 x1, .int .i64 x2]) (.agg #[.int .i64 y1, .int .i64 y2])) w = .ok () w := eqKey.2 op a b (x1, x2) (y1, y2) w


end Go.Proofs.YtcaibgbhebldmaaGreat
/-
  LISTS OF KEYS IN MEMORY; append.
-/
namespace Go.Proofs.YtcaibgbhebldmaaGreat
open Go.RowKit Go.Sort

/-- the cells of keys -/
def cks : List K → List Value
  | [] => []
  | k :: L => .int .i64 k.1 :: .int .i64 k.2 :: cks L
theorem cks_length (L : List K) : (cks L).length = L.length * 2 := by
  induction L with
  | nil => rfl
  | cons k L ih => simp only [cks, List.length_cons, ih]; omega
theorem cks_append (A B : List K) : cks (A ++ B) = cks A ++ cks B := by
  induction A with
  | nil => rfl
  | cons k A ih => simp [cks, ih]
/-- the j-th key -/
abbrev kd (L : List K) (j : Nat) : K := cd L j
theorem kd_cons_succ (k : K) (L : List K) (j : Nat) : kd (k :: L) (j + 1) = kd L j := by simp [kd, cd, cd]
theorem kd_get {L : List K} {j : Nat} (h : j < L.length) : L[j]? = some (kd L j) := by
  simp [kd, cd, List.getD_eq_getElem?_getD, List.getElem?_eq_getElem h]
theorem kd_mem {L : List K} {j : Nat} (h : j < L.length) : kd L j ∈ L := List.mem_of_getElem? (kd_get h)
theorem kd_left (A B : List K) (j : Nat) (h : j < A.length) : kd (A ++ B) j = kd A j := by
  have h1 := kd_get (L := A ++ B) (j := j) (by simp; omega)
  rw [List.getElem?_append_left h, kd_get h] at h1
  exact (Option.some.inj h1).symm
theorem kd_right (A B : List K) (j : Nat) (h : j < B.length) : kd (A ++ B) (A.length + j) = kd B j := by
  have h1 := kd_get (L := A ++ B) (j := A.length + j) (by simp; omega)
  rw [List.getElem?_append_right (by omega), show A.length + j - A.length = j by omega, kd_get h] at h1
  exact (Option.some.inj h1).symm
theorem take_kd (L : List K) (j : Nat) (h : j < L.length) : L.take (j + 1) = L.take j ++ [kd L j] := by
  rw [List.take_succ_eq_append_getElem h]
  have := kd_get h
  rw [List.getElem?_eq_getElem h] at this
  rw [Option.some.inj this]
theorem cks_at (L : List K) (j : Nat) (h : j < L.length) : (cks L)[j * 2]? = some (.int .i64 (kd L j).1) ∧ (cks L)[j * 2 + 1]? = some (.int .i64 (kd L j).2) := by
  induction L generalizing j with
  | nil => simp at h
  | cons k L ih =>
    cases j with
    | zero => simp [cks, kd, cd]
    | succ j =>
      have := ih j (by simp at h; omega)
      rw [kd_cons_succ, show (j + 1) * 2 = j * 2 + 1 + 1 by omega]
      simpa [cks] using this
theorem cks_one (L : List K) : ∀ v ∈ cks L, v.oneCell' = true := by
  induction L with
  | nil => simp [cks]
  | cons k L ih =>
    intro v hv
    simp only [cks, List.mem_cons] at hv
    rcases hv with rfl | rfl | h
    · rfl
    · rfl
    · exact ih v h

/-- A SLICE OF KEYS: the address and what its cells hold -/
def KeysAt (w : World) (ao : Option Addr) (L : List K) : Prop :=
  L = [] ∨ ∃ b off, ao = some ⟨b, off, none⟩ ∧ ∀ j u, (cks L)[j]? = some u → w.cell? ⟨b, off + j, none⟩ = some u
theorem KeysAt.at {w : World} {b off : Nat} {L : List K} (h : ∀ j u, (cks L)[j]? = some u → w.cell? ⟨b, off + j, none⟩ = some u) (j : Nat) (hj : j < L.length) :
    w.cell? ⟨b, off + j * 2, none⟩ = some (.int .i64 (kd L j).1) ∧ w.cell? ⟨b, off + j * 2 + 1, none⟩ = some (.int .i64 (kd L j).2) := by
  obtain ⟨h1, h2⟩ := cks_at L j hj
  exact ⟨h _ _ h1, by rw [Nat.add_assoc]; exact h _ _ h2⟩
theorem KeysAt.lt {w : World} {ao : Option Addr} {L : List K} (h : KeysAt w ao L) : ∀ a, L ≠ [] → ao = some a → a.block < w.heap.size := by
  intro a hne he
  rcases h with rfl | ⟨b, off, rfl, hc⟩
  · exact absurd rfl hne
  · cases he
    cases L with
    | nil => exact absurd rfl hne
    | cons k L => exact cell_lt (hc 0 _ (by simp [cks]; rfl))
theorem KeysAt.below {w w1 : World} {ao : Option Addr} {L : List K} (h : KeysAt w ao L) {B : Nat} (hb : Below B w w1) (hlt : ∀ a, L ≠ [] → ao = some a → a.block < B) : KeysAt w1 ao L := by
  rcases h with rfl | ⟨b, off, rfl, hc⟩
  · exact .inl rfl
  · by_cases hne : L = []
    · exact .inl hne
    · exact .inr ⟨b, off, rfl, fun j u hu => (hb.cell (p := ⟨b, off + j, none⟩) (hlt ⟨b, off, none⟩ hne rfl)).trans (hc j u hu)⟩
theorem KeysAt.kept {w w1 : World} {ao : Option Addr} {L : List K} (h : KeysAt w ao L) (hb : Below w.heap.size w w1) : KeysAt w1 ao L := h.below hb h.lt
theorem KeysAt.grew {w w1 : World} {ao : Option Addr} {L : List K} (h : KeysAt w ao L) (hg : Grew w w1) : KeysAt w1 ao L := h.kept hg.below
theorem addr_add (b off j : Nat) : (⟨b, off, none⟩ : Addr).add j = ⟨b, off + j, none⟩ := by unfold Addr.add; split <;> simp_all

/-- a slice of keys of the call's own -/
def OwnK (w : World) (base : Nat) (v : Value) (L : List K) : Prop := w.ownsRow base 102 2 v L.length (cks L)
theorem OwnK.nil (w : World) (base : Nat) : OwnK w base (.slice none 0 0) [] := World.ownsRow_nil _ _ _ _
theorem OwnK.shape {w : World} {base : Nat} {v : Value} {L : List K} (h : OwnK w base v L) :
    (v = .slice none 0 0 ∧ L = []) ∨ ∃ g cap, v = .slice (some ⟨g, 0, none⟩) L.length cap ∧ base ≤ g ∧ g < w.heap.size ∧ L.length ≤ cap ∧ cap ≤ maxLen ∧ KeysAt w (some ⟨g, 0, none⟩) L := by
  obtain ⟨hl, h⟩ := h
  rcases h with ⟨rfl, h0⟩ | ⟨g, cap, cur, rfl, hb, hg, hn, hm, hs, ht⟩
  · exact .inl ⟨rfl, List.eq_nil_of_length_eq_zero h0⟩
  · refine .inr ⟨g, cap, rfl, hb, (Array.getElem?_eq_some_iff.1 hg).1, hn, hm, .inr ⟨g, 0, rfl, fun j u hu => ?_⟩⟩
    have hj : j < L.length * 2 := by rw [← cks_length]; exact (List.getElem?_eq_some_iff.1 hu).1
    have e := World.ownsRow.cellAt (w := w) (base := base) (e := 102) (size := 2) (g := g) (cap := cap) ⟨hl, .inr ⟨g, cap, cur, rfl, hb, hg, hn, hm, hs, ht⟩⟩ j hj
    rw [Nat.zero_add, e, hu]
theorem OwnK.slice {w : World} {base : Nat} {v : Value} {L : List K} (h : OwnK w base v L) : ∃ ao cap, v = .slice ao L.length cap ∧ KeysAt w ao L ∧ (ao = none → cap = 0) ∧ L.length ≤ cap := by
  rcases h.shape with ⟨rfl, rfl⟩ | ⟨g, cap, rfl, _, _, hc, _, hb⟩
  · exact ⟨none, 0, rfl, .inl rfl, fun _ => rfl, by simp⟩
  · exact ⟨_, cap, rfl, hb, by simp, hc⟩
theorem OwnK.alloc {w : World} {base : Nat} {v : Value} {L : List K} (h : OwnK w base v L) (o : Obj) : OwnK (w.alloc o) base v L := World.ownsRow.alloc h o
theorem OwnK.drewN {w : World} {base : Nat} {v : Value} {L : List K} (h : OwnK w base v L) (n : Nat) : OwnK (w.drewN n) base v L := h
theorem OwnK.mono {w : World} {base base' : Nat} {v : Value} {L : List K} (h : OwnK w base v L) (hb : base' ≤ base) : OwnK w base' v L := by
  obtain ⟨hl, h⟩ := h
  refine ⟨hl, ?_⟩
  rcases h with h | ⟨g, cap, cur, e, hg, r⟩
  · exact .inl h
  · exact .inr ⟨g, cap, cur, e, by omega, r⟩
theorem OwnK.lt {w : World} {base : Nat} {v : Value} {L : List K} (h : OwnK w base v L) : ∀ k, v.ownBlock = some k → base ≤ k ∧ k < w.heap.size := World.ownsRow.lt h
theorem OwnK.same {w w1 : World} {base : Nat} {v : Value} {L : List K} (h : OwnK w base v L) (hs : ∀ g, v.ownBlock = some g → w1.heap[g]? = w.heap[g]?) : OwnK w1 base v L := by
  obtain ⟨hl, h⟩ := h
  refine ⟨hl, ?_⟩
  rcases h with h | ⟨g, cap, cur, rfl, hg, hh, r⟩
  · exact .inl h
  · exact .inr ⟨g, cap, cur, rfl, hg, (hs g rfl).trans hh, r⟩
theorem OwnK.kept {w w1 : World} {base : Nat} {v : Value} {L : List K} (h : OwnK w base v L) (hb : Below w.heap.size w w1) : OwnK w1 base v L :=
  h.same fun g hg => hb.block g (h.lt g hg).2

theorem infoK : (Tryz.prog.info? 102).map (fun i => (i.zero, i.size, i.bytes)) = some (some (.agg #[.int .i64 0, .int .i64 0]), 2, 16) := by kernel_rfl
/-- append at a slice of keys of the call's own, whatever slice of keys is appended: one equation -/
theorem run_append_keys {w : World} (ty : TypeId) (base : Nat) (v : Value) (L : List K) (hown : OwnK w base v L)
    (ao : Option Addr) (m c : Nat) (M : List K) (hm : m = M.length) (hsrc : KeysAt w ao M) (hnil : ao = none → c = 0) (hlen : (L.length + M.length) * 16 ≤ 140737488355328) (hbase : base ≤ w.heap.size) :
    ∃ v' w', (Builtin.append_ #[48, 48] ty #[v, .slice ao m c]).run Tryz.prog w = .ok v' w' ∧ OwnK w' base v' (L ++ M) ∧ w.grownBy w' v.ownBlock ∧ (v'.ownBlock = v.ownBlock ∨ v'.ownBlock = some w.heap.size) := by
  obtain ⟨i0, hi, hz0, hz1, hz2⟩ := info_parts infoK
  subst hm
  cases ao with
  | none =>
    have h0 : M = [] := by
      rcases hsrc with h1 | ⟨b, off, h1, _⟩
      · exact h1
      · cases h1
    subst h0
    obtain rfl := hnil rfl
    exact ⟨v, w, run_append_owned_none (P := Tryz.prog) (w := w) base 48 ty 102 i0 2 Tryz.underlying48 hi v L.length (cks L) hown, by simpa using hown, World.grownBy.refl _ _, .inl rfl⟩
  | some ad =>
    obtain ⟨v', w', hr, h2, h3, _, h5⟩ := run_append_own_at (P := Tryz.prog) w base 48 ty 102 i0 (.agg #[.int .i64 0, .int .i64 0]) 2 16 Tryz.underlying48 hi hz0 hz1 hz2 rfl (by decide) v L.length (cks L) hown ad M.length c (cks M) (cks_length M)
      (by
        intro j u hu
        rcases hsrc with h0 | ⟨b, off, e, hc⟩
        · subst h0; simp [cks] at hu
        · cases e
          rw [addr_add]; exact hc j u hu) (cks_one M) (by unfold maxLen; omega) hlen hbase
    exact ⟨v', w', hr, by unfold OwnK; rw [List.length_append, cks_append]; exact h2, h3, h5⟩
theorem wpList_append_keys {w : World} {ops : Array Oper} {rest : List Oper} {o : Oper} {a : Act} {Q : Exit → Act → World → Prop} (hgd : o.guard = none) (s x : Operand)
    (ho : o.op = .call { callee := .builtin .append, args := #[s, x], argTypes := #[48, 48] }) (base : Nat) (v : Value) (L : List K) (hs : a.eval s = v) (hown : OwnK w base v L)
    (ao : Option Addr) (m c : Nat) (M : List K) (hx : a.eval x = .slice ao m c) (hm : m = M.length) (hsrc : KeysAt w ao M) (hnil : ao = none → c = 0) (hlen : (L.length + M.length) * 16 ≤ 140737488355328) (hbase : base ≤ w.heap.size)
    (h : ∀ v' w', OwnK w' base v' (L ++ M) → w.grownBy w' v.ownBlock → (v'.ownBlock = v.ownBlock ∨ v'.ownBlock = some w.heap.size) → wpList Tryz.prog ops Q rest (a.put o.dst v') w') : wpList Tryz.prog ops Q (o :: rest) a w := by
  obtain ⟨v', w', hr, h2, h3, h4⟩ := run_append_keys o.type base v L hown ao m c M hm hsrc hnil hlen hbase
  refine wpList_plain hgd fun K hK' => ?_
  unfold Oper.wp
  simp [execOp, ho, resolve, invoke, builtin, hs, hx, hr, Result.andThen]
  exact hK' _ _ (h v' w' h2 h3 h4)
theorem step_append_keys {w : World} {ops : Array Oper} {o : Oper} {a : Act} {K' : Act → World → Prop} {Q : Exit → Act → World → Prop} {E : Prop} (hgd : o.guard = none) (s x : Operand)
    (ho : o.op = .call { callee := .builtin .append, args := #[s, x], argTypes := #[48, 48] }) (base : Nat) (v : Value) (L : List K) (hs : a.eval s = v) (hown : OwnK w base v L)
    (ao : Option Addr) (m c : Nat) (M : List K) (hx : a.eval x = .slice ao m c) (hm : m = M.length) (hsrc : KeysAt w ao M) (hnil : ao = none → c = 0) (hlen : (L.length + M.length) * 16 ≤ 140737488355328) (hbase : base ≤ w.heap.size)
    (h : ∀ v' w', OwnK w' base v' (L ++ M) → w.grownBy w' v.ownBlock → (v'.ownBlock = v.ownBlock ∨ v'.ownBlock = some w.heap.size) → K' (a.put o.dst v') w') :
    if Region.wanted o (yielded ops a.tmps) = true then Oper.wp Tryz.prog o a w K' Q else E := by
  have hw : Region.wanted o (yielded ops a.tmps) = true := by simp [Region.wanted, hgd]
  rw [if_pos hw]
  obtain ⟨v', w', hr, h2, h3, h4⟩ := run_append_keys o.type base v L hown ao m c M hm hsrc hnil hlen hbase
  unfold Oper.wp execOp
  simp only [ho, resolve, invoke, builtin, Sem.run_bind, Sem.run_pure, Result.andThen_ok, List.map_toArray, List.map_cons, List.map_nil, hs, hx, hr]
  exact h v' w' h2 h3 h4
/-- one key, laid for an append -/
theorem key_src (w : World) (B : Nat) (x y : Int) (hB : B = w.heap.size) : KeysAt (w.alloc (.cells #[.int .i64 x, .int .i64 y] 102)) (some ⟨B, 0, none⟩) [(x, y)] := by
  have hb := Box.new (w := w) (b := B) (x := x) (y := y) hB
  refine .inr ⟨B, 0, rfl, fun j u hu => ?_⟩
  match j, hu with
  | 0, hu => simp [cks] at hu; rw [← hu]; exact hb.1
  | 1, hu => simp [cks] at hu; rw [← hu]; exact hb.2
  | j + 2, hu => simp [cks] at hu

theorem grown_belowK {w w1 : World} {row : Option Nat} {B : Nat} (h : w.grownBy w1 row) (hr : ∀ k, row = some k → B ≤ k) (hB : B ≤ w.heap.size) : Below B w w1 :=
  ⟨h.os, h.tape, h.output, h.size, fun k hk => h.block k (by omega) (fun e => by have := hr k e.symm; omega)⟩
/-- a program as a value -/
abbrev pv (p : Nums) (ao : Option Addr) (n cap : Nat) : Value := .agg #[.int .i64 p.args, .int .i64 p.reads, .int .i64 p.writes, .int .i64 p.locals, .slice ao n cap]
end Go.Proofs.YtcaibgbhebldmaaGreat
/-
  NAMES: isLetter, isDigit, isName, the document's Name.
-/
namespace Go.Proofs.YtcaibgbhebldmaaGreat
open Go.RowKit Go.Sort

def letB (c : Int) : Bool := (decide (97 ≤ c) && decide (c ≤ 122)) || (decide (65 ≤ c) && decide (c ≤ 90))
def digB (c : Int) : Bool := decide (48 ≤ c) && decide (c ≤ 57)
/-- may a byte stand at a place of a name? -/
def chB (i : Nat) (c : Int) : Bool := letB c || (decide (i ≠ 0) && (digB c || decide (c = 95)))
def chs (s : ByteArray) (i : Nat) : Int := ((s.data.toList.getD i 0).toNat : Int)
def goodN (s : ByteArray) : Nat → Bool
  | 0 => true
  | k + 1 => goodN s k && chB k (chs s k)
def nameB (s : ByteArray) : Bool := decide (0 < s.size) && decide (s.size ≤ 31) && goodN s s.size
theorem chs_at (s : ByteArray) (k : Nat) (h : k < s.size) : (s[k].toNat : Int) = chs s k := by
  have hl : k < s.data.toList.length := by rw [Array.length_toList]; exact h
  unfold chs
  rw [List.getD_eq_getElem?_getD, List.getElem?_eq_getElem hl]; rfl
theorem goodN_false {s : ByteArray} {k n : Nat} (h : chB k (chs s k) = false) (hk : k < n) : goodN s n = false := by
  induction n with
  | zero => omega
  | succ n ih =>
    unfold goodN
    by_cases e : k = n
    · subst e; rw [h]; simp
    · rw [ih (by omega)]; rfl
theorem chs_byte (s : ByteArray) (k : Nat) : 0 ≤ chs s k ∧ chs s k ≤ 255 := by
  unfold chs; have := (s.data.toList.getD k 0).toNat_lt; omega
theorem bool_cases (a b : Bool) : a = true ∨ (a = false ∧ b = true) ∨ (a = false ∧ b = false) := by cases a <;> cases b <;> simp

theorem isLetter_any (w : World) (c : Int) : Calls Tryz.prog 44 #[.int .u8 c] w fun e w' => e = .returned (.bool (letB c)) ∧ w' = w := by
  by_cases h1 : 97 ≤ c
  · by_cases h2 : c ≤ 122
    · have HE : Hid (letB c = true) := by unfold letB; simp [Hid, h1, h2]
      go_enter Tryz.func44, Tryz.ntmps44
      go_wp2
      go_ret
      exact ⟨by rw [HE.out]; rfl, rfl⟩
    · have h3 : 65 ≤ c := by omega
      have h4 : ¬ c ≤ 90 := by omega
      have HE : Hid (letB c = false) := by unfold letB; simp [Hid, h2, h4]
      go_enter Tryz.func44, Tryz.ntmps44
      go_wp2
      go_ret
      exact ⟨by rw [HE.out]; rfl, rfl⟩
  · by_cases h3 : 65 ≤ c
    · by_cases h4 : c ≤ 90
      · have HE : Hid (letB c = true) := by unfold letB; simp [Hid, h3, h4]
        go_enter Tryz.func44, Tryz.ntmps44
        go_wp2
        go_ret
        exact ⟨by rw [HE.out]; rfl, rfl⟩
      · have HE : Hid (letB c = false) := by unfold letB; simp [Hid, h1, h4]
        go_enter Tryz.func44, Tryz.ntmps44
        go_wp2
        go_ret
        exact ⟨by rw [HE.out]; rfl, rfl⟩
    · have HE : Hid (letB c = false) := by unfold letB; simp [Hid, h1, h3]
      go_enter Tryz.func44, Tryz.ntmps44
      go_wp2
      go_ret
      exact ⟨by rw [HE.out]; rfl, rfl⟩
theorem isDigit_any (w : World) (c : Int) : Calls Tryz.prog 45 #[.int .u8 c] w fun e w' => e = .returned (.bool (digB c)) ∧ w' = w := by
  by_cases h1 : 48 ≤ c
  · by_cases h2 : c ≤ 57
    · have HE : Hid (digB c = true) := by unfold digB; simp [Hid, h1, h2]
      go_enter Tryz.func45, Tryz.ntmps45
      go_wp2
      go_ret
      exact ⟨by rw [HE.out]; rfl, rfl⟩
    · have HE : Hid (digB c = false) := by unfold digB; simp [Hid, h2]
      go_enter Tryz.func45, Tryz.ntmps45
      go_wp2
      go_ret
      exact ⟨by rw [HE.out]; rfl, rfl⟩
  · have HE : Hid (digB c = false) := by unfold digB; simp [Hid, h1]
    go_enter Tryz.func45, Tryz.ntmps45
    go_wp2
    go_ret
    exact ⟨by rw [HE.out]; rfl, rfl⟩
set_option maxHeartbeats 1000000 in
theorem isName_any (w : World) (s : ByteArray) (hs : s.size ≤ 281474976710656) : Calls Tryz.prog 19 #[.string s] w fun e w' => e = .returned (.bool (nameB s)) ∧ w' = w := by
  go_enter Tryz.func19, Tryz.ntmps19
  go_wp2
  go_loop [6] (fun x => ∃ k : Nat, k ≤ s.size ∧ x = .int .i64 (k : Int) ∧ Hid (goodN s k = true)) (fun x => s.size - (intOf x).toNat)
  case atStart => exact ⟨0, Nat.zero_le _, rfl, rfl⟩
  case round =>
    obtain ⟨k, hk, rfl, HA⟩ := hrel
    by_cases hlt : k < s.size
    · have HC := chs_at s k hlt
      have HF : Hid (chB k (chs s k) = false → nameB s = false) := fun h => by unfold nameB; rw [goodN_false h hlt]; simp
      have HT : Hid (chB k (chs s k) = true → goodN s (k + 1) = true) := fun h => by unfold goodN; rw [HA.out, h]; rfl
      generalize chs s k = c at *
      cases hl : letB c with
      | true =>
        have HG : Hid (goodN s (k + 1) = true) := HT.out (by unfold chB; rw [hl]; rfl)
        go_wp2_with (first
          | (go_at_call 44; refine (isLetter_any _ c).mono ?_; rintro e w1 ⟨rfl, rfl⟩)
          | (go_at_call 45; refine (isDigit_any _ c).mono ?_; rintro e w1 ⟨rfl, rfl⟩))
        go_round
        case rel => exact ⟨k + 1, by omega, by go_num, HG⟩
        case measure => simp [intOf]; omega
      | false =>
        by_cases h0 : k = 0
        · have HG : Hid (nameB s = false) := HF.out (by unfold chB; rw [hl, h0]; rfl)
          have h0' : ((k : Int) == 0) = true := by rw [h0]; rfl
          clear h0
          go_wp2_with (first
              | (go_at_call 44; refine (isLetter_any _ c).mono ?_; rintro e w1 ⟨rfl, rfl⟩)
              | (go_at_call 45; refine (isDigit_any _ c).mono ?_; rintro e w1 ⟨rfl, rfl⟩))
          go_ret
          exact ⟨by rw [HG.out]; rfl, rfl⟩
        · have h0' : ((k : Int) == 0) = false := by simp; omega
          cases hd : digB c with
          | true =>
            have HG : Hid (goodN s (k + 1) = true) := HT.out (by unfold chB; rw [hl, hd]; simp [h0])
            clear h0
            go_wp2_with (first
              | (go_at_call 44; refine (isLetter_any _ c).mono ?_; rintro e w1 ⟨rfl, rfl⟩)
              | (go_at_call 45; refine (isDigit_any _ c).mono ?_; rintro e w1 ⟨rfl, rfl⟩))
            go_round
            case rel => exact ⟨k + 1, by omega, by go_num, HG⟩
            case measure => simp [intOf]; omega
          | false =>
            by_cases h95 : c = 95
            · have HG : Hid (goodN s (k + 1) = true) := HT.out (by unfold chB; rw [hl, hd]; simp [h0, h95])
              have h95' : (c != 95) = false := by simp [h95]
              clear h0 h95
              go_wp2_with (first
              | (go_at_call 44; refine (isLetter_any _ c).mono ?_; rintro e w1 ⟨rfl, rfl⟩)
              | (go_at_call 45; refine (isDigit_any _ c).mono ?_; rintro e w1 ⟨rfl, rfl⟩))
              go_round
              case rel => exact ⟨k + 1, by omega, by go_num, HG⟩
              case measure => simp [intOf]; omega
            · have HG : Hid (nameB s = false) := HF.out (by unfold chB; rw [hl, hd]; simp [h95])
              have h95' : (c != 95) = true := by simpa using h95
              clear h0 h95
              go_wp2_with (first
              | (go_at_call 44; refine (isLetter_any _ c).mono ?_; rintro e w1 ⟨rfl, rfl⟩)
              | (go_at_call 45; refine (isDigit_any _ c).mono ?_; rintro e w1 ⟨rfl, rfl⟩))
              go_ret
              exact ⟨by rw [HG.out]; rfl, rfl⟩
    · obtain rfl : k = s.size := by omega
      have hN : nameB s = (decide (0 < s.size) && decide (s.size ≤ 31)) := by unfold nameB; rw [HA.out, Bool.and_true]
      by_cases h1 : 0 < s.size
      · have h1' : (0 : Int) < (s.size : Int) := by omega
        by_cases h2 : s.size ≤ 31
        · have h2' : (s.size : Int) ≤ 31 := by omega
          have HG : Hid (nameB s = true) := by show nameB s = true; rw [hN, decide_eq_true h1, decide_eq_true h2]; rfl
          clear hN
          go_wp2
          go_ret
          exact ⟨by rw [HG.out]; rfl, rfl⟩
        · have h2' : ¬ (s.size : Int) ≤ 31 := by omega
          have h2'' : decide ((s.size : Int) ≤ 31) = false := by simpa using h2'
          have HG : Hid (nameB s = false) := by show nameB s = false; rw [hN, decide_eq_false h2, Bool.and_false]
          clear hN
          go_wp2
          go_ret
          exact ⟨by rw [HG.out]; rfl, rfl⟩
      · have h1' : ¬ (0 : Int) < (s.size : Int) := by omega
        have h1'' : decide ((0 : Int) < (s.size : Int)) = false := by simpa using h1'
        have HG : Hid (nameB s = false) := by show nameB s = false; rw [hN, decide_eq_false h1, Bool.false_and]
        clear hN
        go_wp2
        go_ret
        exact ⟨by rw [HG.out]; rfl, rfl⟩
end Go.Proofs.YtcaibgbhebldmaaGreat
