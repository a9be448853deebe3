import Derived.Test.YtglodmmmcdjgcaaJ14
import Derived.Test.YtglodmmmcdjgcaaJ15
import Derived.Test.YtglodmmmcdjgcaaJ16
import Derived.Test.YtglodmmmcdjgcaaJ17
import Derived.Test.YtglodmmmcdjgcaaJ11
import Derived.Laws.CopyRow
import Derived.Laws.Cover3
import Derived.Test.YtglodmmmcdjgcaaJ03
/-
  THE WALKS OF THE DOCUMENT's count, set, Encode.
-/
namespace Go.Proofs.Ytglodmmmcdjgcaa.Kk
open Go.RowKit Go.Sort

/-- bytes of the call's own, grown -/
structure OE (w W : World) (v : Value) (L : List Nat) : Prop where
  own : OwnB W w.heap.size v L
  bel : Below w.heap.size w W
theorem OE.kept {w W W' : World} {v : Value} {L : List Nat} (h : OE w W v L) (hb : Below W.heap.size W W') : OE w W' v L := ⟨h.own.kept hb, h.bel.trans (hb.mono h.bel.size)⟩
theorem OE.put {w W W' : World} {v v' : Value} {L L' : List Nat} (h : OE w W v L) (ho : OwnB W' w.heap.size v' L') (hg : W.grownBy W' v.ownBlock) : OE w W' v' L' :=
  ⟨ho, h.bel.trans (grown_below hg (fun q hq => (h.own.2.lt q hq).1) h.bel.size)⟩
theorem uint_len (f n : Nat) : (uint f n).length ≤ f + 1 := by
  induction f generalizing n with
  | zero => simp [uint]
  | succ f ih =>
    unfold uint
    split
    · have := ih (n / 128)
      simp
      omega
    · simp
theorem take_flat {α β : Type} (f : α → List β) (L : List α) (k : Nat) (x : α) (h : L[k]? = some x) : (L.take (k + 1)).flatMap f = (L.take k).flatMap f ++ f x := by
  obtain ⟨h1, h2⟩ := List.getElem?_eq_some_iff.1 h
  rw [List.take_succ_eq_append_getElem h1, h2]
  simp

theorem setN_len (L : List K) : (setN L).length ≤ 11 + 10 * L.length := by
  have h1 := uint_len 10 L.length
  have h2 : (L.flatMap keyBytes).length = 10 * L.length := by
    induction L with
    | nil => rfl
    | cons x M ih => simp only [List.flatMap_cons, List.length_append, List.length_cons, ih (uint_len 10 M.length), keyBytes_length]; omega
  unfold setN
  rw [List.length_append, h2]
  omega
theorem ints_len (A : List Int) : (A.flatMap fun x => uint 10 (fold x)).length ≤ 11 * A.length := by
  induction A with
  | nil => simp
  | cons x M ih =>
    have := uint_len 10 (fold x)
    simp only [List.flatMap_cons, List.length_append, List.length_cons]
    omega
theorem txN_len {t : Tp} (h : WF t) : (txN t).length ≤ 1000 := by
  have h1 := uint_len 10 t.proc.toNat
  have h2 := uint_len 10 t.args.length
  have h3 := ints_len t.args
  have h4 := setN_len t.reads
  have h5 := setN_len t.writes
  have a := h.a; have r := h.r; have w := h.w
  simp only [txN, argsN, List.length_append]
  omega
theorem txs_len {Ts : List Tp} (h : ∀ t ∈ Ts, WF t) : (Ts.flatMap txN).length ≤ 1000 * Ts.length := by
  induction Ts with
  | nil => simp
  | cons t M ih =>
    have h1 := txN_len (h t (by simp))
    have h2 := ih (fun x hx => h x (by simp [hx]))
    simp only [List.flatMap_cons, List.length_append, List.length_cons]
    omega
/-- what the document's Encode answers -/
def REncPost (w : World) (Ts : List Tp) (e : Ending) (w' : World) : Prop := Below w.heap.size w w' ∧
  (((eachN formN Ts).2 ≠ 0 ∧ e = .returned (.tuple #[.slice none 0 0, .int .i64 (eachN formN Ts).2])) ∨
  ((eachN formN Ts).2 = 0 ∧ ∃ v, e = .returned (.tuple #[v, .int .i64 0]) ∧ OwnB w' w.heap.size v (batN Ts)))
/-- an append of what a call gave -/
theorem wpL_bytes {w W : World} {ops : Array Oper} {rest : List Oper} {o : Oper} {a : Act} {Q : Exit → Act → World → Prop} (hgd : o.guard = none) (s x : Operand)
    (ho : o.op = .call { callee := .builtin .append, args := #[s, x], argTypes := #[50, 50] }) (v u : Value) (L zs : List Nat) (hs : a.eval s = v) (hx : a.eval x = u) (h : OE w W v L) {base : Nat} (hu : OwnB W base u zs) (hl : L.length + zs.length ≤ 1000000)
    (hk : ∀ av lv cv w', OE w w' (.slice av lv cv) (L ++ zs) → wpList Try.prog ops Q rest (a.put o.dst (.slice av lv cv)) w') : wpList Try.prog ops Q (o :: rest) a W := by
  obtain ⟨a2, c2, rfl, hy, hn, _⟩ := hu.slice
  refine wpList_append_bytes hgd s x ho w.heap.size v L hs h.own a2 zs.length c2 zs hx rfl hy hn (by omega) h.bel.size ?_
  intro v' w' ho' hg'
  have h3 := h.put ho' hg'
  obtain ⟨a3, c3, e3, _, _, _⟩ := ho'.slice
  subst e3
  exact hk _ _ _ _ h3

end Go.Proofs.Ytglodmmmcdjgcaa.Kk
/-
  ROWS OF NUMBERS, KEYS AND TRANSACTIONS THAT A CALL HAS MADE.
-/
namespace Go.Proofs.Ytglodmmmcdjgcaa.Kk
open Go.RowKit Go.Sort

/-- what lies from g up to (not with) h may turn; all else stays -/
structure Mid (g h : Nat) (W W' : World) : Prop where
  os : W'.os = W.os
  tape : W'.tape = W.tape
  output : W'.output = W.output
  size : W.heap.size ≤ W'.heap.size
  block : ∀ k, k < W.heap.size → (k < g ∨ h ≤ k) → W'.heap[k]? = W.heap[k]?
theorem Mid.refl (g h : Nat) (W : World) : Mid g h W W := ⟨rfl, rfl, rfl, Nat.le_refl _, fun _ _ _ => rfl⟩
theorem Mid.trans {g h : Nat} {W W1 W2 : World} (a : Mid g h W W1) (b : Mid g h W1 W2) : Mid g h W W2 :=
  ⟨b.os.trans a.os, b.tape.trans a.tape, b.output.trans a.output, Nat.le_trans a.size b.size, fun k hk hg => (b.block k (Nat.lt_of_lt_of_le hk a.size) hg).trans (a.block k hk hg)⟩
theorem Mid.wide {g h g' h' : Nat} {W W1 : World} (a : Mid g h W W1) (h1 : g' ≤ g) (h2 : h ≤ h') : Mid g' h' W W1 :=
  ⟨a.os, a.tape, a.output, a.size, fun k hk hg => a.block k hk (by omega)⟩
theorem Mid.of_below {g h : Nat} {W W1 : World} (a : Below W.heap.size W W1) : Mid g h W W1 := ⟨a.os, a.tape, a.output, a.size, fun k hk _ => a.block k hk⟩
theorem Mid.below {g h : Nat} {W W1 : World} (a : Mid g h W W1) (hg : g ≤ W.heap.size) : Below g W W1 := ⟨a.os, a.tape, a.output, a.size, fun k hk => a.block k (by omega) (.inl hk)⟩
theorem Mid.set {g h : Nat} {W W1 : World} (a : Mid g h W W1) (G i : Nat) (v : Value) (h1 : g ≤ G) (h2 : G < h) : Mid g h W (W1.setCell ⟨G, i, none⟩ v) :=
  ⟨a.os, a.tape, a.output, by simpa using a.size, fun k hk hg => by rw [heap_setCell_other W1 ⟨G, i, none⟩ k v (by simp; omega)]; exact a.block k hk hg⟩
theorem Mid.drew {g h : Nat} {W W1 : World} (a : Mid g h W W1) : Mid g h W W1.drew := ⟨a.os, a.tape, a.output, a.size, a.block⟩
theorem Mid.setRow {g h : Nat} {W W1 : World} (a : Mid g h W W1) (G : Nat) (c : Array Value) (h1 : g ≤ G) (h2 : G < h) : Mid g h W (W1.setRow G c) :=
  ⟨a.os, a.tape, a.output, by simpa [World.setRow] using a.size, fun k hk hg => by
    have : (W1.setRow G c).heap[k]? = W1.heap[k]? := by simp [World.setRow, Array.getElem?_modify, show G ≠ k by omega]
    rw [this]; exact a.block k hk hg⟩

/-- BLOCK g IS A ROW OF int64 -/
def R64 (w : World) (g : Nat) (L : List Int) : Prop := w.heap[g]? = some (.cells (cellsI L) 2 (0, 0))
theorem R64.cell {w : World} {g : Nat} {L : List Int} (h : R64 w g L) (j : Nat) (hj : j < L.length) : w.cell? ⟨g, j, none⟩ = some (.int .i64 (ad L j)) := by
  have := get_cellsI L j hj
  simp [World.cell?, show w.heap[g]? = _ from h, this, ad]
theorem R64.frozen {w : World} {g : Nat} {L : List Int} (h : R64 w g L) (j : Nat) : w.frozen? ⟨g, j, none⟩ = false := frozen_of_row w g j _ _ h
theorem R64.set {w : World} {g : Nat} {L : List Int} (h : R64 w g L) (i : Nat) (z : Int) : R64 (w.setCell ⟨g, i, none⟩ (.int .i64 z)) g (L.set i z) := by
  have := heap_setCell_same w g i _ _ (.int .i64 z) h
  rw [set_cellsI] at this
  exact this
theorem R64.lt {w : World} {g : Nat} {L : List Int} (h : R64 w g L) : g < w.heap.size := (Array.getElem?_eq_some_iff.1 h).1
theorem R64.same {w w1 : World} {g : Nat} {L : List Int} (h : R64 w g L) (hb : w1.heap[g]? = w.heap[g]?) : R64 w1 g L := hb.trans h
theorem R64.setRow {w : World} {g : Nat} {L : List Int} (h : R64 w g L) (M : List Int) : R64 (w.setRow g (cellsI M)) g M := by
  unfold R64 at *
  simp [World.setRow, Array.getElem?_modify, h]
theorem R64.nums {w : World} {g : Nat} {L M : List Int} (h : R64 w g (L ++ M)) : NumsAt w (some ⟨g, 0, none⟩) L := by
  refine .inr ⟨g, 0, rfl, fun j u hu => ?_⟩
  have hj : j < L.length := by have := (List.getElem?_eq_some_iff.1 hu).1; simpa using this
  rw [List.getElem?_map, ad_get hj] at hu
  simp only [Option.map_some, Option.some.injEq] at hu
  subst hu
  rw [Nat.zero_add, h.cell j (by simp; omega)]
  simp [ad, List.getD_eq_getElem?_getD, List.getElem?_append_left hj]
theorem info64 : (Try.prog.info? 2).map (fun i => (i.zero, i.size, i.bytes)) = some (some (.int .i64 0), 1, 8) := by kernel_rfl
/-- make([]int64, n) -/
theorem make_nums (c : Nat) (C : Int) (hC : C = c) (hc : c * 8 ≤ 281474976710656) (u : World) : (Instr.makeSlice 41 (.int .i64 C) (.int .i64 C)).run Try.prog u =
    .ok (.slice (some ⟨u.heap.size, 0, none⟩) c c) (u.alloc (.cells (cellsI (List.replicate c 0)) 2)) := by
  obtain ⟨i0, hi, hz0, hz1, hz2⟩ := info_parts info64
  subst hC
  have h := run_make (P := Try.prog) u 41 2 i0 (.int .i64 0) Try.underlying41 hi hz0 .i64 .i64 (c : Int) (c : Int) (by omega) (Int.le_refl _) (by rw [hz2]; omega) (by omega)
  rw [← made_cellsI]
  simpa [hz1, Value.cells] using h
theorem run_copy_nums (w : World) (ty : TypeId) (g dLen dCap : Nat) (a : Addr) (n c : Nat) (L Z : List Int) (hn : n = L.length) (hz : dLen = Z.length) (hle : n ≤ dLen)
    (hg : R64 w g Z) (hsrc : NumsAt w (some a) L) (M : List Int) (hM : L ++ Z.drop n = M) :
    (Builtin.copy_ #[41, 41] ty #[.slice (some ⟨g, 0, none⟩) dLen dCap, .slice (some a) n c]).run Try.prog w = .ok (goInt n) (w.setRow g (cellsI M)) := by
  subst hM
  have hl := run_loadCells_list (P := Try.prog) w a (L.map iv) (by
    intro j u hu
    rcases hsrc with h0 | ⟨b, off, e, hc⟩
    · simp at h0; subst h0; simp at hu
    · cases e; rw [addr_add]; exact hc j u hu)
  have hst := run_storeCells_at Try.prog g 0 2 (L.map iv) 0 (cellsI Z) w hg (by simp [size_cellsI]; omega) (oneI L)
  obtain ⟨i0, hi, hz0, hz1, hz2⟩ := info_parts info64
  have e1 : (L.map iv).length = n := by simp [hn]
  have e2 : Nat.min n dLen = n := Nat.min_eq_left hle
  rw [e1] at hl hst
  simp only [Nat.add_zero, Nat.zero_add, List.take_zero, List.nil_append] at hst
  have e3 : (List.map iv L ++ List.drop n (cellsI Z).toList).toArray = cellsI (L ++ Z.drop n) := by simp [cellsI, List.map_drop]
  rw [e3] at hst
  simp [Builtin.copy_, run_underlying Try.underlying41, Builtin.lenOf, Builtin.firstCells, sizeOf, typeInfo, hi, hz1, e2, hl, hst]
theorem eqNil64 (ao : Option Addr) (n c : Nat) (w : World) : (binOp .eql 41 (.slice ao n c) (.slice none 0 0)).run Try.prog w = .ok (.bool ao.isNone) w := by
  simp only [binOp]
  simp [run_equal_slice_nil w 41 2 ao n c Try.underlying41]
theorem eqNilK (ao : Option Addr) (n c : Nat) (w : World) : (binOp .eql 30 (.slice ao n c) (.slice none 0 0)).run Try.prog w = .ok (.bool ao.isNone) w := by
  simp only [binOp]
  simp [run_equal_slice_nil w 30 47 ao n c Try.underlying30]
theorem eqNilT (ao : Option Addr) (n c : Nat) (w : World) : (binOp .eql 22 (.slice ao n c) (.slice none 0 0)).run Try.prog w = .ok (.bool ao.isNone) w := by
  simp only [binOp]
  simp [run_equal_slice_nil w 22 43 ao n c Try.underlying22]

/-- BLOCK g IS A ROW OF KEYS -/
def RK (W : World) (g : Nat) (M : List K) : Prop := W.heap[g]? = some (.cells (cks M).toArray 47 (0, 0))
theorem RK.lt {W : World} {g : Nat} {M : List K} (h : RK W g M) : g < W.heap.size := (Array.getElem?_eq_some_iff.1 h).1
theorem RK.same {W W1 : World} {g : Nat} {M : List K} (h : RK W g M) (hb : W1.heap[g]? = W.heap[g]?) : RK W1 g M := hb.trans h
theorem RK.frozen {W : World} {g : Nat} {M : List K} (h : RK W g M) (j : Nat) : W.frozen? ⟨g, j, none⟩ = false := frozen_of_row W g j _ _ h
theorem RK.keys {W : World} {g : Nat} {L R : List K} (h : RK W g (L ++ R)) : KeysAt W (some ⟨g, 0, none⟩) L := by
  refine .inr ⟨g, 0, rfl, fun j u hu => ?_⟩
  have hj := (List.getElem?_eq_some_iff.1 hu).1
  simp only [World.cell?, show W.heap[g]? = _ from h, Nat.zero_add, cks_append]
  simpa [List.getElem?_append_left hj] using hu
theorem RK.cell {W : World} {g : Nat} {M : List K} (h : RK W g M) (j : Nat) (hj : j < M.length) : W.cell? ⟨g, j * 2, none⟩ = some (.int .i64 (kd M j).1) ∧ W.cell? ⟨g, j * 2 + 1, none⟩ = some (.int .i64 (kd M j).2) := by
  have h2 : RK W g (M ++ []) := by rw [List.append_nil]; exact h
  obtain ⟨b, off, e, h1, h2⟩ := h2.keys.get j hj
  cases e
  simp only [Nat.zero_add] at h1 h2
  exact ⟨h1, h2⟩
theorem RK.set {W : World} {g : Nat} {M : List K} (h : RK W g M) (i : Nat) (x y : Int) (hi : i < M.length) : RK ((W.setCell ⟨g, i * 2, none⟩ (.int .i64 x)).setCell ⟨g, i * 2 + 1, none⟩ (.int .i64 y)) g (M.set i (x, y)) := by
  have h1 := heap_setCell_same W g (i * 2) _ _ (.int .i64 x) h
  have h2 := heap_setCell_same _ g (i * 2 + 1) _ _ (.int .i64 y) h1
  have e : ∀ (M : List K) (i : Nat), i < M.length → ((cks M).set (i * 2) (.int .i64 x)).set (i * 2 + 1) (.int .i64 y) = cks (M.set i (x, y)) := by
    intro M
    induction M with
    | nil => intro i h; simp at h
    | cons k M ih =>
      intro i h
      cases i with
      | zero => simp [cks]
      | succ i =>
        have := ih i (by simpa using h)
        rw [show (i + 1) * 2 = i * 2 + 1 + 1 by omega, show i * 2 + 1 + 1 + 1 = (i * 2 + 1) + 1 + 1 by omega]
        simp only [cks, List.set_cons_succ, this]
  unfold RK
  rw [h2, ← e M i hi]
  simp
theorem RK.setRow {W : World} {g : Nat} {M : List K} (h : RK W g M) (L : List K) : RK (W.setRow g (cks L).toArray) g L := by
  unfold RK at *
  simp [World.setRow, Array.getElem?_modify, h]

/-- BLOCK g IS A ROW OF TRANSACTIONS -/
def RT (W : World) (g : Nat) (Qs : List Bx) : Prop := W.heap[g]? = some (.cells (bxcs Qs).toArray 43 (0, 0))
theorem RT.lt {W : World} {g : Nat} {M : List Bx} (h : RT W g M) : g < W.heap.size := (Array.getElem?_eq_some_iff.1 h).1
theorem RT.same {W W1 : World} {g : Nat} {M : List Bx} (h : RT W g M) (hb : W1.heap[g]? = W.heap[g]?) : RT W1 g M := hb.trans h
theorem RT.frozen {W : World} {g : Nat} {M : List Bx} (h : RT W g M) (j : Nat) : W.frozen? ⟨g, j, none⟩ = false := frozen_of_row W g j _ _ h
theorem RT.txs {W : World} {g : Nat} {L R : List Bx} (h : RT W g (L ++ R)) : TxsAt W (some ⟨g, 0, none⟩) L := by
  refine .inr ⟨g, 0, rfl, fun j u hu => ?_⟩
  have hj := (List.getElem?_eq_some_iff.1 hu).1
  simp only [World.cell?, show W.heap[g]? = _ from h, Nat.zero_add, bxcs_append]
  simpa [List.getElem?_append_left hj] using hu
theorem RT.txs0 {W : World} {g : Nat} {L : List Bx} (h : RT W g L) : TxsAt W (some ⟨g, 0, none⟩) L := by
  have h2 : RT W g (L ++ []) := by rw [List.append_nil]; exact h
  exact h2.txs
theorem RT.cell {W : World} {g : Nat} {Bs : List Bx} (h : RT W g Bs) (j : Nat) (hj : j < Bs.length) : W.cell? ⟨g, j * 4, none⟩ = some (.int .i64 (bd Bs j).t.proc) ∧
    W.cell? ⟨g, j * 4 + 1, none⟩ = some (.slice (bd Bs j).aA (bd Bs j).t.args.length (bd Bs j).cA) ∧ W.cell? ⟨g, j * 4 + 2, none⟩ = some (.slice (bd Bs j).aR (bd Bs j).t.reads.length (bd Bs j).cR) ∧ W.cell? ⟨g, j * 4 + 3, none⟩ = some (.slice (bd Bs j).aW (bd Bs j).t.writes.length (bd Bs j).cW) := by
  obtain ⟨b, off, e, h⟩ := h.txs0.get j hj
  cases e
  simpa using h
theorem RT.put {W : World} {g k : Nat} {Qs : List Bx} (h : RT W g Qs) (hk : k < Qs.length) (y : Bx) :
    RT ((((W.setCell ⟨g, k * 4, none⟩ (.int .i64 y.t.proc)).setCell ⟨g, k * 4 + 1, none⟩ (.slice y.aA y.t.args.length y.cA)).setCell ⟨g, k * 4 + 2, none⟩ (.slice y.aR y.t.reads.length y.cR)).setCell ⟨g, k * 4 + 3, none⟩ (.slice y.aW y.t.writes.length y.cW)) g (Qs.set k y) := by
  have h1 := heap_setCell_same W g (k * 4) _ _ (.int .i64 y.t.proc) h
  have h2 := heap_setCell_same _ g (k * 4 + 1) _ _ (.slice y.aA y.t.args.length y.cA) h1
  have h3 := heap_setCell_same _ g (k * 4 + 2) _ _ (.slice y.aR y.t.reads.length y.cR) h2
  have h4 := heap_setCell_same _ g (k * 4 + 3) _ _ (.slice y.aW y.t.writes.length y.cW) h3
  unfold RT
  rw [h4, ← bxcs_set Qs k y hk]
  simp
theorem infoT : (Try.prog.info? 43).map (fun i => (i.zero, i.size, i.bytes)) = some (some (.agg #[.int .i64 0, .slice none 0 0, .slice none 0 0, .slice none 0 0]), 4, 80) := by kernel_rfl
theorem bxcs_zero (c : Nat) : madeCells (Value.agg #[.int .i64 0, .slice none 0 0, .slice none 0 0, .slice none 0 0]).cells (c * 4) = (bxcs (List.replicate c bxD)).toArray := by
  apply Array.ext'
  apply List.ext_getElem?
  intro j
  by_cases hj : j < c * 4
  · obtain ⟨q, i, rfl, hi⟩ : ∃ q i, j = q * 4 + i ∧ i < 4 := ⟨j / 4, j % 4, by omega, Nat.mod_lt _ (by omega)⟩
    have hq : q < c := by omega
    have e : bd (List.replicate c bxD) q = bxD := by simp [bd, List.getD_eq_getElem?_getD, hq]
    rw [show (bxcs (List.replicate c bxD)).toArray.toList = bxcs (List.replicate c bxD) from rfl, bxcs_at _ q i (by simpa using hq) hi, e]
    have hm : (q * 4 + i) % 4 = i := by omega
    obtain rfl | rfl | rfl | rfl : i = 0 ∨ i = 1 ∨ i = 2 ∨ i = 3 := by omega
    · simp only [Nat.add_zero] at hj hm ⊢
      simp [madeCells, Value.cells, hj, hm, bxc, bxD]
    all_goals simp [madeCells, Value.cells, hj, hm, bxc, bxD]
  · rw [show (bxcs (List.replicate c bxD)).toArray.toList = bxcs (List.replicate c bxD) from rfl, List.getElem?_eq_none (by simp [madeCells]; omega), List.getElem?_eq_none (by rw [bxcs_length]; simp; omega)]
theorem make_txs (c : Nat) (C : Int) (hC : C = c) (hc : c * 80 ≤ 281474976710656) (u : World) : (Instr.makeSlice 22 (.int .i64 C) (.int .i64 C)).run Try.prog u =
    .ok (.slice (some ⟨u.heap.size, 0, none⟩) c c) (u.alloc (.cells (bxcs (List.replicate c bxD)).toArray 43)) := by
  subst hC
  obtain ⟨i0, hi, hz0, hz1, hz2⟩ := info_parts infoT
  have h := run_make (P := Try.prog) u 22 43 i0 (.agg #[.int .i64 0, .slice none 0 0, .slice none 0 0, .slice none 0 0]) Try.underlying22 hi hz0 .i64 .i64 (c : Int) (c : Int) (by omega) (Int.le_refl _) (by rw [hz2]; omega) (by omega)
  rw [hz1, Int.toNat_natCast, bxcs_zero] at h
  exact h


theorem cks_zero : ∀ c : Nat, cks (List.replicate c (0, 0)) = List.replicate (c * 2) (.int .i64 0)
  | 0 => rfl
  | c + 1 => by
    rw [List.replicate_succ, show (c + 1) * 2 = c * 2 + 1 + 1 by omega, List.replicate_succ, List.replicate_succ]
    simp only [cks, cks_zero c]
theorem toList_madeCells_two (z : Value) (n : Nat) : (madeCells #[z, z] n).toList = List.replicate n z := by
  apply List.ext_getElem?
  intro j
  by_cases hj : j < n
  · rcases Nat.mod_two_eq_zero_or_one j with h | h <;> simp [madeCells, hj, h]
  · simp [madeCells, hj]
theorem make_keys (c : Nat) (C : Int) (hC : C = c) (hc : c * 16 ≤ 281474976710656) (u : World) : (Instr.makeSlice 30 (.int .i64 C) (.int .i64 C)).run Try.prog u =
    .ok (.slice (some ⟨u.heap.size, 0, none⟩) c c) (u.alloc (.cells (cks (List.replicate c (0, 0))).toArray 47)) := by
  subst hC
  obtain ⟨i0, hi, hz0, hz1, hz2⟩ := info_parts infoK
  have h := run_make (P := Try.prog) u 30 47 i0 (.agg #[.int .i64 0, .int .i64 0]) Try.underlying30 hi hz0 .i64 .i64 (c : Int) (c : Int) (by omega) (Int.le_refl _) (by rw [hz2]; omega) (by omega)
  have e : madeCells (Value.agg #[.int .i64 0, .int .i64 0]).cells (c * 2) = (cks (List.replicate c (0, 0))).toArray := by
    apply Array.ext'
    rw [cks_zero]
    exact toList_madeCells_two _ _
  rw [hz1, Int.toNat_natCast, e] at h
  exact h
theorem cks_drop : ∀ (n : Nat) (Z : List K), (cks Z).drop (n * 2) = cks (Z.drop n)
  | 0, Z => by simp
  | n + 1, [] => by simp [cks]
  | n + 1, z :: Z => by
    rw [show (n + 1) * 2 = n * 2 + 1 + 1 by omega]
    simp only [cks, List.drop_succ_cons, cks_drop n Z]
theorem run_copy_keys (w : World) (ty : TypeId) (g dLen dCap : Nat) (a : Addr) (n c : Nat) (L Z : List K) (hn : n = L.length) (hz : dLen = Z.length) (hle : n ≤ dLen)
    (hg : w.heap[g]? = some (.cells (cks Z).toArray 47 (0, 0))) (hsrc : KeysAt w (some a) L) (M : List K) (hM : L ++ Z.drop n = M) :
    (Builtin.copy_ #[30, 30] ty #[.slice (some ⟨g, 0, none⟩) dLen dCap, .slice (some a) n c]).run Try.prog w = .ok (goInt n) (w.setRow g (cks M).toArray) := by
  subst hM
  have hl := run_loadCells_list (P := Try.prog) w a (cks L) (by
    intro j u hu
    rcases hsrc with h0 | ⟨b, off, e, hc⟩
    · subst h0; simp [cks] at hu
    · cases e; rw [addr_add]; exact hc j u hu)
  have hst := run_storeCells_at Try.prog g 0 47 (cks L) 0 (cks Z).toArray w hg (by simp [cks_length]; omega) (cks_one L)
  obtain ⟨i0, hi, hz0, hz1, hz2⟩ := info_parts infoK
  have e1 : (cks L).length = n * 2 := by rw [cks_length, hn]
  have e2 : Nat.min n dLen = n := Nat.min_eq_left hle
  rw [e1] at hl hst
  simp only [Nat.add_zero, Nat.zero_add, List.take_zero, List.nil_append, cks_drop, ← cks_append] at hst
  simp [Builtin.copy_, run_underlying Try.underlying30, Builtin.lenOf, Builtin.firstCells, sizeOf, typeInfo, hi, hz1, e2, hl, hst]

end Go.Proofs.Ytglodmmmcdjgcaa.Kk
/-
  ROWS OF TRANSACTIONS AND OF NUMBERS OF THE CALL'S OWN; append.
-/
namespace Go.Proofs.Ytglodmmmcdjgcaa.Kk
open Go.RowKit Go.Sort

theorem bxcs_one (Ps : List Bx) : ∀ v ∈ bxcs Ps, v.oneCell' = true := by
  induction Ps with
  | nil => simp [bxcs]
  | cons x Ps ih =>
    intro v hv
    rcases List.mem_append.1 (show v ∈ bxc x ++ bxcs Ps from hv) with h | h
    · simp only [bxc, List.mem_cons, List.not_mem_nil, or_false] at h
      rcases h with rfl | rfl | rfl | rfl <;> rfl
    · exact ih v h
def OwnT (w : World) (base : Nat) (v : Value) (Ps : List Bx) : Prop := w.ownsRow base 43 4 v Ps.length (bxcs Ps)
theorem OwnT.nil (w : World) (base : Nat) : OwnT w base (.slice none 0 0) [] := World.ownsRow_nil _ _ _ _
theorem OwnT.shape {w : World} {base : Nat} {v : Value} {Ps : List Bx} (h : OwnT w base v Ps) :
    (v = .slice none 0 0 ∧ Ps = []) ∨ ∃ g cap, v = .slice (some ⟨g, 0, none⟩) Ps.length cap ∧ base ≤ g ∧ g < w.heap.size ∧ Ps.length ≤ cap ∧ cap ≤ maxLen ∧ TxsAt w (some ⟨g, 0, none⟩) Ps := by
  obtain ⟨hl, h⟩ := h
  rcases h with ⟨rfl, h0⟩ | ⟨g, cap, cur, rfl, hb, hg, hn, hm, hs, ht⟩
  · exact .inl ⟨rfl, List.eq_nil_of_length_eq_zero h0⟩
  · refine .inr ⟨g, cap, rfl, hb, (Array.getElem?_eq_some_iff.1 hg).1, hn, hm, .inr ⟨g, 0, rfl, fun j u hu => ?_⟩⟩
    have hj : j < Ps.length * 4 := by rw [← bxcs_length]; exact (List.getElem?_eq_some_iff.1 hu).1
    have e := World.ownsRow.cellAt (w := w) (base := base) (e := 43) (size := 4) (g := g) (cap := cap) ⟨hl, .inr ⟨g, cap, cur, rfl, hb, hg, hn, hm, hs, ht⟩⟩ j hj
    rw [Nat.zero_add, e, hu]
theorem OwnT.slice {w : World} {base : Nat} {v : Value} {Ps : List Bx} (h : OwnT w base v Ps) : ∃ ao cap, v = .slice ao Ps.length cap ∧ TxsAt w ao Ps ∧ (ao = none → cap = 0) ∧ Ps.length ≤ cap := by
  rcases h.shape with ⟨rfl, rfl⟩ | ⟨g, cap, rfl, _, _, hc, _, hb⟩
  · exact ⟨none, 0, rfl, .inl rfl, fun _ => rfl, by simp⟩
  · exact ⟨_, cap, rfl, hb, by simp, hc⟩
theorem OwnT.alloc {w : World} {base : Nat} {v : Value} {Ps : List Bx} (h : OwnT w base v Ps) (o : Obj) : OwnT (w.alloc o) base v Ps := World.ownsRow.alloc h o
theorem OwnT.mono {w : World} {base base' : Nat} {v : Value} {Ps : List Bx} (h : OwnT w base v Ps) (hb : base' ≤ base) : OwnT w base' v Ps := by
  obtain ⟨hl, h⟩ := h
  refine ⟨hl, ?_⟩
  rcases h with h | ⟨g, cap, cur, e, hg, r⟩
  · exact .inl h
  · exact .inr ⟨g, cap, cur, e, by omega, r⟩
theorem OwnT.lt {w : World} {base : Nat} {v : Value} {Ps : List Bx} (h : OwnT w base v Ps) : ∀ k, v.ownBlock = some k → base ≤ k ∧ k < w.heap.size := World.ownsRow.lt h
theorem OwnT.same {w w1 : World} {base : Nat} {v : Value} {Ps : List Bx} (h : OwnT w base v Ps) (hs : ∀ g, v.ownBlock = some g → w1.heap[g]? = w.heap[g]?) : OwnT w1 base v Ps := by
  obtain ⟨hl, h⟩ := h
  refine ⟨hl, ?_⟩
  rcases h with h | ⟨g, cap, cur, rfl, hg, hh, r⟩
  · exact .inl h
  · exact .inr ⟨g, cap, cur, rfl, hg, (hs g rfl).trans hh, r⟩
theorem OwnT.kept {w w1 : World} {base : Nat} {v : Value} {Ps : List Bx} (h : OwnT w base v Ps) (hb : Below w.heap.size w w1) : OwnT w1 base v Ps :=
  h.same fun g hg => hb.block g (h.lt g hg).2
theorem run_append_txs {w : World} (ty : TypeId) (base : Nat) (v : Value) (Ps : List Bx) (hown : OwnT w base v Ps)
    (ad : Addr) (m c : Nat) (Qs : List Bx) (hm : m = Qs.length) (hsrc : ∀ j u, (bxcs Qs)[j]? = some u → w.cell? (ad.add j) = some u) (hlen : (Ps.length + Qs.length) * 80 ≤ 140737488355328) (hbase : base ≤ w.heap.size) :
    ∃ v' w', (Builtin.append_ #[22, 22] ty #[v, .slice (some ad) m c]).run Try.prog w = .ok v' w' ∧ OwnT w' base v' (Ps ++ Qs) ∧ w.grownBy w' v.ownBlock ∧ (v'.ownBlock = v.ownBlock ∨ v'.ownBlock = some w.heap.size) := by
  obtain ⟨i0, hi, hz0, hz1, hz2⟩ := info_parts infoT
  subst hm
  obtain ⟨v', w', hr, h2, h3, _, h5⟩ := run_append_own_at (P := Try.prog) w base 22 ty 43 i0 (.agg #[.int .i64 0, .slice none 0 0, .slice none 0 0, .slice none 0 0]) 4 80 Try.underlying22 hi hz0 hz1 hz2 rfl (by decide) v Ps.length (bxcs Ps) hown ad Qs.length c (bxcs Qs) (bxcs_length Qs)
      hsrc (bxcs_one Qs) (by unfold maxLen; omega) hlen hbase
  exact ⟨v', w', hr, by unfold OwnT; rw [List.length_append, bxcs_append]; exact h2, h3, h5⟩
theorem wpList_append_txs {w : World} {ops : Array Oper} {rest : List Oper} {o : Oper} {a : Act} {Q : Exit → Act → World → Prop} (hgd : o.guard = none) (s x : Operand)
    (ho : o.op = .call { callee := .builtin .append, args := #[s, x], argTypes := #[22, 22] }) (base : Nat) (v : Value) (Ps : List Bx) (hs : a.eval s = v) (hown : OwnT w base v Ps)
    (ad : Addr) (m c : Nat) (Qs : List Bx) (hx : a.eval x = .slice (some ad) m c) (hm : m = Qs.length) (hsrc : ∀ j u, (bxcs Qs)[j]? = some u → w.cell? (ad.add j) = some u) (hlen : (Ps.length + Qs.length) * 80 ≤ 140737488355328) (hbase : base ≤ w.heap.size)
    (h : ∀ v' w', OwnT w' base v' (Ps ++ Qs) → w.grownBy w' v.ownBlock → (v'.ownBlock = v.ownBlock ∨ v'.ownBlock = some w.heap.size) → wpList Try.prog ops Q rest (a.put o.dst v') w') : wpList Try.prog ops Q (o :: rest) a w := by
  obtain ⟨v', w', hr, h2, h3, h4⟩ := run_append_txs o.type base v Ps hown ad m c Qs hm hsrc hlen hbase
  refine wpList_plain hgd fun K hK' => ?_
  unfold Oper.wp
  simp [execOp, ho, resolve, invoke, builtin, hs, hx, hr, Result.andThen]
  exact hK' _ _ (h v' w' h2 h3 h4)
theorem step_append_txs {w : World} {ops : Array Oper} {o : Oper} {a : Act} {K' : Act → World → Prop} {Q : Exit → Act → World → Prop} {E : Prop} (hgd : o.guard = none) (s x : Operand)
    (ho : o.op = .call { callee := .builtin .append, args := #[s, x], argTypes := #[22, 22] }) (base : Nat) (v : Value) (Ps : List Bx) (hs : a.eval s = v) (hown : OwnT w base v Ps)
    (ad : Addr) (m c : Nat) (Qs : List Bx) (hx : a.eval x = .slice (some ad) m c) (hm : m = Qs.length) (hsrc : ∀ j u, (bxcs Qs)[j]? = some u → w.cell? (ad.add j) = some u) (hlen : (Ps.length + Qs.length) * 80 ≤ 140737488355328) (hbase : base ≤ w.heap.size)
    (h : ∀ v' w', OwnT w' base v' (Ps ++ Qs) → w.grownBy w' v.ownBlock → (v'.ownBlock = v.ownBlock ∨ v'.ownBlock = some w.heap.size) → K' (a.put o.dst v') w') :
    if Region.wanted o (yielded ops a.tmps) = true then Oper.wp Try.prog o a w K' Q else E := by
  have hw : Region.wanted o (yielded ops a.tmps) = true := by simp [Region.wanted, hgd]
  rw [if_pos hw]
  obtain ⟨v', w', hr, h2, h3, h4⟩ := run_append_txs o.type base v Ps hown ad m c Qs hm hsrc hlen hbase
  unfold Oper.wp execOp
  simp only [ho, resolve, invoke, builtin, Sem.run_bind, Sem.run_pure, Result.andThen_ok, List.map_toArray, List.map_cons, List.map_nil, hs, hx, hr]
  exact h v' w' h2 h3 h4
/-- one transaction, laid for an append -/
theorem tx_src (w : World) (B : Nat) (x : Bx) (hB : B = w.heap.size) : ∀ j u, (bxcs [x])[j]? = some u → (w.alloc (.cells #[.int .i64 x.t.proc, .slice x.aA x.t.args.length x.cA, .slice x.aR x.t.reads.length x.cR, .slice x.aW x.t.writes.length x.cW] 43)).cell? ((⟨B, 0, none⟩ : Addr).add j) = some u := by
  subst hB
  intro j u hu
  rw [addr_add, Nat.zero_add]
  have hb : (w.alloc (.cells #[.int .i64 x.t.proc, .slice x.aA x.t.args.length x.cA, .slice x.aR x.t.reads.length x.cR, .slice x.aW x.t.writes.length x.cW] 43)).heap[w.heap.size]? = some (.cells #[.int .i64 x.t.proc, .slice x.aA x.t.args.length x.cA, .slice x.aR x.t.reads.length x.cR, .slice x.aW x.t.writes.length x.cW] 43 (0, 0)) := heap_alloc_new _ _ rfl
  simp only [World.cell?, hb]
  have e : bxcs [x] = [.int .i64 x.t.proc, .slice x.aA x.t.args.length x.cA, .slice x.aR x.t.reads.length x.cR, .slice x.aW x.t.writes.length x.cW] := by simp [bxcs, bxc]
  rw [e] at hu
  simpa using hu
/-- numbers -/
def OwnN (w : World) (base : Nat) (v : Value) (L : List Int) : Prop := w.ownsRow base 2 1 v L.length (L.map iv)
theorem OwnN.nil (w : World) (base : Nat) : OwnN w base (.slice none 0 0) [] := World.ownsRow_nil _ _ _ _
theorem OwnN.shape {w : World} {base : Nat} {v : Value} {L : List Int} (h : OwnN w base v L) :
    (v = .slice none 0 0 ∧ L = []) ∨ ∃ g cap, v = .slice (some ⟨g, 0, none⟩) L.length cap ∧ base ≤ g ∧ g < w.heap.size ∧ L.length ≤ cap ∧ cap ≤ maxLen ∧ NumsAt w (some ⟨g, 0, none⟩) L := by
  obtain ⟨hl, h⟩ := h
  rcases h with ⟨rfl, h0⟩ | ⟨g, cap, cur, rfl, hb, hg, hn, hm, hs, ht⟩
  · exact .inl ⟨rfl, List.eq_nil_of_length_eq_zero h0⟩
  · refine .inr ⟨g, cap, rfl, hb, (Array.getElem?_eq_some_iff.1 hg).1, hn, hm, .inr ⟨g, 0, rfl, fun j u hu => ?_⟩⟩
    have hj : j < L.length * 1 := by have := (List.getElem?_eq_some_iff.1 hu).1; simpa using this
    have e := World.ownsRow.cellAt (w := w) (base := base) (e := 2) (size := 1) (g := g) (cap := cap) ⟨hl, .inr ⟨g, cap, cur, rfl, hb, hg, hn, hm, hs, ht⟩⟩ j hj
    rw [Nat.zero_add, e, hu]
theorem OwnN.slice {w : World} {base : Nat} {v : Value} {L : List Int} (h : OwnN w base v L) : ∃ ao cap, v = .slice ao L.length cap ∧ NumsAt w ao L ∧ (ao = none → cap = 0) ∧ L.length ≤ cap := by
  rcases h.shape with ⟨rfl, rfl⟩ | ⟨g, cap, rfl, _, _, hc, _, hb⟩
  · exact ⟨none, 0, rfl, .inl rfl, fun _ => rfl, by simp⟩
  · exact ⟨_, cap, rfl, hb, by simp, hc⟩
theorem OwnN.alloc {w : World} {base : Nat} {v : Value} {L : List Int} (h : OwnN w base v L) (o : Obj) : OwnN (w.alloc o) base v L := World.ownsRow.alloc h o
theorem OwnN.drewN {w : World} {base : Nat} {v : Value} {L : List Int} (h : OwnN w base v L) (n : Nat) : OwnN (w.drewN n) base v L := h
theorem OwnN.mono {w : World} {base base' : Nat} {v : Value} {L : List Int} (h : OwnN w base v L) (hb : base' ≤ base) : OwnN w base' v L := by
  obtain ⟨hl, h⟩ := h
  refine ⟨hl, ?_⟩
  rcases h with h | ⟨g, cap, cur, e, hg, r⟩
  · exact .inl h
  · exact .inr ⟨g, cap, cur, e, by omega, r⟩
theorem OwnN.lt {w : World} {base : Nat} {v : Value} {L : List Int} (h : OwnN w base v L) : ∀ k, v.ownBlock = some k → base ≤ k ∧ k < w.heap.size := World.ownsRow.lt h
theorem OwnN.same {w w1 : World} {base : Nat} {v : Value} {L : List Int} (h : OwnN w base v L) (hs : ∀ g, v.ownBlock = some g → w1.heap[g]? = w.heap[g]?) : OwnN w1 base v L := by
  obtain ⟨hl, h⟩ := h
  refine ⟨hl, ?_⟩
  rcases h with h | ⟨g, cap, cur, rfl, hg, hh, r⟩
  · exact .inl h
  · exact .inr ⟨g, cap, cur, rfl, hg, (hs g rfl).trans hh, r⟩
theorem OwnN.kept {w w1 : World} {base : Nat} {v : Value} {L : List Int} (h : OwnN w base v L) (hb : Below w.heap.size w w1) : OwnN w1 base v L :=
  h.same fun g hg => hb.block g (h.lt g hg).2

/-- append of one number -/
theorem run_append_num {w : World} (ty : TypeId) (base : Nat) (v : Value) (L : List Int) (hown : OwnN w base v L) (B : Nat) (x : Int) (hB : w.cell? ⟨B, 0, none⟩ = some (.int .i64 x)) (hlen : L.length + 1 ≤ 1000000) (hbase : base ≤ w.heap.size) :
    ∃ v' w', (Builtin.append_ #[41, 41] ty #[v, .slice (some ⟨B, 0, none⟩) 1 1]).run Try.prog w = .ok v' w' ∧ OwnN w' base v' (L ++ [x]) ∧ w.grownBy w' v.ownBlock ∧ (v'.ownBlock = v.ownBlock ∨ v'.ownBlock = some w.heap.size) := by
  obtain ⟨i0, hi, hz0, hz1, hz2⟩ := info_parts info64
  obtain ⟨v', w', hr, h2, h3, _, h5⟩ := run_append_own_at (P := Try.prog) w base 41 ty 2 i0 (.int .i64 0) 1 8 Try.underlying41 hi hz0 hz1 hz2 rfl (by decide) v L.length (L.map iv) hown ⟨B, 0, none⟩ 1 1 [.int .i64 x] (by simp)
    (by
      intro j u hu
      match j, hu with
      | 0, hu => simp at hu; rw [addr_add, ← hu]; exact hB
      | j + 1, hu => simp at hu) (by intro u hu; simp at hu; rw [hu]; rfl) (by unfold maxLen; omega) (by omega) hbase
  refine ⟨v', w', hr, ?_, h3, h5⟩
  unfold OwnN
  rw [List.length_append, List.map_append]
  exact h2
theorem wpList_append_num {w : World} {ops : Array Oper} {rest : List Oper} {o : Oper} {a : Act} {Q : Exit → Act → World → Prop} (hgd : o.guard = none) (s x : Operand)
    (ho : o.op = .call { callee := .builtin .append, args := #[s, x], argTypes := #[41, 41] }) (base : Nat) (v : Value) (L : List Int) (hs : a.eval s = v) (hown : OwnN w base v L)
    (B : Nat) (z : Int) (hx : a.eval x = .slice (some ⟨B, 0, none⟩) 1 1) (hB : w.cell? ⟨B, 0, none⟩ = some (.int .i64 z)) (hlen : L.length + 1 ≤ 1000000) (hbase : base ≤ w.heap.size)
    (h : ∀ v' w', OwnN w' base v' (L ++ [z]) → w.grownBy w' v.ownBlock → (v'.ownBlock = v.ownBlock ∨ v'.ownBlock = some w.heap.size) → wpList Try.prog ops Q rest (a.put o.dst v') w') : wpList Try.prog ops Q (o :: rest) a w := by
  obtain ⟨v', w', hr, h2, h3, h4⟩ := run_append_num o.type base v L hown B z hB hlen hbase
  refine wpList_plain hgd fun K hK' => ?_
  unfold Oper.wp
  simp [execOp, ho, resolve, invoke, builtin, hs, hx, hr, Result.andThen]
  exact hK' _ _ (h v' w' h2 h3 h4)

theorem step_append_num {w : World} {ops : Array Oper} {o : Oper} {a : Act} {K' : Act → World → Prop} {Q : Exit → Act → World → Prop} {E : Prop} (hgd : o.guard = none) (s x : Operand)
    (ho : o.op = .call { callee := .builtin .append, args := #[s, x], argTypes := #[41, 41] }) (base : Nat) (v : Value) (L : List Int) (hs : a.eval s = v) (hown : OwnN w base v L)
    (B : Nat) (z : Int) (hx : a.eval x = .slice (some ⟨B, 0, none⟩) 1 1) (hB : w.cell? ⟨B, 0, none⟩ = some (.int .i64 z)) (hlen : L.length + 1 ≤ 1000000) (hbase : base ≤ w.heap.size)
    (h : ∀ v' w', OwnN w' base v' (L ++ [z]) → w.grownBy w' v.ownBlock → (v'.ownBlock = v.ownBlock ∨ v'.ownBlock = some w.heap.size) → K' (a.put o.dst v') w') :
    if Region.wanted o (yielded ops a.tmps) = true then Oper.wp Try.prog o a w K' Q else E := by
  have hw : Region.wanted o (yielded ops a.tmps) = true := by simp [Region.wanted, hgd]
  rw [if_pos hw]
  obtain ⟨v', w', hr, h2, h3, h4⟩ := run_append_num o.type base v L hown B z hB hlen hbase
  unfold Oper.wp execOp
  simp only [ho, resolve, invoke, builtin, Sem.run_bind, Sem.run_pure, Result.andThen_ok, List.map_toArray, List.map_cons, List.map_nil, hs, hx, hr]
  exact h v' w' h2 h3 h4
end Go.Proofs.Ytglodmmmcdjgcaa.Kk
