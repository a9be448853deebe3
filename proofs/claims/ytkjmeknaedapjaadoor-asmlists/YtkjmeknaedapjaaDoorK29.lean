import Derived.Test.YtkjmeknaedapjaaDoorK19
import Derived.Lib.AppendStr
import Derived.Test.YtkjmeknaedapjaaDoorK18
import Derived.Test.YtkjmeknaedapjaaDoorK28
import Derived.Test.YtkjmeknaedapjaaDoorK20
/-
  append OF A TEXT TO BYTES OF THE CALL'S OWN.
-/
namespace Go.Proofs.YtkjmeknaedapjaaDoor
open Go.RowKit

theorem strCells_nm (s : ByteArray) : Lib.strCells s = (nmB s).map b8 := by
  simp [Lib.strCells, nmB, b8, List.map_map]
theorem run_append_str {w : World} (ty : TypeId) (base : Nat) (v : Value) (L : List Nat) (hown : OwnB w base v L) (s : ByteArray) (hlen : L.length + s.size ≤ 140737488355328) (hbase : base ≤ w.heap.size) :
    ∃ v' w', (Builtin.append_ #[23, 9] ty #[v, .string s]).run Tryd.prog w = .ok v' w' ∧ OwnB w' base v' (L ++ nmB s) ∧ w.grownBy w' v.ownBlock := by
  obtain ⟨i0, hi, hz0, hz1, hz2⟩ := info_parts info8
  obtain ⟨v', w', hr, h2, h3, _⟩ := Lib.run_append_own_string (P := Tryd.prog) w base 23 9 ty 5 i0 Tryd.underlying23 Tryd.underlying9 hi hz0 hz1 hz2 v L.length (L.map b8) hown.2 s (by unfold maxLen; omega) hlen hbase
  refine ⟨v', w', hr, ⟨fun z hz => ?_, ?_⟩, h3⟩
  · rcases List.mem_append.1 hz with h1 | h1
    · exact hown.1 z h1
    · exact nmB_lt s z h1
  · rw [List.length_append, nmB_length, List.map_append, ← strCells_nm]; exact h2
theorem wpList_append_str {w : World} {ops : Array Oper} {rest : List Oper} {o : Oper} {a : Act} {Q : Exit → Act → World → Prop} (hgd : o.guard = none) (sl x : Operand)
    (ho : o.op = .call { callee := .builtin .append, args := #[sl, x], argTypes := #[23, 9] }) (base : Nat) (v : Value) (L : List Nat) (hs : a.eval sl = v) (hown : OwnB w base v L) (s : ByteArray) (hx : a.eval x = .string s)
    (hlen : L.length + s.size ≤ 140737488355328) (hbase : base ≤ w.heap.size)
    (h : ∀ v' w', OwnB w' base v' (L ++ nmB s) → w.grownBy w' v.ownBlock → wpList Tryd.prog ops Q rest (a.put o.dst v') w') : wpList Tryd.prog ops Q (o :: rest) a w := by
  obtain ⟨v', w', hr, h2, h3⟩ := run_append_str o.type base v L hown s hlen hbase
  refine wpList_plain hgd fun K hK' => ?_
  unfold Oper.wp
  simp [execOp, ho, resolve, invoke, builtin, hs, hx, hr, Result.andThen]
  exact hK' _ _ (h v' w' h2 h3)
end Go.Proofs.YtkjmeknaedapjaaDoor
/-
  THE WALKS OF preluderef01.Uint, Fold, Int.
-/
namespace Go.Proofs.YtkjmeknaedapjaaDoor
open Go.RowKit

/-- append at a slice of bytes of the call's own, as one equation -/
theorem run_append_bytes {w : World} (ty : TypeId) (base : Nat) (v : Value) (L : List Nat) (hown : OwnB w base v L)
    (ao : Option Addr) (m c : Nat) (zs : List Nat) (hm : m = zs.length) (hsrc : BytesAt w ao zs) (hnil : ao = none → c = 0) (hlen : L.length + zs.length ≤ 140737488355328) (hbase : base ≤ w.heap.size) :
    ∃ v' w', (Builtin.append_ #[23, 23] ty #[v, .slice ao m c]).run Tryd.prog w = .ok v' w' ∧ OwnB w' base v' (L ++ zs) ∧ w.grownBy w' v.ownBlock ∧ (v'.ownBlock = v.ownBlock ∨ v'.ownBlock = some w.heap.size) := by
  obtain ⟨i0, hi, hz0, hz1, hz2⟩ := info_parts info8
  subst hm
  have hzz : ∀ z ∈ L ++ zs, z < 256 := by
    intro z hz
    rcases List.mem_append.1 hz with h1 | h1
    · exact hown.1 z h1
    · exact hsrc.1 z h1
  cases ao with
  | none =>
    have h0 : zs = [] := by
      obtain ⟨_, h1 | ⟨b, off, h1, _⟩⟩ := hsrc
      · exact h1
      · cases h1
    subst h0
    obtain rfl := hnil rfl
    exact ⟨v, w, run_append_owned_none (P := Tryd.prog) (w := w) base 23 ty 5 i0 1 Tryd.underlying23 hi v L.length (L.map b8) hown.2, by simpa using hown, World.grownBy.refl _ _, .inl rfl⟩
  | some ad =>
    obtain ⟨v', w', hr, h2, h3, _, h5⟩ := run_append_own_at (P := Tryd.prog) w base 23 ty 5 i0 (.int .u8 0) 1 1 Tryd.underlying23 hi hz0 hz1 hz2 rfl (by decide) v L.length (L.map b8) hown.2 ad zs.length c (zs.map b8) (by simp)
      (by
        intro j u hu
        by_cases h0 : zs = []
        · subst h0; simp at hu
        · obtain ⟨ad', e, hc⟩ := bytes_src hsrc h0
          cases e
          exact hc j u hu) (oneCells zs) (by unfold maxLen; omega) (by omega) hbase
    exact ⟨v', w', hr, ⟨hzz, by rw [List.length_append, List.map_append]; exact h2⟩, h3, h5⟩
/-- at a step of a region that draws -/
theorem step_append_bytes {w : World} {ops : Array Oper} {o : Oper} {a : Act} {K : Act → World → Prop} {Q : Exit → Act → World → Prop} {E : Prop} (hgd : o.guard = none) (s x : Operand)
    (ho : o.op = .call { callee := .builtin .append, args := #[s, x], argTypes := #[23, 23] }) (base : Nat) (v : Value) (L : List Nat) (hs : a.eval s = v) (hown : OwnB w base v L)
    (ao : Option Addr) (m c : Nat) (zs : List Nat) (hx : a.eval x = .slice ao m c) (hm : m = zs.length) (hsrc : BytesAt w ao zs) (hnil : ao = none → c = 0) (hlen : L.length + zs.length ≤ 140737488355328) (hbase : base ≤ w.heap.size)
    (h : ∀ v' w', OwnB w' base v' (L ++ zs) → w.grownBy w' v.ownBlock → (v'.ownBlock = v.ownBlock ∨ v'.ownBlock = some w.heap.size) → K (a.put o.dst v') w') :
    if Region.wanted o (yielded ops a.tmps) = true then Oper.wp Tryd.prog o a w K Q else E := by
  have hw : Region.wanted o (yielded ops a.tmps) = true := by simp [Region.wanted, hgd]
  rw [if_pos hw]
  obtain ⟨v', w', hr, h2, h3, h4⟩ := run_append_bytes o.type base v L hown ao m c zs hm hsrc hnil hlen hbase
  unfold Oper.wp execOp
  simp only [ho, resolve, invoke, builtin, Sem.run_bind, Sem.run_pure, Result.andThen_ok, List.map_toArray, List.map_cons, List.map_nil, hs, hx, hr]
  exact h v' w' h2 h3 h4

theorem below_grown {w w1 : World} {row : Option Nat} {B : Nat} (h : w.grownBy w1 row) (hr : ∀ k, row = some k → B ≤ k) (hB : B ≤ w.heap.size) : Below B w w1 :=
  ⟨h.os, h.tape, h.output, h.size, fun k hk => h.block k (by omega) (fun e => by have := hr k e.symm; omega)⟩

set_option maxHeartbeats 400000 in
theorem refUint_any (w : World) (n : Nat) (hn : n < 18446744073709551616) :
    Calls Tryd.prog 32 #[.int .u64 (n : Int)] w fun e w' => ∃ v, e = .returned v ∧ OwnB w' w.heap.size v (uint 10 n) ∧ Below w.heap.size w w' := by
  go_enter Tryd.func32, Tryd.ntmps32
  go_wp2
  go_loopw [0, 3] (fun x y wr => ∃ (m f : Nat) (M : List Nat) (v1 : Value), x = .int .u64 (m : Int) ∧ y = v1 ∧ m < 2 ^ (7 * f + 1) ∧ f ≤ 9 ∧ M.length + f + 1 ≤ 11 ∧ Hid (M ++ uint (f + 1) m = uint 10 n) ∧ Hid (OwnB wr w.heap.size v1 M) ∧ Hid (Below w.heap.size w wr)) (fun x _ _ => (intOf x).toNat)
  case atStart => exact ⟨n, 9, [], _, rfl, rfl, by omega, by omega, by simp, by simp [Hid], OwnB.nil _ _, Below.refl _ _⟩
  case round =>
    obtain ⟨m, f, M, v1, rfl, rfl, hm, hf, hML, hM, hW, hB⟩ := hrel
    have hml : m < 18446744073709551616 := by
      have : 2 ^ (7 * f + 1) ≤ 2 ^ 64 := Nat.pow_le_pow_right (by omega) (by omega)
      omega
    by_cases hge : 128 ≤ m
    · have hge' : (128 : Int) ≤ (m : Int) := by omega
      obtain ⟨f', rfl⟩ : ∃ f', f = f' + 1 := by
        cases f with
        | zero => simp at hm; omega
        | succ f => exact ⟨f, rfl⟩
      have HM : Hid ((M ++ [m % 128 + 128]) ++ uint (f' + 1) (m / 128) = uint 10 n) := by
        rw [Hid, ← hM.out, List.append_assoc]
        congr 1
        rw [uint_more _ _ hge]; rfl
      have hm7 : m / 128 < 2 ^ (7 * f' + 1) := by
        have e : 2 ^ (7 * (f' + 1) + 1) = 128 * 2 ^ (7 * f' + 1) := by rw [show 7 * (f' + 1) + 1 = 7 + (7 * f' + 1) by omega, Nat.pow_add]
        omega
      obtain ⟨z, hz⟩ : ∃ z : Nat, (m : Int) % 128 + 128 = (z : Int) := ⟨m % 128 + 128, by omega⟩
      have hz256 : z < 256 := by omega
      have HZ : Hid (z = m % 128 + 128) := by rw [Hid]; omega
      go_wp2_with (at_builtin; refine wpList_append_bytes rfl _ _ rfl w.heap.size _ M rfl (hW.out.alloc _) _ _ _ [z] rfl rfl (byte_src _ _ z rfl hz256) (by simp) (by simp; omega) (by have := hB.out.size; simp; omega) ?_; intro v' w1 hown1 hgrow1)
      have HW1 : Hid (OwnB w1 w.heap.size v' (M ++ [m % 128 + 128])) := by rw [← HZ.out]; exact hown1
      have HB1 : Hid (Below w.heap.size w w1) := hB.out.trans (below_grown (grown_alloc w1 hgrow1) (fun k hk => (hW.out.2.lt k hk).1) hB.out.size)
      go_roundw
      case rel => exact ⟨m / 128, f', M ++ [m % 128 + 128], v', by go_num, rfl, hm7, by omega, by simp; omega, HM, HW1, HB1⟩
      case measure => simp [intOf]; omega
    · have hge' : ¬ (128 : Int) ≤ (m : Int) := by omega
      have HM : Hid (M ++ [m] = uint 10 n) := by
        rw [Hid, ← hM.out, uint_last _ _ hge]
      go_wp2_with (at_builtin; refine wpList_append_bytes rfl _ _ rfl w.heap.size _ M rfl (hW.out.alloc _) _ _ _ [m] rfl rfl (byte_src _ _ m rfl (by omega)) (by simp) (by simp; omega) (by have := hB.out.size; simp; omega) ?_; intro v' w1 hown1 hgrow1)
      have HB1 : Hid (Below w.heap.size w w1) := hB.out.trans (below_grown (grown_alloc w1 hgrow1) (fun k hk => (hW.out.2.lt k hk).1) hB.out.size)
      go_ret
      exact ⟨v', rfl, by rw [← HM.out]; exact hown1, HB1.out⟩

theorem refFold_any (w : World) (n : Int) (h0 : -9223372036854775808 ≤ n) (h1 : n ≤ 9223372036854775807) :
    Calls Tryd.prog 83 #[.int .i64 n] w fun e w' => e = .returned (.int .u64 ((fold n : Nat) : Int)) ∧ w' = w := by
  go_enter Tryd.func83, Tryd.ntmps83
  by_cases hn : n < 0
  · have hn' : ¬ 0 ≤ n := by omega
    have hf : 2 * (-1 - n) + 1 = ((fold n : Nat) : Int) := by unfold fold; rw [if_pos hn]; omega
    go_wp2
    go_ret
    exact ⟨rfl, rfl⟩
  · have hn' : 0 ≤ n := by omega
    have hf : 2 * n = ((fold n : Nat) : Int) := by unfold fold; rw [if_neg hn]; omega
    go_wp2
    go_ret
    exact ⟨rfl, rfl⟩

theorem refInt_any (w : World) (n : Int) (h0 : -9223372036854775808 ≤ n) (h1 : n ≤ 9223372036854775807) :
    Calls Tryd.prog 62 #[.int .i64 n] w fun e w' => ∃ v, e = .returned v ∧ OwnB w' w.heap.size v (uint 10 (fold n)) ∧ Below w.heap.size w w' := by
  go_enter Tryd.func62, Tryd.ntmps62
  go_wp2_with fail
  refine (refFold_any w n h0 h1).mono ?_
  rintro e w1 ⟨rfl, rfl⟩
  go_wp2_with fail
  refine (refUint_any w1 (fold n) (fold_lt n h0 h1)).mono ?_
  rintro e w2 ⟨v, rfl, hown, hbel⟩
  go_wp2
  go_ret
  exact ⟨v, rfl, hown, hbel⟩
end Go.Proofs.YtkjmeknaedapjaaDoor
/-
  THE WALK OF landings.
-/
namespace Go.Proofs.YtkjmeknaedapjaaDoor
open Go.RowKit Go.Sort Go.Shelf

def cellsB (L : List Bool) : Array Value := (L.map Value.bool).toArray
theorem infoBl : (Tryd.prog.info? 4).map (fun i => (i.zero, i.size, i.bytes)) = some (some (.bool false), 1, 1) := by kernel_rfl
theorem made_cellsB (n : Nat) : madeCells #[.bool false] n = cellsB (List.replicate n false) := by
  apply Array.ext'
  rw [toList_madeCells_one]
  simp [cellsB]
theorem make_bools (c : Nat) (C : Int) (hC : C = c) (hc : c ≤ 1000000) (u : World) : (Instr.makeSlice 115 (.int .i64 C) (.int .i64 C)).run Tryd.prog u =
    .ok (.slice (some ⟨u.heap.size, 0, none⟩) c c) (u.alloc (.cells (cellsB (List.replicate c false)) 4)) := by
  obtain ⟨i0, hi, hz0, hz1, hz2⟩ := info_parts infoBl
  subst hC
  have h := run_make (P := Tryd.prog) u 115 4 i0 (.bool false) Tryd.underlying115 hi hz0 .i64 .i64 (c : Int) (c : Int) (by omega) (Int.le_refl _) (by rw [hz2]; omega) (by omega)
  rw [← made_cellsB]
  simpa [hz1, Value.cells] using h
/-- BLOCK g IS A ROW OF BOOLS -/
def RowBl (w : World) (g : Nat) (L : List Bool) : Prop := w.heap[g]? = some (.cells (cellsB L) 4 (0, 0))
theorem RowBl.lt {w : World} {g : Nat} {L : List Bool} (h : RowBl w g L) : g < w.heap.size := (Array.getElem?_eq_some_iff.1 h).1
theorem RowBl.cell {w : World} {g : Nat} {L : List Bool} (h : RowBl w g L) {j : Nat} {x : Bool} (hx : L[j]? = some x) : w.cell? ⟨g, j, none⟩ = some (.bool x) := by
  simp [World.cell?, show w.heap[g]? = _ from h, cellsB, hx]
theorem RowBl.frozen {w : World} {g : Nat} {L : List Bool} (h : RowBl w g L) (j : Nat) : w.frozen? ⟨g, j, none⟩ = false := frozen_of_row w g j _ _ h
theorem RowBl.kept {w w1 : World} {g : Nat} {L : List Bool} (h : RowBl w g L) (hb : Below w.heap.size w w1) : RowBl w1 g L := (hb.block g h.lt).trans h
theorem RowBl.set {w : World} {g : Nat} {L : List Bool} (h : RowBl w g L) (i : Nat) (z : Bool) : RowBl (w.setCell ⟨g, i, none⟩ (.bool z)) g (L.set i z) := by
  have := heap_setCell_same w g i _ _ (.bool z) h
  unfold RowBl
  rw [this]
  simp [cellsB, List.map_set]
/-- does one of these go to the place? -/
def lndB (L : List K) (a : Nat) : Bool := L.any fun k => jumpB k.1 && decide (k.2 = (a : Int))
def lndL (L : List K) (n : Nat) : List Bool := (List.range (n + 1)).map (lndB L)
theorem lndL_nil (n : Nat) : lndL [] n = List.replicate (n + 1) false := by
  apply List.ext_getElem?
  intro i
  by_cases hi : i < n + 1
  · simp [lndL, lndB, hi]
  · simp [lndL, hi]
theorem lndL_get {L : List K} {n a : Nat} (h : a ≤ n) : (lndL L n)[a]? = some (lndB L a) := by simp [lndL, show a < n + 1 by omega]
theorem lndL_no {L : List K} {n : Nat} {k : K} (h : jumpB k.1 = false) : lndL (L ++ [k]) n = lndL L n := by
  unfold lndL
  refine List.map_congr_left fun a _ => ?_
  simp [lndB, h]
theorem lndL_yes {L : List K} {n a : Nat} {k : K} (h : jumpB k.1 = true) (ha : k.2 = (a : Int)) : lndL (L ++ [k]) n = (lndL L n).set a true := by
  apply List.ext_getElem?
  intro j
  rw [List.getElem?_set]
  by_cases hj : j < n + 1
  · by_cases e : a = j
    · subst e; simp [lndL, lndB, hj, h, ha]
    · have e' : ¬ (k.2 = (j : Int)) := by rw [ha]; omega
      simp [lndL, lndB, hj, h, e', e]
  · by_cases e : a = j
    · subst e; simp [lndL, hj]
    · simp [lndL, hj, e]

set_option maxRecDepth 100000 in
set_option maxHeartbeats 2000000 in
theorem landings_any (w : World) (ao : Option Addr) (n cap : Nat) (L : List K) (h : KeysAt w ao L) (hn : n = L.length) (hm : n ≤ 256) (hj : ∀ k ∈ L, jumpB k.1 = true → 0 ≤ k.2 ∧ k.2 ≤ (n : Int)) :
    Calls Tryd.prog 70 #[.slice ao n cap] w fun e w' => ∃ g, e = .returned (.slice (some ⟨g, 0, none⟩) (n + 1) (n + 1)) ∧ RowBl w' g (lndL L n) ∧ Below w.heap.size w w' ∧ w.heap.size ≤ g := by
  have H : Hid (KeysAt w ao L) := h
  have HN : Hid (n = L.length) := hn
  have HJ : Hid (∀ k ∈ L, jumpB k.1 = true → 0 ≤ k.2 ∧ k.2 ≤ (n : Int)) := hj
  clear h hn hj
  have hmk := make_bools (n + 1) ((n : Int) + 1) (by omega) (by omega)
  have HR0 : Hid (RowBl (w.alloc (.cells (cellsB (List.replicate (n + 1) false)) 4)) w.heap.size (lndL (L.take 0) n)) := by
    rw [List.take_zero, lndL_nil]; exact heap_alloc_new _ _ rfl
  have HB0 : Hid (Below w.heap.size w (w.alloc (.cells (cellsB (List.replicate (n + 1) false)) 4))) := (Below.refl _ _).alloc (Nat.le_refl _) _
  go_enter Tryd.func70, Tryd.ntmps70
  go_wp2_with fail
  generalize w.alloc (.cells (cellsB (List.replicate (n + 1) false)) 4) = w1 at *
  clear hmk
  go_loopw [12] (fun x wr => ∃ k : Nat, k ≤ n ∧ x = .int .i64 (k : Int) ∧ Hid (RowBl wr w.heap.size (lndL (L.take k) n)) ∧ Hid (Below w.heap.size w wr)) (fun x _ => n - (intOf x).toNat)
  case atStart => exact ⟨0, Nat.zero_le _, rfl, HR0, HB0⟩
  case round =>
    clear HR0 HB0
    obtain ⟨k, hk, rfl, HR, HB⟩ := hrel
    by_cases hlt : k < n
    · have hlt' : k < L.length := by have := HN.out; omega
      obtain ⟨b, off, rfl, c1, c2⟩ := (H.out.kept HB.out).get k hlt'
      have HT : Hid (L.take (k + 1) = L.take k ++ [cd L k]) := take_kd L k hlt'
      have HJk : Hid (jumpB (cd L k).1 = true → 0 ≤ (cd L k).2 ∧ (cd L k).2 ≤ (n : Int)) := HJ.out _ (kd_mem hlt')
      generalize cd L k = kk at *
      obtain ⟨op, A⟩ := kk
      simp only at c1 c2
      have HBl : Hid (Below wr.heap.size wr (wr.alloc (.cells #[.int .i64 op, .int .i64 A] 87))) := (Below.refl _ _).alloc (Nat.le_refl _) _
      have HR1 : Hid (RowBl (wr.alloc (.cells #[.int .i64 op, .int .i64 A] 87)) w.heap.size (lndL (L.take k) n)) := HR.out.kept HBl.out
      have HB1 : Hid (Below w.heap.size w (wr.alloc (.cells #[.int .i64 op, .int .i64 A] 87))) := HB.out.trans (HBl.out.mono HB.out.size)
      have x0 := (Box.new (w := wr) (b := wr.heap.size) (x := op) (y := A) rfl).1
      have x1 := (Box.new (w := wr) (b := wr.heap.size) (x := op) (y := A) rfl).2
      go_wp2_with fail
      generalize wr.alloc (.cells #[.int .i64 op, .int .i64 A] 87) = w2 at *
      refine (isJump_any w2 op).mono ?_
      rintro e w3 ⟨rfl, rfl⟩
      cases hjm : jumpB op with
      | true =>
        obtain ⟨h1, h2⟩ := HJk.out hjm
        obtain ⟨a, rfl⟩ := Int.eq_ofNat_of_zero_le h1
        have han : a ≤ n := by omega
        have f0 := HR1.out.frozen a
        have d0 := HR1.out.cell (lndL_get (L := L.take k) han)
        have HR2 : Hid (RowBl (w3.setCell ⟨w.heap.size, a, none⟩ (.bool true)) w.heap.size (lndL (L.take (k + 1)) n)) := by
          rw [HT.out, lndL_yes (k := (op, (a : Int))) hjm rfl]; exact HR1.out.set a true
        have HB2 : Hid (Below w.heap.size w (w3.setCell ⟨w.heap.size, a, none⟩ (.bool true))) := by
          have hg := grown_setCell w3 ⟨w.heap.size, a, none⟩ (.bool true)
          exact HB1.out.trans (below_grown hg (fun q hq => by cases hq; exact Nat.le_refl _) HB1.out.size)
        clear h1 h2 HR HB HR1 HB1 HJk
        go_wp2
        go_roundw
        case rel => exact ⟨k + 1, by omega, by go_num, HR2, HB2⟩
        case measure => simp [intOf]; omega
      | false =>
        have HR2 : Hid (RowBl w3 w.heap.size (lndL (L.take (k + 1)) n)) := by rw [HT.out, lndL_no (k := (op, A)) hjm]; exact HR1.out
        clear HR HB HR1 HJk
        go_wp2
        go_roundw
        case rel => exact ⟨k + 1, by omega, by go_num, HR2, HB1⟩
        case measure => simp [intOf]; omega
    · obtain rfl : k = n := by omega
      have HR2 : Hid (RowBl wr w.heap.size (lndL L k)) := by have := HR.out; rw [HN.out, List.take_length, ← HN.out] at this; exact this
      clear HR
      go_wp2
      go_ret
      exact ⟨w.heap.size, rfl, HR2.out, HB.out, Nat.le_refl _⟩
end Go.Proofs.YtkjmeknaedapjaaDoor
