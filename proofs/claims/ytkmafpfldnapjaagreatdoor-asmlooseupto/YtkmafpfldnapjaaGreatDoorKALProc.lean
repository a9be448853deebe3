import Derived.Test.YtkmafpfldnapjaaGreatDoorKLEnc
import Derived.RangeFuncNested
import Derived.RangeFuncBound
import Derived.RangeFuncCalls
import Derived.RangeFuncLeaves
import Derived.RangeFuncBox
import Derived.Shelf.Abstract
import Derived.Shelf.RegionOpen
import Derived.WalkKit
import Derived.OwnWalkIn
import Derived.TacticsInMore
import Derived.LoopNIn
import Derived.LoopIn
import Derived.RegionIn
import Derived.Test.YtkmafpfldnapjaaGreatDoorKLSearch
/-
  ROWS OF TEXTS; THE WALK OF listProc.
-/
namespace Go.Proofs.YtkmafpfldnapjaaGreatDoor
open Go.RowKit Go.Sort Go.Shelf

/-- a row of texts of the call's own -/
def OwnS (w : World) (base : Nat) (v : Value) (xs : List Value) : Prop := w.ownsRow base 9 1 v xs.length xs
theorem OwnS.nil (w : World) (base : Nat) : OwnS w base (.slice none 0 0) [] := World.ownsRow_nil _ _ _ _
theorem OwnS.shape {w : World} {base : Nat} {v : Value} {xs : List Value} (h : OwnS w base v xs) :
    (v = .slice none 0 0 ∧ xs = []) ∨ ∃ g cap, v = .slice (some ⟨g, 0, none⟩) xs.length cap ∧ base ≤ g ∧ g < w.heap.size ∧ xs.length ≤ cap ∧ ∀ j x, xs[j]? = some x → w.cell? ⟨g, j, none⟩ = some x := by
  obtain ⟨hl, h⟩ := h
  rcases h with ⟨rfl, h0⟩ | ⟨g, cap, cur, rfl, hb, hg, hn, hm, hs, ht⟩
  · exact .inl ⟨rfl, List.eq_nil_of_length_eq_zero h0⟩
  · refine .inr ⟨g, cap, rfl, hb, (Array.getElem?_eq_some_iff.1 hg).1, hn, fun j u hu => ?_⟩
    have hj : j < xs.length * 1 := by rw [Nat.mul_one]; exact (List.getElem?_eq_some_iff.1 hu).1
    have e := World.ownsRow.cellAt (w := w) (base := base) (e := 9) (size := 1) (g := g) (cap := cap) ⟨hl, .inr ⟨g, cap, cur, rfl, hb, hg, hn, hm, hs, ht⟩⟩ j hj
    rw [e, hu]
theorem OwnS.lt {w : World} {base : Nat} {v : Value} {xs : List Value} (h : OwnS w base v xs) : ∀ k, v.ownBlock = some k → base ≤ k ∧ k < w.heap.size := World.ownsRow.lt h
theorem OwnS.same {w w1 : World} {base : Nat} {v : Value} {xs : List Value} (h : OwnS w base v xs) (hs : ∀ g, v.ownBlock = some g → w1.heap[g]? = w.heap[g]?) : OwnS w1 base v xs := by
  obtain ⟨hl, h⟩ := h
  refine ⟨hl, ?_⟩
  rcases h with h | ⟨g, cap, cur, rfl, hg, hh, r⟩
  · exact .inl h
  · exact .inr ⟨g, cap, cur, rfl, hg, (hs g rfl).trans hh, r⟩
theorem OwnS.kept {w w1 : World} {base : Nat} {v : Value} {xs : List Value} (h : OwnS w base v xs) (hb : Below w.heap.size w w1) : OwnS w1 base v xs := h.same fun g hg => hb.block g (h.lt g hg).2
theorem OwnS.grown {w w1 : World} {base : Nat} {v : Value} {xs : List Value} {row : Option Nat} (h : OwnS w base v xs) (hg : w.grownBy w1 row) (hne : ∀ b, v.ownBlock = some b → row ≠ some b) : OwnS w1 base v xs :=
  h.same fun g hgg => hg.block g (h.lt g hgg).2 (fun e => hne g hgg e.symm)
theorem infoS : (Tryz.prog.info? 9).map (fun i => (i.zero, i.size, i.bytes)) = some (some (.string ⟨#[]⟩), 1, 16) := by kernel_rfl
theorem run_append_texts {w : World} (ty : TypeId) (base : Nat) (v : Value) (xs : List Value) (hown : OwnS w base v xs) (B : Nat) (x : Value) (hx : w.cell? ⟨B, 0, none⟩ = some x) (h1 : x.oneCell' = true)
    (hlen : (xs.length + 1) * 16 ≤ 140737488355328) (hbase : base ≤ w.heap.size) :
    ∃ v' w', (Builtin.append_ #[93, 93] ty #[v, .slice (some ⟨B, 0, none⟩) 1 1]).run Tryz.prog w = .ok v' w' ∧ OwnS w' base v' (xs ++ [x]) ∧ w.grownBy w' v.ownBlock ∧ (v'.ownBlock = v.ownBlock ∨ v'.ownBlock = some w.heap.size) := by
  obtain ⟨i0, hi, hz0, hz1, hz2⟩ := info_parts infoS
  obtain ⟨v', w', hr, h2, h3, _, h5⟩ := run_append_own_at (P := Tryz.prog) w base 93 ty 9 i0 (.string ⟨#[]⟩) 1 16 Tryz.underlying93 hi hz0 hz1 hz2 rfl (by decide) v xs.length xs hown ⟨B, 0, none⟩ 1 1 [x] rfl
    (by
      intro j u hu
      match j, hu with
      | 0, hu => simp at hu; rw [addr_add, ← hu]; exact hx
      | j + 1, hu => simp at hu) (by simpa using h1) (by unfold maxLen; omega) hlen hbase
  exact ⟨v', w', hr, by unfold OwnS; rw [List.length_append]; exact h2, h3, h5⟩
theorem wpList_append_texts {w : World} {ops : Array Oper} {rest : List Oper} {o : Oper} {a : Act} {Q : Exit → Act → World → Prop} (hgd : o.guard = none) (s x : Operand)
    (ho : o.op = .call { callee := .builtin .append, args := #[s, x], argTypes := #[93, 93] }) (base : Nat) (v : Value) (xs : List Value) (hs : a.eval s = v) (hown : OwnS w base v xs)
    (B : Nat) (y : Value) (hx : a.eval x = .slice (some ⟨B, 0, none⟩) 1 1) (hy : w.cell? ⟨B, 0, none⟩ = some y) (h1 : y.oneCell' = true) (hlen : (xs.length + 1) * 16 ≤ 140737488355328) (hbase : base ≤ w.heap.size)
    (h : ∀ v' w', OwnS w' base v' (xs ++ [y]) → w.grownBy w' v.ownBlock → (v'.ownBlock = v.ownBlock ∨ v'.ownBlock = some w.heap.size) → wpList Tryz.prog ops Q rest (a.put o.dst v') w') : wpList Tryz.prog ops Q (o :: rest) a w := by
  obtain ⟨v', w', hr, h2, h3, h4⟩ := run_append_texts o.type base v xs hown B y hy h1 hlen hbase
  refine wpList_plain hgd fun K hK' => ?_
  unfold Oper.wp
  simp [execOp, ho, resolve, invoke, builtin, hs, hx, hr, Result.andThen]
  exact hK' _ _ (h v' w' h2 h3 h4)


/-- the lines of the first k places -/
def bodyL (L : List K) : Nat → List (List UInt8)
  | 0 => []
  | k + 1 => bodyL L k ++ (if lndB L k = true then [labelL (k : Int) ++ [58]] else []) ++ [[32, 32] ++ instrL (cd L k)]
def endlL : List UInt8 := [101, 110, 100]
/-- a procedure's lines -/
def linesP (nm : List UInt8) (p : Nums) (L : List K) : List (List UInt8) := [flL nm p 4] ++ bodyL L L.length ++ (if lndB L L.length = true then [labelL (L.length : Int) ++ [58]] else []) ++ [endlL]
def tv (M : List (List UInt8)) : List Value := M.map fun l => Value.string (S l)
theorem tv_snoc (M : List (List UInt8)) (l : List UInt8) : tv (M ++ [l]) = tv M ++ [.string (S l)] := by simp [tv]
theorem tv_length (M : List (List UInt8)) : (tv M).length = M.length := by simp [tv]
theorem bodyL_length (L : List K) : ∀ k, (bodyL L k).length ≤ 2 * k
  | 0 => by simp [bodyL]
  | k + 1 => by
    have := bodyL_length L k
    simp only [bodyL, List.length_append, List.length_cons, List.length_nil]
    split <;> simp <;> omega
/-- what stands while the lines are laid -/
structure LnS (w W : World) (B g : Nat) (bs : List Bool) (v : Value) (M : List (List UInt8)) : Prop where
  own : OwnS W B v (tv M)
  row : RowBl W g bs
  gb : g < B
  bel : Below w.heap.size w W
  wb : w.heap.size ≤ B
  bw : B ≤ W.heap.size
theorem LnS.kept {w W W' : World} {B g : Nat} {bs : List Bool} {v : Value} {M : List (List UInt8)} (h : LnS w W B g bs v M) (hb : Below W.heap.size W W') : LnS w W' B g bs v M :=
  ⟨h.own.kept hb, h.row.kept hb, h.gb, h.bel.trans (hb.mono h.bel.size), h.wb, Nat.le_trans h.bw hb.size⟩
theorem LnS.put {w W W' : World} {B g : Nat} {bs : List Bool} {v v' : Value} {M : List (List UInt8)} {l : List UInt8} (h : LnS w W B g bs v M) (ho : OwnS W' B v' (tv M ++ [.string (S l)])) (hg : W.grownBy W' v.ownBlock) : LnS w W' B g bs v' (M ++ [l]) := by
  have hv : ∀ k, v.ownBlock = some k → B ≤ k := fun k hk => (h.own.lt k hk).1
  refine ⟨by rw [tv_snoc]; exact ho, (hg.block g h.row.lt (fun e => by have := hv g e.symm; have := h.gb; omega)).trans h.row, h.gb, ?_, h.wb, Nat.le_trans h.bw hg.size⟩
  exact h.bel.trans (below_grown hg (fun k hk => by have := hv k hk; have := h.wb; omega) h.bel.size)
theorem OwnS.opn {w : World} {base : Nat} {v : Value} {xs : List Value} (h : OwnS w base v xs) : ∃ a c, v = .slice a xs.length c := by
  rcases h.shape with ⟨rfl, rfl⟩ | ⟨g, cap, rfl, _⟩
  · exact ⟨none, 0, rfl⟩
  · exact ⟨_, cap, rfl⟩
theorem ls_len {W : World} {B : Nat} {a : Option Addr} {l c : Nat} {xs : List Value} (h : OwnS W B (.slice a l c) xs) : xs.length = l := by
  rcases h.shape with ⟨e, rfl⟩ | ⟨g, cap, e, _⟩
  · injection e with e1 e2 e3; rw [e2]; rfl
  · injection e with e1 e2 e3; exact e2.symm
theorem own_mono {W : World} {B B' : Nat} {v : Value} {xs : List Value} (h : OwnS W B v xs) (hb : B' ≤ B) : OwnS W B' v xs := by
  obtain ⟨hl, h⟩ := h
  refine ⟨hl, ?_⟩
  rcases h with h | ⟨g, cap, cur, e, hg, r⟩
  · exact .inl h
  · exact .inr ⟨g, cap, cur, e, by omega, r⟩
/-- an instruction in a box -/
def KBx (W : World) (B : Nat) (op A : Int) : Prop := W.heap[B]? = some (.cells #[.int .i64 op, .int .i64 A] 91 (0, 0))
theorem KBx.lt {W : World} {B : Nat} {op A : Int} (h : KBx W B op A) : B < W.heap.size := (Array.getElem?_eq_some_iff.1 h).1
theorem KBx.cells {W : World} {B : Nat} {op A : Int} (h : KBx W B op A) : W.cell? ⟨B, 0, none⟩ = some (.int .i64 op) ∧ W.cell? ⟨B, 1, none⟩ = some (.int .i64 A) := by constructor <;> simp [World.cell?, show W.heap[B]? = _ from h]
/-- what every program holds -/
structure PQ (w : World) (ao : Option Addr) (L : List K) : Prop where
  ks : KeysAt w ao L
  kin : ∀ k ∈ L, KIn k
  jmp : ∀ k ∈ L, jumpB k.1 = true → 0 ≤ k.2 ∧ k.2 ≤ (L.length : Int)
  big : L.length ≤ 256
structure Vs (w : World) : Prop where
  nm : NmAt w
  nw : NwAt w
  dv : DigVars w
theorem Vs.kept {w w1 : World} (h : Vs w) (hb : Below w.heap.size w w1) : Vs w1 := ⟨h.nm.kept hb, h.nw.kept hb, h.dv.kept hb⟩

set_option maxRecDepth 100000 in
set_option maxHeartbeats 2000000 in
theorem listProc_any (w : World) (nm : List UInt8) (p : Nums) (ao : Option Addr) (n cap : Nat) (L : List K) (hp : NIn p) (hl : nm.length ≤ 31) (hq : PQ w ao L) (hn : n = L.length) (hv : Vs w) :
    Calls Tryz.prog 31 #[.agg #[.string (S nm), .int .i64 p.args, .int .i64 p.reads, .int .i64 p.writes, .int .i64 p.locals, .slice ao n cap]] w fun e w' => ∃ v, e = .returned v ∧ OwnS w' w.heap.size v (tv (linesP nm p L)) ∧ Below w.heap.size w w' := by
  have HP : Hid (NIn p) := hp
  have HQ : Hid (PQ w ao L) := hq
  have HN : Hid (n = L.length) := hn
  have HV : Hid (Vs w) := hv
  have hn256 : n ≤ 256 := by rw [hn]; exact hq.big
  clear hp hq hn hv
  obtain ⟨y1, y2, y3, y4⟩ := p
  have HB1 : Hid (Below w.heap.size w (w.alloc (.cells #[.string (S nm), .int .i64 y1, .int .i64 y2, .int .i64 y3, .int .i64 y4, .slice ao n cap] 87))) := (Below.refl _ _).alloc (Nat.le_refl _) _
  have HR1 : Hid (RBox (w.alloc (.cells #[.string (S nm), .int .i64 y1, .int .i64 y2, .int .i64 y3, .int .i64 y4, .slice ao n cap] 87)) w.heap.size ⟨S nm, ⟨y1, y2, y3, y4⟩, ao, n, cap, L⟩) := RBox.new w ⟨S nm, ⟨y1, y2, y3, y4⟩, ao, n, cap, L⟩
  go_enter Tryz.func31, Tryz.ntmps31
  go_wp2_with fail
  generalize w.alloc (.cells #[.string (S nm), .int .i64 y1, .int .i64 y2, .int .i64 y3, .int .i64 y4, .slice ao n cap] 87) = w1 at *
  refine (landings_any w1 ao n cap L (HQ.out.ks.kept HB1.out) HN.out hn256 (by rw [HN.out]; exact HQ.out.jmp)).mono ?_
  rintro e w2 ⟨g, rfl, hrow, hb2, hg2⟩
  have HB2 : Hid (Below w.heap.size w w2) := HB1.out.trans (hb2.mono HB1.out.size)
  have HR2 : Hid (RBox w2 w.heap.size ⟨S nm, ⟨y1, y2, y3, y4⟩, ao, n, cap, L⟩) := HR1.out.kept hb2
  have HRw : Hid (RowBl w2 g (lndL L n)) := hrow
  clear hb2 hrow HR1 hg2
  obtain ⟨x0, x1, x2, x3, x4, x5⟩ := HR2.out.cells
  simp only at x0 x1 x2 x3 x4 x5
  go_wp2_with fail
  refine (firstLine_any w2 nm ⟨y1, y2, y3, y4⟩ ao n cap HP.out hl (HV.out.kept HB2.out).nw (HV.out.kept HB2.out).dv).mono ?_
  rintro e w3 ⟨rfl, hg3⟩
  have HB3 : Hid (Below w.heap.size w w3) := HB2.out.trans (hg3.below.mono HB2.out.size)
  have HL3 : Hid (LnS w (w3.alloc (.cells #[.string (S (flL nm ⟨y1, y2, y3, y4⟩ 4))] 9)) w3.heap.size g (lndL L n) (.slice (some ⟨w3.heap.size, 0, none⟩) 1 1) ([flL nm ⟨y1, y2, y3, y4⟩ 4] ++ bodyL L 0)) := by
    have hb : Below w3.heap.size w3 (w3.alloc (.cells #[.string (S (flL nm ⟨y1, y2, y3, y4⟩ 4))] 9)) := (Below.refl _ _).alloc (Nat.le_refl _) _
    refine ⟨?_, (HRw.out.kept hg3.below).kept hb, Nat.lt_of_lt_of_le HRw.out.lt hg3.size, HB3.out.trans (hb.mono HB3.out.size), HB3.out.size, hb.size⟩
    refine ⟨rfl, .inr ⟨w3.heap.size, 1, #[.string (S (flL nm ⟨y1, y2, y3, y4⟩ 4))], rfl, Nat.le_refl _, heap_alloc_new _ _ rfl, Nat.le_refl _, by decide, rfl, rfl⟩⟩
  clear hg3 x0 x1 x2 x3 x4 x5 HR2 HRw HB2 HB1 HB3
  obtain ⟨T0, hT0⟩ : ∃ T0, T0 = flL nm ⟨y1, y2, y3, y4⟩ 4 := ⟨_, rfl⟩
  rw [← hT0] at HL3 ⊢
  have HT0 : Hid (T0 = flL nm ⟨y1, y2, y3, y4⟩ 4) := hT0
  clear hT0
  go_wp2_with fail
  generalize w3.alloc (.cells #[.string (S T0)] 9) = w4 at *
  generalize w3.heap.size = B at *
  go_loopw [5, 18] (fun x y wr => ∃ (k l : Nat) (a : Option Addr) (c : Nat), k ≤ n ∧ x = .slice a l c ∧ y = .int .i64 (k : Int) ∧ l ≤ 2 * k + 1 ∧ Hid (LnS w wr B g (lndL L n) (.slice a l c) ([T0] ++ bodyL L k))) (fun _ y _ => n - (intOf y).toNat)
  case atStart => exact ⟨0, 1, _, 1, Nat.zero_le _, rfl, rfl, by omega, HL3⟩
  case round =>
    clear HL3
    obtain ⟨k, l, a, c, hk, rfl, rfl, hll, HL⟩ := hrel
    by_cases hlt : k < n
    · have hlt' : k < L.length := by have := HN.out; omega
      obtain ⟨b, off, rfl, c1, c2⟩ := (HQ.out.ks.kept HL.out.bel).get k hlt'
      have HBs : Hid (bodyL L (k + 1) = bodyL L k ++ (if lndB L k = true then [labelL (k : Int) ++ [58]] else []) ++ [[32, 32] ++ instrL (cd L k)]) := rfl
      have HKi : Hid (KIn (cd L k)) := HQ.out.kin _ (kd_mem hlt')
      generalize cd L k = kk at *
      obtain ⟨op, A⟩ := kk
      simp only at c1 c2
      have HBl : Hid (Below wr.heap.size wr (wr.alloc (.cells #[.int .i64 op, .int .i64 A] 91))) := (Below.refl _ _).alloc (Nat.le_refl _) _
      have HL1 : Hid (LnS w (wr.alloc (.cells #[.int .i64 op, .int .i64 A] 91)) B g (lndL L n) (.slice a l c) ([T0] ++ bodyL L k)) := HL.out.kept HBl.out
      have HX1 : Hid (KBx (wr.alloc (.cells #[.int .i64 op, .int .i64 A] 91)) wr.heap.size op A) := heap_alloc_new _ _ rfl
      have HOl : Hid (∀ q, (Value.slice a l c).ownBlock = some q → q < wr.heap.size) := fun q hq => (HL.out.own.lt q hq).2
      have d0 := HL1.out.row.cell (lndL_get (L := L) (n := n) (a := k) (by omega))
      have hu1 : (labelL (k : Int)).length ≤ 21 := labelL_len (by unfold In64; omega)
      obtain ⟨u, hu⟩ : ∃ u, u = labelL (k : Int) := ⟨_, rfl⟩
      obtain ⟨u1, hu1e⟩ : ∃ u1, u1 = u ++ [58] := ⟨_, rfl⟩
      obtain ⟨t, ht⟩ : ∃ t, t = instrL (op, A) := ⟨_, rfl⟩
      obtain ⟨t1, ht1⟩ : ∃ t1, t1 = [32, 32] ++ t := ⟨_, rfl⟩
      have hti := instrL_len HKi.out
      have s1 : ¬ ((S u).size + (ByteArray.mk #[58]).size > 9223372036854775807) := S_fit u [58] (by rw [hu]; simp; omega)
      have e1 : S u ++ ByteArray.mk #[58] = S u1 := by rw [hu1e]; exact S_app u [58]
      have s2 : ¬ ((ByteArray.mk #[32, 32]).size + (S t).size > 9223372036854775807) := S_fit [32, 32] t (by rw [ht]; simp; omega)
      have e2 : ByteArray.mk #[32, 32] ++ S t = S t1 := by rw [ht1]; exact S_app [32, 32] t
      have HU : Hid (labelL (k : Int) = u ∧ labelL (k : Int) ++ [58] = u1) := ⟨hu.symm, by rw [← hu]; exact hu1e.symm⟩
      have HTt : Hid (instrL (op, A) = t ∧ [32, 32] ++ instrL (op, A) = t1) := ⟨ht.symm, by rw [← ht]; exact ht1.symm⟩
      clear hu hu1e ht ht1 hti hu1 HL
      go_upto_if 26 with fail
      generalize wr.alloc (.cells #[.int .i64 op, .int .i64 A] 91) = w5 at *
      generalize wr.heap.size = B6 at *
      go_cut [5, 18] from 18 to 39 (fun v y wx => y = .int .i64 (k : Int) ∧ ∃ (l' : Nat) (a' : Option Addr) (c' : Nat), v = .slice a' l' c' ∧ l' ≤ l + 1 ∧ Hid (LnS w wx B g (lndL L n) (.slice a' l' c') ([T0] ++ (bodyL L k ++ (if lndB L k = true then [u1] else [])))) ∧ Hid (KBx wx B6 op A))
      case first =>
        cases hlb : lndB L k with
        | true =>
          rw [hlb] at d0
          go_wp2_with fail
          refine (labelOf_any w5 (k : Int) (by unfold In64; omega) (HV.out.kept HL1.out.bel).dv).mono ?_
          rintro e w6 ⟨rfl, hg6⟩
          rw [HU.out.1]
          have HL6 : Hid (LnS w w6 B g (lndL L n) (.slice a l c) ([T0] ++ bodyL L k)) := HL1.out.kept hg6.below
          have HX6 : Hid (KBx w6 B6 op A) := (hg6.below.block B6 HX1.out.lt).trans HX1.out
          clear hg6
          have HBl6 : Hid (Below w6.heap.size w6 (w6.alloc (.cells #[.string (S u1)] 9))) := (Below.refl _ _).alloc (Nat.le_refl _) _
          go_wp2_with (at_builtin; refine wpList_append_texts rfl _ _ rfl B (.slice a l c) (tv ([T0] ++ bodyL L k)) rfl (HL6.out.own.kept HBl6.out) _ (.string (S u1)) rfl (cell_new1 _ _ _) rfl (by rw [tv_length]; have := bodyL_length L k; simp; omega) (by have := HL6.out.bw; simp only [World.size_alloc]; omega) ?_; intro v7 w7 ho7 hg7 _)
          have HL7 : Hid (LnS w w7 B g (lndL L n) v7 ([T0] ++ bodyL L k ++ [u1])) := (HL6.out.kept HBl6.out).put ho7 hg7
          have HX7 : Hid (KBx w7 B6 op A) := (hg7.block B6 (by have := HX6.out.lt; simp only [World.size_alloc]; omega) (fun e => by have := HOl.out B6 e.symm; omega)).trans ((HBl6.out.block B6 HX6.out.lt).trans HX6.out)
          obtain ⟨a7, c7, hv7⟩ := HL7.out.own.opn
          have hl7 : (tv ([T0] ++ bodyL L k ++ [u1])).length = l + 1 := by
            rw [tv_length, List.length_append, ← tv_length, ls_len HL6.out.own]; rfl
          rw [hl7] at hv7
          subst hv7
          clear ho7 hg7 HL6 HX6 HBl6 hl7
          have HL8 : Hid (LnS w w7 B g (lndL L n) (.slice a7 (l + 1) c7) ([T0] ++ (bodyL L k ++ (if lndB L k = true then [u1] else [])))) := by rw [if_pos hlb, ← List.append_assoc]; exact HL7.out
          go_wp2_with fail
          go_meet
          case rel => exact ⟨rfl, l + 1, a7, c7, rfl, Nat.le_refl _, HL8, HX7⟩
        | false =>
          rw [hlb] at d0
          have HL8 : Hid (LnS w w5 B g (lndL L n) (.slice a l c) ([T0] ++ (bodyL L k ++ (if lndB L k = true then [u1] else [])))) := by rw [if_neg (by rw [hlb]; simp), List.append_nil]; exact HL1.out
          go_wp2_with fail
          go_meet
          case rel => exact ⟨rfl, l, a, c, rfl, by omega, HL8, HX1⟩
      obtain ⟨rfl, l2, a2, c2', rfl, hl2, HL2, HX2⟩ := hcut
      clear HL1 HX1 HOl d0 HBl c1 c2
      generalize wc = w8 at *
      obtain ⟨M2, hM2⟩ : ∃ M2, M2 = [T0] ++ (bodyL L k ++ (if lndB L k = true then [u1] else [])) := ⟨_, rfl⟩
      rw [← hM2] at HL2
      have HM : Hid ([T0] ++ bodyL L (k + 1) = M2 ++ [t1]) := by
        show _ = _
        rw [HBs.out, hM2, HU.out.2, HTt.out.2]
        simp only [List.append_assoc]
      have HMl : Hid (M2.length = l2) := by rw [← tv_length]; exact ls_len HL2.out.own
      have hl2b : l2 ≤ 600 := by omega
      clear hM2 HBs
      obtain ⟨q0, q1⟩ := HX2.out.cells
      go_wp2_with fail
      refine (instruction_any w8 op A HKi.out.2 (HV.out.kept HL2.out.bel).nm (HV.out.kept HL2.out.bel).dv).mono ?_
      rintro e w9 ⟨rfl, hg9⟩
      rw [HTt.out.1]
      have HL9 : Hid (LnS w w9 B g (lndL L n) (.slice a2 l2 c2') M2) := HL2.out.kept hg9.below
      clear hg9 HL2 HX2 q0 q1
      have HBl9 : Hid (Below w9.heap.size w9 (w9.alloc (.cells #[.string (S t1)] 9))) := (Below.refl _ _).alloc (Nat.le_refl _) _
      go_wp2_with (at_builtin; refine wpList_append_texts rfl _ _ rfl B (.slice a2 l2 c2') (tv M2) rfl (HL9.out.own.kept HBl9.out) _ (.string (S t1)) rfl (cell_new1 _ _ _) rfl (by rw [tv_length, HMl.out]; omega) (by have := HL9.out.bw; simp only [World.size_alloc]; omega) ?_; intro v10 w10 ho10 hg10 _)
      have HL10 : Hid (LnS w w10 B g (lndL L n) v10 (M2 ++ [t1])) := (HL9.out.kept HBl9.out).put ho10 hg10
      obtain ⟨a10, c10, hv10⟩ := HL10.out.own.opn
      have hl10 : (tv (M2 ++ [t1])).length = l2 + 1 := by rw [tv_length, List.length_append, HMl.out]; rfl
      rw [hl10] at hv10
      subst hv10
      have HLz : Hid (LnS w w10 B g (lndL L n) (.slice a10 (l2 + 1) c10) ([T0] ++ bodyL L (k + 1))) := by rw [HM.out]; exact HL10.out
      clear ho10 hg10 hl10 HL9 HL10 HBl9
      go_wp2_with fail
      go_roundw
      case rel => exact ⟨k + 1, l2 + 1, a10, c10, by omega, rfl, by go_num, by omega, HLz⟩
      case measure => simp [intOf]; omega
    · obtain rfl : k = n := by omega
      have d0 := HL.out.row.cell (lndL_get (L := L) (n := k) (a := k) (Nat.le_refl _))
      have HLp : Hid (linesP nm ⟨y1, y2, y3, y4⟩ L = [T0] ++ bodyL L k ++ (if lndB L k = true then [labelL (k : Int) ++ [58]] else []) ++ [endlL]) := by rw [HT0.out, HN.out]; rfl
      have hu1 : (labelL (k : Int)).length ≤ 21 := labelL_len (by unfold In64; omega)
      obtain ⟨u, hu⟩ : ∃ u, u = labelL (k : Int) := ⟨_, rfl⟩
      obtain ⟨u1, hu1e⟩ : ∃ u1, u1 = u ++ [58] := ⟨_, rfl⟩
      have s1 : ¬ ((S u).size + (ByteArray.mk #[58]).size > 9223372036854775807) := S_fit u [58] (by rw [hu]; simp; omega)
      have e1 : S u ++ ByteArray.mk #[58] = S u1 := by rw [hu1e]; exact S_app u [58]
      have HU : Hid (labelL (k : Int) = u ∧ labelL (k : Int) ++ [58] = u1) := ⟨hu.symm, by rw [← hu]; exact hu1e.symm⟩
      clear hu hu1e hu1
      go_upto_if 44 with fail
      go_cut [5] (fun v wx => ∃ (l' : Nat) (a' : Option Addr) (c' : Nat), v = .slice a' l' c' ∧ l' ≤ l + 1 ∧ Hid (LnS w wx B g (lndL L k) (.slice a' l' c') ([T0] ++ bodyL L k ++ (if lndB L k = true then [u1] else []))))
      case first =>
        cases hlb : lndB L k with
        | true =>
          rw [hlb] at d0
          go_wp2_with fail
          refine (labelOf_any wr (k : Int) (by unfold In64; omega) (HV.out.kept HL.out.bel).dv).mono ?_
          rintro e w6 ⟨rfl, hg6⟩
          rw [HU.out.1]
          have HL6 : Hid (LnS w w6 B g (lndL L k) (.slice a l c) ([T0] ++ bodyL L k)) := HL.out.kept hg6.below
          clear hg6
          have HBl6 : Hid (Below w6.heap.size w6 (w6.alloc (.cells #[.string (S u1)] 9))) := (Below.refl _ _).alloc (Nat.le_refl _) _
          go_wp2_with (at_builtin; refine wpList_append_texts rfl _ _ rfl B (.slice a l c) (tv ([T0] ++ bodyL L k)) rfl (HL6.out.own.kept HBl6.out) _ (.string (S u1)) rfl (cell_new1 _ _ _) rfl (by rw [tv_length]; have := bodyL_length L k; simp; omega) (by have := HL6.out.bw; simp only [World.size_alloc]; omega) ?_; intro v7 w7 ho7 hg7 _)
          have HL7 : Hid (LnS w w7 B g (lndL L k) v7 ([T0] ++ bodyL L k ++ [u1])) := (HL6.out.kept HBl6.out).put ho7 hg7
          obtain ⟨a7, c7, hv7⟩ := HL7.out.own.opn
          have hl7 : (tv ([T0] ++ bodyL L k ++ [u1])).length = l + 1 := by
            rw [tv_length, List.length_append, ← tv_length, ls_len HL6.out.own]; rfl
          rw [hl7] at hv7
          subst hv7
          clear ho7 hg7 HL6 HBl6 hl7
          have HL8 : Hid (LnS w w7 B g (lndL L k) (.slice a7 (l + 1) c7) ([T0] ++ bodyL L k ++ (if lndB L k = true then [u1] else []))) := by rw [if_pos hlb]; exact HL7.out
          go_wp2_with fail
          go_meet
          case rel => exact ⟨l + 1, a7, c7, rfl, Nat.le_refl _, HL8⟩
        | false =>
          rw [hlb] at d0
          have HL8 : Hid (LnS w wr B g (lndL L k) (.slice a l c) ([T0] ++ bodyL L k ++ (if lndB L k = true then [u1] else []))) := by rw [if_neg (by rw [hlb]; simp), List.append_nil]; exact HL.out
          go_wp2_with fail
          go_meet
          case rel => exact ⟨l, a, c, rfl, by omega, HL8⟩
      obtain ⟨l2, a2, c2', rfl, hl2, HL2⟩ := hcut
      clear HL d0
      generalize wc = w8 at *
      rw [HU.out.2] at HLp
      obtain ⟨M2, hM2⟩ : ∃ M2, M2 = [T0] ++ bodyL L k ++ (if lndB L k = true then [u1] else []) := ⟨_, rfl⟩
      rw [← hM2] at HL2 HLp
      have HMl : Hid (M2.length = l2) := by rw [← tv_length]; exact ls_len HL2.out.own
      have hl2b : l2 ≤ 600 := by omega
      clear hM2 HU s1 e1
      have HBl9 : Hid (Below w8.heap.size w8 (w8.alloc (.cells #[.string (S endlL)] 9))) := (Below.refl _ _).alloc (Nat.le_refl _) _
      go_wp2_with (at_builtin; refine wpList_append_texts rfl _ _ rfl B (.slice a2 l2 c2') (tv M2) rfl (HL2.out.own.kept HBl9.out) _ (.string (S endlL)) rfl (cell_new1 _ _ _) rfl (by rw [tv_length, HMl.out]; omega) (by have := HL2.out.bw; simp only [World.size_alloc]; omega) ?_; intro v10 w10 ho10 hg10 _)
      have HL10 : Hid (LnS w w10 B g (lndL L k) v10 (M2 ++ [endlL])) := (HL2.out.kept HBl9.out).put ho10 hg10
      clear ho10 hg10
      have HF : Hid (OwnS w10 w.heap.size v10 (tv (linesP nm ⟨y1, y2, y3, y4⟩ L)) ∧ Below w.heap.size w w10) := by
        rw [HLp.out]
        exact ⟨own_mono HL10.out.own HL10.out.wb, HL10.out.bel⟩
      go_wp2
      go_ret
      exact ⟨v10, rfl, HF.out⟩
end Go.Proofs.YtkmafpfldnapjaaGreatDoor
/-
  A REGION THAT DRAWS ITS ORDER AND ONLY READS, IN THE ROUND OF A LOOP OVER A FUNCTION: as outside a round, where no operation is a defer.
-/
namespace Go.Proofs.YtkmafpfldnapjaaGreatDoor
open Go.RowKit Go.Sort

def noDefer (o : Oper) : Bool := match o.op with
  | .defer _ => false
  | _ => true
theorem noDefer_ne {o : Oper} (h : noDefer o = true) : ∀ c, o.op ≠ .defer c := by
  intro c e
  unfold noDefer at h
  rw [e] at h
  simp at h
theorem wpIn_round {F : Fence} {n l : Nat} {P : Program} {o : Oper} {a : Act} {w : World} {K : Act → World → Prop} {Q : Exit → Act → World → Prop} (hro : F.round = none) (hd : noDefer o = true) (h : o.wpIn F n P a w K Q) : o.wpIn (F.inRound l) n P a w K Q := by
  obtain ⟨h1, h2⟩ := h
  refine ⟨h1, ?_⟩
  rw [hro, Oper.semAt_none] at h2
  rw [Fence.inRound_round, Oper.semAt_some l _ _ (noDefer_ne hd)]
  generalize (execOp a.eval o).run P w = r at *
  cases r with
  | ok x w' => cases x <;> exact h2
  | halt x w' => cases x <;> exact h2
theorem wpAny_round {F : Fence} {n l : Nat} {P : Program} {md : Region.Mode} {ops : Array Oper} {Q : Exit → Act → World → Prop} (hro : F.round = none) (hd : ops.all noDefer = true) :
    ∀ (fuel : Nat) (listed : Array Bool) (a : Act) (w : World), wpAnyIn F n P md ops Q fuel listed a w → wpAnyIn (F.inRound l) n P md ops Q fuel listed a w
  | 0, _, _, _, h => h
  | fuel + 1, listed, a, w, h => ⟨h.1, fun i hi => by
    have h2 := h.2 i hi
    unfold wpOpIn at h2 ⊢
    cases ho : ops[i]? with
    | none => rw [ho] at h2; exact wpAny_round hro hd fuel _ _ _ h2
    | some o =>
      rw [ho] at h2
      have hn : noDefer o = true := by
        have h3 := Array.all_eq_true.1 hd
        obtain ⟨hlt, he⟩ := Array.getElem?_eq_some_iff.1 ho
        rw [← he]; exact h3 i hlt
      simp only at h2 ⊢
      split
      · rename_i hw
        rw [if_pos hw] at h2
        exact wpIn_round hro hn (Oper.wpIn_mono (fun a w hk => wpAny_round hro hd fuel _ a w hk) h2)
      · rename_i hw
        rw [if_neg hw] at h2
        exact ⟨h2.1, wpAny_round hro hd fuel _ _ _ h2.2⟩⟩
theorem region_round {F : Fence} {n l : Nat} {P : Program} {id : Nat} {Q : Exit → Act → World → Prop} {a : Act} {w : World} {ops : List Oper} (hro : F.round = none) (hm : P.follows .mixedOrders = true) (hB : Region.lexB .any ops.toArray = true) (hd : ops.toArray.all noDefer = true)
    (h : wpQuietIn F n P ops.toArray (fun w' => ∃ n, w' = w.drewN n) (fun a' => ∀ w', (∃ n, w' = w.drewN n) → Q .normal a' w') ops a) : (Code.region id ops.toArray true).wpIn (F.inRound l) n P Q a w := by
  simp only [Region.lexB, Bool.and_eq_true] at hB
  refine wpIn_region_any hm (wpAny_round hro hd _ _ _ _ (wpAnyIn_of_quiet (Q := fun a' => ∀ w', (∃ n, w' = w.drewN n) → Q .normal a' w') hro (fun _ w' hw' h => h w' hw') _ _ _ _ ⟨1, rfl⟩ ?_))
  have := wpAnyQIn_lex (F := F) (n := n) (C := fun w' => ∃ n, w' = w.drewN n) (md := .any) hB.1 ops 0 (Array.replicate ops.toArray.size false) a (by simp) (by simpa using hB.2) h
  simpa using this

/-- a loop over a function, whichever way it ends: what holds behind it -/
theorem loop_cut {F : Fence} {n : Nat} {P : Program} {c : Code} {Q : Exit → Act → World → Prop} {a : Act} {w : World} (id : Nat) (Post : World → Prop) (hex : ∀ a w, Q .normal a w → Q (.exit id) a w)
    (h : c.wpIn F n P (fun e a' w' => (e = .normal ∨ e = .exit id) ∧ ∃ D, w.heap.size ≤ D ∧ a' = { a with defers := { target := .collected D, args := #[] } :: a.defers } ∧ Post w' ∧ w'.heap[D]? = some (.deferred (some []))) a w)
    (hk : ∀ D W, w.heap.size ≤ D → Post W → W.heap[D]? = some (.deferred (some [])) → Q .normal { a with defers := { target := .collected D, args := #[] } :: a.defers } W) : c.wpIn F n P Q a w := by
  refine Code.wpIn_mono ?_ h
  rintro e a' w' ⟨he, D, hD, rfl, hp, hd⟩
  rcases he with rfl | rfl
  · exact hk D w' hD hp hd
  · exact hex _ _ (hk D w' hD hp hd)
end Go.Proofs.YtkmafpfldnapjaaGreatDoor
/-
  slices.Backward: THE ITERATOR FROM THE BACK.
-/
namespace Go.Proofs.YtkmafpfldnapjaaGreatDoor
open Go.RowKit Go.Sort Go.Shelf

attribute [local go_sem] Oper.semAt_some

/-- a place within m -/
def cl (m i : Nat) : Nat := min i (m - 1)
theorem cl_lt {m i : Nat} (h : 0 < m) : cl m i < m := by unfold cl; omega
theorem cl_of {m i : Nat} (h : i < m) : cl m i = i := by unfold cl; omega
/-- the last k places, from the back -/
def dn (m k : Nat) : List Nat := (List.range k).map (fun j => m - 1 - j)
theorem dn_succ (m k : Nat) : dn m (k + 1) = dn m k ++ [m - 1 - k] := by simp [dn, List.range_succ]
theorem dn_length (m k : Nat) : (dn m k).length = k := by simp [dn]
/-- what is handed on at a place -/
abbrev encP (m : Nat) (L : List K) (i : Nat) : Array Value := #[.int .i64 ((cl m i : Nat) : Int), .agg #[.int .i64 (cd L (cl m i)).1, .int .i64 (cd L (cl m i)).2]]

/-- what a round leaves: all below n₀, and the box -/
def KB (n₀ Bs : Nat) (A B : World) : Prop := Below n₀ A B ∧ B.heap[Bs]? = A.heap[Bs]?
theorem KB.refl (n₀ Bs : Nat) (A : World) : KB n₀ Bs A A := ⟨Below.refl _ _, rfl⟩
theorem KB.trans {n₀ Bs : Nat} {A B C : World} (h : KB n₀ Bs A B) (k : KB n₀ Bs B C) : KB n₀ Bs A C := ⟨h.1.trans k.1, k.2.trans h.2⟩
theorem KB.cell {n₀ Bs : Nat} {A B : World} (h : KB n₀ Bs A B) (i : Nat) : B.cell? ⟨Bs, i, none⟩ = A.cell? ⟨Bs, i, none⟩ := by simp only [World.cell?, h.2]

end Go.Proofs.YtkmafpfldnapjaaGreatDoor
/-
  THE LONGEST WAYS: what the loop keeps.
-/
namespace Go.Proofs.YtkmafpfldnapjaaGreatDoor
open Go.RowKit Go.Sort Go.Shelf

attribute [local go_sem] Oper.semAt_some

/-- the walk over one instruction: from what stands at its own place on -/
def mostW (m : List Int) (k : K) (i : Nat) : Int := (nextN i k.1 k.2).foldl (fun a t => max a (m.getD t 0)) (m.getD i 0) + 1
def stepM (L : List K) (m : List Int) (i : Nat) : List Int := m.set i (mostW m (cd L i) i)

theorem most_length (L : List K) (k : Nat) : (mostN L k).length = L.length + 1 := by
  induction k with
  | zero => simp [mostN]
  | succ k ih => rw [mostN, List.length_set, ih]
theorem most_zero (L : List K) (k i : Nat) (h : i + k < L.length) : (mostN L k).getD i 0 = 0 := by
  induction k with
  | zero => simp [mostN, List.getD_eq_getElem?_getD, List.getElem?_replicate]; split <;> rfl
  | succ k ih =>
    rw [mostN, getD_set _ _ _ _ (by rw [most_length]; omega), if_neg (by omega)]
    exact ih (by omega)
theorem most_step (L : List K) (k : Nat) (h : k < L.length) : mostN L (k + 1) = stepM L (mostN L k) (L.length - 1 - k) := by
  rw [mostN, stepM, mostW, most_zero L k _ (by omega), mostV]
def foldM (m : List Int) (nx : List Nat) (a : Int) : Int := nx.foldl (fun a t => max a (m.getD t 0)) a
theorem foldM_cons (m : List Int) (t : Nat) (nx : List Nat) (a : Int) : foldM m (t :: nx) a = foldM m nx (max a (m.getD t 0)) := rfl
/-- from 0 to b -/
def Few (m : List Int) (b : Int) : Prop := ∀ j, j < m.length → 0 ≤ m.getD j 0 ∧ m.getD j 0 ≤ b
theorem Few.mono {m : List Int} {b c : Int} (h : Few m b) (hc : b ≤ c) : Few m c := fun j hj => ⟨(h j hj).1, Int.le_trans (h j hj).2 hc⟩
theorem Few.set {m : List Int} {b x : Int} (h : Few m b) (i : Nat) (hx : 0 ≤ x ∧ x ≤ b) : Few (m.set i x) b := by
  intro j hj
  rw [List.length_set] at hj
  rw [getD_set m i j x hj]
  split
  · exact hx
  · exact h j hj
theorem foldM_few {m : List Int} {b : Int} (h : Few m b) (nx : List Nat) (hn : ∀ t ∈ nx, t < m.length) (a : Int) (ha : 0 ≤ a ∧ a ≤ b) : 0 ≤ foldM m nx a ∧ foldM m nx a ≤ b := by
  induction nx generalizing a with
  | nil => exact ha
  | cons t nx ih =>
    rw [foldM_cons]
    have h1 := h t (hn t (by simp))
    exact ih (fun t' ht => hn t' (by simp [ht])) _ (by omega)
/-- what stands while the loop runs -/
structure LI (W5 W : World) (g Bm Bs n cap : Nat) (ao : Option Addr) (m : List Int) : Prop where
  row : RowI W g m
  bm : Boxed W Bm 141 (.slice (some ⟨g, 0, none⟩) (n + 1) (n + 1))
  bs : Boxed W Bs 56 (.slice ao n cap)
  bel : Below g W5 W
theorem LI.keep {W5 W W' : World} {g Bm Bs n cap : Nat} {ao : Option Addr} {m : List Int} (h : LI W5 W g Bm Bs n cap ao m) (hk : ∀ k, k = g ∨ k = Bm ∨ k = Bs → W'.heap[k]? = W.heap[k]?) (hb : Below g W W') : LI W5 W' g Bm Bs n cap ao m :=
  ⟨(hk g (.inl rfl)).trans h.row, (hk Bm (.inr (.inl rfl))).trans h.bm, (hk Bs (.inr (.inr rfl))).trans h.bs, h.bel.trans hb⟩
theorem LI.kept {W5 W W' : World} {g Bm Bs n cap : Nat} {ao : Option Addr} {m : List Int} (h : LI W5 W g Bm Bs n cap ao m) (hb : Below W.heap.size W W') : LI W5 W' g Bm Bs n cap ao m :=
  h.keep (fun k hk => hb.block k (by rcases hk with rfl | rfl | rfl; exact h.row.lt; exact h.bm.lt; exact h.bs.lt)) (hb.mono (Nat.le_of_lt h.row.lt))
theorem LI.set {W5 W : World} {g Bm Bs n cap : Nat} {ao : Option Addr} {m : List Int} (h : LI W5 W g Bm Bs n cap ao m) (i : Nat) (z : Int) (h1 : Bm ≠ g) (h2 : Bs ≠ g) : LI W5 (W.setCell ⟨g, i, none⟩ (.int .i64 z)) g Bm Bs n cap ao (m.set i z) :=
  ⟨h.row.set i z, (heap_setCell_other W ⟨g, i, none⟩ Bm _ h1).trans h.bm, (heap_setCell_other W ⟨g, i, none⟩ Bs _ h2).trans h.bs, below_set h.bel _ _ (Nat.le_refl _)⟩
theorem LI.drewN {W5 W : World} {g Bm Bs n cap : Nat} {ao : Option Addr} {m : List Int} (h : LI W5 W g Bm Bs n cap ao m) (q : Nat) : LI W5 (W.drewN q) g Bm Bs n cap ao m := h.kept ⟨rfl, rfl, rfl, Nat.le_refl _, fun _ _ => rfl⟩
theorem keeps_below {W W' : World} (hb : Below W.heap.size W W') : KeepsOthers W W' := ⟨hb.size, fun _ _ h _ => (hb.block _ (Array.getElem?_eq_some_iff.1 h).1).trans h⟩
theorem KB.ofBelow {n₀ Bs : Nat} {A B : World} (h : Below A.heap.size A B) (h1 : n₀ ≤ A.heap.size) (h2 : Bs < A.heap.size) : KB n₀ Bs A B := ⟨h.mono h1, h.block Bs h2⟩
theorem KB.set {n₀ Bs g i : Nat} {A : World} (v : Value) (h1 : n₀ ≤ g) (h2 : Bs ≠ g) : KB n₀ Bs A (A.setCell ⟨g, i, none⟩ v) := ⟨below_set (Below.refl _ _) _ _ h1, heap_setCell_other A ⟨g, i, none⟩ Bs v h2⟩
theorem KB.put {n₀ Bs B : Nat} (h1 : n₀ ≤ B) (h2 : Bs < B) (W : World) (l : Nat) (o o' : Obj) (hl : B ≤ l) (_ : W.heap[l]? = some o) (_ : o.isCells = false) (_ : o.isWalk = false) : KB n₀ Bs W (W.putObj l o') :=
  ⟨⟨rfl, rfl, rfl, (grownBy_putObj' W l o').size, fun k hk => by by_cases hlt : k < W.heap.size
                                                                 · exact (grownBy_putObj' W l o').block k hlt (by simp; omega)
                                                                 · have := (grownBy_putObj' W l o').size; simp [World.putObj, Array.getElem?_eq_none_iff.2 (Nat.le_of_not_lt hlt)]; omega⟩,
   by by_cases hlt : Bs < W.heap.size
      · exact (grownBy_putObj' W l o').block Bs hlt (by simp; omega)
      · simp [World.putObj, Array.getElem?_eq_none_iff.2 (Nat.le_of_not_lt hlt)]; omega⟩
/-- the beginnings of the loop -/
def Chn (n : Nat) (pre : List Nat) : Prop := pre = dn n pre.length
theorem chn_snoc {n x : Nat} {pre : List Nat} (h : Chn n (pre ++ [x])) : Chn n pre ∧ x = n - 1 - pre.length := by
  unfold Chn at *
  rw [List.length_append, List.length_singleton, dn_succ] at h
  have h1 := List.append_inj' h rfl
  exact ⟨h1.1, by simpa using h1.2⟩
theorem chn_dn (n k : Nat) : Chn n (dn n k) := by unfold Chn; rw [dn_length]
def LInv (W5 : World) (g Bm Bs n cap : Nat) (ao : Option Addr) (L : List K) (pre : List Nat) (W : World) : Prop :=
  ∃ m, LI W5 W g Bm Bs n cap ao m ∧ m.length = n + 1 ∧ Few m (pre.length : Int) ∧ (Chn n pre → m = mostN L pre.length)

theorem set_self (m : List Int) (i : Nat) : m.set i (m.getD i 0) = m := by
  apply List.ext_getElem?
  intro j
  rw [List.getElem?_set]
  by_cases h : i = j
  · subst h
    by_cases hl : i < m.length
    · simp [hl, List.getD_eq_getElem?_getD]
    · simp [hl]
  · simp [h]
theorem verify_ok {p : Nums} {L : List K} (h : verifyN p L = 0) : limB p L.length = true ∧ lookAll p L L.length = 0 ∧ ∃ d, runD L L.length = some d ∧ depthsN p L = (d, 0) := by
  unfold verifyN depthsN at h
  unfold depthsN
  cases hl : limB p L.length with
  | false => rw [hl] at h; simp at h
  | true =>
    rw [hl, if_neg (by simp)] at h
    rw [if_neg (by simp)]
    by_cases h0 : lookAll p L L.length ≠ 0
    · rw [if_pos h0] at h; exact absurd h h0
    · rw [if_neg h0] at h ⊢
      cases hr : runD L L.length with
      | none => rw [hr] at h; simp at h
      | some d => exact ⟨rfl, by simpa using h0, d, rfl, rfl⟩

end Go.Proofs.YtkmafpfldnapjaaGreatDoor
