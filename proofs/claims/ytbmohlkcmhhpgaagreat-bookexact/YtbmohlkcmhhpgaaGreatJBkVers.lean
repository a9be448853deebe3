import Derived.Test.YtbmohlkcmhhpgaaGreatBkCollH
import Derived.Test.YtbmohlkcmhhpgaaGreatShelf7
import Derived.Shelf.SlicesQ.Reverse
import Derived.Maps.AppendAt
import Derived.BigRegion
import Derived.Deep.LoopGhost
import Derived.Test.YtbmohlkcmhhpgaaGreatBkColl
import Derived.Test.YtbmohlkcmhhpgaaGreatBkPin
import Derived.Deep.DeepAppendRoom
import Derived.Test.YtbmohlkcmhhpgaaGreatJBkShortH
import Derived.Test.YtbmohlkcmhhpgaaGreatJKCompact
/-
  Versions.
-/
namespace Go.Proofs.YtbmohlkcmhhpgaaGreat
open Go.RowKit Go.Sort Go.Shelf

/-- places, as pairs -/
def plk (l : List V4) : List K := l.map Prod.snd
def OwnPl (w : World) (base : Nat) (v : Value) (L : List K) : Prop := w.ownsRow base 99 2 v L.length (cks L)
theorem infoPl : (Tryz.prog.info? 99).map (fun i => (i.zero, i.size, i.bytes)) = some (some (.agg #[.int .i64 0, .int .i64 0]), 2, 16) := by kernel_rfl
theorem append_pl {w : World} (ty : TypeId) (base : Nat) (v : Value) (n : Nat) (xs : List Value) (hown : w.ownsRow base 99 2 v n xs) (x y : Int) (hn : n ≤ 100000) (hbase : base ≤ w.heap.size) :
    ∃ v' w', (Builtin.append_ #[78, 78] ty #[v, .slice (some ⟨w.heap.size, 0, none⟩) 1 1]).run Tryz.prog (w.alloc (.cells #[.int .i64 x, .int .i64 y] 99)) = .ok v' w' ∧ w'.ownsRow base 99 2 v' (n + 1) (xs ++ [.int .i64 x, .int .i64 y]) ∧ (w.alloc (.cells #[.int .i64 x, .int .i64 y] 99)).grownBy w' v.ownBlock := by
  obtain ⟨i0, hi, hz0, hz1, hz2⟩ := info_parts infoPl
  have hb : (w.alloc (.cells #[.int .i64 x, .int .i64 y] 99)).heap[w.heap.size]? = some (.cells #[.int .i64 x, .int .i64 y] 99 (0, 0)) := heap_alloc_new _ _ rfl
  obtain ⟨v', w', hr, h2, h3, _⟩ := run_append_own_at (P := Tryz.prog) (w := w.alloc (.cells #[.int .i64 x, .int .i64 y] 99)) base 78 ty 99 i0 (.agg #[.int .i64 0, .int .i64 0]) 2 16 Tryz.underlying78 hi hz0 hz1 hz2 rfl (by omega) v n xs (World.ownsRow.alloc hown _) ⟨w.heap.size, 0, none⟩ 1 1 [.int .i64 x, .int .i64 y] rfl (fun j u hu => by
      rw [addr_add, Nat.zero_add]
      simp only [World.cell?, hb]
      simpa using hu) (by intro u hu; simp at hu; rcases hu with rfl | rfl <;> rfl) (by unfold maxLen; omega) (by omega) (by simp; omega)
  exact ⟨v', w', hr, h2, h3⟩
theorem wpL_appP {w : World} {ops : Array Oper} {rest : List Oper} {o : Oper} {a : Act} {Q : Exit → Act → World → Prop} (hgd : o.guard = none) (s x : Operand) (TS : TypeId)
    (ho : o.op = .call { callee := .builtin .append, args := #[s, x], argTypes := #[TS, TS] }) (v u : Value) (hs : a.eval s = v) (hx : a.eval x = u) {post : Value → World → Prop}
    (hr : ∀ ty, ∃ v' w', (Builtin.append_ #[TS, TS] ty #[v, u]).run Tryz.prog w = .ok v' w' ∧ post v' w') (h : ∀ v' w', post v' w' → wpList Tryz.prog ops Q rest (a.put o.dst v') w') : wpList Tryz.prog ops Q (o :: rest) a w := by
  obtain ⟨v', w', hr, h2⟩ := hr o.type
  refine wpList_plain hgd fun K hK' => ?_
  unfold Oper.wp
  simp [execOp, ho, resolve, invoke, builtin, hs, hx, hr, Result.andThen]
  exact hK' _ _ (h v' w' h2)
theorem flat_pl (L : List K) : (flatK ck 2 L.toArray).toList = cks L := by
  apply List.ext_getElem?
  intro j
  by_cases hj : j < L.length * 2
  · have hjd : j / 2 < L.length := by omega
    have e := cks_at L (j / 2) hjd
    have hk : L[j / 2]?.getD default = kd L (j / 2) := by rw [kd_get hjd]; rfl
    have : j % 2 = 0 ∨ j % 2 = 1 := by omega
    rw [Array.getElem?_toList]
    rcases this with h | h
    · have hj2 : j = j / 2 * 2 := by omega
      rw [show (cks L)[j]? = (cks L)[j / 2 * 2]? by rw [← hj2], e.1]
      simp [flatK, hj, h, ck, hk]
    · have hj2 : j = j / 2 * 2 + 1 := by omega
      rw [show (cks L)[j]? = (cks L)[j / 2 * 2 + 1]? by rw [← hj2], e.2]
      simp [flatK, hj, h, ck, hk]
  · rw [List.getElem?_eq_none (by simp; omega), List.getElem?_eq_none (by rw [cks_length]; omega)]
theorem OwnPl.holds {w : World} {base g n cap : Nat} {L : List K} (h : OwnPl w base (.slice (some ⟨g, 0, none⟩) n cap) L) : n = L.length ∧ HoldsK ck 2 w g 0 L.toArray := by
  have hn : n = L.length := by
    obtain ⟨_, ⟨e, _⟩ | ⟨g', c', cur, e, _⟩⟩ := h
    · cases e
    · cases e; rfl
  subst hn
  refine ⟨rfl, ?_⟩
  intro j hj
  have hj' : j < L.length * 2 := by simpa using hj
  refine ⟨?_, World.ownsRow.frozenAt h _⟩
  rw [Nat.zero_add, World.ownsRow.cellAt h j hj', ← flat_pl, Array.getElem?_toList]
  simp [hj']
theorem OwnPl.put {w : World} {base g cap : Nat} {L M : List K} (h : OwnPl w base (.slice (some ⟨g, 0, none⟩) L.length cap) L) (hl : M.length = L.length) (m : Nat) :
    OwnPl (putRowK ck 2 (Sort.ahead w m) g 0 M.toArray) base (.slice (some ⟨g, 0, none⟩) L.length cap) M ∧ w.grownBy (putRowK ck 2 (Sort.ahead w m) g 0 M.toArray) (some g) := by
  constructor
  · obtain ⟨_, h⟩ := h
    rcases h with ⟨e, _⟩ | ⟨g', c', cur, e, hb, hg, hnc, hcm, hs, ht⟩
    · cases e
    · cases e
      have hgl : g < w.heap.size := (Array.getElem?_eq_some_iff.1 hg).1
      have hh : (putRowK ck 2 (Sort.ahead w m) g 0 M.toArray).heap[g]? = some (.cells (putCells id 0 (flatK ck 2 M.toArray) cur) 99 (0, 0)) := by
        simp [putRowK, putRow, mapBlock, Sort.ahead, Array.getElem?_modify, hg, onCells]
      unfold OwnPl
      rw [hl]
      refine ⟨by rw [cks_length, hl], .inr ⟨g, cap, _, rfl, hb, hh, hnc, hcm, by simpa [putCells] using hs, ?_⟩⟩
      rw [← flat_pl]
      apply List.ext_getElem?
      intro j
      by_cases hj : j < L.length * 2
      · have hjc : j < cur.size := by omega
        rw [List.getElem?_take_of_lt hj, Array.getElem?_toList, Array.getElem?_toList]
        simp [putCells, hj, hjc, hl]
      · rw [List.getElem?_take_eq_none (by omega), List.getElem?_eq_none (by simp [hl]; omega)]
  · refine ⟨rfl, rfl, rfl, by simp [putRowK, putRow, mapBlock, Sort.ahead], fun k hk hne => ?_⟩
    have : g ≠ k := fun e => hne (by rw [e])
    simp [putRowK, putRow, mapBlock, Sort.ahead, Array.getElem?_modify, this]
/-- slices.Reverse at a list of places of one's own -/
theorem rev_any (w : World) (base : Nat) (v : Value) (L : List K) (h : OwnPl w base v L) (hm : L.length ≤ 1000000) :
    Calls Tryz.prog 52 #[v] w fun e w' => e = .returned (.tuple #[]) ∧ OwnPl w' base v L.reverse ∧ w.grownBy w' v.ownBlock := by
  have h' := h
  obtain ⟨_, ⟨rfl, h0⟩ | ⟨g, cap, cur, rfl, hb, hg, _⟩⟩ := h'
  · have hL : L = [] := List.eq_nil_of_length_eq_zero h0
    subst hL
    refine (AnyQ.slices_Reverse_empty laysRev none 0 w).mono ?_
    rintro e w' ⟨rfl, rfl⟩
    exact ⟨rfl, h, World.grownBy.refl _ _⟩
  · obtain ⟨_, hH⟩ := h.holds
    refine (AnyQ.slices_Reverse laysRev 2 Tryz.isAgg99 Tryz.sizeOf99 ck (fun x => rfl) (fun x v hv => by simp [ck] at hv; rcases hv with rfl | rfl <;> rfl) g 0 cap L.toArray w hH (by simp; omega)).mono ?_
    rintro e w' ⟨rfl, m, rfl⟩
    have e1 : L.toArray.reverse = L.reverse.toArray := by simp
    rw [e1]
    have h2 := h.put (M := L.reverse) (by simp) m
    exact ⟨rfl, h2.1, h2.2⟩
end Go.Proofs.YtbmohlkcmhhpgaaGreat
/-
  Versions, the walk.
-/
namespace Go.Proofs.YtbmohlkcmhhpgaaGreat
open Go.RowKit Go.Sort Go.Shelf

theorem alloc_drew2 (w : World) (o : Obj) : Below w.heap.size w (w.alloc o).drew := by
  have h := (Below.refl w.heap.size w).alloc (Nat.le_refl _) o
  exact ⟨h.os, h.tape, h.output, h.size, h.block⟩
/-- a place in a box -/
def PB (W : World) (b : Nat) (p : Pl) : Prop := W.heap[b]? = some (.cells #[.int .i64 p.1, .int .i64 p.2] 99 (0, 0))
theorem PB.cells {W : World} {b : Nat} {p : Pl} (h : PB W b p) : W.cell? ⟨b, 0, none⟩ = some (.int .i64 p.1) ∧ W.cell? ⟨b, 1, none⟩ = some (.int .i64 p.2) := by
  refine ⟨?_, ?_⟩ <;> simp [World.cell?, show W.heap[b]? = _ from h]
theorem PB.frozen {W : World} {b : Nat} {p : Pl} (h : PB W b p) (i : Nat) : W.frozen? ⟨b, i, none⟩ = false := frozen_of_row W b i _ _ h
abbrev s2 (W : World) (b : Nat) (p : Pl) : World := (W.setCell ⟨b, 0, none⟩ (.int .i64 p.1)).setCell ⟨b, 1, none⟩ (.int .i64 p.2)
theorem PB.two {W : World} {b : Nat} {p : Pl} (h : PB W b p) (x : Pl) : PB (s2 W b x) b x := by
  have h0 := heap_setCell_same W b 0 _ _ (.int .i64 x.1) h
  have h1 := heap_setCell_same _ b 1 _ _ (.int .i64 x.2) h0
  exact h1
theorem s2_other (W : World) (b : Nat) (p : Pl) {k : Nat} (h : k ≠ b) : (s2 W b p).heap[k]? = W.heap[k]? := by
  unfold s2
  rw [heap_setCell_other _ _ _ _ (fun e => h e), heap_setCell_other _ _ _ _ (fun e => h e)]
theorem plk_rev_snoc (k : K) (u : V4) (M Y : List V4) (hu : u.1 = k) (hM : ∀ x ∈ M, x.1 ≠ k) : plk (ofV k (u :: (M ++ Y))).reverse = plk (ofV k Y).reverse ++ [u.2] := by
  have e1 : ofV k (u :: (M ++ Y)) = u :: ofV k Y := by
    rw [show u :: (M ++ Y) = [u] ++ (M ++ Y) from rfl, ofV_append, ofV_append, ofV_none hM]
    simp [ofV, hu]
  rw [e1]
  simp [plk]
def VersPost (w : World) (k : K) (all : List V4) (e : Ending) (w' : World) : Prop := ∃ v, e = .returned v ∧ OwnPl w' w.heap.size v (plk (ofV k all)) ∧ Below w.heap.size w w'
set_option maxRecDepth 100000 in
set_option maxHeartbeats 8000000 in
theorem versions_any (w : World) (B Mp Mc Mn : Nat) (cap latest floor : Int) (pins : List (Int × Int)) (all : List V4) (nw : List K) (h : BA w B Mp Mc Mn cap latest floor pins all nw) (k : K) (hk : KIn k) :
    Calls Tryz.prog 31 #[ptr B, kv k] w fun e w' => VersPost w k all e w' := by
  obtain ⟨Kb, hKb⟩ : ∃ Kb, Kb = w.heap.size := ⟨_, rfl⟩
  obtain ⟨W1, hW1⟩ : ∃ W1, W1 = w.alloc (.cells #[.int .i64 k.1, .int .i64 k.2] 43) := ⟨_, rfl⟩
  have HB1 : Hid (Below w.heap.size w W1 ∧ W1.heap[Kb]? = some (.cells #[.int .i64 k.1, .int .i64 k.2] 43 (0, 0))) := by
    rw [hW1, hKb]
    exact ⟨(Below.refl _ _).alloc (Nat.le_refl _) _, heap_alloc_new _ _ rfl⟩
  obtain ⟨p1, p2, hp⟩ : ∃ p1 p2, nf f0 all k = (p1, p2) := ⟨_, _, rfl⟩
  have HAW : Hid (∀ W, Below w.heap.size w W → BA W B Mp Mc Mn cap latest floor pins all nw) := fun W hW => h.kept hW
  have HF : Hid (∀ W, Below W1.heap.size W1 W → ((Instr.lookup 86 (.map (some Mn)) (kv k) false).run Tryz.prog W = .ok (pv (p1, p2)) W ∧ W.cell? ⟨B, 5, none⟩ = some (.map (some Mn))) ∧ W.cell? ⟨Kb, 0, none⟩ = some (.int .i64 k.1) ∧ W.cell? ⟨Kb, 1, none⟩ = some (.int .i64 k.2)) := fun W hW => by
    have hba := HAW.out W (HB1.out.1.trans (hW.mono HB1.out.1.size))
    have h1 := kdN.look hba.mn hk
    rw [hba.newest, hp] at h1
    have h2 : W.heap[Kb]? = _ := (hW.block _ (blk_lt HB1.out.2)).trans HB1.out.2
    refine ⟨⟨h1, hba.cells.2.2.2.2.2⟩, ?_, ?_⟩ <;> simp [World.cell?, h2]
  obtain ⟨⟨l1, l2⟩, l3, l4⟩ := HF.out W1.drew (drew_below W1 1)
  have m1 := fun o => (HF.out _ (alloc_drew2 W1 o)).1.1
  have m2 := fun o => (HF.out _ (alloc_drew2 W1 o)).1.2
  have m3 := fun o => (HF.out _ (alloc_drew2 W1 o)).2.1
  have m4 := fun o => (HF.out _ (alloc_drew2 W1 o)).2.2
  have HK := hidC hk
  have HPp := hidC hp
  have HA := hidC h
  have hln : all.length ≤ 65536 := by have := h.ln; have := h.cp; omega
  clear h hk hp HF
  obtain ⟨k1, k2⟩ := k
  simp only at *
  go_enter Tryz.func31, Tryz.ntmps31
  go_wp2_with fail
  rw [← hW1, ← hKb]
  have HK0 := hidC hKb
  clear hW1 hKb
  go_region
  obtain ⟨W2, hW2⟩ : ∃ W2, W2 = (W1.alloc (.cells #[.int .i64 p1, .int .i64 p2] 99)).drew := ⟨_, rfl⟩
  obtain ⟨b6, hb6⟩ : ∃ b6, b6 = W1.heap.size := ⟨_, rfl⟩
  have HW2 : Hid (PB W2 b6 (p1, p2) ∧ W2.heap[Kb]? = some (.cells #[.int .i64 k1, .int .i64 k2] 43 (0, 0)) ∧ Below w.heap.size w W2) := by
    have hbA : Below W1.heap.size W1 W2 := by rw [hW2]; exact alloc_drew2 _ _
    refine ⟨?_, (hbA.block _ (blk_lt HB1.out.2)).trans HB1.out.2, HB1.out.1.trans (hbA.mono HB1.out.1.size)⟩
    rw [hW2, hb6]
    exact heap_alloc_new _ _ rfl
  rw [← hW2, ← hb6]
  have HKb : Hid (Kb = w.heap.size ∧ w.heap.size ≤ b6) := ⟨HK0.out, by have := HB1.out.1.size; omega⟩
  clear hW2 hb6 HK0 l1 l2 l3 l4 m1 m2 m3 m4 HB1
  go_wp2_with fail
  go_loopg [5, 6] all.length (fun gk x y wr => ∃ (X Y : List V4) (v : Value) (b : Nat) (q1 q2 : Int), x = v ∧ y = ptr b ∧ X.length = gk ∧ Hid (all = X ++ Y ∧ nf f0 X (k1, k2) = (q1, q2) ∧ PB wr b (q1, q2) ∧ w.heap.size ≤ b ∧ v.ownBlock ≠ some b ∧ wr.heap[Kb]? = some (.cells #[.int .i64 k1, .int .i64 k2] 43 (0, 0)) ∧ OwnPl wr (w.heap.size + 1) v (plk (ofV (k1, k2) Y).reverse) ∧ Below w.heap.size w wr))
  case atStart => exact ⟨all, [], _, b6, p1, p2, rfl, rfl, rfl, by simp, HPp.out, HW2.out.1, HKb.out.2, by simp [Value.ownBlock], HW2.out.2.1, World.ownsRow_nil _ _ _ _, HW2.out.2.2⟩
  case round =>
    clear HW2 HPp
    obtain ⟨X, Y, v, b, q1, q2, hxv, rfl, hgk, HR⟩ := hrel
    replace hxv := hxv.symm
    subst hxv
    obtain ⟨c0, c1⟩ := HR.out.2.2.1.cells
    simp only at c0 c1
    by_cases hq : 0 < q1
    · have hqb : decide (0 < q1) = true := decide_eq_true hq
      obtain ⟨A, u, M, hA, hu1, hM⟩ : ∃ A u M, X = A ++ u :: M ∧ u.1 = (k1, k2) ∧ ∀ x ∈ M, x.1 ≠ (k1, k2) := by
        refine last_split X (Classical.byContradiction fun hno => ?_)
        have h1 := nf_other X f0 (k := (k1, k2)) (fun x hx e => hno ⟨x, hx, e⟩)
        rw [HR.out.2.1] at h1
        have h2 : q1 = 0 := congrArg Prod.fst h1
        omega
      have hu2 : u.2 = (q1, q2) := by
        rw [← HR.out.2.1, hA, ← hu1]
        exact (nf_last (by rw [hu1]; exact hM)).symm
      have hue : u = ((k1, k2), (q1, q2)) := Prod.ext hu1 hu2
      subst hue
      obtain ⟨r1, r2, hr⟩ : ∃ r1 r2, nf f0 A (k1, k2) = (r1, r2) := ⟨_, _, rfl⟩
      have hall : all = A ++ ((k1, k2), (q1, q2)) :: (M ++ Y) := by rw [HR.out.1, hA]; simp
      have HG : Hid (all = A ++ ((k1, k2), (q1, q2)) :: (M ++ Y) ∧ nf f0 A (k1, k2) = (r1, r2) ∧ plk (ofV (k1, k2) (((k1, k2), (q1, q2)) :: (M ++ Y))).reverse = plk (ofV (k1, k2) Y).reverse ++ [(q1, q2)]) := ⟨hall, hr, plk_rev_snoc _ _ _ _ rfl hM⟩
      have hgk2 : A.length < gk := by rw [← hgk, hA]; simp
      have HApp : Hid (∀ ty, ∃ v' w', (Builtin.append_ #[78, 78] ty #[v, .slice (some ⟨wr.heap.size, 0, none⟩) 1 1]).run Tryz.prog (wr.alloc (.cells #[.int .i64 q1, .int .i64 q2] 99)) = .ok v' w' ∧ (w'.cell? ⟨b, 0, none⟩ = some (.int .i64 q1) ∧ w'.cell? ⟨b, 1, none⟩ = some (.int .i64 q2)) ∧ Hid (OwnPl w' (w.heap.size + 1) v' (plk (ofV (k1, k2) (((k1, k2), (q1, q2)) :: (M ++ Y))).reverse) ∧ w'.heap[Kb]? = some (.cells #[.int .i64 k1, .int .i64 k2] 43 (0, 0)) ∧ Below w.heap.size w w')) := fun ty => by
        have hrow := HR.out.2.2.2.2.2.2.1
        have hbw := HR.out.2.2.2.2.2.2.2
        have hlen : (plk (ofV (k1, k2) Y).reverse).length ≤ 100000 := by
          have h1 : (ofV (k1, k2) Y).length ≤ Y.length := List.length_filter_le _ _
          have h2 : Y.length ≤ all.length := by rw [HR.out.1]; simp
          simp [plk]; omega
        have hbl := blk_lt HR.out.2.2.1
        obtain ⟨v', w', h1, h2, h3⟩ := append_pl ty (w.heap.size + 1) v _ _ hrow q1 q2 hlen (by have := HR.out.2.2.2.1; omega)
        have hkp : ∀ j, j < wr.heap.size → v.ownBlock ≠ some j → w'.heap[j]? = wr.heap[j]? := fun j hj hne => (h3.block j (by simp; omega) (fun e => hne e.symm)).trans (heap_alloc_old _ _ hj)
        have hPB : PB w' b (q1, q2) := (hkp b hbl HR.out.2.2.2.2.1).trans HR.out.2.2.1
        have hKne : v.ownBlock ≠ some Kb := fun e => by have := (World.ownsRow.lt hrow _ e).1; have := HKb.out.1; omega
        refine ⟨v', w', h1, hPB.cells, ?_, (hkp Kb (blk_lt HR.out.2.2.2.2.2.1) hKne).trans HR.out.2.2.2.2.2.1, ?_⟩
        · unfold OwnPl
          rw [HG.out.2.2, cks_append, List.length_append]
          exact h2
        · exact (hbw.alloc hbw.size _).grown h3 (by have := hbw.size; simp; omega) (fun j e => by have := (World.ownsRow.lt hrow _ e).1; omega)
      clear HR hall hr hA hM hu1 hu2
      go_wp2_with (at_builtin; refine wpL_appP rfl _ _ 78 rfl v (.slice (some ⟨wr.heap.size, 0, none⟩) 1 1) rfl rfl HApp.out ?_; rintro v' w3 ⟨⟨d0, d1⟩, HW3⟩)
      obtain ⟨W4, hW4⟩ : ∃ W4, W4 = w3.alloc (.cells #[.int .i64 q1, .int .i64 q2] 99) := ⟨_, rfl⟩
      obtain ⟨b', hb'⟩ : ∃ b', b' = w3.heap.size := ⟨_, rfl⟩
      have HW4 : Hid (Below w3.heap.size w3 W4 ∧ PB W4 b' (q1, q2)) := by
        rw [hW4, hb']
        exact ⟨(Below.refl _ _).alloc (Nat.le_refl _) _, heap_alloc_new _ _ rfl⟩
      rw [← hW4, ← hb']
      have HB3 := hidC hb'
      clear hW4 hb' d0 d1 c0 c1
      have hb4 : Below w.heap.size w W4 := HW3.out.2.2.trans (HW4.out.1.mono HW3.out.2.2.size)
      have hba : BA W4.drew B Mp Mc Mn cap latest floor pins all nw := (HAW.out W4 hb4).same (fun _ _ => rfl)
      rw [HG.out.1] at hba
      have hvi : VIn ((k1, k2), (q1, q2)) := by
        have h1 : ((((k1, k2), (q1, q2)) : V4), pv (nf f0 A (k1, k2))) ∈ chg f0 (A ++ ((k1, k2), (q1, q2)) :: (M ++ Y)) := by rw [chg_append]; simp [chg]
        exact hba.mc.dm _ h1
      have hlk := kdC.look hba.mc hvi
      rw [chg_at hba.nodup] at hlk
      simp only [ev, HG.out.2.1, Option.getD_some] at hlk
      replace hlk : (Instr.lookup 85 (.map (some Mc)) (.agg #[.int .i64 k1, .int .i64 k2, .int .i64 q1, .int .i64 q2]) false).run Tryz.prog W4.drew = .ok (.agg #[.int .i64 r1, .int .i64 r2]) W4.drew := hlk
      obtain ⟨_, _, _, _, g4, _⟩ := hba.cells
      have hPd : PB W4.drew b' (q1, q2) := HW4.out.2
      obtain ⟨g5, g6⟩ := hPd.cells
      have g7 := hPd.frozen 0
      have g8 := hPd.frozen 1
      simp only at g5 g6
      have g5' : W4.cell? ⟨b', 0, none⟩ = some (.int .i64 q1) := HW4.out.2.cells.1
      have g6' : W4.cell? ⟨b', 1, none⟩ = some (.int .i64 q2) := HW4.out.2.cells.2
      have g7' := HW4.out.2.frozen 0
      have g8' := HW4.out.2.frozen 1
      have hKd : W4.drew.heap[Kb]? = some (.cells #[.int .i64 k1, .int .i64 k2] 43 (0, 0)) := (HW4.out.1.block _ (blk_lt HW3.out.2.1)).trans HW3.out.2.1
      have g9 : W4.drew.cell? ⟨Kb, 0, none⟩ = some (.int .i64 k1) := by simp [World.cell?, hKd]
      have g10 : W4.drew.cell? ⟨Kb, 1, none⟩ = some (.int .i64 k2) := by simp [World.cell?, hKd]
      have HN : Hid (all = A ++ ((k1, k2), (q1, q2)) :: (M ++ Y) ∧ nf f0 A (k1, k2) = (r1, r2) ∧ PB (s2 W4.drew b' (r1, r2)) b' (r1, r2) ∧ w.heap.size ≤ b' ∧ v'.ownBlock ≠ some b' ∧ (s2 W4.drew b' (r1, r2)).heap[Kb]? = some (.cells #[.int .i64 k1, .int .i64 k2] 43 (0, 0)) ∧ OwnPl (s2 W4.drew b' (r1, r2)) (w.heap.size + 1) v' (plk (ofV (k1, k2) (((k1, k2), (q1, q2)) :: (M ++ Y))).reverse) ∧ Below w.heap.size w (s2 W4.drew b' (r1, r2))) := by
        have hsz := HW3.out.2.2.size
        have hbe := HB3.out
        have hlt := World.ownsRow.lt HW3.out.1
        have hKl := blk_lt HW3.out.2.1
        refine ⟨HG.out.1, HG.out.2.1, hPd.two _, by omega, fun e => by have := (hlt _ e).2; omega, (s2_other _ _ _ (by omega)).trans hKd, ?_, ?_⟩
        · have h1 : OwnPl W4.drew (w.heap.size + 1) v' (plk (ofV (k1, k2) (((k1, k2), (q1, q2)) :: (M ++ Y))).reverse) := by
            obtain ⟨hl, hh⟩ := HW3.out.1
            refine ⟨hl, ?_⟩
            rcases hh with hh | ⟨g, cp, cur, e, hg, hx, r⟩
            · exact .inl hh
            · exact .inr ⟨g, cp, cur, e, hg, (HW4.out.1.block g (blk_lt hx)).trans hx, r⟩
          obtain ⟨hl, hh⟩ := h1
          refine ⟨hl, ?_⟩
          rcases hh with hh | ⟨g, cp, cur, e, hg, hx, r⟩
          · exact .inl hh
          · refine .inr ⟨g, cp, cur, e, hg, (s2_other _ _ _ (fun eq => ?_)).trans hx, r⟩
            have := (hlt g (by rw [e]; rfl)).2
            omega
        · have hd : Below w.heap.size w W4.drew := ⟨hb4.os, hb4.tape, hb4.output, hb4.size, hb4.block⟩
          exact (hd.setCell (p := ⟨b', 0, none⟩) (by simp; omega) _).setCell (p := ⟨b', 1, none⟩) (by simp; omega) _
      clear hba hvi hPd hKd hb4 HW3 HW4 HG HApp
      go_region
      go_wp2
      go_roundg A.length
      case measure => exact hgk2
      case rel => exact ⟨A, ((k1, k2), (q1, q2)) :: (M ++ Y), v', b', r1, r2, rfl, rfl, rfl, HN.out⟩
    · have hqb : decide (0 < q1) = false := decide_eq_false hq
      have HE : Hid (plk (ofV (k1, k2) all) = (plk (ofV (k1, k2) Y).reverse).reverse) := by
        have h1 : ofV (k1, k2) X = [] := ofV_none (fun v hv e => by
          obtain ⟨A, x, M, hA, hx, hM⟩ := last_split X ⟨v, hv, e⟩
          have h1 : nf f0 X (k1, k2) = x.2 := by
            rw [hA, ← hx]
            exact nf_last (by rw [hx]; exact hM)
          have h2 := HA.out.pl x (by rw [HR.out.1, hA]; simp)
          unfold PlOK at h2
          rw [← h1, HR.out.2.1] at h2
          simp only at h2
          omega)
        show _ = _
        rw [HR.out.1, ofV_append, h1]
        simp [plk]
      have hbw := HR.out.2.2.2.2.2.2.2
      have hrow := HR.out.2.2.2.2.2.2.1
      have hlen : (plk (ofV (k1, k2) Y).reverse).length ≤ 1000000 := by
        have h1 : (ofV (k1, k2) Y).length ≤ Y.length := List.length_filter_le _ _
        have h2 : Y.length ≤ all.length := by rw [HR.out.1]; simp
        simp [plk]; omega
      have HRev := hidC (rev_any wr (w.heap.size + 1) v _ hrow hlen)
      have HBw := hidC hbw
      have HLt : Hid (∀ k, v.ownBlock = some k → w.heap.size + 1 ≤ k ∧ k < wr.heap.size) := World.ownsRow.lt hrow
      clear HR hbw hrow hlen
      go_wp2_with fail
      refine HRev.out.mono ?_
      rintro e w5 ⟨rfl, ho, hg⟩
      have HX : Hid (VersPost w (k1, k2) all (.returned v) w5) := by
        refine ⟨v, rfl, ?_, HBw.out.grown hg HBw.out.size (fun j e => by have := (HLt.out j e).1; omega)⟩
        rw [HE.out]
        obtain ⟨hl, hh⟩ := ho
        refine ⟨hl, ?_⟩
        rcases hh with hh | ⟨g, cp, cur, e, hg, hx, r⟩
        · exact .inl hh
        · exact .inr ⟨g, cp, cur, e, by omega, hx, r⟩
      clear ho hg HRev
      go_wp2
      go_ret
      exact HX.out
end Go.Proofs.YtbmohlkcmhhpgaaGreat
/-
  Pins.
-/
namespace Go.Proofs.YtbmohlkcmhhpgaaGreat
open Go.RowKit Go.Sort

theorem wpL_appB {w : World} {ops : Array Oper} {rest : List Oper} {o : Oper} {a : Act} {Q : Exit → Act → World → Prop} (hgd : o.guard = none) (s x : Operand) (TS : TypeId)
    (ho : o.op = .call { callee := .builtin .append, args := #[s, x], argTypes := #[TS, TS] }) (v u : Value) (hs : a.eval s = v) (hx : a.eval x = u) {post : Value → World → Prop}
    (hr : ∀ ty, ∃ v' w', (Builtin.append_ #[TS, TS] ty #[v, u]).run Tryz.prog w = .ok v' w' ∧ post v' w') (h : ∀ v' w', post v' w' → wpList Tryz.prog ops Q rest (a.put o.dst v') w') : wpList Tryz.prog ops Q (o :: rest) a w := by
  obtain ⟨v', w', hr, h2⟩ := hr o.type
  refine wpList_plain hgd fun K hK' => ?_
  unfold Oper.wp
  simp [execOp, ho, resolve, invoke, builtin, hs, hx, hr, Result.andThen]
  exact hK' _ _ (h v' w' h2)
theorem infoPin : (Tryz.prog.info? 92).map (fun i => (i.zero, i.size, i.bytes)) = some (some (.agg #[.int .i64 0, .int .i64 0]), 2, 16) := by kernel_rfl
theorem append_pin {w : World} (ty : TypeId) (base : Nat) (v : Value) (n : Nat) (xs : List Value) (hown : w.ownsRow base 92 2 v n xs) (x y : Int) (hn : n ≤ 1000) (hbase : base ≤ w.heap.size) :
    ∃ v' w', (Builtin.append_ #[22, 22] ty #[v, .slice (some ⟨w.heap.size, 0, none⟩) 1 1]).run Tryz.prog (w.alloc (.cells #[.int .i64 x, .int .i64 y] 92)) = .ok v' w' ∧ w'.ownsRow base 92 2 v' (n + 1) (xs ++ [.int .i64 x, .int .i64 y]) ∧ (w.alloc (.cells #[.int .i64 x, .int .i64 y] 92)).grownBy w' v.ownBlock := by
  obtain ⟨i0, hi, hz0, hz1, hz2⟩ := info_parts infoPin
  have hb : (w.alloc (.cells #[.int .i64 x, .int .i64 y] 92)).heap[w.heap.size]? = some (.cells #[.int .i64 x, .int .i64 y] 92 (0, 0)) := heap_alloc_new _ _ rfl
  obtain ⟨v', w', hr, h2, h3, _⟩ := run_append_own_at (P := Tryz.prog) (w := w.alloc (.cells #[.int .i64 x, .int .i64 y] 92)) base 22 ty 92 i0 (.agg #[.int .i64 0, .int .i64 0]) 2 16 Tryz.underlying22 hi hz0 hz1 hz2 rfl (by omega) v n xs (World.ownsRow.alloc hown _) ⟨w.heap.size, 0, none⟩ 1 1 [.int .i64 x, .int .i64 y] rfl (fun j u hu => by
      rw [addr_add, Nat.zero_add]
      simp only [World.cell?, hb]
      simpa using hu) (by intro u hu; simp at hu; rcases hu with rfl | rfl <;> rfl) (by unfold maxLen; omega) (by omega) (by simp; omega)
  exact ⟨v', w', hr, h2, h3⟩
/-- the cells of a list of pins -/
def pcs (pins : List (Int × Int)) : List Int → List Value
  | [] => []
  | n :: d => .int .i64 n :: .int .i64 ((fpn pins n).getD 0) :: pcs pins d
theorem pcs_append (pins : List (Int × Int)) : ∀ A C : List Int, pcs pins (A ++ C) = pcs pins A ++ pcs pins C
  | [], _ => rfl
  | n :: A, C => by simp only [List.cons_append, pcs, pcs_append pins A C]
def PinsPost (w : World) (pins : List (Int × Int)) (e : Ending) (w' : World) : Prop :=
  ∃ (v : Value) (d : List Int), e = .returned v ∧ d.Pairwise (· < ·) ∧ d.Perm (pins.map Prod.fst) ∧ w'.ownsRow w.heap.size 92 2 v d.length (pcs pins d) ∧ Below w.heap.size w w'
set_option maxRecDepth 100000 in
set_option maxHeartbeats 2000000 in
theorem pins_any (w : World) (B Mp Mc Mn : Nat) (cap latest floor : Int) (pins : List (Int × Int)) (all : List V4) (nw : List K) (h : BA w B Mp Mc Mn cap latest floor pins all nw) :
    Calls Tryz.prog 26 #[ptr B] w fun e w' => PinsPost w pins e w' := by
  have HA := hidC h
  clear h
  go_enter Tryz.func26, Tryz.ntmps26
  go_wp2_with fail
  refine (pinned_any w B Mp Mc Mn cap latest floor pins all nw HA.out).mono ?_
  rintro e W1 ⟨v0, d, rfl, hd1, hd2, hrow, hb1⟩
  have hdl : d.length ≤ 32 := by have := hd2.length_eq; have := HA.out.ps.1; simp at *; omega
  obtain ⟨ao, c, rfl, hat, hao⟩ := IAt.ofRow hrow
  have HD := hidC (And.intro hd1 hd2)
  have HB1 := hidC hb1
  have HT : Hid (∀ W, Below W1.heap.size W1 W → IAt W ao d) := fun W hW => hat.fr (G := fun _ => False) (Fr.ofBelow hW) (fun _ _ h => h)
  have HAW : Hid (∀ W, Below W1.heap.size W1 W → BA W B Mp Mc Mn cap latest floor pins all nw) := fun W hW => (HA.out.kept hb1).kept hW
  have HIn : Hid (∀ x ∈ d, In64 x) := fun x hx => by
    obtain ⟨p, hp, rfl⟩ := List.mem_map.1 (hd2.subset hx)
    have h1 := HA.out.ps.2 p hp
    have h2 := HA.out.la
    unfold In64
    omega
  clear hd1 hd2 hrow hb1 hat hao HA
  obtain ⟨dn, hdn⟩ : ∃ dn, dn = d.length := ⟨_, rfl⟩
  have HDn := hidC hdn
  rw [← hdn] at hdl ⊢
  clear hdn
  go_wp2_with fail
  go_loopw [3, 5, 9] (fun x _ y wr => ∃ (i : Nat) (v : Value), i ≤ dn ∧ y = .int .i64 (i : Int) ∧ x = v ∧ Hid (wr.ownsRow W1.heap.size 92 2 v i (pcs pins (d.take i)) ∧ Below W1.heap.size W1 wr)) (fun _ _ y _ => dn - (intOf y).toNat)
  case atStart => exact ⟨0, _, Nat.zero_le _, rfl, rfl, World.ownsRow_nil _ _ _ _, Below.refl _ _⟩
  case round =>
    obtain ⟨i, v, hi, rfl, hxv, HI⟩ := hrel
    replace hxv := hxv.symm
    subst hxv
    by_cases hlt : i < dn
    · have hil : i < d.length := by have := HDn.out; omega
      obtain ⟨g, off, rfl, c1⟩ := HT.out wr HI.out.2 i hil
      have hA := HAW.out wr HI.out.2
      have hlk := kdP.look hA.mp (HIn.out _ (List.getElem_mem hil))
      rw [fm_pins] at hlk
      obtain ⟨_, _, _, c3, _, _⟩ := hA.cells
      have HP : Hid (pcs pins (d.take (i + 1)) = pcs pins (d.take i) ++ [.int .i64 d[i], .int .i64 ((fpn pins d[i]).getD 0)]) := by
        show _ = _
        rw [List.take_succ_eq_append_getElem hil, pcs_append]
        rfl
      have hcn : ((fpn pins d[i]).map ei).getD (ei 0) = .int .i64 ((fpn pins d[i]).getD 0) := by cases fpn pins d[i] <;> rfl
      rw [hcn] at hlk
      have hlk' : (Instr.lookup 84 (.map (some Mp)) (.int .i64 d[i]) false).run Tryz.prog wr = .ok (.int .i64 ((fpn pins d[i]).getD 0)) wr := hlk
      clear hlk hcn hA
      have HDi : Hid (d[i] = d[i]) := rfl
      generalize d[i] = x at *
      generalize (fpn pins x).getD 0 = z at *
      have HApp : Hid (∀ ty, ∃ v' w', (Builtin.append_ #[22, 22] ty #[v, .slice (some ⟨wr.heap.size, 0, none⟩) 1 1]).run Tryz.prog (wr.alloc (.cells #[.int .i64 x, .int .i64 z] 92)) = .ok v' w' ∧ (w'.ownsRow W1.heap.size 92 2 v' (i + 1) (pcs pins (d.take (i + 1))) ∧ Below W1.heap.size W1 w')) := fun ty => by
        obtain ⟨v', w', h1, h2, h3⟩ := append_pin ty W1.heap.size v i _ HI.out.1 x z (by omega) HI.out.2.size
        refine ⟨v', w', h1, by rw [HP.out]; exact h2, ?_⟩
        have hb : Below W1.heap.size W1 (wr.alloc (.cells #[.int .i64 x, .int .i64 z] 92)) := HI.out.2.alloc HI.out.2.size _
        exact hb.trans (grown_below h3 (fun k hk => (World.ownsRow.lt HI.out.1 k hk).1) hb.size)
      clear HP HI HDi
      go_wp2_with (at_builtin; refine wpL_appB rfl _ _ 22 rfl v (.slice (some ⟨wr.heap.size, 0, none⟩) 1 1) rfl rfl (post := fun v' w' => w'.ownsRow W1.heap.size 92 2 v' (i + 1) (pcs pins (d.take (i + 1))) ∧ Below W1.heap.size W1 w') HApp.out ?_; rintro v' w3 hown; replace hown := hidC hown)
      exact ⟨⟨i + 1, v', by omega, by go_num, rfl, hown.out⟩, by simp [intOf]; omega⟩
    · have hie : i = dn := by omega
      subst hie
      have HX : Hid (PinsPost w pins (.returned v) wr) := by
        have h1 := HI.out.1
        rw [HDn.out, List.take_length] at h1
        have hb1 := HB1.out
        refine ⟨v, d, rfl, HD.out.1, HD.out.2, ?_, hb1.trans (HI.out.2.mono hb1.size)⟩
        obtain ⟨hl, hh⟩ := h1
        refine ⟨hl, ?_⟩
        rcases hh with hh | ⟨g, cap, cur, e, hg, r⟩
        · exact .inl hh
        · exact .inr ⟨g, cap, cur, e, Nat.le_trans hb1.size hg, r⟩
      clear HI
      go_wp2
      go_ret
      exact HX.out
end Go.Proofs.YtbmohlkcmhhpgaaGreat
/-
  sameKeys, samePlaces, samePins, AT LIKE LISTS; THE BOOK'S LISTS AS LISTS OF TWO INTS EACH.
-/
namespace Go.Proofs.YtbmohlkcmhhpgaaGreat
open Go.RowKit Go.Sort

theorem KeysAt.get2 {w : World} {ao : Option Addr} {L : List K} (h : KeysAt w ao L) (k : Nat) (hk : k < L.length) : ∃ b off, ao = some ⟨b, off, none⟩ ∧ w.cell? ⟨b, off + k * 2, none⟩ = some (.int .i64 (kd L k).1) ∧ w.cell? ⟨b, off + k * 2 + 1, none⟩ = some (.int .i64 (kd L k).2) := by
  rcases h with h0 | ⟨b, off, rfl, hc⟩
  · rw [h0] at hk; simp at hk
  · exact ⟨b, off, rfl, KeysAt.at hc k hk⟩
theorem eqPlace : (∀ (x y : Int × Int) (w : World), Sem.run Tryz.prog (binOp .neq 99 (.agg #[.int .i64 x.1, .int .i64 x.2]) (.agg #[.int .i64 y.1, .int .i64 y.2])) w = .ok (.bool (!decide (x = y))) w) := fun x y w => by
  have u3 := Tryz.underlying3
  have a3 := Tryz.isAgg3
  have z3 := Tryz.sizeOf3
  have hS : Tryz.prog.underlying 99 = some (.struct (Tryz.prog.fieldsOf 99)) := by kernel_rfl
  have hp : Tryz.prog.stoodInHeld 99 = false := by kernel_rfl
  rw [run_neq_struct, show (10000 : Nat) = 9999 + 1 from rfl, run_equalIn_agg w 9999 99 _ _ hS hp]
  simp only [Program.fieldsOf, Tryz.underlying99]
  go_simp
  obtain ⟨x1, x2⟩ := x
  obtain ⟨y1, y2⟩ := y
  by_cases h1 : x1 = y1 <;> by_cases h2 : x2 = y2 <;> simp [h1, h2]
theorem gdPlace (op : BinOp) (a b : Operand) (x1 x2 y1 y2 : Int) (w : World) : Sem.run Tryz.prog (eqGuard op 99 a b (.agg #[.int .i64 x1, .int .i64 x2]) (.agg #[.int .i64 y1, .int .i64 y2])) w = .ok () w := by
  exact GuardAt.agg (P := Tryz.prog) (T := 99) (fun x : K => #[.int .i64 x.1, .int .i64 x.2]) (by kernel_rfl) op a b (x1, x2) (y1, y2) w
theorem eqPin : (∀ (x y : Int × Int) (w : World), Sem.run Tryz.prog (binOp .neq 92 (.agg #[.int .i64 x.1, .int .i64 x.2]) (.agg #[.int .i64 y.1, .int .i64 y.2])) w = .ok (.bool (!decide (x = y))) w) := fun x y w => by
  have u3 := Tryz.underlying3
  have a3 := Tryz.isAgg3
  have z3 := Tryz.sizeOf3
  have hS : Tryz.prog.underlying 92 = some (.struct (Tryz.prog.fieldsOf 92)) := by kernel_rfl
  have hp : Tryz.prog.stoodInHeld 92 = false := by kernel_rfl
  rw [run_neq_struct, show (10000 : Nat) = 9999 + 1 from rfl, run_equalIn_agg w 9999 92 _ _ hS hp]
  simp only [Program.fieldsOf, Tryz.underlying92]
  go_simp
  obtain ⟨x1, x2⟩ := x
  obtain ⟨y1, y2⟩ := y
  by_cases h1 : x1 = y1 <;> by_cases h2 : x2 = y2 <;> simp [h1, h2]
theorem gdPin (op : BinOp) (a b : Operand) (x1 x2 y1 y2 : Int) (w : World) : Sem.run Tryz.prog (eqGuard op 92 a b (.agg #[.int .i64 x1, .int .i64 x2]) (.agg #[.int .i64 y1, .int .i64 y2])) w = .ok () w := by
  exact GuardAt.agg (P := Tryz.prog) (T := 92) (fun x : K => #[.int .i64 x.1, .int .i64 x.2]) (by kernel_rfl) op a b (x1, x2) (y1, y2) w
set_option maxHeartbeats 1000000 in
theorem sameKeys_eq (w : World) (ao bo : Option Addr) (n cap cb : Nat) (L : List K) (h1 : KeysAt w ao L) (h2 : KeysAt w bo L) (hn : n = L.length) (hm : n ≤ 8796093022208) :
    Calls Tryz.prog 30 #[.slice ao n cap, .slice bo n cb] w fun e w' => e = .returned (.bool true) ∧ ∃ q, w' = w.drewN q := by
  have H1 : Hid (KeysAt w ao L) := h1
  have H2 : Hid (KeysAt w bo L) := h2
  have HN : Hid (n = L.length) := hn
  clear h1 h2 hn
  go_enter Tryz.func30, Tryz.ntmps30
  go_wp2_with fail
  go_loopw [5] (fun x wr => ∃ k q : Nat, k ≤ n ∧ x = .int .i64 (k : Int) ∧ wr = w.drewN q) (fun x _ => n - (intOf x).toNat)
  case atStart => exact ⟨0, 0, Nat.zero_le _, rfl, rfl⟩
  case round =>
    obtain ⟨k, q, hk, rfl, rfl⟩ := hrel
    by_cases hlt : k < n
    · have hlt' : k < L.length := by have := HN.out; omega
      obtain ⟨b, off, rfl, e1, e2⟩ := KeysAt.get2 H1.out k hlt'
      obtain ⟨d, doff, rfl, e3, e4⟩ := KeysAt.get2 H2.out k hlt'
      generalize kd L k = kk at *
      obtain ⟨u, s⟩ := kk
      simp only at e1 e2 e3 e4
      have hq := run_neKey u s u s
      have hgd := fun op x y => run_eqGuard op x y u s u s
      simp only [decide_true, Bool.not_true] at hq
      go_wp2_with fail
      go_quiet (fail)
      go_wp2_with fail
      go_roundw
      case rel => exact ⟨k + 1, q + nq, by omega, by go_num, rfl⟩
      case measure => simp [intOf]; omega
    · obtain rfl : k = n := by omega
      go_wp2
      go_ret
      exact ⟨rfl, q, rfl⟩
set_option maxHeartbeats 1000000 in
theorem samePlaces_eq (w : World) (ao bo : Option Addr) (n cap cb : Nat) (L : List K) (h1 : KeysAt w ao L) (h2 : KeysAt w bo L) (hn : n = L.length) (hm : n ≤ 8796093022208) :
    Calls Tryz.prog 33 #[.slice ao n cap, .slice bo n cb] w fun e w' => e = .returned (.bool true) ∧ ∃ q, w' = w.drewN q := by
  have H1 : Hid (KeysAt w ao L) := h1
  have H2 : Hid (KeysAt w bo L) := h2
  have HN : Hid (n = L.length) := hn
  clear h1 h2 hn
  go_enter Tryz.func33, Tryz.ntmps33
  go_wp2_with fail
  go_loopw [5] (fun x wr => ∃ k q : Nat, k ≤ n ∧ x = .int .i64 (k : Int) ∧ wr = w.drewN q) (fun x _ => n - (intOf x).toNat)
  case atStart => exact ⟨0, 0, Nat.zero_le _, rfl, rfl⟩
  case round =>
    obtain ⟨k, q, hk, rfl, rfl⟩ := hrel
    by_cases hlt : k < n
    · have hlt' : k < L.length := by have := HN.out; omega
      obtain ⟨b, off, rfl, e1, e2⟩ := KeysAt.get2 H1.out k hlt'
      obtain ⟨d, doff, rfl, e3, e4⟩ := KeysAt.get2 H2.out k hlt'
      generalize kd L k = kk at *
      obtain ⟨u, s⟩ := kk
      simp only at e1 e2 e3 e4
      have hq := eqPlace (u, s) (u, s)
      have hgd := fun op x y => gdPlace op x y u s u s
      simp only [decide_true, Bool.not_true] at hq
      go_wp2_with fail
      go_quiet (fail)
      go_wp2_with fail
      go_roundw
      case rel => exact ⟨k + 1, q + nq, by omega, by go_num, rfl⟩
      case measure => simp [intOf]; omega
    · obtain rfl : k = n := by omega
      go_wp2
      go_ret
      exact ⟨rfl, q, rfl⟩
set_option maxHeartbeats 1000000 in
theorem samePins_eq (w : World) (ao bo : Option Addr) (n cap cb : Nat) (L : List K) (h1 : KeysAt w ao L) (h2 : KeysAt w bo L) (hn : n = L.length) (hm : n ≤ 8796093022208) :
    Calls Tryz.prog 27 #[.slice ao n cap, .slice bo n cb] w fun e w' => e = .returned (.bool true) ∧ ∃ q, w' = w.drewN q := by
  have H1 : Hid (KeysAt w ao L) := h1
  have H2 : Hid (KeysAt w bo L) := h2
  have HN : Hid (n = L.length) := hn
  clear h1 h2 hn
  go_enter Tryz.func27, Tryz.ntmps27
  go_wp2_with fail
  go_loopw [5] (fun x wr => ∃ k q : Nat, k ≤ n ∧ x = .int .i64 (k : Int) ∧ wr = w.drewN q) (fun x _ => n - (intOf x).toNat)
  case atStart => exact ⟨0, 0, Nat.zero_le _, rfl, rfl⟩
  case round =>
    obtain ⟨k, q, hk, rfl, rfl⟩ := hrel
    by_cases hlt : k < n
    · have hlt' : k < L.length := by have := HN.out; omega
      obtain ⟨b, off, rfl, e1, e2⟩ := KeysAt.get2 H1.out k hlt'
      obtain ⟨d, doff, rfl, e3, e4⟩ := KeysAt.get2 H2.out k hlt'
      generalize kd L k = kk at *
      obtain ⟨u, s⟩ := kk
      simp only at e1 e2 e3 e4
      have hq := eqPin (u, s) (u, s)
      have hgd := fun op x y => gdPin op x y u s u s
      simp only [decide_true, Bool.not_true] at hq
      go_wp2_with fail
      go_quiet (fail)
      go_wp2_with fail
      go_roundw
      case rel => exact ⟨k + 1, q + nq, by omega, by go_num, rfl⟩
      case measure => simp [intOf]; omega
    · obtain rfl : k = n := by omega
      go_wp2
      go_ret
      exact ⟨rfl, q, rfl⟩
/-- the pins as a book tells them -/
def pnl (pins : List (Int × Int)) (d : List Int) : List K := d.map (fun n => (n, (fpn pins n).getD 0))
theorem pcs_cks (pins : List (Int × Int)) : ∀ d, pcs pins d = cks (pnl pins d)
  | [] => rfl
  | n :: d => by simp only [pcs, pnl, List.map_cons, cks]; rw [pcs_cks pins d]; rfl
theorem row_at {w : World} {base : Nat} {T : TypeId} {v : Value} {L : List K} (h : w.ownsRow base T 2 v L.length (cks L)) : ∃ ao c, v = .slice ao L.length c ∧ KeysAt w ao L := by
  obtain ⟨_, ⟨rfl, h0⟩ | ⟨g, cp, cur, rfl, h1, h2, h3, h4, h5, h6⟩⟩ := h
  · have : L = [] := List.eq_nil_of_length_eq_zero h0
    subst this
    exact ⟨none, 0, rfl, .inl rfl⟩
  · refine ⟨some ⟨g, 0, none⟩, cp, rfl, .inr ⟨g, 0, rfl, fun j u hu => ?_⟩⟩
    rw [World.cell?, h2, Nat.zero_add]
    rw [← h6, List.getElem?_take] at hu
    split at hu
    · simpa using hu
    · cases hu
end Go.Proofs.YtbmohlkcmhhpgaaGreat
