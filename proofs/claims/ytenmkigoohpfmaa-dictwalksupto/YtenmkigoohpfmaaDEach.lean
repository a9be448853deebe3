/-
  Each.
-/
import Derived.Test.YtenmkigoohpfmaaDKeys
namespace Go.Proofs.Ytenmkigoohpfmaa
open Go.RowKit Go.Sort

abbrev TP : TypeId := 58
abbrev TPs : TypeId := 56
/-- the cells of pairs -/
def cps : List En → List Value
  | [] => []
  | e :: l => .int .i64 e.k.1 :: .int .i64 e.k.2 :: .int .i64 e.v :: cps l
theorem cps_append (A B : List En) : cps (A ++ B) = cps A ++ cps B := by
  induction A with
  | nil => rfl
  | cons e A ih => simp [cps, ih]
theorem cps_snoc (l : List En) (e : En) : cps (l ++ [e]) = cps l ++ [.int .i64 e.k.1, .int .i64 e.k.2, .int .i64 e.v] := by rw [cps_append]; rfl
theorem infoP : (Try.prog.info? TP).map (fun i => (i.zero, i.size, i.bytes)) = some (some (.agg #[.int .i64 0, .int .i64 0, .int .i64 0]), 3, 24) := by kernel_rfl
theorem pair_new (w : World) (x y z : Int) : ∀ j u, ([.int .i64 x, .int .i64 y, .int .i64 z] : List Value)[j]? = some u → (w.alloc (.cells #[.int .i64 x, .int .i64 y, .int .i64 z] TP)).cell? ((⟨w.heap.size, 0, none⟩ : Addr).add j) = some u := by
  intro j u hu
  have hb := heap_alloc_new (w := w) (.cells #[.int .i64 x, .int .i64 y, .int .i64 z] TP) w.heap.size rfl
  rw [addr_add, World.cell?, hb]
  simpa using hu
theorem make_pairs0 (c : Nat) (hc : c * 24 ≤ 281474976710656) (u : World) : (Instr.makeSlice TPs (.int .i64 0) (.int .i64 (c : Int))).run Try.prog u = .ok (.slice (some ⟨u.heap.size, 0, none⟩) 0 c) (u.alloc (.cells (madeCells #[.int .i64 0, .int .i64 0, .int .i64 0] (c * 3)) TP)) := by
  obtain ⟨i0, hi, hz0, hz1, hz2⟩ := info_parts infoP
  have h := run_make (P := Try.prog) u TPs TP i0 (.agg #[.int .i64 0, .int .i64 0, .int .i64 0]) Try.underlying56 hi hz0 .i64 .i64 (0 : Int) (c : Int) (by omega) (by omega) (by rw [hz2]; omega) (by omega)
  rw [hz1, Int.toNat_natCast] at h
  exact h
/-- the list of an iterator, in the making -/
structure EL (w wr : World) (B g j n : Nat) (l : List En) : Prop where
  box : wr.heap[B]? = some (.cells #[.slice (some ⟨g, 0, none⟩) j n] TPs (0, 0))
  row : wr.ownsRow w.heap.size TP 3 (.slice (some ⟨g, 0, none⟩) j n) j (cps (l.take j))
  bel : Below w.heap.size w wr
  ge : w.heap.size ≤ B ∧ w.heap.size ≤ g ∧ B ≠ g
theorem EL.cell {w wr : World} {B g j n : Nat} {l : List En} (h : EL w wr B g j n l) : wr.cell? ⟨B, 0, none⟩ = some (.slice (some ⟨g, 0, none⟩) j n) := by rw [World.cell?, h.box]; rfl
theorem gr_set (W : World) (a : Addr) (v : Value) : W.grownBy (W.setCell a v) (some a.block) := ⟨rfl, rfl, rfl, by simp, fun k _ hk => heap_setCell_other W a k v (fun e => hk (by rw [e]))⟩
/-- one pair more -/
theorem EL.more {w wr : World} {B g j n : Nat} {l : List En} (h : EL w wr B g j n l) (hj : j < n) (hl : n = l.length) (x : En) (hx : l[j]? = some x) (ty : TypeId) :
    ∃ W5, (Builtin.append_ #[TPs, TPs] ty #[.slice (some ⟨g, 0, none⟩) j n, .slice (some ⟨wr.heap.size, 0, none⟩) 1 1]).run Try.prog (wr.alloc (.cells #[.int .i64 x.k.1, .int .i64 x.k.2, .int .i64 x.v] TP)).drew = .ok (.slice (some ⟨g, 0, none⟩) (j + 1) n) W5 ∧
      W5.cell? ⟨B, 0, none⟩ = some (.slice (some ⟨g, 0, none⟩) j n) ∧ W5.frozen? ⟨B, 0, none⟩ = false ∧ Hid (EL w (W5.setCell ⟨B, 0, none⟩ (.slice (some ⟨g, 0, none⟩) (j + 1) n)) B g (j + 1) n l) := by
  obtain ⟨i0, hi, hz0, hz1, hz2⟩ := info_parts infoP
  have hlt := blk_lt h.box
  have hrow : (wr.drew.alloc (.cells #[.int .i64 x.k.1, .int .i64 x.k.2, .int .i64 x.v] TP)).ownsRow w.heap.size TP 3 (.slice (some ⟨g, 0, none⟩) j n) j (cps (l.take j)) := World.ownsRow.alloc (w := wr.drew) h.row _
  obtain ⟨W5, hr, ho, hg⟩ := run_append_own_spare (P := Try.prog) (wr.drew.alloc (.cells #[.int .i64 x.k.1, .int .i64 x.k.2, .int .i64 x.v] TP)) w.heap.size TPs ty TP i0 3 Try.underlying56 hi hz1 g j n _ hrow ⟨wr.heap.size, 0, none⟩ 1 1 [.int .i64 x.k.1, .int .i64 x.k.2, .int .i64 x.v] rfl (pair_new wr.drew _ _ _) (by simp [Value.oneCell']) (by omega)
  have hbox : W5.heap[B]? = some (.cells #[.slice (some ⟨g, 0, none⟩) j n] TPs (0, 0)) := by
    rw [hg.block B (by simp; exact Nat.lt_succ_of_lt hlt) (fun e => by cases e; exact h.ge.2.2 rfl), heap_alloc_old (w := wr.drew) _ _ hlt]; exact h.box
  refine ⟨W5, hr, blk_cell hbox rfl, frozen_of_row _ _ _ _ _ hbox, ?_, ?_, ?_, h.ge⟩
  · rw [blk_set _ hbox]; rfl
  · have htk : l.take (j + 1) = l.take j ++ [x] := by
      obtain ⟨h1, h2⟩ := List.getElem?_eq_some_iff.1 hx
      rw [List.take_succ_eq_append_getElem h1, h2]
    rw [htk, cps_snoc]
    refine World.ownsRow.kept ho (row := some B) (gr_set W5 ⟨B, 0, none⟩ _) (.inr ?_)
    intro e; simp [Value.ownBlock] at e; exact h.ge.2.2 e.symm
  · have h0 : Below w.heap.size w wr.drew := ⟨h.bel.os, h.bel.tape, h.bel.output, h.bel.size, h.bel.block⟩
    have h1 : Below w.heap.size w (wr.drew.alloc (.cells #[.int .i64 x.k.1, .int .i64 x.k.2, .int .i64 x.v] TP)) := h0.alloc h.bel.size _
    have h2 : Below w.heap.size w W5 := h1.trans (grown_below hg (fun q hq => by cases hq; exact h.ge.2.1) h1.size)
    exact ⟨h2.os, h2.tape, h2.output, by simpa using h2.size, fun k hk => (heap_setCell_other W5 ⟨B, 0, none⟩ k _ (by have := h.ge.1; simp; omega)).trans (h2.block k hk)⟩
theorem step_el {w wr : World} {B g j n : Nat} {l : List En} {ops : Array Oper} {o : Oper} {a : Act} {K' : Act → World → Prop} {Q : Exit → Act → World → Prop} {E : Prop} (hgd : o.guard = none) (s x : Operand)
    (ho : o.op = .call { callee := .builtin .append, args := #[s, x], argTypes := #[TPs, TPs] }) (h : EL w wr B g j n l) (hj : j < n) (hl : n = l.length) (e : En) (he : l[j]? = some e)
    (hs : a.eval s = .slice (some ⟨g, 0, none⟩) j n) (hx : a.eval x = .slice (some ⟨wr.heap.size, 0, none⟩) 1 1)
    (hK : ∀ W5, W5.cell? ⟨B, 0, none⟩ = some (.slice (some ⟨g, 0, none⟩) j n) → W5.frozen? ⟨B, 0, none⟩ = false → Hid (EL w (W5.setCell ⟨B, 0, none⟩ (.slice (some ⟨g, 0, none⟩) (j + 1) n)) B g (j + 1) n l) → K' (a.put o.dst (.slice (some ⟨g, 0, none⟩) (j + 1) n)) W5) :
    if Region.wanted o (yielded ops a.tmps) = true then Oper.wp Try.prog o a (wr.alloc (.cells #[.int .i64 e.k.1, .int .i64 e.k.2, .int .i64 e.v] TP)).drew K' Q else E := by
  have hw : Region.wanted o (yielded ops a.tmps) = true := by simp [Region.wanted, hgd]
  rw [if_pos hw]
  obtain ⟨W5, hr, h2, h3, h4⟩ := h.more hj hl e he o.type
  unfold Oper.wp execOp
  simp only [ho, resolve, invoke, builtin, Sem.run_bind, Sem.run_pure, Result.andThen_ok, List.map_toArray, List.map_cons, List.map_nil, hs, hx, hr]
  exact hK W5 h2 h3 h4

set_option maxRecDepth 100000 in
set_option maxHeartbeats 1000000 in
theorem each_any (w : World) (D M L P : Nat) (hf : Value) (es : List En) (p : Int) (h : DA w D M L hf P es) (hm : (ptI P p es).length * 24 ≤ 281474976710656) :
    Calls Try.prog 7 #[ptr D, .int .i64 p] w fun e w' => ∃ B g, e = .returned (.func (.func 17) #[] #[ptr B]) ∧ Hid (EL w w' B g (ptI P p es).length (ptI P p es).length (ptI P p es)) := by
  have hmf : ∀ (fn : Fn) (first cap : Array Value) (w : World), (Instr.makeFunc fn first cap).run Try.prog w = .ok (.func fn first cap) w := fun _ _ _ _ => rfl
  have HD : Hid (DA w D M L hf P es) := h
  clear h
  obtain ⟨l, hl⟩ : ∃ l, l = ptI P p es := ⟨_, rfl⟩
  rw [← hl] at hm ⊢
  obtain ⟨n, hn⟩ : ∃ n, n = l.length := ⟨_, rfl⟩
  rw [← hn] at hm ⊢
  go_enter Try.func7, Try.ntmps7
  go_wp2_with fail
  refine (line_any w D M L P hf es p HD.out).mono ?_
  rintro e w1 ⟨rfl, hb1⟩
  have HB1 : Hid (Below w.heap.size w w1) := hb1
  have HN : Hid (n = l.length) := hn
  rw [← hl, ← hn]
  have HLD : Hid (∀ W, Below w.heap.size w W → ∀ X x Y, l = X ++ x :: Y → W.cell? ⟨x.b, 0, none⟩ = some (.int .i64 x.k.1) ∧ W.cell? ⟨x.b, 1, none⟩ = some (.int .i64 x.k.2) ∧ W.cell? ⟨x.b, 2, none⟩ = some (.int .i64 x.v) ∧ W.cell? ⟨x.b, 5, none⟩ = some (hp Y)) := fun W hW X x Y hX => (HD.out.kept hW).node (hl.symm.trans hX)
  clear hb1 hn hl
  obtain ⟨v1, hv1⟩ := hp_ptr l
  obtain ⟨v2, hv2⟩ := lp_ptr l
  rw [hv1, hv2]
  have hmk := fun u => make_pairs0 n hm u
  have HEL : Hid (EL w (((w1.alloc (.cells #[.pointer v1, .pointer v2, .int .i64 (n : Int)] TL)).alloc (.cells (madeCells #[.int .i64 0, .int .i64 0, .int .i64 0] (n * 3)) TP)).alloc (.cells #[.slice (some ⟨w1.heap.size + 1, 0, none⟩) 0 n] TPs)) (w1.heap.size + 1 + 1) (w1.heap.size + 1) 0 n l) := by
    have hs := HB1.out.size
    refine ⟨heap_alloc_new _ _ (by simp), ?_, ((HB1.out.alloc hs _).alloc (by simp; omega) _).alloc (by simp; omega) _, by omega, by omega, by omega⟩
    rw [List.take_zero]
    have := World.ownsRow_made (e := TP) (size := 3) (w1.alloc (.cells #[.pointer v1, .pointer v2, .int .i64 (n : Int)] TL)) (madeCells #[.int .i64 0, .int .i64 0, .int .i64 0] (n * 3)) n (base := w.heap.size) (by simp; omega) (by unfold maxLen; omega) (by simp [size_madeCells])
    rw [World.size_alloc] at this
    exact World.ownsRow.alloc this _
  have HV1 : Hid (.pointer v1 = hp (l.drop 0)) := by rw [Hid, List.drop_zero]; exact hv1.symm
  clear hv1 hv2
  go_wp2
  generalize ((w1.alloc (.cells #[.pointer v1, .pointer v2, .int .i64 (n : Int)] TL)).alloc (.cells (madeCells #[.int .i64 0, .int .i64 0, .int .i64 0] (n * 3)) TP)).alloc (.cells #[.slice (some ⟨w1.heap.size + 1, 0, none⟩) 0 n] TPs) = W2 at *
  generalize w1.heap.size + 1 + 1 = B at *
  generalize w1.heap.size + 1 = g at *
  go_loopw [7] (fun e wr => ∃ j : Nat, j ≤ n ∧ e = hp (l.drop j) ∧ Hid (EL w wr B g j n l)) (fun _ wr => n - slLen ((wr.cell? ⟨B, 0, none⟩).getD undef))
  case atStart => exact ⟨0, Nat.zero_le _, HV1.out, HEL⟩
  case round =>
    obtain ⟨j, hj, rfl, HE⟩ := hrel
    by_cases hlt : j < n
    · have hjl : j < l.length := by have := HN.out; omega
      have hdr : l.drop j = l[j] :: l.drop (j + 1) := List.drop_eq_getElem_cons hjl
      have htk : l = l.take j ++ l[j] :: l.drop (j + 1) := by rw [← hdr, List.take_append_drop]
      obtain ⟨a0, a1, a2, _⟩ := HLD.out wr HE.out.bel _ _ _ htk
      rw [hdr, hp_cons]
      have HLn : Hid (∀ W, Below w.heap.size w W → W.cell? ⟨l[j].b, 5, none⟩ = some (hp (l.drop (j + 1)))) := fun W hW => (HLD.out W hW _ _ _ htk).2.2.2
      obtain ⟨o5, ho5⟩ := hp_ptr (l.drop (j + 1))
      rw [ho5] at HLn
      have HO5 : Hid (.pointer o5 = hp (l.drop (j + 1))) := ho5.symm
      have hc0 := HE.out.cell
      have hM0 : n - slLen ((wr.cell? ⟨B, 0, none⟩).getD undef) = n - j := by rw [hc0]; rfl
      have HX : Hid (l[j]? = some l[j]) := List.getElem?_eq_getElem hjl
      have hcA : (wr.alloc (.cells #[.int .i64 l[j].k.1, .int .i64 l[j].k.2, .int .i64 l[j].v] TP)).cell? ⟨B, 0, none⟩ = some (.slice (some ⟨g, 0, none⟩) j n) := by
        rw [World.cell?, heap_alloc_old _ _ (blk_lt HE.out.box)]
        exact hc0
      generalize l[j] = x at *
      clear ho5 htk hdr
      go_wp2_with fail
      go_region_law (first | (refine step_el rfl _ _ rfl HE.out hlt HN.out x HX.out rfl rfl ?_; intro W5 hc5 hf5 HE5; have a5 := HLn.out _ HE5.out.bel; have hM5 : n - slLen (((W5.setCell ⟨B, 0, none⟩ (.slice (some ⟨g, 0, none⟩) (j + 1) n)).cell? ⟨B, 0, none⟩).getD undef) = n - (j + 1) := (by rw [HE5.out.cell]; rfl)))
      all_goals (
        go_wp2
        go_roundw
        case rel => exact ⟨j + 1, by omega, HO5.out, HE5⟩
        case measure => (rw [hM0, hM5]; omega))
    · obtain rfl : j = n := by omega
      have hdr : l.drop j = [] := List.drop_eq_nil_iff.2 (by have := HN.out; omega)
      rw [hdr]
      simp only [hp]
      go_wp2
      go_ret
      exact ⟨B, g, rfl, HE⟩
end Go.Proofs.Ytenmkigoohpfmaa
