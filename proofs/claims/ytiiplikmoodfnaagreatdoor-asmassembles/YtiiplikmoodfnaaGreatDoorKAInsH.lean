import Derived.Test.YtiiplikmoodfnaaGreatDoorKAJmpH
import Derived.Test.YtiiplikmoodfnaaGreatDoorKLRef1
import Derived.Deep.CutBlock
import Derived.Deep.DeepCutAuto
/-
  ONE INSTRUCTION MORE: the state.
-/
namespace Go.Proofs.YtiiplikmoodfnaaGreatDoor
open Go.RowKit Go.Sort

theorem own_set {W : World} {base e size g n cap j : Nat} {xs : List Value} (h : W.ownsRow base e size (.slice (some ⟨g, 0, none⟩) n cap) n xs) (u : Value) : (W.setCell ⟨g, j, none⟩ u).ownsRow base e size (.slice (some ⟨g, 0, none⟩) n cap) n (xs.set j u) := by
  obtain ⟨hl, ⟨e1, _⟩ | ⟨g', cap', cur, e1, hb, hg, h1, h2, h3, h4⟩⟩ := h
  · cases e1
  · cases e1
    refine ⟨by rw [List.length_set]; exact hl, .inr ⟨g, cap, cur.setIfInBounds j u, rfl, hb, heap_setCell_same W g j _ _ u hg, h1, h2, by simpa using h3, ?_⟩⟩
    rw [Array.toList_setIfInBounds, List.take_set, h4]
theorem prcs_setCode (Qs : List Pr) (x : Pr) (o : Option Addr) (m c : Nat) (L : List K) : (prcs (Qs ++ [x])).set (Qs.length * 6 + 5) (.slice o m c) = prcs (Qs ++ [{ x with ao := o, n := m, cap := c, L := L }]) := by
  rw [prcs_append, prcs_append, List.set_append_right _ _ (by rw [prcs_length]; omega), prcs_length, show Qs.length * 6 + 5 - Qs.length * 6 = 5 by omega]
  rfl
/-- the open procedure has other code -/
theorem ASt.recode {W W1 W2 : World} {M B line : Nat} {a : As} {Qs : List Pr} {x : Pr} {g cap : Nat} {vn vm vj : Value} {o : Option Addr} {m c : Nat} {L : List K}
    (h : ASt W M B line a (Qs ++ [x]) (.slice (some ⟨g, 0, none⟩) (Qs.length + 1) cap) vn vm vj) (hlp : lastP a = ppOf x)
    (ho : W1.ownsRow M 76 2 (.slice o m c) m (cks L)) (hm : m = L.length) (hg : W.grownBy W1 (cdV x).ownBlock) (hn : (Value.slice o m c).ownBlock = (cdV x).ownBlock ∨ ∃ k, (Value.slice o m c).ownBlock = some k ∧ W.heap.size ≤ k)
    (hin : ∀ k ∈ L, KIn k) (h2 : W2 = W1.setCell ⟨g, Qs.length * 6 + 5, none⟩ (.slice o m c)) :
    ASt W2 M B line (setL a L) (Qs ++ [{ x with ao := o, n := m, cap := c, L := L }]) (.slice (some ⟨g, 0, none⟩) (Qs.length + 1) cap) vn vm vj := by
  have hx := h.code x (by simp)
  have hlen : (Qs ++ [x]).length = Qs.length + 1 := by simp
  obtain ⟨curG, hcG⟩ := own_blk h.lib (g := g) rfl
  have oth : ∀ {base e size n : Nat} {v : Value} {xs : List Value}, W.ownsRow base e size v n xs → e ≠ 76 → W1.ownsRow base e size v n xs := fun hr he => ownGrown hr hx.2 he hg
  have hlib1 : W1.ownsRow M 72 6 (.slice (some ⟨g, 0, none⟩) (Qs.length + 1) cap) (Qs.length + 1) (prcs (Qs ++ [x])) := by
    have h9 := oth h.lib (by decide)
    rw [hlen] at h9
    exact h9
  obtain ⟨curG1, hcG1⟩ := own_blk hlib1 (g := g) rfl
  have hset : ∀ (k : Nat) (cur : Array Value) (t : TypeId), W1.heap[k]? = some (.cells cur t (0, 0)) → t ≠ 72 → W2.heap[k]? = W1.heap[k]? := fun k cur t hk ht => by
    rw [h2]
    exact heap_setCell_other _ _ _ _ (fun e => by
      have e' : k = g := e
      rw [e', hcG1] at hk
      simp only [Option.some.injEq, Obj.cells.injEq] at hk
      exact ht hk.2.1.symm)
  have row : ∀ {base e size n : Nat} {v : Value} {xs : List Value}, W1.ownsRow base e size v n xs → e ≠ 72 → W2.ownsRow base e size v n xs := fun hr he => ownsRow_same hr (fun g' hgg => by
    obtain ⟨cur, hc⟩ := own_blk hr hgg
    exact hset g' _ _ hc he)
  have hpw := List.pairwise_append.1 h.ap
  have hAB1 : AB W1 B line (.slice (some ⟨g, 0, none⟩) (Qs.length + 1) cap) vn a.opn a.begun.1 a.begun.2 vm vj := (hg.block B h.ab.lt (fun e1 => by
    obtain ⟨cur, hc⟩ := own_blk hx.2 e1.symm
    exact h.notB hc (by decide) rfl)).trans h.ab
  refine ⟨(hset B _ _ hAB1 (by decide)).trans hAB1, ?_, ?_, fun y hy => ?_, ?_, row (oth h.nms (by decide)) (by decide), row (oth h.jps (by decide)) (by decide), fun hop => ?_, fun y hy => ?_, h.bm.1, ?_⟩
  · unfold OwnP
    rw [← prcs_setCode Qs x o m c L, h2, List.length_append]
    exact own_set hlib1 (.slice o m c)
  · show (a.lib.dropLast ++ [{ lastP a with L := L }]) = _
    rw [h.eq, hlp]
    simp [ppOf]
  · rcases List.mem_append.1 hy with hy | hy
    · have hq := h.code y (by simp [hy])
      refine ⟨hq.1, row (ownsRow_same hq.2 (fun g' hgg => hg.block g' (World.ownsRow.lt hq.2 g' hgg).2 (fun e1 => ?_))) (by decide)⟩
      exact hpw.2.2 y hy x (by simp) g' hgg e1.symm
    · simp only [List.mem_singleton] at hy
      subst hy
      exact ⟨hm, row ho (by decide)⟩
  · refine List.pairwise_append.2 ⟨hpw.1, List.pairwise_singleton _ _, fun y hy z hz g' hgg e1 => ?_⟩
    simp only [List.mem_singleton] at hz
    subst hz
    have hq := h.code y (by simp [hy])
    have e2 : (Value.slice o m c).ownBlock = some g' := e1
    rcases hn with h9 | ⟨k, h9, h10⟩
    · exact hpw.2.2 y hy x (by simp) g' hgg (h9 ▸ e2)
    · rw [h9] at e2
      cases e2
      have := (World.ownsRow.lt hq.2 g' hgg).2
      omega
  · obtain ⟨mb, h5, h6, h7⟩ := h.lab hop
    refine ⟨mb, h5, h6, (h7.grown hx.2 hg).same ?_⟩
    rw [h2]
    exact heap_setCell_other _ _ _ _ (fun e => by
      have e' : mb = g := e
      obtain ⟨D, ⟨es, clock, hb, _⟩, _⟩ := h7
      rw [e', hcG] at hb
      cases hb)
  · rcases List.mem_append.1 hy with hy | hy
    · exact h.ok y (by simp [hy])
    · simp only [List.mem_singleton] at hy
      subst hy
      exact ⟨(h.ok x (by simp)).1, hin, (h.ok x (by simp)).2.2⟩
  · have h5 := hg.size
    have h6 := h.bm.2
    rw [h2]
    simp
    omega
/-- a box of an instruction turns -/
theorem ASt.setBox {W : World} {M B line : Nat} {a : As} {Ps : List Pr} {vl vn vm vj : Value} (h : ASt W M B line a Ps vl vn vm vj) {b i : Nat} {cur : Array Value} (v : Value) (hb : W.heap[b]? = some (.cells cur 76 (0, 0))) (hc : ∀ x ∈ Ps, (cdV x).ownBlock ≠ some b) : ASt (W.setCell ⟨b, i, none⟩ v) M B line a Ps vl vn vm vj := by
  have hset : ∀ (k : Nat) (o : Obj), W.heap[k]? = some o → (∀ cur, o ≠ .cells cur 76 (0, 0)) → (W.setCell ⟨b, i, none⟩ v).heap[k]? = some o := fun k o hk ho => (heap_setCell_other _ _ _ _ (fun e => by
    have e' : k = b := e
    rw [e', hb] at hk
    cases hk
    exact ho cur rfl)).trans hk
  have row : ∀ {base e size n : Nat} {v' : Value} {xs : List Value}, W.ownsRow base e size v' n xs → e ≠ 76 → (W.setCell ⟨b, i, none⟩ v).ownsRow base e size v' n xs := fun hr he => ownsRow_same hr (fun g' hgg => by
    obtain ⟨cur', hc'⟩ := own_blk hr hgg
    rw [hc']
    exact hset g' _ hc' (fun cur'' e => by
      simp only [Obj.cells.injEq] at e
      exact he e.2.1))
  refine ⟨hset B _ h.ab (fun cur' e => by simp only [Obj.cells.injEq] at e; exact absurd e.2.1 (by decide)), row h.lib (by decide), h.eq, fun x hx => ⟨(h.code x hx).1, ownsRow_same (h.code x hx).2 (fun g' hgg => heap_setCell_other _ _ _ _ (fun e => hc x hx (by rw [hgg]; exact congrArg some e)))⟩, h.ap, row h.nms (by decide), row h.jps (by decide), fun hop => ?_, h.ok, h.bm.1, by simpa using h.bm.2⟩
  obtain ⟨mb, h5, h6, h7⟩ := h.lab hop
  refine ⟨mb, h5, h6, h7.same ?_⟩
  obtain ⟨D, ⟨es, clock, hb', _⟩, _⟩ := h7
  rw [hb']
  exact hset mb _ hb' (fun cur' e => by cases e)
theorem cks_appA (A C : List K) : cks (A ++ C) = cks A ++ cks C := by
  induction A with
  | nil => rfl
  | cons k A ih => simp [cks, ih]
end Go.Proofs.YtiiplikmoodfnaaGreatDoor
/-
  addInstr.
-/
namespace Go.Proofs.YtiiplikmoodfnaaGreatDoor
open Go.RowKit Go.Sort

theorem FrA.below {M B : Nat} {W W' : World} (h : FrA M B W W') (hB : B < M) : Go.RowKit.Below B W W' := ⟨h.os, h.tape, h.output, h.size, fun k hk => h.block k (by omega) (by omega)⟩
theorem num1_in (l : List UInt8) : In64 (Dec.num1 l).1 := by
  unfold Dec.num1
  split
  · rename_i v h
    have := Dec.parse_bounds h
    split
    · exact this
    · show In64 0; unfold In64; omega
  · show In64 0; unfold In64; omega
theorem rNum_in {rd rd' : Rd} {z : Int} (h : rNum rd = .ok (z, rd')) : In64 z ∧ ∃ x : Wd, rNext rd = .ok (x, rd') := by
  unfold rNum at h
  cases h1 : rNext rd with
  | error e => rw [h1] at h; cases h
  | ok p =>
    obtain ⟨x, r1⟩ := p
    rw [h1] at h
    simp only at h
    split at h
    · simp only [Except.ok.injEq, Prod.mk.injEq] at h
      obtain ⟨rfl, rfl⟩ := h
      exact ⟨num1_in _, x, rfl⟩
    · cases h
theorem small_next {rd rd' : Rd} {x : Wd} (h : rNext rd = .ok (x, rd')) (hs : SmallW rd.1) : SmallW rd'.1 ∧ ∀ y ∈ rd'.1, y ∈ rd.1 := by
  obtain ⟨ws, bh⟩ := rd
  obtain ⟨ws', bh'⟩ := rd'
  obtain ⟨e1, _⟩ := next_inv h
  subst e1
  refine ⟨⟨fun y hy => hs.1 y (List.mem_cons_of_mem _ hy), ?_⟩, fun y hy => List.mem_cons_of_mem _ hy⟩
  have := hs.2
  simp at this
  show ws'.length ≤ _
  omega
theorem NumVars.fra {M B : Nat} {W W' : World} (h : NumVars W) (hb : FrA M B W W') (hB : B < M) (hg : 8 ≤ B) : NumVars W' := by
  have hb' : Go.RowKit.Below 8 W W' := ⟨hb.os, hb.tape, hb.output, hb.size, fun k hk => hb.block k (by omega) (by omega)⟩
  obtain ⟨h1, ⟨tp, p, h2⟩, tq, q, h3⟩ := h
  exact ⟨var_keptN gPow h1 hb' (by decide), ⟨tp, p, var_keptN gBad h2 hb' (by decide)⟩, tq, q, var_keptN gRange h3 hb' (by decide)⟩
/-- what stands behind the argument -/
def ArgMid (W : World) (M B line : Nat) (a : As) (Ps : List Pr) (vl vn vm : Value) (r b : Nat) (rd : Rd) (op : Int) (v : Value) (w' : World) : Prop :=
  (∃ p col n, v = .iface 63 p ∧ ErrAt w' v 0 col n ∧ argA a line op rd = .error (col, n) ∧ FrA M B W w') ∨
  (∃ n js rd' vj', v = .nilIface ∧ argA a line op rd = .ok (n, js, rd') ∧ In64 n ∧ RB (ZA M B) w' r rd' ∧ SmallW rd'.1 ∧ ASt w' M B line { a with jumps := a.jumps ++ js } Ps vl vn vm vj' ∧ FrA M B W w' ∧ w'.heap[b]? = some (.cells #[.int .i64 op, .int .i64 n] 76 (0, 0)))
/-- what addInstr leaves -/
def InsPost (W : World) (M B line : Nat) (a : As) (vl vn vm : Value) (r : Nat) (rd : Rd) (op : Int) (e : Ending) (w' : World) : Prop :=
  (∃ v col n, e = .returned v ∧ ErrAt w' v 0 col n ∧ argA a line op rd = .error (col, n) ∧ FrA M B W w') ∨
  (∃ n js rd' Ps' vj', e = .returned .nilIface ∧ argA a line op rd = .ok (n, js, rd') ∧ RB (ZA M B) w' r rd' ∧ SmallW rd'.1 ∧ ASt w' M B line (setL { a with jumps := a.jumps ++ js } ((lastP a).L ++ [(op, n)])) Ps' vl vn vm vj' ∧ FrA M B W w')
theorem err_iface {W : World} {v : Value} {line col : Nat} {n : Int} (h : ErrAt W v line col n) : ∃ p, v = .iface 63 p := by
  obtain ⟨b, h1, _⟩ := h
  exact ⟨_, h1⟩
set_option maxRecDepth 100000 in
set_option maxHeartbeats 4000000 in
theorem addInstr_any (w : World) (M B line k : Nat) (a : As) (Ps : List Pr) (vl vn vm vj : Value) (r : Nat) (rd : Rd) (op : Int) (h : ASt w M B line a Ps vl vn vm vj) (hz : AsSz a k) (ho : a.opn = true) (hR : RB (ZA M B) w r rd) (hs : SmallW rd.1) (hr : M ≤ r) (hwl : ∀ y ∈ rd.1, y.1.length ≤ 65536) (hv : NumVars w) (hB : 8 ≤ B) (hop : In64 op) :
    Calls Tryz.prog 48 #[.pointer (some ⟨B, 0, none⟩), .int .i64 op, .pointer (some ⟨r, 0, none⟩)] w fun e w' => InsPost w M B line a vl vn vm r rd op e w' := by
  obtain ⟨W1, hW1⟩ : ∃ W1, W1 = w.alloc (.cells #[.int .i64 op, .int .i64 0] 76) := ⟨_, rfl⟩
  have hM := h.bm.2
  have hBM := h.bm.1
  have hbe : Go.RowKit.Below w.heap.size w W1 := by rw [hW1]; exact bel_al _ _
  have hM1 : M ≤ W1.heap.size := Nat.le_trans hM hbe.size
  have HA := hidA (h.below hbe)
  have HR := hidA (hR.kept hbe)
  have HF : Hid (FrA M B w W1) := FrA.bel hbe hM
  have HV : Hid (NumVars W1) := hv.kept hbe
  have HBx : Hid (W1.heap[w.heap.size]? = some (.cells #[.int .i64 op, .int .i64 0] 76 (0, 0))) := by show _ = _; rw [hW1]; exact heap_alloc_new _ _ rfl
  have HCb : Hid (∀ x ∈ Ps, (cdV x).ownBlock ≠ some w.heap.size) := fun x hx e => by have := (World.ownsRow.lt (h.code x hx).2 _ e).2; omega
  have HZ := hidA hz
  have HO := hidA ho
  have HS := hidA hs
  have HWl := hidA hwl
  have HOp := hidA hop
  clear h hz ho hR hs hwl hv hop hbe
  go_enter Tryz.func48, Tryz.ntmps48
  go_upto_block 0 with fail
  rw [← hW1]
  clear hW1
  go_cut [8] (fun v wx => Hid (ArgMid w M B line a Ps vl vn vm r w.heap.size rd op v wx))
  case first =>
    go_wp2_with fail
    refine (isJump_any W1 op).mono ?_
    rintro e w2 ⟨rfl, hw2⟩
    have hw2' := hw2.symm
    subst hw2'
    clear hw2
    cases hj : jumpB op with
    | true =>
      have HJ := hidA hj
      have HAJ := hidA (addJump_any W1 M B line k a Ps vl vn vm vj r rd op HA.out HZ.out HO.out HR.out HS.out hr hj HWl.out)
      clear hj
      go_wp2_with fail
      refine HAJ.out.mono ?_
      rintro e w3 (⟨v, col, n, rfl, e1, e2, e3⟩ | ⟨x, rd', vj', e1, rfl, e2, e3, e4, e5⟩)
      · obtain ⟨p, rfl⟩ := err_iface e1
        have HE : Hid (ArgMid w M B line a Ps vl vn vm r w.heap.size rd op (.iface 63 p) w3) := .inl ⟨p, col, n, rfl, e1, e2, HF.out.trans e3⟩
        clear e1 e2 e3 HAJ
        go_wp2_with fail
        go_meet
        case rel => exact HE
      · have HE : Hid (ArgMid w M B line a Ps vl vn vm r w.heap.size rd op .nilIface w3) := .inr ⟨0, _, rd', vj', rfl, e1, by unfold In64; omega, e2, e3, e4, HF.out.trans e5.fr, (e5.ins _ _ HBx.out).trans HBx.out⟩
        clear e1 e2 e3 e4 e5 HAJ
        go_wp2_with fail
        go_meet
        case rel => exact HE
    | false =>
      have HJ := hidA hj
      clear hj
      go_wp2_with fail
      refine (wants_any W1 op).mono ?_
      rintro e w3 ⟨rfl, hw3⟩
      have hw3' := hw3.symm
      subst hw3'
      clear hw3
      cases hw : wantsB op with
      | true =>
        have HW := hidA hw
        clear hw
        have HN := hidA (number_rd W1 r rd HR.out HS.out HV.out (by omega) (by omega))
        go_wp2_with fail
        refine HN.out.mono ?_
        rintro e w4 (⟨v, col, n, e1, rfl, e2, e3⟩ | ⟨z, rd', e1, rfl, e2, e3⟩)
        · obtain ⟨p, rfl⟩ := err_iface e2
          have e3' : FrJ M B W1 w4 := FrJ.bx HR.out e3 hM1 hr
          have hbx : w4.heap[w.heap.size]? = _ := (e3'.ins _ _ HBx.out).trans HBx.out
          have f1 := frozen_of_row w4 w.heap.size 1 _ _ hbx
          have c1 : w4.cell? ⟨w.heap.size, 1, none⟩ = some (.int .i64 0) := by simp [World.cell?, hbx]
          have HE : Hid (ArgMid w M B line a Ps vl vn vm r w.heap.size rd op (.iface 63 p) (w4.setCell ⟨w.heap.size, 1, none⟩ (.int .i64 0))) := .inl ⟨p, col, n, rfl, by
            obtain ⟨b, q1, q2⟩ := e2
            refine ⟨b, q1, (heap_setCell_other _ _ _ _ (fun e => ?_)).trans q2⟩
            have e' : b = w.heap.size := e
            rw [e', hbx] at q2
            simp only [Option.some.injEq, Obj.cells.injEq] at q2
            exact absurd q2.2.1 (by decide), by unfold argA; rw [if_neg (by rw [HJ.out]; simp), if_pos HW.out, e1], (HF.out.trans e3'.fr).trans (FrA.set _ _ (.inr hM))⟩
          clear e1 e2 e3 e3' hbx HN
          go_wp2_with fail
          go_meet
          case rel => exact HE
        · have e3' : FrJ M B W1 w4 := FrJ.bx HR.out e3 hM1 hr
          have hbx : w4.heap[w.heap.size]? = _ := (e3'.ins _ _ HBx.out).trans HBx.out
          have f1 := frozen_of_row w4 w.heap.size 1 _ _ hbx
          have c1 : w4.cell? ⟨w.heap.size, 1, none⟩ = some (.int .i64 0) := by simp [World.cell?, hbx]
          have hA4 := HA.out.bx HR.out e3
          have HE : Hid (ArgMid w M B line a Ps vl vn vm r w.heap.size rd op .nilIface (w4.setCell ⟨w.heap.size, 1, none⟩ (.int .i64 z))) := by
            obtain ⟨q1, x, q2⟩ := rNum_in e1
            have hF4 : FrA M B w4 (w4.setCell ⟨w.heap.size, 1, none⟩ (.int .i64 z)) := FrA.set _ _ (.inr hM)
            have hne : ∀ (k' : Nat) (o : Obj), w4.heap[k']? = some o → k' ≠ w.heap.size → (w4.setCell ⟨w.heap.size, 1, none⟩ (.int .i64 z)).heap[k']? = some o := fun k' o hk hn => (heap_setCell_other _ _ _ _ hn).trans hk
            refine .inr ⟨z, [], rd', vj, rfl, by unfold argA; rw [if_neg (by rw [HJ.out]; simp), if_pos HW.out, e1], q1, e2.fra hF4 ?_, (small_next q2 HS.out).1, ?_, (HF.out.trans e3'.fr).trans hF4, heap_setCell_same w4 w.heap.size 1 _ _ _ hbx⟩
            · refine heap_setCell_other _ _ _ _ (fun e => ?_)
              have e' : r = w.heap.size := e
              obtain ⟨a1, c1', h1, _⟩ := e2
              rw [e', hbx] at h1
              simp only [Option.some.injEq, Obj.cells.injEq] at h1
              exact absurd h1.2.1 (by decide)
            · rw [List.append_nil]; exact hA4.setBox _ hbx HCb.out
          clear e1 e2 e3 e3' hbx HN hA4
          go_wp2_with fail
          go_meet
          case rel => exact HE
      | false =>
        have HE : Hid (ArgMid w M B line a Ps vl vn vm r w.heap.size rd op .nilIface W1) := .inr ⟨0, [], rd, vj, rfl, by unfold argA; rw [if_neg (by rw [HJ.out]; simp), if_neg (by rw [hw]; simp)], by unfold In64; omega, HR.out, HS.out, by rw [List.append_nil]; exact HA.out, HF.out, HBx.out⟩
        clear hw
        go_wp2_with fail
        go_meet
        case rel => exact HE
  case rest =>
    have HC := hcut
    clear hcut HA HR HF HV HBx hM1
    rcases HC.out with ⟨p, col, n, rfl, e1, e2, e3⟩ | ⟨n, js, rd', vj', rfl, e1, e2, e3, e4, e5, e6, e7⟩
    · have HE : Hid (InsPost w M B line a vl vn vm r rd op (.returned (.iface 63 p)) wc) := .inl ⟨_, col, n, rfl, e1, e2, e3⟩
      clear e1 e2 e3 HC
      go_wp2_with fail
      go_ret
      exact HE.out
    · have HE1 := hidA e1
      have HIn := hidA e2
      have HR := hidA e3
      have HS' := hidA e4
      have HA := hidA e5
      have HF := hidA e6
      have HBx := hidA e7
      clear e1 e2 e3 e4 e5 e6 e7 HC
      generalize wc = w5 at *
      obtain ⟨Qs, y, g, cap, rfl, rfl, hg, c5, hlp, hq, hxl, hxn⟩ := HA.out.lastQ (HZ.out.opn HO.out) (Nat.le_trans HZ.out.lib HZ.out.top) (fun x hx => Nat.le_trans (HZ.out.code x hx) HZ.out.top)
      have HLp := hidA hlp
      have HXn := hidA hxn
      have HNb : Hid ((cdV y).ownBlock ≠ some w.heap.size) := HCb.out y (by simp)
      clear hlp hxn c5 HCb
      have HPr := hidA (program_d w5 B line a.begun.1 a.begun.2 g Qs.length cap vn vm vj' a.opn HA.out.ab (by omega))
      go_wp2_with fail
      refine HPr.out.mono ?_
      rintro e w6 ⟨rfl, q6, hw6⟩
      have hbel : Go.RowKit.Below w5.heap.size w5 w6 := by rw [hw6]; exact bel_drewN w5 q6
      have hM5 : M ≤ w5.heap.size := HA.out.bm.2
      have HA6 := hidA (HA.out.below hbel)
      have HR6 := hidA (HR.out.kept hbel)
      have HF6 : Hid (FrA M B w w6) := HF.out.trans (FrA.bel hbel hM5)
      have HBx6 : Hid (w6.heap[w.heap.size]? = some (.cells #[.int .i64 op, .int .i64 n] 76 (0, 0))) := (hbel.block _ (Array.getElem?_eq_some_iff.1 HBx.out).1).trans HBx.out
      clear hw6 hbel HA HR HF HBx HPr hM5
      have hM6 : M ≤ w6.heap.size := HA6.out.bm.2
      have HSS : Hid (∀ W' : World, Go.RowKit.Below w6.heap.size w6 W' → W'.cell? ⟨g, Qs.length * 6 + 5, none⟩ = some (.slice y.ao y.L.length y.cap) ∧ W'.cell? ⟨w.heap.size, 0, none⟩ = some (.int .i64 op) ∧ W'.cell? ⟨w.heap.size, 1, none⟩ = some (.int .i64 n)) := fun W' hb => by
        obtain ⟨Qs', y', g', cap', e1, e2, _, c5, _⟩ := (HA6.out.below hb).lastQ (HZ.out.opn HO.out) (Nat.le_trans HZ.out.lib HZ.out.top) (fun x hx => Nat.le_trans (HZ.out.code x hx) HZ.out.top)
        have e3 := List.append_inj' e1 rfl
        obtain ⟨rfl, e4⟩ := e3
        simp only [List.cons.injEq, and_true] at e4
        subst e4
        cases e2
        have hbx : W'.heap[w.heap.size]? = _ := (hb.block _ (Array.getElem?_eq_some_iff.1 HBx6.out).1).trans HBx6.out
        exact ⟨c5, by simp [World.cell?, hbx], by simp [World.cell?, hbx]⟩
      have hbd : Go.RowKit.Below w6.heap.size w6 w6.drew := bel_drewN w6 1
      have hS3 := fun o => (HSS.out (w6.drew.alloc o) (hbd.alloc hbd.size o)).2
      have s3 : ∀ o, (w6.alloc o).drew.cell? ⟨g, Qs.length * 6 + 5, none⟩ = some (.slice y.ao y.L.length y.cap) := fun o => (HSS.out (w6.drew.alloc o) (hbd.alloc hbd.size o)).1
      have s1 := (HSS.out _ hbd).1
      have HAp : Hid (∀ ty, ∃ v' w', (Builtin.append_ #[40, 40] ty #[.slice y.ao y.L.length y.cap, .slice (some ⟨w6.heap.size, 0, none⟩) 1 1]).run Tryz.prog (w6.alloc (.cells #[.int .i64 op, .int .i64 n] 76)).drew = .ok v' w' ∧ (∃ o n c, v' = .slice o n c) ∧ w'.cell? ⟨g, Qs.length * 6 + 5, none⟩ = some (.slice y.ao y.L.length y.cap) ∧ w'.frozen? ⟨g, Qs.length * 6 + 5, none⟩ = false ∧ (w'.cell? ⟨w.heap.size, 0, none⟩ = some (.int .i64 op) ∧ w'.cell? ⟨w.heap.size, 1, none⟩ = some (.int .i64 n)) ∧ ((w'.setCell ⟨g, Qs.length * 6 + 5, none⟩ v').cell? ⟨w.heap.size, 0, none⟩ = some (.int .i64 op) ∧ (w'.setCell ⟨g, Qs.length * 6 + 5, none⟩ v').cell? ⟨w.heap.size, 1, none⟩ = some (.int .i64 n)) ∧ Hid (InsPost w M B line a (.slice (some ⟨g, 0, none⟩) (Qs.length + 1) cap) vn vm r rd op (.returned .nilIface) (w'.setCell ⟨g, Qs.length * 6 + 5, none⟩ v'))) := fun ty => by
        have hAd := HA6.out.below hbd
        have hcy := hAd.code y (by simp)
        have hown : w6.drew.ownsRow M 76 2 (.slice y.ao y.L.length y.cap) y.L.length (cks y.L) := by
          have h9 := hcy.2
          unfold cdV at h9
          rw [hcy.1] at h9
          exact h9
        obtain ⟨v', w', p1, p2, p3, p4⟩ := app_one Tryz.underlying40 infoIn rfl (by decide) (by decide) w6.drew M (.slice y.ao y.L.length y.cap) y.L.length (cks y.L) [.int .i64 op, .int .i64 n] hown rfl (by intro u hu; simp at hu; rcases hu with rfl | rfl <;> rfl) hxl hAd.bm.2 ty
        obtain ⟨o', c', rfl, _⟩ := own_slice p2
        have hba : Go.RowKit.Below w6.heap.size w6 (w6.drew.alloc (.cells #[.int .i64 op, .int .i64 n] 76)) := hbd.alloc hbd.size _
        have hAl := HA6.out.below hba
        obtain ⟨x5, x0, x1⟩ := HSS.out _ hba
        have hvx : (cdV y).ownBlock = (Value.slice y.ao y.L.length y.cap).ownBlock := by unfold cdV; rw [hcy.1]
        -- the rows of other kinds
        obtain ⟨curG, hcG⟩ := own_blk hAl.lib (g := g) rfl
        have hbl : ∀ (k' : Nat) (cur : Array Value) (t : TypeId), (w6.drew.alloc (.cells #[.int .i64 op, .int .i64 n] 76)).heap[k']? = some (.cells cur t (0, 0)) → (Value.slice y.ao y.L.length y.cap).ownBlock ≠ some k' → w'.heap[k']? = some (.cells cur t (0, 0)) := fun k' cur t hk hne => (p3.block k' (Array.getElem?_eq_some_iff.1 hk).1 (fun e1 => hne e1.symm)).trans hk
        have hty : ∀ (k' : Nat) (cur : Array Value) (t : TypeId), (w6.drew.alloc (.cells #[.int .i64 op, .int .i64 n] 76)).heap[k']? = some (.cells cur t (0, 0)) → t ≠ 76 → (Value.slice y.ao y.L.length y.cap).ownBlock ≠ some k' := fun k' cur t hk ht e1 => by
          obtain ⟨cur', hc⟩ := own_blk (World.ownsRow.alloc hown (.cells #[.int .i64 op, .int .i64 n] 76)) e1
          rw [hk] at hc
          simp only [Option.some.injEq, Obj.cells.injEq] at hc
          exact ht hc.2.1
        have g1 := hbl g _ _ hcG (hty g _ _ hcG (by decide))
        have hbxA : (w6.drew.alloc (.cells #[.int .i64 op, .int .i64 n] 76)).heap[w.heap.size]? = _ := (hba.block _ (Array.getElem?_eq_some_iff.1 HBx6.out).1).trans HBx6.out
        have hbx1 := hbl w.heap.size _ _ hbxA (by rw [← hvx]; exact HNb.out)
        have hbx2 : (w'.setCell ⟨g, Qs.length * 6 + 5, none⟩ (.slice o' (y.L.length + 1) c')).heap[w.heap.size]? = _ := (heap_setCell_other _ _ _ _ (fun e => by
          have e' : w.heap.size = g := e
          rw [e', g1] at hbx1
          simp only [Option.some.injEq, Obj.cells.injEq] at hbx1
          exact absurd hbx1.2.1 (by decide))).trans hbx1
        have hrec := ASt.recode (o := o') (m := y.L.length + 1) (c := c') (L := y.L ++ [(op, n)]) hAl HLp.out (by rw [cks_appA]; exact p2) (by simp) (by rw [hvx]; exact p3) (by
          rcases p4 with p4 | p4
          · exact .inl (by rw [hvx]; exact p4)
          · exact .inr ⟨_, p4, by simp⟩) (fun k' hk' => by
          rcases List.mem_append.1 hk' with h | h
          · exact (hAl.ok y (by simp)).2.1 k' h
          · simp only [List.mem_singleton] at h
            subst h
            exact ⟨HOp.out, HIn.out⟩) rfl
        have hFa : FrA M B w6 (w'.setCell ⟨g, Qs.length * 6 + 5, none⟩ (.slice o' (y.L.length + 1) c')) := ((FrA.bel hba hM6).trans (FrA.grown p3 hAl.bm.2 (fun k' e => (World.ownsRow.lt (World.ownsRow.alloc hown (.cells #[.int .i64 op, .int .i64 n] 76)) k' e).1))).trans (FrA.set _ _ (.inr hg))
        have hrd : RB (ZA M B) (w'.setCell ⟨g, Qs.length * 6 + 5, none⟩ (.slice o' (y.L.length + 1) c')) r rd' := HR6.out.fra hFa (by
          obtain ⟨a1, c1, h1, _⟩ := HR6.out
          have h2 : (w6.drew.alloc (.cells #[.int .i64 op, .int .i64 n] 76)).heap[r]? = _ := (hba.block r (Array.getElem?_eq_some_iff.1 h1).1).trans h1
          have h3 := hbl r _ _ h2 (hty r _ _ h2 (by decide))
          rw [h1, heap_setCell_other _ _ _ _ (fun e => by
            have e' : r = g := e
            rw [e', g1] at h3
            simp only [Option.some.injEq, Obj.cells.injEq] at h3
            exact absurd h3.2.1 (by decide))]
          exact h3)
        have hlL : (lastP a).L = y.L := by
          have h9 : lastP a = ppOf y := HLp.out
          rw [h9]; rfl
        have hrec2 : ∃ Ps', ASt (w'.setCell ⟨g, Qs.length * 6 + 5, none⟩ (.slice o' (y.L.length + 1) c')) M B line (setL { a with jumps := a.jumps ++ js } ((lastP a).L ++ [(op, n)])) Ps' (.slice (some ⟨g, 0, none⟩) (Qs.length + 1) cap) vn vm vj' := ⟨_, by rw [hlL]; exact hrec⟩
        obtain ⟨Ps', hrec2⟩ := hrec2
        have x5' : w'.cell? ⟨g, Qs.length * 6 + 5, none⟩ = some (.slice y.ao y.L.length y.cap) := by
          simp only [World.cell?, hcG] at x5
          simp only [World.cell?, g1]
          exact x5
        exact ⟨_, w', p1, ⟨_, _, _, rfl⟩, x5', frozen_of_row w' g _ _ _ g1, ⟨by simp [World.cell?, hbx1], by simp [World.cell?, hbx1]⟩, ⟨by simp [World.cell?, hbx2], by simp [World.cell?, hbx2]⟩, .inr ⟨n, js, rd', Ps', vj', rfl, HE1.out, hrd, HS'.out, hrec2, HF6.out.trans hFa⟩⟩
      go_upto_region 10 with fail
      refine wp_region_held_drew (S := fun w' => w'.cell? ⟨w.heap.size, 0, none⟩ = some (.int .i64 op) ∧ w'.cell? ⟨w.heap.size, 1, none⟩ = some (.int .i64 n)) (by kernel_rfl) ?_ (fun hHeld => ?_)
      · exact (HSS.out _ hbd).2
      refine wpAnyH_take (i := 0) (v := .pointer (some ⟨g, Qs.length * 6 + 1, none⟩)) rfl (by kernel_rfl) (by kernel_rfl) (by kernel_rfl) (fun _ _ _ h => h) (Or.inl ⟨by rfl, by intro w hSw; (try dsimp only at hSw); go_simp⟩) (by assumption) ?_
      refine wpAnyH_take (i := 1) (v := .pointer (some ⟨g, Qs.length * 6 + 1, none⟩)) rfl (by kernel_rfl) (by kernel_rfl) (by kernel_rfl) (fun _ _ _ h => h) (Or.inl ⟨by rfl, by intro w hSw; (try dsimp only at hSw); go_simp⟩) (by assumption) ?_
      refine wpAnyH_take (i := 2) (v := .pointer (some ⟨g, Qs.length * 6 + 1, none⟩)) rfl (by kernel_rfl) (by kernel_rfl) (by kernel_rfl) (fun _ _ _ h => h) (Or.inl ⟨by rfl, by intro w hSw; (try dsimp only at hSw); go_simp⟩) (by assumption) ?_
      refine wpAnyH_take (i := 3) (v := .pointer (some ⟨g, Qs.length * 6 + 1 + 4, none⟩)) rfl (by kernel_rfl) (by kernel_rfl) (by kernel_rfl) (fun _ _ _ h => h) (Or.inl ⟨by rfl, by intro w hSw; (try dsimp only at hSw); go_simp⟩) (by assumption) ?_
      refine wpAnyH_take (i := 5) (v := .agg #[.int .i64 op, .int .i64 n]) rfl (by kernel_rfl) (by kernel_rfl) (by kernel_rfl) (fun _ _ _ h => h) (Or.inl ⟨by rfl, by intro w hSw; (try dsimp only at hSw); go_simp⟩) (by assumption) ?_
      refine wpAnyH_ready (rs := [4, 6]) (by kernel_rfl) (by simp) ?_
      refine AllReadyH.cons rfl (fun K hK => ?_) ?_
      · go_simp
        refine hK.out _ _ (by assumption) (fun hHeld => ?_)
        clear hK K
        refine wpAnyH_ready (rs := [6]) (by kernel_rfl) (by simp) ?_
        refine AllReadyH.cons rfl (fun K hK => ?_) ?_
        · go_simp
          refine hK.out _ _ (by exact hS3 _) (fun hHeld => ?_)
          clear hK K
          refine wpAnyH_ready (rs := [7]) (by kernel_rfl) (by simp) ?_
          refine AllReadyH.cons rfl (fun K hK => ?_) ?_
          · refine step_appA rfl _ _ 40 rfl (.slice y.ao y.L.length y.cap) (.slice (some ⟨w6.heap.size, 0, none⟩) 1 1) rfl rfl HAp.out ?_
            rintro v' w9 ⟨⟨o9, n9, c9, rfl⟩, t1, t2, t3, t4, HP9⟩
            refine hK.out _ _ (by exact t3) (fun hHeld => ?_)
            clear hK K
            refine wpAnyH_take (i := 8) (v := .pointer (some ⟨g, Qs.length * 6 + 1, none⟩)) rfl (by kernel_rfl) (by kernel_rfl) (by kernel_rfl) (fun _ _ _ h => h) (Or.inl ⟨by rfl, by intro w hSw; (try dsimp only at hSw); go_simp⟩) (by assumption) ?_
            refine wpAnyH_take (i := 9) (v := .pointer (some ⟨g, Qs.length * 6 + 1 + 4, none⟩)) rfl (by kernel_rfl) (by kernel_rfl) (by kernel_rfl) (fun _ _ _ h => h) (Or.inl ⟨by rfl, by intro w hSw; (try dsimp only at hSw); go_simp⟩) (by assumption) ?_
            refine wpAnyH_ready (rs := [10]) (by kernel_rfl) (by simp) ?_
            refine AllReadyH.cons rfl (fun K hK => ?_) ?_
            · go_simp
              refine hK.out _ _ (by exact t4) (fun hHeld => ?_)
              clear hK K
              refine wpAnyH_done (by kernel_rfl) ?_ _
              go_wp2_with fail
              go_ret
              exact HP9.out
            exact AllReadyH.nil
          exact AllReadyH.nil
        exact AllReadyH.nil
      refine AllReadyH.cons rfl (fun K hK => ?_) ?_
      · go_simp
        refine hK.out _ _ (by exact hS3 _) (fun hHeld => ?_)
        clear hK K
        refine wpAnyH_ready (rs := [4]) (by kernel_rfl) (by simp) ?_
        refine AllReadyH.cons rfl (fun K hK => ?_) ?_
        · go_simp
          refine hK.out _ _ (by assumption) (fun hHeld => ?_)
          clear hK K
          refine wpAnyH_ready (rs := [7]) (by kernel_rfl) (by simp) ?_
          refine AllReadyH.cons rfl (fun K hK => ?_) ?_
          · refine step_appA rfl _ _ 40 rfl (.slice y.ao y.L.length y.cap) (.slice (some ⟨w6.heap.size, 0, none⟩) 1 1) rfl rfl HAp.out ?_
            rintro v' w9 ⟨⟨o9, n9, c9, rfl⟩, t1, t2, t3, t4, HP9⟩
            refine hK.out _ _ (by exact t3) (fun hHeld => ?_)
            clear hK K
            refine wpAnyH_take (i := 8) (v := .pointer (some ⟨g, Qs.length * 6 + 1, none⟩)) rfl (by kernel_rfl) (by kernel_rfl) (by kernel_rfl) (fun _ _ _ h => h) (Or.inl ⟨by rfl, by intro w hSw; (try dsimp only at hSw); go_simp⟩) (by assumption) ?_
            refine wpAnyH_take (i := 9) (v := .pointer (some ⟨g, Qs.length * 6 + 1 + 4, none⟩)) rfl (by kernel_rfl) (by kernel_rfl) (by kernel_rfl) (fun _ _ _ h => h) (Or.inl ⟨by rfl, by intro w hSw; (try dsimp only at hSw); go_simp⟩) (by assumption) ?_
            refine wpAnyH_ready (rs := [10]) (by kernel_rfl) (by simp) ?_
            refine AllReadyH.cons rfl (fun K hK => ?_) ?_
            · go_simp
              refine hK.out _ _ (by exact t4) (fun hHeld => ?_)
              clear hK K
              refine wpAnyH_done (by kernel_rfl) ?_ _
              go_wp2_with fail
              go_ret
              exact HP9.out
            exact AllReadyH.nil
          exact AllReadyH.nil
        exact AllReadyH.nil
      exact AllReadyH.nil
end Go.Proofs.YtiiplikmoodfnaaGreatDoor
/-
  A PROCEDURE's END: the state.
-/
namespace Go.Proofs.YtiiplikmoodfnaaGreatDoor
open Go.RowKit Go.Sort

theorem fixN_append (ls : List (List UInt8 × Nat)) : ∀ (A C : List Jp) (L : List K), fixN ls (A ++ C) L = match fixN ls A L with
    | .error e => .error e
    | .ok L' => fixN ls C L'
  | [], C, L => by simp [fixN]
  | j :: A, C, L => by
    simp only [List.cons_append, fixN]
    cases h : labN ls j.label with
    | none => rfl
    | some t => exact fixN_append ls A C _
theorem fixN_one (ls : List (List UInt8 × Nat)) (j : Jp) (L : List K) : fixN ls [j] L = match labN ls j.label with
    | none => .error (j.line, j.col, 42)
    | some t => .ok (L.set j.frm ((kd L j.frm).1, (t : Int))) := by
  simp only [fixN]
  cases labN ls j.label <;> rfl
theorem cks_setA : ∀ (L : List K) (j : Nat) (t : Int), j < L.length → (cks L).set (j * 2 + 1) (.int .i64 t) = cks (L.set j ((kd L j).1, t))
  | [], j, t, h => by simp at h
  | k :: L, 0, t, _ => by simp [cks, kd, cd]
  | k :: L, j + 1, t, h => by
    have ih := cks_setA L j t (by simpa using h)
    rw [show (j + 1) * 2 + 1 = (j * 2 + 1) + 1 + 1 by omega]
    simp only [cks, List.set_cons_succ, ih]
    simp [kd, cd]
theorem setL_setL (a : As) (L L' : List K) : setL (setL a L) L' = setL a L' := by simp [setL, lastP]
theorem setL_same {a : As} {x : Pr} {Qs : List Pr} (h : a.lib = (Qs ++ [x]).map ppOf) : setL a x.L = a := by
  obtain ⟨lib, names, opn, begun, labels, jumps⟩ := a
  simp only at h
  subst h
  simp [setL, lastP, ppOf]
/-- one place of the open procedure's code turns -/
theorem ASt.fix {W : World} {M B line : Nat} {a : As} {Qs : List Pr} {y : Pr} {vl vn vm vj : Value} {cg j : Nat} {t : Int} (h : ASt W M B line a (Qs ++ [y]) vl vn vm vj) (hao : y.ao = some ⟨cg, 0, none⟩) (hj : j < y.L.length) (ht : In64 t) :
    ASt (W.setCell ⟨cg, j * 2 + 1, none⟩ (.int .i64 t)) M B line (setL a (y.L.set j ((kd y.L j).1, t))) (Qs ++ [{ y with L := y.L.set j ((kd y.L j).1, t) }]) vl vn vm vj := by
  have hy := h.code y (by simp)
  have hvb : (cdV y).ownBlock = some cg := by unfold cdV; rw [hao]; rfl
  obtain ⟨curC, hcC⟩ := own_blk hy.2 hvb
  have hlp : lastP a = ppOf y := by unfold lastP; rw [h.eq]; simp
  have hpw := List.pairwise_append.1 h.ap
  have hset : ∀ (k : Nat) (o : Obj), W.heap[k]? = some o → k ≠ cg → (W.setCell ⟨cg, j * 2 + 1, none⟩ (.int .i64 t)).heap[k]? = some o := fun k o hk hn => (heap_setCell_other _ _ _ _ hn).trans hk
  have hty : ∀ (k : Nat) (cur : Array Value) (t' : TypeId), W.heap[k]? = some (.cells cur t' (0, 0)) → t' ≠ 76 → k ≠ cg := fun k cur t' hk ht' e => by
    rw [e, hcC] at hk
    simp only [Option.some.injEq, Obj.cells.injEq] at hk
    exact ht' hk.2.1.symm
  have row : ∀ {base e size n : Nat} {v' : Value} {xs : List Value}, W.ownsRow base e size v' n xs → e ≠ 76 → (W.setCell ⟨cg, j * 2 + 1, none⟩ (.int .i64 t)).ownsRow base e size v' n xs := fun hr he => ownsRow_same hr (fun g' hgg => by
    obtain ⟨cur', hc'⟩ := own_blk hr hgg
    exact heap_setCell_other _ _ _ _ (hty g' _ _ hc' he))
  have hprc : prcs (Qs ++ [{ y with L := y.L.set j ((kd y.L j).1, t) }]) = prcs (Qs ++ [y]) := by rw [prcs_append, prcs_append]; rfl
  refine ⟨hset B _ h.ab (hty B _ _ h.ab (by decide)), ?_, ?_, fun x hx => ?_, ?_, row h.nms (by decide), row h.jps (by decide), fun hop => ?_, fun x hx => ?_, h.bm.1, by simpa using h.bm.2⟩
  · unfold OwnP
    rw [hprc]
    have h9 := row h.lib (by decide)
    simpa using h9
  · show (a.lib.dropLast ++ [{ lastP a with L := y.L.set j ((kd y.L j).1, t) }]) = _
    rw [h.eq, hlp]
    simp [ppOf]
  · rcases List.mem_append.1 hx with hx | hx
    · have hq := h.code x (by simp [hx])
      refine ⟨hq.1, ownsRow_same hq.2 (fun g' hgg => heap_setCell_other _ _ _ _ (fun e => ?_))⟩
      exact hpw.2.2 x hx y (by simp) g' hgg (by rw [hvb]; exact congrArg some e.symm)
    · simp only [List.mem_singleton] at hx
      subst hx
      refine ⟨by simpa using hy.1, ?_⟩
      have h9 := hy.2
      unfold cdV at h9 ⊢
      simp only at h9 ⊢
      rw [hao] at h9 ⊢
      rw [← cks_setA y.L j t hj]
      exact own_set h9 _
  · refine List.pairwise_append.2 ⟨hpw.1, List.pairwise_singleton _ _, fun x hx z hz g' hgg e1 => ?_⟩
    simp only [List.mem_singleton] at hz
    subst hz
    exact hpw.2.2 x hx y (by simp) g' hgg e1
  · obtain ⟨mb, h5, h6, h7⟩ := h.lab hop
    refine ⟨mb, h5, h6, h7.same (heap_setCell_other _ _ _ _ (fun e => ?_))⟩
    have e' : mb = cg := e
    obtain ⟨D, ⟨es, clock, hb', _⟩, _⟩ := h7
    rw [e', hcC] at hb'
    cases hb'
  · rcases List.mem_append.1 hx with hx | hx
    · exact h.ok x (by simp [hx])
    · simp only [List.mem_singleton] at hx
      subst hx
      refine ⟨(h.ok y (by simp)).1, fun k hk => ?_, (h.ok y (by simp)).2.2⟩
      obtain ⟨i, hi, rfl⟩ := List.getElem_of_mem hk
      have hi' : i < y.L.length := by simpa using hi
      rw [List.getElem_set]
      split
      · exact ⟨((h.ok y (by simp)).2.1 _ (kd_mem hj)).1, ht⟩
      · exact (h.ok y (by simp)).2.1 _ (List.getElem_mem hi')
/-- the procedure is not open any more -/
theorem ASt.shut {W : World} {M B line : Nat} {a : As} {Ps : List Pr} {vl vn vm vj : Value} (h : ASt W M B line a Ps vl vn vm vj) : ASt (W.setCell ⟨B, 3, none⟩ (.bool false)) M B line { a with opn := false } Ps vl vn vm vj := by
  have row : ∀ {base e size n : Nat} {v' : Value} {xs : List Value}, W.ownsRow base e size v' n xs → e ≠ 58 → (W.setCell ⟨B, 3, none⟩ (.bool false)).ownsRow base e size v' n xs := fun hr he => ownsRow_same hr (fun g' hgg => by
    obtain ⟨cur', hc'⟩ := own_blk hr hgg
    exact heap_setCell_other _ _ _ _ (h.notB hc' he))
  exact ⟨heap_setCell_same W B 3 _ _ _ h.ab, row h.lib (by decide), h.eq, fun x hx => ⟨(h.code x hx).1, row (h.code x hx).2 (by decide)⟩, h.ap, row h.nms (by decide), row h.jps (by decide), fun hop => (by cases hop), h.ok, h.bm.1, by simpa using h.bm.2⟩
end Go.Proofs.YtiiplikmoodfnaaGreatDoor
