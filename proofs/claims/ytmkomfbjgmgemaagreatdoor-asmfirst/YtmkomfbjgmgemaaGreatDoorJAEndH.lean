import Derived.Test.YtmkomfbjgmgemaaGreatDoorJAIns
/-
  A PROCEDURE's END: the state.
-/
namespace Go.Proofs.YtmkomfbjgmgemaaGreatDoor
open Go.RowKit Go.Sort

theorem fixN_append (ls : List (List UInt8 × Nat)) : ∀ (A C : List Jp) (L : List K), fixN ls (A ++ C) L = match fixN ls A L with
    | .error e => .error e
    | .ok L' => fixN ls C L'
  | [], C, L => by simp [fixN]
  | j :: A, C, L => by
    simp only [List.cons_append, fixN]
    cases h : labN ls j.label with
    | none => rfl
    | some t => exact fixN_append ls A C _
theorem fixN_one (ls : List (List UInt8 × Nat)) (j : Jp) (L : List K) : fixN ls [j] L = match labN ls j.label with
    | none => .error (j.line, j.col, 42)
    | some t => .ok (L.set j.frm ((kd L j.frm).1, (t : Int))) := by
  simp only [fixN]
  cases labN ls j.label <;> rfl
theorem cks_setA : ∀ (L : List K) (j : Nat) (t : Int), j < L.length → (cks L).set (j * 2 + 1) (.int .i64 t) = cks (L.set j ((kd L j).1, t))
  | [], j, t, h => by simp at h
  | k :: L, 0, t, _ => by simp [cks, kd, cd]
  | k :: L, j + 1, t, h => by
    have ih := cks_setA L j t (by simpa using h)
    rw [show (j + 1) * 2 + 1 = (j * 2 + 1) + 1 + 1 by omega]
    simp only [cks, List.set_cons_succ, ih]
    simp [kd, cd]
theorem setL_setL (a : As) (L L' : List K) : setL (setL a L) L' = setL a L' := by simp [setL, lastP]
theorem setL_same {a : As} {x : Pr} {Qs : List Pr} (h : a.lib = (Qs ++ [x]).map ppOf) : setL a x.L = a := by
  obtain ⟨lib, names, opn, begun, labels, jumps⟩ := a
  simp only at h
  subst h
  simp [setL, lastP, ppOf]
/-- one place of the open procedure's code turns -/
theorem ASt.fix {W : World} {M B line : Nat} {a : As} {Qs : List Pr} {y : Pr} {vl vn vm vj : Value} {cg j : Nat} {t : Int} (h : ASt W M B line a (Qs ++ [y]) vl vn vm vj) (hao : y.ao = some ⟨cg, 0, none⟩) (hj : j < y.L.length) (ht : In64 t) :
    ASt (W.setCell ⟨cg, j * 2 + 1, none⟩ (.int .i64 t)) M B line (setL a (y.L.set j ((kd y.L j).1, t))) (Qs ++ [{ y with L := y.L.set j ((kd y.L j).1, t) }]) vl vn vm vj := by
  have hy := h.code y (by simp)
  have hvb : (cdV y).ownBlock = some cg := by unfold cdV; rw [hao]; rfl
  obtain ⟨curC, hcC⟩ := own_blk hy.2 hvb
  have hlp : lastP a = ppOf y := by unfold lastP; rw [h.eq]; simp
  have hpw := List.pairwise_append.1 h.ap
  have hset : ∀ (k : Nat) (o : Obj), W.heap[k]? = some o → k ≠ cg → (W.setCell ⟨cg, j * 2 + 1, none⟩ (.int .i64 t)).heap[k]? = some o := fun k o hk hn => (heap_setCell_other _ _ _ _ hn).trans hk
  have hty : ∀ (k : Nat) (cur : Array Value) (t' : TypeId), W.heap[k]? = some (.cells cur t' (0, 0)) → t' ≠ 40 → k ≠ cg := fun k cur t' hk ht' e => by
    rw [e, hcC] at hk
    simp only [Option.some.injEq, Obj.cells.injEq] at hk
    exact ht' hk.2.1.symm
  have row : ∀ {base e size n : Nat} {v' : Value} {xs : List Value}, W.ownsRow base e size v' n xs → e ≠ 40 → (W.setCell ⟨cg, j * 2 + 1, none⟩ (.int .i64 t)).ownsRow base e size v' n xs := fun hr he => ownsRow_same hr (fun g' hgg => by
    obtain ⟨cur', hc'⟩ := own_blk hr hgg
    exact heap_setCell_other _ _ _ _ (hty g' _ _ hc' he))
  have hprc : prcs (Qs ++ [{ y with L := y.L.set j ((kd y.L j).1, t) }]) = prcs (Qs ++ [y]) := by rw [prcs_append, prcs_append]; rfl
  refine ⟨hset B _ h.ab (hty B _ _ h.ab (by decide)), ?_, ?_, fun x hx => ?_, ?_, row h.nms (by decide), row h.jps (by decide), fun hop => ?_, fun x hx => ?_, h.bm.1, by simpa using h.bm.2⟩
  · unfold OwnP
    rw [hprc]
    have h9 := row h.lib (by decide)
    simpa using h9
  · show (a.lib.dropLast ++ [{ lastP a with L := y.L.set j ((kd y.L j).1, t) }]) = _
    rw [h.eq, hlp]
    simp [ppOf]
  · rcases List.mem_append.1 hx with hx | hx
    · have hq := h.code x (by simp [hx])
      refine ⟨hq.1, ownsRow_same hq.2 (fun g' hgg => heap_setCell_other _ _ _ _ (fun e => ?_))⟩
      exact hpw.2.2 x hx y (by simp) g' hgg (by rw [hvb]; exact congrArg some e.symm)
    · simp only [List.mem_singleton] at hx
      subst hx
      refine ⟨by simpa using hy.1, ?_⟩
      have h9 := hy.2
      unfold cdV at h9 ⊢
      simp only at h9 ⊢
      rw [hao] at h9 ⊢
      rw [← cks_setA y.L j t hj]
      exact own_set h9 _
  · refine List.pairwise_append.2 ⟨hpw.1, List.pairwise_singleton _ _, fun x hx z hz g' hgg e1 => ?_⟩
    simp only [List.mem_singleton] at hz
    subst hz
    exact hpw.2.2 x hx y (by simp) g' hgg e1
  · obtain ⟨mb, h5, h6, h7⟩ := h.lab hop
    refine ⟨mb, h5, h6, h7.same (heap_setCell_other _ _ _ _ (fun e => ?_))⟩
    have e' : mb = cg := e
    obtain ⟨D, ⟨es, clock, hb', _⟩, _⟩ := h7
    rw [e', hcC] at hb'
    cases hb'
  · rcases List.mem_append.1 hx with hx | hx
    · exact h.ok x (by simp [hx])
    · simp only [List.mem_singleton] at hx
      subst hx
      refine ⟨(h.ok y (by simp)).1, fun k hk => ?_, (h.ok y (by simp)).2.2⟩
      obtain ⟨i, hi, rfl⟩ := List.getElem_of_mem hk
      have hi' : i < y.L.length := by simpa using hi
      rw [List.getElem_set]
      split
      · exact ⟨((h.ok y (by simp)).2.1 _ (kd_mem hj)).1, ht⟩
      · exact (h.ok y (by simp)).2.1 _ (List.getElem_mem hi')
/-- the procedure is not open any more -/
theorem ASt.shut {W : World} {M B line : Nat} {a : As} {Ps : List Pr} {vl vn vm vj : Value} (h : ASt W M B line a Ps vl vn vm vj) : ASt (W.setCell ⟨B, 3, none⟩ (.bool false)) M B line { a with opn := false } Ps vl vn vm vj := by
  have row : ∀ {base e size n : Nat} {v' : Value} {xs : List Value}, W.ownsRow base e size v' n xs → e ≠ 53 → (W.setCell ⟨B, 3, none⟩ (.bool false)).ownsRow base e size v' n xs := fun hr he => ownsRow_same hr (fun g' hgg => by
    obtain ⟨cur', hc'⟩ := own_blk hr hgg
    exact heap_setCell_other _ _ _ _ (h.notB hc' he))
  exact ⟨heap_setCell_same W B 3 _ _ _ h.ab, row h.lib (by decide), h.eq, fun x hx => ⟨(h.code x hx).1, row (h.code x hx).2 (by decide)⟩, h.ap, row h.nms (by decide), row h.jps (by decide), fun hop => (by cases hop), h.ok, h.bm.1, by simpa using h.bm.2⟩
end Go.Proofs.YtmkomfbjgmgemaaGreatDoor
/-
  endProc.
-/
namespace Go.Proofs.YtmkomfbjgmgemaaGreatDoor
open Go.RowKit Go.Sort

/-- what endProc leaves -/
def EndPPost (W : World) (M B line : Nat) (a : As) (vl vn vm vj : Value) (e : Ending) (w' : World) : Prop :=
  (∃ v l col n, e = .returned v ∧ ErrAt w' v l col n ∧ fixN a.labels a.jumps (lastP a).L = .error (l, col, n) ∧ FrA M B W w') ∨
  (∃ L Ps', e = .returned .nilIface ∧ fixN a.labels a.jumps (lastP a).L = .ok L ∧ ASt w' M B line { setL a L with opn := false } Ps' vl vn vm vj ∧ FrA M B W w')
set_option maxRecDepth 100000 in
set_option maxHeartbeats 4000000 in
theorem endProc_any (w : World) (M B line k : Nat) (a : As) (Ps : List Pr) (vl vn vm vj : Value) (h : ASt w M B line a Ps vl vn vm vj) (hz : AsSz a k) (ho : a.opn = true) :
    Calls Tryz.prog 40 #[.pointer (some ⟨B, 0, none⟩)] w fun e w' => EndPPost w M B line a vl vn vm vj e w' := by
  obtain ⟨Qs, y, g, cap, rfl, rfl, hg, c5, hlp, hq, hxl, hxn⟩ := h.last hz ho
  obtain ⟨ynm, yp, yo, yn, yc, yL⟩ := y
  simp only at c5 hxl hxn
  have HZ := hidA hz
  have HO := hidA ho
  have HLp := hidA hlp
  have HXn := hidA hxn
  have hM := h.bm.2
  have HPr := hidA (program_d w B line a.begun.1 a.begun.2 g Qs.length cap vn vm vj a.opn h.ab (by omega))
  obtain ⟨jo, jc, rfl, _⟩ := own_slice h.jps
  obtain ⟨jn, hjn⟩ : ∃ jn, jn = a.jumps.length := ⟨_, rfl⟩
  rw [← hjn] at h ⊢
  have HJn := hidA hjn
  have HA := hidA h
  have hjn' : jn ≤ 65537 := by have := hz.jmp; have := hz.top; omega
  clear h hz ho hlp hxn hjn c5
  go_enter Tryz.func40, Tryz.ntmps40
  go_wp2_with fail
  refine HPr.out.mono ?_
  rintro e w1 ⟨rfl, q1, hw1⟩
  have hbel : Go.RowKit.Below w.heap.size w w1 := by rw [hw1]; exact bel_drewN w q1
  have HA1 := hidA (HA.out.below hbel)
  have HF1 : Hid (FrA M B w w1) := FrA.bel hbel hM
  have c5 : w1.cell? ⟨g, Qs.length * 6 + 5, none⟩ = some (.slice yo yL.length yc) := by
    obtain ⟨Qs', y', g', cap', e1, e2, _, c5, _⟩ := HA1.out.last HZ.out HO.out
    have e3 := List.append_inj' e1 rfl
    obtain ⟨rfl, e4⟩ := e3
    simp only [List.cons.injEq, and_true] at e4
    subst e4
    cases e2
    exact c5
  obtain ⟨_, _, _, _, _, _, _, x7⟩ := HA1.out.ab.cells
  clear hw1 hbel HA HPr
  have HI0 : Hid (fixN a.labels (a.jumps.take 0) (lastP a).L = .ok yL ∧ ASt w1 M B line (setL a yL) (Qs ++ [(⟨ynm, yp, yo, yn, yc, yL⟩ : Pr)]) (.slice (some ⟨g, 0, none⟩) (Qs.length + 1) cap) vn vm (.slice jo jn jc)) := by
    refine ⟨?_, ?_⟩
    · rw [List.take_zero, HLp.out]; rfl
    · rw [setL_same HA1.out.eq]; exact HA1.out
  go_wp2_with fail
  clear c5 x7
  go_loopw [5, 6, 7, 18] (fun _ _ _ x wr => ∃ (i : Nat) (L : List K), i ≤ jn ∧ x = .int .i64 (i : Int) ∧ Hid (L.length = yL.length) ∧ Hid (fixN a.labels (a.jumps.take i) (lastP a).L = .ok L ∧ ASt wr M B line (setL a L) (Qs ++ [(⟨ynm, yp, yo, yn, yc, L⟩ : Pr)]) (.slice (some ⟨g, 0, none⟩) (Qs.length + 1) cap) vn vm (.slice jo jn jc)) ∧ Hid (FrA M B w wr)) (fun _ _ _ x _ => jn - (intOf x).toNat)
  case atStart => exact ⟨0, yL, Nat.zero_le _, rfl, rfl, HI0, HF1⟩
  case round =>
    clear HI0 HF1 HA1
    obtain ⟨i, L, hi, rfl, HLen, HI, HF⟩ := hrel
    by_cases hlt : i < jn
    · have hil : i < a.jumps.length := by have := HJn.out; omega
      obtain ⟨jg, hjo⟩ : ∃ jg, jo = some ⟨jg, 0, none⟩ := by
        obtain ⟨g', c', e1, _⟩ := own_some HI.out.2.jps (by show 0 < a.jumps.length; omega)
        cases e1
        exact ⟨g', rfl⟩
      subst hjo
      have hjc : ∀ m u, m < 4 → (jpc a.jumps)[i * 4 + m]? = some u → wr.cell? ⟨jg, i * 4 + m, none⟩ = some u := fun m u hm hu => by
        have h9 := HI.out.2.jps
        have h10 : (setL a L).jumps = a.jumps := rfl
        rw [h10, ← HJn.out] at h9
        have hj : i * 4 + m < jn * 4 := by omega
        rw [World.ownsRow.cellAt h9 _ hj]
        exact hu
      obtain ⟨j0, j1, j2, j3⟩ := jpc_at a.jumps i hil
      have d0 := hjc 0 _ (by omega) j0
      rw [Nat.add_zero] at d0
      have d1 := hjc 1 _ (by omega) j1
      have d2 := hjc 2 _ (by omega) j2
      have d3 := hjc 3 _ (by omega) j3
      have HTk : Hid (a.jumps.take (i + 1) = a.jumps.take i ++ [a.jumps[i]]) := by show _ = _; rw [List.take_add_one, List.getElem?_eq_getElem hil]; rfl
      have HJf : Hid (a.jumps[i].frm < L.length ∧ a.jumps[i].label.length ≤ 65536 ∧ a.jumps[i] ∈ a.jumps) := by
        have h1 := HZ.out.frm HO.out _ (List.getElem_mem hil)
        rw [HLp.out] at h1
        exact ⟨by rw [HLen.out]; exact h1, HZ.out.jlb _ (List.getElem_mem hil), List.getElem_mem hil⟩
      have HDr : Hid (a.jumps = a.jumps.take (i + 1) ++ a.jumps.drop (i + 1)) := (List.take_append_drop _ _).symm
      clear hjc j0 j1 j2 j3
      generalize a.jumps[i] = jj at *
      clear hil
      obtain ⟨frm, label, jl, jcl⟩ := jj
      simp only at d0 d1 d2 d3 HJf
      obtain ⟨W1, hW1⟩ : ∃ W1, W1 = wr.alloc (.cells #[.int .i64 (frm : Int), .string (S label), .int .i64 (jl : Int), .int .i64 (jcl : Int)] 148) := ⟨_, rfl⟩
      have hbel : Go.RowKit.Below wr.heap.size wr W1 := by rw [hW1]; exact bel_al _ _
      have HA1 := hidA (HI.out.2.below hbel)
      have hMr : M ≤ wr.heap.size := HI.out.2.bm.2
      have HF1 : Hid (FrA M B w W1) := HF.out.trans (FrA.bel hbel hMr)
      have hM1 : M ≤ W1.heap.size := HA1.out.bm.2
      have HX1 : Hid (W1.heap[wr.heap.size]? = some (.cells #[.int .i64 (frm : Int), .string (S label), .int .i64 (jl : Int), .int .i64 (jcl : Int)] 148 (0, 0))) := by show _ = _; rw [hW1]; exact heap_alloc_new _ _ rfl
      obtain ⟨mb, hvm, hmb, hlm⟩ := HA1.out.lab HO.out
      subst hvm
      obtain ⟨c, hlc, hlk0⟩ := hlm.lookS label (by have := HJf.out.2.1; omega)
      have hlk : ∀ q, (Instr.lookup 50 (.map (some mb)) (.string (S label)) true).run Tryz.prog (W1.drewN q) = .ok (.tuple #[.int .i64 c, .bool (labN a.labels label).isSome]) (W1.drewN q) := fun q => hlk0 (W1.drewN q) rfl
      have HLc := hidA hlc
      obtain ⟨_, _, _, _, _, _, x6, _⟩ := HA1.out.ab.cells
      have k0 : W1.cell? ⟨wr.heap.size, 0, none⟩ = some (.int .i64 (frm : Int)) := by simp [World.cell?, HX1.out]
      have k1 : W1.cell? ⟨wr.heap.size, 1, none⟩ = some (.string (S label)) := by simp [World.cell?, HX1.out]
      have k2 : W1.cell? ⟨wr.heap.size, 2, none⟩ = some (.int .i64 (jl : Int)) := by simp [World.cell?, HX1.out]
      have k3 : W1.cell? ⟨wr.heap.size, 3, none⟩ = some (.int .i64 (jcl : Int)) := by simp [World.cell?, HX1.out]
      clear hlm hlk0 hlc hbel
      go_upto_region 5 with fail
      rw [← hW1]
      clear hW1 d0 d1 d2 d3
      go_quiet (fail)
      have HA2 : Hid (ASt (W1.drewN nq) M B line (setL a L) (Qs ++ [(⟨ynm, yp, yo, yn, yc, L⟩ : Pr)]) (.slice (some ⟨g, 0, none⟩) (Qs.length + 1) cap) vn (.map (some mb)) (.slice (some ⟨jg, 0, none⟩) jn jc)) := HA1.out.drewN nq
      have HF2 : Hid (FrA M B w (W1.drewN nq)) := HF1.out.trans (FrA.bel (bel_drewN W1 nq) hM1)
      have r0 : (W1.drewN nq).cell? ⟨wr.heap.size, 0, none⟩ = some (.int .i64 (frm : Int)) := k0
      have r2 : (W1.drewN nq).cell? ⟨wr.heap.size, 2, none⟩ = some (.int .i64 (jl : Int)) := k2
      have r3 : (W1.drewN nq).cell? ⟨wr.heap.size, 3, none⟩ = some (.int .i64 (jcl : Int)) := k3
      have hM2 : M ≤ (W1.drewN nq).heap.size := hM1
      clear hlk k0 k1 k2 k3 x6 HA1 HF1 HX1 hM1
      generalize W1.drewN nq = W2 at *
      cases hb : (labN a.labels label).isSome with
      | false =>
        have HL : Hid (labN a.labels label = none) := by show _ = _; simpa using hb
        clear hb
        go_wp2_with fail
        refine (wrongAt_any W2 jl jcl 42).mono ?_
        rintro e w5 ⟨v, rfl, p1, p2⟩
        have HE : Hid (EndPPost w M B line a (.slice (some ⟨g, 0, none⟩) (Qs.length + 1) cap) vn (.map (some mb)) (.slice (some ⟨jg, 0, none⟩) jn jc) (.returned v) w5) := by
          refine .inl ⟨v, jl, jcl, 42, rfl, p1, ?_, HF2.out.trans (FrA.bel p2 hM2)⟩
          rw [HDr.out, HTk.out, fixN_append, fixN_append, HI.out.1]
          simp only [fixN_one]
          rw [HL.out]
        clear p1 p2
        go_wp2_with fail
        go_ret
        exact HE.out
      | true =>
        obtain ⟨t, hl⟩ := Option.isSome_iff_exists.1 hb
        clear hb
        have hct : c = (t : Int) := HLc.out t hl
        subst hct
        have hyc := HA2.out.code (⟨ynm, yp, yo, yn, yc, L⟩ : Pr) (by simp)
        obtain ⟨cg, cc, hcd, _⟩ := own_some hyc.2 (by have h9 : yn = L.length := hyc.1; have := HJf.out.1; show 0 < yn; omega)
        have hao : yo = some ⟨cg, 0, none⟩ := by
          have h9 : Value.slice yo yn yc = .slice (some ⟨cg, 0, none⟩) yn cc := hcd
          simp only [Value.slice.injEq] at h9
          exact h9.1
        subst hao
        have hfl : (frm : Int) < (yL.length : Int) := by have := HJf.out.1; have := HLen.out; omega
        have hrow : W2.ownsRow M 40 2 (.slice (some ⟨cg, 0, none⟩) yn cc) yn (cks L) := by rw [← hcd]; exact hyc.2
        have hcell : ∃ u, W2.cell? ⟨cg, frm * 2 + 1, none⟩ = some u := by
          have h9 : yn = L.length := hyc.1
          have hj : frm * 2 + 1 < yn * 2 := by have := HJf.out.1; omega
          rw [World.ownsRow.cellAt hrow _ hj, (cks_at L frm HJf.out.1).2]
          exact ⟨_, rfl⟩
        obtain ⟨u, q1⟩ := hcell
        have f1 : W2.frozen? ⟨cg, frm * 2 + 1, none⟩ = false := World.ownsRow.frozenAt hrow _
        have ht : In64 (t : Int) := by
          have h8 : ∃ x ∈ a.labels, x.2 = t := by
            unfold labN at hl
            cases h9 : a.labels.find? (fun x => x.1 == label) with
            | none => rw [h9] at hl; cases hl
            | some x =>
              rw [h9] at hl
              simp only [Option.map_some, Option.some.injEq] at hl
              exact ⟨x, List.mem_of_find?_eq_some h9, hl⟩
          obtain ⟨x, h9, h10⟩ := h8
          have := HZ.out.lbs x h9
          unfold In64
          omega
        have HN : Hid (fixN a.labels (a.jumps.take (i + 1)) (lastP a).L = .ok (L.set frm ((kd L frm).1, (t : Int))) ∧ ASt (W2.setCell ⟨cg, frm * 2 + 1, none⟩ (.int .i64 (t : Int))) M B line (setL a (L.set frm ((kd L frm).1, (t : Int)))) (Qs ++ [(⟨ynm, yp, some ⟨cg, 0, none⟩, yn, yc, L.set frm ((kd L frm).1, (t : Int))⟩ : Pr)]) (.slice (some ⟨g, 0, none⟩) (Qs.length + 1) cap) vn (.map (some mb)) (.slice (some ⟨jg, 0, none⟩) jn jc)) := by
          refine ⟨?_, ?_⟩
          · rw [HTk.out, fixN_append, HI.out.1]
            simp only [fixN_one]
            rw [hl]
          · have h9 := HA2.out.fix (cg := cg) (j := frm) (t := (t : Int)) rfl HJf.out.1 ht
            rw [setL_setL] at h9
            exact h9
        have HLn : Hid ((L.set frm ((kd L frm).1, (t : Int))).length = yL.length) := by show _ = _; rw [List.length_set]; exact HLen.out
        have hMc : M ≤ cg := (World.ownsRow.lt hrow cg rfl).1
        have HF3 : Hid (FrA M B w (W2.setCell ⟨cg, frm * 2 + 1, none⟩ (.int .i64 (t : Int)))) := HF2.out.trans (FrA.set _ _ (.inr hMc))
        clear hl hyc hcd hrow ht HA2 HF2
        go_wp2
        go_roundw
        case rel => exact ⟨i + 1, L.set frm ((kd L frm).1, (t : Int)), by omega, by go_num, HLn, HN, HF3⟩
        case measure => simp [intOf]; omega
    · obtain rfl : i = jn := by omega
      have HFx : Hid (fixN a.labels a.jumps (lastP a).L = .ok L) := by
        have h9 := HI.out.1
        rw [HJn.out, List.take_length] at h9
        exact h9
      obtain ⟨_, _, _, x3, _⟩ := HI.out.2.ab.cells
      have f3 := HI.out.2.ab.frozen 3
      have HE : Hid (EndPPost w M B line a (.slice (some ⟨g, 0, none⟩) (Qs.length + 1) cap) vn vm (.slice jo i jc) (.returned .nilIface) (wr.setCell ⟨B, 3, none⟩ (.bool false))) := .inr ⟨L, _, rfl, HFx.out, HI.out.2.shut, HF.out.trans (FrA.set _ _ (.inl rfl))⟩
      clear HI HF
      go_wp2
      go_ret
      exact HE.out
end Go.Proofs.YtmkomfbjgmgemaaGreatDoor
