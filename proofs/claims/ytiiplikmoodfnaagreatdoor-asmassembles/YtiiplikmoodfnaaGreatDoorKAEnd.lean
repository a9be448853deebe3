import Derived.Test.YtiiplikmoodfnaaGreatDoorKAInsH
import Derived.Test.YtiiplikmoodfnaaGreatDoorKLSearch
import Derived.Shelf.LaysM
import Derived.Shelf.Strconv.Clone
import Derived.Test.YtiiplikmoodfnaaGreatDoorProg
import Derived.Test.YtiiplikmoodfnaaGreatDoorKAMath
import Derived.WalkKit
/-
  endProc.
-/
namespace Go.Proofs.YtiiplikmoodfnaaGreatDoor
open Go.RowKit Go.Sort

/-- what endProc leaves -/
def EndPPost (W : World) (M B line : Nat) (a : As) (vl vn vm vj : Value) (e : Ending) (w' : World) : Prop :=
  (∃ v l col n, e = .returned v ∧ ErrAt w' v l col n ∧ fixN a.labels a.jumps (lastP a).L = .error (l, col, n) ∧ FrA M B W w') ∨
  (∃ L Ps', e = .returned .nilIface ∧ fixN a.labels a.jumps (lastP a).L = .ok L ∧ ASt w' M B line { setL a L with opn := false } Ps' vl vn vm vj ∧ FrA M B W w')
set_option maxRecDepth 100000 in
set_option maxHeartbeats 4000000 in
theorem endProc_any (w : World) (M B line k : Nat) (a : As) (Ps : List Pr) (vl vn vm vj : Value) (h : ASt w M B line a Ps vl vn vm vj) (hz : AsSz a k) (ho : a.opn = true) :
    Calls Tryz.prog 44 #[.pointer (some ⟨B, 0, none⟩)] w fun e w' => EndPPost w M B line a vl vn vm vj e w' := by
  obtain ⟨Qs, y, g, cap, rfl, rfl, hg, c5, hlp, hq, hxl, hxn⟩ := h.last hz ho
  obtain ⟨ynm, yp, yo, yn, yc, yL⟩ := y
  simp only at c5 hxl hxn
  have HZ := hidA hz
  have HO := hidA ho
  have HLp := hidA hlp
  have HXn := hidA hxn
  have hM := h.bm.2
  have HPr := hidA (program_d w B line a.begun.1 a.begun.2 g Qs.length cap vn vm vj a.opn h.ab (by omega))
  obtain ⟨jo, jc, rfl, _⟩ := own_slice h.jps
  obtain ⟨jn, hjn⟩ : ∃ jn, jn = a.jumps.length := ⟨_, rfl⟩
  rw [← hjn] at h ⊢
  have HJn := hidA hjn
  have HA := hidA h
  have hjn' : jn ≤ 65537 := by have := hz.jmp; have := hz.top; omega
  clear h hz ho hlp hxn hjn c5
  go_enter Tryz.func44, Tryz.ntmps44
  go_wp2_with fail
  refine HPr.out.mono ?_
  rintro e w1 ⟨rfl, q1, hw1⟩
  have hbel : Go.RowKit.Below w.heap.size w w1 := by rw [hw1]; exact bel_drewN w q1
  have HA1 := hidA (HA.out.below hbel)
  have HF1 : Hid (FrA M B w w1) := FrA.bel hbel hM
  have c5 : w1.cell? ⟨g, Qs.length * 6 + 5, none⟩ = some (.slice yo yL.length yc) := by
    obtain ⟨Qs', y', g', cap', e1, e2, _, c5, _⟩ := HA1.out.last HZ.out HO.out
    have e3 := List.append_inj' e1 rfl
    obtain ⟨rfl, e4⟩ := e3
    simp only [List.cons.injEq, and_true] at e4
    subst e4
    cases e2
    exact c5
  obtain ⟨_, _, _, _, _, _, _, x7⟩ := HA1.out.ab.cells
  clear hw1 hbel HA HPr
  have HI0 : Hid (fixN a.labels (a.jumps.take 0) (lastP a).L = .ok yL ∧ ASt w1 M B line (setL a yL) (Qs ++ [(⟨ynm, yp, yo, yn, yc, yL⟩ : Pr)]) (.slice (some ⟨g, 0, none⟩) (Qs.length + 1) cap) vn vm (.slice jo jn jc)) := by
    refine ⟨?_, ?_⟩
    · rw [List.take_zero, HLp.out]; rfl
    · rw [setL_same HA1.out.eq]; exact HA1.out
  go_wp2_with fail
  clear c5 x7
  go_loopw [5, 6, 7, 18] (fun _ _ _ x wr => ∃ (i : Nat) (L : List K), i ≤ jn ∧ x = .int .i64 (i : Int) ∧ Hid (L.length = yL.length) ∧ Hid (fixN a.labels (a.jumps.take i) (lastP a).L = .ok L ∧ ASt wr M B line (setL a L) (Qs ++ [(⟨ynm, yp, yo, yn, yc, L⟩ : Pr)]) (.slice (some ⟨g, 0, none⟩) (Qs.length + 1) cap) vn vm (.slice jo jn jc)) ∧ Hid (FrA M B w wr)) (fun _ _ _ x _ => jn - (intOf x).toNat)
  case atStart => exact ⟨0, yL, Nat.zero_le _, rfl, rfl, HI0, HF1⟩
  case round =>
    clear HI0 HF1 HA1
    obtain ⟨i, L, hi, rfl, HLen, HI, HF⟩ := hrel
    by_cases hlt : i < jn
    · have hil : i < a.jumps.length := by have := HJn.out; omega
      obtain ⟨jg, hjo⟩ : ∃ jg, jo = some ⟨jg, 0, none⟩ := by
        obtain ⟨g', c', e1, _⟩ := own_some HI.out.2.jps (by show 0 < a.jumps.length; omega)
        cases e1
        exact ⟨g', rfl⟩
      subst hjo
      have hjc : ∀ m u, m < 4 → (jpc a.jumps)[i * 4 + m]? = some u → wr.cell? ⟨jg, i * 4 + m, none⟩ = some u := fun m u hm hu => by
        have h9 := HI.out.2.jps
        have h10 : (setL a L).jumps = a.jumps := rfl
        rw [h10, ← HJn.out] at h9
        have hj : i * 4 + m < jn * 4 := by omega
        rw [World.ownsRow.cellAt h9 _ hj]
        exact hu
      obtain ⟨j0, j1, j2, j3⟩ := jpc_at a.jumps i hil
      have d0 := hjc 0 _ (by omega) j0
      rw [Nat.add_zero] at d0
      have d1 := hjc 1 _ (by omega) j1
      have d2 := hjc 2 _ (by omega) j2
      have d3 := hjc 3 _ (by omega) j3
      have HTk : Hid (a.jumps.take (i + 1) = a.jumps.take i ++ [a.jumps[i]]) := by show _ = _; rw [List.take_add_one, List.getElem?_eq_getElem hil]; rfl
      have HJf : Hid (a.jumps[i].frm < L.length ∧ a.jumps[i].label.length ≤ 65536 ∧ a.jumps[i] ∈ a.jumps) := by
        have h1 := HZ.out.frm HO.out _ (List.getElem_mem hil)
        rw [HLp.out] at h1
        exact ⟨by rw [HLen.out]; exact h1, HZ.out.jlb _ (List.getElem_mem hil), List.getElem_mem hil⟩
      have HDr : Hid (a.jumps = a.jumps.take (i + 1) ++ a.jumps.drop (i + 1)) := (List.take_append_drop _ _).symm
      clear hjc j0 j1 j2 j3
      generalize a.jumps[i] = jj at *
      clear hil
      obtain ⟨frm, label, jl, jcl⟩ := jj
      simp only at d0 d1 d2 d3 HJf
      obtain ⟨W1, hW1⟩ : ∃ W1, W1 = wr.alloc (.cells #[.int .i64 (frm : Int), .string (S label), .int .i64 (jl : Int), .int .i64 (jcl : Int)] 165) := ⟨_, rfl⟩
      have hbel : Go.RowKit.Below wr.heap.size wr W1 := by rw [hW1]; exact bel_al _ _
      have HA1 := hidA (HI.out.2.below hbel)
      have hMr : M ≤ wr.heap.size := HI.out.2.bm.2
      have HF1 : Hid (FrA M B w W1) := HF.out.trans (FrA.bel hbel hMr)
      have hM1 : M ≤ W1.heap.size := HA1.out.bm.2
      have HX1 : Hid (W1.heap[wr.heap.size]? = some (.cells #[.int .i64 (frm : Int), .string (S label), .int .i64 (jl : Int), .int .i64 (jcl : Int)] 165 (0, 0))) := by show _ = _; rw [hW1]; exact heap_alloc_new _ _ rfl
      obtain ⟨mb, hvm, hmb, hlm⟩ := HA1.out.lab HO.out
      subst hvm
      obtain ⟨c, hlc, hlk0⟩ := hlm.lookS label (by have := HJf.out.2.1; omega)
      have hlk : ∀ q, (Instr.lookup 55 (.map (some mb)) (.string (S label)) true).run Tryz.prog (W1.drewN q) = .ok (.tuple #[.int .i64 c, .bool (labN a.labels label).isSome]) (W1.drewN q) := fun q => hlk0 (W1.drewN q) rfl
      have HLc := hidA hlc
      obtain ⟨_, _, _, _, _, _, x6, _⟩ := HA1.out.ab.cells
      have k0 : W1.cell? ⟨wr.heap.size, 0, none⟩ = some (.int .i64 (frm : Int)) := by simp [World.cell?, HX1.out]
      have k1 : W1.cell? ⟨wr.heap.size, 1, none⟩ = some (.string (S label)) := by simp [World.cell?, HX1.out]
      have k2 : W1.cell? ⟨wr.heap.size, 2, none⟩ = some (.int .i64 (jl : Int)) := by simp [World.cell?, HX1.out]
      have k3 : W1.cell? ⟨wr.heap.size, 3, none⟩ = some (.int .i64 (jcl : Int)) := by simp [World.cell?, HX1.out]
      clear hlm hlk0 hlc hbel
      go_upto_region 5 with fail
      rw [← hW1]
      clear hW1 d0 d1 d2 d3
      go_quiet (fail)
      have HA2 : Hid (ASt (W1.drewN nq) M B line (setL a L) (Qs ++ [(⟨ynm, yp, yo, yn, yc, L⟩ : Pr)]) (.slice (some ⟨g, 0, none⟩) (Qs.length + 1) cap) vn (.map (some mb)) (.slice (some ⟨jg, 0, none⟩) jn jc)) := HA1.out.drewN nq
      have HF2 : Hid (FrA M B w (W1.drewN nq)) := HF1.out.trans (FrA.bel (bel_drewN W1 nq) hM1)
      have r0 : (W1.drewN nq).cell? ⟨wr.heap.size, 0, none⟩ = some (.int .i64 (frm : Int)) := k0
      have r2 : (W1.drewN nq).cell? ⟨wr.heap.size, 2, none⟩ = some (.int .i64 (jl : Int)) := k2
      have r3 : (W1.drewN nq).cell? ⟨wr.heap.size, 3, none⟩ = some (.int .i64 (jcl : Int)) := k3
      have hM2 : M ≤ (W1.drewN nq).heap.size := hM1
      clear hlk k0 k1 k2 k3 x6 HA1 HF1 HX1 hM1
      generalize W1.drewN nq = W2 at *
      cases hb : (labN a.labels label).isSome with
      | false =>
        have HL : Hid (labN a.labels label = none) := by show _ = _; simpa using hb
        clear hb
        go_wp2_with fail
        refine (wrongAt_any W2 jl jcl 42).mono ?_
        rintro e w5 ⟨v, rfl, p1, p2⟩
        have HE : Hid (EndPPost w M B line a (.slice (some ⟨g, 0, none⟩) (Qs.length + 1) cap) vn (.map (some mb)) (.slice (some ⟨jg, 0, none⟩) jn jc) (.returned v) w5) := by
          refine .inl ⟨v, jl, jcl, 42, rfl, p1, ?_, HF2.out.trans (FrA.bel p2 hM2)⟩
          rw [HDr.out, HTk.out, fixN_append, fixN_append, HI.out.1]
          simp only [fixN_one]
          rw [HL.out]
        clear p1 p2
        go_wp2_with fail
        go_ret
        exact HE.out
      | true =>
        obtain ⟨t, hl⟩ := Option.isSome_iff_exists.1 hb
        clear hb
        have hct : c = (t : Int) := HLc.out t hl
        subst hct
        have hyc := HA2.out.code (⟨ynm, yp, yo, yn, yc, L⟩ : Pr) (by simp)
        obtain ⟨cg, cc, hcd, _⟩ := own_some hyc.2 (by have h9 : yn = L.length := hyc.1; have := HJf.out.1; show 0 < yn; omega)
        have hao : yo = some ⟨cg, 0, none⟩ := by
          have h9 : Value.slice yo yn yc = .slice (some ⟨cg, 0, none⟩) yn cc := hcd
          simp only [Value.slice.injEq] at h9
          exact h9.1
        subst hao
        have hfl : (frm : Int) < (yL.length : Int) := by have := HJf.out.1; have := HLen.out; omega
        have hrow : W2.ownsRow M 76 2 (.slice (some ⟨cg, 0, none⟩) yn cc) yn (cks L) := by rw [← hcd]; exact hyc.2
        have hcell : ∃ u, W2.cell? ⟨cg, frm * 2 + 1, none⟩ = some u := by
          have h9 : yn = L.length := hyc.1
          have hj : frm * 2 + 1 < yn * 2 := by have := HJf.out.1; omega
          rw [World.ownsRow.cellAt hrow _ hj, (cks_at L frm HJf.out.1).2]
          exact ⟨_, rfl⟩
        obtain ⟨u, q1⟩ := hcell
        have f1 : W2.frozen? ⟨cg, frm * 2 + 1, none⟩ = false := World.ownsRow.frozenAt hrow _
        have ht : In64 (t : Int) := by
          have h8 : ∃ x ∈ a.labels, x.2 = t := by
            unfold labN at hl
            cases h9 : a.labels.find? (fun x => x.1 == label) with
            | none => rw [h9] at hl; cases hl
            | some x =>
              rw [h9] at hl
              simp only [Option.map_some, Option.some.injEq] at hl
              exact ⟨x, List.mem_of_find?_eq_some h9, hl⟩
          obtain ⟨x, h9, h10⟩ := h8
          have := HZ.out.lbs x h9
          unfold In64
          omega
        have HN : Hid (fixN a.labels (a.jumps.take (i + 1)) (lastP a).L = .ok (L.set frm ((kd L frm).1, (t : Int))) ∧ ASt (W2.setCell ⟨cg, frm * 2 + 1, none⟩ (.int .i64 (t : Int))) M B line (setL a (L.set frm ((kd L frm).1, (t : Int)))) (Qs ++ [(⟨ynm, yp, some ⟨cg, 0, none⟩, yn, yc, L.set frm ((kd L frm).1, (t : Int))⟩ : Pr)]) (.slice (some ⟨g, 0, none⟩) (Qs.length + 1) cap) vn (.map (some mb)) (.slice (some ⟨jg, 0, none⟩) jn jc)) := by
          refine ⟨?_, ?_⟩
          · rw [HTk.out, fixN_append, HI.out.1]
            simp only [fixN_one]
            rw [hl]
          · have h9 := HA2.out.fix (cg := cg) (j := frm) (t := (t : Int)) rfl HJf.out.1 ht
            rw [setL_setL] at h9
            exact h9
        have HLn : Hid ((L.set frm ((kd L frm).1, (t : Int))).length = yL.length) := by show _ = _; rw [List.length_set]; exact HLen.out
        have hMc : M ≤ cg := (World.ownsRow.lt hrow cg rfl).1
        have HF3 : Hid (FrA M B w (W2.setCell ⟨cg, frm * 2 + 1, none⟩ (.int .i64 (t : Int)))) := HF2.out.trans (FrA.set _ _ (.inr hMc))
        clear hl hyc hcd hrow ht HA2 HF2
        go_wp2
        go_roundw
        case rel => exact ⟨i + 1, L.set frm ((kd L frm).1, (t : Int)), by omega, by go_num, HLn, HN, HF3⟩
        case measure => simp [intOf]; omega
    · obtain rfl : i = jn := by omega
      have HFx : Hid (fixN a.labels a.jumps (lastP a).L = .ok L) := by
        have h9 := HI.out.1
        rw [HJn.out, List.take_length] at h9
        exact h9
      obtain ⟨_, _, _, x3, _⟩ := HI.out.2.ab.cells
      have f3 := HI.out.2.ab.frozen 3
      have HE : Hid (EndPPost w M B line a (.slice (some ⟨g, 0, none⟩) (Qs.length + 1) cap) vn vm (.slice jo i jc) (.returned .nilIface) (wr.setCell ⟨B, 3, none⟩ (.bool false))) := .inr ⟨L, _, rfl, HFx.out, HI.out.2.shut, HF.out.trans (FrA.set _ _ (.inl rfl))⟩
      clear HI HF
      go_wp2
      go_ret
      exact HE.out
end Go.Proofs.YtiiplikmoodfnaaGreatDoor
/-
  readInside.
-/
namespace Go.Proofs.YtiiplikmoodfnaaGreatDoor
open Go.RowKit Go.Sort

theorem opR_le (s : ByteArray) : (opR s).1 ≤ 37 := by
  have hf : ∀ n i, findN s n = some i → i < n := fun n => by
    induction n with
    | zero => intro i h; cases h
    | succ n ih =>
      intro i h
      unfold findN at h
      cases h1 : findN s n with
      | some j =>
        rw [h1] at h
        simp only [Option.some.injEq] at h
        have := ih j h1
        omega
      | none =>
        rw [h1] at h
        simp only at h
        split at h
        · simp only [Option.some.injEq] at h; omega
        · cases h
  unfold opR
  cases h : findN s 37 with
  | some i => have := hf 37 i h; show i ≤ 37; omega
  | none => show 0 ≤ 37; omega
theorem NmAt.fra {M B : Nat} {W W' : World} (h : NmAt W) (hb : FrA M B W W') (hB : B < M) (hg : 8 ≤ B) : NmAt W' := fun i hi => by
  have h1 := h i hi
  have h2 := hb.block 2 (by omega) (by omega)
  simp only [World.cell?] at h1 ⊢
  rw [h2]
  exact h1
/-- an error of a line: without its line's number, or with that of an earlier one -/
def ErrIn (W : World) (v : Value) (line : Nat) (E : Nat × Nat × Int) : Prop := (ErrAt W v 0 E.2.1 E.2.2 ∧ E.1 = line) ∨ (E.1 ≠ 0 ∧ ErrAt W v E.1 E.2.1 E.2.2)
/-- what a line leaves -/
def LinePost (W : World) (M B line : Nat) (R : Except (Nat × Nat × Int) As) (e : Ending) (w' : World) : Prop :=
  (∃ v E, e = .returned v ∧ ErrIn w' v line E ∧ R = .error E ∧ FrA M B W w') ∨
  (∃ a' Ps' vl vn vm vj, e = .returned .nilIface ∧ R = .ok a' ∧ ASt w' M B line a' Ps' vl vn vm vj ∧ FrA M B W w')
theorem fixN_line {ls : List (List UInt8 × Nat)} : ∀ {js : List Jp} {L : List K} {E : Nat × Nat × Int}, fixN ls js L = .error E → ∃ j ∈ js, E.1 = j.line
  | [], L, E, h => by cases h
  | j :: js, L, E, h => by
    simp only [fixN] at h
    split at h
    · simp only [Except.error.injEq] at h
      exact ⟨j, by simp, by rw [← h]⟩
    · obtain ⟨j', h1, h2⟩ := fixN_line h
      exact ⟨j', by simp [h1], h2⟩
set_option maxRecDepth 100000 in
set_option maxHeartbeats 4000000 in
theorem readInside_any (w : World) (M B line k : Nat) (a : As) (Ps : List Pr) (vl vn vm vj : Value) (r : Nat) (x : Wd) (rest : List Wd) (h : ASt w M B line a Ps vl vn vm vj) (hz : AsSz a k) (ho : a.opn = true) (hR : RB (ZA M B) w r (x :: rest, 0)) (hs : SmallW (x :: rest)) (hr : M ≤ r) (hwl : ∀ y ∈ x :: rest, y.1.length ≤ 65536) (hv : NumVars w) (hn : NmAt w) (hB : 8 ≤ B) :
    Calls Tryz.prog 26 #[.pointer (some ⟨B, 0, none⟩), .pointer (some ⟨r, 0, none⟩)] w fun e w' => LinePost w M B line (insideA a line (x :: rest)) e w' := by
  have HC := hidA (next_any w r (x :: rest, 0) hR hs)
  have HSm : Hid (SmallW rest ∧ x.1.length ≤ 65536 ∧ ∀ y ∈ rest, y.1.length ≤ 65536) := ⟨⟨fun y hy => hs.1 y (List.mem_cons_of_mem _ hy), by have := hs.2; simp at this; omega⟩, hwl x (by simp), fun y hy => hwl y (List.mem_cons_of_mem _ hy)⟩
  have HA := hidA h
  have HZ := hidA hz
  have HO := hidA ho
  have HR := hidA hR
  have HV := hidA hv
  have HN := hidA hn
  have hM := h.bm.2
  have hBM := h.bm.1
  clear h hz ho hR hs hwl hv hn
  go_enter Tryz.func26, Tryz.ntmps26
  go_wp2_with fail
  refine HC.out.mono ?_
  rintro e w1 (⟨v, col, h1, _⟩ | ⟨x', rd', h1, rfl, h3, h4⟩)
  · cases h1
  simp only [rNext, Except.ok.injEq, Prod.mk.injEq] at h1
  obtain ⟨rfl, rfl⟩ := h1
  have hM1 : M ≤ w1.heap.size := Nat.le_trans hM h4.size
  obtain ⟨W2, hW2⟩ : ∃ W2, W2 = w1.alloc (.cells #[.string (S x.1), .int .i64 (x.2 : Int)] 83) := ⟨_, rfl⟩
  have hB2 : Go.RowKit.Below w1.heap.size w1 W2 := by rw [hW2]; exact bel_al _ _
  have HA2 : Hid (ASt W2 M B line a Ps vl vn vm vj) := (HA.out.bx HR.out h4).below hB2
  have HR2 : Hid (RB (ZA M B) W2 r (rest, x.2 + x.1.length)) := h3.kept hB2
  have HF2 : Hid (FrA M B w W2) := (FrA.bx h4 hM hr).trans (FrA.bel hB2 hM1)
  have hM2 : M ≤ W2.heap.size := Nat.le_trans hM1 hB2.size
  have HW2 : Hid (WB W2 w1.heap.size (.string (S x.1)) (.int .i64 (x.2 : Int))) := by show WB _ _ _ _; rw [hW2]; exact heap_alloc_new _ _ rfl
  have HV2 : Hid (NumVars W2) := HV.out.fra HF2.out hBM hB
  have HN2 : Hid (NmAt W2) := HN.out.fra HF2.out hBM hB
  obtain ⟨z0, z1, _, _⟩ := HW2.out.cells
  clear h3 h4 hB2 HC HA HR HV HN
  go_upto_region 4 with fail
  rw [← hW2]
  clear hW2
  by_cases hen : x.1 = endL
  · have hbe : ((S x.1).toList == [101, 110, 100]) = true := by rw [S_toList, hen]; rfl
    have HEn := hidA hen
    clear hen
    go_wp2_with fail
    refine (end_any W2 r (rest, x.2 + x.1.length) HR2.out HSm.out.1).mono ?_
    rintro e w3 (⟨v, col, n, h1, rfl, h2, h3⟩ | ⟨h1, rfl, hw3⟩)
    · obtain ⟨p, rfl⟩ := err_iface h2
      have HE : Hid (LinePost w M B line (insideA a line (x :: rest)) (.returned (.iface 63 p)) w3) := .inl ⟨_, (line, col, n), rfl, .inl ⟨h2, rfl⟩, by simp only [insideA]; rw [if_pos HEn.out, h1], HF2.out.trans (FrA.bel h3 hM2)⟩
      clear h1 h2 h3
      go_wp2_with fail
      go_ret
      exact HE.out
    · have hw3' := hw3.symm
      subst hw3'
      have HE1 := hidA h1
      clear hw3 h1
      have HEp := hidA (endProc_any W2 M B line k a Ps vl vn vm vj HA2.out HZ.out HO.out)
      go_wp2_with fail
      refine HEp.out.mono ?_
      rintro e w4 (⟨v, l, col, n, rfl, h1, h2, h3⟩ | ⟨L, Ps', rfl, h1, h2, h3⟩)
      · have HE : Hid (LinePost w M B line (insideA a line (x :: rest)) (.returned v) w4) := .inl ⟨_, (l, col, n), rfl, .inr ⟨by
          obtain ⟨j, h5, h6⟩ := fixN_line h2
          have h7 : l = j.line := h6
          rw [h7]
          exact HZ.out.jln j h5, h1⟩, by simp only [insideA]; rw [if_pos HEn.out, HE1.out]; simp only; rw [h2], HF2.out.trans h3⟩
        clear h1 h2 h3 HEp
        go_wp2_with fail
        go_ret
        exact HE.out
      · have HE : Hid (LinePost w M B line (insideA a line (x :: rest)) (.returned .nilIface) w4) := .inr ⟨_, Ps', _, _, _, _, rfl, by simp only [insideA]; rw [if_pos HEn.out, HE1.out]; simp only; rw [h1], h2, HF2.out.trans h3⟩
        clear h1 h2 h3 HEp
        go_wp2_with fail
        go_ret
        exact HE.out
  · have hbe : ((S x.1).toList == [101, 110, 100]) = false := by
      rw [S_toList]
      have e0 : ([101, 110, 100] : List UInt8) = endL := rfl
      rw [e0]
      simpa using hen
    have HEn := hidA hen
    clear hen
    have HCt := hidA (cutSuffix_any W2 x.1 58 (by have := HSm.out.2.1; omega))
    go_wp2_with fail
    refine HCt.out.mono ?_
    rintro e w3 ⟨rfl, hw3⟩
    have hw3' := hw3.symm
    subst hw3'
    clear hw3 HCt
    cases hb : endsB x.1 58 with
    | true =>
      have HEd : Hid (x.1.getLast? = some 58) := by show _ = _; unfold endsB at hb; simpa using hb
      have hcv : cutV x.1 58 = .tuple #[.string (S x.1.dropLast), .bool true] := by unfold cutV; rw [hb]; rfl
      rw [hcv]
      clear hcv hb
      have HAl := hidA (addLabel_any W2 M B line k a Ps vl vn vm vj x.1.dropLast x.2 HA2.out HZ.out HO.out (by have := HSm.out.2.1; rw [List.length_dropLast]; omega))
      go_wp2_with fail
      refine HAl.out.mono ?_
      rintro e w4 (⟨v, n, rfl, h1, h2, h3⟩ | ⟨rfl, h1, h2, h3, h4⟩)
      · obtain ⟨p, rfl⟩ := err_iface h1
        have HE : Hid (LinePost w M B line (insideA a line (x :: rest)) (.returned (.iface 63 p)) w4) := .inl ⟨_, (line, x.2, n), rfl, .inl ⟨h1, rfl⟩, by
          simp only [insideA]
          rw [if_neg HEn.out, if_pos HEd.out]
          rcases h2 with ⟨q1, rfl⟩ | ⟨q1, q2, rfl⟩
          · rw [if_pos q1]
          · rw [if_neg (by rw [q1]; simp), if_pos q2], HF2.out.trans h3.fr⟩
        clear h1 h2 h3 HAl
        go_wp2_with fail
        go_ret
        exact HE.out
      · have HA4 := hidA h3
        have HF4 : Hid (FrA M B w w4) := HF2.out.trans h4.fr
        have HR4 := hidA (HR2.out.frr h4)
        have H12 := hidA (And.intro h1 h2)
        have hM4 : M ≤ w4.heap.size := h3.bm.2
        clear h1 h2 h3 h4 HAl
        go_wp2_with fail
        refine (end_any w4 r (rest, x.2 + x.1.length) HR4.out HSm.out.1).mono ?_
        rintro e w5 (⟨v, col, n, h1, rfl, h2, h3⟩ | ⟨h1, rfl, hw5⟩)
        · have HE : Hid (LinePost w M B line (insideA a line (x :: rest)) (.returned v) w5) := .inl ⟨_, (line, col, n), rfl, .inl ⟨h2, rfl⟩, by
            simp only [insideA]
            rw [if_neg HEn.out, if_pos HEd.out, if_neg (by rw [H12.out.1]; simp), if_neg (by rw [H12.out.2]; simp), h1], HF4.out.trans (FrA.bel h3 hM4)⟩
          clear h1 h2 h3
          go_wp2_with fail
          go_ret
          exact HE.out
        · have HE : Hid (LinePost w M B line (insideA a line (x :: rest)) (.returned .nilIface) w5) := .inr ⟨_, Ps, vl, vn, vm, vj, rfl, by
            simp only [insideA]
            rw [if_neg HEn.out, if_pos HEd.out, if_neg (by rw [H12.out.1]; simp), if_neg (by rw [H12.out.2]; simp), h1], by rw [hw5]; exact HA4.out, by rw [hw5]; exact HF4.out⟩
          clear h1 hw5
          go_wp2_with fail
          go_ret
          exact HE.out
    | false =>
      have hEd : ¬ x.1.getLast? = some 58 := by unfold endsB at hb; simpa using hb
      have HEd := hidA hEd
      clear hEd
      have hcv : cutV x.1 58 = .tuple #[.string (S x.1), .bool false] := by unfold cutV; rw [hb]; rfl
      rw [hcv]
      clear hcv hb
      have HOp := hidA (op_any W2 (S x.1) HN2.out)
      have hopl := opR_le (S x.1)
      go_wp2_with fail
      refine HOp.out.mono ?_
      rintro e w4 ⟨rfl, hw4⟩
      have hw4' := hw4.symm
      subst hw4'
      clear hw4 HOp
      cases hb : (opR (S x.1)).2 with
      | false =>
        have HOb := hidA hb
        clear hb
        go_wp2_with fail
        refine (wrong_any W2 x.2 40).mono ?_
        rintro e w5 ⟨v, rfl, h1, h2⟩
        obtain ⟨p, rfl⟩ := err_iface h1
        have HE : Hid (LinePost w M B line (insideA a line (x :: rest)) (.returned (.iface 63 p)) w5) := .inl ⟨_, (line, x.2, 40), rfl, .inl ⟨h1, rfl⟩, by
          simp only [insideA]
          rw [if_neg HEn.out, if_neg HEd.out, if_pos HOb.out], HF2.out.trans (FrA.bel h2 hM2)⟩
        clear h1 h2
        go_wp2_with fail
        go_ret
        exact HE.out
      | true =>
        have HOb := hidA hb
        clear hb
        obtain ⟨op, hop⟩ : ∃ op : Int, op = ((opR (S x.1)).1 : Int) := ⟨_, rfl⟩
        have HAi := hidA (addInstr_any W2 M B line k a Ps vl vn vm vj r (rest, x.2 + x.1.length) op HA2.out HZ.out HO.out HR2.out HSm.out.1 hr HSm.out.2.2 HV2.out hB (by unfold In64; omega))
        rw [← hop]
        have HOq := hidA hop
        clear hop
        go_wp2_with fail
        refine HAi.out.mono ?_
        rintro e w5 (⟨v, col, n, rfl, h1, h2, h3⟩ | ⟨n, js, rd', Ps', vj', rfl, h1, h2, h3, h4, h5⟩)
        · obtain ⟨p, rfl⟩ := err_iface h1
          have HE : Hid (LinePost w M B line (insideA a line (x :: rest)) (.returned (.iface 63 p)) w5) := .inl ⟨_, (line, col, n), rfl, .inl ⟨h1, rfl⟩, by
            simp only [insideA]
            rw [if_neg HEn.out, if_neg HEd.out, if_neg (by rw [HOb.out]; simp), ← HOq.out, h2], HF2.out.trans h3⟩
          clear h1 h2 h3 HAi
          go_wp2_with fail
          go_ret
          exact HE.out
        · have HA5 := hidA h4
          have HF5 : Hid (FrA M B w w5) := HF2.out.trans h5
          have HR5 := hidA h2
          have HS5 := hidA h3
          have H1 := hidA h1
          have hM5 : M ≤ w5.heap.size := h4.bm.2
          clear h1 h2 h3 h4 h5 HAi
          go_wp2_with fail
          refine (end_any w5 r rd' HR5.out HS5.out).mono ?_
          rintro e w6 (⟨v, col, n', h1, rfl, h2, h3⟩ | ⟨h1, rfl, hw6⟩)
          · have HE : Hid (LinePost w M B line (insideA a line (x :: rest)) (.returned v) w6) := .inl ⟨_, (line, col, n'), rfl, .inl ⟨h2, rfl⟩, by
              simp only [insideA]
              rw [if_neg HEn.out, if_neg HEd.out, if_neg (by rw [HOb.out]; simp), ← HOq.out, H1.out]
              simp only
              rw [h1], HF5.out.trans (FrA.bel h3 hM5)⟩
            clear h1 h2 h3
            go_wp2_with fail
            go_ret
            exact HE.out
          · have HE : Hid (LinePost w M B line (insideA a line (x :: rest)) (.returned .nilIface) w6) := .inr ⟨_, Ps', vl, vn, vm, vj', rfl, by
              simp only [insideA]
              rw [if_neg HEn.out, if_neg HEd.out, if_neg (by rw [HOb.out]; simp), ← HOq.out, H1.out]
              simp only
              rw [h1], by rw [hw6]; exact HA5.out, by rw [hw6]; exact HF5.out⟩
            clear h1 hw6
            go_wp2_with fail
            go_ret
            exact HE.out
end Go.Proofs.YtiiplikmoodfnaaGreatDoor
/-
  THE LIBRARY's CONTRACT OF stringslite.Clone AT THIS DUMP: a table of numbers and a theorem of closed facts, by program.
-/
namespace Go.Proofs.YtiiplikmoodfnaaGreatDoor
open Go.Shelf
def laysM316_ren : Go.Shelf.Ren := ⟨fun | 316 => 74 | n => n, fun | 9 => 9 | 3 => 3 | 4 => 4 | 37 => 168 | 0 => 0 | 127 => 172 | 5 => 5 | n => n, fun | n => n⟩
theorem laysM316 : Go.Proofs.LaysM.n316 Tryz.prog laysM316_ren := {
  mixed := by kernel_rfl
  f316 := Tryz.func74.trans (congrArg some (by kernel_rfl))
  t0 := Tryz.underlying0
  a0 := Tryz.isAgg0
  z0 := Tryz.sizeOf0
  v0 := Tryz.zeroValue0
  t3 := Tryz.underlying3
  a3 := Tryz.isAgg3
  z3 := Tryz.sizeOf3
  v3 := Tryz.zeroValue3
  t4 := Tryz.underlying4
  a4 := Tryz.isAgg4
  z4 := Tryz.sizeOf4
  v4 := Tryz.zeroValue4
  t9 := Tryz.underlying9
  a9 := Tryz.isAgg9
  z9 := Tryz.sizeOf9
  v9 := Tryz.zeroValue9
  t37 := Tryz.underlying168
  a37 := Tryz.isAgg168
  z37 := Tryz.sizeOf168
  v37 := Tryz.zeroValue168
  t127 := Tryz.underlying172
  a127 := Tryz.isAgg172
  z127 := Tryz.sizeOf172
  v127 := Tryz.zeroValue172
  t5 := Tryz.underlying5
  a5 := Tryz.isAgg5
  z5 := Tryz.sizeOf5
  v5 := Tryz.zeroValue5
  i0 := by kernel_rfl
  i3 := by kernel_rfl
  i4 := by kernel_rfl
  i5 := by kernel_rfl
  i9 := by kernel_rfl
  i37 := by kernel_rfl
  i127 := by kernel_rfl }
end Go.Proofs.YtiiplikmoodfnaaGreatDoor
/-
  strings.Clone.
-/
namespace Go.Proofs.YtiiplikmoodfnaaGreatDoor
open Go.RowKit Go.Shelf

theorem cloneLite_any (w : World) (s : ByteArray) (hs : s.size ≤ 281474976710656) : Calls Tryz.prog 74 #[.string s] w fun e w' => e = .returned (.string s) ∧ Go.RowKit.Below w.heap.size w w' :=
  Any.stringslite_Clone laysM316 s w hs
theorem cloneS_any (w : World) (s : ByteArray) (hs : s.size ≤ 281474976710656) : Calls Tryz.prog 53 #[.string s] w fun e w' => e = .returned (.string s) ∧ Go.RowKit.Below w.heap.size w w' := by
  have HC := cloneLite_any w s hs
  go_enter Tryz.func53, Tryz.ntmps53
  go_wp2_with fail
  refine HC.mono ?_
  rintro e w1 ⟨rfl, hb⟩
  go_wp2_with fail
  go_ret
  exact ⟨rfl, hb⟩
end Go.Proofs.YtiiplikmoodfnaaGreatDoor
/-
  A PROCEDURE's FIRST LINE: the state.
-/
namespace Go.Proofs.YtiiplikmoodfnaaGreatDoor
open Go.RowKit Go.Sort

section
variable {W W' : World} {M B line : Nat} {a : As} {Ps : List Pr} {vl vn vm vj : Value}
theorem ASt.rowB (h : ASt W M B line a Ps vl vn vm vj) (i : Nat) (u : Value) {base e size n : Nat} {v : Value} {xs : List Value} (hr : W.ownsRow base e size v n xs) (he : e ≠ 58) : (W.setCell ⟨B, i, none⟩ u).ownsRow base e size v n xs := ownsRow_same hr (fun g' hgg => by
  obtain ⟨cur', hc'⟩ := own_blk hr hgg
  exact heap_setCell_other _ _ _ _ (h.notB hc' he))
theorem ASt.lmB (h : ASt W M B line a Ps vl vn vm vj) (i : Nat) (u : Value) {mb : Nat} {ls : List (List UInt8 × Nat)} (hl : LM W mb ls) : LM (W.setCell ⟨B, i, none⟩ u) mb ls := hl.same (heap_setCell_other _ _ _ _ (fun e => by
  have e' : mb = B := e
  obtain ⟨D, ⟨es, clock, hb, _⟩, _⟩ := hl
  rw [e', h.ab] at hb
  cases hb))
theorem ASt.beg1 (h : ASt W M B line a Ps vl vn vm vj) (l : Nat) : ASt (W.setCell ⟨B, 4, none⟩ (.int .i64 (l : Int))) M B line { a with begun := (l, a.begun.2) } Ps vl vn vm vj :=
  ⟨heap_setCell_same W B 4 _ _ _ h.ab, h.rowB _ _ h.lib (by decide), h.eq, fun x hx => ⟨(h.code x hx).1, h.rowB _ _ (h.code x hx).2 (by decide)⟩, h.ap, h.rowB _ _ h.nms (by decide), h.rowB _ _ h.jps (by decide), fun ho => by obtain ⟨mb, h1, h2, h3⟩ := h.lab ho; exact ⟨mb, h1, h2, h.lmB _ _ h3⟩, h.ok, h.bm.1, by simpa using h.bm.2⟩
theorem ASt.beg2 (h : ASt W M B line a Ps vl vn vm vj) (c : Nat) : ASt (W.setCell ⟨B, 5, none⟩ (.int .i64 (c : Int))) M B line { a with begun := (a.begun.1, c) } Ps vl vn vm vj :=
  ⟨heap_setCell_same W B 5 _ _ _ h.ab, h.rowB _ _ h.lib (by decide), h.eq, fun x hx => ⟨(h.code x hx).1, h.rowB _ _ (h.code x hx).2 (by decide)⟩, h.ap, h.rowB _ _ h.nms (by decide), h.rowB _ _ h.jps (by decide), fun ho => by obtain ⟨mb, h1, h2, h3⟩ := h.lab ho; exact ⟨mb, h1, h2, h.lmB _ _ h3⟩, h.ok, h.bm.1, by simpa using h.bm.2⟩
theorem ASt.begun (h : ASt W M B line a Ps vl vn vm vj) (l c : Nat) : ASt ((W.setCell ⟨B, 4, none⟩ (.int .i64 (l : Int))).setCell ⟨B, 5, none⟩ (.int .i64 (c : Int))) M B line { a with begun := (l, c) } Ps vl vn vm vj := (h.beg1 l).beg2 c
/-- the names' row has grown, and the box has it -/
theorem ASt.named (h : ASt W M B line a Ps vl vn vm vj) (p : Nat × Nat) {v' : Value} (ho : W'.ownsRow M 54 2 v' (a.names.length + 1) (spc a.names ++ spc [p])) (hg : W.grownBy W' vn.ownBlock) : ASt (W'.setCell ⟨B, 2, none⟩ v') M B line { a with names := a.names ++ [p] } Ps vl v' vm vj := by
  have hAB : AB W' B line vl vn a.opn a.begun.1 a.begun.2 vm vj := (hg.block B h.ab.lt (fun e1 => by
    obtain ⟨cur, hc⟩ := own_blk h.nms e1.symm
    exact h.notB hc (by decide) rfl)).trans h.ab
  have row : ∀ {base e size n : Nat} {v : Value} {xs : List Value}, W'.ownsRow base e size v n xs → e ≠ 58 → (W'.setCell ⟨B, 2, none⟩ v').ownsRow base e size v n xs := fun hr he => ownsRow_same hr (fun g hgg => by
    obtain ⟨cur, hc⟩ := own_blk hr hgg
    exact heap_setCell_other _ _ _ _ (fun e => by
      have e' : g = B := e
      rw [e', hAB] at hc
      simp only [Option.some.injEq, Obj.cells.injEq] at hc
      exact he hc.2.1.symm))
  refine ⟨heap_setCell_same W' B 2 _ _ _ hAB, row (ownGrown h.lib h.nms (by decide) hg) (by decide), h.eq, fun x hx => ⟨(h.code x hx).1, row (ownGrown (h.code x hx).2 h.nms (by decide) hg) (by decide)⟩, h.ap, ?_, row (ownGrown h.jps h.nms (by decide) hg) (by decide), fun hop => ?_, h.ok, h.bm.1, ?_⟩
  · have := row ho (by decide)
    rw [← spc_app] at this
    rw [List.length_append]
    exact this
  · obtain ⟨mb, h1, h2, h3⟩ := h.lab hop
    refine ⟨mb, h1, h2, (h3.grown h.nms hg).same (heap_setCell_other _ _ _ _ (fun e => ?_))⟩
    have e' : mb = B := e
    obtain ⟨D, ⟨es, clock, hb, _⟩, _⟩ := h3
    rw [e', h.ab] at hb
    cases hb
  · have := hg.size; have := h.bm.2; simp; omega
/-- the procedures' row has grown, and the box has it -/
theorem ASt.proc (h : ASt W M B line a Ps vl vn vm vj) (x : Pr) {v' : Value} (ho : OwnP W' M v' (Ps ++ [x])) (hg : W.grownBy W' vl.ownBlock) (hx : x.ao = none ∧ x.n = 0 ∧ x.cap = 0 ∧ x.L = []) (hk : NIn x.p ∧ x.name.size ≤ 65536) : ASt (W'.setCell ⟨B, 1, none⟩ v') M B line { a with lib := a.lib ++ [ppOf x] } (Ps ++ [x]) v' vn vm vj := by
  have hAB : AB W' B line vl vn a.opn a.begun.1 a.begun.2 vm vj := (hg.block B h.ab.lt (fun e1 => by
    obtain ⟨cur, hc⟩ := own_blk h.lib e1.symm
    exact h.notB hc (by decide) rfl)).trans h.ab
  have row : ∀ {base e size n : Nat} {v : Value} {xs : List Value}, W'.ownsRow base e size v n xs → e ≠ 58 → (W'.setCell ⟨B, 1, none⟩ v').ownsRow base e size v n xs := fun hr he => ownsRow_same hr (fun g hgg => by
    obtain ⟨cur, hc⟩ := own_blk hr hgg
    exact heap_setCell_other _ _ _ _ (fun e => by
      have e' : g = B := e
      rw [e', hAB] at hc
      simp only [Option.some.injEq, Obj.cells.injEq] at hc
      exact he hc.2.1.symm))
  obtain ⟨x1, x2, x3, x4⟩ := hx
  have hcx : cdV x = .slice none 0 0 := by unfold cdV; rw [x1, x2, x3]
  refine ⟨heap_setCell_same W' B 1 _ _ _ hAB, row ho (by decide), by rw [List.map_append]; show a.lib ++ [ppOf x] = _; rw [h.eq]; rfl, fun y hy => ?_, ?_, row (ownGrown h.nms h.lib (by decide) hg) (by decide), row (ownGrown h.jps h.lib (by decide) hg) (by decide), fun hop => ?_, fun y hy => ?_, h.bm.1, ?_⟩
  · rcases List.mem_append.1 hy with hy | hy
    · exact ⟨(h.code y hy).1, row (ownGrown (h.code y hy).2 h.lib (by decide) hg) (by decide)⟩
    · simp only [List.mem_singleton] at hy
      subst hy
      refine ⟨by rw [x2, x4]; rfl, ?_⟩
      rw [hcx, x2, x4]
      exact World.ownsRow_nil _ _ _ _
  · refine List.pairwise_append.2 ⟨h.ap, List.pairwise_singleton _ _, fun y hy z hz g' hgg e1 => ?_⟩
    simp only [List.mem_singleton] at hz
    subst hz
    rw [hcx] at e1
    cases e1
  · obtain ⟨mb, h1, h2, h3⟩ := h.lab hop
    refine ⟨mb, h1, h2, (h3.grown h.lib hg).same (heap_setCell_other _ _ _ _ (fun e => ?_))⟩
    have e' : mb = B := e
    obtain ⟨D, ⟨es, clock, hb, _⟩, _⟩ := h3
    rw [e', h.ab] at hb
    cases hb
  · rcases List.mem_append.1 hy with hy | hy
    · exact h.ok y hy
    · simp only [List.mem_singleton] at hy
      subst hy
      exact ⟨hk.1, by rw [x4]; simp, hk.2⟩
  · have := hg.size; have := h.bm.2; simp; omega
/-- the procedure is open -/
theorem ASt.open_ (h : ASt W M B line a Ps vl vn vm vj) (mb : Nat) (hmb : M ≤ mb) (hl : LM W mb []) : ASt (((W.setCell ⟨B, 3, none⟩ (.bool true)).setCell ⟨B, 6, none⟩ (.map (some mb))).setCell ⟨B, 7, none⟩ (.slice none 0 0)) M B line { a with opn := true, labels := [], jumps := [] } Ps vl vn (.map (some mb)) (.slice none 0 0) := by
  have hne : ∀ (k : Nat) (o : Obj), W.heap[k]? = some o → k ≠ B → (((W.setCell ⟨B, 3, none⟩ (.bool true)).setCell ⟨B, 6, none⟩ (.map (some mb))).setCell ⟨B, 7, none⟩ (.slice none 0 0)).heap[k]? = some o := fun k o hk hn => ((heap_setCell_other _ _ _ _ hn).trans ((heap_setCell_other _ _ _ _ hn).trans (heap_setCell_other _ _ _ _ hn))).trans hk
  have row : ∀ {base e size n : Nat} {v : Value} {xs : List Value}, W.ownsRow base e size v n xs → e ≠ 58 → (((W.setCell ⟨B, 3, none⟩ (.bool true)).setCell ⟨B, 6, none⟩ (.map (some mb))).setCell ⟨B, 7, none⟩ (.slice none 0 0)).ownsRow base e size v n xs := fun hr he => ownsRow_same hr (fun g hgg => by
    obtain ⟨cur, hc⟩ := own_blk hr hgg
    rw [hc]
    exact hne g _ hc (h.notB hc he))
  refine ⟨heap_setCell_same _ B 7 _ _ _ (heap_setCell_same _ B 6 _ _ _ (heap_setCell_same W B 3 _ _ _ h.ab)), row h.lib (by decide), h.eq, fun x hx => ⟨(h.code x hx).1, row (h.code x hx).2 (by decide)⟩, h.ap, row h.nms (by decide), World.ownsRow_nil _ _ _ _, fun _ => ⟨mb, rfl, hmb, hl.same ?_⟩, h.ok, h.bm.1, by simpa using h.bm.2⟩
  obtain ⟨D, ⟨es, clock, hb, _⟩, _⟩ := hl
  rw [hb]
  exact hne mb _ hb (fun e => by rw [e, h.ab] at hb; cases hb)
end
end Go.Proofs.YtiiplikmoodfnaaGreatDoor
/-
  A PROCEDURE's FIRST LINE: the two rows grow.
-/
namespace Go.Proofs.YtiiplikmoodfnaaGreatDoor
open Go.RowKit Go.Sort

/-- the four numbers' box -/
def n4 (ns : List Int) : Array Value := #[.int .i64 (ns.getD 0 0), .int .i64 (ns.getD 1 0), .int .i64 (ns.getD 2 0), .int .i64 (ns.getD 3 0)]
/-- what stays: all but the box and the blocks of one kind -/
structure FrT (M B : Nat) (t0 : TypeId) (W W' : World) : Prop where
  fr : FrA M B W W'
  cl : ∀ (k : Nat) (cur : Array Value) (t : TypeId), W.heap[k]? = some (.cells cur t (0, 0)) → t ≠ t0 → t ≠ 58 → W'.heap[k]? = some (.cells cur t (0, 0))
theorem app_box {TS TE : TypeId} {sz bt : Nat} {z : Value} (hu : Tryz.prog.underlying TS = some (.slice TE)) (hinfo : (Tryz.prog.info? TE).map (fun i => (i.zero, i.size, i.bytes)) = some (some z, sz, bt)) (hzs : z.cells.size = sz) (hpos : 0 < sz) (hbt : bt ≤ 100) (hTE : TE ≠ 58) {W : World} {M B line : Nat} {a : As} {Ps : List Pr} {vl vn vm vj : Value} (hA : ASt W M B line a Ps vl vn vm vj) (i : Nat) (v : Value) (n : Nat) (xs zs : List Value) (hown : W.ownsRow M TE sz v n xs) (hz : zs.length = sz) (h1 : ∀ u ∈ zs, u.oneCell' = true) (hn : n ≤ 65537) (ty : TypeId) :
    ∃ v' w', (Builtin.append_ #[TS, TS] ty #[v, .slice (some ⟨W.heap.size, 0, none⟩) 1 1]).run Tryz.prog (W.alloc (.cells zs.toArray TE)) = .ok v' w' ∧ w'.ownsRow M TE sz v' (n + 1) (xs ++ zs) ∧ (W.alloc (.cells zs.toArray TE)).grownBy w' v.ownBlock ∧ (∃ o n c, v' = .slice o n c) ∧ w'.heap[B]? = W.heap[B]? ∧ FrT M B TE W w' ∧ FrT M B TE W (w'.setCell ⟨B, i, none⟩ v') := by
  obtain ⟨v', w', p1, p2, p3, _⟩ := app_one hu hinfo hzs hpos hbt W M v n xs zs hown hz h1 hn hA.bm.2 ty
  have hAl := hA.below (bel_al W (.cells zs.toArray TE))
  have hown' : (W.alloc (.cells zs.toArray TE)).ownsRow M TE sz v n xs := World.ownsRow.alloc hown _
  have hne : ∀ (k : Nat) (cur : Array Value) (t : TypeId), W.heap[k]? = some (.cells cur t (0, 0)) → t ≠ TE → w'.heap[k]? = some (.cells cur t (0, 0)) := fun k cur t hk ht => by
    have hk' : (W.alloc (.cells zs.toArray TE)).heap[k]? = some (.cells cur t (0, 0)) := (heap_alloc_old _ _ (Array.getElem?_eq_some_iff.1 hk).1).trans hk
    refine (p3.block k (Array.getElem?_eq_some_iff.1 hk').1 (fun e1 => ?_)).trans hk'
    obtain ⟨cur', hc⟩ := own_blk hown' e1.symm
    rw [hk'] at hc
    simp only [Option.some.injEq, Obj.cells.injEq] at hc
    exact ht hc.2.1
  have hFr : FrA M B W w' := (FrA.bel (bel_al W (.cells zs.toArray TE)) hA.bm.2).trans (FrA.grown p3 hAl.bm.2 (fun k e => (World.ownsRow.lt hown' k e).1))
  have hB : w'.heap[B]? = W.heap[B]? := (hne B _ _ hA.ab hTE.symm).trans hA.ab.symm
  refine ⟨v', w', p1, p2, p3, ?_, hB, ⟨hFr, fun k cur t hk h1 _ => hne k cur t hk h1⟩, ⟨hFr.trans (FrA.set _ _ (.inl rfl)), fun k cur t hk h1 h2 => ?_⟩⟩
  · obtain ⟨o, c, e, _⟩ := own_slice p2
    exact ⟨o, _, c, e⟩
  · refine (heap_setCell_other _ _ _ _ (fun e => ?_)).trans (hne k cur t hk h1)
    have e' : k = B := e
    rw [e', hA.ab] at hk
    simp only [Option.some.injEq, Obj.cells.injEq] at hk
    exact h2 hk.2.1.symm
/-- what is there between the first line's steps -/
structure FMid (W0 W : World) (M B line : Nat) (a : As) (Ps : List Pr) (vl vn vm vj : Value) (r b5 : Nat) (rd : Rd) (nm : Wd) (ns : List Int) : Prop where
  st : ASt W M B line a Ps vl vn vm vj
  fr : FrA M B W0 W
  rb : RB (ZA M B) W r rd
  wb : WB W b5 (.string (S nm.1)) (.int .i64 (nm.2 : Int))
  nb : W.heap[b5 + 1]? = some (.cells (n4 ns) 133 (0, 0))
section
variable {W0 W W' : World} {M B line : Nat} {a a' : As} {Ps Ps' : List Pr} {vl vn vm vj vl' vn' vm' vj' : Value} {r b5 : Nat} {rd : Rd} {nm : Wd} {ns : List Int}
theorem FMid.below (h : FMid W0 W M B line a Ps vl vn vm vj r b5 rd nm ns) (hb : Go.RowKit.Below W.heap.size W W') : FMid W0 W' M B line a Ps vl vn vm vj r b5 rd nm ns :=
  ⟨h.st.below hb, h.fr.trans (FrA.bel hb h.st.bm.2), h.rb.kept hb, (hb.block b5 (Array.getElem?_eq_some_iff.1 h.wb).1).trans h.wb, (hb.block (b5 + 1) (Array.getElem?_eq_some_iff.1 h.nb).1).trans h.nb⟩
theorem FMid.frt (h : FMid W0 W M B line a Ps vl vn vm vj r b5 rd nm ns) {t0 : TypeId} (hf : FrT M B t0 W W') (h0 : t0 = 54 ∨ t0 = 72) (hs : ASt W' M B line a' Ps' vl' vn' vm' vj') : FMid W0 W' M B line a' Ps' vl' vn' vm' vj' r b5 rd nm ns :=
  ⟨hs, h.fr.trans hf.fr, h.rb.fra hf.fr (by
    obtain ⟨a1, c1, h1, _⟩ := h.rb
    rw [h1]
    exact hf.cl r _ _ h1 (by rcases h0 with rfl | rfl <;> decide) (by decide)), hf.cl b5 _ _ h.wb (by rcases h0 with rfl | rfl <;> decide) (by decide), hf.cl (b5 + 1) _ _ h.nb (by rcases h0 with rfl | rfl <;> decide) (by decide)⟩
end
/-- the cells that the first line's rows are made of -/
def FS (W : World) (b5 : Nat) (nm : Wd) (n0 n1 n2 n3 : Int) : Prop := W.cell? ⟨b5, 0, none⟩ = some (.string (S nm.1)) ∧ W.cell? ⟨b5, 1, none⟩ = some (.int .i64 (nm.2 : Int)) ∧ W.cell? ⟨b5 + 1, 0, none⟩ = some (.int .i64 n0) ∧ W.cell? ⟨b5 + 1, 1, none⟩ = some (.int .i64 n1) ∧ W.cell? ⟨b5 + 1, 2, none⟩ = some (.int .i64 n2) ∧ W.cell? ⟨b5 + 1, 3, none⟩ = some (.int .i64 n3)
theorem fs_of {W : World} {b5 : Nat} {nm : Wd} {n0 n1 n2 n3 : Int} (h1 : WB W b5 (.string (S nm.1)) (.int .i64 (nm.2 : Int))) (h2 : W.heap[b5 + 1]? = some (.cells (n4 [n0, n1, n2, n3]) 133 (0, 0))) : FS W b5 nm n0 n1 n2 n3 := by
  obtain ⟨z0, z1, _⟩ := h1.cells
  refine ⟨z0, z1, ?_, ?_, ?_, ?_⟩ <;> simp [World.cell?, h2, n4]
theorem FS.frt {W W' : World} {M B b5 : Nat} {t0 : TypeId} {nm : Wd} {n0 n1 n2 n3 : Int} (hf : FrT M B t0 W W') (h0 : t0 = 54 ∨ t0 = 72) (h1 : WB W b5 (.string (S nm.1)) (.int .i64 (nm.2 : Int))) (h2 : W.heap[b5 + 1]? = some (.cells (n4 [n0, n1, n2, n3]) 133 (0, 0))) : FS W' b5 nm n0 n1 n2 n3 :=
  fs_of (hf.cl b5 _ _ h1 (by rcases h0 with rfl | rfl <;> decide) (by decide)) (hf.cl (b5 + 1) _ _ h2 (by rcases h0 with rfl | rfl <;> decide) (by decide))
/-- the names' row grows -/
theorem named_run {W0 W : World} {M B line : Nat} {a : As} {Ps : List Pr} {vl vm vj : Value} {no : Option Addr} {nn nc : Nat} {r b5 : Nat} {rd : Rd} {nm : Wd} {n0 n1 n2 n3 : Int} (h : FMid W0 W M B line a Ps vl (.slice no nn nc) vm vj r b5 rd nm [n0, n1, n2, n3]) (hz : a.names.length ≤ 65537) (ty : TypeId) :
    ∃ v' w', (Builtin.append_ #[52, 52] ty #[.slice no nn nc, .slice (some ⟨W.heap.size, 0, none⟩) 1 1]).run Tryz.prog (W.alloc (.cells #[.int .i64 (line : Int), .int .i64 (nm.2 : Int)] 54)) = .ok v' w' ∧ (∃ o n c, v' = .slice o n c) ∧ w'.cell? ⟨B, 2, none⟩ = some (.slice no nn nc) ∧ w'.frozen? ⟨B, 2, none⟩ = false ∧ FS w' b5 nm n0 n1 n2 n3 ∧ FS (w'.setCell ⟨B, 2, none⟩ v') b5 nm n0 n1 n2 n3 ∧ FMid W0 (w'.setCell ⟨B, 2, none⟩ v') M B line { a with names := a.names ++ [(line, nm.2)] } Ps vl v' vm vj r b5 rd nm [n0, n1, n2, n3] := by
  obtain ⟨v', w', p1, p2, p3, p4, p5, p6, p7⟩ := app_box Tryz.underlying52 infoSp rfl (by decide) (by decide) (by decide) h.st 2 (.slice no nn nc) a.names.length (spc a.names) (spc [(line, nm.2)]) h.st.nms rfl (spc_one _) hz ty
  have hAB : AB w' B line vl (.slice no nn nc) a.opn a.begun.1 a.begun.2 vm vj := p5.trans h.st.ab
  exact ⟨v', w', p1, p4, hAB.cells.2.2.1, hAB.frozen 2, FS.frt p6 (.inl rfl) h.wb h.nb, FS.frt p7 (.inl rfl) h.wb h.nb, h.frt p7 (.inl rfl) ((h.st.below (bel_al _ _)).named (line, nm.2) p2 p3)⟩
/-- the procedures' row grows -/
theorem proc_run {W0 W : World} {M B line : Nat} {a : As} {Ps : List Pr} {vn vm vj : Value} {no : Option Addr} {nn nc : Nat} {r b5 : Nat} {rd : Rd} {nm : Wd} {n0 n1 n2 n3 : Int} (h : FMid W0 W M B line a Ps (.slice no nn nc) vn vm vj r b5 rd nm [n0, n1, n2, n3]) (hz : a.lib.length ≤ 65537) (hk : NIn ⟨n0, n1, n2, n3⟩ ∧ nm.1.length ≤ 65536) (ty : TypeId) :
    ∃ v' w', (Builtin.append_ #[22, 22] ty #[.slice no nn nc, .slice (some ⟨W.heap.size, 0, none⟩) 1 1]).run Tryz.prog (W.alloc (.cells #[.string (S nm.1), .int .i64 n0, .int .i64 n1, .int .i64 n2, .int .i64 n3, .slice none 0 0] 72)) = .ok v' w' ∧ (∃ o n c, v' = .slice o n c) ∧ w'.cell? ⟨B, 1, none⟩ = some (.slice no nn nc) ∧ w'.frozen? ⟨B, 1, none⟩ = false ∧ FS w' b5 nm n0 n1 n2 n3 ∧ FS (w'.setCell ⟨B, 1, none⟩ v') b5 nm n0 n1 n2 n3 ∧ FMid W0 (w'.setCell ⟨B, 1, none⟩ v') M B line { a with lib := a.lib ++ [⟨nm.1, ⟨n0, n1, n2, n3⟩, []⟩] } (Ps ++ [(⟨S nm.1, ⟨n0, n1, n2, n3⟩, none, 0, 0, []⟩ : Pr)]) v' vn vm vj r b5 rd nm [n0, n1, n2, n3] := by
  have hl : Ps.length = a.lib.length := by rw [h.st.eq, List.length_map]
  obtain ⟨v', w', p1, p2, p3, p4, p5, p6, p7⟩ := app_box Tryz.underlying22 infoP rfl (by decide) (by decide) (by decide) h.st 1 (.slice no nn nc) Ps.length (prcs Ps) (prcs [(⟨S nm.1, ⟨n0, n1, n2, n3⟩, none, 0, 0, []⟩ : Pr)]) h.st.lib rfl (prcs_one _) (by omega) ty
  have hAB : AB w' B line (.slice no nn nc) vn a.opn a.begun.1 a.begun.2 vm vj := p5.trans h.st.ab
  have ho : OwnP w' M v' (Ps ++ [(⟨S nm.1, ⟨n0, n1, n2, n3⟩, none, 0, 0, []⟩ : Pr)]) := by unfold OwnP; rw [List.length_append, prcs_append]; exact p2
  have e1 : ppOf (⟨S nm.1, ⟨n0, n1, n2, n3⟩, none, 0, 0, []⟩ : Pr) = ⟨nm.1, ⟨n0, n1, n2, n3⟩, []⟩ := by unfold ppOf; rw [S_data]
  have hst := (h.st.below (bel_al _ _)).proc (⟨S nm.1, ⟨n0, n1, n2, n3⟩, none, 0, 0, []⟩ : Pr) ho p3 ⟨rfl, rfl, rfl, rfl⟩ ⟨hk.1, by rw [S_size]; exact hk.2⟩
  rw [e1] at hst
  exact ⟨v', w', p1, p4, hAB.cells.2.1, hAB.frozen 1, FS.frt p6 (.inr rfl) h.wb h.nb, FS.frt p7 (.inr rfl) h.wb h.nb, h.frt p7 (.inr rfl) hst⟩
end Go.Proofs.YtiiplikmoodfnaaGreatDoor
