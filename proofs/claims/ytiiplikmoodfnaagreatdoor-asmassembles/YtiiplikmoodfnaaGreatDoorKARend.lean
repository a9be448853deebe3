import Derived.Test.YtiiplikmoodfnaaGreatDoorKARendH
import Derived.Deep.RegionHeld3
import Derived.Deep.RegionLaw
/-
  THE WALK OF THE DOCUMENT's end.
-/
namespace Go.Proofs.YtiiplikmoodfnaaGreatDoor
open Go.RowKit Go.Sort

set_option maxRecDepth 100000 in
set_option maxHeartbeats 4000000 in
theorem rend_any (w : World) (M B : Nat) (a : As) (Qs : List Pr) (nl : List (Nat × Nat)) (Lo : List K) (r : Rv) (b off n wcc k : Nat) (x : Wd) (rest : List Wd) (h : DS w M B a Qs nl Lo r) (hz : AsSz a k) (ho : a.opn = true) (hw : ∀ j u, (wcs (x :: rest))[j]? = some u → w.cell? ⟨b, off + j, none⟩ = some u) (hn : n = (x :: rest).length) :
    Calls Tryz.prog 20 #[.pointer (some ⟨B, 0, none⟩), .slice (some ⟨b, off, none⟩) n wcc] w fun e w' => RdPost w M B r (endA a r.line rest) e w' := by
  obtain ⟨w1, hw1⟩ : ∃ w1, w1 = w.alloc (.cells #[.int .i64 0, .int .i64 0, .int .i64 0] 24) := ⟨_, rfl⟩
  obtain ⟨f, hf⟩ : ∃ f, f = w.heap.size := ⟨_, rfl⟩
  have hM : M ≤ w.heap.size := h.bm.2
  have hBM : B < M := h.bm.1
  have hb1 : Go.RowKit.Below w.heap.size w w1 := by rw [hw1]; exact bel_al _ _
  have hF : FB w1 f (.int .i64 0) (.int .i64 0) (.int .i64 0) := by rw [hw1, hf]; exact heap_alloc_new _ _ rfl
  have HF := hidA hF
  have HFl : Hid (f < w1.heap.size) := (Array.getElem?_eq_some_iff.1 hF).1
  have HFs := hidA hf
  have HB1 := hidA hb1
  have HDS : Hid (∀ W', Go.RowKit.Below w1.heap.size w1 W' → DS W' M B a Qs nl Lo r) := fun W' hb => (h.below hb1).below hb
  have HFF : Hid (∀ W', Go.RowKit.Below w1.heap.size w1 W' → FB W' f (.int .i64 0) (.int .i64 0) (.int .i64 0)) := fun W' hb => (hb.block f HFl.out).trans HF.out
  have HLp := hidA (h.lastP ho)
  have HNl : Hid (∀ g, r.names.ownBlock = some g → g < w.heap.size) := fun g hg => (World.ownsRow.lt h.nms g hg).2
  have HZ := hidA hz
  have HO := hidA ho
  have HMo := hidA (more_any w1 B r b off n wcc 1 (x :: rest) (h.below hb1).rx (fun j u hu => (hb1.cell (p := ⟨b, off + j, none⟩) (cell_lt (hw j u hu))).trans (hw j u hu)) hn)
  rw [moreE_one x rest 0] at HMo
  have HSm := hidA (h.setSame ho)
  have HQl : Hid (Qs.length ≤ 65537 ∧ nl.length ≤ 65537) := by
    have h1 := hz.lib
    have h2 := hz.nms
    rw [h.eq, h.neq, if_pos ho, if_pos ho] at h2
    rw [h.eq, if_pos ho] at h1
    have h3 := hz.top
    simp at h1 h2
    exact ⟨by omega, by omega⟩
  clear h hz ho hw hn hb1 hF
  go_enter Tryz.func20, Tryz.ntmps20
  go_upto_region 1 with fail
  rw [← hw1, ← hf]
  clear hw1 hf
  cases hre : rEnd (rest, 0) with
  | some er =>
    have HE : Hid (endA a r.line rest = .error (r.line, er)) := by rw [Hid]; unfold endA; rw [hre]
    have HE40 : Hid (er.2 = 40) := by
      rw [Hid]; unfold rEnd at hre
      split at hre
      · cases hre
      · cases hre; rfl
    rw [hre] at HMo
    clear hre
    obtain ⟨ec, en⟩ := er
    obtain rfl : en = 40 := HE40.out
    go_wp2_with fail
    refine HMo.out.mono ?_
    rintro e w6 ⟨rfl, hb6⟩
    have hmv : moreV r.line (some (ec, 40)) = ftv (r.line : Int) (ec : Int) 40 := rfl
    rw [hmv]
    obtain ⟨w7, hw7⟩ : ∃ w7, w7 = w6.alloc (.cells #[.int .i64 (r.line : Int), .int .i64 (ec : Int), .int .i64 40] 24) := ⟨_, rfl⟩
    have hb7 : Go.RowKit.Below w6.heap.size w6 w7 := by rw [hw7]; exact bel_al _ _
    have hb17 := hb6.trans (hb7.mono hb6.size)
    obtain ⟨⟨g0, g1, g2⟩, ⟨c0, c1, c2⟩, hst⟩ := ft_facts (HFF.out w7 hb17)
    have hld := load_fault (hst (.int .i64 (r.line : Int)) (.int .i64 (ec : Int)) (.int .i64 40))
    have HX : Hid (Go.RowKit.Below w.heap.size w (((w7.setCell ⟨f, 0, none⟩ (.int .i64 (r.line : Int))).setCell ⟨f, 1, none⟩ (.int .i64 (ec : Int))).setCell ⟨f, 2, none⟩ (.int .i64 40))) := (HB1.out.trans (hb17.mono HB1.out.size)).trans (ft_below (Nat.le_of_eq HFs.out.symm) _ _ _)
    obtain ⟨f7, hf7⟩ : ∃ f7, f7 = w6.heap.size := ⟨_, rfl⟩
    have hF7 : FB w7 f7 (.int .i64 (r.line : Int)) (.int .i64 (ec : Int)) (.int .i64 40) := by rw [hw7, hf7]; exact heap_alloc_new _ _ rfl
    have k2 : w7.cell? ⟨f7, 2, none⟩ = some (.int .i64 40) := by unfold World.cell?; rw [show w7.heap[f7]? = _ from hF7]; rfl
    have k1 : w7.cell? ⟨f7, 1, none⟩ = some (.int .i64 (ec : Int)) := by unfold World.cell?; rw [show w7.heap[f7]? = _ from hF7]; rfl
    have k0 : w7.cell? ⟨f7, 0, none⟩ = some (.int .i64 (r.line : Int)) := by unfold World.cell?; rw [show w7.heap[f7]? = _ from hF7]; rfl
    clear hb6 hb7 hb17 hst HMo hF7 hmv
    go_upto_region 2 with fail
    rw [← hw7, ← hf7]
    clear hw7 hf7
    go_wp2_with fail
    refine bodyPost_ret (v := ftv (r.line : Int) (ec : Int) 40) ?_ rfl ?_
    · simp [results, Tryz.results20, asAddr, hld]
    · exact .inl ⟨_, _, _, HE.out, by decide, rfl, FrO.bel HX.out⟩
  | none =>
    have HE : Hid (endA a r.line rest = match fixN a.labels a.jumps Lo with
      | .error e => .error e
      | .ok L => .ok { setL a L with opn := false }) := by rw [Hid]; unfold endA; rw [hre, HLp.out]; rfl
    rw [hre] at HMo
    clear hre
    go_wp2_with fail
    refine HMo.out.mono ?_
    rintro e w6 ⟨rfl, hb6⟩
    have hmv : moreV r.line none = ftv 0 0 0 := rfl
    rw [hmv]
    obtain ⟨w7, hw7⟩ : ∃ w7, w7 = w6.alloc (.cells #[.int .i64 0, .int .i64 0, .int .i64 0] 24) := ⟨_, rfl⟩
    have hb7 : Go.RowKit.Below w6.heap.size w6 w7 := by rw [hw7]; exact bel_al _ _
    have hb17 := hb6.trans (hb7.mono hb6.size)
    obtain ⟨f7, hf7⟩ : ∃ f7, f7 = w6.heap.size := ⟨_, rfl⟩
    have hF7 : FB w7 f7 (.int .i64 0) (.int .i64 0) (.int .i64 0) := by rw [hw7, hf7]; exact heap_alloc_new _ _ rfl
    have k2 : w7.cell? ⟨f7, 2, none⟩ = some (.int .i64 0) := by unfold World.cell?; rw [show w7.heap[f7]? = _ from hF7]; rfl
    have HI0 : Hid (fixN a.labels (a.jumps.take 0) Lo = .ok Lo ∧ DS w7 M B (setL a Lo) Qs nl Lo r) := ⟨by rw [List.take_zero]; rfl, by rw [HSm.out]; exact HDS.out w7 hb17⟩
    have HF0 : Hid (FrO (OO r w.heap.size) B w w7 ∧ FB w7 f (.int .i64 0) (.int .i64 0) (.int .i64 0)) := ⟨FrO.bel (HB1.out.trans (hb17.mono HB1.out.size)), HFF.out w7 hb17⟩
    obtain ⟨uo, uc, hud, _⟩ := own_slice (HDS.out w7 hb17).us
    obtain ⟨jn, hjn⟩ : ∃ jn, jn = a.jumps.length := ⟨_, rfl⟩
    rw [← hjn] at hud
    have HU := hidA hud
    have HJn := hidA hjn
    have hjn' : jn ≤ 65537 := by have := HZ.out.jmp; have := HZ.out.top; omega
    clear hb6 hb7 hb17 hF7 hmv HMo hud hjn
    go_upto_region 2 with fail
    rw [← hw7, ← hf7]
    clear hw7 hf7
    go_wp2_with fail
    clear k2
    go_loopw [6, 7, 8] (fun x _ _ wr => ∃ (i : Nat) (L : List K), i ≤ jn ∧ x = .int .i64 (i : Int) ∧ Hid (L.length = Lo.length) ∧ Hid (fixN a.labels (a.jumps.take i) Lo = .ok L ∧ DS wr M B (setL a L) Qs nl L r) ∧ Hid (FrO (OO r w.heap.size) B w wr ∧ FB wr f (.int .i64 0) (.int .i64 0) (.int .i64 0))) (fun x _ _ _ => jn - (intOf x).toNat)
    case atStart => exact ⟨0, Lo, Nat.zero_le _, rfl, rfl, HI0, HF0⟩
    case round =>
      clear HI0 HF0
      obtain ⟨i, L, hi, rfl, HLen, HI, HFr⟩ := hrel
      have x16 : wr.cell? ⟨B, 16, none⟩ = some (.slice uo jn uc) := by rw [HI.out.2.rx.cell 16, ← HU.out]; rfl
      by_cases hlt : i < jn
      · have hil : i < a.jumps.length := by have := HJn.out; omega
        obtain ⟨jg, hjo⟩ : ∃ jg, uo = some ⟨jg, 0, none⟩ := by
          obtain ⟨g', c', e1, _⟩ := own_some HI.out.2.us (by show 0 < a.jumps.length; omega)
          rw [HU.out] at e1
          cases e1
          exact ⟨g', rfl⟩
        subst hjo
        have hjc : ∀ m u, m < 4 → (jpc a.jumps)[i * 4 + m]? = some u → wr.cell? ⟨jg, i * 4 + m, none⟩ = some u := fun m u hm hu => by
          have h9 := HI.out.2.us
          have h10 : (setL a L).jumps = a.jumps := rfl
          rw [h10, ← HJn.out, HU.out] at h9
          have hj : i * 4 + m < jn * 4 := by omega
          rw [World.ownsRow.cellAt h9 _ hj]
          exact hu
        obtain ⟨j0, j1, j2, j3⟩ := jpc_at a.jumps i hil
        have d0 := hjc 0 _ (by omega) j0
        rw [Nat.add_zero] at d0
        have d1 := hjc 1 _ (by omega) j1
        have d2 := hjc 2 _ (by omega) j2
        have d3 := hjc 3 _ (by omega) j3
        have HTk : Hid (a.jumps.take (i + 1) = a.jumps.take i ++ [a.jumps[i]]) := by show _ = _; rw [List.take_add_one, List.getElem?_eq_getElem hil]; rfl
        have HJf : Hid (a.jumps[i].frm < L.length ∧ a.jumps[i].label.length ≤ 65536 ∧ a.jumps[i] ∈ a.jumps) := by
          have h1 := HZ.out.frm HO.out _ (List.getElem_mem hil)
          rw [HLp.out] at h1
          exact ⟨by rw [HLen.out]; exact h1, HZ.out.jlb _ (List.getElem_mem hil), List.getElem_mem hil⟩
        have HDr : Hid (a.jumps = a.jumps.take (i + 1) ++ a.jumps.drop (i + 1)) := (List.take_append_drop _ _).symm
        clear hjc j0 j1 j2 j3
        generalize a.jumps[i] = jj at *
        clear hil
        obtain ⟨frm, label, jl, jcl⟩ := jj
        simp only at d0 d1 d2 d3 HJf
        obtain ⟨W1, hW1⟩ : ∃ W1, W1 = wr.alloc (.cells #[.int .i64 (frm : Int), .string (S label), .int .i64 (jl : Int), .int .i64 (jcl : Int)] 113) := ⟨_, rfl⟩
        obtain ⟨ub, hub⟩ : ∃ ub, ub = wr.heap.size := ⟨_, rfl⟩
        have hbel : Go.RowKit.Below wr.heap.size wr W1 := by rw [hW1]; exact bel_al _ _
        have hMr : M ≤ wr.heap.size := HI.out.2.bm.2
        have HI1 := hidA (HI.out.2.below hbel)
        have HF1 : Hid (FrO (OO r w.heap.size) B w W1 ∧ FB W1 f (.int .i64 0) (.int .i64 0) (.int .i64 0)) := ⟨HFr.out.1.trans (FrO.bel hbel), (hbel.block f (Array.getElem?_eq_some_iff.1 HFr.out.2).1).trans HFr.out.2⟩
        have HX1 : Hid (W1.heap[ub]? = some (.cells #[.int .i64 (frm : Int), .string (S label), .int .i64 (jl : Int), .int .i64 (jcl : Int)] 113 (0, 0))) := by show _ = _; rw [hW1, hub]; exact heap_alloc_new _ _ rfl
        have k0 : W1.cell? ⟨ub, 0, none⟩ = some (.int .i64 (frm : Int)) := by simp [World.cell?, HX1.out]
        have k1 : W1.cell? ⟨ub, 1, none⟩ = some (.string (S label)) := by simp [World.cell?, HX1.out]
        have k2 : W1.cell? ⟨ub, 2, none⟩ = some (.int .i64 (jl : Int)) := by simp [World.cell?, HX1.out]
        have k3 : W1.cell? ⟨ub, 3, none⟩ = some (.int .i64 (jcl : Int)) := by simp [World.cell?, HX1.out]
        obtain ⟨mo, mc, hmv, _⟩ := own_slice HI1.out.mks
        have HPl := hidA (place_any W1 B r mo a.labels.length mc a.labels label HI1.out.rx hmv (by have := HI1.out.mks; rw [hmv] at this; exact own_read this) rfl (Nat.le_trans HZ.out.lab HZ.out.top))
        have HUb : Hid (wr.heap.size ≤ ub) := Nat.le_of_eq hub.symm
        have HWr : Hid (∀ g, r.code.ownBlock = some g → g < wr.heap.size) := fun g hg => (World.ownsRow.lt (HI.out.2.oc HO.out).1 g hg).2
        clear hbel hmv
        go_upto_region 8 with fail
        rw [← hW1, ← hub]
        clear hW1 hub d0 d1 d2 d3 x16
        go_wp2_with fail
        refine HPl.out.mono ?_
        rintro e w5 ⟨rfl, hwq⟩
        have hwq' := hwq.symm
        subst hwq'
        clear hwq HPl
        cases hlb : labN a.labels label with
        | none =>
          have hp : plV a.labels label = -1 := by unfold plV; rw [hlb]
          have HRr : Hid (endA a r.line rest = .error (jl, jcl, 42)) := by
            rw [Hid, HE.out, HDr.out, HTk.out, fixN_append, fixN_append, HI.out.1]
            simp only [fixN_one]
            rw [hlb]
          rw [hp]
          obtain ⟨⟨g0, g1, g2⟩, ⟨c0, c1, c2⟩, hst⟩ := ft_facts HF1.out.2
          have hld := load_fault (hst (.int .i64 (jl : Int)) (.int .i64 (jcl : Int)) (.int .i64 42))
          have HX : Hid (FrO (OO r w.heap.size) B w (((W1.setCell ⟨f, 0, none⟩ (.int .i64 (jl : Int))).setCell ⟨f, 1, none⟩ (.int .i64 (jcl : Int))).setCell ⟨f, 2, none⟩ (.int .i64 42))) := HF1.out.1.trans (fro_ft (.inl (Nat.le_of_eq HFs.out.symm)) _ _ _)
          clear hp hlb hst k0 k1
          go_wp2_with fail
          refine bodyPost_ret (v := ftv (jl : Int) (jcl : Int) 42) ?_ rfl ?_
          · simp [results, Tryz.results20, asAddr, hld]
          · exact .inl ⟨_, _, _, HRr.out, by decide, rfl, HX.out⟩
        | some t =>
          have hp : plV a.labels label = (t : Int) := by unfold plV; rw [hlb]
          have hyc := (HI1.out.oc HO.out).1
          obtain ⟨cg, cc, hcd, _⟩ := own_some hyc (by have := HJf.out.1; omega)
          obtain ⟨cl, hcl⟩ : ∃ cl, cl = L.length := ⟨_, rfl⟩
          rw [← hcl] at hcd
          have hfl : (frm : Int) < (cl : Int) := by have := HJf.out.1; omega
          have hfn : ¬ ((cl : Int) ≤ (frm : Int)) := by omega
          have hcb : r.code.ownBlock = some cg := by rw [hcd]; rfl
          have hrow : W1.ownsRow M 76 2 (.slice (some ⟨cg, 0, none⟩) cl cc) L.length (cks L) := by rw [← hcd]; exact hyc
          have hcell : ∃ u, W1.cell? ⟨cg, frm * 2 + 1, none⟩ = some u := by
            have hj : frm * 2 + 1 < L.length * 2 := by have := HJf.out.1; omega
            rw [hcl] at hrow
            rw [World.ownsRow.cellAt hrow _ hj, (cks_at L frm HJf.out.1).2]
            exact ⟨_, rfl⟩
          obtain ⟨u, q1⟩ := hcell
          have f1 : W1.frozen? ⟨cg, frm * 2 + 1, none⟩ = false := by rw [hcl] at hrow; exact World.ownsRow.frozenAt hrow _
          have ht : In64 (t : Int) := by
            have h8 : ∃ x ∈ a.labels, x.2 = t := by
              unfold labN at hlb
              cases h9 : a.labels.find? (fun x => x.1 == label) with
              | none => rw [h9] at hlb; cases hlb
              | some x =>
                rw [h9] at hlb
                simp only [Option.map_some, Option.some.injEq] at hlb
                exact ⟨x, List.mem_of_find?_eq_some h9, hlb⟩
            obtain ⟨x, h9, h10⟩ := h8
            have := HZ.out.lbs x h9
            unfold In64
            omega
          have HN : Hid (fixN a.labels (a.jumps.take (i + 1)) Lo = .ok (L.set frm ((kd L frm).1, (t : Int))) ∧ DS (W1.drew.setCell ⟨cg, frm * 2 + 1, none⟩ (.int .i64 (t : Int))) M B (setL a (L.set frm ((kd L frm).1, (t : Int)))) Qs nl (L.set frm ((kd L frm).1, (t : Int))) r) := by
            refine ⟨?_, ?_⟩
            · rw [HTk.out, fixN_append, HI.out.1]
              simp only [fixN_one]
              rw [hlb]
            · have h9 := (HI1.out.below (bel_drewN W1 1)).fix HO.out hcd HJf.out.1 ht
              rw [setL_setL] at h9
              exact h9
          have HLn : Hid ((L.set frm ((kd L frm).1, (t : Int))).length = Lo.length) := by show _ = _; rw [List.length_set]; exact HLen.out
          have hcM : M ≤ cg := own_ge hyc cg hcb
          have hcf : f ≠ cg := fun e => by
            obtain ⟨cur', hc'⟩ := own_blk hyc hcb
            rw [← e, show W1.heap[f]? = _ from HF1.out.2] at hc'
            simp only [Option.some.injEq, Obj.cells.injEq] at hc'
            exact absurd hc'.2.1 (by decide)
          have hcu : ub ≠ cg := by have := HWr.out cg hcb; have := HUb.out; omega
          have HF3 : Hid (FrO (OO r w.heap.size) B w (W1.drew.setCell ⟨cg, frm * 2 + 1, none⟩ (.int .i64 (t : Int))) ∧ FB (W1.drew.setCell ⟨cg, frm * 2 + 1, none⟩ (.int .i64 (t : Int))) f (.int .i64 0) (.int .i64 0) (.int .i64 0)) := ⟨(HF1.out.1.trans (FrO.bel (bel_drewN W1 1))).trans (FrO.set _ _ (.inr (.inr (.inr (.inr (.inr hcb)))))), (heap_setCell_other _ _ _ _ hcf).trans HF1.out.2⟩
          have hS0 : W1.drew.cell? ⟨B, 10, none⟩ = some (.slice (some ⟨cg, 0, none⟩) cl cc) ∧ W1.drew.cell? ⟨ub, 0, none⟩ = some (.int .i64 (frm : Int)) := ⟨by show W1.cell? _ = _; rw [HI1.out.rx.cell 10, ← hcd]; rfl, k0⟩
          have hS9 : (W1.drew.setCell ⟨cg, frm * 2 + 1, none⟩ (.int .i64 (t : Int))).cell? ⟨B, 10, none⟩ = some (.slice (some ⟨cg, 0, none⟩) cl cc) ∧ (W1.drew.setCell ⟨cg, frm * 2 + 1, none⟩ (.int .i64 (t : Int))).cell? ⟨ub, 0, none⟩ = some (.int .i64 (frm : Int)) := by
            refine ⟨?_, ?_⟩
            · have h9 := HN.out.2.rx.cell 10
              have h10 : (W1.drew.setCell ⟨cg, frm * 2 + 1, none⟩ (.int .i64 (t : Int))).cell? ⟨B, 10, none⟩ = (rcells r)[10]? := h9
              rw [h10, ← hcd]; rfl
            · have h9 := heap_setCell_other W1.drew ⟨cg, frm * 2 + 1, none⟩ ub (.int .i64 (t : Int)) hcu
              have h10 := k0
              simp only [World.cell?] at h10 ⊢
              rw [h9]
              exact h10
          have q1d : W1.drew.cell? ⟨cg, frm * 2 + 1, none⟩ = some u := q1
          have f1d : W1.drew.frozen? ⟨cg, frm * 2 + 1, none⟩ = false := f1
          rw [hp]
          clear hlb hp hyc hcd hrow ht k1 k2 k3 hcb hcM hcf hcu hcl
          go_upto_region 11 with fail
          refine wp_region_held_drew (S := fun w' => w'.cell? ⟨B, 10, none⟩ = some (.slice (some ⟨cg, 0, none⟩) cl cc) ∧ w'.cell? ⟨ub, 0, none⟩ = some (.int .i64 (frm : Int))) (by kernel_rfl) ?_ (fun hHeld => ?_)
          · exact hS0
          refine wpAnyH_take (i := 0) (v := .pointer (some ⟨B, 0, none⟩)) rfl (by kernel_rfl) (by kernel_rfl) (by kernel_rfl) (fun _ _ _ h => h) (Or.inl ⟨by rfl, by intro w hSw; (try dsimp only at hSw); go_simp⟩) (by assumption) ?_
          refine wpAnyH_take (i := 1) (v := .pointer (some ⟨B, 0, none⟩)) rfl (by kernel_rfl) (by kernel_rfl) (by kernel_rfl) (fun _ _ _ h => h) (Or.inl ⟨by rfl, by intro w hSw; (try dsimp only at hSw); go_simp⟩) (by assumption) ?_
          refine wpAnyH_take (i := 2) (v := .pointer (some ⟨B, 6, none⟩)) rfl (by kernel_rfl) (by kernel_rfl) (by kernel_rfl) (fun _ _ _ h => h) (Or.inl ⟨by rfl, by intro w hSw; (try dsimp only at hSw); go_simp⟩) (by assumption) ?_
          refine wpAnyH_take (i := 3) (v := .pointer (some ⟨B, 10, none⟩)) rfl (by kernel_rfl) (by kernel_rfl) (by kernel_rfl) (fun _ _ _ h => h) (Or.inl ⟨by rfl, by intro w hSw; (try dsimp only at hSw); go_simp⟩) (by assumption) ?_
          refine wpAnyH_take (i := 4) (v := .slice (some ⟨cg, 0, none⟩) cl cc) rfl (by kernel_rfl) (by kernel_rfl) (by kernel_rfl) (fun _ _ _ h => h) (Or.inl ⟨by rfl, by intro w hSw; (try dsimp only at hSw); go_simp⟩) (by assumption) ?_
          refine wpAnyH_take (i := 5) (v := .pointer (some ⟨ub, 0, none⟩)) rfl (by kernel_rfl) (by kernel_rfl) (by kernel_rfl) (fun _ _ _ h => h) (Or.inl ⟨by rfl, by intro w hSw; (try dsimp only at hSw); go_simp⟩) (by assumption) ?_
          refine wpAnyH_take (i := 6) (v := .int .i64 (frm : Int)) rfl (by kernel_rfl) (by kernel_rfl) (by kernel_rfl) (fun _ _ _ h => h) (Or.inl ⟨by rfl, by intro w hSw; (try dsimp only at hSw); go_simp⟩) (by assumption) ?_
          refine wpAnyH_take (i := 7) (v := .int .i64 (t : Int)) rfl (by kernel_rfl) (by kernel_rfl) (by kernel_rfl) (fun _ _ _ h => h) (Or.inl ⟨by rfl, by intro w hSw; (try dsimp only at hSw); go_simp⟩) (by assumption) ?_
          refine wpAnyH_take (i := 8) (v := .pointer (some ⟨cg, frm * 2, none⟩)) rfl (by kernel_rfl) (by kernel_rfl) (by kernel_rfl) (fun _ _ _ h => h) (Or.inl ⟨by rfl, by intro w hSw; (try dsimp only at hSw); go_simp⟩) (by assumption) ?_
          refine wpAnyH_take (i := 9) (v := .pointer (some ⟨cg, frm * 2 + 1, none⟩)) rfl (by kernel_rfl) (by kernel_rfl) (by kernel_rfl) (fun _ _ _ h => h) (Or.inl ⟨by rfl, by intro w hSw; (try dsimp only at hSw); go_simp⟩) (by assumption) ?_
          refine wpAnyH_ready (rs := [10]) (by kernel_rfl) (by simp) ?_
          refine AllReadyH.cons rfl (fun K hK => ?_) ?_
          · go_simp
            refine hK.out _ _ (by exact hS9) (fun hHeld => ?_)
            clear hK K
            refine wpAnyH_done (by kernel_rfl) ?_ _
            clear hS0 hS9 q1 f1
            go_wp2_with fail
            go_roundw
            case rel => exact ⟨i + 1, L.set frm ((kd L frm).1, (t : Int)), by omega, by go_num, HLn, HN, HF3⟩
            case measure => simp [intOf]; omega
          exact AllReadyH.nil
      · obtain rfl : i = jn := by omega
        have HFx : Hid (fixN a.labels a.jumps Lo = .ok L) := by
          have h9 := HI.out.1
          rw [HJn.out, List.take_length] at h9
          exact h9
        have x2 : wr.cell? ⟨B, 2, none⟩ = some (.bool r.opn) := HI.out.2.rx.cell 2
        have f2 : wr.frozen? ⟨B, 2, none⟩ = false := frozen_of_row _ _ 2 _ _ HI.out.2.rx
        have HNe : Hid (a.names = nl ++ [r.nmAt]) := by
          have h9 := HI.out.2.neq
          have h10 : (setL a L).opn = a.opn := rfl
          rw [h10, if_pos HO.out] at h9
          exact h9
        obtain ⟨w5, hw5⟩ : ∃ w5, w5 = wr.setCell ⟨B, 2, none⟩ (.bool false) := ⟨_, rfl⟩
        have HX5 : Hid (RX w5 B { r with opn := false }) := by rw [Hid, hw5]; exact heap_setCell_same wr B 2 _ _ _ HI.out.2.rx
        have HFr5 : Hid (FrB B none wr w5) := by rw [Hid, hw5]; exact (FrB.refl B none wr).set
        have HFb5 : Hid (FB w5 f (.int .i64 0) (.int .i64 0) (.int .i64 0)) := by rw [Hid, hw5]; exact (heap_setCell_other _ _ _ _ (HI.out.2.rx.ne HFr.out.2 (by decide))).trans HFr.out.2
        go_upto_region 13 with fail
        rw [← hw5]
        clear hw5 x2 f2 x16
        obtain ⟨co, cc, hcd, _⟩ := own_slice (HI.out.2.oc HO.out).1
        obtain ⟨lo, lc, hld', _⟩ := own_slice HI.out.2.lib
        obtain ⟨cl, hcl⟩ : ∃ cl, cl = L.length := ⟨_, rfl⟩
        obtain ⟨ll, hll⟩ : ∃ ll, ll = Qs.length := ⟨_, rfl⟩
        rw [← hcl] at hcd
        rw [← hll] at hld'
        have hbd : Go.RowKit.Below w5.heap.size w5 w5.drew := bel_drewN w5 1
        have HSS : Hid (∀ W', Go.RowKit.Below w5.heap.size w5 W' → W'.cell? ⟨B, 0, none⟩ = some (.slice lo ll lc) ∧ SP r B co cl cc W') := fun W' hb => by
          have hR := HX5.out.kept hb
          exact ⟨by rw [hR.cell 0, ← hld']; rfl, ⟨hR.cell 11, hR.cell 6, hR.cell 7, hR.cell 8, hR.cell 9, by rw [hR.cell 10, ← hcd]; rfl⟩⟩
        have hS0 := (HSS.out _ hbd).2
        have a0 := (HSS.out _ hbd).1
        have a0w := (HSS.out _ (Go.RowKit.Below.refl _ w5)).1
        have hbo : ∀ o, Go.RowKit.Below w5.heap.size w5 (w5.drew.alloc o) := fun o => hbd.trans ((bel_al _ _).mono hbd.size)
        have hS3 := fun o => (HSS.out _ (hbo o)).2
        have a0' : ∀ o, (w5.alloc o).cell? ⟨B, 0, none⟩ = some (.slice lo ll lc) := fun o => (HSS.out _ (hbo o)).1
        have a0d : ∀ o, (w5.alloc o).drew.cell? ⟨B, 0, none⟩ = some (.slice lo ll lc) := fun o => (HSS.out _ (hbo o)).1
        have HAp : Hid (∀ ty, ∃ v' w', (Builtin.append_ #[22, 22] ty #[.slice lo ll lc, .slice (some ⟨w5.heap.size, 0, none⟩) 1 1]).run Tryz.prog (w5.alloc (.cells #[.string (S r.name), .int .i64 r.p.args, .int .i64 r.p.reads, .int .i64 r.p.writes, .int .i64 r.p.locals, .slice co cl cc] 72)).drew = .ok v' w' ∧ (∃ o9 n9 c9, v' = .slice o9 n9 c9) ∧ w'.cell? ⟨B, 0, none⟩ = some (.slice lo ll lc) ∧ w'.frozen? ⟨B, 0, none⟩ = false ∧ SP r B co cl cc w' ∧ SP r B co cl cc (w'.setCell ⟨B, 0, none⟩ v') ∧ Hid (FB (w'.setCell ⟨B, 0, none⟩ v') f (.int .i64 0) (.int .i64 0) (.int .i64 0) ∧ DS (w'.setCell ⟨B, 0, none⟩ v') M B { setL a L with opn := false, names := nl } (Qs ++ [(⟨S r.name, r.p, co, cl, cc, L⟩ : Pr)]) nl [] { r with opn := false, lib := v' } ∧ FrB B (Value.slice lo ll lc).ownBlock wr (w'.setCell ⟨B, 0, none⟩ v'))) := fun ty => by
          have hfb : FB w5.drew f (.int .i64 0) (.int .i64 0) (.int .i64 0) := HFb5.out
          have hrx : RX w5.drew B { r with opn := false } := HX5.out
          have hfr : FrB B none wr w5.drew := ⟨HFr5.out.os, HFr5.out.tape, HFr5.out.output, HFr5.out.size, HFr5.out.block⟩
          have h9 := HI.out.2.appL (a := setL a L) HO.out hrx hfr hfb HQl.out.1 (hcl ▸ hcd) ty
          rw [hld', ← hcl] at h9
          exact h9
        have HLb := hidA hld'
        clear hbo HSS hcd hld' hcl hll
        refine wp_region_held_drew (S := fun w' => w'.cell? ⟨B, 11, none⟩ = some (.string (S r.name)) ∧ w'.cell? ⟨B, 6, none⟩ = some (.int .i64 r.p.args) ∧ w'.cell? ⟨B, 7, none⟩ = some (.int .i64 r.p.reads) ∧ w'.cell? ⟨B, 8, none⟩ = some (.int .i64 r.p.writes) ∧ w'.cell? ⟨B, 9, none⟩ = some (.int .i64 r.p.locals) ∧ w'.cell? ⟨B, 10, none⟩ = some (.slice co cl cc)) (by kernel_rfl) ?_ (fun hHeld => ?_)
        · exact hS0
        refine wpAnyH_take (i := 0) (v := .pointer (some ⟨B, 0, none⟩)) rfl (by kernel_rfl) (by kernel_rfl) (by kernel_rfl) (fun _ _ _ h => h) (Or.inl ⟨by rfl, by intro w hSw; (try dsimp only at hSw); go_simp⟩) (by assumption) ?_
        refine wpAnyH_take (i := 1) (v := .pointer (some ⟨B, 0, none⟩)) rfl (by kernel_rfl) (by kernel_rfl) (by kernel_rfl) (fun _ _ _ h => h) (Or.inl ⟨by rfl, by intro w hSw; (try dsimp only at hSw); go_simp⟩) (by assumption) ?_
        refine wpAnyH_take (i := 2) (v := .pointer (some ⟨B, 0, none⟩)) rfl (by kernel_rfl) (by kernel_rfl) (by kernel_rfl) (fun _ _ _ h => h) (Or.inl ⟨by rfl, by intro w hSw; (try dsimp only at hSw); go_simp⟩) (by assumption) ?_
        refine wpAnyH_take (i := 3) (v := .pointer (some ⟨B, 0, none⟩)) rfl (by kernel_rfl) (by kernel_rfl) (by kernel_rfl) (fun _ _ _ h => h) (Or.inl ⟨by rfl, by intro w hSw; (try dsimp only at hSw); go_simp⟩) (by assumption) ?_
        refine wpAnyH_take (i := 5) (v := .pointer (some ⟨B, 0, none⟩)) rfl (by kernel_rfl) (by kernel_rfl) (by kernel_rfl) (fun _ _ _ h => h) (Or.inl ⟨by rfl, by intro w hSw; (try dsimp only at hSw); go_simp⟩) (by assumption) ?_
        refine wpAnyH_take (i := 6) (v := .pointer (some ⟨B, 0, none⟩)) rfl (by kernel_rfl) (by kernel_rfl) (by kernel_rfl) (fun _ _ _ h => h) (Or.inl ⟨by rfl, by intro w hSw; (try dsimp only at hSw); go_simp⟩) (by assumption) ?_
        refine wpAnyH_take (i := 7) (v := .pointer (some ⟨B, 11, none⟩)) rfl (by kernel_rfl) (by kernel_rfl) (by kernel_rfl) (fun _ _ _ h => h) (Or.inl ⟨by rfl, by intro w hSw; (try dsimp only at hSw); go_simp⟩) (by assumption) ?_
        refine wpAnyH_take (i := 8) (v := .string (S r.name)) rfl (by kernel_rfl) (by kernel_rfl) (by kernel_rfl) (fun _ _ _ h => h) (Or.inl ⟨by rfl, by intro w hSw; (try dsimp only at hSw); go_simp⟩) (by assumption) ?_
        refine wpAnyH_take (i := 9) (v := .pointer (some ⟨B, 0, none⟩)) rfl (by kernel_rfl) (by kernel_rfl) (by kernel_rfl) (fun _ _ _ h => h) (Or.inl ⟨by rfl, by intro w hSw; (try dsimp only at hSw); go_simp⟩) (by assumption) ?_
        refine wpAnyH_take (i := 10) (v := .pointer (some ⟨B, 0, none⟩)) rfl (by kernel_rfl) (by kernel_rfl) (by kernel_rfl) (fun _ _ _ h => h) (Or.inl ⟨by rfl, by intro w hSw; (try dsimp only at hSw); go_simp⟩) (by assumption) ?_
        refine wpAnyH_take (i := 11) (v := .pointer (some ⟨B, 6, none⟩)) rfl (by kernel_rfl) (by kernel_rfl) (by kernel_rfl) (fun _ _ _ h => h) (Or.inl ⟨by rfl, by intro w hSw; (try dsimp only at hSw); go_simp⟩) (by assumption) ?_
        refine wpAnyH_take (i := 12) (v := .agg #[.int .i64 r.p.args, .int .i64 r.p.reads, .int .i64 r.p.writes, .int .i64 r.p.locals, .slice co cl cc]) rfl (by kernel_rfl) (by kernel_rfl) (by kernel_rfl) (fun _ _ _ h => h) (Or.inl ⟨by rfl, by intro w hSw; (try dsimp only at hSw); go_simp⟩) (by assumption) ?_
        refine wpAnyH_take (i := 13) (v := .agg #[.string (S r.name), .int .i64 r.p.args, .int .i64 r.p.reads, .int .i64 r.p.writes, .int .i64 r.p.locals, .slice co cl cc]) rfl (by kernel_rfl) (by kernel_rfl) (by kernel_rfl) (fun _ _ _ h => h) (Or.inl ⟨by rfl, by intro w hSw; (try dsimp only at hSw); go_simp⟩) (by assumption) ?_
        refine wpAnyH_ready (rs := [4, 14]) (by kernel_rfl) (by simp) ?_
        refine AllReadyH.cons rfl (fun K hK => ?_) ?_
        · go_simp
          refine hK.out _ _ (by assumption) (fun hHeld => ?_)
          clear hK K
          refine wpAnyH_ready (rs := [14]) (by kernel_rfl) (by simp) ?_
          refine AllReadyH.cons rfl (fun K hK => ?_) ?_
          · go_simp
            refine hK.out _ _ (by exact hS3 _) (fun hHeld => ?_)
            clear hK K
            refine wpAnyH_ready (rs := [15]) (by kernel_rfl) (by simp) ?_
            refine AllReadyH.cons rfl (fun K hK => ?_) ?_
            · refine step_appA rfl _ _ 22 rfl (.slice lo ll lc) (.slice (some ⟨w5.heap.size, 0, none⟩) 1 1) rfl rfl HAp.out ?_
              rintro v' w9 ⟨⟨o9, n9, c9, rfl⟩, t1, t2, t3, t4, HP9⟩
              refine hK.out _ _ (by exact t3) (fun hHeld => ?_)
              clear hK K
              refine wpAnyH_take (i := 16) (v := .pointer (some ⟨B, 0, none⟩)) rfl (by kernel_rfl) (by kernel_rfl) (by kernel_rfl) (fun _ _ _ h => h) (Or.inl ⟨by rfl, by intro w hSw; (try dsimp only at hSw); go_simp⟩) (by assumption) ?_
              refine wpAnyH_take (i := 17) (v := .pointer (some ⟨B, 0, none⟩)) rfl (by kernel_rfl) (by kernel_rfl) (by kernel_rfl) (fun _ _ _ h => h) (Or.inl ⟨by rfl, by intro w hSw; (try dsimp only at hSw); go_simp⟩) (by assumption) ?_
              refine wpAnyH_ready (rs := [18]) (by kernel_rfl) (by simp) ?_
              refine AllReadyH.cons rfl (fun K hK => ?_) ?_
              · go_simp
                refine hK.out _ _ (by exact t4) (fun hHeld => ?_)
                clear hK K
                refine wpAnyH_done (by kernel_rfl) ?_ _
                obtain ⟨p1, p2, p3⟩ := HP9.out
                clear t1 t2 t3 t4 HP9 hS0 hS3 a0 a0w a0' a0d HAp hHeld
                generalize w9.setCell ⟨B, 0, none⟩ (.slice o9 n9 c9) = w6 at *
                generalize hr6 : ({ r with opn := false, lib := .slice o9 n9 c9 } : Rv) = r6 at *
                have hnm6 : r6.nmAt = r.nmAt := by rw [← hr6]
                have HLine : Hid (({ r6 with names := r6.names } : Rv).line = r.line) := by rw [Hid, ← hr6]
                have HFb := hidA p1
                have HD6 := hidA p2
                have HF6 : Hid (FrO (OO r w.heap.size) B w w6) := HFr.out.1.trans (p3.fro (fun g hg => .inr (.inl (by rw [HLb.out]; exact hg))))
                have hn6 : r6.names = r.names := by rw [← hr6]
                have HN6 := hidA hn6
                have HFz : Hid (f < w6.heap.size) := (Array.getElem?_eq_some_iff.1 HFb.out).1
                have HNn : Hid (∀ g, r6.names.ownBlock = some g → g ≠ f) := fun g hg => by rw [hn6] at hg; have := HNl.out g hg; have := HFs.out; omega
                clear p1 p2 p3
                go_upto_region 14 with fail
                have hbd : Go.RowKit.Below w6.heap.size w6 w6.drew := bel_drewN w6 1
                have hDd := HD6.out.below hbd
                obtain ⟨no, ncp, hnd, _⟩ := own_slice hDd.nms
                obtain ⟨nn, hnn⟩ : ∃ nn, nn = nl.length := ⟨_, rfl⟩
                rw [← hnn] at hnd
                have HSS : Hid (∀ W', Go.RowKit.Below w6.heap.size w6 W' → W'.cell? ⟨B, 1, none⟩ = some (.slice no nn ncp) ∧ SN r B W') := fun W' hb => by
                  have hD := HD6.out.below hb
                  refine ⟨by rw [hD.rx.cell 1, ← hnd]; rfl, ?_⟩
                  have h9 := hD.rx.sn
                  unfold SN at h9 ⊢
                  rw [hnm6] at h9
                  exact h9
                have hS0 := (HSS.out _ hbd).2
                have a1 := (HSS.out _ hbd).1
                have a1w := (HSS.out _ (Go.RowKit.Below.refl _ w6)).1
                have hbo : ∀ o, Go.RowKit.Below w6.heap.size w6 (w6.drew.alloc o) := fun o => hbd.trans ((bel_al _ _).mono hbd.size)
                have hS3 := fun o => (HSS.out _ (hbo o)).2
                have a1' : ∀ o, (w6.alloc o).cell? ⟨B, 1, none⟩ = some (.slice no nn ncp) := fun o => (HSS.out _ (hbo o)).1
                have a1d : ∀ o, (w6.alloc o).drew.cell? ⟨B, 1, none⟩ = some (.slice no nn ncp) := fun o => (HSS.out _ (hbo o)).1
                have HRes : Hid (endA a r.line rest = .ok { { setL a L with opn := false, names := nl } with names := nl ++ [r6.nmAt] }) := by
                  have h9 : (setL a L).names = nl ++ [r.nmAt] := HNe.out
                  rw [Hid, HE.out, HFx.out, hnm6, ← h9]
                have HAp : Hid (∀ ty, ∃ v' w', (Builtin.append_ #[39, 39] ty #[.slice no nn ncp, .slice (some ⟨w6.heap.size, 0, none⟩) 1 1]).run Tryz.prog (w6.alloc (.cells #[.int .i64 (r.nmAt.1 : Int), .int .i64 (r.nmAt.2 : Int), .int .i64 0] 24)).drew = .ok v' w' ∧ (∃ o9 n9 c9, v' = .slice o9 n9 c9) ∧ w'.cell? ⟨B, 1, none⟩ = some (.slice no nn ncp) ∧ w'.frozen? ⟨B, 1, none⟩ = false ∧ SN r B w' ∧ SN r B (w'.setCell ⟨B, 1, none⟩ v') ∧ Hid (FB (w'.setCell ⟨B, 1, none⟩ v') f (.int .i64 0) (.int .i64 0) (.int .i64 0) ∧ DS (w'.setCell ⟨B, 1, none⟩ v') M B { { setL a L with opn := false, names := nl } with names := nl ++ [r6.nmAt] } _ (nl ++ [r6.nmAt]) [] { r6 with names := v' } ∧ (∀ g, v'.ownBlock = some g → r6.names.ownBlock = some g ∨ w6.heap.size ≤ g) ∧ FrO (OO r w.heap.size) B w6 (w'.setCell ⟨B, 1, none⟩ v'))) := fun ty => by
                  obtain ⟨v', w', q1, q2, q3, q4, q5, q6, q7⟩ := hDd.appN rfl ((hbd.block f (Array.getElem?_eq_some_iff.1 HFb.out).1).trans HFb.out) HNn.out HQl.out.2 ty
                  rw [hnd, hnm6] at q1
                  rw [hnd] at q3
                  unfold SN at q5 q6
                  rw [hnm6] at q5 q6
                  obtain ⟨y1, y2, y3, y4⟩ := q7.out
                  exact ⟨v', w', q1, q2, q3, q4, q5, q6, y1, y2, y3, (FrO.bel hbd).trans (y4.fro (fun g hg => .inr (.inr (.inl (hn6 ▸ hg)))))⟩
                clear hbo hDd hnd hnn HSS hnm6 hn6 hr6
                refine wp_region_held_drew (S := fun w' => w'.cell? ⟨B, 12, none⟩ = some (.int .i64 (r.nmAt.1 : Int)) ∧ w'.cell? ⟨B, 13, none⟩ = some (.int .i64 (r.nmAt.2 : Int)) ∧ w'.cell? ⟨B, 14, none⟩ = some (.int .i64 0)) (by kernel_rfl) ?_ (fun hHeld => ?_)
                · exact hS0
                refine wpAnyH_take (i := 0) (v := .pointer (some ⟨B, 0, none⟩)) rfl (by kernel_rfl) (by kernel_rfl) (by kernel_rfl) (fun _ _ _ h => h) (Or.inl ⟨by rfl, by intro w hSw; (try dsimp only at hSw); go_simp⟩) (by assumption) ?_
                refine wpAnyH_take (i := 1) (v := .pointer (some ⟨B, 0, none⟩)) rfl (by kernel_rfl) (by kernel_rfl) (by kernel_rfl) (fun _ _ _ h => h) (Or.inl ⟨by rfl, by intro w hSw; (try dsimp only at hSw); go_simp⟩) (by assumption) ?_
                refine wpAnyH_take (i := 2) (v := .pointer (some ⟨B, 0, none⟩)) rfl (by kernel_rfl) (by kernel_rfl) (by kernel_rfl) (fun _ _ _ h => h) (Or.inl ⟨by rfl, by intro w hSw; (try dsimp only at hSw); go_simp⟩) (by assumption) ?_
                refine wpAnyH_take (i := 3) (v := .pointer (some ⟨B, 1, none⟩)) rfl (by kernel_rfl) (by kernel_rfl) (by kernel_rfl) (fun _ _ _ h => h) (Or.inl ⟨by rfl, by intro w hSw; (try dsimp only at hSw); go_simp⟩) (by assumption) ?_
                refine wpAnyH_take (i := 5) (v := .pointer (some ⟨B, 0, none⟩)) rfl (by kernel_rfl) (by kernel_rfl) (by kernel_rfl) (fun _ _ _ h => h) (Or.inl ⟨by rfl, by intro w hSw; (try dsimp only at hSw); go_simp⟩) (by assumption) ?_
                refine wpAnyH_take (i := 6) (v := .pointer (some ⟨B, 0, none⟩)) rfl (by kernel_rfl) (by kernel_rfl) (by kernel_rfl) (fun _ _ _ h => h) (Or.inl ⟨by rfl, by intro w hSw; (try dsimp only at hSw); go_simp⟩) (by assumption) ?_
                refine wpAnyH_take (i := 7) (v := .pointer (some ⟨B, 12, none⟩)) rfl (by kernel_rfl) (by kernel_rfl) (by kernel_rfl) (fun _ _ _ h => h) (Or.inl ⟨by rfl, by intro w hSw; (try dsimp only at hSw); go_simp⟩) (by assumption) ?_
                refine wpAnyH_take (i := 8) (v := .agg #[.int .i64 (r.nmAt.1 : Int), .int .i64 (r.nmAt.2 : Int), .int .i64 0]) rfl (by kernel_rfl) (by kernel_rfl) (by kernel_rfl) (fun _ _ _ h => h) (Or.inl ⟨by rfl, by intro w hSw; (try dsimp only at hSw); go_simp⟩) (by assumption) ?_
                refine wpAnyH_ready (rs := [4, 9]) (by kernel_rfl) (by simp) ?_
                refine AllReadyH.cons rfl (fun K hK => ?_) ?_
                · go_simp
                  refine hK.out _ _ (by assumption) (fun hHeld => ?_)
                  clear hK K
                  refine wpAnyH_ready (rs := [9]) (by kernel_rfl) (by simp) ?_
                  refine AllReadyH.cons rfl (fun K hK => ?_) ?_
                  · go_simp
                    refine hK.out _ _ (by exact hS3 _) (fun hHeld => ?_)
                    clear hK K
                    refine wpAnyH_ready (rs := [10]) (by kernel_rfl) (by simp) ?_
                    refine AllReadyH.cons rfl (fun K hK => ?_) ?_
                    · refine step_appA rfl _ _ 39 rfl (.slice no nn ncp) (.slice (some ⟨w6.heap.size, 0, none⟩) 1 1) rfl rfl HAp.out ?_
                      rintro v' w9 ⟨⟨o9, n9, c9, rfl⟩, t1, t2, t3, t4, HP9⟩
                      refine hK.out _ _ (by exact t3) (fun hHeld => ?_)
                      clear hK K
                      refine wpAnyH_take (i := 11) (v := .pointer (some ⟨B, 0, none⟩)) rfl (by kernel_rfl) (by kernel_rfl) (by kernel_rfl) (fun _ _ _ h => h) (Or.inl ⟨by rfl, by intro w hSw; (try dsimp only at hSw); go_simp⟩) (by assumption) ?_
                      refine wpAnyH_take (i := 12) (v := .pointer (some ⟨B, 1, none⟩)) rfl (by kernel_rfl) (by kernel_rfl) (by kernel_rfl) (fun _ _ _ h => h) (Or.inl ⟨by rfl, by intro w hSw; (try dsimp only at hSw); go_simp⟩) (by assumption) ?_
                      refine wpAnyH_ready (rs := [13]) (by kernel_rfl) (by simp) ?_
                      refine AllReadyH.cons rfl (fun K hK => ?_) ?_
                      · go_simp
                        refine hK.out _ _ (by exact t4) (fun hHeld => ?_)
                        clear hK K
                        refine wpAnyH_done (by kernel_rfl) ?_ _
                        obtain ⟨p1, p2, p3, p4⟩ := HP9.out
                        obtain ⟨⟨g0, g1, g2⟩, ⟨c0, c1, c2⟩, hst⟩ := ft_facts p1
                        have hld := load_fault (hst (.int .i64 0) (.int .i64 0) (.int .i64 0))
                        have HX : Hid (RdPost w M B r (endA a r.line rest) (.returned (ftv 0 0 0)) ((((w9.setCell ⟨B, 1, none⟩ (.slice o9 n9 c9)).setCell ⟨f, 0, none⟩ (.int .i64 0)).setCell ⟨f, 1, none⟩ (.int .i64 0)).setCell ⟨f, 2, none⟩ (.int .i64 0))) :=
                          .inr ⟨_, _, _, _, _, HRes.out, rfl, p2.ft p1 (fun g hg => (p3 g hg).elim (fun h9 => HNn.out g h9) (fun h9 => by have := HFz.out; omega)) _ _ _, HLine.out, (HF6.out.trans p4).trans (fro_ft (.inl (Nat.le_of_eq HFs.out.symm)) _ _ _), fun g hg => (p3 g hg).elim (fun h9 => .inl (HN6.out ▸ h9)) (fun h9 => .inr (by have := HFz.out; have := HFs.out; omega))⟩
                        clear p1 p2 p3 p4 HP9 hst t1 t2 t3 t4
                        go_wp2_with fail
                        refine bodyPost_ret (v := ftv 0 0 0) ?_ rfl ?_
                        · simp [results, Tryz.results20, asAddr, hld]
                        · exact HX.out
                      exact AllReadyH.nil
                    exact AllReadyH.nil
                  exact AllReadyH.nil
                refine AllReadyH.cons rfl (fun K hK => ?_) ?_
                · go_simp
                  refine hK.out _ _ (by exact hS3 _) (fun hHeld => ?_)
                  clear hK K
                  refine wpAnyH_ready (rs := [4]) (by kernel_rfl) (by simp) ?_
                  refine AllReadyH.cons rfl (fun K hK => ?_) ?_
                  · go_simp
                    refine hK.out _ _ (by assumption) (fun hHeld => ?_)
                    clear hK K
                    refine wpAnyH_ready (rs := [10]) (by kernel_rfl) (by simp) ?_
                    refine AllReadyH.cons rfl (fun K hK => ?_) ?_
                    · refine step_appA rfl _ _ 39 rfl (.slice no nn ncp) (.slice (some ⟨w6.heap.size, 0, none⟩) 1 1) rfl rfl HAp.out ?_
                      rintro v' w9 ⟨⟨o9, n9, c9, rfl⟩, t1, t2, t3, t4, HP9⟩
                      refine hK.out _ _ (by exact t3) (fun hHeld => ?_)
                      clear hK K
                      refine wpAnyH_take (i := 11) (v := .pointer (some ⟨B, 0, none⟩)) rfl (by kernel_rfl) (by kernel_rfl) (by kernel_rfl) (fun _ _ _ h => h) (Or.inl ⟨by rfl, by intro w hSw; (try dsimp only at hSw); go_simp⟩) (by assumption) ?_
                      refine wpAnyH_take (i := 12) (v := .pointer (some ⟨B, 1, none⟩)) rfl (by kernel_rfl) (by kernel_rfl) (by kernel_rfl) (fun _ _ _ h => h) (Or.inl ⟨by rfl, by intro w hSw; (try dsimp only at hSw); go_simp⟩) (by assumption) ?_
                      refine wpAnyH_ready (rs := [13]) (by kernel_rfl) (by simp) ?_
                      refine AllReadyH.cons rfl (fun K hK => ?_) ?_
                      · go_simp
                        refine hK.out _ _ (by exact t4) (fun hHeld => ?_)
                        clear hK K
                        refine wpAnyH_done (by kernel_rfl) ?_ _
                        obtain ⟨p1, p2, p3, p4⟩ := HP9.out
                        obtain ⟨⟨g0, g1, g2⟩, ⟨c0, c1, c2⟩, hst⟩ := ft_facts p1
                        have hld := load_fault (hst (.int .i64 0) (.int .i64 0) (.int .i64 0))
                        have HX : Hid (RdPost w M B r (endA a r.line rest) (.returned (ftv 0 0 0)) ((((w9.setCell ⟨B, 1, none⟩ (.slice o9 n9 c9)).setCell ⟨f, 0, none⟩ (.int .i64 0)).setCell ⟨f, 1, none⟩ (.int .i64 0)).setCell ⟨f, 2, none⟩ (.int .i64 0))) :=
                          .inr ⟨_, _, _, _, _, HRes.out, rfl, p2.ft p1 (fun g hg => (p3 g hg).elim (fun h9 => HNn.out g h9) (fun h9 => by have := HFz.out; omega)) _ _ _, HLine.out, (HF6.out.trans p4).trans (fro_ft (.inl (Nat.le_of_eq HFs.out.symm)) _ _ _), fun g hg => (p3 g hg).elim (fun h9 => .inl (HN6.out ▸ h9)) (fun h9 => .inr (by have := HFz.out; have := HFs.out; omega))⟩
                        clear p1 p2 p3 p4 HP9 hst t1 t2 t3 t4
                        go_wp2_with fail
                        refine bodyPost_ret (v := ftv 0 0 0) ?_ rfl ?_
                        · simp [results, Tryz.results20, asAddr, hld]
                        · exact HX.out
                      exact AllReadyH.nil
                    exact AllReadyH.nil
                  exact AllReadyH.nil
                exact AllReadyH.nil
              exact AllReadyH.nil
            exact AllReadyH.nil
          exact AllReadyH.nil
        refine AllReadyH.cons rfl (fun K hK => ?_) ?_
        · go_simp
          refine hK.out _ _ (by exact hS3 _) (fun hHeld => ?_)
          clear hK K
          refine wpAnyH_ready (rs := [4]) (by kernel_rfl) (by simp) ?_
          refine AllReadyH.cons rfl (fun K hK => ?_) ?_
          · go_simp
            refine hK.out _ _ (by assumption) (fun hHeld => ?_)
            clear hK K
            refine wpAnyH_ready (rs := [15]) (by kernel_rfl) (by simp) ?_
            refine AllReadyH.cons rfl (fun K hK => ?_) ?_
            · refine step_appA rfl _ _ 22 rfl (.slice lo ll lc) (.slice (some ⟨w5.heap.size, 0, none⟩) 1 1) rfl rfl HAp.out ?_
              rintro v' w9 ⟨⟨o9, n9, c9, rfl⟩, t1, t2, t3, t4, HP9⟩
              refine hK.out _ _ (by exact t3) (fun hHeld => ?_)
              clear hK K
              refine wpAnyH_take (i := 16) (v := .pointer (some ⟨B, 0, none⟩)) rfl (by kernel_rfl) (by kernel_rfl) (by kernel_rfl) (fun _ _ _ h => h) (Or.inl ⟨by rfl, by intro w hSw; (try dsimp only at hSw); go_simp⟩) (by assumption) ?_
              refine wpAnyH_take (i := 17) (v := .pointer (some ⟨B, 0, none⟩)) rfl (by kernel_rfl) (by kernel_rfl) (by kernel_rfl) (fun _ _ _ h => h) (Or.inl ⟨by rfl, by intro w hSw; (try dsimp only at hSw); go_simp⟩) (by assumption) ?_
              refine wpAnyH_ready (rs := [18]) (by kernel_rfl) (by simp) ?_
              refine AllReadyH.cons rfl (fun K hK => ?_) ?_
              · go_simp
                refine hK.out _ _ (by exact t4) (fun hHeld => ?_)
                clear hK K
                refine wpAnyH_done (by kernel_rfl) ?_ _
                obtain ⟨p1, p2, p3⟩ := HP9.out
                clear t1 t2 t3 t4 HP9 hS0 hS3 a0 a0w a0' a0d HAp hHeld
                generalize w9.setCell ⟨B, 0, none⟩ (.slice o9 n9 c9) = w6 at *
                generalize hr6 : ({ r with opn := false, lib := .slice o9 n9 c9 } : Rv) = r6 at *
                have hnm6 : r6.nmAt = r.nmAt := by rw [← hr6]
                have HLine : Hid (({ r6 with names := r6.names } : Rv).line = r.line) := by rw [Hid, ← hr6]
                have HFb := hidA p1
                have HD6 := hidA p2
                have HF6 : Hid (FrO (OO r w.heap.size) B w w6) := HFr.out.1.trans (p3.fro (fun g hg => .inr (.inl (by rw [HLb.out]; exact hg))))
                have hn6 : r6.names = r.names := by rw [← hr6]
                have HN6 := hidA hn6
                have HFz : Hid (f < w6.heap.size) := (Array.getElem?_eq_some_iff.1 HFb.out).1
                have HNn : Hid (∀ g, r6.names.ownBlock = some g → g ≠ f) := fun g hg => by rw [hn6] at hg; have := HNl.out g hg; have := HFs.out; omega
                clear p1 p2 p3
                go_upto_region 14 with fail
                have hbd : Go.RowKit.Below w6.heap.size w6 w6.drew := bel_drewN w6 1
                have hDd := HD6.out.below hbd
                obtain ⟨no, ncp, hnd, _⟩ := own_slice hDd.nms
                obtain ⟨nn, hnn⟩ : ∃ nn, nn = nl.length := ⟨_, rfl⟩
                rw [← hnn] at hnd
                have HSS : Hid (∀ W', Go.RowKit.Below w6.heap.size w6 W' → W'.cell? ⟨B, 1, none⟩ = some (.slice no nn ncp) ∧ SN r B W') := fun W' hb => by
                  have hD := HD6.out.below hb
                  refine ⟨by rw [hD.rx.cell 1, ← hnd]; rfl, ?_⟩
                  have h9 := hD.rx.sn
                  unfold SN at h9 ⊢
                  rw [hnm6] at h9
                  exact h9
                have hS0 := (HSS.out _ hbd).2
                have a1 := (HSS.out _ hbd).1
                have a1w := (HSS.out _ (Go.RowKit.Below.refl _ w6)).1
                have hbo : ∀ o, Go.RowKit.Below w6.heap.size w6 (w6.drew.alloc o) := fun o => hbd.trans ((bel_al _ _).mono hbd.size)
                have hS3 := fun o => (HSS.out _ (hbo o)).2
                have a1' : ∀ o, (w6.alloc o).cell? ⟨B, 1, none⟩ = some (.slice no nn ncp) := fun o => (HSS.out _ (hbo o)).1
                have a1d : ∀ o, (w6.alloc o).drew.cell? ⟨B, 1, none⟩ = some (.slice no nn ncp) := fun o => (HSS.out _ (hbo o)).1
                have HRes : Hid (endA a r.line rest = .ok { { setL a L with opn := false, names := nl } with names := nl ++ [r6.nmAt] }) := by
                  have h9 : (setL a L).names = nl ++ [r.nmAt] := HNe.out
                  rw [Hid, HE.out, HFx.out, hnm6, ← h9]
                have HAp : Hid (∀ ty, ∃ v' w', (Builtin.append_ #[39, 39] ty #[.slice no nn ncp, .slice (some ⟨w6.heap.size, 0, none⟩) 1 1]).run Tryz.prog (w6.alloc (.cells #[.int .i64 (r.nmAt.1 : Int), .int .i64 (r.nmAt.2 : Int), .int .i64 0] 24)).drew = .ok v' w' ∧ (∃ o9 n9 c9, v' = .slice o9 n9 c9) ∧ w'.cell? ⟨B, 1, none⟩ = some (.slice no nn ncp) ∧ w'.frozen? ⟨B, 1, none⟩ = false ∧ SN r B w' ∧ SN r B (w'.setCell ⟨B, 1, none⟩ v') ∧ Hid (FB (w'.setCell ⟨B, 1, none⟩ v') f (.int .i64 0) (.int .i64 0) (.int .i64 0) ∧ DS (w'.setCell ⟨B, 1, none⟩ v') M B { { setL a L with opn := false, names := nl } with names := nl ++ [r6.nmAt] } _ (nl ++ [r6.nmAt]) [] { r6 with names := v' } ∧ (∀ g, v'.ownBlock = some g → r6.names.ownBlock = some g ∨ w6.heap.size ≤ g) ∧ FrO (OO r w.heap.size) B w6 (w'.setCell ⟨B, 1, none⟩ v'))) := fun ty => by
                  obtain ⟨v', w', q1, q2, q3, q4, q5, q6, q7⟩ := hDd.appN rfl ((hbd.block f (Array.getElem?_eq_some_iff.1 HFb.out).1).trans HFb.out) HNn.out HQl.out.2 ty
                  rw [hnd, hnm6] at q1
                  rw [hnd] at q3
                  unfold SN at q5 q6
                  rw [hnm6] at q5 q6
                  obtain ⟨y1, y2, y3, y4⟩ := q7.out
                  exact ⟨v', w', q1, q2, q3, q4, q5, q6, y1, y2, y3, (FrO.bel hbd).trans (y4.fro (fun g hg => .inr (.inr (.inl (hn6 ▸ hg)))))⟩
                clear hbo hDd hnd hnn HSS hnm6 hn6 hr6
                refine wp_region_held_drew (S := fun w' => w'.cell? ⟨B, 12, none⟩ = some (.int .i64 (r.nmAt.1 : Int)) ∧ w'.cell? ⟨B, 13, none⟩ = some (.int .i64 (r.nmAt.2 : Int)) ∧ w'.cell? ⟨B, 14, none⟩ = some (.int .i64 0)) (by kernel_rfl) ?_ (fun hHeld => ?_)
                · exact hS0
                refine wpAnyH_take (i := 0) (v := .pointer (some ⟨B, 0, none⟩)) rfl (by kernel_rfl) (by kernel_rfl) (by kernel_rfl) (fun _ _ _ h => h) (Or.inl ⟨by rfl, by intro w hSw; (try dsimp only at hSw); go_simp⟩) (by assumption) ?_
                refine wpAnyH_take (i := 1) (v := .pointer (some ⟨B, 0, none⟩)) rfl (by kernel_rfl) (by kernel_rfl) (by kernel_rfl) (fun _ _ _ h => h) (Or.inl ⟨by rfl, by intro w hSw; (try dsimp only at hSw); go_simp⟩) (by assumption) ?_
                refine wpAnyH_take (i := 2) (v := .pointer (some ⟨B, 0, none⟩)) rfl (by kernel_rfl) (by kernel_rfl) (by kernel_rfl) (fun _ _ _ h => h) (Or.inl ⟨by rfl, by intro w hSw; (try dsimp only at hSw); go_simp⟩) (by assumption) ?_
                refine wpAnyH_take (i := 3) (v := .pointer (some ⟨B, 1, none⟩)) rfl (by kernel_rfl) (by kernel_rfl) (by kernel_rfl) (fun _ _ _ h => h) (Or.inl ⟨by rfl, by intro w hSw; (try dsimp only at hSw); go_simp⟩) (by assumption) ?_
                refine wpAnyH_take (i := 5) (v := .pointer (some ⟨B, 0, none⟩)) rfl (by kernel_rfl) (by kernel_rfl) (by kernel_rfl) (fun _ _ _ h => h) (Or.inl ⟨by rfl, by intro w hSw; (try dsimp only at hSw); go_simp⟩) (by assumption) ?_
                refine wpAnyH_take (i := 6) (v := .pointer (some ⟨B, 0, none⟩)) rfl (by kernel_rfl) (by kernel_rfl) (by kernel_rfl) (fun _ _ _ h => h) (Or.inl ⟨by rfl, by intro w hSw; (try dsimp only at hSw); go_simp⟩) (by assumption) ?_
                refine wpAnyH_take (i := 7) (v := .pointer (some ⟨B, 12, none⟩)) rfl (by kernel_rfl) (by kernel_rfl) (by kernel_rfl) (fun _ _ _ h => h) (Or.inl ⟨by rfl, by intro w hSw; (try dsimp only at hSw); go_simp⟩) (by assumption) ?_
                refine wpAnyH_take (i := 8) (v := .agg #[.int .i64 (r.nmAt.1 : Int), .int .i64 (r.nmAt.2 : Int), .int .i64 0]) rfl (by kernel_rfl) (by kernel_rfl) (by kernel_rfl) (fun _ _ _ h => h) (Or.inl ⟨by rfl, by intro w hSw; (try dsimp only at hSw); go_simp⟩) (by assumption) ?_
                refine wpAnyH_ready (rs := [4, 9]) (by kernel_rfl) (by simp) ?_
                refine AllReadyH.cons rfl (fun K hK => ?_) ?_
                · go_simp
                  refine hK.out _ _ (by assumption) (fun hHeld => ?_)
                  clear hK K
                  refine wpAnyH_ready (rs := [9]) (by kernel_rfl) (by simp) ?_
                  refine AllReadyH.cons rfl (fun K hK => ?_) ?_
                  · go_simp
                    refine hK.out _ _ (by exact hS3 _) (fun hHeld => ?_)
                    clear hK K
                    refine wpAnyH_ready (rs := [10]) (by kernel_rfl) (by simp) ?_
                    refine AllReadyH.cons rfl (fun K hK => ?_) ?_
                    · refine step_appA rfl _ _ 39 rfl (.slice no nn ncp) (.slice (some ⟨w6.heap.size, 0, none⟩) 1 1) rfl rfl HAp.out ?_
                      rintro v' w9 ⟨⟨o9, n9, c9, rfl⟩, t1, t2, t3, t4, HP9⟩
                      refine hK.out _ _ (by exact t3) (fun hHeld => ?_)
                      clear hK K
                      refine wpAnyH_take (i := 11) (v := .pointer (some ⟨B, 0, none⟩)) rfl (by kernel_rfl) (by kernel_rfl) (by kernel_rfl) (fun _ _ _ h => h) (Or.inl ⟨by rfl, by intro w hSw; (try dsimp only at hSw); go_simp⟩) (by assumption) ?_
                      refine wpAnyH_take (i := 12) (v := .pointer (some ⟨B, 1, none⟩)) rfl (by kernel_rfl) (by kernel_rfl) (by kernel_rfl) (fun _ _ _ h => h) (Or.inl ⟨by rfl, by intro w hSw; (try dsimp only at hSw); go_simp⟩) (by assumption) ?_
                      refine wpAnyH_ready (rs := [13]) (by kernel_rfl) (by simp) ?_
                      refine AllReadyH.cons rfl (fun K hK => ?_) ?_
                      · go_simp
                        refine hK.out _ _ (by exact t4) (fun hHeld => ?_)
                        clear hK K
                        refine wpAnyH_done (by kernel_rfl) ?_ _
                        obtain ⟨p1, p2, p3, p4⟩ := HP9.out
                        obtain ⟨⟨g0, g1, g2⟩, ⟨c0, c1, c2⟩, hst⟩ := ft_facts p1
                        have hld := load_fault (hst (.int .i64 0) (.int .i64 0) (.int .i64 0))
                        have HX : Hid (RdPost w M B r (endA a r.line rest) (.returned (ftv 0 0 0)) ((((w9.setCell ⟨B, 1, none⟩ (.slice o9 n9 c9)).setCell ⟨f, 0, none⟩ (.int .i64 0)).setCell ⟨f, 1, none⟩ (.int .i64 0)).setCell ⟨f, 2, none⟩ (.int .i64 0))) :=
                          .inr ⟨_, _, _, _, _, HRes.out, rfl, p2.ft p1 (fun g hg => (p3 g hg).elim (fun h9 => HNn.out g h9) (fun h9 => by have := HFz.out; omega)) _ _ _, HLine.out, (HF6.out.trans p4).trans (fro_ft (.inl (Nat.le_of_eq HFs.out.symm)) _ _ _), fun g hg => (p3 g hg).elim (fun h9 => .inl (HN6.out ▸ h9)) (fun h9 => .inr (by have := HFz.out; have := HFs.out; omega))⟩
                        clear p1 p2 p3 p4 HP9 hst t1 t2 t3 t4
                        go_wp2_with fail
                        refine bodyPost_ret (v := ftv 0 0 0) ?_ rfl ?_
                        · simp [results, Tryz.results20, asAddr, hld]
                        · exact HX.out
                      exact AllReadyH.nil
                    exact AllReadyH.nil
                  exact AllReadyH.nil
                refine AllReadyH.cons rfl (fun K hK => ?_) ?_
                · go_simp
                  refine hK.out _ _ (by exact hS3 _) (fun hHeld => ?_)
                  clear hK K
                  refine wpAnyH_ready (rs := [4]) (by kernel_rfl) (by simp) ?_
                  refine AllReadyH.cons rfl (fun K hK => ?_) ?_
                  · go_simp
                    refine hK.out _ _ (by assumption) (fun hHeld => ?_)
                    clear hK K
                    refine wpAnyH_ready (rs := [10]) (by kernel_rfl) (by simp) ?_
                    refine AllReadyH.cons rfl (fun K hK => ?_) ?_
                    · refine step_appA rfl _ _ 39 rfl (.slice no nn ncp) (.slice (some ⟨w6.heap.size, 0, none⟩) 1 1) rfl rfl HAp.out ?_
                      rintro v' w9 ⟨⟨o9, n9, c9, rfl⟩, t1, t2, t3, t4, HP9⟩
                      refine hK.out _ _ (by exact t3) (fun hHeld => ?_)
                      clear hK K
                      refine wpAnyH_take (i := 11) (v := .pointer (some ⟨B, 0, none⟩)) rfl (by kernel_rfl) (by kernel_rfl) (by kernel_rfl) (fun _ _ _ h => h) (Or.inl ⟨by rfl, by intro w hSw; (try dsimp only at hSw); go_simp⟩) (by assumption) ?_
                      refine wpAnyH_take (i := 12) (v := .pointer (some ⟨B, 1, none⟩)) rfl (by kernel_rfl) (by kernel_rfl) (by kernel_rfl) (fun _ _ _ h => h) (Or.inl ⟨by rfl, by intro w hSw; (try dsimp only at hSw); go_simp⟩) (by assumption) ?_
                      refine wpAnyH_ready (rs := [13]) (by kernel_rfl) (by simp) ?_
                      refine AllReadyH.cons rfl (fun K hK => ?_) ?_
                      · go_simp
                        refine hK.out _ _ (by exact t4) (fun hHeld => ?_)
                        clear hK K
                        refine wpAnyH_done (by kernel_rfl) ?_ _
                        obtain ⟨p1, p2, p3, p4⟩ := HP9.out
                        obtain ⟨⟨g0, g1, g2⟩, ⟨c0, c1, c2⟩, hst⟩ := ft_facts p1
                        have hld := load_fault (hst (.int .i64 0) (.int .i64 0) (.int .i64 0))
                        have HX : Hid (RdPost w M B r (endA a r.line rest) (.returned (ftv 0 0 0)) ((((w9.setCell ⟨B, 1, none⟩ (.slice o9 n9 c9)).setCell ⟨f, 0, none⟩ (.int .i64 0)).setCell ⟨f, 1, none⟩ (.int .i64 0)).setCell ⟨f, 2, none⟩ (.int .i64 0))) :=
                          .inr ⟨_, _, _, _, _, HRes.out, rfl, p2.ft p1 (fun g hg => (p3 g hg).elim (fun h9 => HNn.out g h9) (fun h9 => by have := HFz.out; omega)) _ _ _, HLine.out, (HF6.out.trans p4).trans (fro_ft (.inl (Nat.le_of_eq HFs.out.symm)) _ _ _), fun g hg => (p3 g hg).elim (fun h9 => .inl (HN6.out ▸ h9)) (fun h9 => .inr (by have := HFz.out; have := HFs.out; omega))⟩
                        clear p1 p2 p3 p4 HP9 hst t1 t2 t3 t4
                        go_wp2_with fail
                        refine bodyPost_ret (v := ftv 0 0 0) ?_ rfl ?_
                        · simp [results, Tryz.results20, asAddr, hld]
                        · exact HX.out
                      exact AllReadyH.nil
                    exact AllReadyH.nil
                  exact AllReadyH.nil
                exact AllReadyH.nil
              exact AllReadyH.nil
            exact AllReadyH.nil
          exact AllReadyH.nil
        exact AllReadyH.nil
end Go.Proofs.YtiiplikmoodfnaaGreatDoor
