import Derived.Test.YtibdogniiglcjabBkCopy
import Derived.Test.YtibdogniiglcjabJBkRef4
/-
  copySnapshot, the walk.
-/
namespace Go.Proofs.Ytibdogniiglcjab
open Go.RowKit Go.Sort

set_option maxRecDepth 100000 in
set_option maxHeartbeats 4000000 in
theorem copySn_any (N : Nat) (w : World) (s : Sn) (h : SnAt N w s) (hN : N ≤ w.heap.size) (ho : SnOK s) :
    Calls Try.prog 40 #[snv s] w fun e w' => CpPost w s e w' := by
  obtain ⟨pn, hpn⟩ : ∃ pn, pn = s.pins.length := ⟨_, rfl⟩
  obtain ⟨cn, hcn⟩ : ∃ cn, cn = s.chs.length := ⟨_, rfl⟩
  obtain ⟨pa, hpa⟩ : ∃ pa, pa = s.pa := ⟨_, rfl⟩
  obtain ⟨ca, hca⟩ : ∃ ca, ca = s.ca := ⟨_, rfl⟩
  obtain ⟨pc, hpc⟩ : ∃ pc, pc = s.pc := ⟨_, rfl⟩
  obtain ⟨cc, hcc⟩ : ∃ cc, cc = s.cc := ⟨_, rfl⟩
  obtain ⟨la, hla⟩ : ∃ la, la = s.la := ⟨_, rfl⟩
  have hnp := ho.np
  have hnc := ho.nc
  have hsv : snv s = .agg #[.int .i64 la, .slice pa pn pc, .slice ca cn cc] := by rw [hla, hpa, hpn, hpc, hca, hcn, hcc]; rfl
  rw [← hpn] at hnp
  rw [← hcn] at hnc
  obtain ⟨W1, hW1⟩ : ∃ W1, W1 = ((w.alloc (.cells #[.int .i64 la, .slice pa pn pc, .slice ca cn cc] 27)).alloc (.cells #[.int .i64 0, .slice none 0 0, .slice none 0 0] 27)).alloc (.cells #[.int .i64 la, .slice none 0 0, .slice none 0 0] 27) := ⟨_, rfl⟩
  obtain ⟨Kb, hKb⟩ : ∃ Kb, Kb = w.heap.size := ⟨_, rfl⟩
  obtain ⟨Rb, hRb⟩ : ∃ Rb, Rb = w.heap.size + 1 := ⟨_, rfl⟩
  obtain ⟨Ob, hOb⟩ : ∃ Ob, Ob = w.heap.size + 1 + 1 := ⟨_, rfl⟩
  have HB : Hid (Below w.heap.size w W1 ∧ W1.heap[Kb]? = some (.cells #[.int .i64 la, .slice pa pn pc, .slice ca cn cc] 27 (0, 0)) ∧ W1.heap[Rb]? = some (.cells #[.int .i64 0, .slice none 0 0, .slice none 0 0] 27 (0, 0)) ∧ W1.heap[Ob]? = some (.cells #[.int .i64 la, .slice none 0 0, .slice none 0 0] 27 (0, 0)) ∧ W1.heap.size = w.heap.size + 3) := by
    rw [hW1, hKb, hRb, hOb]
    refine ⟨((((Below.refl _ _).alloc (Nat.le_refl _) _).alloc (by simp) _).alloc (by simp; omega) _), ?_, ?_, heap_alloc_new _ _ (by simp), by simp⟩
    · rw [heap_alloc_old _ _ (by simp; omega), heap_alloc_old _ _ (by simp)]
      exact heap_alloc_new _ _ rfl
    · rw [heap_alloc_old _ _ (by simp)]
      exact heap_alloc_new _ _ (by simp)
  have HS : Hid (∀ W, Below w.heap.size w W → SnAt N W s) := fun W hW => h.below (hW.mono hN)
  have HE := hidC (And.intro hpn (And.intro hcn (And.intro hpa (And.intro hca hla))))
  have HP0 : Hid (pa = none → pc = 0) := by rw [hpa, hpc]; exact h.p0
  have HV0 := hidC h.v0
  have HNv := hidC ho.nv
  have k0 : ∀ o, ((w.alloc (.cells #[.int .i64 la, .slice pa pn pc, .slice ca cn cc] 27)).alloc o).cell? ⟨w.heap.size, 0, none⟩ = some (.int .i64 la) := fun o => Lib.cell?_alloc_some _ (by
    have hb : (w.alloc (.cells #[.int .i64 la, .slice pa pn pc, .slice ca cn cc] 27)).heap[w.heap.size]? = some (.cells #[.int .i64 la, .slice pa pn pc, .slice ca cn cc] 27 (0, 0)) := heap_alloc_new _ _ rfl
    rw [World.cell?, hb]; rfl)
  have k1 : W1.cell? ⟨Kb, 1, none⟩ = some (.slice pa pn pc) := by have h1 := HB.out.2.1; simp [World.cell?, h1]
  have q1 : W1.cell? ⟨Ob, 1, none⟩ = some (.slice none 0 0) := by have h1 := HB.out.2.2.2.1; simp [World.cell?, h1]
  have HNe : Hid (Kb ≠ Ob ∧ Rb ≠ Ob ∧ Kb ≠ Rb ∧ w.heap.size ≤ Kb ∧ w.heap.size ≤ Rb ∧ w.heap.size ≤ Ob) := by refine ⟨?_, ?_, ?_, ?_, ?_, ?_⟩ <;> omega
  have HApp : Hid (∀ ty, ∃ v' w', (Builtin.append_ #[24, 24] ty #[.slice none 0 0, .slice pa pn pc]).run Try.prog W1 = .ok v' w' ∧ ((∃ a n c, v' = .slice a n c) ∧ (w'.cell? ⟨Ob, 1, none⟩ = some (.slice none 0 0) ∧ w'.frozen? ⟨Ob, 1, none⟩ = false) ∧ Hid (CpB (w'.setCell ⟨Ob, 1, none⟩ v') w.heap.size Ob la v' (.slice none 0 0) s.pins [] ∧ (w'.setCell ⟨Ob, 1, none⟩ v').heap[Kb]? = some (.cells #[.int .i64 la, .slice pa pn pc, .slice ca cn cc] 27 (0, 0)) ∧ (w'.setCell ⟨Ob, 1, none⟩ v').heap[Rb]? = some (.cells #[.int .i64 0, .slice none 0 0, .slice none 0 0] 27 (0, 0)) ∧ Below w.heap.size w (w'.setCell ⟨Ob, 1, none⟩ v')))) := fun ty => by
    have hsrc := (HS.out W1 HB.out.1).ps
    rw [← HE.out.2.2.1] at hsrc
    obtain ⟨v', w', z1, z2, z3, z4, z5⟩ := appPins (w := W1) ty w.heap.size N pa pc s.pins hsrc HP0.out (by rw [← HE.out.1]; exact hnp) HB.out.1.size
    rw [← HE.out.1] at z1
    have hbO : w'.heap[Ob]? = _ := (z4.block Ob (blk_lt HB.out.2.2.2.1) (by simp)).trans HB.out.2.2.2.1
    have hbK : w'.heap[Kb]? = _ := (z4.block Kb (blk_lt HB.out.2.1) (by simp)).trans HB.out.2.1
    have hbR : w'.heap[Rb]? = _ := (z4.block Rb (blk_lt HB.out.2.2.1) (by simp)).trans HB.out.2.2.1
    have hb' : Below w.heap.size w w' := HB.out.1.grown z4 HB.out.1.size (fun k e => by cases e)
    refine ⟨v', w', z1, z2, ⟨by simp [World.cell?, hbO], frozen_of_row _ _ _ _ _ hbO⟩, ⟨heap_setCell_same w' Ob 1 _ _ v' hbO, rowSame z3 (fun g hg => heap_setCell_other _ _ _ _ (fun e => ?_)), World.ownsRow_nil _ _ _ _, by simp, HNe.out.2.2.2.2.2⟩, (heap_setCell_other _ _ _ _ (fun e => HNe.out.1 e)).trans hbK, (heap_setCell_other _ _ _ _ (fun e => HNe.out.2.1 e)).trans hbR, hb'.setCell (p := ⟨Ob, 1, none⟩) (by have := HNe.out.2.2.2.2.2; simp; omega) _⟩
    obtain ⟨cur, hc⟩ := rowBlock z3 hg
    have e' : g = Ob := e
    rw [e', hbO] at hc
    cases hc
  rw [hsv]
  have HOb := hidC hOb
  clear h hpn hcn hpa hca hpc hcc hla ho hsv
  go_enter Try.func40, Try.ntmps40
  go_upto_region 2 with fail
  rw [← hW1, ← hOb, ← hRb, ← hKb]
  clear hW1 hKb hRb hOb k0
  go_wp2_with (at_builtin; refine wpL_appI rfl _ _ 24 rfl (.slice none 0 0) (.slice pa pn pc) rfl rfl HApp.out ?_; rintro v' w2 ⟨⟨a2, n2, c2, rfl⟩, ⟨hc2, hf2⟩, HC2⟩)
  obtain ⟨W2, hW2⟩ : ∃ W2, W2 = w2.setCell ⟨Ob, 1, none⟩ (.slice a2 n2 c2) := ⟨_, rfl⟩
  rw [← hW2] at HC2 ⊢
  clear hW2 k1 q1 HApp hc2 hf2
  obtain ⟨pv, hpv⟩ : ∃ pv, pv = Value.slice a2 n2 c2 := ⟨_, rfl⟩
  rw [← hpv] at HC2
  have HPv := hidC hpv
  clear hpv
  go_wp2_with fail
  go_loopw [4, 5] (fun y _ wr => ∃ (i : Nat) (cv : Value) (ds : List Ch), i ≤ cn ∧ y = .int .i64 (i : Int) ∧ Hid (CpB wr w.heap.size Ob la pv cv s.pins ds ∧ wr.heap[Kb]? = some (.cells #[.int .i64 la, .slice pa pn pc, .slice ca cn cc] 27 (0, 0)) ∧ wr.heap[Rb]? = some (.cells #[.int .i64 0, .slice none 0 0, .slice none 0 0] 27 (0, 0)) ∧ Below w.heap.size w wr ∧ kl ds = kl (s.chs.take i))) (fun y _ _ => cn - (intOf y).toNat)
  case atStart => exact ⟨0, _, [], Nat.zero_le _, rfl, HC2.out.1, HC2.out.2.1, HC2.out.2.2.1, HC2.out.2.2.2, rfl⟩
  case round =>
    clear HC2
    obtain ⟨i, cv, ds, hi, rfl, HI⟩ := hrel
    have k2 : wr.cell? ⟨Kb, 2, none⟩ = some (.slice ca cn cc) := by have h1 := HI.out.2.1; simp [World.cell?, h1]
    by_cases hlt : i < cn
    · have hil : i < s.chs.length := by have := HE.out.2.1; omega
      obtain ⟨b, off, hca, e0, e1, e2⟩ := (HS.out wr HI.out.2.2.2.1).chain (i := i) hil
      rw [← HE.out.2.2.2.1] at hca
      subst hca
      have HIb : Hid (b < w.heap.size) := by
        obtain ⟨h1, _⟩ := ccs_at s.chs i hil
        obtain ⟨b', off', e, hb', _⟩ := (HS.out wr HI.out.2.2.2.1).cs _ _ h1
        rw [← HE.out.2.2.2.1] at e
        cases e
        show _ < _
        omega
      have hdl : ds.length ≤ 100000 := by
        have h1 := congrArg List.length HI.out.2.2.2.2
        simp [kl] at h1
        omega
      have hsn := HNv.out _ (List.getElem_mem hil)
      -- the first append
      obtain ⟨v1, w1, z1, z2, z3, z4⟩ := akStp.app (w := wr.drew) 73 w.heap.size (.slice none 0 0) 0 [] (World.ownsRow_nil _ _ _ _) N s.chs[i].a s.chs[i].l.length s.chs[i].c (scs s.chs[i].l) (scs_length _) (fun j u hu => (HS.out wr HI.out.2.2.2.1).vs _ (List.getElem_mem hil) j u hu) (HV0.out _ (List.getElem_mem hil)) (scs_one _) (by omega) (by omega) HI.out.2.2.2.1.size
      rw [Nat.zero_add, List.nil_append] at z2
      obtain ⟨a1, n1, c1, rfl⟩ : ∃ a n c, v1 = .slice a n c := by
        obtain ⟨_, ⟨rfl, _⟩ | ⟨g, cp, cur, rfl, _⟩⟩ := z2
        · exact ⟨_, _, _, rfl⟩
        · exact ⟨_, _, _, rfl⟩
      obtain ⟨hn1, _, _, _⟩ := rowCs z2
      subst hn1
      have hw1 : Below wr.heap.size wr w1 := by
        have h1 : Below wr.drew.heap.size wr.drew w1 := (Below.refl _ _).grown z3 (Nat.le_refl _) (fun k e => by cases e)
        exact ⟨h1.os, h1.tape, h1.output, h1.size, h1.block⟩
      have hC1 := HI.out.1.kept hw1
      have hb1 : Below w.heap.size w w1 := HI.out.2.2.2.1.trans (hw1.mono HI.out.2.2.2.1.size)
      -- the second one
      obtain ⟨V, hV⟩ : ∃ V, V = w1.alloc (.cells #[.int .i64 s.chs[i].k.1, .int .i64 s.chs[i].k.2, .slice a1 s.chs[i].l.length c1] 75) := ⟨_, rfl⟩
      have hbV : Below w1.heap.size w1 V := by rw [hV]; exact (Below.refl _ _).alloc (Nat.le_refl _) _
      have hCV := hC1.kept hbV
      have hbwV : Below w.heap.size w V := hb1.trans (hbV.mono hb1.size)
      have hcs : CsAt (w1.heap.size + 1) V (some ⟨w1.heap.size, 0, none⟩) [.int .i64 s.chs[i].k.1, .int .i64 s.chs[i].k.2, .slice a1 s.chs[i].l.length c1] := by rw [hV]; exact CsAt.new w1 _ _
      obtain ⟨v2, w2, y1, y2, y3, y4⟩ := akCh.app (w := V) 25 w.heap.size cv _ _ hCV.rc (w1.heap.size + 1) (some ⟨w1.heap.size, 0, none⟩) 1 1 [.int .i64 s.chs[i].k.1, .int .i64 s.chs[i].k.2, .slice a1 s.chs[i].l.length c1] rfl hcs (by simp) (by intro u hu; simp at hu; rcases hu with rfl | rfl | rfl <;> rfl) (by omega) (by omega) hbwV.size
      obtain ⟨a2', n2', c2', rfl⟩ : ∃ a n c, v2 = .slice a n c := by
        obtain ⟨_, ⟨rfl, _⟩ | ⟨g, cp, cur, rfl, _⟩⟩ := y2
        · exact ⟨_, _, _, rfl⟩
        · exact ⟨_, _, _, rfl⟩
      have hz2V : V.ownsRow w.heap.size 112 4 (.slice a1 s.chs[i].l.length c1) s.chs[i].l.length (scs s.chs[i].l) := by
        exact rowSame z2 (fun g hg => hbV.block g (World.ownsRow.lt z2 g hg).2)
      have y2' : w2.ownsRow w.heap.size 75 3 (.slice a2' n2' c2') (ds.length + 1) (ccs (ds ++ [⟨s.chs[i].k, a1, c1, s.chs[i].l⟩])) := by
        rw [ccs_append]
        have e9 : ccs [⟨s.chs[i].k, a1, c1, s.chs[i].l⟩] = [.int .i64 s.chs[i].k.1, .int .i64 s.chs[i].k.2, .slice a1 s.chs[i].l.length c1] := rfl
        rw [e9]
        exact y2
      obtain ⟨⟨g1, g2⟩, hCf⟩ := hCV.put (c := ⟨s.chs[i].k, a1, c1, s.chs[i].l⟩) hz2V y2' y3 y4
      have HN : Hid (CpB (w2.setCell ⟨Ob, 2, none⟩ (.slice a2' n2' c2')) w.heap.size Ob la pv (.slice a2' n2' c2') s.pins (ds ++ [⟨s.chs[i].k, a1, c1, s.chs[i].l⟩]) ∧ (w2.setCell ⟨Ob, 2, none⟩ (.slice a2' n2' c2')).heap[Kb]? = some (.cells #[.int .i64 la, .slice pa pn pc, .slice (some ⟨b, off, none⟩) cn cc] 27 (0, 0)) ∧ (w2.setCell ⟨Ob, 2, none⟩ (.slice a2' n2' c2')).heap[Rb]? = some (.cells #[.int .i64 0, .slice none 0 0, .slice none 0 0] 27 (0, 0)) ∧ Below w.heap.size w (w2.setCell ⟨Ob, 2, none⟩ (.slice a2' n2' c2')) ∧ kl (ds ++ [⟨s.chs[i].k, a1, c1, s.chs[i].l⟩]) = kl (s.chs.take (i + 1))) := by
        have hkeep : ∀ {k : Nat} {cur : Array Value}, wr.heap[k]? = some (.cells cur 27 (0, 0)) → k ≠ Ob → (w2.setCell ⟨Ob, 2, none⟩ (.slice a2' n2' c2')).heap[k]? = some (.cells cur 27 (0, 0)) := fun {k cur} hk hne => by
          have h1 : V.heap[k]? = _ := (hbV.block k (Nat.lt_of_lt_of_le (blk_lt hk) hw1.size)).trans ((hw1.block k (blk_lt hk)).trans hk)
          refine (heap_setCell_other _ _ _ _ (fun e => hne e)).trans ((y3.block k (blk_lt h1) (fun e => ?_)).trans h1)
          obtain ⟨cur', hc'⟩ := rowBlock hCV.rc e.symm
          rw [h1] at hc'
          cases hc'
        refine ⟨hCf, hkeep HI.out.2.1 HNe.out.1, hkeep HI.out.2.2.1 HNe.out.2.1, ?_, ?_⟩
        · exact (hbwV.grown y3 hbwV.size (fun k e => (World.ownsRow.lt hCV.rc k e).1)).setCell (p := ⟨Ob, 2, none⟩) (by have := HNe.out.2.2.2.2.2; simp; omega) _
        · rw [List.take_succ_eq_append_getElem hil]
          have h1 := HI.out.2.2.2.2
          unfold kl at h1 ⊢
          rw [List.map_append, List.map_append, h1]
          rfl
      have p1 := HI.out.1.cells.2.2
      have p2 := hC1.cells.2.2
      have p3 : ∀ o, (w1.alloc o).cell? ⟨Ob, 2, none⟩ = some cv := fun o => Lib.cell?_alloc_some _ p2
      have hK1 : w1.heap[Kb]? = _ := (hw1.block _ (blk_lt HI.out.2.1)).trans HI.out.2.1
      have p4 : w1.cell? ⟨Kb, 2, none⟩ = some (.slice (some ⟨b, off, none⟩) cn cc) := by simp [World.cell?, hK1]
      have hbc : ∀ j x, wr.cell? ⟨b, j, none⟩ = some x → w1.cell? ⟨b, j, none⟩ = some x := fun j x hx => (hw1.cell (p := ⟨b, j, none⟩) (World.block_lt_of_cell? _ _ hx)).trans hx
      have p5 := hbc _ _ e0
      have p6 := hbc _ _ e1
      have p7 := hbc _ _ e2
      obtain ⟨nv, hnv⟩ : ∃ nv, nv = Value.slice none 0 0 := ⟨_, rfl⟩
      rw [← hnv] at z1
      generalize s.chs[i].k.1 = x1 at *
      generalize s.chs[i].k.2 = x2 at *
      generalize hsl : s.chs[i].l.length = sn at *
      generalize s.chs[i].a = sa at *
      generalize s.chs[i].c = sc at *
      rw [hV] at y1
      clear hC1 hCV hbV hbwV hcs hz2V y2' hCf hw1 hb1 hK1 hbc z2 z3 z4 y2 y3 y4 hV
      simp [go_sem] at z1
      simp [go_sem] at y1
      go_wp2_with fail
      rw [← hnv]
      have HNv2 := hidC hnv
      clear hnv
      go_region
      have HNf := hidC HN.out
      clear z1 y1 p1 p2 p3 p4 p5 p6 p7 g1 g2 e0 e1 e2 k2 HN
      have hnv := HNv2.out
      subst hnv
      clear HNv2
      go_wp2
      exact ⟨⟨i + 1, _, _, by omega, by go_num, HNf.out⟩, by simp [intOf]; omega⟩
    · have hie : i = cn := by omega
      subst hie
      have HC := hidC HI.out.1
      obtain ⟨o0, o1, o2⟩ := HI.out.1.cells
      obtain ⟨ca', cn', cc', hcv⟩ : ∃ a n c, cv = .slice a n c := by
        obtain ⟨_, ⟨h1, _⟩ | ⟨g, cp, cur, h1, _⟩⟩ := HI.out.1.rc
        · exact ⟨_, _, _, h1⟩
        · exact ⟨_, _, _, h1⟩
      subst hcv
      rw [HPv.out] at o1
      have hRb := HI.out.2.2.1
      have r0 : wr.cell? ⟨Rb, 0, none⟩ = some (.int .i64 0) := by simp [World.cell?, hRb]
      have r1 : wr.cell? ⟨Rb, 1, none⟩ = some (.slice none 0 0) := by simp [World.cell?, hRb]
      have r2 : wr.cell? ⟨Rb, 2, none⟩ = some (.slice none 0 0) := by simp [World.cell?, hRb]
      have f0 : wr.frozen? ⟨Rb, 0, none⟩ = false := frozen_of_row _ _ _ _ _ hRb
      have f1 : wr.frozen? ⟨Rb, 1, none⟩ = false := frozen_of_row _ _ _ _ _ hRb
      have f2 : wr.frozen? ⟨Rb, 2, none⟩ = false := frozen_of_row _ _ _ _ _ hRb
      obtain ⟨F, hF⟩ : ∃ F, F = ((wr.setCell ⟨Rb, 0, none⟩ (.int .i64 la)).setCell ⟨Rb, 1, none⟩ (.slice a2 n2 c2)).setCell ⟨Rb, 2, none⟩ (.slice ca' cn' cc') := ⟨_, rfl⟩
      have HX : Hid (F.heap[Rb]? = some (.cells #[.int .i64 la, .slice a2 n2 c2, .slice ca' cn' cc'] 27 (0, 0)) ∧ CpPost w s (.returned (.agg #[.int .i64 la, .slice a2 n2 c2, .slice ca' cn' cc'])) F) := by
        have t0 := heap_setCell_same wr Rb 0 _ _ (.int .i64 la) hRb
        have t1 := heap_setCell_same _ Rb 1 _ _ (.slice a2 n2 c2) t0
        have t2 := heap_setCell_same _ Rb 2 _ _ (.slice ca' cn' cc') t1
        have hs : ∀ k, k ≠ Rb → F.heap[k]? = wr.heap[k]? := fun k hk => by
          rw [hF, heap_setCell_other _ _ _ _ (fun e => hk e), heap_setCell_other _ _ _ _ (fun e => hk e), heap_setCell_other _ _ _ _ (fun e => hk e)]
        have hrow : ∀ {T : TypeId} {sz n : Nat} {v : Value} {xs : List Value}, T ≠ 27 → wr.ownsRow w.heap.size T sz v n xs → F.ownsRow w.heap.size T sz v n xs := fun h1 hr => rowSame hr (fun g hg' => hs g (fun e => by
          obtain ⟨cur, hc⟩ := rowBlock hr hg'
          rw [e, hRb] at hc; cases hc; exact h1 rfl))
        have hCF : CpB F w.heap.size Ob la (.slice a2 n2 c2) (.slice ca' cn' cc') s.pins ds := by
          have h1 := HC.out
          rw [HPv.out] at h1
          exact ⟨(hs Ob (fun e => HNe.out.2.1 e.symm)).trans h1.ob, hrow (by decide) h1.rp, hrow (by decide) h1.rc, fun c hc => hrow (by decide) (h1.rv c hc), h1.le⟩
        have hbF : Below w.heap.size w F := by
          rw [hF]
          have hR := HNe.out.2.2.2.2.1
          exact ((HI.out.2.2.2.1.setCell (p := ⟨Rb, 0, none⟩) (by simp; omega) _).setCell (p := ⟨Rb, 1, none⟩) (by simp; omega) _).setCell (p := ⟨Rb, 2, none⟩) (by simp; omega) _
        have hkl := HI.out.2.2.2.2
        rw [HE.out.2.1, List.take_length] at hkl
        refine ⟨by rw [hF]; exact t2, hCF.fin HE.out.2.2.2.2 rfl hkl hbF⟩
      clear HI HC hRb
      go_wp2
      rw [← hF]
      clear hF
      have hFb := HX.out.1
      have s0 : F.cell? ⟨Rb, 0, none⟩ = some (.int .i64 la) := by simp [World.cell?, hFb]
      have s1 : F.cell? ⟨Rb, 1, none⟩ = some (.slice a2 n2 c2) := by simp [World.cell?, hFb]
      have s2 : F.cell? ⟨Rb, 2, none⟩ = some (.slice ca' cn' cc') := by simp [World.cell?, hFb]
      refine bodyPost_ret (v := .agg #[.int .i64 la, .slice a2 n2 c2, .slice ca' cn' cc']) ?_ rfl HX.out.2
      simp [results, Try.f40, go_sem, s0, s1, s2]
end Go.Proofs.Ytibdogniiglcjab
