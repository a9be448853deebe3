/-
  Put OF A KEY THAT IS NOT THERE.
-/
import Derived.Test.YtenmkigoohpfmaaDPut1
import Derived.Deep.RegionHeld3
import Derived.Deep.DeepCutAuto
namespace Go.Proofs.Ytenmkigoohpfmaa
open Go.RowKit Go.Sort

def PartOK (f : Nat) (hh : K → Nat) : Prop := ∀ (w : World) (D M L P : Nat) (es : List En) (k : K), DA w D M L (hfn f) P es → Calls Try.prog 12 #[ptr D, kv k] w fun e w' => e = .returned (.int .i64 ((hh k % P : Nat) : Int)) ∧ Below w.heap.size w w'
theorem DA.partc {w : World} {D M L P : Nat} {hf : Value} {es : List En} (h : DA w D M L hf P es) {e : En} (he : e ∈ es) : w.cell? ⟨e.b, 3, none⟩ = some (.int .i64 (e.p : Int)) := by
  obtain ⟨x, y, h1⟩ := h.entry he
  rw [World.cell?, h1]; rfl
/-- the entry as it is made -/
structure Mde (w wx : World) (E : Nat) (k : K) (v : Int) (p : Nat) : Prop where
  blk : wx.heap[E]? = some (.cells (cellsE ⟨E, k, v, p⟩ (.pointer none) (.pointer none)) TE (0, 0))
  bel : Below w.heap.size w wx
  ge : w.heap.size ≤ E

set_option maxRecDepth 100000 in
set_option maxHeartbeats 1000000 in
theorem put_new (w : World) (D M L P f : Nat) (hh : K → Nat) (hok : PartOK f hh) (es : List En) (k : K) (v : Int) (h : DA w D M L (hfn f) P es) (hk : KIn k) (hv : In64 v) (he0 : fd es k = none) (hlen : es.length ≤ 140737488355328) :
    Calls Try.prog 5 #[ptr D, kv k, .int .i64 v] w fun e w' => ∃ E, e = .returned (.tuple #[.int .i64 0, .bool false]) ∧ DA w' D M L (hfn f) P (es ++ [⟨E, k, v, hh k % P⟩]) ∧ w.heap.size ≤ E ∧ Fr (Ft M L es) w w' := by
  have HD : Hid (DA w D M L (hfn f) P es ∧ KIn k ∧ In64 v) := ⟨h, hk, hv⟩
  have HE : Hid (fd es k = none) := he0
  have HP : Hid (PartOK f hh) := hok
  have HLn : Hid (es.length ≤ 140737488355328) := hlen
  clear h hk hv he0 hok hlen
  obtain ⟨k1, k2⟩ := k
  go_enter Try.func5, Try.ntmps5
  go_wp2_with fail
  have HB1 : Hid (Below w.heap.size w (w.alloc (.cells #[.int .i64 k1, .int .i64 k2] 28))) := (Below.refl _ _).alloc (Nat.le_refl _) _
  have HX1 : Hid ((w.alloc (.cells #[.int .i64 k1, .int .i64 k2] 28)).heap[w.heap.size]? = some (.cells #[.int .i64 k1, .int .i64 k2] 28 (0, 0))) := heap_alloc_new _ _ rfl
  generalize w.alloc (.cells #[.int .i64 k1, .int .i64 k2] 28) = W1 at *
  refine (isKey_any W1 (k1, k2)).mono ?_
  rintro e w2 ⟨rfl, hb2⟩
  have HB2 : Hid (Below w.heap.size w w2) := HB1.out.trans (hb2.mono HB1.out.size)
  have HX2 : Hid (w2.heap[w.heap.size]? = some (.cells #[.int .i64 k1, .int .i64 k2] 28 (0, 0))) := (hb2.block _ (blk_lt HX1.out)).trans HX1.out
  have HD2 : Hid (DA w2 D M L (hfn f) P es) := HD.out.1.kept HB2.out
  clear hb2 HB1 HX1
  obtain ⟨_, c1, _⟩ := HD2.out.cells
  have b0 : w2.cell? ⟨w.heap.size, 0, none⟩ = some (.int .i64 k1) := by rw [World.cell?, HX2.out]; rfl
  have b1 : w2.cell? ⟨w.heap.size, 1, none⟩ = some (.int .i64 k2) := by rw [World.cell?, HX2.out]; rfl
  have hl := HD2.out.lookN HD.out.2.1
  rw [HE.out] at hl
  simp only [fp] at hl
  go_wp2_with fail
  go_quiet (fail)
  clear c1 b0 b1 hl
  have HB3 : Hid (Below w.heap.size w (w2.drewN nq)) := HB2.out.trans (((Grew.refl w2).drewN nq).below.mono HB2.out.size)
  have HX3 : Hid ((w2.drewN nq).heap[w.heap.size]? = some (.cells #[.int .i64 k1, .int .i64 k2] 28 (0, 0))) := HX2.out
  have HD3 : Hid (DA (w2.drewN nq) D M L (hfn f) P es) := HD2.out.same (fun _ _ => rfl)
  generalize w2.drewN nq = w3 at *
  clear HB2 HX2 HD2
  have b0 : w3.cell? ⟨w.heap.size, 0, none⟩ = some (.int .i64 k1) := by rw [World.cell?, HX3.out]; rfl
  have b1 : w3.cell? ⟨w.heap.size, 1, none⟩ = some (.int .i64 k2) := by rw [World.cell?, HX3.out]; rfl
  go_upto_region 9 with fail
  go_cut [11] (fun u wx => ∃ E, u = ptr E ∧ Hid (Mde w3 wx E (k1, k2) v (hh (k1, k2) % P)))
  case first =>
    have HPd : Hid (∀ W, Below w3.heap.size w3 W → Calls Try.prog 12 #[ptr D, .agg #[.int .i64 k1, .int .i64 k2]] W fun e w' => e = .returned (.int .i64 ((hh (k1, k2) % P : Nat) : Int)) ∧ Below W.heap.size W w') := fun W hW => HP.out W D M L P es (k1, k2) (HD3.out.kept hW)
    have HB0 : Hid (Below w3.heap.size w3 w3.drew) := ((Grew.refl w3).drewN 1).below
    generalize hh (k1, k2) % P = pp at *
    go_region_held3 (fun w' => w'.cell? ⟨w.heap.size, 0, none⟩ = some (.int .i64 k1) ∧ w'.cell? ⟨w.heap.size, 1, none⟩ = some (.int .i64 k2)) (first | exact ⟨(HBq.out.cell (p := ⟨w.heap.size, 0, none⟩) (blk_lt HX3.out)).trans b0, (HBq.out.cell (p := ⟨w.heap.size, 1, none⟩) (blk_lt HX3.out)).trans b1⟩ | go_keep) (first | (go_at_call 12; refine (HPd.out _ HB0.out).mono ?_; rintro e wq ⟨rfl, hbq⟩; have HBq : Hid (Below w3.heap.size w3 wq) := HB0.out.trans (hbq.mono HB0.out.size); clear hbq))
    have HMd : Hid (Mde w3 (wq.alloc (.cells (cellsE ⟨wq.heap.size, (k1, k2), v, pp⟩ (.pointer none) (.pointer none)) TE)) wq.heap.size (k1, k2) v pp) := ⟨heap_alloc_new _ _ rfl, HBq.out.alloc HBq.out.size _, HBq.out.size⟩
    go_wp2_with fail
    go_meet
    exact ⟨_, rfl, HMd⟩
  case rest =>
    obtain ⟨E, rfl, HMd⟩ := hcut
    have HBc : Hid (Below w.heap.size w wc) := HB3.out.trans (HMd.out.bel.mono HB3.out.size)
    have HDc : Hid (DA wc D M L (hfn f) P es) := HD3.out.kept HMd.out.bel
    have HXc : Hid (wc.heap[w.heap.size]? = some (.cells #[.int .i64 k1, .int .i64 k2] 28 (0, 0))) := (HMd.out.bel.block _ (blk_lt HX3.out)).trans HX3.out
    have HEb : Hid (wc.heap[E]? = some (.cells (cellsE ⟨E, (k1, k2), v, hh (k1, k2) % P⟩ (.pointer none) (.pointer none)) TE (0, 0)) ∧ w3.heap.size ≤ E ∧ w.heap.size < E) := ⟨HMd.out.blk, HMd.out.ge, by have := HMd.out.ge; have := blk_lt HX3.out; omega⟩
    have HNe : Hid (∀ k, (k = D ∨ Ft M L es k) → k ≠ E) := fun k hk e' => by have := HD3.out.lt hk; have := HMd.out.ge; omega
    clear b0 b1 HMd
    obtain ⟨_, c1, c2⟩ := HDc.out.cells
    have b0 : wc.cell? ⟨w.heap.size, 0, none⟩ = some (.int .i64 k1) := by rw [World.cell?, HXc.out]; rfl
    have b1 : wc.cell? ⟨w.heap.size, 1, none⟩ = some (.int .i64 k2) := by rw [World.cell?, HXc.out]; rfl
    obtain ⟨ms, clock, hm1, hm2⟩ := HDc.out.mp
    have hmu : (Instr.mapUpdate 42 (.map (some M)) (.agg #[.int .i64 k1, .int .i64 k2]) (ptr E)).run Try.prog wc.drew = .ok () (ChangeMaps.setBlock wc.drew M (.map (ms.push ⟨kv (k1, k2), ptr E, clock⟩) (clock + 1))) :=
      map_put (w := wc.drew) (k := (k1, k2)) hm1 (fun e he => (HDc.out.pp e he).2.1) hm2 HDc.out.kn HD.out.2.1 HE.out E
    have HM4 : Hid (∃ ms' c, (ChangeMaps.setBlock wc.drew M (.map (ms.push ⟨kv (k1, k2), ptr E, clock⟩) (clock + 1))).heap[M]? = some (.map ms' c) ∧ ms'.toList.map (fun x => (x.key, x.val)) = (es ++ [(⟨E, (k1, k2), v, hh (k1, k2) % P⟩ : En)]).map (fun e => (kv e.k, ptr e.b))) :=
      ⟨_, _, ChangeMaps.heap_setBlock_same (w := wc.drew) hm1 _, by simp [hm2]⟩
    have HO4 : Hid (∀ k, k ≠ M → (ChangeMaps.setBlock wc.drew M (.map (ms.push ⟨kv (k1, k2), ptr E, clock⟩) (clock + 1))).heap[k]? = wc.heap[k]?) := fun k hk => ChangeMaps.heap_setBlock_other (w := wc.drew) hm1 _ hk
    have HF4 : Hid (Fr (Ft M L es) w (ChangeMaps.setBlock wc.drew M (.map (ms.push ⟨kv (k1, k2), ptr E, clock⟩) (clock + 1)))) := by
      have h1 := HBc.out
      have h2 : (ChangeMaps.setBlock wc.drew M (.map (ms.push ⟨kv (k1, k2), ptr E, clock⟩) (clock + 1))).heap.size = wc.heap.size := by simp [ChangeMaps.setBlock]
      exact ⟨h1.os, h1.tape, h1.output, by rw [h2]; exact h1.size, fun k hk hS => (HO4.out k (fun e' => hS (.inl e'))).trans (h1.block k hk)⟩
    go_upto_region 10 with fail
    go_region
    generalize ChangeMaps.setBlock wc.drew M (.map (ms.push ⟨kv (k1, k2), ptr E, clock⟩) (clock + 1)) = W4 at *
    clear b0 b1 c1 c2 hmu hm1 hm2
    have HEn : Hid (hh (k1, k2) % P < P) := Nat.mod_lt _ (by have := HDc.out.P0; omega)
    generalize hpp : hh (k1, k2) % P = pp at *
    have nE : E ≠ M ∧ E ≠ L ∧ D ≠ M ∧ L ≠ M := by
      refine ⟨Ne.symm (HNe.out M (.inr (.inl rfl))), Ne.symm (HNe.out L (.inr (.inr (.inl rfl)))), fun e' => ?_, fun e' => ?_⟩
      · obtain ⟨_, _, h1, _⟩ := HDc.out.mp; have h2 := HDc.out.dc; rw [e', h1] at h2; cases h2
      · obtain ⟨_, _, h1, _⟩ := HDc.out.mp; obtain ⟨_, h2, _⟩ := HDc.out.ln; rw [e', h1] at h2; cases h2
    have hD4 : W4.heap[D]? = _ := (HO4.out D nE.2.2.1).trans HDc.out.dc
    have d2 : W4.cell? ⟨D, 2, none⟩ = some (.slice (some ⟨L, 0, none⟩) P P) := by rw [World.cell?, hD4]; rfl
    have hE4 : W4.heap[E]? = some (.cells (cellsE ⟨E, (k1, k2), v, pp⟩ (.pointer none) (.pointer none)) TE (0, 0)) := (HO4.out E nE.1).trans HEb.out.1
    have e3 : W4.cell? ⟨E, 3, none⟩ = some (.int .i64 (pp : Int)) := by rw [World.cell?, hE4]; rfl
    have hpi : (pp : Int) < (P : Int) := by have := HEn.out; omega
    have HAdd : Hid (∀ n, Calls Try.prog 13 #[.pointer (some ⟨L, pp * 3, none⟩), ptr E] (W4.drewN n) fun e w' => e = .returned (.tuple #[]) ∧ DA w' D M L (hfn f) P (es ++ [⟨E, (k1, k2), v, pp⟩]) ∧ Fr (Ft M L es) w w') := fun n => by
      obtain ⟨C, hC, hCs, hCl⟩ := HDc.out.ln
      obtain ⟨l0, l1, l2⟩ := hCl pp HEn.out
      rw [Nat.mul_comm] at l0 l1 l2
      have hL4 : (W4.drewN n).heap[L]? = some (.cells C TL (0, 0)) := (HO4.out L nE.2.2.2).trans hC
      have hE4' : (W4.drewN n).heap[E]? = some (.cells (cellsE ⟨E, (k1, k2), v, pp⟩ (.pointer none) (.pointer none)) TE (0, 0)) := hE4
      have hlt : (pt pp es).length ≤ 140737488355328 := by
        have h1 : (pt pp es).length ≤ es.length := List.length_filter_le _ _
        have := HLn.out; omega
      have hF4 : Fr (Ft M L es) w (W4.drewN n) := ⟨HF4.out.os, HF4.out.tape, HF4.out.output, HF4.out.size, HF4.out.block⟩
      have hwE : w.heap.size ≤ E := by have := HEb.out.2.2; omega
      have hEn : (⟨E, (k1, k2), v, pp⟩ : En).p < P ∧ KIn (⟨E, (k1, k2), v, pp⟩ : En).k ∧ In64 (⟨E, (k1, k2), v, pp⟩ : En).v := ⟨HEn.out, HD.out.2.1, HD.out.2.2⟩
      by_cases h0 : pt pp es = []
      · rw [h0] at l0 l1
        refine (add_first (W4.drewN n) L (pp * 3) E (pt pp es).length C none k1 k2 v (pp : Int) none none hL4 l0 l1 l2 hlt hE4' nE.2.1).mono ?_
        rintro e w' ⟨rfl, rfl⟩
        exact ⟨rfl, DA.added1 (W := W4.drewN n) HDc.out ⟨E, (k1, k2), v, pp⟩ hEn HE.out HNe.out HM4.out HO4.out HEb.out.1 h0,
          (((hF4.set _ _ (.inl hwE)).set _ _ (.inr (.inr (.inl rfl)))).set _ _ (.inr (.inr (.inl rfl)))).set _ _ (.inr (.inr (.inl rfl)))⟩
      · obtain ⟨A0, t, C0, hes, htp, hC0⟩ := last_split h0
        have hti : t ∈ es := by rw [hes]; simp
        have htl : lp (pt pp es) = ptr t.b := by rw [hes]; exact lp_last htp hC0
        rw [htl] at l1
        have ht4 := HDc.out.en A0 t C0 hes
        obtain ⟨o1, ho1⟩ := lp_ptr (pt t.p A0)
        obtain ⟨o2, ho2⟩ := hp_ptr (pt t.p C0)
        rw [ho1, ho2] at ht4
        have ntM : t.b ≠ M := fun e' => by obtain ⟨_, _, h1, _⟩ := HDc.out.mp; rw [e', h1] at ht4; cases ht4
        have ntL : t.b ≠ L := fun e' => by rw [e', hC] at ht4; cases ht4
        refine (add_more (W4.drewN n) L (pp * 3) E t.b (pt pp es).length C k1 k2 v (pp : Int) t.k.1 t.k.2 t.v (t.p : Int) none none o1 o2 hL4 l1 l2 hlt hE4' ((HO4.out t.b ntM).trans ht4) nE.2.1 ntL (HNe.out _ (.inr (.inr (.inr ⟨t, hti, rfl⟩))))).mono ?_
        rintro e w' ⟨rfl, rfl⟩
        exact ⟨rfl, DA.added2 (W := W4.drewN n) HDc.out ⟨E, (k1, k2), v, pp⟩ hEn HE.out HNe.out HM4.out HO4.out HEb.out.1 hes htp hC0,
          (((hF4.set _ _ (.inl hwE)).set _ _ (.inr (.inr (.inr ⟨t, hti, rfl⟩)))).set _ _ (.inr (.inr (.inl rfl)))).set _ _ (.inr (.inr (.inl rfl)))⟩
    have hwE : w.heap.size ≤ E := by have := HEb.out.2.2; omega
    go_upto_region 11 with fail
    go_region_held3 (fun w' => w'.cell? ⟨D, 2, none⟩ = some (.slice (some ⟨L, 0, none⟩) P P) ∧ w'.cell? ⟨E, 3, none⟩ = some (.int .i64 (pp : Int))) (first | exact ⟨HAq.out.1.cells.2.2, HAq.out.1.partc (e := ⟨E, (k1, k2), v, pp⟩) (by simp)⟩ | go_keep) (first | (go_at_call 13; refine (HAdd.out 1).mono ?_; rintro e wq ⟨rfl, hA⟩; have HAq : Hid (DA wq D M L (hfn f) P (es ++ [⟨E, (k1, k2), v, pp⟩]) ∧ Fr (Ft M L es) w wq) := hA; clear hA))
    go_wp2
    go_ret2
    exact ⟨E, rfl, by rw [hpp]; exact HAq.out.1, hwE, HAq.out.2⟩
end Go.Proofs.Ytenmkigoohpfmaa
