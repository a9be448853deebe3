import Derived.Test.YtkmafpfldnapjaaGreatDoorKARd
import Derived.Test.YtkmafpfldnapjaaGreatDoorKBytes
import Derived.Test.YtkmafpfldnapjaaGreatDoorKLProc
/-
  Assemble.
-/
namespace Go.Proofs.YtkmafpfldnapjaaGreatDoor
open Go.RowKit Go.Sort

/-- what Assemble leaves of a text that is short enough -/
def AsmPost (W : World) (l : List UInt8) (e : Ending) (w' : World) : Prop :=
  (∃ v E, e = .returned (.tuple #[.slice none 0 0, v]) ∧ linesA (splitN l) (splitN l).length = .error E ∧ ErrAt w' v E.1 E.2.1 E.2.2 ∧ Go.RowKit.Below W.heap.size W w') ∨
  (∃ M B line a Ps vl vn vm vj W3, linesA (splitN l) (splitN l).length = .ok a ∧ ASt W3 M B line a Ps vl vn vm vj ∧ W.heap.size = B ∧ Go.RowKit.Below W.heap.size W w' ∧ LibPost W3 M B a Ps vl e w')
theorem fra_below {W0 W W' : World} {M B : Nat} (hb : Go.RowKit.Below W0.heap.size W0 W) (h : FrA M B W W') (hB : B = W0.heap.size) (hM : B < M) : Go.RowKit.Below W0.heap.size W0 W' :=
  ⟨h.os.trans hb.os, h.tape.trans hb.tape, h.output.trans hb.output, Nat.le_trans hb.size h.size, fun k hk => (h.block k (by omega) (by omega)).trans (hb.block k hk)⟩
theorem LibPost.fr {W w' : World} {M B : Nat} {a : As} {Ps : List Pr} {vl : Value} {e : Ending} (h : LibPost W M B a Ps vl e w') (hM : M ≤ W.heap.size) : FrA M B W w' ∧ ∃ x y, e = .returned (.tuple #[x, y]) := by
  rcases h with ⟨v, h1, _, _, h2⟩ | ⟨v, h1, _, _, _, h2⟩ | ⟨h1, _, _, h2⟩
  · exact ⟨h2, _, _, h1⟩
  · exact ⟨h2, _, _, h1⟩
  · exact ⟨FrA.bel h2 hM, _, _, h1⟩
def ErrVar (W : World) : Prop := W.cell? ⟨0, 0, none⟩ = some (.iface 190 (.agg #[.pointer (some ⟨8, 28, none⟩)]))
theorem ErrVar.fra {M B : Nat} {W W' : World} (h : ErrVar W) (hb : FrA M B W W') (hB : B < M) (hg : 8 ≤ B) : ErrVar W' := by
  have h2 := hb.block 0 (by omega) (by omega)
  unfold ErrVar at h ⊢
  simp only [World.cell?] at h ⊢
  rw [h2]
  exact h
theorem linesA_ok {ls : List (List Wd)} {i : Nat} {a : As} {ws : List Wd} (h : linesA ls i = .ok a) (hw : ls[i]? = some ws) : linesA ls (i + 1) = lineA a (i + 1) ws := by
  rw [linesA, h]
  simp only
  rw [List.getD_eq_getElem?_getD, hw]
  rfl
set_option maxRecDepth 100000 in
set_option maxHeartbeats 4000000 in
theorem assemble_any (w : World) (l : List UInt8) (hl : l.length ≤ 65536) (hv : NumVars w) (hn : NmAt w) (hkw : KwAt w) (he : ErrVar w) (hB : 8 ≤ w.heap.size) :
    Calls Tryz.prog 8 #[.string (S l)] w fun e w' => AsmPost w l e w' := by
  have hsz : (S l).size = l.length := S_size l
  obtain ⟨w1, hw1⟩ : ∃ w1, w1 = w.alloc (.cells #[.int .i64 0, .slice none 0 0, .slice none 0 0, .bool false, .int .i64 0, .int .i64 0, .map none, .slice none 0 0] 73) := ⟨_, rfl⟩
  have hb1 : Go.RowKit.Below w.heap.size w w1 := by rw [hw1]; exact bel_al _ _
  have hAB1 : AB w1 w.heap.size 0 (.slice none 0 0) (.slice none 0 0) false 0 0 (.map none) (.slice none 0 0) := by rw [hw1]; exact heap_alloc_new _ _ rfl
  have hs1 : w1.heap.size = w.heap.size + 1 := by rw [hw1]; simp
  have HSp := hidA (split_any w1 l hl)
  have HV := hidA hv
  have HN := hidA hn
  have HK := hidA hkw
  have HEv := hidA he
  have HB1 := hidA hb1
  have HAB1 := hidA hAB1
  clear hv hn hkw he hb1 hAB1
  go_enter Tryz.func8, Tryz.ntmps8
  go_upto_region 4 with fail
  rw [← hw1]
  clear hw1
  go_wp2_with fail
  refine HSp.out.mono ?_
  rintro e w2 ⟨sa, sc, N, vals, rfl, hrow, hlns, hb2⟩
  have HRow := hidA hrow
  have HLns := hidA hlns
  have HB2 := hidA hb2
  obtain ⟨B, hBd⟩ : ∃ B, B = w.heap.size := ⟨_, rfl⟩
  have HBd := hidA hBd
  obtain ⟨M, hMd⟩ : ∃ M, M = w2.heap.size := ⟨_, rfl⟩
  have hBM : B < M := by have := hb2.size; omega
  have hBg : 8 ≤ B := by omega
  have HMd := hidA hMd
  obtain ⟨ls, hls⟩ : ∃ ls, ls = splitN l := ⟨_, rfl⟩
  have HLs := hidA hls
  obtain ⟨n, hnd⟩ : ∃ n, n = ls.length := ⟨_, rfl⟩
  rw [← hls, ← hnd] at HRow
  rw [← hls] at HLns
  have HNd := hidA hnd
  have hn1 : n ≤ 65537 := by have := split_few l; rw [← hls] at this; omega
  have HSm : Hid (∀ ws ∈ ls, SmallW ws ∧ ∀ y ∈ ws, y.1.length ≤ 65536) := by have h9 := split_small l hl; rw [← hls] at h9; exact h9
  rw [← hls, ← hnd, ← hBd]
  have HA0 : Hid (ASt w2 M B 0 start0 [] (.slice none 0 0) (.slice none 0 0) (.map none) (.slice none 0 0)) := ASt.start (by rw [hBd]; exact (hb2.block _ HAB1.out.lt).trans HAB1.out) hBM (by omega)
  have HBW : Hid (Go.RowKit.Below w.heap.size w w2) := HB1.out.trans (hb2.mono HB1.out.size)
  have hF0 : FrA M B w2 w2 := FrA.refl _ _ _
  have HF0 := hidA hF0
  have hs1' : w1.heap.size = B + 1 := by omega
  have HS1 := hidA hs1'
  clear hrow hlns hb2 HSp HAB1 HB1 hls hnd hMd hBd hs1 hs1' hF0 hsz
  go_wp2_with fail
  go_loopw [16] (fun y wr => ∃ (i : Nat) (a : As) (Ps : List Pr) (l0 : Nat) (vl vn vm vj : Value), i ≤ n ∧ y = .int .i64 (i : Int) ∧ Hid (linesA ls i = .ok a ∧ AsSz a i) ∧ Hid (ASt wr M B l0 a Ps vl vn vm vj) ∧ Hid (FrA M B w2 wr)) (fun y _ => n - (intOf y).toNat)
  case atStart => exact ⟨0, start0, [], 0, _, _, _, _, Nat.zero_le _, rfl, ⟨rfl, start_sz⟩, HA0, HF0⟩
  case round =>
    clear HA0 HF0
    obtain ⟨i, a, Ps, l0, vl, vn, vm, vj, hi, rfl, HLi, HA, HF⟩ := hrel
    have hMr : M ≤ wr.heap.size := HA.out.bm.2
    by_cases hlt : i < n
    · have hil : i < ls.length := by have := HNd.out; omega
      obtain ⟨ws, hws⟩ : ∃ ws, ls[i]? = some ws := ⟨_, List.getElem?_eq_getElem hil⟩
      obtain ⟨v0, hv0⟩ : ∃ v, vals[i]? = some v := ⟨_, List.getElem?_eq_getElem (by have := HLns.out.1; omega)⟩
      have hln := HLns.out.2 i v0 ws hv0 hws
      have HSw : Hid (SmallW ws ∧ ∀ y ∈ ws, y.1.length ≤ 65536) := HSm.out ws (List.mem_of_getElem? hws)
      obtain ⟨wo, wc, rfl, hwo⟩ := own_slice hln.1
      obtain ⟨sg, sc', e1, _⟩ := own_some HRow.out (by omega)
      simp only [Value.slice.injEq] at e1
      obtain ⟨rfl, -, -⟩ := e1
      have hs1 := HS1.out
      have hMd := HMd.out
      have hsg := World.ownsRow.lt HRow.out sg rfl
      have c0 : wr.cell? ⟨sg, i, none⟩ = some (.slice wo ws.length wc) := by
        have h5 : w2.cell? ⟨sg, i, none⟩ = some (.slice wo ws.length wc) := by rw [World.ownsRow.cellAt HRow.out i (by omega)]; exact hv0
        simp only [World.cell?] at h5 ⊢
        rw [HF.out.block sg (by omega) (by omega)]
        exact h5
      have hca : CellsAt wr wo (wcs ws) := by
        rcases own_at hln.1 with h9 | ⟨g, cap, e2, hc⟩
        · exact .inl h9
        · simp only [Value.slice.injEq] at e2
          refine .inr ⟨g, 0, e2.1, fun j u hu => ?_⟩
          have h9 := hwo.2.2 _ e2.1
          have h10 : w1.heap.size + 1 ≤ g ∧ g < w2.heap.size := h9.2
          have h5 := hc j u hu
          simp only [World.cell?] at h5 ⊢
          rw [HF.out.block g (by omega) (by omega)]
          exact h5
      have HFw : Hid (∀ W', FrA M B w2 W' → NumVars W' ∧ NmAt W' ∧ KwAt W' ∧ ErrVar W') := fun W' hf => by
        have hfb : FrA (B + 1) B w W' := ⟨hf.os.trans HBW.out.os, hf.tape.trans HBW.out.tape, hf.output.trans HBW.out.output, Nat.le_trans HBW.out.size hf.size, fun k hk hne => (hf.block k (by omega) hne).trans (HBW.out.block k (by have := HBd.out; omega))⟩
        exact ⟨HV.out.fra hfb (by omega) hBg, HN.out.fra hfb (by omega) hBg, HK.out.fra hfb (by omega) hBg, HEv.out.fra hfb (by omega) hBg⟩
      obtain ⟨hvr, hnr, hkr, _⟩ := HFw.out wr HF.out
      have HRd : Hid (Calls Tryz.prog 25 #[.pointer (some ⟨B, 0, none⟩), .int .i64 ((i : Int) + 1), .slice wo ws.length wc] wr fun e w' => ReadPost wr M B (i + 1) (lineA a (i + 1) ws) e w') :=
        readA_any wr M B l0 i (i + 1) a Ps vl vn vm vj wo wc ws HA.out HLi.out.2 hca hwo.2.1 (fun ad e2 _ => by have h9 := (hwo.2.2 ad e2).2; have h10 : w1.heap.size + 1 ≤ ad.block ∧ ad.block < w2.heap.size := h9; exact ⟨by omega, by omega⟩) HSw.out.1 HSw.out.2 hvr hnr hkr hBg
      have HL1 : Hid (linesA ls (i + 1) = lineA a (i + 1) ws) := linesA_ok HLi.out.1 hws
      have hwl : ws.length ≤ 1000000 := HSw.out.1.2
      generalize ws.length = wl at *
      clear hwo hca hvr hnr hkr hln hv0 hsg hs1 hMd
      go_wp2_with fail
      refine HRd.out.mono ?_
      rintro e w3 (⟨v, ⟨E1, col, nz⟩, rfl, h1, h2, h3⟩ | ⟨l1, a', Ps', vl', vn', vm', vj', rfl, h1, h2, h3⟩)
      · have HL : Hid (linesA (splitN l) (splitN l).length = .error (E1, col, nz)) := by show _ = _; rw [← HLs.out, ← HNd.out]; exact linesA_up (i := i + 1) (HL1.out.trans h2) n (by omega)
        obtain ⟨b, ln, rfl, hhb, hcs⟩ : ∃ (b ln : Nat), v = .iface 78 (.pointer (some ⟨b, 0, none⟩)) ∧ w3.heap[b]? = some (.cells #[.int .i64 (ln : Int), .int .i64 (col : Int), .iface 38 (.int .i64 nz)] 82 (0, 0)) ∧ ((ln = 0 ∧ E1 = i + 1) ∨ (ln ≠ 0 ∧ E1 = ln)) := by
          rcases h1 with ⟨⟨b, e1, e2⟩, e3⟩ | ⟨e3, b, e1, e2⟩
          · exact ⟨b, 0, e1, e2, .inl ⟨rfl, e3⟩⟩
          · exact ⟨b, E1, e1, e2, .inr ⟨e3, rfl⟩⟩
        have hbl := (Array.getElem?_eq_some_iff.1 hhb).1
        have hM3 : M ≤ w3.heap.size := Nat.le_trans hMr h3.size
        have HF3 : Hid (FrA M B w2 w3) := HF.out.trans h3
        have hEv : ErrVar (w3.alloc (.cells #[.pointer none] 78)) := (HFw.out _ (HF3.out.trans (FrA.bel (bel_al w3 _) hM3))).2.2.2
        have hn4 : (w3.alloc (.cells #[.pointer none] 78)).heap[w3.heap.size]? = some (.cells #[.pointer none] 78 (0, 0)) := heap_alloc_new _ _ rfl
        have HAs := hidA (as_hitP ⟨b, 0, none⟩ ⟨w3.heap.size, 0, none⟩ (.pointer none) (w3.alloc (.cells #[.pointer none] 78)) hEv (by unfold World.cell?; rw [hn4]; rfl) (frozen_of_row _ _ 0 _ _ hn4))
        have HN4 := hidA hn4
        have HHb := hidA hhb
        have HCs := hidA hcs
        clear h1 h2 h3 hEv hn4 hhb hcs HRd HA HF HL1 c0
        go_wp2_with fail
        refine HAs.out.mono ?_
        rintro e w5 ⟨rfl, hw5⟩
        have hB5 : Go.RowKit.Below w3.heap.size w3 w5 := by rw [hw5]; exact (((((bel_al w3 _).alloc (by simp only [World.size_alloc]; omega) _).alloc (by simp only [World.size_alloc]; omega) _).alloc (by simp only [World.size_alloc]; omega) _).alloc (by simp only [World.size_alloc]; omega) _).trans (below_setC _ _ (Nat.le_refl _))
        have hh5 := (hB5.block b hbl).trans HHb.out
        have ht5 : w5.heap[w3.heap.size]? = some (.cells #[.pointer (some ⟨b, 0, none⟩)] 78 (0, 0)) := by
          rw [hw5]
          exact heap_setCell_same _ w3.heap.size 0 _ _ _ ((heap_alloc_old _ _ (by simp only [World.size_alloc]; omega)).trans ((heap_alloc_old _ _ (by simp only [World.size_alloc]; omega)).trans ((heap_alloc_old _ _ (by simp only [World.size_alloc]; omega)).trans ((heap_alloc_old _ _ (by simp only [World.size_alloc]; omega)).trans HN4.out))))
        have HF5 : Hid (FrA M B w2 w5) := HF3.out.trans (FrA.bel hB5 hM3)
        have hM5 : M ≤ w5.heap.size := Nat.le_trans hM3 hB5.size
        have y0 : w5.cell? ⟨w3.heap.size, 0, none⟩ = some (.pointer (some ⟨b, 0, none⟩)) := by simp [World.cell?, ht5]
        have y1 : w5.cell? ⟨b, 0, none⟩ = some (.int .i64 (ln : Int)) := by simp [World.cell?, hh5]
        have y2 : w5.cell? ⟨b, 1, none⟩ = some (.int .i64 (col : Int)) := by simp [World.cell?, hh5]
        have y3 : w5.cell? ⟨b, 2, none⟩ = some (.iface 38 (.int .i64 nz)) := by simp [World.cell?, hh5]
        have HHh := hidA hh5
        clear hw5 hB5 hh5 ht5 HAs HN4 HHb hbl hM3
        generalize w3.heap.size = tb at *
        rcases HCs.out with ⟨rfl, rfl⟩ | ⟨hne, rfl⟩
        · rw [show ((0 : Nat) : Int) = 0 from rfl] at y1
          have HS5 : Hid (∀ W', Go.RowKit.Below w5.heap.size w5 W' → W'.cell? ⟨tb, 0, none⟩ = some (.pointer (some ⟨b, 0, none⟩)) ∧ W'.cell? ⟨b, 1, none⟩ = some (.int .i64 (col : Int)) ∧ W'.cell? ⟨b, 2, none⟩ = some (.iface 38 (.int .i64 nz))) := fun W' hb => ⟨(hb.cell (p := ⟨tb, 0, none⟩) (cell_lt y0)).trans y0, (hb.cell (p := ⟨b, 1, none⟩) (cell_lt y2)).trans y2, (hb.cell (p := ⟨b, 2, none⟩) (cell_lt y3)).trans y3⟩
          have HWr : Hid (∀ W', Go.RowKit.Below w5.heap.size w5 W' → Calls Tryz.prog 27 #[.agg #[.int .i64 ((i : Int) + 1), .int .i64 (col : Int)], .iface 38 (.int .i64 nz)] W' fun e w' => ∃ v, e = .returned v ∧ Hid ((∃ p, v = .iface 78 p) ∧ AsmPost w l (.returned (.tuple #[.slice none 0 0, v])) w') ∧ (w'.cell? ⟨tb, 0, none⟩ = some (.pointer (some ⟨b, 0, none⟩)) ∧ w'.cell? ⟨b, 1, none⟩ = some (.int .i64 (col : Int)) ∧ w'.cell? ⟨b, 2, none⟩ = some (.iface 38 (.int .i64 nz)))) := fun W' hb =>
            (wrongAt_any W' (i + 1) col nz).mono (fun e w' ⟨v, h1, h2, h3⟩ => by
              have hb' := hb.trans (h3.mono hb.size)
              exact ⟨v, h1, ⟨err_iface h2, .inl ⟨v, _, rfl, HL.out, h2, fra_below HBW.out (HF5.out.trans (FrA.bel hb' hM5)) HBd.out hBM⟩⟩, HS5.out w' hb'⟩)
          have hbd : Go.RowKit.Below w5.heap.size w5 w5.drew := bel_drewN w5 1
          have hwrap : IntKind.i64.wrap ((i : Int) + 1) = (i : Int) + 1 := by rw [IntKind.wrap_i64]; omega
          go_upto_region 10 with fail
          -- REGION10
          refine wp_region_held_drew (S := fun w' => w'.cell? ⟨tb, 0, none⟩ = some (.pointer (some ⟨b, 0, none⟩)) ∧ w'.cell? ⟨b, 1, none⟩ = some (.int .i64 (col : Int)) ∧ w'.cell? ⟨b, 2, none⟩ = some (.iface 38 (.int .i64 nz))) (by kernel_rfl) ?_ (fun hHeld => ?_)
          · exact HS5.out _ hbd
          refine wpAnyH_take (i := 0) (v := .int .i64 (i : Int)) rfl (by kernel_rfl) (by kernel_rfl) (by kernel_rfl) (fun _ _ _ h => h) (Or.inl ⟨by rfl, by intro w hSw; (try dsimp only at hSw); go_simp⟩) (by assumption) ?_
          refine wpAnyH_take (i := 1) (v := .int .i64 ((i : Int) + 1)) rfl (by kernel_rfl) (by kernel_rfl) (by kernel_rfl) (fun _ _ _ h => h) (Or.inl ⟨by rfl, by intro w hSw; (try dsimp only at hSw); go_simp⟩) (by assumption) ?_
          refine wpAnyH_take (i := 2) (v := .pointer (some ⟨b, 0, none⟩)) rfl (by kernel_rfl) (by kernel_rfl) (by kernel_rfl) (fun _ _ _ h => h) (Or.inl ⟨by rfl, by intro w hSw; (try dsimp only at hSw); go_simp⟩) (by assumption) ?_
          refine wpAnyH_take (i := 3) (v := .pointer (some ⟨b, 0, none⟩)) rfl (by kernel_rfl) (by kernel_rfl) (by kernel_rfl) (fun _ _ _ h => h) (Or.inl ⟨by rfl, by intro w hSw; (try dsimp only at hSw); go_simp⟩) (by assumption) ?_
          refine wpAnyH_take (i := 4) (v := .pointer (some ⟨b, 1, none⟩)) rfl (by kernel_rfl) (by kernel_rfl) (by kernel_rfl) (fun _ _ _ h => h) (Or.inl ⟨by rfl, by intro w hSw; (try dsimp only at hSw); go_simp⟩) (by assumption) ?_
          refine wpAnyH_take (i := 5) (v := .int .i64 (col : Int)) rfl (by kernel_rfl) (by kernel_rfl) (by kernel_rfl) (fun _ _ _ h => h) (Or.inl ⟨by rfl, by intro w hSw; (try dsimp only at hSw); go_simp⟩) (by assumption) ?_
          refine wpAnyH_take (i := 6) (v := .agg #[.int .i64 ((i : Int) + 1), .int .i64 (col : Int)]) rfl (by kernel_rfl) (by kernel_rfl) (by kernel_rfl) (fun _ _ _ h => h) (Or.inl ⟨by rfl, by intro w hSw; (try dsimp only at hSw); go_simp⟩) (by assumption) ?_
          refine wpAnyH_take (i := 7) (v := .pointer (some ⟨b, 0, none⟩)) rfl (by kernel_rfl) (by kernel_rfl) (by kernel_rfl) (fun _ _ _ h => h) (Or.inl ⟨by rfl, by intro w hSw; (try dsimp only at hSw); go_simp⟩) (by assumption) ?_
          refine wpAnyH_take (i := 8) (v := .pointer (some ⟨b, 0, none⟩)) rfl (by kernel_rfl) (by kernel_rfl) (by kernel_rfl) (fun _ _ _ h => h) (Or.inl ⟨by rfl, by intro w hSw; (try dsimp only at hSw); go_simp⟩) (by assumption) ?_
          refine wpAnyH_take (i := 9) (v := .pointer (some ⟨b, 2, none⟩)) rfl (by kernel_rfl) (by kernel_rfl) (by kernel_rfl) (fun _ _ _ h => h) (Or.inl ⟨by rfl, by intro w hSw; (try dsimp only at hSw); go_simp⟩) (by assumption) ?_
          refine wpAnyH_take (i := 10) (v := .iface 38 (.int .i64 nz)) rfl (by kernel_rfl) (by kernel_rfl) (by kernel_rfl) (fun _ _ _ h => h) (Or.inl ⟨by rfl, by intro w hSw; (try dsimp only at hSw); go_simp⟩) (by assumption) ?_
          refine wpAnyH_ready (rs := [11]) (by kernel_rfl) (by simp) ?_
          refine AllReadyH.cons rfl (fun K hK => ?_) ?_
          · go_simp
            refine (HWr.out _ hbd).mono ?_
            rintro e wb ⟨v9, rfl, HE, hS9⟩
            go_wp2_with fail
            refine hK.out _ _ (by exact hS9) (fun hHeld => ?_)
            clear hK K
            refine wpAnyH_ready (rs := [12]) (by kernel_rfl) (by simp) ?_
            refine AllReadyH.cons rfl (fun K hK => ?_) ?_
            · go_simp
              refine hK.out _ _ (by exact hS9) (fun hHeld => ?_)
              clear hK K
              refine wpAnyH_done (by kernel_rfl) ?_ _
              obtain ⟨p9, rfl⟩ := HE.out.1
              go_wp2_with fail
              go_ret2
              exact HE.out.2
            exact AllReadyH.nil
          exact AllReadyH.nil
          -- END10
        · have hne' : ((E1 : Int) == 0) = false := by simp; omega
          have HE : Hid (AsmPost w l (.returned (.tuple #[.slice none 0 0, .iface 78 (.pointer (some ⟨b, 0, none⟩))])) w5) := .inl ⟨_, _, rfl, HL.out, ⟨b, rfl, HHh.out⟩, fra_below HBW.out HF5.out HBd.out hBM⟩
          clear hne HCs
          go_wp2_with fail
          go_ret2
          exact HE.out
      · have HLi2 : Hid (linesA ls (i + 1) = .ok a' ∧ AsSz a' (i + 1)) := ⟨HL1.out.trans h1, line_sz HLi.out.2 (by omega) (by omega) HSw.out.2 h1⟩
        have hb4 := bel_al w3 (.cells #[.pointer none] 78)
        have HA4 := hidA (h2.below hb4)
        have HF4 : Hid (FrA M B w2 (w3.alloc (.cells #[.pointer none] 78))) := (HF.out.trans h3).trans (FrA.bel hb4 h2.bm.2)
        clear h1 h2 h3 hb4 HRd HA HF HL1 c0
        have HAs := hidA (as_nil (.iface 80 (.pointer (some ⟨w3.heap.size, 0, none⟩))) (w3.alloc (.cells #[.pointer none] 78)))
        go_upto_region 9 with fail
        generalize w3.alloc (.cells #[.pointer none] 78) = w4 at *
        go_wp2_with fail
        refine HAs.out.mono ?_
        rintro e w5 ⟨rfl, hw5⟩
        have hw5' := hw5.symm
        subst hw5'
        clear hw5 HAs
        go_wp2_with fail
        go_roundw
        case rel => exact ⟨i + 1, a', Ps', l1, vl', vn', vm', vj', by omega, by go_num, HLi2, HA4, HF4⟩
        case measure => simp [intOf]; omega
    · obtain rfl : i = n := by omega
      have HLb := hidA (library_any wr M B l0 i a Ps vl vn vm vj HA.out HLi.out.2)
      go_wp2_with fail
      refine HLb.out.mono ?_
      intro e w3 hp
      obtain ⟨hf, x, y, rfl⟩ := hp.fr hMr
      have HE : Hid (AsmPost w l (.returned (.tuple #[x, y])) w3) := .inr ⟨M, B, l0, a, Ps, vl, vn, vm, vj, wr, by rw [← HLs.out, ← HNd.out]; exact HLi.out.1, HA.out, HBd.out.symm, fra_below HBW.out (HF.out.trans hf) HBd.out hBM, hp⟩
      clear hp hf HLb
      go_wp2_with fail
      go_ret2
      exact HE.out
end Go.Proofs.YtkmafpfldnapjaaGreatDoor
/-
  THE WALKS OF instruction, firstLine.
-/
namespace Go.Proofs.YtkmafpfldnapjaaGreatDoor
open Go.RowKit Go.Sort Go.Shelf

theorem spell_S (op : Int) : spellS op = S (sp op) := (S_of _).symm
set_option maxHeartbeats 1000000 in
theorem instruction_any (w : World) (op A : Int) (hk : In64 A) (hn : NmAt w) (hv : DigVars w) : Calls Tryz.prog 65 #[.agg #[.int .i64 op, .int .i64 A]] w fun e w' => e = .returned (.string (S (instrL (op, A)))) ∧ Grew w w' := by
  have HG1 : Hid (Grew w (w.alloc (.cells #[.int .i64 op, .int .i64 A] 91))) := (Grew.refl w).alloc _
  have HB : Hid (∀ W, Grew (w.alloc (.cells #[.int .i64 op, .int .i64 A] 91)) W → W.cell? ⟨w.heap.size, 0, none⟩ = some (.int .i64 op) ∧ W.cell? ⟨w.heap.size, 1, none⟩ = some (.int .i64 A)) := fun W hW => by
    have hb := Box.new (w := w) (b := w.heap.size) (x := op) (y := A) rfl
    exact ⟨hW.cell hb.1, hW.cell hb.2⟩
  have HN : Hid (NmAt w) := hn
  have HV : Hid (DigVars w) := hv
  have h1 := sp_len op
  have h2 := dg_len hk
  have hs1 : ¬ ((S (sp op)).size + (ByteArray.mk #[32]).size > 9223372036854775807) := S_fit (sp op) [32] (by simp; omega)
  have e1 : S (sp op) ++ ByteArray.mk #[32] = S (sp op ++ [32]) := S_app (sp op) [32]
  have hs2 : ¬ ((S (sp op ++ [32])).size + (S (labelL A)).size > 9223372036854775807) := S_fit _ _ (by simp [labelL]; omega)
  have hs3 : ¬ ((S (sp op ++ [32])).size + (S (dg A)).size > 9223372036854775807) := S_fit _ _ (by simp; omega)
  clear hn hv h1 h2
  go_enter Tryz.func65, Tryz.ntmps65
  obtain ⟨x0, x1⟩ := HB.out _ (Grew.refl _)
  go_wp2_with fail
  generalize w.alloc (.cells #[.int .i64 op, .int .i64 A] 91) = w1 at *
  generalize w.heap.size = B at *
  refine (spell_any w1 op (HN.out.kept HG1.out.below)).mono ?_
  rintro e w2 ⟨rfl, rfl⟩
  rw [spell_S]
  go_wp2_with fail
  refine (isJump_any w2 op).mono ?_
  rintro e w3 ⟨rfl, rfl⟩
  cases hj : jumpB op with
  | true =>
    have HE : Hid (instrL (op, A) = sp op ++ 32 :: labelL A) := by show instrL (op, A) = _; unfold instrL; rw [if_pos hj]
    go_wp2_with fail
    refine (labelOf_any w3 A hk (HV.out.kept HG1.out.below)).mono ?_
    rintro e w4 ⟨rfl, hg4⟩
    have HG4 : Hid (Grew w w4) := HG1.out.trans hg4
    clear hg4
    go_wp2
    go_ret
    exact ⟨by rw [HE.out, S_app, List.append_assoc]; rfl, HG4.out⟩
  | false =>
    go_wp2_with fail
    refine (wants_any w3 op).mono ?_
    rintro e w4 ⟨rfl, rfl⟩
    cases hw : wantsB op with
    | true =>
      have HE : Hid (instrL (op, A) = sp op ++ 32 :: dg A) := by show instrL (op, A) = _; unfold instrL; rw [if_neg (by simp [hj]), if_pos hw]
      go_wp2_with fail
      refine (digits_any w4 A hk (HV.out.kept HG1.out.below)).mono ?_
      rintro e w5 ⟨rfl, hg5⟩
      have HG5 : Hid (Grew w w5) := HG1.out.trans hg5
      clear hg5
      go_wp2
      go_ret
      exact ⟨by rw [HE.out, S_app, List.append_assoc]; rfl, HG5.out⟩
    | false =>
      have HE : Hid (instrL (op, A) = sp op) := by show instrL (op, A) = _; unfold instrL; rw [if_neg (by simp [hj]), if_neg (by simp [hw])]
      go_wp2
      go_ret
      exact ⟨by rw [HE.out]; rfl, HG1.out⟩
/-- the four words -/
def nwL : Nat → List UInt8
  | 0 => [97, 114, 103, 115]
  | 1 => [114, 101, 97, 100, 115]
  | 2 => [119, 114, 105, 116, 101, 115]
  | _ => [108, 111, 99, 97, 108, 115]
theorem nwL_len (i : Nat) : (nwL i).length ≤ 6 := by unfold nwL; split <;> simp
def numP (p : Nums) : Nat → Int
  | 0 => p.args
  | 1 => p.reads
  | 2 => p.writes
  | _ => p.locals
def NwAt (W : World) : Prop := ∀ i, i < 4 → W.cell? ⟨1, i, none⟩ = some (.string (S (nwL i)))
theorem NwAt.kept {W W' : World} (h : NwAt W) (hb : Below W.heap.size W W') : NwAt W' := fun i hi => by
  rw [hb.cell (p := ⟨1, i, none⟩) (cell_lt (h i hi))]; exact h i hi
/-- the first line, up to the i-th number -/
def flL (nm : List UInt8) (p : Nums) : Nat → List UInt8
  | 0 => [112, 114, 111, 99, 32] ++ nm
  | i + 1 => flL nm p i ++ (32 :: nwL i ++ [32] ++ dg (numP p i))
theorem numP_in {p : Nums} (h : NIn p) (i : Nat) : In64 (numP p i) := by
  unfold numP
  split
  · exact h.1
  · exact h.2.1
  · exact h.2.2.1
  · exact h.2.2.2
theorem flL_len {nm : List UInt8} {p : Nums} (h : NIn p) (hn : nm.length ≤ 31) : ∀ i, (flL nm p i).length ≤ 36 + 28 * i
  | 0 => by simp [flL]; omega
  | i + 1 => by
    have h1 := flL_len h hn i
    have h2 := nwL_len i
    have h3 := dg_len (numP_in h i)
    simp [flL]; omega
set_option maxRecDepth 100000 in
theorem idx4 (x0 x1 x2 x3 : Int) (i : Nat) (hi : i < 4) : ∀ w, (Go.Instr.index 184 (.agg #[.int .i64 x0, .int .i64 x1, .int .i64 x2, .int .i64 x3]) (.int .i64 (i : Int))).run Tryz.prog w = .ok (.int .i64 (numP ⟨x0, x1, x2, x3⟩ i)) w := by
  obtain rfl | rfl | rfl | rfl : i = 0 ∨ i = 1 ∨ i = 2 ∨ i = 3 := by omega
  all_goals exact fun _ => by kernel_rfl

set_option maxRecDepth 100000 in
set_option maxHeartbeats 2000000 in
theorem firstLine_any (w : World) (nm : List UInt8) (p : Nums) (ao : Option Addr) (n cap : Nat) (hp : NIn p) (hl : nm.length ≤ 31) (hw : NwAt w) (hv : DigVars w) :
    Calls Tryz.prog 63 #[.agg #[.string (S nm), .int .i64 p.args, .int .i64 p.reads, .int .i64 p.writes, .int .i64 p.locals, .slice ao n cap]] w fun e w' => e = .returned (.string (S (flL nm p 4))) ∧ Grew w w' := by
  have HP : Hid (NIn p) := hp
  have HW : Hid (NwAt w) := hw
  have HV : Hid (DigVars w) := hv
  clear hw hv hp
  obtain ⟨y1, y2, y3, y4⟩ := p
  have mx := mixed
  have hs0 : ¬ ((ByteArray.mk #[112, 114, 111, 99, 32]).size + (S nm).size > 9223372036854775807) := S_fit [112, 114, 111, 99, 32] nm (by simp; omega)
  have e0 : ByteArray.mk #[112, 114, 111, 99, 32] ++ S nm = S (flL nm ⟨y1, y2, y3, y4⟩ 0) := S_app _ _
  go_enter Tryz.func63, Tryz.ntmps63
  have HG1 : Hid (Grew w (w.alloc (.cells #[.string (S nm), .int .i64 y1, .int .i64 y2, .int .i64 y3, .int .i64 y4, .slice ao n cap] 87))) := (Grew.refl w).alloc _
  go_wp2_with fail
  generalize w.alloc (.cells #[.string (S nm), .int .i64 y1, .int .i64 y2, .int .i64 y3, .int .i64 y4, .slice ao n cap] 87) = w1 at *
  go_loopw [3, 22] (fun x y wr => ∃ i : Nat, i ≤ 4 ∧ x = .string (S (flL nm ⟨y1, y2, y3, y4⟩ i)) ∧ y = .int .i64 (i : Int) ∧ Hid (Grew w wr)) (fun _ y _ => 4 - (intOf y).toNat)
  case atStart => exact ⟨0, by omega, rfl, rfl, HG1⟩
  case round =>
    clear HG1
    obtain ⟨i, hi, rfl, rfl, HG⟩ := hrel
    by_cases h4 : i < 4
    · have h4' : (i : Int) < 4 := by omega
      have hix := idx4 y1 y2 y3 y4 i h4
      have HIn := numP_in HP.out i
      have hfl := flL_len HP.out hl i
      have hnw := nwL_len i
      have hdg := dg_len HIn
      have gc : ∀ m os, (grow (wr.drewN m) os).cell? ⟨1, i, none⟩ = some (.string (S (nwL i))) := fun m os => Grew.cell (HG.out.trans ⟨m, os, rfl⟩) (HW.out i h4)
      have HC : Hid (∀ m os, Calls Tryz.prog 103 #[.int .i64 (numP ⟨y1, y2, y3, y4⟩ i)] (grow (wr.drewN m) os) fun e w' => e = .returned (.string (S (dg (numP ⟨y1, y2, y3, y4⟩ i)))) ∧ ∃ q os', w' = grow ((grow (wr.drewN m) os).drewN q) os') := fun m os =>
        digits_any _ _ HIn (HV.out.kept (HG.out.trans ⟨m, os, rfl⟩).below)
      have HS : Hid (flL nm ⟨y1, y2, y3, y4⟩ (i + 1) = flL nm ⟨y1, y2, y3, y4⟩ i ++ (32 :: nwL i ++ [32] ++ dg (numP ⟨y1, y2, y3, y4⟩ i))) := rfl
      generalize numP ⟨y1, y2, y3, y4⟩ i = x at *
      generalize flL nm ⟨y1, y2, y3, y4⟩ i = T at *
      generalize nwL i = u at *
      generalize dg x = d at *
      obtain ⟨u1, h1⟩ : ∃ u1, u1 = 32 :: u := ⟨_, rfl⟩
      obtain ⟨u2, h2⟩ : ∃ u2, u2 = u1 ++ [32] := ⟨_, rfl⟩
      obtain ⟨u3, h3⟩ : ∃ u3, u3 = u2 ++ d := ⟨_, rfl⟩
      obtain ⟨u4, h4e⟩ : ∃ u4, u4 = T ++ u3 := ⟨_, rfl⟩
      have l1 : u1.length ≤ 7 := by rw [h1]; simp; omega
      have l2 : u2.length ≤ 8 := by rw [h2]; simp; omega
      have l3 : u3.length ≤ 28 := by rw [h3]; simp; omega
      have s1 : ¬ ((ByteArray.mk #[32]).size + (S u).size > 9223372036854775807) := S_fit [32] u (by simp; omega)
      have e1 : ByteArray.mk #[32] ++ S u = S u1 := by rw [h1]; exact S_app [32] u
      have s2 : ¬ ((S u1).size + (ByteArray.mk #[32]).size > 9223372036854775807) := S_fit u1 [32] (by simp; omega)
      have e2 : S u1 ++ ByteArray.mk #[32] = S u2 := by rw [h2]; exact S_app u1 [32]
      have s3 : ¬ ((S u2).size + (S d).size > 9223372036854775807) := S_fit u2 d (by omega)
      have e3 : S u2 ++ S d = S u3 := by rw [h3]; exact S_app u2 d
      have s4 : ¬ ((S T).size + (S u3).size > 9223372036854775807) := S_fit T u3 (by omega)
      have e4 : S T ++ S u3 = S u4 := by rw [h4e]; exact S_app T u3
      have HU : Hid (flL nm ⟨y1, y2, y3, y4⟩ (i + 1) = u4) := by rw [HS.out, h4e, h3, h2, h1]; rfl
      clear h1 h2 h3 h4e l1 l2 l3 HS
      clear hfl hnw hdg HIn
      go_wp2_with fail
      refine wp_region_quiet_grown mx (by kernel_rfl) ?_
      repeat (go_big_quiet_step ((go_at_call 103; exact Calls.grown_of (HC.out _ _))))
      refine wpQuiet_nil ?_
      intro _ hw'
      obtain ⟨⟨nq, osq⟩, hw''⟩ := hw'
      subst hw''
      have HG2 : Hid (Grew w (grow (wr.drewN nq) osq)) := HG.out.trans ⟨nq, osq, rfl⟩
      generalize grow (wr.drewN nq) osq = W2 at *
      go_wp2_with fail
      go_roundw
      case rel => exact ⟨i + 1, by omega, by rw [HU.out], by go_num, HG2⟩
      case measure => simp [intOf]; omega
    · obtain rfl : i = 4 := by omega
      rw [show ((4 : Nat) : Int) = 4 from rfl]
      go_wp2
      go_ret
      exact ⟨rfl, HG.out⟩
end Go.Proofs.YtkmafpfldnapjaaGreatDoor
/-
  THE WALK OF codec.fresh.
-/
namespace Go.Proofs.YtkmafpfldnapjaaGreatDoor
open Go.RowKit

set_option maxHeartbeats 400000 in
theorem fresh_any (w : World) (ao : Option Addr) (cap n : Nat) (zs : List Nat) (hn : n = zs.length) (h : BytesAt w ao zs) (hm : n ≤ 281474976710656) :
    Calls Tryz.prog 73 #[.slice ao n cap] w fun e w' =>
      e = .returned (.slice (some ⟨w.heap.size, 0, none⟩) n n) ∧ RowAt w' w.heap.size zs ∧ Below w.heap.size w w' ∧ w'.heap.size = w.heap.size + 1 := by
  have hmk := make_bytes n (n : Int) rfl hm
  have hcp := copy_made w ao n n cap 3 zs hn h (by omega) Tryz.underlying46 size8
  rw [show n - zs.length = 0 by omega, List.replicate_zero, List.append_nil] at hcp
  have HR : Hid (RowAt (w.alloc (.cells (cellsU8 zs) 5)) w.heap.size zs) := rowAt_alloc w zs
  have HB : Hid (Below w.heap.size w (w.alloc (.cells (cellsU8 zs) 5))) := (Below.refl _ _).alloc (Nat.le_refl _) _
  clear h hn
  go_enter Tryz.func73, Tryz.ntmps73
  go_wp2
  go_ret
  exact ⟨rfl, HR.out, HB.out, by simp⟩

end Go.Proofs.YtkmafpfldnapjaaGreatDoor
