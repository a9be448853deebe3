import Derived.Test.YtiiplikmoodfnaaGreatDoorKARline
import Derived.Deep.RegionHeld3
import Derived.Deep.RegionLaw
import Derived.Test.YtiiplikmoodfnaaGreatDoorKLRefD
import Derived.Laws.CopyRow
import Derived.Laws.Cover3
import Derived.Test.YtiiplikmoodfnaaGreatDoorKLProc
/-
  THE WALK OF THE DOCUMENT's Assemble.
-/
namespace Go.Proofs.YtiiplikmoodfnaaGreatDoor
open Go.RowKit Go.Sort

set_option maxRecDepth 100000 in
set_option maxHeartbeats 4000000 in
theorem refAssemble_any (w : World) (l : List UInt8) (hl : l.length ≤ 65536) : Calls Tryz.prog 4 #[.string (S l)] w fun e w' => RAsmPost w l e w' := by
  obtain ⟨w1, hw1⟩ : ∃ w1, w1 = w.alloc (.cells #[.int .i64 0, .int .i64 0, .int .i64 0] 24) := ⟨_, rfl⟩
  obtain ⟨f, hf⟩ : ∃ f, f = w.heap.size := ⟨_, rfl⟩
  have hb1 : Go.RowKit.Below w.heap.size w w1 := by rw [hw1]; exact bel_al _ _
  have hF : FB w1 f (.int .i64 0) (.int .i64 0) (.int .i64 0) := by rw [hw1, hf]; exact heap_alloc_new _ _ rfl
  have HF := hidA hF
  have HFs := hidA hf
  have HB1 := hidA hb1
  have HCut := hidA (cut_any w1 l hl)
  have HOk := hidA (cut_ok l hl)
  have HFew := hidA (cut_few l)
  have hsz : (S l).size = l.length := S_size l
  obtain ⟨ls, hls⟩ : ∃ ls, ls = cutN l := ⟨_, rfl⟩
  unfold CutPost at HCut
  rw [← hls] at HCut HOk HFew
  have HLs := hidA hls
  obtain ⟨ll, hll⟩ : ∃ ll, ll = l.length := ⟨_, rfl⟩
  rw [← hll] at hsz hl HFew
  obtain ⟨sl, hsl⟩ : ∃ sl, sl = S l := ⟨_, rfl⟩
  rw [← hsl] at hsz HCut ⊢
  clear hb1 hF hls hll hsl
  go_enter Tryz.func4, Tryz.ntmps4
  go_upto_region 1 with fail
  rw [← hw1, ← hf]
  clear hw1 hf
  go_wp2_with fail
  refine HCut.out.mono ?_
  rintro e w2 ⟨v, rfl, hct⟩
  have HCT := hidA hct
  obtain ⟨vals, hcv⟩ := hct.ex
  obtain ⟨lo, lc, rfl, _, _, hlo⟩ := own_slice hcv.1
  obtain ⟨ln, hln⟩ : ∃ ln, ln = ls.length := ⟨_, rfl⟩
  have hln2 : ln ≤ 65537 := by have := HFew.out; omega
  have HLn := hidA hln
  rw [← hln]
  obtain ⟨w3, hw3⟩ : ∃ w3, w3 = w2.alloc (.cells (rcells rv0) 46) := ⟨_, rfl⟩
  obtain ⟨B, hB⟩ : ∃ B, B = w2.heap.size := ⟨_, rfl⟩
  obtain ⟨M, hM⟩ : ∃ M, M = B + 1 := ⟨_, rfl⟩
  have hb3 : Go.RowKit.Below w2.heap.size w2 w3 := by rw [hw3]; exact bel_al _ _
  have HCV := hidA (hcv.kept hb3)
  have HX3 : Hid (RX w3 B rv0) := by rw [Hid, hw3, hB]; exact heap_alloc_new _ _ rfl
  have HB3 : Hid (Go.RowKit.Below w.heap.size w w3 ∧ FB w3 f (.int .i64 0) (.int .i64 0) (.int .i64 0) ∧ f < B) := by
    have q1 := HCT.out.bel
    have q2 := q1.trans (hb3.mono q1.size)
    have hfl := (Array.getElem?_eq_some_iff.1 HF.out).1
    exact ⟨HB1.out.trans (q2.mono HB1.out.size), (q2.block f hfl).trans HF.out, by rw [hB]; exact Nat.lt_of_lt_of_le hfl q1.size⟩
  have HM3 : Hid (M = w3.heap.size ∧ B < M) := ⟨by rw [hM, hB, hw3]; simp, by omega⟩
  have HBw : Hid (w1.heap.size ≤ B) := by rw [Hid, hB]; exact HCT.out.bel.size
  have HRow : Hid (∀ (i : Nat) (u : Value) (ws : List Wd), vals[i]? = some u → ls[i]? = some ws → ∀ g, u.ownBlock = some g → g < B) := fun i u ws h1 h2 g hg => by rw [hB]; exact (World.ownsRow.lt (hcv.2.2.2 i u ws h1 h2) g hg).2
  have HLo : Hid (∀ a, lo = some a → a = ⟨a.block, 0, none⟩ ∧ a.block < B) := fun a ha => ⟨(hlo a ha).1, by rw [hB]; exact (hlo a ha).2.2⟩
  clear hct hcv hlo hb3 hM HCT HCut hln
  go_upto_region 5 with fail
  rw [show (w2.alloc (.cells #[.slice none 0 0, .slice none 0 0, .bool false, .int .i64 0, .int .i64 0, .int .i64 0, .int .i64 0, .int .i64 0, .int .i64 0, .int .i64 0, .slice none 0 0, .string ⟨#[]⟩, .int .i64 0, .int .i64 0, .int .i64 0, .slice none 0 0, .slice none 0 0, .int .i64 0] 46) : World) = w3 from hw3.symm]
  rw [← hB]
  clear hw3 hB
  have HD0 : Hid (DS w3 M B start0 [] [] [] rv0) := DS.start HX3.out HM3.out.2 (Nat.le_of_eq HM3.out.1)
  have HFr0 : Hid (FrA M B w3 w3) := FrA.refl _ _ _
  go_wp2_with fail
  go_loopw [6, 7] (fun x _ wr => ∃ (i : Nat) (a : As) (Qs : List Pr) (nl : List (Nat × Nat)) (Lo : List K) (r : Rv), i ≤ ln ∧ x = .int .i64 (i : Int) ∧ Hid (linesA ls i = .ok a ∧ AsSz a i) ∧ Hid (DS wr M B a Qs nl Lo r) ∧ Hid (FrA M B w3 wr)) (fun x _ _ => ln - (intOf x).toNat)
  case atStart => exact ⟨0, start0, [], [], [], rv0, Nat.zero_le _, rfl, ⟨rfl, start_sz⟩, HD0, HFr0⟩
  case round =>
    clear HD0 HFr0
    obtain ⟨i, a, Qs, nl, Lo, r, hi, rfl, HL, HD, HFr⟩ := hrel
    by_cases hlt : i < ln
    · have hil : i < ls.length := by have := HLn.out; omega
      have hgd : ls.getD i [] = ls[i] := by rw [List.getD_eq_getElem?_getD, List.getElem?_eq_getElem hil]; rfl
      have hvl : i < vals.length := by rw [HCV.out.2.1]; exact hil
      obtain ⟨lg, hlg⟩ : ∃ lg, lo = some ⟨lg, 0, none⟩ := by
        obtain ⟨g', c', e1, _⟩ := own_some HCV.out.1 (by omega)
        cases e1
        exact ⟨g', rfl⟩
      subst hlg
      have hlgB : lg < B := (HLo.out _ rfl).2
      have hrow := HCV.out.2.2.2 i vals[i] ls[i] (List.getElem?_eq_getElem hvl) (List.getElem?_eq_getElem hil)
      have hrb := HRow.out i vals[i] ls[i] (List.getElem?_eq_getElem hvl) (List.getElem?_eq_getElem hil)
      have HStep : Hid (linesA ls (i + 1) = lineA a (i + 1) ls[i]) := by rw [Hid, linesA, HL.out.1, hgd]
      have HOk1 := hidA (HOk.out ls[i] (List.getElem_mem hil))
      have h3c : w3.cell? ⟨lg, i, none⟩ = some vals[i] := by
        have h9 := HCV.out.1
        rw [World.ownsRow.cellAt h9 i (by omega)]
        exact List.getElem?_eq_getElem hvl
      have hM2 := HM3.out.2
      obtain ⟨wl, hwl⟩ : ∃ wl, wl = wr.setCell ⟨B, 17, none⟩ (.int .i64 ((i + 1 : Nat) : Int)) := ⟨_, rfl⟩
      have HDl : Hid (DS wl M B a Qs nl Lo { r with line := i + 1 }) := by rw [Hid, hwl]; exact HD.out.lined (i + 1)
      have HFl : Hid (FrA M B w3 wl) := by rw [Hid, hwl]; exact HFr.out.trans (FrA.set _ _ (.inl rfl))
      have x17 : wr.cell? ⟨B, 17, none⟩ = some (.int .i64 (r.line : Int)) := HD.out.rx.cell 17
      have f17 : wr.frozen? ⟨B, 17, none⟩ = false := frozen_of_row _ _ 17 _ _ HD.out.rx
      have hcl : wl.cell? ⟨lg, i, none⟩ = some vals[i] := by
        have h9 := h3c
        simp only [World.cell?] at h9 ⊢
        rw [HFl.out.block lg (by omega) (by omega)]
        exact h9
      have hrowl : wl.ownsRow w1.heap.size 79 2 vals[i] ls[i].length (wcs ls[i]) := ownsRow_same hrow (fun g hg => HFl.out.block g (by have := hrb g hg; omega) (by have := hrb g hg; omega))
      have hwp : wr.setCell ⟨B, 17, none⟩ (.int .i64 ((i : Int) + 1)) = wl := by rw [hwl]; push_cast; rfl
      generalize vals[i] = u at *
      generalize ls[i] = ws at *
      obtain ⟨uo, uc, rfl, hun, _, hua⟩ := own_slice hrowl
      clear hgd hvl hrow h3c hwl hil
      go_upto_region 9 with fail
      try rw [hwp]
      clear x17 f17 hwp
      cases ws with
      | nil =>
        have HN : Hid (linesA ls (i + 1) = .ok a ∧ AsSz a (i + 1)) := by
          refine ⟨by rw [HStep.out]; simp [lineA], HL.out.2.up (by omega) ?_⟩
          omega
        clear hrowl hua hun
        go_wp2_with fail
        go_roundw
        case rel => exact ⟨i + 1, a, Qs, nl, Lo, _, by omega, by go_num, HN, HDl, HFl⟩
        case measure => simp [intOf]; omega
      | cons x rest =>
        obtain ⟨g, rfl⟩ : ∃ g, uo = some ⟨g, 0, none⟩ := by
          obtain ⟨g', c', e1, _⟩ := own_some hrowl (by simp)
          cases e1
          exact ⟨g', rfl⟩
        have hgB : g < B := hrb g rfl
        obtain ⟨wn, hwn⟩ : ∃ wn, wn = (x :: rest).length := ⟨_, rfl⟩
        have HLine := hidA (line_any wl M B a Qs nl Lo { r with line := i + 1 } g 0 wn uc i x rest HDl.out HL.out.2 (fun j u hu => by
          have h9 := own_read hrowl
          rcases h9 with h9 | ⟨b', off', e1, hc⟩
          · cases h9
          · cases e1
            exact hc j u hu) hwn (HOk1.out.1 x (by simp)) HOk1.out.2.1 (by rw [hwn]; exact HOk1.out.2.2) ⟨by omega, by omega⟩)
        have HSt2 : Hid (linesA ls (i + 1) = lineA a (i + 1) (x :: rest)) := HStep
        have HSz : Hid (∀ a', lineA a (i + 1) (x :: rest) = .ok a' → AsSz a' (i + 1)) := fun a' h9 => line_sz HL.out.2 (by omega) (by omega) (fun y hy => (HOk1.out.2.1 y hy).1) h9
        have hwn1 : 0 < wn := by rw [hwn]; simp
        rw [← hwn] at hcl
        clear hrowl hua hun hwn HStep
        go_wp2_with fail
        refine HLine.out.mono ?_
        intro e w5 hp
        have hfM : f < M := by have := HB3.out.2.2; omega
        have hfB : f ≠ B := by have := HB3.out.2.2; omega
        rcases hp with ⟨el, ec, en, e1, e2, rfl, e4⟩ | ⟨a', Qs', nl', Lo', r', e1, rfl, e3, e4, e5, _⟩
        · have hfr5 := HFl.out.trans (FrO.fra HDl.out e4)
          have hF5 : FB w5 f (.int .i64 0) (.int .i64 0) (.int .i64 0) := (hfr5.block f hfM hfB).trans HB3.out.2.1
          obtain ⟨w7, hw7⟩ : ∃ w7, w7 = w5.alloc (.cells #[.int .i64 (el : Int), .int .i64 (ec : Int), .int .i64 en] 24) := ⟨_, rfl⟩
          obtain ⟨f7, hf7⟩ : ∃ f7, f7 = w5.heap.size := ⟨_, rfl⟩
          have hb7 : Go.RowKit.Below w5.heap.size w5 w7 := by rw [hw7]; exact bel_al _ _
          have hF7 : FB w7 f7 (.int .i64 (el : Int)) (.int .i64 (ec : Int)) (.int .i64 en) := by rw [hw7, hf7]; exact heap_alloc_new _ _ rfl
          have k0 : w7.cell? ⟨f7, 0, none⟩ = some (.int .i64 (el : Int)) := by unfold World.cell?; rw [show w7.heap[f7]? = _ from hF7]; rfl
          have k1 : w7.cell? ⟨f7, 1, none⟩ = some (.int .i64 (ec : Int)) := by unfold World.cell?; rw [show w7.heap[f7]? = _ from hF7]; rfl
          have k2 : w7.cell? ⟨f7, 2, none⟩ = some (.int .i64 en) := by unfold World.cell?; rw [show w7.heap[f7]? = _ from hF7]; rfl
          have hfl5 := (Array.getElem?_eq_some_iff.1 hF5).1
          have hF57 : FB w7 f (.int .i64 0) (.int .i64 0) (.int .i64 0) := (hb7.block f hfl5).trans hF5
          have hff : f7 ≠ f := by omega
          have hw7r : Go.RowKit.Below w.heap.size w w7 := by
            have q := belF HB3.out.1 hfr5 (Nat.le_trans HB1.out.size HBw.out) hM2
            exact q.trans (hb7.mono q.size)
          have hF57d : FB w7.drew f (.int .i64 0) (.int .i64 0) (.int .i64 0) := hF57
          obtain ⟨⟨g0, g1, g2⟩, ⟨c0, c1, c2⟩, hst⟩ := ft_facts hF57d
          have hld := load_fault (hst (.int .i64 (el : Int)) (.int .i64 (ec : Int)) (.int .i64 en))
          have hS0 : w7.drew.cell? ⟨f7, 0, none⟩ = some (.int .i64 (el : Int)) ∧ w7.drew.cell? ⟨f7, 1, none⟩ = some (.int .i64 (ec : Int)) ∧ w7.drew.cell? ⟨f7, 2, none⟩ = some (.int .i64 en) := ⟨k0, k1, k2⟩
          have hS9 : (((w7.drew.setCell ⟨f, 0, none⟩ (.int .i64 (el : Int))).setCell ⟨f, 1, none⟩ (.int .i64 (ec : Int))).setCell ⟨f, 2, none⟩ (.int .i64 en)).cell? ⟨f7, 0, none⟩ = some (.int .i64 (el : Int)) ∧ (((w7.drew.setCell ⟨f, 0, none⟩ (.int .i64 (el : Int))).setCell ⟨f, 1, none⟩ (.int .i64 (ec : Int))).setCell ⟨f, 2, none⟩ (.int .i64 en)).cell? ⟨f7, 1, none⟩ = some (.int .i64 (ec : Int)) ∧ (((w7.drew.setCell ⟨f, 0, none⟩ (.int .i64 (el : Int))).setCell ⟨f, 1, none⟩ (.int .i64 (ec : Int))).setCell ⟨f, 2, none⟩ (.int .i64 en)).cell? ⟨f7, 2, none⟩ = some (.int .i64 en) := ⟨cell_ft hff k0, cell_ft hff k1, cell_ft hff k2⟩
          have HX : Hid (RAsmPost w l (.returned (.tuple #[.slice none 0 0, ftv (el : Int) (ec : Int) en])) (((w7.drew.setCell ⟨f, 0, none⟩ (.int .i64 (el : Int))).setCell ⟨f, 1, none⟩ (.int .i64 (ec : Int))).setCell ⟨f, 2, none⟩ (.int .i64 en))) := by
            refine .inl ⟨(el, ec, en), rfl, ?_, (hw7r.trans ((bel_drewN w7 1).mono hw7r.size)).trans (ft_below (Nat.le_of_eq HFs.out.symm) _ _ _)⟩
            rw [← HLs.out]
            exact linesA_up (HSt2.out.trans e1) _ (by have := HLn.out; omega)
          have hen := e2
          clear hfr5 hF5 hb7 hF7 hfl5 hF57 hff hw7r hF57d hst e1 e2 e4 HLine
          go_upto_region 11 with fail
          rw [← hw7, ← hf7]
          clear hw7 hf7
          go_upto_region 12 with fail
          refine wp_region_held_drew (S := fun w' => w'.cell? ⟨f7, 0, none⟩ = some (.int .i64 (el : Int)) ∧ w'.cell? ⟨f7, 1, none⟩ = some (.int .i64 (ec : Int)) ∧ w'.cell? ⟨f7, 2, none⟩ = some (.int .i64 en)) (by kernel_rfl) ?_ (fun hHeld => ?_)
          · exact hS0
          generalize w7.drew = wd at *
          refine wpAnyH_take (i := 0) (v := ftv (el : Int) (ec : Int) en) rfl (by kernel_rfl) (by kernel_rfl) (by kernel_rfl) (fun _ _ _ h => h) (Or.inl ⟨by rfl, by intro w hSw; (try dsimp only at hSw); go_simp⟩) (by assumption) ?_
          refine wpAnyH_take (i := 1) (v := .slice none 0 0) rfl (by kernel_rfl) (by kernel_rfl) (by kernel_rfl) (fun _ _ _ h => h) (Or.inl ⟨by rfl, by intro w hSw; (try dsimp only at hSw); go_simp⟩) (by assumption) ?_
          refine wpAnyH_ready (rs := [2]) (by kernel_rfl) (by simp) ?_
          refine AllReadyH.cons rfl (fun K hK => ?_) ?_
          · go_simp
            refine hK.out _ _ (by exact hS9) (fun hHeld => ?_)
            clear hK K
            refine wpAnyH_done (by kernel_rfl) ?_ _
            clear hS0 hS9 k0 k1 k2
            go_wp2_with fail
            refine bodyPost_ret (v := .tuple #[.slice none 0 0, ftv (el : Int) (ec : Int) en]) ?_ rfl ?_
            · simp [results, Tryz.results4, asAddr, hld]
            · exact HX.out
          exact AllReadyH.nil
        · have hfr5 := HFl.out.trans (FrO.fra HDl.out e5)
          obtain ⟨w7, hw7⟩ : ∃ w7, w7 = w5.alloc (.cells #[.int .i64 0, .int .i64 0, .int .i64 0] 24) := ⟨_, rfl⟩
          obtain ⟨f7, hf7⟩ : ∃ f7, f7 = w5.heap.size := ⟨_, rfl⟩
          have hb7 : Go.RowKit.Below w5.heap.size w5 w7 := by rw [hw7]; exact bel_al _ _
          have hF7 : FB w7 f7 (.int .i64 0) (.int .i64 0) (.int .i64 0) := by rw [hw7, hf7]; exact heap_alloc_new _ _ rfl
          have k2 : w7.cell? ⟨f7, 2, none⟩ = some (.int .i64 0) := by unfold World.cell?; rw [show w7.heap[f7]? = _ from hF7]; rfl
          have HN : Hid (linesA ls (i + 1) = .ok a' ∧ AsSz a' (i + 1)) := ⟨HSt2.out.trans e1, HSz.out a' e1⟩
          have HD7 : Hid (DS w7 M B a' Qs' nl' Lo' r') := e3.below hb7
          have HF7 : Hid (FrA M B w3 w7) := hfr5.trans (FrA.bel hb7 e3.bm.2)
          clear hfr5 hb7 hF7 e1 e3 e4 e5 HLine hcl
          go_upto_region 11 with fail
          rw [← hw7, ← hf7]
          clear hw7 hf7
          go_wp2_with fail
          go_roundw
          case rel => exact ⟨i + 1, a', Qs', nl', Lo', r', by omega, by go_num, HN, HD7, HF7⟩
          case measure => simp [intOf]; omega
    · obtain rfl : i = ln := by omega
      have HLa : Hid (linesA (cutN l) (cutN l).length = .ok a) := by rw [Hid, ← HLs.out, ← HLn.out]; exact HL.out.1
      have hM2 := HM3.out.2
      have hfB : f ≠ B := by have := HB3.out.2.2; omega
      have hfM : f < M := by have := HB3.out.2.2; omega
      have HBr : Hid (Go.RowKit.Below w.heap.size w wr) := belF HB3.out.1 HFr.out (Nat.le_trans HB1.out.size HBw.out) hM2
      have HFb : Hid (FB wr f (.int .i64 0) (.int .i64 0) (.int .i64 0)) := (HFr.out.block f hfM hfB).trans HB3.out.2.1
      have x2 : wr.cell? ⟨B, 2, none⟩ = some (.bool a.opn) := by rw [← HD.out.op]; exact HD.out.rx.cell 2
      cases hop : a.opn with
      | true =>
        rw [hop] at x2
        obtain ⟨bl, hbl⟩ : ∃ bl, bl = a.begun.1 := ⟨_, rfl⟩
        obtain ⟨bc, hbc⟩ : ∃ bc, bc = a.begun.2 := ⟨_, rfl⟩
        have hFd : FB wr.drew f (.int .i64 0) (.int .i64 0) (.int .i64 0) := HFb.out
        obtain ⟨⟨g0, g1, g2⟩, ⟨c0, c1, c2⟩, hst⟩ := ft_facts hFd
        have hld := load_fault (hst (.int .i64 (bl : Int)) (.int .i64 (bc : Int)) (.int .i64 45))
        have y3 : wr.drew.cell? ⟨B, 3, none⟩ = some (.int .i64 (bl : Int)) := by
          have h9 : wr.cell? ⟨B, 3, none⟩ = some (.int .i64 (r.begun.1 : Int)) := HD.out.rx.cell 3
          rw [HD.out.bg, ← hbl] at h9
          exact h9
        have y4 : wr.drew.cell? ⟨B, 4, none⟩ = some (.int .i64 (bc : Int)) := by
          have h9 : wr.cell? ⟨B, 4, none⟩ = some (.int .i64 (r.begun.2 : Int)) := HD.out.rx.cell 4
          rw [HD.out.bg, ← hbc] at h9
          exact h9
        have hS0 : wr.drew.cell? ⟨B, 3, none⟩ = some (.int .i64 (bl : Int)) ∧ wr.drew.cell? ⟨B, 4, none⟩ = some (.int .i64 (bc : Int)) := ⟨y3, y4⟩
        have hS9 : (((wr.drew.setCell ⟨f, 0, none⟩ (.int .i64 (bl : Int))).setCell ⟨f, 1, none⟩ (.int .i64 (bc : Int))).setCell ⟨f, 2, none⟩ (.int .i64 45)).cell? ⟨B, 3, none⟩ = some (.int .i64 (bl : Int)) ∧ (((wr.drew.setCell ⟨f, 0, none⟩ (.int .i64 (bl : Int))).setCell ⟨f, 1, none⟩ (.int .i64 (bc : Int))).setCell ⟨f, 2, none⟩ (.int .i64 45)).cell? ⟨B, 4, none⟩ = some (.int .i64 (bc : Int)) := ⟨cell_ft hfB.symm y3, cell_ft hfB.symm y4⟩
        have HX : Hid (RAsmPost w l (.returned (.tuple #[.slice none 0 0, ftv (bl : Int) (bc : Int) 45])) (((wr.drew.setCell ⟨f, 0, none⟩ (.int .i64 (bl : Int))).setCell ⟨f, 1, none⟩ (.int .i64 (bc : Int))).setCell ⟨f, 2, none⟩ (.int .i64 45))) :=
          .inr ⟨a, HLa.out, (HBr.out.trans ((bel_drewN wr 1).mono HBr.out.size)).trans (ft_below (Nat.le_of_eq HFs.out.symm) _ _ _), .inl ⟨by rw [hbl, hbc], hop⟩⟩
        clear hop hbl hbc hFd hst y3 y4
        go_upto_region 14 with fail
        refine wp_region_held_drew (S := fun w' => w'.cell? ⟨B, 3, none⟩ = some (.int .i64 (bl : Int)) ∧ w'.cell? ⟨B, 4, none⟩ = some (.int .i64 (bc : Int))) (by kernel_rfl) ?_ (fun hHeld => ?_)
        · exact hS0
        generalize wr.drew = wd at *
        refine wpAnyH_take (i := 0) (v := .pointer (some ⟨B, 0, none⟩)) rfl (by kernel_rfl) (by kernel_rfl) (by kernel_rfl) (fun _ _ _ h => h) (Or.inl ⟨by rfl, by intro w hSw; (try dsimp only at hSw); go_simp⟩) (by assumption) ?_
        refine wpAnyH_take (i := 1) (v := .pointer (some ⟨B, 0, none⟩)) rfl (by kernel_rfl) (by kernel_rfl) (by kernel_rfl) (fun _ _ _ h => h) (Or.inl ⟨by rfl, by intro w hSw; (try dsimp only at hSw); go_simp⟩) (by assumption) ?_
        refine wpAnyH_take (i := 2) (v := .pointer (some ⟨B, 3, none⟩)) rfl (by kernel_rfl) (by kernel_rfl) (by kernel_rfl) (fun _ _ _ h => h) (Or.inl ⟨by rfl, by intro w hSw; (try dsimp only at hSw); go_simp⟩) (by assumption) ?_
        refine wpAnyH_take (i := 3) (v := .pointer (some ⟨B, 3, none⟩)) rfl (by kernel_rfl) (by kernel_rfl) (by kernel_rfl) (fun _ _ _ h => h) (Or.inl ⟨by rfl, by intro w hSw; (try dsimp only at hSw); go_simp⟩) (by assumption) ?_
        refine wpAnyH_take (i := 4) (v := .int .i64 (bl : Int)) rfl (by kernel_rfl) (by kernel_rfl) (by kernel_rfl) (fun _ _ _ h => h) (Or.inl ⟨by rfl, by intro w hSw; (try dsimp only at hSw); go_simp⟩) (by assumption) ?_
        refine wpAnyH_take (i := 5) (v := .pointer (some ⟨B, 0, none⟩)) rfl (by kernel_rfl) (by kernel_rfl) (by kernel_rfl) (fun _ _ _ h => h) (Or.inl ⟨by rfl, by intro w hSw; (try dsimp only at hSw); go_simp⟩) (by assumption) ?_
        refine wpAnyH_take (i := 6) (v := .pointer (some ⟨B, 0, none⟩)) rfl (by kernel_rfl) (by kernel_rfl) (by kernel_rfl) (fun _ _ _ h => h) (Or.inl ⟨by rfl, by intro w hSw; (try dsimp only at hSw); go_simp⟩) (by assumption) ?_
        refine wpAnyH_take (i := 7) (v := .pointer (some ⟨B, 3, none⟩)) rfl (by kernel_rfl) (by kernel_rfl) (by kernel_rfl) (fun _ _ _ h => h) (Or.inl ⟨by rfl, by intro w hSw; (try dsimp only at hSw); go_simp⟩) (by assumption) ?_
        refine wpAnyH_take (i := 8) (v := .pointer (some ⟨B, 4, none⟩)) rfl (by kernel_rfl) (by kernel_rfl) (by kernel_rfl) (fun _ _ _ h => h) (Or.inl ⟨by rfl, by intro w hSw; (try dsimp only at hSw); go_simp⟩) (by assumption) ?_
        refine wpAnyH_take (i := 9) (v := .int .i64 (bc : Int)) rfl (by kernel_rfl) (by kernel_rfl) (by kernel_rfl) (fun _ _ _ h => h) (Or.inl ⟨by rfl, by intro w hSw; (try dsimp only at hSw); go_simp⟩) (by assumption) ?_
        refine wpAnyH_take (i := 10) (v := ftv (bl : Int) (bc : Int) 45) rfl (by kernel_rfl) (by kernel_rfl) (by kernel_rfl) (fun _ _ _ h => h) (Or.inl ⟨by rfl, by intro w hSw; (try dsimp only at hSw); go_simp⟩) (by assumption) ?_
        refine wpAnyH_take (i := 11) (v := .slice none 0 0) rfl (by kernel_rfl) (by kernel_rfl) (by kernel_rfl) (fun _ _ _ h => h) (Or.inl ⟨by rfl, by intro w hSw; (try dsimp only at hSw); go_simp⟩) (by assumption) ?_
        refine wpAnyH_ready (rs := [12]) (by kernel_rfl) (by simp) ?_
        refine AllReadyH.cons rfl (fun K hK => ?_) ?_
        · go_simp
          refine hK.out _ _ (by exact hS9) (fun hHeld => ?_)
          clear hK K
          refine wpAnyH_done (by kernel_rfl) ?_ _
          clear hS0 hS9
          go_wp2_with fail
          refine bodyPost_ret (v := .tuple #[.slice none 0 0, ftv (bl : Int) (bc : Int) 45]) ?_ rfl ?_
          · simp [results, Tryz.results4, asAddr, hld]
          · exact HX.out
        exact AllReadyH.nil
      | false =>
        rw [hop] at x2
        obtain ⟨lo9, lc9, hlb9, _⟩ := own_slice HD.out.lib
        have x0 : wr.cell? ⟨B, 0, none⟩ = some (.slice lo9 Qs.length lc9) := by rw [← hlb9]; exact HD.out.rx.cell 0
        have HLi := hidA (HD.out.libAt HL.out.2 hlb9)
        have hQl : Qs.length ≤ 65537 := by
          have h1 := HL.out.2.lib
          rw [HD.out.eq, hop] at h1
          simp at h1
          omega
        have HCk := hidA (refCheck_any wr lo9 Qs.length lc9 Qs HLi.out rfl (by omega))
        have HEq : Hid (a.lib = Qs.map ppOf) := by rw [Hid, HD.out.eq, hop]; simp
        have HNe : Hid (a.names = nl ∧ nl.length = Qs.length) := by
          have h1 := HD.out.neq
          rw [hop] at h1
          have h2 : a.names = nl := by rw [h1]; simp
          have h3 := HL.out.2.nms
          rw [h2, HD.out.eq, hop] at h3
          exact ⟨h2, by simpa using h3⟩
        have HCl := hidA (fun h => checkN_lt (Ps := Qs) h)
        obtain ⟨ca, hca⟩ : ∃ ca, ca = (checkN Qs).1 := ⟨_, rfl⟩
        obtain ⟨ce, hce⟩ : ∃ ce, ce = (checkN Qs).2 := ⟨_, rfl⟩
        rw [← hca, ← hce] at HCk HCl
        have HO := hidA hop
        have HCa := hidA hca
        have HCe := hidA hce
        have HLb := hidA hlb9
        obtain ⟨ql, hql⟩ : ∃ ql, ql = Qs.length := ⟨_, rfl⟩
        rw [← hql] at x0 HCk
        have HQl := hidA hql
        clear hop hca hce hlb9 HLi hql
        go_wp2_with fail
        refine HCk.out.mono ?_
        rintro e w5 ⟨rfl, hb5⟩
        have HD5 : Hid (DS w5 M B a Qs nl Lo r) := HD.out.below hb5
        have HB5 : Hid (Go.RowKit.Below w.heap.size w w5) := HBr.out.trans (hb5.mono HBr.out.size)
        have HF5 : Hid (FB w5 f (.int .i64 0) (.int .i64 0) (.int .i64 0)) := (hb5.block f (Array.getElem?_eq_some_iff.1 HFb.out).1).trans HFb.out
        clear hb5 HCk x2 x0 HBr HFb HD
        by_cases hc0 : ce = 0
        · have x0 : w5.cell? ⟨B, 0, none⟩ = some (.slice lo9 ql lc9) := by rw [HQl.out, ← HLb.out]; exact HD5.out.rx.cell 0
          obtain ⟨⟨g0, g1, g2⟩, ⟨c0, c1, c2⟩, hst⟩ := ft_facts HF5.out
          have hld := load_fault (hst (.int .i64 0) (.int .i64 0) (.int .i64 0))
          have HX : Hid (RAsmPost w l (.returned (.tuple #[.slice lo9 ql lc9, ftv 0 0 0])) (((w5.setCell ⟨f, 0, none⟩ (.int .i64 0)).setCell ⟨f, 1, none⟩ (.int .i64 0)).setCell ⟨f, 2, none⟩ (.int .i64 0))) := by
            refine .inr ⟨a, HLa.out, HB5.out.trans (ft_below (Nat.le_of_eq HFs.out.symm) _ _ _), .inr (.inr ⟨M, B, Qs, nl, Lo, r, by rw [HLb.out, HQl.out], HO.out, by rw [← HCe.out]; exact hc0, HD5.out.ft HF5.out (fun g hg e => ?_) _ _ _, Nat.le_trans HB1.out.size HBw.out⟩)⟩
            have h9 := own_ge HD5.out.nms g hg
            omega
          subst hc0
          clear hst HL HLa
          go_wp2_with fail
          refine bodyPost_ret (v := .tuple #[.slice lo9 ql lc9, ftv 0 0 0]) ?_ rfl ?_
          · simp [results, Tryz.results4, asAddr, hld]
          · exact HX.out
        · have hal : ca < nl.length := by rw [HNe.out.2]; exact HCl.out hc0
          obtain ⟨ng, ncp, hnd, _⟩ := own_some HD5.out.nms (by omega)
          obtain ⟨nn, hnn⟩ : ∃ nn, nn = nl.length := ⟨_, rfl⟩
          rw [← hnn] at hnd
          obtain ⟨n1, hn1⟩ : ∃ n1, n1 = nl[ca].1 := ⟨_, rfl⟩
          obtain ⟨n2, hn2⟩ : ∃ n2, n2 = nl[ca].2 := ⟨_, rfl⟩
          obtain ⟨z0, z1, _⟩ := fcs_at nl ca hal
          have hrow : w5.ownsRow M 24 3 (.slice (some ⟨ng, 0, none⟩) nl.length ncp) nl.length (fcs nl) := by rw [← hnn, ← hnd, hnn]; exact HD5.out.nms
          have y0 : w5.drew.cell? ⟨ng, ca * 3, none⟩ = some (.int .i64 (n1 : Int)) := by
            show w5.cell? _ = _
            rw [World.ownsRow.cellAt hrow _ (by omega), hn1]
            exact z0
          have y1 : w5.drew.cell? ⟨ng, ca * 3 + 1, none⟩ = some (.int .i64 (n2 : Int)) := by
            show w5.cell? _ = _
            rw [World.ownsRow.cellAt hrow _ (by omega), hn2]
            exact z1
          have yb : w5.drew.cell? ⟨B, 1, none⟩ = some (.slice (some ⟨ng, 0, none⟩) nn ncp) := by
            show w5.cell? _ = _
            rw [HD5.out.rx.cell 1, ← hnd]; rfl
          have hng : ng ≠ f := by have h9 := own_ge HD5.out.nms ng (by rw [hnd]; rfl); omega
          have hFd : FB w5.drew f (.int .i64 0) (.int .i64 0) (.int .i64 0) := HF5.out
          obtain ⟨⟨g0, g1, g2⟩, ⟨c0, c1, c2⟩, hst⟩ := ft_facts hFd
          have hld := load_fault (hst (.int .i64 (n1 : Int)) (.int .i64 (n2 : Int)) (.int .i64 ce))
          have hS0 : w5.drew.cell? ⟨B, 1, none⟩ = some (.slice (some ⟨ng, 0, none⟩) nn ncp) ∧ w5.drew.cell? ⟨ng, ca * 3, none⟩ = some (.int .i64 (n1 : Int)) ∧ w5.drew.cell? ⟨ng, ca * 3 + 1, none⟩ = some (.int .i64 (n2 : Int)) := ⟨yb, y0, y1⟩
          have hS9 : (((w5.drew.setCell ⟨f, 0, none⟩ (.int .i64 (n1 : Int))).setCell ⟨f, 1, none⟩ (.int .i64 (n2 : Int))).setCell ⟨f, 2, none⟩ (.int .i64 ce)).cell? ⟨B, 1, none⟩ = some (.slice (some ⟨ng, 0, none⟩) nn ncp) ∧ (((w5.drew.setCell ⟨f, 0, none⟩ (.int .i64 (n1 : Int))).setCell ⟨f, 1, none⟩ (.int .i64 (n2 : Int))).setCell ⟨f, 2, none⟩ (.int .i64 ce)).cell? ⟨ng, ca * 3, none⟩ = some (.int .i64 (n1 : Int)) ∧ (((w5.drew.setCell ⟨f, 0, none⟩ (.int .i64 (n1 : Int))).setCell ⟨f, 1, none⟩ (.int .i64 (n2 : Int))).setCell ⟨f, 2, none⟩ (.int .i64 ce)).cell? ⟨ng, ca * 3 + 1, none⟩ = some (.int .i64 (n2 : Int)) := ⟨cell_ft hfB.symm yb, cell_ft hng y0, cell_ft hng y1⟩
          have HX : Hid (RAsmPost w l (.returned (.tuple #[.slice none 0 0, ftv (n1 : Int) (n2 : Int) ce])) (((w5.drew.setCell ⟨f, 0, none⟩ (.int .i64 (n1 : Int))).setCell ⟨f, 1, none⟩ (.int .i64 (n2 : Int))).setCell ⟨f, 2, none⟩ (.int .i64 ce))) := by
            refine .inr ⟨a, HLa.out, (HB5.out.trans ((bel_drewN w5 1).mono HB5.out.size)).trans (ft_below (Nat.le_of_eq HFs.out.symm) _ _ _), .inr (.inl ⟨Qs, ?_, HO.out, HEq.out, by rw [← HCe.out]; exact hc0⟩)⟩
            rw [← HCa.out, ← HCe.out, HNe.out.1, List.getD_eq_getElem?_getD, List.getElem?_eq_getElem hal, hn1, hn2]
            rfl
          have hai : ¬ ((nn : Int) ≤ (ca : Int)) := by omega
          clear hnd hnn hn1 hn2 z0 z1 hrow y0 y1 yb hng hFd hst hal HL HLa HCl HCa HCe
          go_upto_region 17 with fail
          refine wp_region_held_drew (S := fun w' => w'.cell? ⟨B, 1, none⟩ = some (.slice (some ⟨ng, 0, none⟩) nn ncp) ∧ w'.cell? ⟨ng, ca * 3, none⟩ = some (.int .i64 (n1 : Int)) ∧ w'.cell? ⟨ng, ca * 3 + 1, none⟩ = some (.int .i64 (n2 : Int))) (by kernel_rfl) ?_ (fun hHeld => ?_)
          · exact hS0
          generalize w5.drew = wd at *
          refine wpAnyH_take (i := 0) (v := .pointer (some ⟨B, 0, none⟩)) rfl (by kernel_rfl) (by kernel_rfl) (by kernel_rfl) (fun _ _ _ h => h) (Or.inl ⟨by rfl, by intro w hSw; (try dsimp only at hSw); go_simp⟩) (by assumption) ?_
          refine wpAnyH_take (i := 1) (v := .pointer (some ⟨B, 0, none⟩)) rfl (by kernel_rfl) (by kernel_rfl) (by kernel_rfl) (fun _ _ _ h => h) (Or.inl ⟨by rfl, by intro w hSw; (try dsimp only at hSw); go_simp⟩) (by assumption) ?_
          refine wpAnyH_take (i := 2) (v := .pointer (some ⟨B, 1, none⟩)) rfl (by kernel_rfl) (by kernel_rfl) (by kernel_rfl) (fun _ _ _ h => h) (Or.inl ⟨by rfl, by intro w hSw; (try dsimp only at hSw); go_simp⟩) (by assumption) ?_
          refine wpAnyH_take (i := 3) (v := .slice (some ⟨ng, 0, none⟩) nn ncp) rfl (by kernel_rfl) (by kernel_rfl) (by kernel_rfl) (fun _ _ _ h => h) (Or.inl ⟨by rfl, by intro w hSw; (try dsimp only at hSw); go_simp⟩) (by assumption) ?_
          refine wpAnyH_take (i := 4) (v := .int .i64 (ca : Int)) rfl (by kernel_rfl) (by kernel_rfl) (by kernel_rfl) (fun _ _ _ h => h) (Or.inl ⟨by rfl, by intro w hSw; (try dsimp only at hSw); go_simp⟩) (by assumption) ?_
          refine wpAnyH_take (i := 5) (v := .pointer (some ⟨ng, ca * 3, none⟩)) rfl (by kernel_rfl) (by kernel_rfl) (by kernel_rfl) (fun _ _ _ h => h) (Or.inl ⟨by rfl, by intro w hSw; (try dsimp only at hSw); go_simp⟩) (by assumption) ?_
          refine wpAnyH_take (i := 6) (v := .pointer (some ⟨ng, ca * 3, none⟩)) rfl (by kernel_rfl) (by kernel_rfl) (by kernel_rfl) (fun _ _ _ h => h) (Or.inl ⟨by rfl, by intro w hSw; (try dsimp only at hSw); go_simp⟩) (by assumption) ?_
          refine wpAnyH_take (i := 7) (v := .int .i64 (n1 : Int)) rfl (by kernel_rfl) (by kernel_rfl) (by kernel_rfl) (fun _ _ _ h => h) (Or.inl ⟨by rfl, by intro w hSw; (try dsimp only at hSw); go_simp⟩) (by assumption) ?_
          refine wpAnyH_take (i := 8) (v := .pointer (some ⟨B, 0, none⟩)) rfl (by kernel_rfl) (by kernel_rfl) (by kernel_rfl) (fun _ _ _ h => h) (Or.inl ⟨by rfl, by intro w hSw; (try dsimp only at hSw); go_simp⟩) (by assumption) ?_
          refine wpAnyH_take (i := 9) (v := .pointer (some ⟨B, 0, none⟩)) rfl (by kernel_rfl) (by kernel_rfl) (by kernel_rfl) (fun _ _ _ h => h) (Or.inl ⟨by rfl, by intro w hSw; (try dsimp only at hSw); go_simp⟩) (by assumption) ?_
          refine wpAnyH_take (i := 10) (v := .pointer (some ⟨B, 1, none⟩)) rfl (by kernel_rfl) (by kernel_rfl) (by kernel_rfl) (fun _ _ _ h => h) (Or.inl ⟨by rfl, by intro w hSw; (try dsimp only at hSw); go_simp⟩) (by assumption) ?_
          refine wpAnyH_take (i := 11) (v := .slice (some ⟨ng, 0, none⟩) nn ncp) rfl (by kernel_rfl) (by kernel_rfl) (by kernel_rfl) (fun _ _ _ h => h) (Or.inl ⟨by rfl, by intro w hSw; (try dsimp only at hSw); go_simp⟩) (by assumption) ?_
          refine wpAnyH_take (i := 12) (v := .int .i64 (ca : Int)) rfl (by kernel_rfl) (by kernel_rfl) (by kernel_rfl) (fun _ _ _ h => h) (Or.inl ⟨by rfl, by intro w hSw; (try dsimp only at hSw); go_simp⟩) (by assumption) ?_
          refine wpAnyH_take (i := 13) (v := .pointer (some ⟨ng, ca * 3, none⟩)) rfl (by kernel_rfl) (by kernel_rfl) (by kernel_rfl) (fun _ _ _ h => h) (Or.inl ⟨by rfl, by intro w hSw; (try dsimp only at hSw); go_simp⟩) (by assumption) ?_
          refine wpAnyH_take (i := 14) (v := .pointer (some ⟨ng, ca * 3 + 1, none⟩)) rfl (by kernel_rfl) (by kernel_rfl) (by kernel_rfl) (fun _ _ _ h => h) (Or.inl ⟨by rfl, by intro w hSw; (try dsimp only at hSw); go_simp⟩) (by assumption) ?_
          refine wpAnyH_take (i := 15) (v := .int .i64 (n2 : Int)) rfl (by kernel_rfl) (by kernel_rfl) (by kernel_rfl) (fun _ _ _ h => h) (Or.inl ⟨by rfl, by intro w hSw; (try dsimp only at hSw); go_simp⟩) (by assumption) ?_
          refine wpAnyH_take (i := 16) (v := .int .i64 ce) rfl (by kernel_rfl) (by kernel_rfl) (by kernel_rfl) (fun _ _ _ h => h) (Or.inl ⟨by rfl, by intro w hSw; (try dsimp only at hSw); go_simp⟩) (by assumption) ?_
          refine wpAnyH_take (i := 17) (v := ftv (n1 : Int) (n2 : Int) ce) rfl (by kernel_rfl) (by kernel_rfl) (by kernel_rfl) (fun _ _ _ h => h) (Or.inl ⟨by rfl, by intro w hSw; (try dsimp only at hSw); go_simp⟩) (by assumption) ?_
          refine wpAnyH_take (i := 18) (v := .slice none 0 0) rfl (by kernel_rfl) (by kernel_rfl) (by kernel_rfl) (fun _ _ _ h => h) (Or.inl ⟨by rfl, by intro w hSw; (try dsimp only at hSw); go_simp⟩) (by assumption) ?_
          refine wpAnyH_ready (rs := [19]) (by kernel_rfl) (by simp) ?_
          refine AllReadyH.cons rfl (fun K hK => ?_) ?_
          · go_simp
            refine hK.out _ _ (by exact hS9) (fun hHeld => ?_)
            clear hK K
            refine wpAnyH_done (by kernel_rfl) ?_ _
            clear hS0 hS9
            go_wp2_with fail
            refine bodyPost_ret (v := .tuple #[.slice none 0 0, ftv (n1 : Int) (n2 : Int) ce]) ?_ rfl ?_
            · simp [results, Tryz.results4, asAddr, hld]
            · exact HX.out
          exact AllReadyH.nil
end Go.Proofs.YtiiplikmoodfnaaGreatDoor
/-
  THE WALK OF roomy.
-/
namespace Go.Proofs.YtiiplikmoodfnaaGreatDoor
open Go.RowKit Go.Sort

theorem cks_zero : ∀ c : Nat, cks (List.replicate c (0, 0)) = List.replicate (c * 2) (.int .i64 0)
  | 0 => rfl
  | c + 1 => by
    rw [List.replicate_succ, show (c + 1) * 2 = c * 2 + 1 + 1 by omega, List.replicate_succ, List.replicate_succ]
    simp only [cks, cks_zero c]
theorem toList_madeCells_two (z : Value) (n : Nat) : (madeCells #[z, z] n).toList = List.replicate n z := by
  apply List.ext_getElem?
  intro j
  by_cases hj : j < n
  · rcases Nat.mod_two_eq_zero_or_one j with h | h <;> simp [madeCells, hj, h]
  · simp [madeCells, hj]
theorem make_keys (c : Nat) (C : Int) (hC : C = c) (hc : c * 16 ≤ 281474976710656) (u : World) : (Instr.makeSlice 40 (.int .i64 C) (.int .i64 C)).run Tryz.prog u =
    .ok (.slice (some ⟨u.heap.size, 0, none⟩) c c) (u.alloc (.cells (cks (List.replicate c (0, 0))).toArray 76)) := by
  subst hC
  obtain ⟨i0, hi, hz0, hz1, hz2⟩ := info_parts infoK
  have h := run_make (P := Tryz.prog) u 40 76 i0 (.agg #[.int .i64 0, .int .i64 0]) Tryz.underlying40 hi hz0 .i64 .i64 (c : Int) (c : Int) (by omega) (Int.le_refl _) (by rw [hz2]; omega) (by omega)
  have e : madeCells (Value.agg #[.int .i64 0, .int .i64 0]).cells (c * 2) = (cks (List.replicate c (0, 0))).toArray := by
    apply Array.ext'
    rw [cks_zero]
    exact toList_madeCells_two _ _
  rw [hz1, Int.toNat_natCast, e] at h
  exact h
theorem cks_drop : ∀ (n : Nat) (Z : List K), (cks Z).drop (n * 2) = cks (Z.drop n)
  | 0, Z => by simp
  | n + 1, [] => by simp [cks]
  | n + 1, z :: Z => by
    rw [show (n + 1) * 2 = n * 2 + 1 + 1 by omega]
    simp only [cks, List.drop_succ_cons, cks_drop n Z]
theorem run_copy_keys (w : World) (ty : TypeId) (g dLen dCap : Nat) (a : Addr) (n c : Nat) (L Z : List K) (hn : n = L.length) (hz : dLen = Z.length) (hle : n ≤ dLen)
    (hg : w.heap[g]? = some (.cells (cks Z).toArray 76 (0, 0))) (hsrc : KeysAt w (some a) L) (M : List K) (hM : L ++ Z.drop n = M) :
    (Builtin.copy_ #[40, 40] ty #[.slice (some ⟨g, 0, none⟩) dLen dCap, .slice (some a) n c]).run Tryz.prog w = .ok (goInt n) (w.setRow g (cks M).toArray) := by
  subst hM
  have hl := run_loadCells_list (P := Tryz.prog) w a (cks L) (by
    intro j u hu
    rcases hsrc with h0 | ⟨b, off, e, hc⟩
    · subst h0; simp [cks] at hu
    · cases e; rw [addr_add]; exact hc j u hu)
  have hst := run_storeCells_at Tryz.prog g 0 76 (cks L) 0 (cks Z).toArray w hg (by simp [cks_length]; omega) (cks_one L)
  obtain ⟨i0, hi, hz0, hz1, hz2⟩ := info_parts infoK
  have e1 : (cks L).length = n * 2 := by rw [cks_length, hn]
  have e2 : Nat.min n dLen = n := Nat.min_eq_left hle
  rw [e1] at hl hst
  simp only [Nat.add_zero, Nat.zero_add, List.take_zero, List.nil_append, cks_drop, ← cks_append] at hst
  simp [Builtin.copy_, run_underlying Tryz.underlying40, Builtin.lenOf, Builtin.firstCells, sizeOf, typeInfo, hi, hz1, e2, hl, hst]

theorem setRow_below {w : World} {g B : Nat} {o : Array Value} {t : TypeId} {c : Array Value} (hB : B ≤ w.heap.size) (hg : B ≤ g) : Below B w ((w.alloc (.cells c t)).setRow g o) :=
  ((Below.refl B w).alloc hB _).trans ⟨rfl, rfl, rfl, by simp [World.setRow], fun k hk => setRow_other _ g k o (by omega)⟩

/-- BLOCK g IS A ROW OF INSTRUCTIONS, M -/
def RowK (W : World) (g : Nat) (M : List K) : Prop := W.heap[g]? = some (.cells (cks M).toArray 76 (0, 0))
theorem RowK.lt {W : World} {g : Nat} {M : List K} (h : RowK W g M) : g < W.heap.size := (Array.getElem?_eq_some_iff.1 h).1
theorem RowK.below {W W' : World} {g B : Nat} {M : List K} (h : RowK W g M) (hb : Below B W W') (hg : g < B) : RowK W' g M := (hb.block g hg).trans h
theorem RowK.kept {W W' : World} {g : Nat} {M : List K} (h : RowK W g M) (hb : Below W.heap.size W W') : RowK W' g M := h.below hb h.lt
theorem RowK.other {W : World} {g : Nat} {M : List K} (h : RowK W g M) {a : Addr} (v : Value) (hne : g ≠ a.block) : RowK (W.setCell a v) g M := (heap_setCell_other W a g v hne).trans h
theorem RowK.keys {W : World} {g : Nat} {L R : List K} (h : RowK W g (L ++ R)) : KeysAt W (some ⟨g, 0, none⟩) L := by
  refine .inr ⟨g, 0, rfl, fun j u hu => ?_⟩
  have h2 : (cks (L ++ R))[j]? = some u := by
    rw [cks_append, List.getElem?_append_left (by have := (List.getElem?_eq_some_iff.1 hu).1; exact this)]; exact hu
  simp [World.cell?, show W.heap[g]? = _ from h, h2]
theorem RowK.keys0 {W : World} {g : Nat} {M : List K} (h : RowK W g M) : KeysAt W (some ⟨g, 0, none⟩) M := by
  have h2 : RowK W g (M ++ []) := by rw [List.append_nil]; exact h
  exact h2.keys
theorem RowK.frozen {W : World} {g : Nat} {M : List K} (h : RowK W g M) (j : Nat) : W.frozen? ⟨g, j, none⟩ = false := frozen_of_row W g j _ _ h
theorem cks_set : ∀ (M : List K) (i : Nat) (x : Int), i < M.length → (cks M).set (i * 2) (.int .i64 x) = cks (M.set i (x, (cd M i).2))
  | [], i, x, h => by simp at h
  | k :: M, 0, x, _ => by simp [cks, cd]
  | k :: M, i + 1, x, h => by
    rw [show (i + 1) * 2 = i * 2 + 1 + 1 by omega]
    simp only [cks, List.set_cons_succ]
    rw [cks_set M i x (by simpa using h)]
    simp [cd]
theorem RowK.setOp {W : World} {g : Nat} {M : List K} (h : RowK W g M) (i : Nat) (x : Int) (hi : i < M.length) : RowK (W.setCell ⟨g, i * 2, none⟩ (.int .i64 x)) g (M.set i (x, (cd M i).2)) := by
  have := heap_setCell_same W g (i * 2) _ _ (.int .i64 x) h
  unfold RowK
  rw [this]
  have e : (cks M).toArray.setIfInBounds (i * 2) (.int .i64 x) = (cks (M.set i (x, (cd M i).2))).toArray := by
    apply Array.ext'
    rw [← cks_set M i x hi]
    simp
  rw [e]
/-- the marks behind a program -/
def marks : List K := [(-31, 0), (-32, 0)]
theorem marks_one (L : List K) : (L ++ [(0, 0), (0, 0)]).set L.length (-31, (cd (L ++ [(0, 0), (0, 0)]) L.length).2) = L ++ [(-31, 0), (0, 0)] := by
  rw [List.set_append_right _ _ (Nat.le_refl _), Nat.sub_self]
  simp [cd]
theorem marks_two (L : List K) : (L ++ [(-31, 0), (0, 0)]).set (L.length + 1) (-32, (cd (L ++ [(-31, 0), (0, 0)]) (L.length + 1)).2) = L ++ marks := by
  rw [List.set_append_right _ _ (by omega), show L.length + 1 - L.length = 1 by omega]
  simp [cd, marks]
theorem copy_nil_keys (u : World) (ty : TypeId) (g dLen dCap c : Nat) : (Builtin.copy_ #[40, 40] ty #[.slice (some ⟨g, 0, none⟩) dLen dCap, .slice none 0 c]).run Tryz.prog u = .ok (goInt 0) u := by
  obtain ⟨i0, hi, hz0, hz1, hz2⟩ := info_parts infoK
  simp [Builtin.copy_, run_underlying Tryz.underlying40, Builtin.lenOf, Builtin.firstCells, sizeOf, typeInfo, hi, storeCells]

structure RS (w W : World) (p : Nums) (ao : Option Addr) (n cap : Nat) (M : List K) : Prop where
  b0 : PBox W w.heap.size p ao n cap
  b1 : PBox W (w.heap.size + 1) ⟨0, 0, 0, 0⟩ none 0 0
  row : RowK W (w.heap.size + 1 + 1) M
  bel : Below w.heap.size w W
  sz : W.heap.size = w.heap.size + 3
theorem RS.setOp {w W : World} {p : Nums} {ao : Option Addr} {n cap : Nat} {M : List K} (h : RS w W p ao n cap M) (i : Nat) (x : Int) (hi : i < M.length) : RS w (W.setCell ⟨w.heap.size + 1 + 1, i * 2, none⟩ (.int .i64 x)) p ao n cap (M.set i (x, (cd M i).2)) :=
  ⟨(heap_setCell_other W ⟨w.heap.size + 1 + 1, i * 2, none⟩ w.heap.size _ (by simp; omega)).trans h.b0, (heap_setCell_other W ⟨w.heap.size + 1 + 1, i * 2, none⟩ (w.heap.size + 1) _ (by simp)).trans h.b1, h.row.setOp i x hi, below_set h.bel _ _ (by simp; omega), by simpa using h.sz⟩
theorem RS.copied {w W : World} {p : Nums} {ao : Option Addr} {n cap : Nat} {L : List K} (h : RS w W p ao n cap (List.replicate (n + 2) (0, 0))) (hk : KeysAt W ao L) (hn : n = L.length) :
    ∃ W1, (∀ ty, (Builtin.copy_ #[40, 40] ty #[.slice (some ⟨w.heap.size + 1 + 1, 0, none⟩) (n + 2) (n + 2), .slice ao n cap]).run Tryz.prog W = .ok (.int .i64 (n : Int)) W1) ∧ RS w W1 p ao n cap (L ++ [(0, 0), (0, 0)]) := by
  cases ao with
  | none =>
    have h0 : L = [] := by
      rcases hk with h1 | ⟨b, off, h1, _⟩
      · exact h1
      · cases h1
    subst h0
    obtain rfl : n = 0 := hn
    exact ⟨W, fun ty => copy_nil_keys W ty _ _ _ _, h⟩
  | some a =>
    refine ⟨W.setRow (w.heap.size + 1 + 1) (cks (L ++ [(0, 0), (0, 0)])).toArray, fun ty => ?_, ?_⟩
    · have := run_copy_keys W ty (w.heap.size + 1 + 1) (n + 2) (n + 2) a n cap L (List.replicate (n + 2) (0, 0)) hn (by simp) (by omega) h.row hk (L ++ [(0, 0), (0, 0)]) (by rw [List.drop_replicate, show n + 2 - n = 2 by omega]; rfl)
      rw [this]; rfl
    · exact ⟨(setRow_other _ _ _ _ (by omega)).trans h.b0, (setRow_other _ _ _ _ (by omega)).trans h.b1, setRow_heap _ _ _ _ _ _ h.row, h.bel.trans (below_setRow _ (by omega)), by simpa using h.sz⟩

end Go.Proofs.YtiiplikmoodfnaaGreatDoor
/-
  THE WALKS OF sameProgram, intact, sameInts.
-/
namespace Go.Proofs.YtiiplikmoodfnaaGreatDoor
open Go.RowKit Go.Sort

theorem run_neKey (x1 x2 y1 y2 : Int) (w : World) : Sem.run Tryz.prog (binOp .neq 76 (.agg #[.int .i64 x1, .int .i64 x2]) (.agg #[.int .i64 y1, .int .i64 y2])) w = .ok (.bool (!decide ((x1, x2) = (y1, y2)))) w := by
  have u3 := Tryz.underlying3
  have a3 := Tryz.isAgg3
  have z3 := Tryz.sizeOf3
  have u2 := Tryz.underlying2
  have a2 := Tryz.isAgg2
  have z2 := Tryz.sizeOf2
  have hS : Tryz.prog.underlying 76 = some (.struct (Tryz.prog.fieldsOf 76)) := by kernel_rfl
  have hp : Tryz.prog.stoodInHeld 76 = false := by kernel_rfl
  rw [run_neq_struct, show (10000 : Nat) = 9999 + 1 from rfl, run_equalIn_agg w 9999 76 _ _ hS hp]
  simp only [Program.fieldsOf, Tryz.underlying76]
  go_simp
  by_cases h1 : x1 = y1 <;> by_cases h2 : x2 = y2 <;> simp [h1, h2]
theorem run_neSame (x1 x2 : Int) (w : World) : Sem.run Tryz.prog (binOp .neq 76 (.agg #[.int .i64 x1, .int .i64 x2]) (.agg #[.int .i64 x1, .int .i64 x2])) w = .ok (.bool false) w := by
  have h := run_neKey x1 x2 x1 x2 w
  rw [h]; simp




end Go.Proofs.YtiiplikmoodfnaaGreatDoor
/-
  THE WALK OF sameLibrary.
-/
namespace Go.Proofs.YtiiplikmoodfnaaGreatDoor
open Go.RowKit Go.Sort

/-- two procedures alike -/
structure LikeP (x y : Pr) : Prop where
  name : x.name = y.name
  p : x.p = y.p
  n : x.n = y.n
  L : x.L = y.L
end Go.Proofs.YtiiplikmoodfnaaGreatDoor
