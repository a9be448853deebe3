import Derived.Test.YtiiplikmoodfnaaGreatDoorKLRefD
import Derived.Deep.RegionHeld3
import Derived.Deep.RegionLaw
import Derived.Test.YtiiplikmoodfnaaGreatDoorKAEnd
/-
  THE DOCUMENT's label: one mark more.
-/
namespace Go.Proofs.YtiiplikmoodfnaaGreatDoor
open Go.RowKit Go.Sort

/-- what the append of a mark leaves, and the store of the new list -/
def MkPost (W : World) (M B f : Nat) (r : Rv) (ls : List (List UInt8 × Nat)) (nm : List UInt8) (co : Option Addr) (cl cc : Nat) (v' : Value) (w' : World) : Prop :=
  (∃ o9 n9 c9, v' = .slice o9 n9 c9) ∧ w'.cell? ⟨B, 15, none⟩ = some r.marks ∧ w'.frozen? ⟨B, 15, none⟩ = false ∧ w'.cell? ⟨B, 10, none⟩ = some (.slice co cl cc) ∧ (w'.setCell ⟨B, 15, none⟩ v').cell? ⟨B, 10, none⟩ = some (.slice co cl cc) ∧
  Hid (FB (w'.setCell ⟨B, 15, none⟩ v') f (.int .i64 0) (.int .i64 0) (.int .i64 0) ∧ RX (w'.setCell ⟨B, 15, none⟩ v') B { r with marks := v' } ∧ (w'.setCell ⟨B, 15, none⟩ v').ownsRow M 116 2 v' (ls.length + 1) (wcs (ls ++ [(nm, cl)])) ∧ FrB B r.marks.ownBlock W (w'.setCell ⟨B, 15, none⟩ v'))
theorem lab_app {W : World} {M B f : Nat} {r : Rv} {ls : List (List UInt8 × Nat)} {nm : List UInt8} {co : Option Addr} {cl cc : Nat} (h : RX W B r) (hF : FB W f (.int .i64 0) (.int .i64 0) (.int .i64 0)) (hm : W.ownsRow M 116 2 r.marks ls.length (wcs ls)) (hls : ls.length ≤ 65537) (hcd : r.code = .slice co cl cc) (hM : M ≤ W.heap.size) (ty : TypeId) :
    ∃ v' w', (Builtin.append_ #[43, 43] ty #[r.marks, .slice (some ⟨W.heap.size, 0, none⟩) 1 1]).run Tryz.prog (W.alloc (.cells #[.string (S nm), .int .i64 (cl : Int)] 116)) = .ok v' w' ∧ MkPost W M B f r ls nm co cl cc v' w' := by
  obtain ⟨v', w', hr, h2, h3, _⟩ := app_one (TS := 43) Tryz.underlying43 infoMk rfl (by decide) (by decide) W M r.marks ls.length (wcs ls) [.string (S nm), .int .i64 (cl : Int)] hm rfl (by intro u hu; simp at hu; rcases hu with rfl | rfl <;> rfl) hls hM ty
  have hB : B < W.heap.size := (Array.getElem?_eq_some_iff.1 h).1
  have hf : f < W.heap.size := (Array.getElem?_eq_some_iff.1 hF).1
  have nB : some B ≠ r.marks.ownBlock := fun e => by
    obtain ⟨cur, hc⟩ := own_blk hm e.symm
    rw [show W.heap[B]? = _ from h] at hc
    simp only [Option.some.injEq, Obj.cells.injEq] at hc
    exact absurd hc.2.1 (by decide)
  have nf : some f ≠ r.marks.ownBlock := fun e => by
    obtain ⟨cur, hc⟩ := own_blk hm e.symm
    rw [show W.heap[f]? = _ from hF] at hc
    simp only [Option.some.injEq, Obj.cells.injEq] at hc
    exact absurd hc.2.1 (by decide)
  have fB : f ≠ B := fun e => by
    rw [e] at hF
    have h' : W.heap[B]? = _ := h
    rw [show W.heap[B]? = _ from hF] at h'
    simp only [Option.some.injEq, Obj.cells.injEq] at h'
    exact absurd h'.2.1 (by decide)
  have blk : ∀ k, k < W.heap.size → some k ≠ r.marks.ownBlock → w'.heap[k]? = W.heap[k]? := fun k hk hne => (h3.block k (by simp only [World.size_alloc]; omega) hne).trans (heap_alloc_old _ _ hk)
  have hx : RX w' B r := (blk B hB nB).trans h
  have hx2 := hx.set15 v'
  have hF2 : FB (w'.setCell ⟨B, 15, none⟩ v') f (.int .i64 0) (.int .i64 0) (.int .i64 0) := (heap_setCell_other _ _ _ _ fB).trans ((blk f hf nf).trans hF)
  obtain ⟨o9, c9, hv9, _⟩ := own_slice h2
  refine ⟨v', w', hr, ⟨o9, _, c9, hv9⟩, hx.cell 15, frozen_of_row _ _ 15 _ _ hx, by rw [hx.cell 10, ← hcd]; rfl, by rw [hx2.cell 10, ← hcd]; rfl, hF2, hx2, ?_, ?_⟩
  · rw [wcs_app]
    refine ownsRow_same h2 (fun g hg => heap_setCell_other _ _ _ _ (fun e => ?_))
    subst e
    obtain ⟨cur, hc⟩ := own_blk h2 hg
    rw [show w'.heap[g]? = _ from hx] at hc
    simp only [Option.some.injEq, Obj.cells.injEq] at hc
    exact absurd hc.2.1 (by decide)
  · refine ⟨h3.os, h3.tape, h3.output, ?_, fun k hk h1 h2 => (heap_setCell_other _ _ _ _ h1).trans (blk k hk (fun e => h2 e.symm))⟩
    have := h3.size
    have e : (w'.setCell ⟨B, 15, none⟩ v').heap.size = w'.heap.size := by simp
    rw [e]
    simp only [World.size_alloc] at this
    omega
end Go.Proofs.YtiiplikmoodfnaaGreatDoor
/-
  THE WALK OF THE DOCUMENT's label.
-/
namespace Go.Proofs.YtiiplikmoodfnaaGreatDoor
open Go.RowKit Go.Sort

theorem dropLast_piece (l : List UInt8) : pieceL l 0 (l.length - 1) = l.dropLast := by
  unfold pieceL
  rw [List.drop_zero, List.dropLast_eq_take]
set_option maxRecDepth 100000 in
set_option maxHeartbeats 4000000 in
theorem label_any (w : World) (M B : Nat) (r : Rv) (b off n wc : Nat) (x : Wd) (rest : List Wd) (ls : List (List UInt8 × Nat)) (co : Option Addr) (cl cc : Nat) (h : RX w B r) (hw : ∀ j u, (wcs (x :: rest))[j]? = some u → w.cell? ⟨b, off + j, none⟩ = some u) (hn : n = (x :: rest).length) (hne : x.1 ≠ []) (hxl : x.1.length ≤ 65536)
    (hm : w.ownsRow M 116 2 r.marks ls.length (wcs ls)) (hls : ls.length ≤ 65537) (hcd : r.code = .slice co cl cc) (hM : M ≤ w.heap.size) :
    Calls Tryz.prog 21 #[.pointer (some ⟨B, 0, none⟩), .slice (some ⟨b, off, none⟩) n wc] w fun e w' => RLabPost w M B r ls x rest cl e w' := by
  obtain ⟨w1, hw1⟩ : ∃ w1, w1 = w.alloc (.cells #[.int .i64 0, .int .i64 0, .int .i64 0] 24) := ⟨_, rfl⟩
  obtain ⟨f, hf⟩ : ∃ f, f = w.heap.size := ⟨_, rfl⟩
  have hb1 : Go.RowKit.Below w.heap.size w w1 := by rw [hw1]; exact bel_al _ _
  have hF : FB w1 f (.int .i64 0) (.int .i64 0) (.int .i64 0) := by rw [hw1, hf]; exact heap_alloc_new _ _ rfl
  have HF := hidA hF
  have HFl : Hid (f < w1.heap.size) := (Array.getElem?_eq_some_iff.1 hF).1
  have HFs := hidA hf
  have HB1 := hidA hb1
  have hw' : ∀ j u, (wcs (x :: rest))[j]? = some u → w1.cell? ⟨b, off + j, none⟩ = some u := fun j u hu => (hb1.cell (p := ⟨b, off + j, none⟩) (cell_lt (hw j u hu))).trans (hw j u hu)
  obtain ⟨d0, d1⟩ := wd_at hw' 0 (by simp)
  have d0' : w1.cell? ⟨b, off, none⟩ = some (.string (S x.1)) := d0
  have d1' : w1.cell? ⟨b, off + 1, none⟩ = some (.int .i64 (x.2 : Int)) := d1
  have hlen : 1 ≤ x.1.length := List.length_pos_iff.2 hne
  have hsz : (S x.1).size = x.1.length := S_size _
  have hex : (S x.1).extract 0 (x.1.length - 1) = S x.1.dropLast := by rw [S_piece, dropLast_piece]
  have hn1 : 0 < n := by rw [hn]; simp
  have HNm : Hid (∀ W', Calls Tryz.prog 23 #[.string (S x.1.dropLast)] W' fun e w' => e = .returned (.bool (nameB (S x.1.dropLast))) ∧ w' = W') := fun W' => refName_any W' (S x.1.dropLast) (by rw [S_size, List.length_dropLast]; omega)
  have HRX : Hid (∀ W', Go.RowKit.Below w1.heap.size w1 W' → RX W' B r) := fun W' hb => (h.kept hb1).kept hb
  have hm1 : w1.ownsRow M 116 2 r.marks ls.length (wcs ls) := ownsRow_same hm (fun g hg => hb1.block g (World.ownsRow.lt hm g hg).2)
  have HOw : Hid (∀ W', Go.RowKit.Below w1.heap.size w1 W' → W'.ownsRow M 116 2 r.marks ls.length (wcs ls)) := fun W' hb => ownsRow_same hm1 (fun g hg => hb.block g (World.ownsRow.lt hm1 g hg).2)
  obtain ⟨mo, mc, hmv, _⟩ := own_slice hm
  have HPl : Hid (∀ W', Go.RowKit.Below w1.heap.size w1 W' → Calls Tryz.prog 38 #[.pointer (some ⟨B, 0, none⟩), .string (S x.1.dropLast)] W' fun e w' => e = .returned (.int .i64 (plV ls x.1.dropLast)) ∧ w' = W') := fun W' hb => place_any W' B r mo ls.length mc ls x.1.dropLast (HRX.out W' hb) hmv (by have := HOw.out W' hb; rw [hmv] at this; exact own_read this) rfl hls
  have HMo : Hid (∀ W', Go.RowKit.Below w1.heap.size w1 W' → Calls Tryz.prog 37 #[.pointer (some ⟨B, 0, none⟩), .slice (some ⟨b, off, none⟩) n wc, .int .i64 1] W' fun en w' => en = .returned (moreV r.line (moreE (x :: rest) 1)) ∧ Go.RowKit.Below W'.heap.size W' w') := fun W' hb => more_any W' B r b off n wc 1 (x :: rest) (HRX.out W' hb) (fun j u hu => (hb.cell (p := ⟨b, off + j, none⟩) (cell_lt (hw' j u hu))).trans (hw' j u hu)) hn
  have HBd : Hid (∀ e W', Go.RowKit.Below w1.heap.size w1 W' → Calls Tryz.prog 34 #[.pointer (some ⟨B, 0, none⟩), .int .i64 (x.2 : Int), .int .i64 e] W' fun en w' => en = .returned (ftv (r.line : Int) (x.2 : Int) e) ∧ Go.RowKit.Below W'.heap.size W' w') := fun e W' hb => bad_any W' B r (x.2 : Int) e (HRX.out W' hb)
  have HD1 : Hid (∀ W', Go.RowKit.Below w1.heap.size w1 W' → W'.cell? ⟨b, off + 1, none⟩ = some (.int .i64 (x.2 : Int))) := fun W' hb => (hb.cell (p := ⟨b, off + 1, none⟩) (cell_lt d1')).trans d1'
  have HFF : Hid (∀ W', Go.RowKit.Below w1.heap.size w1 W' → FB W' f (.int .i64 0) (.int .i64 0) (.int .i64 0)) := fun W' hb => (hb.block f HFl.out).trans HF.out
  clear hw hw' d0 d1 d1' hF hb1 h hm hm1 hmv hn
  obtain ⟨xl, hxn⟩ : ∃ xl, xl = x.1.length := ⟨_, rfl⟩
  rw [← hxn] at hlen hsz hex hxl
  clear hxn
  obtain ⟨nm, hnm⟩ : ∃ nm, nm = x.1.dropLast := ⟨_, rfl⟩
  rw [← hnm] at hex HNm HPl
  have HNmE := hidA hnm
  clear hnm
  obtain ⟨sx, hsx⟩ : ∃ sx, sx = S x.1 := ⟨_, rfl⟩
  rw [← hsx] at hsz hex d0'
  clear hsx
  obtain ⟨sn, hsn⟩ : ∃ sn, sn = S nm := ⟨_, rfl⟩
  rw [← hsn] at hex HNm HPl
  have HSn := hidA hsn
  clear hsn
  obtain ⟨nb', hnb⟩ : ∃ nb', nb' = nameB sn := ⟨_, rfl⟩
  rw [← hnb] at HNm
  have HNb := hidA hnb
  clear hnb
  go_enter Tryz.func21, Tryz.ntmps21
  go_upto_region 1 with fail
  rw [← hw1, ← hf]
  clear hw1 hf
  go_quiet (fail)
  obtain ⟨w2, hw2⟩ : ∃ w2, w2 = w1.drewN nq := ⟨_, rfl⟩
  have HB2 : Hid (Go.RowKit.Below w1.heap.size w1 w2) := by rw [Hid, hw2]; exact bel_drewN w1 nq
  rw [← hw2]
  clear hw2 d0' hex
  go_wp2_with fail
  refine (HNm.out w2).mono ?_
  rintro e w3 ⟨rfl, hwq⟩
  have hwq' := hwq.symm
  subst hwq'
  clear hwq HNm
  cases nb' with
  | false =>
    have HE : Hid (labE ls x rest = some (x.2, 40)) := by rw [Hid]; unfold labE; rw [if_pos (by rw [← HNmE.out, ← HSn.out]; exact HNb.out.symm)]
    have d1 := HD1.out w2 HB2.out
    have HBx := hidA (HBd.out 40 w2 HB2.out)
    clear HPl HMo HD1 HBd HOw HRX
    go_wp2_with fail
    refine HBx.out.mono ?_
    rintro e w3 ⟨rfl, hb3⟩
    have hb13 := HB2.out.trans (hb3.mono HB2.out.size)
    obtain ⟨⟨g0, g1, g2⟩, ⟨c0, c1, c2⟩, hst⟩ := ft_facts (HFF.out w3 hb13)
    have hld := load_fault (hst (.int .i64 (r.line : Int)) (.int .i64 (x.2 : Int)) (.int .i64 40))
    have HX : Hid (Go.RowKit.Below w.heap.size w (((w3.setCell ⟨f, 0, none⟩ (.int .i64 (r.line : Int))).setCell ⟨f, 1, none⟩ (.int .i64 (x.2 : Int))).setCell ⟨f, 2, none⟩ (.int .i64 40))) := (HB1.out.trans (hb13.mono HB1.out.size)).trans (ft_below (Nat.le_of_eq HFs.out.symm) _ _ _)
    clear hb3 hb13 hst HBx d1
    go_wp2_with fail
    refine bodyPost_ret (v := ftv (r.line : Int) (x.2 : Int) 40) ?_ rfl ?_
    · simp [results, Tryz.results21, asAddr, hld]
    · exact .inl ⟨_, HE.out, rfl, HX.out⟩
  | true =>
    go_wp2_with fail
    refine (HPl.out w2 HB2.out).mono ?_
    rintro e w3 ⟨rfl, hwq⟩
    have hwq' := hwq.symm
    subst hwq'
    clear hwq HPl
    cases hlb : labN ls nm with
    | some t =>
      have HE : Hid (labE ls x rest = some (x.2, 43)) := by
        rw [Hid]; unfold labE
        rw [if_neg (by rw [← HNmE.out, ← HSn.out, ← HNb.out]; simp), ← HNmE.out, hlb]
        rfl
      have hp : plV ls nm = (t : Int) := by unfold plV; rw [hlb]
      have hp0 : (0 : Int) ≤ plV ls nm := by rw [hp]; omega
      have d1 := HD1.out w2 HB2.out
      have HBx := hidA (HBd.out 43 w2 HB2.out)
      clear HMo HD1 HBd HOw HRX hp hlb
      generalize plV ls nm = pl at *
      go_wp2_with fail
      refine HBx.out.mono ?_
      rintro e w3 ⟨rfl, hb3⟩
      have hb13 := HB2.out.trans (hb3.mono HB2.out.size)
      obtain ⟨⟨g0, g1, g2⟩, ⟨c0, c1, c2⟩, hst⟩ := ft_facts (HFF.out w3 hb13)
      have hld := load_fault (hst (.int .i64 (r.line : Int)) (.int .i64 (x.2 : Int)) (.int .i64 43))
      have HX : Hid (Go.RowKit.Below w.heap.size w (((w3.setCell ⟨f, 0, none⟩ (.int .i64 (r.line : Int))).setCell ⟨f, 1, none⟩ (.int .i64 (x.2 : Int))).setCell ⟨f, 2, none⟩ (.int .i64 43))) := (HB1.out.trans (hb13.mono HB1.out.size)).trans (ft_below (Nat.le_of_eq HFs.out.symm) _ _ _)
      clear hb3 hb13 hst HBx d1
      go_wp2_with fail
      refine bodyPost_ret (v := ftv (r.line : Int) (x.2 : Int) 43) ?_ rfl ?_
      · simp [results, Tryz.results21, asAddr, hld]
      · exact .inl ⟨_, HE.out, rfl, HX.out⟩
    | none =>
      have HE : Hid (labE ls x rest = rEnd (rest, 0)) := by
        rw [Hid]; unfold labE
        rw [if_neg (by rw [← HNmE.out, ← HSn.out, ← HNb.out]; simp), ← HNmE.out, hlb]
        rfl
      have hp0 : plV ls nm = -1 := by unfold plV; rw [hlb]
      rw [hp0]
      clear hp0 hlb HD1 HBd
      cases rest with
      | cons y rest =>
        have HMx := hidA (HMo.out w2 HB2.out)
        have hmv : moreV r.line (moreE (x :: y :: rest) 1) = ftv (r.line : Int) (y.2 : Int) 40 := rfl
        rw [hmv] at HMx
        clear HMo HOw HRX hmv
        go_wp2_with fail
        refine HMx.out.mono ?_
        rintro e w3 ⟨rfl, hb3⟩
        have hb13 := HB2.out.trans (hb3.mono HB2.out.size)
        obtain ⟨w4, hw4⟩ : ∃ w4, w4 = w3.alloc (.cells #[.int .i64 (r.line : Int), .int .i64 (y.2 : Int), .int .i64 40] 24) := ⟨_, rfl⟩
        have hb4 : Go.RowKit.Below w3.heap.size w3 w4 := by rw [hw4]; exact bel_al _ _
        have hb14 := hb13.trans (hb4.mono hb13.size)
        obtain ⟨⟨g0, g1, g2⟩, ⟨c0, c1, c2⟩, hst⟩ := ft_facts (HFF.out w4 hb14)
        have hld := load_fault (hst (.int .i64 (r.line : Int)) (.int .i64 (y.2 : Int)) (.int .i64 40))
        have HX : Hid (Go.RowKit.Below w.heap.size w (((w4.setCell ⟨f, 0, none⟩ (.int .i64 (r.line : Int))).setCell ⟨f, 1, none⟩ (.int .i64 (y.2 : Int))).setCell ⟨f, 2, none⟩ (.int .i64 40))) := (HB1.out.trans (hb14.mono HB1.out.size)).trans (ft_below (Nat.le_of_eq HFs.out.symm) _ _ _)
        obtain ⟨f4, hf4⟩ : ∃ f4, f4 = w3.heap.size := ⟨_, rfl⟩
        have hF4 : FB w4 f4 (.int .i64 (r.line : Int)) (.int .i64 (y.2 : Int)) (.int .i64 40) := by rw [hw4, hf4]; exact heap_alloc_new _ _ rfl
        have e2 : w4.cell? ⟨f4, 2, none⟩ = some (.int .i64 40) := by unfold World.cell?; rw [show w4.heap[f4]? = _ from hF4]; rfl
        have e1 : w4.cell? ⟨f4, 1, none⟩ = some (.int .i64 (y.2 : Int)) := by unfold World.cell?; rw [show w4.heap[f4]? = _ from hF4]; rfl
        have e0 : w4.cell? ⟨f4, 0, none⟩ = some (.int .i64 (r.line : Int)) := by unfold World.cell?; rw [show w4.heap[f4]? = _ from hF4]; rfl
        clear hb3 hb13 hb4 hb14 hst HMx hF4
        go_upto_region 8 with fail
        rw [← hw4, ← hf4]
        clear hw4 hf4
        go_wp2_with fail
        refine bodyPost_ret (v := ftv (r.line : Int) (y.2 : Int) 40) ?_ rfl ?_
        · simp [results, Tryz.results21, asAddr, hld]
        · exact .inl ⟨(y.2, 40), HE.out, rfl, HX.out⟩
      | nil =>
        have HMx := hidA (HMo.out w2 HB2.out)
        have hmv : moreV r.line (moreE [x] 1) = ftv 0 0 0 := rfl
        rw [hmv] at HMx
        clear HMo hmv
        go_wp2_with fail
        refine HMx.out.mono ?_
        rintro e w3 ⟨rfl, hb3⟩
        have hb13 := HB2.out.trans (hb3.mono HB2.out.size)
        obtain ⟨w4, hw4⟩ : ∃ w4, w4 = w3.alloc (.cells #[.int .i64 0, .int .i64 0, .int .i64 0] 24) := ⟨_, rfl⟩
        have hb4 : Go.RowKit.Below w3.heap.size w3 w4 := by rw [hw4]; exact bel_al _ _
        have HB4 : Hid (Go.RowKit.Below w1.heap.size w1 w4) := hb13.trans (hb4.mono hb13.size)
        obtain ⟨f4, hf4⟩ : ∃ f4, f4 = w3.heap.size := ⟨_, rfl⟩
        have hF4 : FB w4 f4 (.int .i64 0) (.int .i64 0) (.int .i64 0) := by rw [hw4, hf4]; exact heap_alloc_new _ _ rfl
        have e2 : w4.cell? ⟨f4, 2, none⟩ = some (.int .i64 0) := by unfold World.cell?; rw [show w4.heap[f4]? = _ from hF4]; rfl
        clear hb3 hb13 hb4 HMx hF4
        go_upto_region 8 with fail
        rw [← hw4, ← hf4]
        clear hw4 hf4
        go_upto_region 10 with fail
        clear e2
        have hbd : Go.RowKit.Below w1.heap.size w1 w4.drew := HB4.out.trans ((bel_drewN w4 1).mono HB4.out.size)
        have hRd := HRX.out _ hbd
        have hS0 : w4.drew.cell? ⟨B, 10, none⟩ = some (.slice co cl cc) := by rw [hRd.cell 10, ← hcd]; rfl
        have hbo : ∀ o, Go.RowKit.Below w1.heap.size w1 (w4.drew.alloc o) := fun o => hbd.trans ((bel_al _ _).mono hbd.size)
        have hS3 : ∀ o, (w4.drew.alloc o).cell? ⟨B, 10, none⟩ = some (.slice co cl cc) := fun o => by rw [(HRX.out _ (hbo o)).cell 10, ← hcd]; rfl
        have hMd : M ≤ w4.drew.heap.size := Nat.le_trans hM (Nat.le_trans HB1.out.size hbd.size)
        have hAp := fun ty => lab_app (nm := nm) (cc := cc) (co := co) hRd (HFF.out _ hbd) (HOw.out _ hbd) hls hcd hMd ty
        obtain ⟨mo', ml, mc', hmk, _⟩ : ∃ mo' ml mc', r.marks = .slice mo' ml mc' ∧ True := by obtain ⟨a1, c1, e1, _⟩ := own_slice (HOw.out _ hbd); exact ⟨a1, _, c1, e1, trivial⟩
        have a15 : w4.drew.cell? ⟨B, 15, none⟩ = some (.slice mo' ml mc') := by rw [hRd.cell 15, ← hmk]; rfl
        have a15w : w4.cell? ⟨B, 15, none⟩ = some (.slice mo' ml mc') := a15
        have a15' : ∀ o, (w4.alloc o).cell? ⟨B, 15, none⟩ = some (.slice mo' ml mc') := fun o => by
          have := (HRX.out _ (hbo o)).cell 15
          exact this.trans (by rw [← hmk]; rfl)
        have HFin : Hid (∀ (v' : Value) (w9 : World), FB w9 f (.int .i64 0) (.int .i64 0) (.int .i64 0) → RX w9 B { r with marks := v' } → w9.ownsRow M 116 2 v' (ls.length + 1) (wcs (ls ++ [(nm, cl)])) → FrB B r.marks.ownBlock w4.drew w9 → RLabPost w M B r ls x [] cl (.returned (ftv 0 0 0)) (((w9.setCell ⟨f, 0, none⟩ (.int .i64 0)).setCell ⟨f, 1, none⟩ (.int .i64 0)).setCell ⟨f, 2, none⟩ (.int .i64 0))) := fun v' w9 p1 p2 p3 p4 => by
          have oth : ∀ k, k ≠ f → (((w9.setCell ⟨f, 0, none⟩ (.int .i64 0)).setCell ⟨f, 1, none⟩ (.int .i64 0)).setCell ⟨f, 2, none⟩ (.int .i64 0)).heap[k]? = w9.heap[k]? := fun k hk => (heap_setCell_other _ _ _ _ hk).trans ((heap_setCell_other _ _ _ _ hk).trans (heap_setCell_other _ _ _ _ hk))
          have nB : B ≠ f := fun e => by
            have h1 : w9.heap[B]? = _ := p2
            rw [e, show w9.heap[f]? = _ from p1] at h1
            simp only [Option.some.injEq, Obj.cells.injEq] at h1
            exact absurd h1.2.1 (by decide)
          refine .inr ⟨by rw [HE.out]; rfl, rfl, v', (oth B nB).trans p2, ?_, ?_⟩
          · rw [← HNmE.out]
            refine ownsRow_same p3 (fun g hg => oth g (fun e => ?_))
            obtain ⟨cur, hc⟩ := own_blk p3 hg
            rw [e, show w9.heap[f]? = _ from p1] at hc
            simp only [Option.some.injEq, Obj.cells.injEq] at hc
            exact absurd hc.2.1 (by decide)
          · have hq : FrB B r.marks.ownBlock w w9 := FrB.bel (HB1.out.trans (hbd.mono HB1.out.size)) p4
            have hz := ft_below (W := w9) (Nat.le_of_eq HFs.out.symm) (.int .i64 0) (.int .i64 0) (.int .i64 0)
            exact ⟨hz.os.trans hq.os, hz.tape.trans hq.tape, hz.output.trans hq.output, Nat.le_trans hq.size hz.size, fun k hk h1 h2 => (hz.block k hk).trans (hq.block k hk h1 h2)⟩
        rw [hmk] at hAp
        have HAp : Hid (∀ ty, ∃ v' w', (Builtin.append_ #[43, 43] ty #[.slice mo' ml mc', .slice (some ⟨w4.heap.size, 0, none⟩) 1 1]).run Tryz.prog (w4.alloc (.cells #[.string sn, .int .i64 (cl : Int)] 116)).drew = .ok v' w' ∧ MkPost w4.drew M B f r ls nm co cl cc v' w') := by rw [HSn.out]; exact hAp
        clear hAp hmk hRd hbd hbo hMd HOw HRX HFF
        -- REGION
        refine wp_region_held_drew (S := fun w' => w'.cell? ⟨B, 10, none⟩ = some (.slice co cl cc)) (by kernel_rfl) ?_ (fun hHeld => ?_)
        · exact hS0
        refine wpAnyH_take (i := 0) (v := .pointer (some ⟨B, 0, none⟩)) rfl (by kernel_rfl) (by kernel_rfl) (by kernel_rfl) (fun _ _ _ h => h) (Or.inl ⟨by rfl, by intro w hSw; (try dsimp only at hSw); go_simp⟩) (by assumption) ?_
        refine wpAnyH_take (i := 1) (v := .pointer (some ⟨B, 0, none⟩)) rfl (by kernel_rfl) (by kernel_rfl) (by kernel_rfl) (fun _ _ _ h => h) (Or.inl ⟨by rfl, by intro w hSw; (try dsimp only at hSw); go_simp⟩) (by assumption) ?_
        refine wpAnyH_take (i := 2) (v := .pointer (some ⟨B, 0, none⟩)) rfl (by kernel_rfl) (by kernel_rfl) (by kernel_rfl) (fun _ _ _ h => h) (Or.inl ⟨by rfl, by intro w hSw; (try dsimp only at hSw); go_simp⟩) (by assumption) ?_
        refine wpAnyH_take (i := 3) (v := .pointer (some ⟨B, 15, none⟩)) rfl (by kernel_rfl) (by kernel_rfl) (by kernel_rfl) (fun _ _ _ h => h) (Or.inl ⟨by rfl, by intro w hSw; (try dsimp only at hSw); go_simp⟩) (by assumption) ?_
        refine wpAnyH_take (i := 5) (v := .string sn) rfl (by kernel_rfl) (by kernel_rfl) (by kernel_rfl) (fun _ _ _ h => h) (Or.inl ⟨by rfl, by intro w hSw; (try dsimp only at hSw); go_simp⟩) (by assumption) ?_
        refine wpAnyH_take (i := 6) (v := .pointer (some ⟨B, 0, none⟩)) rfl (by kernel_rfl) (by kernel_rfl) (by kernel_rfl) (fun _ _ _ h => h) (Or.inl ⟨by rfl, by intro w hSw; (try dsimp only at hSw); go_simp⟩) (by assumption) ?_
        refine wpAnyH_take (i := 7) (v := .pointer (some ⟨B, 0, none⟩)) rfl (by kernel_rfl) (by kernel_rfl) (by kernel_rfl) (fun _ _ _ h => h) (Or.inl ⟨by rfl, by intro w hSw; (try dsimp only at hSw); go_simp⟩) (by assumption) ?_
        refine wpAnyH_take (i := 8) (v := .pointer (some ⟨B, 6, none⟩)) rfl (by kernel_rfl) (by kernel_rfl) (by kernel_rfl) (fun _ _ _ h => h) (Or.inl ⟨by rfl, by intro w hSw; (try dsimp only at hSw); go_simp⟩) (by assumption) ?_
        refine wpAnyH_take (i := 9) (v := .pointer (some ⟨B, 10, none⟩)) rfl (by kernel_rfl) (by kernel_rfl) (by kernel_rfl) (fun _ _ _ h => h) (Or.inl ⟨by rfl, by intro w hSw; (try dsimp only at hSw); go_simp⟩) (by assumption) ?_
        refine wpAnyH_take (i := 10) (v := .slice co cl cc) rfl (by kernel_rfl) (by kernel_rfl) (by kernel_rfl) (fun _ _ _ h => h) (Or.inl ⟨by rfl, by intro w hSw; (try dsimp only at hSw); go_simp⟩) (by assumption) ?_
        refine wpAnyH_take (i := 11) (v := .int .i64 (cl : Int)) rfl (by kernel_rfl) (by kernel_rfl) (by kernel_rfl) (fun _ _ _ h => h) (Or.inl ⟨by rfl, by intro w hSw; (try dsimp only at hSw); go_simp⟩) (by assumption) ?_
        refine wpAnyH_take (i := 12) (v := .agg #[.string sn, .int .i64 (cl : Int)]) rfl (by kernel_rfl) (by kernel_rfl) (by kernel_rfl) (fun _ _ _ h => h) (Or.inl ⟨by rfl, by intro w hSw; (try dsimp only at hSw); go_simp⟩) (by assumption) ?_
        refine wpAnyH_ready (rs := [4, 13]) (by kernel_rfl) (by simp) ?_
        refine AllReadyH.cons rfl (fun K hK => ?_) ?_
        · go_simp
          refine hK.out _ _ (by assumption) (fun hHeld => ?_)
          clear hK K
          refine wpAnyH_ready (rs := [13]) (by kernel_rfl) (by simp) ?_
          refine AllReadyH.cons rfl (fun K hK => ?_) ?_
          · go_simp
            refine hK.out _ _ (by exact hS3 _) (fun hHeld => ?_)
            clear hK K
            refine wpAnyH_ready (rs := [14]) (by kernel_rfl) (by simp) ?_
            refine AllReadyH.cons rfl (fun K hK => ?_) ?_
            · refine step_appA rfl _ _ 43 rfl (.slice mo' ml mc') (.slice (some ⟨w4.heap.size, 0, none⟩) 1 1) rfl rfl HAp.out ?_
              rintro v' w9 ⟨⟨o9, n9, c9, rfl⟩, t1, t2, t3, t4, HP9⟩
              refine hK.out _ _ (by exact t3) (fun hHeld => ?_)
              clear hK K
              refine wpAnyH_take (i := 15) (v := .pointer (some ⟨B, 0, none⟩)) rfl (by kernel_rfl) (by kernel_rfl) (by kernel_rfl) (fun _ _ _ h => h) (Or.inl ⟨by rfl, by intro w hSw; (try dsimp only at hSw); go_simp⟩) (by assumption) ?_
              refine wpAnyH_take (i := 16) (v := .pointer (some ⟨B, 15, none⟩)) rfl (by kernel_rfl) (by kernel_rfl) (by kernel_rfl) (fun _ _ _ h => h) (Or.inl ⟨by rfl, by intro w hSw; (try dsimp only at hSw); go_simp⟩) (by assumption) ?_
              refine wpAnyH_ready (rs := [17]) (by kernel_rfl) (by simp) ?_
              refine AllReadyH.cons rfl (fun K hK => ?_) ?_
              · go_simp
                refine hK.out _ _ (by exact t4) (fun hHeld => ?_)
                clear hK K
                refine wpAnyH_done (by kernel_rfl) ?_ _
                obtain ⟨p1, p2, p3, p4⟩ := HP9.out
                obtain ⟨⟨g0, g1, g2⟩, ⟨c0, c1, c2⟩, hst⟩ := ft_facts p1
                have hld := load_fault (hst (.int .i64 0) (.int .i64 0) (.int .i64 0))
                have HX := HFin.out _ _ p1 p2 p3 p4
                clear p1 p2 p3 p4 HP9 hst t1 t2 t3 t4
                go_wp2_with fail
                refine bodyPost_ret (v := ftv 0 0 0) ?_ rfl ?_
                · simp [results, Tryz.results21, asAddr, hld]
                · exact HX
              exact AllReadyH.nil
            exact AllReadyH.nil
          exact AllReadyH.nil
        refine AllReadyH.cons rfl (fun K hK => ?_) ?_
        · go_simp
          refine hK.out _ _ (by exact hS3 _) (fun hHeld => ?_)
          clear hK K
          refine wpAnyH_ready (rs := [4]) (by kernel_rfl) (by simp) ?_
          refine AllReadyH.cons rfl (fun K hK => ?_) ?_
          · go_simp
            refine hK.out _ _ (by assumption) (fun hHeld => ?_)
            clear hK K
            refine wpAnyH_ready (rs := [14]) (by kernel_rfl) (by simp) ?_
            refine AllReadyH.cons rfl (fun K hK => ?_) ?_
            · refine step_appA rfl _ _ 43 rfl (.slice mo' ml mc') (.slice (some ⟨w4.heap.size, 0, none⟩) 1 1) rfl rfl HAp.out ?_
              rintro v' w9 ⟨⟨o9, n9, c9, rfl⟩, t1, t2, t3, t4, HP9⟩
              refine hK.out _ _ (by exact t3) (fun hHeld => ?_)
              clear hK K
              refine wpAnyH_take (i := 15) (v := .pointer (some ⟨B, 0, none⟩)) rfl (by kernel_rfl) (by kernel_rfl) (by kernel_rfl) (fun _ _ _ h => h) (Or.inl ⟨by rfl, by intro w hSw; (try dsimp only at hSw); go_simp⟩) (by assumption) ?_
              refine wpAnyH_take (i := 16) (v := .pointer (some ⟨B, 15, none⟩)) rfl (by kernel_rfl) (by kernel_rfl) (by kernel_rfl) (fun _ _ _ h => h) (Or.inl ⟨by rfl, by intro w hSw; (try dsimp only at hSw); go_simp⟩) (by assumption) ?_
              refine wpAnyH_ready (rs := [17]) (by kernel_rfl) (by simp) ?_
              refine AllReadyH.cons rfl (fun K hK => ?_) ?_
              · go_simp
                refine hK.out _ _ (by exact t4) (fun hHeld => ?_)
                clear hK K
                refine wpAnyH_done (by kernel_rfl) ?_ _
                obtain ⟨p1, p2, p3, p4⟩ := HP9.out
                obtain ⟨⟨g0, g1, g2⟩, ⟨c0, c1, c2⟩, hst⟩ := ft_facts p1
                have hld := load_fault (hst (.int .i64 0) (.int .i64 0) (.int .i64 0))
                have HX := HFin.out _ _ p1 p2 p3 p4
                clear p1 p2 p3 p4 HP9 hst t1 t2 t3 t4
                go_wp2_with fail
                refine bodyPost_ret (v := ftv 0 0 0) ?_ rfl ?_
                · simp [results, Tryz.results21, asAddr, hld]
                · exact HX
              exact AllReadyH.nil
            exact AllReadyH.nil
          exact AllReadyH.nil
        exact AllReadyH.nil
        -- END
end Go.Proofs.YtiiplikmoodfnaaGreatDoor
/-
  THE DOCUMENT's READER IN MEMORY.
-/
namespace Go.Proofs.YtiiplikmoodfnaaGreatDoor
open Go.RowKit Go.Sort

/-- places, as faults -/
def fcs : List (Nat × Nat) → List Value
  | [] => []
  | x :: l => .int .i64 (x.1 : Int) :: .int .i64 (x.2 : Int) :: .int .i64 0 :: fcs l
theorem fcs_len (l : List (Nat × Nat)) : (fcs l).length = l.length * 3 := by
  induction l with
  | nil => rfl
  | cons x l ih => simp only [fcs, List.length_cons, ih]; omega
theorem fcs_app (a b : List (Nat × Nat)) : fcs (a ++ b) = fcs a ++ fcs b := by
  induction a with
  | nil => rfl
  | cons x a ih => simp [fcs, ih]
theorem fcs_at (l : List (Nat × Nat)) (i : Nat) (hi : i < l.length) : (fcs l)[i * 3]? = some (.int .i64 (l[i].1 : Int)) ∧ (fcs l)[i * 3 + 1]? = some (.int .i64 (l[i].2 : Int)) ∧ (fcs l)[i * 3 + 2]? = some (.int .i64 0) := by
  induction l generalizing i with
  | nil => simp at hi
  | cons v l ih =>
    cases i with
    | zero => simp [fcs]
    | succ i =>
      have := ih i (by simpa using hi)
      rw [show (i + 1) * 3 = i * 3 + 1 + 1 + 1 by omega]
      simpa [fcs] using this
/-- THE READER: its box B; all else of it lies from M on. Qs: the procedures that are closed, nl their names' places, Lo the open one's code -/
structure DS (W : World) (M B : Nat) (a : As) (Qs : List Pr) (nl : List (Nat × Nat)) (Lo : List K) (r : Rv) : Prop where
  rx : RX W B r
  op : r.opn = a.opn
  bg : r.begun = a.begun
  lib : OwnP W M r.lib Qs
  eq : a.lib = Qs.map ppOf ++ (if a.opn then [⟨r.name, r.p, Lo⟩] else [])
  code : ∀ x ∈ Qs, x.n = x.L.length ∧ W.ownsRow M 76 2 (cdV x) x.n (cks x.L)
  ap : Qs.Pairwise (fun x y => ∀ g, (cdV x).ownBlock = some g → (cdV y).ownBlock ≠ some g)
  nms : W.ownsRow M 24 3 r.names nl.length (fcs nl)
  neq : a.names = nl ++ (if a.opn then [r.nmAt] else [])
  mks : W.ownsRow M 116 2 r.marks a.labels.length (wcs a.labels)
  us : W.ownsRow M 113 4 r.uses a.jumps.length (jpc a.jumps)
  oc : a.opn = true → W.ownsRow M 76 2 r.code Lo.length (cks Lo) ∧ ∀ x ∈ Qs, ∀ g, (cdV x).ownBlock = some g → r.code.ownBlock ≠ some g
  ok : ∀ x ∈ Qs, NIn x.p ∧ (∀ k ∈ x.L, KIn k) ∧ x.name.size ≤ 65536
  oko : a.opn = true → NIn r.p ∧ (∀ k ∈ Lo, KIn k) ∧ r.name.length ≤ 65536
  bm : B < M ∧ M ≤ W.heap.size
  cv : ∀ g, r.code.ownBlock = some g → M ≤ g ∧ g < W.heap.size
theorem RX.ne {W : World} {B g : Nat} {r : Rv} {cur : Array Value} {t : TypeId} (h : RX W B r) (hg : W.heap[g]? = some (.cells cur t (0, 0))) (ht : t ≠ 46) : g ≠ B := fun e => by
  rw [e, show W.heap[B]? = _ from h] at hg
  simp only [Option.some.injEq, Obj.cells.injEq] at hg
  exact ht hg.2.1.symm
theorem FrB.row {W W' : World} {B : Nat} {row : Option Nat} {r : Rv} {base e size n : Nat} {v : Value} {xs : List Value} (hf : FrB B row W W') (hx : RX W B r) (ho : W.ownsRow base e size v n xs) (he : e ≠ 46) (hr : ∀ g, row = some g → v.ownBlock ≠ some g) : W'.ownsRow base e size v n xs :=
  ownsRow_same ho (fun g hg => by
    obtain ⟨cur, hc⟩ := own_blk ho hg
    exact hf.block g (World.ownsRow.lt ho g hg).2 (hx.ne hc he) (fun e1 => hr g e1 hg))
theorem FrB.rowT {W W' : World} {B : Nat} {r : Rv} {base e size n base' e' size' n' : Nat} {v v' : Value} {xs xs' : List Value} (ho' : W.ownsRow base' e' size' v' n' xs') (hf : FrB B v'.ownBlock W W') (hx : RX W B r) (ho : W.ownsRow base e size v n xs) (he : e ≠ 46) (hn : e ≠ e') : W'.ownsRow base e size v n xs :=
  hf.row hx ho he (fun g h1 h2 => by
    obtain ⟨cur, hc⟩ := own_blk ho h2
    obtain ⟨cur', hc'⟩ := own_blk ho' h1
    rw [hc] at hc'
    simp only [Option.some.injEq, Obj.cells.injEq] at hc'
    exact hn hc'.2.1)
theorem FrB.rowN {W W' : World} {B : Nat} {r : Rv} {base e size n : Nat} {v : Value} {xs : List Value} (hf : FrB B none W W') (hx : RX W B r) (ho : W.ownsRow base e size v n xs) (he : e ≠ 46) : W'.ownsRow base e size v n xs := hf.row hx ho he (fun g h => by cases h)
theorem FrB.set {W W' : World} {B j : Nat} {row : Option Nat} {v : Value} (hf : FrB B row W W') : FrB B row W (W'.setCell ⟨B, j, none⟩ v) :=
  ⟨hf.os, hf.tape, hf.output, by simpa using hf.size, fun k hk h1 h2 => (heap_setCell_other _ _ _ _ h1).trans (hf.block k hk h1 h2)⟩
theorem FrB.refl (B : Nat) (row : Option Nat) (W : World) : FrB B row W W := ⟨rfl, rfl, rfl, Nat.le_refl _, fun _ _ _ _ => rfl⟩
theorem FrB.ofB {W W' : World} {B : Nat} (hb : Go.RowKit.Below W.heap.size W W') : FrB B none W W' := ⟨hb.os, hb.tape, hb.output, hb.size, fun k hk _ _ => hb.block k hk⟩
theorem FrB.fra {W W' : World} {M B : Nat} {row : Option Nat} (hf : FrB B row W W') (hM : M ≤ W.heap.size) (hr : ∀ g, row = some g → M ≤ g) : FrA M B W W' :=
  ⟨hf.os, hf.tape, hf.output, hf.size, fun k hk h1 => hf.block k (by omega) h1 (fun e => by have := hr k e; omega)⟩
theorem FrB.wide {W W' : World} {B : Nat} {row : Option Nat} (hf : FrB B none W W') : FrB B row W W' := ⟨hf.os, hf.tape, hf.output, hf.size, fun k hk h1 _ => hf.block k hk h1 (by simp)⟩
theorem own_ge {W : World} {base e size n : Nat} {v : Value} {xs : List Value} (h : W.ownsRow base e size v n xs) : ∀ g, v.ownBlock = some g → base ≤ g := fun g hg => (World.ownsRow.lt h g hg).1
section
variable {W W' : World} {M B : Nat} {a : As} {Qs : List Pr} {nl : List (Nat × Nat)} {Lo : List K} {r : Rv}
/-- nothing of it turns -/
theorem DS.below (h : DS W M B a Qs nl Lo r) (hb : Go.RowKit.Below W.heap.size W W') : DS W' M B a Qs nl Lo r := by
  have f := FrB.ofB (B := B) hb
  exact ⟨h.rx.kept hb, h.op, h.bg, f.rowN h.rx h.lib (by decide), h.eq, fun x hx => ⟨(h.code x hx).1, f.rowN h.rx (h.code x hx).2 (by decide)⟩, h.ap, f.rowN h.rx h.nms (by decide), h.neq, f.rowN h.rx h.mks (by decide), f.rowN h.rx h.us (by decide), fun ho => ⟨f.rowN h.rx (h.oc ho).1 (by decide), (h.oc ho).2⟩, h.ok, h.oko, ⟨h.bm.1, Nat.le_trans h.bm.2 hb.size⟩, fun g hg => ⟨(h.cv g hg).1, Nat.lt_of_lt_of_le (h.cv g hg).2 (hb.size)⟩⟩
/-- another line's number -/
theorem DS.lined (h : DS W M B a Qs nl Lo r) (n : Nat) : DS (W.setCell ⟨B, 17, none⟩ (.int .i64 (n : Int))) M B a Qs nl Lo { r with line := n } := by
  have f : FrB B none W (W.setCell ⟨B, 17, none⟩ (.int .i64 (n : Int))) := (FrB.refl B none W).set
  exact ⟨heap_setCell_same W B 17 _ _ _ h.rx, h.op, h.bg, f.rowN h.rx h.lib (by decide), h.eq, fun x hx => ⟨(h.code x hx).1, f.rowN h.rx (h.code x hx).2 (by decide)⟩, h.ap, f.rowN h.rx h.nms (by decide), h.neq, f.rowN h.rx h.mks (by decide), f.rowN h.rx h.us (by decide), fun ho => ⟨f.rowN h.rx (h.oc ho).1 (by decide), (h.oc ho).2⟩, h.ok, h.oko, ⟨h.bm.1, by simpa using h.bm.2⟩, fun g hg => by simpa using h.cv g hg⟩
/-- one label more -/
theorem DS.lab (h : DS W M B a Qs nl Lo r) {v' : Value} {nm : List UInt8} {t : Nat} (hx : RX W' B { r with marks := v' }) (hm : W'.ownsRow M 116 2 v' (a.labels.length + 1) (wcs (a.labels ++ [(nm, t)]))) (f : FrB B r.marks.ownBlock W W') : DS W' M B { a with labels := a.labels ++ [(nm, t)] } Qs nl Lo { r with marks := v' } := by
  refine ⟨hx, h.op, h.bg, FrB.rowT h.mks f h.rx h.lib (by decide) (by decide), h.eq, fun x hx => ⟨(h.code x hx).1, FrB.rowT h.mks f h.rx (h.code x hx).2 (by decide) (by decide)⟩, h.ap, FrB.rowT h.mks f h.rx h.nms (by decide) (by decide), h.neq, ?_, FrB.rowT h.mks f h.rx h.us (by decide) (by decide), fun ho => ⟨FrB.rowT h.mks f h.rx (h.oc ho).1 (by decide) (by decide), (h.oc ho).2⟩, h.ok, h.oko, ⟨h.bm.1, Nat.le_trans h.bm.2 f.size⟩, fun g hg => ⟨(h.cv g hg).1, Nat.lt_of_lt_of_le (h.cv g hg).2 (f.size)⟩⟩
  show W'.ownsRow M _ 2 v' (a.labels ++ [(nm, t)]).length _
  rw [List.length_append]
  exact hm
/-- one use more -/
theorem DS.use (h : DS W M B a Qs nl Lo r) {v' : Value} {j : Jp} (hx : RX W' B { r with uses := v' }) (hm : W'.ownsRow M 113 4 v' (a.jumps.length + 1) (jpc a.jumps ++ jpc [j])) (f : FrB B r.uses.ownBlock W W') : DS W' M B { a with jumps := a.jumps ++ [j] } Qs nl Lo { r with uses := v' } := by
  refine ⟨hx, h.op, h.bg, FrB.rowT h.us f h.rx h.lib (by decide) (by decide), h.eq, fun x hx => ⟨(h.code x hx).1, FrB.rowT h.us f h.rx (h.code x hx).2 (by decide) (by decide)⟩, h.ap, FrB.rowT h.us f h.rx h.nms (by decide) (by decide), h.neq, FrB.rowT h.us f h.rx h.mks (by decide) (by decide), ?_, fun ho => ⟨FrB.rowT h.us f h.rx (h.oc ho).1 (by decide) (by decide), (h.oc ho).2⟩, h.ok, h.oko, ⟨h.bm.1, Nat.le_trans h.bm.2 f.size⟩, fun g hg => ⟨(h.cv g hg).1, Nat.lt_of_lt_of_le (h.cv g hg).2 (f.size)⟩⟩
  show W'.ownsRow M _ 4 v' (a.jumps ++ [j]).length _
  rw [List.length_append, jpc_app]
  exact hm
theorem DS.lastP (h : DS W M B a Qs nl Lo r) (ho : a.opn = true) : lastP a = ⟨r.name, r.p, Lo⟩ := by
  unfold Go.Proofs.YtiiplikmoodfnaaGreatDoor.lastP
  rw [h.eq, if_pos ho]
  simp
theorem DS.setLib (h : DS W M B a Qs nl Lo r) (ho : a.opn = true) (L : List K) : (setL a L).lib = Qs.map ppOf ++ [⟨r.name, r.p, L⟩] := by
  show a.lib.dropLast ++ [{ Go.Proofs.YtiiplikmoodfnaaGreatDoor.lastP a with L := L }] = _
  rw [h.lastP ho, h.eq, if_pos ho, List.dropLast_concat]
/-- the open procedure has other code, in a row that is its own -/
theorem DS.recode (h : DS W M B a Qs nl Lo r) (ho : a.opn = true) {v' : Value} {L : List K} (hx : RX W' B { r with code := v' }) (hm : W'.ownsRow M 76 2 v' L.length (cks L)) (f : FrB B r.code.ownBlock W W') (hv : v'.ownBlock = r.code.ownBlock ∨ ∃ k, v'.ownBlock = some k ∧ W.heap.size ≤ k) (hL : ∀ k ∈ L, KIn k) : DS W' M B (setL a L) Qs nl L { r with code := v' } := by
  obtain ⟨c1, c2⟩ := h.oc ho
  refine ⟨hx, h.op, h.bg, FrB.rowT c1 f h.rx h.lib (by decide) (by decide), ?_, fun x hx => ⟨(h.code x hx).1, f.row h.rx (h.code x hx).2 (by decide) (fun g e1 e2 => c2 x hx g e2 e1)⟩, h.ap, FrB.rowT c1 f h.rx h.nms (by decide) (by decide), h.neq, FrB.rowT c1 f h.rx h.mks (by decide) (by decide), FrB.rowT c1 f h.rx h.us (by decide) (by decide), fun _ => ⟨hm, fun x hx g e1 e2 => ?_⟩, h.ok, fun _ => ⟨(h.oko ho).1, hL, (h.oko ho).2.2⟩, ⟨h.bm.1, Nat.le_trans h.bm.2 f.size⟩, fun g hg => World.ownsRow.lt hm g hg⟩
  · show (setL a L).lib = Qs.map ppOf ++ (if a.opn = true then _ else _)
    rw [if_pos ho]
    exact h.setLib ho L
  · rcases hv with hv | ⟨k, hk, hk2⟩
    · exact c2 x hx g e1 (hv ▸ e2)
    · have e2' : v'.ownBlock = some g := e2
      rw [hk] at e2'
      cases e2'
      have := (World.ownsRow.lt (h.code x hx).2 _ e1).2
      omega
end
/-- one element more in a row that the box has: ahead of the store, and behind it -/
theorem rapp {TS TE : TypeId} {sz bt : Nat} {z : Value} (hu : Tryz.prog.underlying TS = some (.slice TE)) (hinfo : (Tryz.prog.info? TE).map (fun i => (i.zero, i.size, i.bytes)) = some (some z, sz, bt)) (hzs : z.cells.size = sz) (hpos : 0 < sz) (hbt : bt ≤ 100) (hTE : TE ≠ 46) {W : World} {M B : Nat} {r : Rv} {v : Value} {n : Nat} {xs zs : List Value} (h : RX W B r) (hown : W.ownsRow M TE sz v n xs) (hz : zs.length = sz) (h1 : ∀ u ∈ zs, u.oneCell' = true) (hn : n ≤ 65537) (hM : M ≤ W.heap.size) (ty : TypeId) :
    ∃ v' w', (Builtin.append_ #[TS, TS] ty #[v, .slice (some ⟨W.heap.size, 0, none⟩) 1 1]).run Tryz.prog (W.alloc (.cells zs.toArray TE)) = .ok v' w' ∧ (∃ o c, v' = .slice o (n + 1) c) ∧ RX w' B r ∧ FrB B v.ownBlock W w' ∧ (∀ j, (w'.setCell ⟨B, j, none⟩ v').ownsRow M TE sz v' (n + 1) (xs ++ zs)) ∧ (v'.ownBlock = v.ownBlock ∨ ∃ k, v'.ownBlock = some k ∧ W.heap.size ≤ k) := by
  obtain ⟨v', w', hr, h2, h3, h5⟩ := app_one hu hinfo hzs hpos hbt W M v n xs zs hown hz h1 hn hM ty
  have hB : B < W.heap.size := (Array.getElem?_eq_some_iff.1 h).1
  have nB : some B ≠ v.ownBlock := fun e => by
    obtain ⟨cur, hc⟩ := own_blk hown e.symm
    exact h.ne hc hTE rfl
  have blk : ∀ k, k < W.heap.size → some k ≠ v.ownBlock → w'.heap[k]? = W.heap[k]? := fun k hk hne => (h3.block k (by simp only [World.size_alloc]; omega) hne).trans (heap_alloc_old _ _ hk)
  have hx : RX w' B r := (blk B hB nB).trans h
  obtain ⟨o9, c9, hv9, _⟩ := own_slice h2
  refine ⟨v', w', hr, ⟨o9, c9, hv9⟩, hx, ⟨h3.os, h3.tape, h3.output, ?_, fun k hk h1 h2 => blk k hk (fun e => h2 e.symm)⟩, fun j => ?_, ?_⟩
  · have := h3.size
    simp only [World.size_alloc] at this
    omega
  · refine ownsRow_same h2 (fun g hg => heap_setCell_other _ _ _ _ (fun e => ?_))
    subst e
    obtain ⟨cur, hc⟩ := own_blk h2 hg
    exact hx.ne hc hTE rfl
  · rcases h5 with h5 | h5
    · exact .inl h5
    · exact .inr ⟨_, h5, by omega⟩
/-- a fault's cell turns -/
theorem DS.ft {W : World} {M B : Nat} {a : As} {Qs : List Pr} {nl : List (Nat × Nat)} {Lo : List K} {r : Rv} (h : DS W M B a Qs nl Lo r) {f : Nat} {x y z : Value} (hF : FB W f x y z) (hne : ∀ g, r.names.ownBlock = some g → g ≠ f) (x' y' z' : Value) : DS (((W.setCell ⟨f, 0, none⟩ x').setCell ⟨f, 1, none⟩ y').setCell ⟨f, 2, none⟩ z') M B a Qs nl Lo r := by
  have oth : ∀ k, k ≠ f → (((W.setCell ⟨f, 0, none⟩ x').setCell ⟨f, 1, none⟩ y').setCell ⟨f, 2, none⟩ z').heap[k]? = W.heap[k]? := fun k hk => (heap_setCell_other _ _ _ _ hk).trans ((heap_setCell_other _ _ _ _ hk).trans (heap_setCell_other _ _ _ _ hk))
  have ty : ∀ {g : Nat} {cur : Array Value} {t : TypeId}, W.heap[g]? = some (.cells cur t (0, 0)) → t ≠ 24 → g ≠ f := fun hg ht e => by
    rw [e, show W.heap[f]? = _ from hF] at hg
    simp only [Option.some.injEq, Obj.cells.injEq] at hg
    exact ht hg.2.1.symm
  have row : ∀ {base e size n : Nat} {v : Value} {xs : List Value}, W.ownsRow base e size v n xs → e ≠ 24 → (((W.setCell ⟨f, 0, none⟩ x').setCell ⟨f, 1, none⟩ y').setCell ⟨f, 2, none⟩ z').ownsRow base e size v n xs := fun ho he => ownsRow_same ho (fun g hg => by
    obtain ⟨cur, hc⟩ := own_blk ho hg
    exact oth g (ty hc he))
  exact ⟨(oth B (ty h.rx (by decide))).trans h.rx, h.op, h.bg, row h.lib (by decide), h.eq, fun x hx => ⟨(h.code x hx).1, row (h.code x hx).2 (by decide)⟩, h.ap, ownsRow_same h.nms (fun g hg => oth g (hne g hg)), h.neq, row h.mks (by decide), row h.us (by decide), fun ho => ⟨row (h.oc ho).1 (by decide), (h.oc ho).2⟩, h.ok, h.oko, ⟨h.bm.1, by simpa using h.bm.2⟩, fun g hg => by simpa using h.cv g hg⟩
theorem fra_ft {W : World} {M B f : Nat} (h : M ≤ f) (x y z : Value) : FrA M B W (((W.setCell ⟨f, 0, none⟩ x).setCell ⟨f, 1, none⟩ y).setCell ⟨f, 2, none⟩ z) := ((FrA.set _ _ (.inr h)).trans (FrA.set _ _ (.inr h))).trans (FrA.set _ _ (.inr h))
theorem infoUs : (Tryz.prog.info? 113).map (fun i => (i.zero, i.size, i.bytes)) = some (some (.agg #[.int .i64 0, .string ⟨#[]⟩, .int .i64 0, .int .i64 0]), 4, 40) := by kernel_rfl
theorem infoFt : (Tryz.prog.info? 24).map (fun i => (i.zero, i.size, i.bytes)) = some (some (.agg #[.int .i64 0, .int .i64 0, .int .i64 0]), 3, 24) := by kernel_rfl
end Go.Proofs.YtiiplikmoodfnaaGreatDoor
