import Derived.Test.YtiiplikmoodfnaaGreatDoorKARpure
import Derived.Deep.RegionHeld3
import Derived.Deep.RegionLaw
import Derived.Deep.CutBlock
import Derived.Deep.DeepCutAuto
/-
  THE WALK OF THE DOCUMENT's instruction.
-/
namespace Go.Proofs.YtiiplikmoodfnaaGreatDoor
open Go.RowKit Go.Sort

set_option maxRecDepth 100000 in
set_option maxHeartbeats 4000000 in
theorem instr_any (w : World) (M B : Nat) (a : As) (Qs : List Pr) (nl : List (Nat × Nat)) (Lo : List K) (r : Rv) (b off n wcc k : Nat) (x : Wd) (rest : List Wd) (h : DS w M B a Qs nl Lo r) (hz : AsSz a k) (ho : a.opn = true) (hw : ∀ j u, (wcs (x :: rest))[j]? = some u → w.cell? ⟨b, off + j, none⟩ = some u) (hn : n = (x :: rest).length) (hxl : ∀ y ∈ x :: rest, y.1.length ≤ 65536 ∧ y.2 ≤ 65537) (hbM : b < M ∧ b ≠ B) :
    Calls Tryz.prog 22 #[.pointer (some ⟨B, 0, none⟩), .slice (some ⟨b, off, none⟩) n wcc] w fun e w' => RdPost w M B r (insA a r.line x rest) e w' := by
  obtain ⟨w1, hw1⟩ : ∃ w1, w1 = w.alloc (.cells #[.int .i64 0, .int .i64 0, .int .i64 0] 24) := ⟨_, rfl⟩
  obtain ⟨f, hf⟩ : ∃ f, f = w.heap.size := ⟨_, rfl⟩
  have hM : M ≤ w.heap.size := h.bm.2
  have hBM : B < M := h.bm.1
  have hb1 : Go.RowKit.Below w.heap.size w w1 := by rw [hw1]; exact bel_al _ _
  have hF : FB w1 f (.int .i64 0) (.int .i64 0) (.int .i64 0) := by rw [hw1, hf]; exact heap_alloc_new _ _ rfl
  have HF := hidA hF
  have HFl : Hid (f < w1.heap.size) := (Array.getElem?_eq_some_iff.1 hF).1
  have HFs := hidA hf
  have HB1 := hidA hb1
  have HDS : Hid (∀ W', Go.RowKit.Below w1.heap.size w1 W' → DS W' M B a Qs nl Lo r) := fun W' hb => (h.below hb1).below hb
  have HWc : Hid (∀ W', Go.RowKit.Below w1.heap.size w1 W' → ∀ j u, (wcs (x :: rest))[j]? = some u → W'.cell? ⟨b, off + j, none⟩ = some u) := fun W' hb j u hu => by
    have e1 := (hb1.cell (p := ⟨b, off + j, none⟩) (cell_lt (hw j u hu))).trans (hw j u hu)
    exact (hb.cell (p := ⟨b, off + j, none⟩) (cell_lt e1)).trans e1
  have HBd : Hid (∀ (c e : Int) W', Go.RowKit.Below w1.heap.size w1 W' → Calls Tryz.prog 34 #[.pointer (some ⟨B, 0, none⟩), .int .i64 c, .int .i64 e] W' fun en w' => en = .returned (ftv (r.line : Int) c e) ∧ Go.RowKit.Below W'.heap.size W' w') := fun c e W' hb => bad_any W' B r c e (HDS.out W' hb).rx
  have HFF : Hid (∀ W', Go.RowKit.Below w1.heap.size w1 W' → FB W' f (.int .i64 0) (.int .i64 0) (.int .i64 0)) := fun W' hb => (hb.block f HFl.out).trans HF.out
  have HXl := hidA hxl
  have HLp := hidA (h.lastP ho)
  have HNl : Hid (∀ g, r.names.ownBlock = some g → g < w.heap.size) := fun g hg => (World.ownsRow.lt h.nms g hg).2
  have HCb : Hid (∀ g, r.code.ownBlock = some g → g < w.heap.size) := fun g hg => (World.ownsRow.lt (h.oc ho).1 g hg).2
  have HZ := hidA hz
  have HO := hidA ho
  have HN := hidA hn
  have d0 : w1.cell? ⟨b, off, none⟩ = some (.string (S x.1)) := (wd_at (HWc.out w1 (Go.RowKit.Below.refl _ _)) 0 (by simp)).1
  have hn1 : 0 < n := by rw [hn]; simp
  clear h hz ho hw hn hxl hb1 hF
  obtain ⟨sx, hsx⟩ : ∃ sx, sx = S x.1 := ⟨_, rfl⟩
  rw [← hsx] at d0
  have HSx := hidA hsx
  clear hsx
  obtain ⟨op, hop⟩ : ∃ op : Int, op = ((opR sx).1 : Int) := ⟨_, rfl⟩
  obtain ⟨okb, hok⟩ : ∃ okb : Bool, okb = (opR sx).2 := ⟨_, rfl⟩
  have HOp := hidA (refOp_any w1 sx)
  rw [← hop, ← hok] at HOp
  have HRs : Hid (insA a r.line x rest = if okb = false then .error (r.line, x.2, 40) else match argA a r.line op (rest, x.2 + x.1.length) with
    | .error e => .error (r.line, e)
    | .ok (n, js, r1) =>
      match rEnd r1 with
      | some e => .error (r.line, e)
      | none => .ok (setL { a with jumps := a.jumps ++ js } ((lastP a).L ++ [(op, n)]))) := by
    rw [Hid]; unfold insA; rw [hop, hok, HSx.out]; rfl
  have HOpi : Hid (In64 op) := by rw [Hid, hop]; have := opR_le sx; unfold In64; omega
  clear hop hok
  go_enter Tryz.func22, Tryz.ntmps22
  go_upto_region 1 with fail
  rw [← hw1, ← hf]
  clear hw1 hf
  go_wp2_with fail
  refine HOp.out.mono ?_
  rintro e w2 ⟨rfl, hb2⟩
  have HB2 := hidA hb2
  clear hb2 HOp d0
  cases okb with
  | false =>
    have HE : Hid (insA a r.line x rest = .error (r.line, x.2, 40)) := by rw [Hid, HRs.out, if_pos rfl]
    have d1 : w2.cell? ⟨b, off + 1, none⟩ = some (.int .i64 (x.2 : Int)) := (wd_at (HWc.out w2 HB2.out) 0 (by simp)).2
    have HBx := hidA (HBd.out (x.2 : Int) 40 w2 HB2.out)

    go_wp2_with fail
    refine HBx.out.mono ?_
    rintro e w8 ⟨rfl, hb8⟩
    have hb18 := HB2.out.trans (hb8.mono HB2.out.size)
    obtain ⟨⟨g0, g1, g2⟩, ⟨c0, c1, c2⟩, hst⟩ := ft_facts (HFF.out w8 hb18)
    have hld := load_fault (hst (.int .i64 (r.line : Int)) (.int .i64 (x.2 : Int)) (.int .i64 40))
    have HX : Hid (Go.RowKit.Below w.heap.size w (((w8.setCell ⟨f, 0, none⟩ (.int .i64 (r.line : Int))).setCell ⟨f, 1, none⟩ (.int .i64 (x.2 : Int))).setCell ⟨f, 2, none⟩ (.int .i64 40))) := (HB1.out.trans (hb18.mono HB1.out.size)).trans (ft_below (Nat.le_of_eq HFs.out.symm) _ _ _)
    clear hb8 hb18 hst HBx
    go_wp2_with fail
    refine bodyPost_ret (v := ftv (r.line : Int) (x.2 : Int) 40) ?_ rfl ?_
    · simp [results, Tryz.results22, asAddr, hld]
    · exact .inl ⟨_, _, _, HE.out, by decide, rfl, FrO.bel HX.out⟩
  | true =>
    obtain ⟨w3, hw3⟩ : ∃ w3, w3 = w2.alloc (.cells #[.int .i64 op, .int .i64 0] 76) := ⟨_, rfl⟩
    obtain ⟨xb, hxb⟩ : ∃ xb, xb = w2.heap.size := ⟨_, rfl⟩
    have hb23 : Go.RowKit.Below w2.heap.size w2 w3 := by rw [hw3]; exact bel_al _ _
    have hX3 : XB w3 xb op 0 := by rw [hw3, hxb]; exact heap_alloc_new _ _ rfl
    have HX3l : Hid (w1.heap.size ≤ xb ∧ xb < w3.heap.size) := ⟨by rw [hxb]; exact HB2.out.size, (Array.getElem?_eq_some_iff.1 hX3).1⟩
    have HX3 := hidA hX3
    have HB3 : Hid (Go.RowKit.Below w1.heap.size w1 w3) := HB2.out.trans (hb23.mono HB2.out.size)
    clear hb23 hX3
    go_upto_region 5 with fail
    rw [← hw3, ← hxb]
    clear hw3 hxb
    go_wp2_with fail
    refine (refWants_any w3 op).mono ?_
    rintro e w4 ⟨rfl, hb4⟩
    have HB4 : Hid (Go.RowKit.Below w1.heap.size w1 w4) := HB3.out.trans (hb4.mono HB3.out.size)
    have HX4 : Hid (XB w4 xb op 0) := (hb4.block xb HX3l.out.2).trans HX3.out
    clear hb4 HB2 HB3 HX3
    have HWx := HWc.out w4 HB4.out
    go_upto_if 32 with fail
    go_cut [8, 9, 10, 11, 32] from 33 to 91 (fun v _ _ _ _ wx => ∃ nn : Nat, v = .int .i64 (nn : Int) ∧ nn ≤ 2 ∧ Hid (IMid w1 xb a r.line Lo.length x rest op nn wx))
    case first =>
      cases hwt : wantsB op with
      | false =>
        have HM : Hid (IMid w1 xb a r.line Lo.length x rest op 1 w4) := by
          have hj : jumpB op = false := by cases hj : jumpB op with
            | false => rfl
            | true => rw [jump_wants hj] at hwt; cases hwt
          exact ⟨0, [], _, by unfold argA; rw [if_neg (by rw [hj]; simp), if_neg (by rw [hwt]; simp)], by unfold In64; omega, moreE_one _ _ _, .inl ⟨hj, rfl⟩, HX4.out, HB4.out⟩
        clear HWx hwt
        go_wp2_with fail
        go_meet
        case rel => exact ⟨1, rfl, by omega, HM⟩
      | true =>
        cases rest with
        | nil =>
          have HE : Hid (insA a r.line x [] = .error (r.line, x.2 + x.1.length, 40)) := by
            rw [Hid, HRs.out, if_neg (by simp)]
            have : argA a r.line op ([], x.2 + x.1.length) = .error (x.2 + x.1.length, 40) := by
              unfold argA
              cases hj : jumpB op with
              | true => rw [if_pos rfl]; rfl
              | false => rw [if_neg (by simp), if_pos hwt]; rfl
            rw [this]
          have d0 : w4.cell? ⟨b, off, none⟩ = some (.string (S x.1)) := (wd_at HWx 0 (by simp)).1
          have d1 : w4.cell? ⟨b, off + 1, none⟩ = some (.int .i64 (x.2 : Int)) := (wd_at HWx 0 (by simp)).2
          obtain rfl : n = 1 := HN.out
          have HAf := hidA (after_any w4 x.1 x.2 (HXl.out x (by simp)).1 (HXl.out x (by simp)).2)
          have HCe : Hid (((x.2 + x.1.length : Nat) : Int) = (x.2 : Int) + (x.1.length : Int)) := by rw [Hid]; push_cast; rfl
          rw [← HSx.out] at d0 HAf
          generalize (x.1.length : Int) = xl9 at *
          generalize ((x.2 : Nat) : Int) = xc9 at *
          clear HWx hwt
          go_wp2_with fail
          refine HAf.out.mono ?_
          rintro e w7 ⟨rfl, hb7⟩
          have HB7 : Hid (Go.RowKit.Below w1.heap.size w1 w7) := HB4.out.trans (hb7.mono HB4.out.size)
          clear hb7 HAf d0 d1
          have HBx := hidA (HBd.out (xc9 + xl9) 40 w7 HB7.out)

          go_wp2_with fail
          refine HBx.out.mono ?_
          rintro e w8 ⟨rfl, hb8⟩
          have hb18 := HB7.out.trans (hb8.mono HB7.out.size)
          obtain ⟨⟨g0, g1, g2⟩, ⟨c0, c1, c2⟩, hst⟩ := ft_facts (HFF.out w8 hb18)
          have hld := load_fault (hst (.int .i64 (r.line : Int)) (.int .i64 (xc9 + xl9)) (.int .i64 40))
          have HX : Hid (Go.RowKit.Below w.heap.size w (((w8.setCell ⟨f, 0, none⟩ (.int .i64 (r.line : Int))).setCell ⟨f, 1, none⟩ (.int .i64 (xc9 + xl9))).setCell ⟨f, 2, none⟩ (.int .i64 40))) := (HB1.out.trans (hb18.mono HB1.out.size)).trans (ft_below (Nat.le_of_eq HFs.out.symm) _ _ _)
          clear hb8 hb18 hst HBx
          go_wp2_with fail
          refine bodyPost_ret (v := ftv (r.line : Int) (xc9 + xl9) 40) ?_ rfl ?_
          · simp [results, Tryz.results22, asAddr, hld]
          · exact .inl ⟨_, _, _, HE.out, by decide, by rw [HCe.out], FrO.bel HX.out⟩
        | cons y rest =>
          have d2 : w4.cell? ⟨b, off + 2, none⟩ = some (.string (S y.1)) := (wd_at HWx 1 (by simp)).1
          have d3 : w4.cell? ⟨b, off + 2 + 1, none⟩ = some (.int .i64 (y.2 : Int)) := (wd_at HWx 1 (by simp)).2
          have hn2 : 2 ≤ n := by rw [HN.out]; simp
          have HWt := hidA hwt
          clear HWx hwt
          obtain ⟨sy, hsy⟩ : ∃ sy, sy = S y.1 := ⟨_, rfl⟩
          rw [← hsy] at d2
          have hsz : sy.size ≤ 65536 := by rw [hsy, S_size]; exact (HXl.out y (by simp)).1
          have HSy := hidA hsy
          clear hsy
          cases hj : jumpB op with
          | true =>
            have HJ := hidA hj
            have HNm := hidA (refName_any w4 sy (by omega))
            have hjo := jumpB_or hj
            have HArg : Hid (argA a r.line op (y :: rest, x.2 + x.1.length) = if nameB sy = false then .error (y.2, 40) else if (labN a.labels y.1).isSome then .error (y.2, 33) else .ok (0, [⟨(lastP a).L.length, y.1, r.line, y.2⟩], (rest, y.2 + y.1.length))) := by
              rw [Hid]; unfold argA; rw [if_pos hj, HSy.out]; rfl
            have hDS4 := HDS.out w4 HB4.out
            obtain ⟨mo, mc, hmv, _⟩ := own_slice hDS4.mks
            have hls : a.labels.length ≤ 65537 := Nat.le_trans HZ.out.lab HZ.out.top
            have HPl : Hid (Calls Tryz.prog 38 #[.pointer (some ⟨B, 0, none⟩), .string sy] w4 fun e w' => e = .returned (.int .i64 (plV a.labels y.1)) ∧ w' = w4) := by
              rw [HSy.out]
              exact place_any w4 B r mo a.labels.length mc a.labels y.1 hDS4.rx hmv (by have := hDS4.mks; rw [hmv] at this; exact own_read this) rfl hls
            clear hj hDS4 hmv hls
            rcases hjo with hjo | hjo
            · have h30 : (op == 30) = true := by rw [hjo]; rfl
              clear hjo
              go_wp2_with fail
              refine HNm.out.mono ?_
              rintro e w5 ⟨rfl, hwq⟩
              have hwq' := hwq.symm
              subst hwq'
              clear hwq HNm
              cases hnb : nameB sy with
              | false =>
                have HE : Hid (insA a r.line x (y :: rest) = .error (r.line, y.2, 40)) := by rw [Hid, HRs.out, if_neg (by simp), HArg.out, if_pos hnb]
                clear HPl hnb
                have HBx := hidA (HBd.out (y.2 : Int) 40 w4 HB4.out)

                go_wp2_with fail
                refine HBx.out.mono ?_
                rintro e w8 ⟨rfl, hb8⟩
                have hb18 := HB4.out.trans (hb8.mono HB4.out.size)
                obtain ⟨⟨g0, g1, g2⟩, ⟨c0, c1, c2⟩, hst⟩ := ft_facts (HFF.out w8 hb18)
                have hld := load_fault (hst (.int .i64 (r.line : Int)) (.int .i64 (y.2 : Int)) (.int .i64 40))
                have HX : Hid (Go.RowKit.Below w.heap.size w (((w8.setCell ⟨f, 0, none⟩ (.int .i64 (r.line : Int))).setCell ⟨f, 1, none⟩ (.int .i64 (y.2 : Int))).setCell ⟨f, 2, none⟩ (.int .i64 40))) := (HB1.out.trans (hb18.mono HB1.out.size)).trans (ft_below (Nat.le_of_eq HFs.out.symm) _ _ _)
                clear hb8 hb18 hst HBx
                go_wp2_with fail
                refine bodyPost_ret (v := ftv (r.line : Int) (y.2 : Int) 40) ?_ rfl ?_
                · simp [results, Tryz.results22, asAddr, hld]
                · exact .inl ⟨_, _, _, HE.out, by decide, rfl, FrO.bel HX.out⟩
              | true =>
                go_wp2_with fail
                refine HPl.out.mono ?_
                rintro e w5 ⟨rfl, hwq⟩
                have hwq' := hwq.symm
                subst hwq'
                clear hwq HPl
                cases hlb : labN a.labels y.1 with
                | some t =>
                  have HE : Hid (insA a r.line x (y :: rest) = .error (r.line, y.2, 33)) := by rw [Hid, HRs.out, if_neg (by simp), HArg.out, if_neg (by rw [hnb]; simp), hlb]; rfl
                  have hp : plV a.labels y.1 = (t : Int) := by unfold plV; rw [hlb]
                  have hp0 : (0 : Int) ≤ plV a.labels y.1 := by rw [hp]; omega
                  clear hp hlb hnb
                  generalize plV a.labels y.1 = pl at *
                  have HBx := hidA (HBd.out (y.2 : Int) 33 w4 HB4.out)

                  go_wp2_with fail
                  refine HBx.out.mono ?_
                  rintro e w8 ⟨rfl, hb8⟩
                  have hb18 := HB4.out.trans (hb8.mono HB4.out.size)
                  obtain ⟨⟨g0, g1, g2⟩, ⟨c0, c1, c2⟩, hst⟩ := ft_facts (HFF.out w8 hb18)
                  have hld := load_fault (hst (.int .i64 (r.line : Int)) (.int .i64 (y.2 : Int)) (.int .i64 33))
                  have HX : Hid (Go.RowKit.Below w.heap.size w (((w8.setCell ⟨f, 0, none⟩ (.int .i64 (r.line : Int))).setCell ⟨f, 1, none⟩ (.int .i64 (y.2 : Int))).setCell ⟨f, 2, none⟩ (.int .i64 33))) := (HB1.out.trans (hb18.mono HB1.out.size)).trans (ft_below (Nat.le_of_eq HFs.out.symm) _ _ _)
                  clear hb8 hb18 hst HBx
                  go_wp2_with fail
                  refine bodyPost_ret (v := ftv (r.line : Int) (y.2 : Int) 33) ?_ rfl ?_
                  · simp [results, Tryz.results22, asAddr, hld]
                  · exact .inl ⟨_, _, _, HE.out, by decide, rfl, FrO.bel HX.out⟩
                | none =>
                  have HM : Hid (IMid w1 xb a r.line Lo.length x (y :: rest) op 2 w4) := ⟨0, _, _, by rw [HArg.out, if_neg (by rw [hnb]; simp), hlb]; rfl, by unfold In64; omega, moreE_two _ _ _ _, .inr ⟨HJ.out, rfl, y, rest, rfl, by rw [HLp.out]⟩, HX4.out, HB4.out⟩
                  have hp0 : plV a.labels y.1 = -1 := by unfold plV; rw [hlb]
                  rw [hp0]
                  clear hp0 hlb hnb
                  go_wp2_with fail
                  go_meet
                  case rel => exact ⟨2, rfl, by omega, HM⟩
            · have h30 : (op == 30) = false := by rw [hjo]; rfl
              have h31 : (op == 31) = true := by rw [hjo]; rfl
              clear hjo
              go_wp2_with fail
              refine HNm.out.mono ?_
              rintro e w5 ⟨rfl, hwq⟩
              have hwq' := hwq.symm
              subst hwq'
              clear hwq HNm
              cases hnb : nameB sy with
              | false =>
                have HE : Hid (insA a r.line x (y :: rest) = .error (r.line, y.2, 40)) := by rw [Hid, HRs.out, if_neg (by simp), HArg.out, if_pos hnb]
                clear HPl hnb
                have HBx := hidA (HBd.out (y.2 : Int) 40 w4 HB4.out)

                go_wp2_with fail
                refine HBx.out.mono ?_
                rintro e w8 ⟨rfl, hb8⟩
                have hb18 := HB4.out.trans (hb8.mono HB4.out.size)
                obtain ⟨⟨g0, g1, g2⟩, ⟨c0, c1, c2⟩, hst⟩ := ft_facts (HFF.out w8 hb18)
                have hld := load_fault (hst (.int .i64 (r.line : Int)) (.int .i64 (y.2 : Int)) (.int .i64 40))
                have HX : Hid (Go.RowKit.Below w.heap.size w (((w8.setCell ⟨f, 0, none⟩ (.int .i64 (r.line : Int))).setCell ⟨f, 1, none⟩ (.int .i64 (y.2 : Int))).setCell ⟨f, 2, none⟩ (.int .i64 40))) := (HB1.out.trans (hb18.mono HB1.out.size)).trans (ft_below (Nat.le_of_eq HFs.out.symm) _ _ _)
                clear hb8 hb18 hst HBx
                go_wp2_with fail
                refine bodyPost_ret (v := ftv (r.line : Int) (y.2 : Int) 40) ?_ rfl ?_
                · simp [results, Tryz.results22, asAddr, hld]
                · exact .inl ⟨_, _, _, HE.out, by decide, rfl, FrO.bel HX.out⟩
              | true =>
                go_wp2_with fail
                refine HPl.out.mono ?_
                rintro e w5 ⟨rfl, hwq⟩
                have hwq' := hwq.symm
                subst hwq'
                clear hwq HPl
                cases hlb : labN a.labels y.1 with
                | some t =>
                  have HE : Hid (insA a r.line x (y :: rest) = .error (r.line, y.2, 33)) := by rw [Hid, HRs.out, if_neg (by simp), HArg.out, if_neg (by rw [hnb]; simp), hlb]; rfl
                  have hp : plV a.labels y.1 = (t : Int) := by unfold plV; rw [hlb]
                  have hp0 : (0 : Int) ≤ plV a.labels y.1 := by rw [hp]; omega
                  clear hp hlb hnb
                  generalize plV a.labels y.1 = pl at *
                  have HBx := hidA (HBd.out (y.2 : Int) 33 w4 HB4.out)

                  go_wp2_with fail
                  refine HBx.out.mono ?_
                  rintro e w8 ⟨rfl, hb8⟩
                  have hb18 := HB4.out.trans (hb8.mono HB4.out.size)
                  obtain ⟨⟨g0, g1, g2⟩, ⟨c0, c1, c2⟩, hst⟩ := ft_facts (HFF.out w8 hb18)
                  have hld := load_fault (hst (.int .i64 (r.line : Int)) (.int .i64 (y.2 : Int)) (.int .i64 33))
                  have HX : Hid (Go.RowKit.Below w.heap.size w (((w8.setCell ⟨f, 0, none⟩ (.int .i64 (r.line : Int))).setCell ⟨f, 1, none⟩ (.int .i64 (y.2 : Int))).setCell ⟨f, 2, none⟩ (.int .i64 33))) := (HB1.out.trans (hb18.mono HB1.out.size)).trans (ft_below (Nat.le_of_eq HFs.out.symm) _ _ _)
                  clear hb8 hb18 hst HBx
                  go_wp2_with fail
                  refine bodyPost_ret (v := ftv (r.line : Int) (y.2 : Int) 33) ?_ rfl ?_
                  · simp [results, Tryz.results22, asAddr, hld]
                  · exact .inl ⟨_, _, _, HE.out, by decide, rfl, FrO.bel HX.out⟩
                | none =>
                  have HM : Hid (IMid w1 xb a r.line Lo.length x (y :: rest) op 2 w4) := ⟨0, _, _, by rw [HArg.out, if_neg (by rw [hnb]; simp), hlb]; rfl, by unfold In64; omega, moreE_two _ _ _ _, .inr ⟨HJ.out, rfl, y, rest, rfl, by rw [HLp.out]⟩, HX4.out, HB4.out⟩
                  have hp0 : plV a.labels y.1 = -1 := by unfold plV; rw [hlb]
                  rw [hp0]
                  clear hp0 hlb hnb
                  go_wp2_with fail
                  go_meet
                  case rel => exact ⟨2, rfl, by omega, HM⟩
          | false =>
            have HJ := hidA hj
            have hjo := jumpB_nor hj
            have h30 : (op == 30) = false := by simpa using hjo.1
            have h31 : (op == 31) = false := by simpa using hjo.2
            clear hjo
            have HNu := hidA (refNumber_any w4 sy (by unfold maxLen; omega))
            rw [show sy.data.toList = y.1 by rw [HSy.out]; exact S_data _, ← Dec.num_same] at HNu
            have HArg : Hid (argA a r.line op (y :: rest, x.2 + x.1.length) = if (Dec.num1 y.1).2 = true then .ok ((Dec.num1 y.1).1, [], (rest, y.2 + y.1.length)) else .error (y.2, 41)) := by
              rw [Hid]; unfold argA; rw [if_neg (by rw [hj]; simp), if_pos HWt.out]
              simp only [rNum, rNext]
              by_cases h9 : (Dec.num1 y.1).2 = true
              · rw [if_pos h9, if_pos h9]
              · rw [if_neg h9, if_neg h9]
            have HIn := hidA (num1_in y.1)
            clear hj
            go_wp2_with fail
            refine HNu.out.mono ?_
            rintro e w5 ⟨rfl, hb5⟩
            have HB5 : Hid (Go.RowKit.Below w1.heap.size w1 w5) := HB4.out.trans (hb5.mono HB4.out.size)
            have HX5 : Hid (XB w5 xb op 0) := (hb5.block xb (Array.getElem?_eq_some_iff.1 HX4.out).1).trans HX4.out
            have d3' : w5.cell? ⟨b, off + 2 + 1, none⟩ = some (.int .i64 (y.2 : Int)) := (hb5.cell (p := ⟨b, off + 2 + 1, none⟩) (cell_lt d3)).trans d3
            clear hb5 HNu d2 d3
            cases hnb : (Dec.num1 y.1).2 with
            | false =>
              have HE : Hid (insA a r.line x (y :: rest) = .error (r.line, y.2, 41)) := by rw [Hid, HRs.out, if_neg (by simp), HArg.out, if_neg (by rw [hnb]; simp)]
              clear hnb
              generalize (Dec.num1 y.1).1 = z at *
              have HBx := hidA (HBd.out (y.2 : Int) 41 w5 HB5.out)

              go_wp2_with fail
              refine HBx.out.mono ?_
              rintro e w8 ⟨rfl, hb8⟩
              have hb18 := HB5.out.trans (hb8.mono HB5.out.size)
              obtain ⟨⟨g0, g1, g2⟩, ⟨c0, c1, c2⟩, hst⟩ := ft_facts (HFF.out w8 hb18)
              have hld := load_fault (hst (.int .i64 (r.line : Int)) (.int .i64 (y.2 : Int)) (.int .i64 41))
              have HX : Hid (Go.RowKit.Below w.heap.size w (((w8.setCell ⟨f, 0, none⟩ (.int .i64 (r.line : Int))).setCell ⟨f, 1, none⟩ (.int .i64 (y.2 : Int))).setCell ⟨f, 2, none⟩ (.int .i64 41))) := (HB1.out.trans (hb18.mono HB1.out.size)).trans (ft_below (Nat.le_of_eq HFs.out.symm) _ _ _)
              clear hb8 hb18 hst HBx
              go_wp2_with fail
              refine bodyPost_ret (v := ftv (r.line : Int) (y.2 : Int) 41) ?_ rfl ?_
              · simp [results, Tryz.results22, asAddr, hld]
              · exact .inl ⟨_, _, _, HE.out, by decide, rfl, FrO.bel HX.out⟩
            | true =>
              have HA2 : Hid (argA a r.line op (y :: rest, x.2 + x.1.length) = .ok ((Dec.num1 y.1).1, [], (rest, y.2 + y.1.length))) := by rw [Hid, HArg.out, if_pos hnb]
              clear hnb HArg
              generalize (Dec.num1 y.1).1 = z at *
              obtain ⟨x0, x1, f1⟩ := HX5.out.cells
              have HM : Hid (IMid w1 xb a r.line Lo.length x (y :: rest) op 2 (w5.setCell ⟨xb, 1, none⟩ (.int .i64 z))) := ⟨z, [], _, HA2.out, HIn.out, moreE_two _ _ _ _, .inl ⟨HJ.out, rfl⟩, heap_setCell_same w5 xb 1 _ _ _ HX5.out, HB5.out.trans (below_setC _ _ HX3l.out.1)⟩
              clear d3'
              go_wp2_with fail
              go_meet
              case rel => exact ⟨2, rfl, by omega, HM⟩
    case rest =>
      obtain ⟨nn, rfl, hnn, HM⟩ := hcut
      obtain ⟨z, js, r1, e1, e2, e3, e4, e5, e6⟩ := HM.out
      have HRs2 : Hid (insA a r.line x rest = match rEnd r1 with
        | some e => .error (r.line, e)
        | none => .ok (setL { a with jumps := a.jumps ++ js } ((lastP a).L ++ [(op, z)]))) := by rw [Hid, HRs.out, if_neg (by simp), e1]
      have HIn := hidA e2
      have HJs := hidA e4
      have HX5 := hidA e5
      have HB5 := hidA e6
      have HMo := hidA (more_any wc B r b off n wcc nn (x :: rest) (HDS.out wc e6).rx (HWc.out wc e6) HN.out)
      rw [e3] at HMo
      clear e1 e2 e3 e4 e5 e6 HM HRs HX4 HB4 HWx
      generalize wc = w5 at *
      cases hre : rEnd r1 with
      | some er =>
        have HE : Hid (insA a r.line x rest = .error (r.line, er)) := by rw [Hid, HRs2.out, hre]
        have HE40 : Hid (er.2 = 40) := by
          rw [Hid]; unfold rEnd at hre
          split at hre
          · cases hre
          · cases hre; rfl
        rw [hre] at HMo
        clear hre HRs2
        obtain ⟨ec, en⟩ := er
        obtain rfl : en = 40 := HE40.out
        go_wp2_with fail
        refine HMo.out.mono ?_
        rintro e w6 ⟨rfl, hb6⟩
        have hmv : moreV r.line (some (ec, 40)) = ftv (r.line : Int) (ec : Int) 40 := rfl
        rw [hmv]
        have hb16 := HB5.out.trans (hb6.mono HB5.out.size)
        obtain ⟨w7, hw7⟩ : ∃ w7, w7 = w6.alloc (.cells #[.int .i64 (r.line : Int), .int .i64 (ec : Int), .int .i64 40] 24) := ⟨_, rfl⟩
        have hb7 : Go.RowKit.Below w6.heap.size w6 w7 := by rw [hw7]; exact bel_al _ _
        have hb17 := hb16.trans (hb7.mono hb16.size)
        obtain ⟨⟨g0, g1, g2⟩, ⟨c0, c1, c2⟩, hst⟩ := ft_facts (HFF.out w7 hb17)
        have hld := load_fault (hst (.int .i64 (r.line : Int)) (.int .i64 (ec : Int)) (.int .i64 40))
        have HX : Hid (Go.RowKit.Below w.heap.size w (((w7.setCell ⟨f, 0, none⟩ (.int .i64 (r.line : Int))).setCell ⟨f, 1, none⟩ (.int .i64 (ec : Int))).setCell ⟨f, 2, none⟩ (.int .i64 40))) := (HB1.out.trans (hb17.mono HB1.out.size)).trans (ft_below (Nat.le_of_eq HFs.out.symm) _ _ _)
        obtain ⟨f7, hf7⟩ : ∃ f7, f7 = w6.heap.size := ⟨_, rfl⟩
        have hF7 : FB w7 f7 (.int .i64 (r.line : Int)) (.int .i64 (ec : Int)) (.int .i64 40) := by rw [hw7, hf7]; exact heap_alloc_new _ _ rfl
        have k2 : w7.cell? ⟨f7, 2, none⟩ = some (.int .i64 40) := by unfold World.cell?; rw [show w7.heap[f7]? = _ from hF7]; rfl
        have k1 : w7.cell? ⟨f7, 1, none⟩ = some (.int .i64 (ec : Int)) := by unfold World.cell?; rw [show w7.heap[f7]? = _ from hF7]; rfl
        have k0 : w7.cell? ⟨f7, 0, none⟩ = some (.int .i64 (r.line : Int)) := by unfold World.cell?; rw [show w7.heap[f7]? = _ from hF7]; rfl
        clear hb6 hb16 hb7 hb17 hst HMo hF7 hmv
        go_upto_region 21 with fail
        rw [← hw7, ← hf7]
        clear hw7 hf7
        go_wp2_with fail
        refine bodyPost_ret (v := ftv (r.line : Int) (ec : Int) 40) ?_ rfl ?_
        · simp [results, Tryz.results22, asAddr, hld]
        · exact .inl ⟨_, _, _, HE.out, by decide, rfl, FrO.bel HX.out⟩
      | none =>
        have HE : Hid (insA a r.line x rest = .ok (setL { a with jumps := a.jumps ++ js } ((lastP a).L ++ [(op, z)]))) := by rw [Hid, HRs2.out, hre]
        rw [hre] at HMo
        clear hre HRs2
        go_wp2_with fail
        refine HMo.out.mono ?_
        rintro e w6 ⟨rfl, hb6⟩
        have hmv : moreV r.line none = ftv 0 0 0 := rfl
        rw [hmv]
        have hb16 := HB5.out.trans (hb6.mono HB5.out.size)
        obtain ⟨w7, hw7⟩ : ∃ w7, w7 = w6.alloc (.cells #[.int .i64 0, .int .i64 0, .int .i64 0] 24) := ⟨_, rfl⟩
        have hb7 : Go.RowKit.Below w6.heap.size w6 w7 := by rw [hw7]; exact bel_al _ _
        have HB7 : Hid (Go.RowKit.Below w1.heap.size w1 w7) := hb16.trans (hb7.mono hb16.size)
        have HX7 : Hid (XB w7 xb op z) := by
          have h5 := (Array.getElem?_eq_some_iff.1 HX5.out).1
          exact (hb7.block xb (Nat.lt_of_lt_of_le h5 hb6.size)).trans ((hb6.block xb h5).trans HX5.out)
        obtain ⟨f7, hf7⟩ : ∃ f7, f7 = w6.heap.size := ⟨_, rfl⟩
        have hF7 : FB w7 f7 (.int .i64 0) (.int .i64 0) (.int .i64 0) := by rw [hw7, hf7]; exact heap_alloc_new _ _ rfl
        have k2 : w7.cell? ⟨f7, 2, none⟩ = some (.int .i64 0) := by unfold World.cell?; rw [show w7.heap[f7]? = _ from hF7]; rfl
        clear hb6 hb16 hb7 HMo hF7 hmv HX5 HB5
        go_upto_region 21 with fail
        rw [← hw7, ← hf7]
        clear hw7 hf7
        go_upto_region 23 with fail
        clear k2
        generalize w7 = w5 at *
        rcases HJs.out with ⟨hj, rfl⟩ | ⟨hj, rfl, y, rest', rfl, rfl⟩
        · have hjo := jumpB_nor hj
          have h30 : (op == 30) = false := by simpa using hjo.1
          have h31 : (op == 31) = false := by simpa using hjo.2
          clear hj hjo
          go_upto_if 105 with fail
          go_cut [] from 106 to 133 (fun wx => Hid (UMid w wx M B f xb a Qs nl Lo r [] op z))
          case first =>
            have HM : Hid (UMid w w5 M B f xb a Qs nl Lo r [] op z) := by
              have hD := HDS.out w5 HB7.out
              exact ⟨⟨r.uses, by rw [List.append_nil]; exact hD⟩, FrO.bel (HB1.out.trans (HB7.out.mono HB1.out.size)), HFF.out w5 HB7.out, HX7.out⟩
            go_wp2_with fail
            go_meet
            case rel => exact HM
          case rest =>
            obtain ⟨⟨uv, hD⟩, hFA, hFB, hXB⟩ := hcut.out
            clear hcut
            generalize wc = w5 at *
            have hD' : DS w5 M B { a with jumps := a.jumps ++ [] } Qs nl Lo { r with uses := uv } := hD
            have HDd := hidA hD'
            have HFA := hidA hFA
            have HFb := hidA hFB
            have HXb := hidA hXB
            clear hD hD' hFA hFB hXB HJs HB7 HX7
            go_upto_region 25 with fail
            have hbd : Go.RowKit.Below w5.heap.size w5 w5.drew := bel_drewN w5 1
            have hDd := HDd.out.below hbd
            have hMd : M ≤ w5.drew.heap.size := hDd.bm.2
            obtain ⟨co, cc, hcd, _⟩ := own_slice (hDd.oc HO.out).1
            obtain ⟨cl, hcl⟩ : ∃ cl, cl = Lo.length := ⟨_, rfl⟩
            rw [← hcl] at hcd
            have hcd' : r.code = .slice co cl cc := hcd
            have hLo : Lo.length ≤ 65537 := by
              have h1 := HZ.out.code (lastP a) (by rw [HLp.out]; have := hDd.eq; rw [if_pos HO.out] at this; have h9 : a.lib = _ := this; rw [h9]; simp)
              rw [HLp.out] at h1
              exact Nat.le_trans h1 HZ.out.top
            have HSS : Hid (∀ W', Go.RowKit.Below w5.heap.size w5 W' → W'.cell? ⟨B, 10, none⟩ = some (.slice co cl cc) ∧ W'.cell? ⟨xb, 0, none⟩ = some (.int .i64 op) ∧ W'.cell? ⟨xb, 1, none⟩ = some (.int .i64 z)) := fun W' hb => by
              have hD := HDd.out.below hb
              have hX : XB W' xb op z := (hb.block xb (Array.getElem?_eq_some_iff.1 HXb.out).1).trans HXb.out
              exact ⟨by rw [hD.rx.cell 10, ← hcd']; rfl, hX.cells.1, hX.cells.2.1⟩
            have hS0 := (HSS.out _ hbd).2
            have a10 := (HSS.out _ hbd).1
            have a10w := (HSS.out _ (Go.RowKit.Below.refl _ w5)).1
            have hbo : ∀ o, Go.RowKit.Below w5.heap.size w5 (w5.drew.alloc o) := fun o => hbd.trans ((bel_al _ _).mono hbd.size)
            have hS3 := fun o => (HSS.out _ (hbo o)).2
            have a10' : ∀ o, (w5.alloc o).cell? ⟨B, 10, none⟩ = some (.slice co cl cc) := fun o => (HSS.out _ (hbo o)).1
            have a10d : ∀ o, (w5.alloc o).drew.cell? ⟨B, 10, none⟩ = some (.slice co cl cc) := fun o => (HSS.out _ (hbo o)).1
            have HFin : Hid (∀ (v' : Value) (w9 : World), FB w9 f (.int .i64 0) (.int .i64 0) (.int .i64 0) → DS w9 M B (setL { a with jumps := a.jumps ++ [] } (Lo ++ [(op, z)])) Qs nl (Lo ++ [(op, z)]) { r with uses := uv, code := v' } → FrO (OO r w.heap.size) B w w9 → RdPost w M B r (insA a r.line x rest) (.returned (ftv 0 0 0)) (((w9.setCell ⟨f, 0, none⟩ (.int .i64 0)).setCell ⟨f, 1, none⟩ (.int .i64 0)).setCell ⟨f, 2, none⟩ (.int .i64 0))) := fun v' w9 q1 q2 q3 =>
              .inr ⟨_, Qs, nl, _, _, HE.out.trans (by rw [HLp.out]), rfl, q2.ft q1 (fun g hg => by have := HNl.out g hg; have := HFs.out; omega) _ _ _, rfl, q3.trans (fro_ft (.inl (Nat.le_of_eq HFs.out.symm)) _ _ _), fun g hg => .inl hg⟩
            have HAp : Hid (∀ ty, ∃ v' w', (Builtin.append_ #[40, 40] ty #[.slice co cl cc, .slice (some ⟨w5.heap.size, 0, none⟩) 1 1]).run Tryz.prog (w5.alloc (.cells #[.int .i64 op, .int .i64 z] 76)).drew = .ok v' w' ∧ (∃ o9 n9 c9, v' = .slice o9 n9 c9) ∧ w'.cell? ⟨B, 10, none⟩ = some (.slice co cl cc) ∧ w'.frozen? ⟨B, 10, none⟩ = false ∧ (w'.cell? ⟨xb, 0, none⟩ = some (.int .i64 op) ∧ w'.cell? ⟨xb, 1, none⟩ = some (.int .i64 z)) ∧ ((w'.setCell ⟨B, 10, none⟩ v').cell? ⟨xb, 0, none⟩ = some (.int .i64 op) ∧ (w'.setCell ⟨B, 10, none⟩ v').cell? ⟨xb, 1, none⟩ = some (.int .i64 z)) ∧ Hid (FB (w'.setCell ⟨B, 10, none⟩ v') f (.int .i64 0) (.int .i64 0) (.int .i64 0) ∧ DS (w'.setCell ⟨B, 10, none⟩ v') M B (setL { a with jumps := a.jumps ++ [] } (Lo ++ [(op, z)])) Qs nl (Lo ++ [(op, z)]) { r with uses := uv, code := v' } ∧ FrO (OO r w.heap.size) B w (w'.setCell ⟨B, 10, none⟩ v'))) := fun ty => by
              have hcs : w5.drew.ownsRow M 76 2 (.slice co cl cc) Lo.length (cks Lo) := by rw [← hcd]; exact (hDd.oc HO.out).1
              obtain ⟨v', w', p1, ⟨o9, c9, hv9⟩, p3, p4, p5, p6⟩ := rapp Tryz.underlying40 infoIn rfl (by decide) (by decide) (by decide) (zs := [.int .i64 op, .int .i64 z]) hDd.rx hcs rfl (by intro u hu; simp at hu; rcases hu with rfl | rfl <;> rfl) hLo hMd ty
              have hx2 : RX (w'.setCell ⟨B, 10, none⟩ v') B { r with uses := uv, code := v' } := heap_setCell_same w' B 10 _ _ v' p3
              have hfB : FB w5.drew f (.int .i64 0) (.int .i64 0) (.int .i64 0) := HFb.out
              have hXd : XB w5.drew xb op z := HXb.out
              have nxb : (Value.slice co cl cc).ownBlock ≠ some xb := fun e => by
                have e' : r.code.ownBlock = some xb := by rw [hcd']; exact e
                have h1 := HCb.out xb e'
                have h2 := HX3l.out.1
                have h3 := HB1.out.size
                omega
              have nfb : (Value.slice co cl cc).ownBlock ≠ some f := fun e => by
                obtain ⟨cur', hc'⟩ := own_blk hcs e
                rw [show w5.drew.heap[f]? = _ from hfB] at hc'
                simp only [Option.some.injEq, Obj.cells.injEq] at hc'
                exact absurd hc'.2.1 (by decide)
              have hwx : w'.heap[xb]? = w5.drew.heap[xb]? := p4.block xb (Array.getElem?_eq_some_iff.1 hXd).1 (hDd.rx.ne hXd (by decide)) nxb
              have hwx2 : (w'.setCell ⟨B, 10, none⟩ v').heap[xb]? = w5.drew.heap[xb]? := (heap_setCell_other _ _ _ _ (hDd.rx.ne hXd (by decide))).trans hwx
              have hwf2 : (w'.setCell ⟨B, 10, none⟩ v').heap[f]? = w5.drew.heap[f]? := (heap_setCell_other _ _ _ _ (hDd.rx.ne hfB (by decide))).trans (p4.block f (Array.getElem?_eq_some_iff.1 hfB).1 (hDd.rx.ne hfB (by decide)) nfb)
              have f4 : FrB B r.code.ownBlock w5.drew (w'.setCell ⟨B, 10, none⟩ v') := by rw [hcd']; exact p4.set
              have hX' : XB w' xb op z := hwx.trans hXd
              have hX2 : XB (w'.setCell ⟨B, 10, none⟩ v') xb op z := hwx2.trans hXd
              refine ⟨v', w', p1, ⟨o9, _, c9, hv9⟩, by rw [p3.cell 10, ← hcd']; rfl, frozen_of_row _ _ 10 _ _ p3, ⟨hX'.cells.1, hX'.cells.2.1⟩, ⟨hX2.cells.1, hX2.cells.2.1⟩, hwf2.trans hfB, ?_, ?_⟩
              · refine hDd.recode (r := { r with uses := uv }) HO.out hx2 ?_ f4 (by rw [show ({ r with uses := uv } : Rv).code = _ from hcd']; exact p6) ?_
                · rw [cks_appA, List.length_append]
                  exact p5 10
                · intro q hq
                  rcases List.mem_append.1 hq with hq | hq
                  · exact (hDd.oko HO.out).2.1 q hq
                  · simp only [List.mem_singleton] at hq
                    subst hq
                    exact ⟨HOpi.out, HIn.out⟩
              · exact HFA.out.trans ((FrO.bel hbd).trans (f4.fro (fun g hg => .inr (.inr (.inr (.inr (.inr hg)))))))
            clear hbo hDd hcd hcd' hLo hcl
            refine wp_region_held_drew (S := fun w' => w'.cell? ⟨xb, 0, none⟩ = some (.int .i64 op) ∧ w'.cell? ⟨xb, 1, none⟩ = some (.int .i64 z)) (by kernel_rfl) ?_ (fun hHeld => ?_)
            · exact hS0
            refine wpAnyH_take (i := 0) (v := .pointer (some ⟨B, 0, none⟩)) rfl (by kernel_rfl) (by kernel_rfl) (by kernel_rfl) (fun _ _ _ h => h) (Or.inl ⟨by rfl, by intro w hSw; (try dsimp only at hSw); go_simp⟩) (by assumption) ?_
            refine wpAnyH_take (i := 1) (v := .pointer (some ⟨B, 0, none⟩)) rfl (by kernel_rfl) (by kernel_rfl) (by kernel_rfl) (fun _ _ _ h => h) (Or.inl ⟨by rfl, by intro w hSw; (try dsimp only at hSw); go_simp⟩) (by assumption) ?_
            refine wpAnyH_take (i := 2) (v := .pointer (some ⟨B, 0, none⟩)) rfl (by kernel_rfl) (by kernel_rfl) (by kernel_rfl) (fun _ _ _ h => h) (Or.inl ⟨by rfl, by intro w hSw; (try dsimp only at hSw); go_simp⟩) (by assumption) ?_
            refine wpAnyH_take (i := 3) (v := .pointer (some ⟨B, 6, none⟩)) rfl (by kernel_rfl) (by kernel_rfl) (by kernel_rfl) (fun _ _ _ h => h) (Or.inl ⟨by rfl, by intro w hSw; (try dsimp only at hSw); go_simp⟩) (by assumption) ?_
            refine wpAnyH_take (i := 4) (v := .pointer (some ⟨B, 10, none⟩)) rfl (by kernel_rfl) (by kernel_rfl) (by kernel_rfl) (fun _ _ _ h => h) (Or.inl ⟨by rfl, by intro w hSw; (try dsimp only at hSw); go_simp⟩) (by assumption) ?_
            refine wpAnyH_take (i := 6) (v := .agg #[.int .i64 op, .int .i64 z]) rfl (by kernel_rfl) (by kernel_rfl) (by kernel_rfl) (fun _ _ _ h => h) (Or.inl ⟨by rfl, by intro w hSw; (try dsimp only at hSw); go_simp⟩) (by assumption) ?_
            refine wpAnyH_ready (rs := [5, 7]) (by kernel_rfl) (by simp) ?_
            refine AllReadyH.cons rfl (fun K hK => ?_) ?_
            · go_simp
              refine hK.out _ _ (by assumption) (fun hHeld => ?_)
              clear hK K
              refine wpAnyH_ready (rs := [7]) (by kernel_rfl) (by simp) ?_
              refine AllReadyH.cons rfl (fun K hK => ?_) ?_
              · go_simp
                refine hK.out _ _ (by exact hS3 _) (fun hHeld => ?_)
                clear hK K
                refine wpAnyH_ready (rs := [8]) (by kernel_rfl) (by simp) ?_
                refine AllReadyH.cons rfl (fun K hK => ?_) ?_
                · refine step_appA rfl _ _ 40 rfl (.slice co cl cc) (.slice (some ⟨w5.heap.size, 0, none⟩) 1 1) rfl rfl HAp.out ?_
                  rintro v' w9 ⟨⟨o9, n9, c9, rfl⟩, t1, t2, t3, t4, HP9⟩
                  refine hK.out _ _ (by exact t3) (fun hHeld => ?_)
                  clear hK K
                  refine wpAnyH_take (i := 9) (v := .pointer (some ⟨B, 0, none⟩)) rfl (by kernel_rfl) (by kernel_rfl) (by kernel_rfl) (fun _ _ _ h => h) (Or.inl ⟨by rfl, by intro w hSw; (try dsimp only at hSw); go_simp⟩) (by assumption) ?_
                  refine wpAnyH_take (i := 10) (v := .pointer (some ⟨B, 6, none⟩)) rfl (by kernel_rfl) (by kernel_rfl) (by kernel_rfl) (fun _ _ _ h => h) (Or.inl ⟨by rfl, by intro w hSw; (try dsimp only at hSw); go_simp⟩) (by assumption) ?_
                  refine wpAnyH_take (i := 11) (v := .pointer (some ⟨B, 10, none⟩)) rfl (by kernel_rfl) (by kernel_rfl) (by kernel_rfl) (fun _ _ _ h => h) (Or.inl ⟨by rfl, by intro w hSw; (try dsimp only at hSw); go_simp⟩) (by assumption) ?_
                  refine wpAnyH_ready (rs := [12]) (by kernel_rfl) (by simp) ?_
                  refine AllReadyH.cons rfl (fun K hK => ?_) ?_
                  · go_simp
                    refine hK.out _ _ (by exact t4) (fun hHeld => ?_)
                    clear hK K
                    refine wpAnyH_done (by kernel_rfl) ?_ _
                    obtain ⟨p1, p2, p3⟩ := HP9.out
                    obtain ⟨⟨g0, g1, g2⟩, ⟨c0, c1, c2⟩, hst⟩ := ft_facts p1
                    have hld := load_fault (hst (.int .i64 0) (.int .i64 0) (.int .i64 0))
                    have HX := hidA (HFin.out _ _ p1 p2 p3)
                    clear p1 p2 p3 HP9 hst t1 t2 t3 t4
                    go_wp2_with fail
                    refine bodyPost_ret (v := ftv 0 0 0) ?_ rfl ?_
                    · simp [results, Tryz.results22, asAddr, hld]
                    · exact HX.out
                  exact AllReadyH.nil
                exact AllReadyH.nil
              exact AllReadyH.nil
            refine AllReadyH.cons rfl (fun K hK => ?_) ?_
            · go_simp
              refine hK.out _ _ (by exact hS3 _) (fun hHeld => ?_)
              clear hK K
              refine wpAnyH_ready (rs := [5]) (by kernel_rfl) (by simp) ?_
              refine AllReadyH.cons rfl (fun K hK => ?_) ?_
              · go_simp
                refine hK.out _ _ (by assumption) (fun hHeld => ?_)
                clear hK K
                refine wpAnyH_ready (rs := [8]) (by kernel_rfl) (by simp) ?_
                refine AllReadyH.cons rfl (fun K hK => ?_) ?_
                · refine step_appA rfl _ _ 40 rfl (.slice co cl cc) (.slice (some ⟨w5.heap.size, 0, none⟩) 1 1) rfl rfl HAp.out ?_
                  rintro v' w9 ⟨⟨o9, n9, c9, rfl⟩, t1, t2, t3, t4, HP9⟩
                  refine hK.out _ _ (by exact t3) (fun hHeld => ?_)
                  clear hK K
                  refine wpAnyH_take (i := 9) (v := .pointer (some ⟨B, 0, none⟩)) rfl (by kernel_rfl) (by kernel_rfl) (by kernel_rfl) (fun _ _ _ h => h) (Or.inl ⟨by rfl, by intro w hSw; (try dsimp only at hSw); go_simp⟩) (by assumption) ?_
                  refine wpAnyH_take (i := 10) (v := .pointer (some ⟨B, 6, none⟩)) rfl (by kernel_rfl) (by kernel_rfl) (by kernel_rfl) (fun _ _ _ h => h) (Or.inl ⟨by rfl, by intro w hSw; (try dsimp only at hSw); go_simp⟩) (by assumption) ?_
                  refine wpAnyH_take (i := 11) (v := .pointer (some ⟨B, 10, none⟩)) rfl (by kernel_rfl) (by kernel_rfl) (by kernel_rfl) (fun _ _ _ h => h) (Or.inl ⟨by rfl, by intro w hSw; (try dsimp only at hSw); go_simp⟩) (by assumption) ?_
                  refine wpAnyH_ready (rs := [12]) (by kernel_rfl) (by simp) ?_
                  refine AllReadyH.cons rfl (fun K hK => ?_) ?_
                  · go_simp
                    refine hK.out _ _ (by exact t4) (fun hHeld => ?_)
                    clear hK K
                    refine wpAnyH_done (by kernel_rfl) ?_ _
                    obtain ⟨p1, p2, p3⟩ := HP9.out
                    obtain ⟨⟨g0, g1, g2⟩, ⟨c0, c1, c2⟩, hst⟩ := ft_facts p1
                    have hld := load_fault (hst (.int .i64 0) (.int .i64 0) (.int .i64 0))
                    have HX := hidA (HFin.out _ _ p1 p2 p3)
                    clear p1 p2 p3 HP9 hst t1 t2 t3 t4
                    go_wp2_with fail
                    refine bodyPost_ret (v := ftv 0 0 0) ?_ rfl ?_
                    · simp [results, Tryz.results22, asAddr, hld]
                    · exact HX.out
                  exact AllReadyH.nil
                exact AllReadyH.nil
              exact AllReadyH.nil
            exact AllReadyH.nil
        · rcases jumpB_or hj with hjo | hjo
          · have h30 : (op == 30) = true := by rw [hjo]; rfl
            clear hj hjo
            go_upto_if 105 with fail
            go_cut [] from 106 to 133 (fun wx => Hid (UMid w wx M B f xb a Qs nl Lo r [⟨Lo.length, y.1, r.line, y.2⟩] op 0))
            case first =>
              clear HJs
              have hn2 : 2 ≤ n := by rw [HN.out]; simp
              obtain ⟨sy, hsy⟩ : ∃ sy, sy = S y.1 := ⟨_, rfl⟩
              go_upto_region 24 with fail
              have hbd : Go.RowKit.Below w1.heap.size w1 w5.drew := HB7.out.trans ((bel_drewN w5 1).mono HB7.out.size)
              have hDd := HDS.out _ hbd
              have hMd : M ≤ w5.drew.heap.size := hDd.bm.2
              obtain ⟨co, cc, hcd, _⟩ := own_slice (hDd.oc HO.out).1
              obtain ⟨uo, uc, hud, _⟩ := own_slice hDd.us
              obtain ⟨cl, hcl⟩ : ∃ cl, cl = Lo.length := ⟨_, rfl⟩
              obtain ⟨ul, hul⟩ : ∃ ul, ul = a.jumps.length := ⟨_, rfl⟩
              rw [← hcl] at hcd
              rw [← hul] at hud
              have HSS : Hid (∀ W', Go.RowKit.Below w1.heap.size w1 W' → W'.cell? ⟨B, 16, none⟩ = some (.slice uo ul uc) ∧ W'.cell? ⟨B, 10, none⟩ = some (.slice co cl cc) ∧ W'.cell? ⟨B, 17, none⟩ = some (.int .i64 (r.line : Int)) ∧ W'.cell? ⟨b, off + 2, none⟩ = some (.string sy) ∧ W'.cell? ⟨b, off + 2 + 1, none⟩ = some (.int .i64 (y.2 : Int))) := fun W' hb => by
                have hD := HDS.out W' hb
                have hq := wd_at (HWc.out W' hb) 1 (by simp)
                exact ⟨by rw [hD.rx.cell 16, ← hud]; rfl, by rw [hD.rx.cell 10, ← hcd]; rfl, by rw [hD.rx.cell 17]; rfl, by rw [hsy]; exact hq.1, hq.2⟩
              have hS0 := (HSS.out _ hbd).2
              have a16 := (HSS.out _ hbd).1
              have a16w := (HSS.out _ HB7.out).1
              have hbo : ∀ o, Go.RowKit.Below w1.heap.size w1 (w5.drew.alloc o) := fun o => hbd.trans ((bel_al _ _).mono hbd.size)
              have hS3 := fun o => (HSS.out _ (hbo o)).2
              have a16' : ∀ o, (w5.alloc o).cell? ⟨B, 16, none⟩ = some (.slice uo ul uc) := fun o => (HSS.out _ (hbo o)).1
              have a16d : ∀ o, (w5.alloc o).drew.cell? ⟨B, 16, none⟩ = some (.slice uo ul uc) := fun o => (HSS.out _ (hbo o)).1
              have hul2 : a.jumps.length ≤ 65537 := Nat.le_trans HZ.out.jmp HZ.out.top
              have HAp : Hid (∀ ty, ∃ v' w', (Builtin.append_ #[44, 44] ty #[.slice uo ul uc, .slice (some ⟨w5.heap.size, 0, none⟩) 1 1]).run Tryz.prog (w5.alloc (.cells #[.int .i64 (cl : Int), .string sy, .int .i64 (r.line : Int), .int .i64 (y.2 : Int)] 113)).drew = .ok v' w' ∧ (∃ o9 n9 c9, v' = .slice o9 n9 c9) ∧ w'.cell? ⟨B, 16, none⟩ = some (.slice uo ul uc) ∧ w'.frozen? ⟨B, 16, none⟩ = false ∧ (w'.cell? ⟨B, 10, none⟩ = some (.slice co cl cc) ∧ w'.cell? ⟨B, 17, none⟩ = some (.int .i64 (r.line : Int)) ∧ w'.cell? ⟨b, off + 2, none⟩ = some (.string sy) ∧ w'.cell? ⟨b, off + 2 + 1, none⟩ = some (.int .i64 (y.2 : Int))) ∧ ((w'.setCell ⟨B, 16, none⟩ v').cell? ⟨B, 10, none⟩ = some (.slice co cl cc) ∧ (w'.setCell ⟨B, 16, none⟩ v').cell? ⟨B, 17, none⟩ = some (.int .i64 (r.line : Int)) ∧ (w'.setCell ⟨B, 16, none⟩ v').cell? ⟨b, off + 2, none⟩ = some (.string sy) ∧ (w'.setCell ⟨B, 16, none⟩ v').cell? ⟨b, off + 2 + 1, none⟩ = some (.int .i64 (y.2 : Int))) ∧ Hid (UMid w (w'.setCell ⟨B, 16, none⟩ v') M B f xb a Qs nl Lo r [⟨Lo.length, y.1, r.line, y.2⟩] op 0)) := fun ty => by
                have hus : w5.drew.ownsRow M 113 4 (.slice uo ul uc) a.jumps.length (jpc a.jumps) := by rw [← hud]; exact hDd.us
                obtain ⟨v', w', p1, ⟨o9, c9, hv9⟩, p3, p4, p5, p6⟩ := rapp Tryz.underlying44 infoUs rfl (by decide) (by decide) (by decide) (zs := [.int .i64 (cl : Int), .string sy, .int .i64 (r.line : Int), .int .i64 (y.2 : Int)]) hDd.rx hus rfl (by intro u hu; simp at hu; rcases hu with rfl | rfl | rfl | rfl <;> rfl) hul2 hMd ty
                have hx2 : RX (w'.setCell ⟨B, 16, none⟩ v') B { r with uses := v' } := heap_setCell_same w' B 16 _ _ v' p3
                have hq := HSS.out _ hbd
                have hge := own_ge hus
                have hnb : (Value.slice uo ul uc).ownBlock ≠ some b := fun e => by have := hge b e; omega
                have hbW : b < w5.drew.heap.size := by omega
                have hwb : w'.heap[b]? = w5.drew.heap[b]? := p4.block b hbW hbM.2 hnb
                have hwb2 : (w'.setCell ⟨B, 16, none⟩ v').heap[b]? = w5.drew.heap[b]? := (heap_setCell_other _ _ _ _ hbM.2).trans hwb
                have hfB : FB w5.drew f (.int .i64 0) (.int .i64 0) (.int .i64 0) := HFF.out _ hbd
                have hXd : XB w5.drew xb op 0 := HX7.out
                have oth : ∀ (g : Nat) (cur : Array Value) (t : TypeId), w5.drew.heap[g]? = some (.cells cur t (0, 0)) → t ≠ 46 → t ≠ 113 → (w'.setCell ⟨B, 16, none⟩ v').heap[g]? = w5.drew.heap[g]? := fun g cur t hg h1 h2 => (heap_setCell_other _ _ _ _ (hDd.rx.ne hg h1)).trans (p4.block g (Array.getElem?_eq_some_iff.1 hg).1 (hDd.rx.ne hg h1) (fun e => by
                  obtain ⟨cur', hc'⟩ := own_blk hus e
                  rw [hg] at hc'
                  simp only [Option.some.injEq, Obj.cells.injEq] at hc'
                  exact h2 hc'.2.1))
                have f4 : FrB B r.uses.ownBlock w5.drew (w'.setCell ⟨B, 16, none⟩ v') := by rw [hud]; exact p4.set
                refine ⟨v', w', p1, ⟨o9, _, c9, hv9⟩, by rw [p3.cell 16, ← hud]; rfl, frozen_of_row _ _ 16 _ _ p3, ⟨by rw [p3.cell 10, ← hcd]; rfl, by rw [p3.cell 17]; rfl, ?_, ?_⟩, ⟨by rw [hx2.cell 10, ← hcd]; rfl, by rw [hx2.cell 17]; rfl, ?_, ?_⟩, ⟨⟨v', ?_⟩, ?_, (oth f _ _ hfB (by decide) (by decide)).trans hfB, (oth xb _ _ hXd (by decide) (by decide)).trans hXd⟩⟩
                · have := hq.2.2.2.1; simp only [World.cell?] at this ⊢; rw [hwb]; exact this
                · have := hq.2.2.2.2; simp only [World.cell?] at this ⊢; rw [hwb]; exact this
                · have := hq.2.2.2.1; simp only [World.cell?] at this ⊢; rw [hwb2]; exact this
                · have := hq.2.2.2.2; simp only [World.cell?] at this ⊢; rw [hwb2]; exact this
                · refine hDd.use hx2 ?_ f4
                  have := p5 16
                  rw [hsy, hcl] at this
                  exact this
                · exact (FrO.bel (HB1.out.trans (hbd.mono HB1.out.size))).trans (f4.fro (fun g hg => .inr (.inr (.inr (.inr (.inl hg))))))
              clear hbo hDd hcd hud hul2 hcl hul hsy
              have hni : ¬ ((n : Int) ≤ 1) := by omega
              refine wp_region_held_drew (S := fun w' => w'.cell? ⟨B, 10, none⟩ = some (.slice co cl cc) ∧ w'.cell? ⟨B, 17, none⟩ = some (.int .i64 (r.line : Int)) ∧ w'.cell? ⟨b, off + 2, none⟩ = some (.string sy) ∧ w'.cell? ⟨b, off + 2 + 1, none⟩ = some (.int .i64 (y.2 : Int))) (by kernel_rfl) ?_ (fun hHeld => ?_)
              · exact hS0
              refine wpAnyH_take (i := 0) (v := .pointer (some ⟨B, 0, none⟩)) rfl (by kernel_rfl) (by kernel_rfl) (by kernel_rfl) (fun _ _ _ h => h) (Or.inl ⟨by rfl, by intro w hSw; (try dsimp only at hSw); go_simp⟩) (by assumption) ?_
              refine wpAnyH_take (i := 1) (v := .pointer (some ⟨B, 0, none⟩)) rfl (by kernel_rfl) (by kernel_rfl) (by kernel_rfl) (fun _ _ _ h => h) (Or.inl ⟨by rfl, by intro w hSw; (try dsimp only at hSw); go_simp⟩) (by assumption) ?_
              refine wpAnyH_take (i := 2) (v := .pointer (some ⟨B, 0, none⟩)) rfl (by kernel_rfl) (by kernel_rfl) (by kernel_rfl) (fun _ _ _ h => h) (Or.inl ⟨by rfl, by intro w hSw; (try dsimp only at hSw); go_simp⟩) (by assumption) ?_
              refine wpAnyH_take (i := 3) (v := .pointer (some ⟨B, 16, none⟩)) rfl (by kernel_rfl) (by kernel_rfl) (by kernel_rfl) (fun _ _ _ h => h) (Or.inl ⟨by rfl, by intro w hSw; (try dsimp only at hSw); go_simp⟩) (by assumption) ?_
              refine wpAnyH_take (i := 5) (v := .pointer (some ⟨B, 0, none⟩)) rfl (by kernel_rfl) (by kernel_rfl) (by kernel_rfl) (fun _ _ _ h => h) (Or.inl ⟨by rfl, by intro w hSw; (try dsimp only at hSw); go_simp⟩) (by assumption) ?_
              refine wpAnyH_take (i := 6) (v := .pointer (some ⟨B, 0, none⟩)) rfl (by kernel_rfl) (by kernel_rfl) (by kernel_rfl) (fun _ _ _ h => h) (Or.inl ⟨by rfl, by intro w hSw; (try dsimp only at hSw); go_simp⟩) (by assumption) ?_
              refine wpAnyH_take (i := 7) (v := .pointer (some ⟨B, 6, none⟩)) rfl (by kernel_rfl) (by kernel_rfl) (by kernel_rfl) (fun _ _ _ h => h) (Or.inl ⟨by rfl, by intro w hSw; (try dsimp only at hSw); go_simp⟩) (by assumption) ?_
              refine wpAnyH_take (i := 8) (v := .pointer (some ⟨B, 10, none⟩)) rfl (by kernel_rfl) (by kernel_rfl) (by kernel_rfl) (fun _ _ _ h => h) (Or.inl ⟨by rfl, by intro w hSw; (try dsimp only at hSw); go_simp⟩) (by assumption) ?_
              refine wpAnyH_take (i := 9) (v := .slice co cl cc) rfl (by kernel_rfl) (by kernel_rfl) (by kernel_rfl) (fun _ _ _ h => h) (Or.inl ⟨by rfl, by intro w hSw; (try dsimp only at hSw); go_simp⟩) (by assumption) ?_
              refine wpAnyH_take (i := 10) (v := .int .i64 (cl : Int)) rfl (by kernel_rfl) (by kernel_rfl) (by kernel_rfl) (fun _ _ _ h => h) (Or.inl ⟨by rfl, by intro w hSw; (try dsimp only at hSw); go_simp⟩) (by assumption) ?_
              refine wpAnyH_take (i := 11) (v := .slice (some ⟨b, off, none⟩) n wcc) rfl (by kernel_rfl) (by kernel_rfl) (by kernel_rfl) (fun _ _ _ h => h) (Or.inl ⟨by rfl, by intro w hSw; (try dsimp only at hSw); go_simp⟩) (by assumption) ?_
              refine wpAnyH_take (i := 12) (v := .pointer (some ⟨b, off + 2, none⟩)) rfl (by kernel_rfl) (by kernel_rfl) (by kernel_rfl) (fun _ _ _ h => h) (Or.inl ⟨by rfl, by intro w hSw; (try dsimp only at hSw); go_simp⟩) (by assumption) ?_
              refine wpAnyH_take (i := 13) (v := .pointer (some ⟨b, off + 2, none⟩)) rfl (by kernel_rfl) (by kernel_rfl) (by kernel_rfl) (fun _ _ _ h => h) (Or.inl ⟨by rfl, by intro w hSw; (try dsimp only at hSw); go_simp⟩) (by assumption) ?_
              refine wpAnyH_take (i := 14) (v := .string sy) rfl (by kernel_rfl) (by kernel_rfl) (by kernel_rfl) (fun _ _ _ h => h) (Or.inl ⟨by rfl, by intro w hSw; (try dsimp only at hSw); go_simp⟩) (by assumption) ?_
              refine wpAnyH_take (i := 15) (v := .pointer (some ⟨B, 0, none⟩)) rfl (by kernel_rfl) (by kernel_rfl) (by kernel_rfl) (fun _ _ _ h => h) (Or.inl ⟨by rfl, by intro w hSw; (try dsimp only at hSw); go_simp⟩) (by assumption) ?_
              refine wpAnyH_take (i := 16) (v := .pointer (some ⟨B, 0, none⟩)) rfl (by kernel_rfl) (by kernel_rfl) (by kernel_rfl) (fun _ _ _ h => h) (Or.inl ⟨by rfl, by intro w hSw; (try dsimp only at hSw); go_simp⟩) (by assumption) ?_
              refine wpAnyH_take (i := 17) (v := .pointer (some ⟨B, 17, none⟩)) rfl (by kernel_rfl) (by kernel_rfl) (by kernel_rfl) (fun _ _ _ h => h) (Or.inl ⟨by rfl, by intro w hSw; (try dsimp only at hSw); go_simp⟩) (by assumption) ?_
              refine wpAnyH_take (i := 18) (v := .int .i64 (r.line : Int)) rfl (by kernel_rfl) (by kernel_rfl) (by kernel_rfl) (fun _ _ _ h => h) (Or.inl ⟨by rfl, by intro w hSw; (try dsimp only at hSw); go_simp⟩) (by assumption) ?_
              refine wpAnyH_take (i := 19) (v := .slice (some ⟨b, off, none⟩) n wcc) rfl (by kernel_rfl) (by kernel_rfl) (by kernel_rfl) (fun _ _ _ h => h) (Or.inl ⟨by rfl, by intro w hSw; (try dsimp only at hSw); go_simp⟩) (by assumption) ?_
              refine wpAnyH_take (i := 20) (v := .pointer (some ⟨b, off + 2, none⟩)) rfl (by kernel_rfl) (by kernel_rfl) (by kernel_rfl) (fun _ _ _ h => h) (Or.inl ⟨by rfl, by intro w hSw; (try dsimp only at hSw); go_simp⟩) (by assumption) ?_
              refine wpAnyH_take (i := 21) (v := .pointer (some ⟨b, off + 2 + 1, none⟩)) rfl (by kernel_rfl) (by kernel_rfl) (by kernel_rfl) (fun _ _ _ h => h) (Or.inl ⟨by rfl, by intro w hSw; (try dsimp only at hSw); go_simp⟩) (by assumption) ?_
              refine wpAnyH_take (i := 22) (v := .int .i64 (y.2 : Int)) rfl (by kernel_rfl) (by kernel_rfl) (by kernel_rfl) (fun _ _ _ h => h) (Or.inl ⟨by rfl, by intro w hSw; (try dsimp only at hSw); go_simp⟩) (by assumption) ?_
              refine wpAnyH_take (i := 23) (v := .agg #[.int .i64 (cl : Int), .string sy, .int .i64 (r.line : Int), .int .i64 (y.2 : Int)]) rfl (by kernel_rfl) (by kernel_rfl) (by kernel_rfl) (fun _ _ _ h => h) (Or.inl ⟨by rfl, by intro w hSw; (try dsimp only at hSw); go_simp⟩) (by assumption) ?_
              refine wpAnyH_ready (rs := [4, 24]) (by kernel_rfl) (by simp) ?_
              refine AllReadyH.cons rfl (fun K hK => ?_) ?_
              · go_simp
                refine hK.out _ _ (by assumption) (fun hHeld => ?_)
                clear hK K
                refine wpAnyH_ready (rs := [24]) (by kernel_rfl) (by simp) ?_
                refine AllReadyH.cons rfl (fun K hK => ?_) ?_
                · go_simp
                  refine hK.out _ _ (by exact hS3 _) (fun hHeld => ?_)
                  clear hK K
                  refine wpAnyH_ready (rs := [25]) (by kernel_rfl) (by simp) ?_
                  refine AllReadyH.cons rfl (fun K hK => ?_) ?_
                  · refine step_appA rfl _ _ 44 rfl (.slice uo ul uc) (.slice (some ⟨w5.heap.size, 0, none⟩) 1 1) rfl rfl HAp.out ?_
                    rintro v' w9 ⟨⟨o9, n9, c9, rfl⟩, t1, t2, t3, t4, HP9⟩
                    refine hK.out _ _ (by exact t3) (fun hHeld => ?_)
                    clear hK K
                    refine wpAnyH_take (i := 26) (v := .pointer (some ⟨B, 0, none⟩)) rfl (by kernel_rfl) (by kernel_rfl) (by kernel_rfl) (fun _ _ _ h => h) (Or.inl ⟨by rfl, by intro w hSw; (try dsimp only at hSw); go_simp⟩) (by assumption) ?_
                    refine wpAnyH_take (i := 27) (v := .pointer (some ⟨B, 16, none⟩)) rfl (by kernel_rfl) (by kernel_rfl) (by kernel_rfl) (fun _ _ _ h => h) (Or.inl ⟨by rfl, by intro w hSw; (try dsimp only at hSw); go_simp⟩) (by assumption) ?_
                    refine wpAnyH_ready (rs := [28]) (by kernel_rfl) (by simp) ?_
                    refine AllReadyH.cons rfl (fun K hK => ?_) ?_
                    · go_simp
                      refine hK.out _ _ (by exact t4) (fun hHeld => ?_)
                      clear hK K
                      refine wpAnyH_done (by kernel_rfl) ?_ _
                      clear t1 t2 t3 t4
                      go_wp2_with fail
                      go_meet
                      case rel => exact HP9
                    exact AllReadyH.nil
                  exact AllReadyH.nil
                exact AllReadyH.nil
              refine AllReadyH.cons rfl (fun K hK => ?_) ?_
              · go_simp
                refine hK.out _ _ (by exact hS3 _) (fun hHeld => ?_)
                clear hK K
                refine wpAnyH_ready (rs := [4]) (by kernel_rfl) (by simp) ?_
                refine AllReadyH.cons rfl (fun K hK => ?_) ?_
                · go_simp
                  refine hK.out _ _ (by assumption) (fun hHeld => ?_)
                  clear hK K
                  refine wpAnyH_ready (rs := [25]) (by kernel_rfl) (by simp) ?_
                  refine AllReadyH.cons rfl (fun K hK => ?_) ?_
                  · refine step_appA rfl _ _ 44 rfl (.slice uo ul uc) (.slice (some ⟨w5.heap.size, 0, none⟩) 1 1) rfl rfl HAp.out ?_
                    rintro v' w9 ⟨⟨o9, n9, c9, rfl⟩, t1, t2, t3, t4, HP9⟩
                    refine hK.out _ _ (by exact t3) (fun hHeld => ?_)
                    clear hK K
                    refine wpAnyH_take (i := 26) (v := .pointer (some ⟨B, 0, none⟩)) rfl (by kernel_rfl) (by kernel_rfl) (by kernel_rfl) (fun _ _ _ h => h) (Or.inl ⟨by rfl, by intro w hSw; (try dsimp only at hSw); go_simp⟩) (by assumption) ?_
                    refine wpAnyH_take (i := 27) (v := .pointer (some ⟨B, 16, none⟩)) rfl (by kernel_rfl) (by kernel_rfl) (by kernel_rfl) (fun _ _ _ h => h) (Or.inl ⟨by rfl, by intro w hSw; (try dsimp only at hSw); go_simp⟩) (by assumption) ?_
                    refine wpAnyH_ready (rs := [28]) (by kernel_rfl) (by simp) ?_
                    refine AllReadyH.cons rfl (fun K hK => ?_) ?_
                    · go_simp
                      refine hK.out _ _ (by exact t4) (fun hHeld => ?_)
                      clear hK K
                      refine wpAnyH_done (by kernel_rfl) ?_ _
                      clear t1 t2 t3 t4
                      go_wp2_with fail
                      go_meet
                      case rel => exact HP9
                    exact AllReadyH.nil
                  exact AllReadyH.nil
                exact AllReadyH.nil
              exact AllReadyH.nil
            case rest =>
              obtain ⟨⟨uv, hD⟩, hFA, hFB, hXB⟩ := hcut.out
              clear hcut
              generalize wc = w5 at *
              have hD' : DS w5 M B { a with jumps := a.jumps ++ [⟨Lo.length, y.1, r.line, y.2⟩] } Qs nl Lo { r with uses := uv } := hD
              have HDd := hidA hD'
              have HFA := hidA hFA
              have HFb := hidA hFB
              have HXb := hidA hXB
              clear hD hD' hFA hFB hXB HJs HB7 HX7
              go_upto_region 25 with fail
              have hbd : Go.RowKit.Below w5.heap.size w5 w5.drew := bel_drewN w5 1
              have hDd := HDd.out.below hbd
              have hMd : M ≤ w5.drew.heap.size := hDd.bm.2
              obtain ⟨co, cc, hcd, _⟩ := own_slice (hDd.oc HO.out).1
              obtain ⟨cl, hcl⟩ : ∃ cl, cl = Lo.length := ⟨_, rfl⟩
              rw [← hcl] at hcd
              have hcd' : r.code = .slice co cl cc := hcd
              have hLo : Lo.length ≤ 65537 := by
                have h1 := HZ.out.code (lastP a) (by rw [HLp.out]; have := hDd.eq; rw [if_pos HO.out] at this; have h9 : a.lib = _ := this; rw [h9]; simp)
                rw [HLp.out] at h1
                exact Nat.le_trans h1 HZ.out.top
              have HSS : Hid (∀ W', Go.RowKit.Below w5.heap.size w5 W' → W'.cell? ⟨B, 10, none⟩ = some (.slice co cl cc) ∧ W'.cell? ⟨xb, 0, none⟩ = some (.int .i64 op) ∧ W'.cell? ⟨xb, 1, none⟩ = some (.int .i64 0)) := fun W' hb => by
                have hD := HDd.out.below hb
                have hX : XB W' xb op 0 := (hb.block xb (Array.getElem?_eq_some_iff.1 HXb.out).1).trans HXb.out
                exact ⟨by rw [hD.rx.cell 10, ← hcd']; rfl, hX.cells.1, hX.cells.2.1⟩
              have hS0 := (HSS.out _ hbd).2
              have a10 := (HSS.out _ hbd).1
              have a10w := (HSS.out _ (Go.RowKit.Below.refl _ w5)).1
              have hbo : ∀ o, Go.RowKit.Below w5.heap.size w5 (w5.drew.alloc o) := fun o => hbd.trans ((bel_al _ _).mono hbd.size)
              have hS3 := fun o => (HSS.out _ (hbo o)).2
              have a10' : ∀ o, (w5.alloc o).cell? ⟨B, 10, none⟩ = some (.slice co cl cc) := fun o => (HSS.out _ (hbo o)).1
              have a10d : ∀ o, (w5.alloc o).drew.cell? ⟨B, 10, none⟩ = some (.slice co cl cc) := fun o => (HSS.out _ (hbo o)).1
              have HFin : Hid (∀ (v' : Value) (w9 : World), FB w9 f (.int .i64 0) (.int .i64 0) (.int .i64 0) → DS w9 M B (setL { a with jumps := a.jumps ++ [⟨Lo.length, y.1, r.line, y.2⟩] } (Lo ++ [(op, 0)])) Qs nl (Lo ++ [(op, 0)]) { r with uses := uv, code := v' } → FrO (OO r w.heap.size) B w w9 → RdPost w M B r (insA a r.line x (y :: rest')) (.returned (ftv 0 0 0)) (((w9.setCell ⟨f, 0, none⟩ (.int .i64 0)).setCell ⟨f, 1, none⟩ (.int .i64 0)).setCell ⟨f, 2, none⟩ (.int .i64 0))) := fun v' w9 q1 q2 q3 =>
                .inr ⟨_, Qs, nl, _, _, HE.out.trans (by rw [HLp.out]), rfl, q2.ft q1 (fun g hg => by have := HNl.out g hg; have := HFs.out; omega) _ _ _, rfl, q3.trans (fro_ft (.inl (Nat.le_of_eq HFs.out.symm)) _ _ _), fun g hg => .inl hg⟩
              have HAp : Hid (∀ ty, ∃ v' w', (Builtin.append_ #[40, 40] ty #[.slice co cl cc, .slice (some ⟨w5.heap.size, 0, none⟩) 1 1]).run Tryz.prog (w5.alloc (.cells #[.int .i64 op, .int .i64 0] 76)).drew = .ok v' w' ∧ (∃ o9 n9 c9, v' = .slice o9 n9 c9) ∧ w'.cell? ⟨B, 10, none⟩ = some (.slice co cl cc) ∧ w'.frozen? ⟨B, 10, none⟩ = false ∧ (w'.cell? ⟨xb, 0, none⟩ = some (.int .i64 op) ∧ w'.cell? ⟨xb, 1, none⟩ = some (.int .i64 0)) ∧ ((w'.setCell ⟨B, 10, none⟩ v').cell? ⟨xb, 0, none⟩ = some (.int .i64 op) ∧ (w'.setCell ⟨B, 10, none⟩ v').cell? ⟨xb, 1, none⟩ = some (.int .i64 0)) ∧ Hid (FB (w'.setCell ⟨B, 10, none⟩ v') f (.int .i64 0) (.int .i64 0) (.int .i64 0) ∧ DS (w'.setCell ⟨B, 10, none⟩ v') M B (setL { a with jumps := a.jumps ++ [⟨Lo.length, y.1, r.line, y.2⟩] } (Lo ++ [(op, 0)])) Qs nl (Lo ++ [(op, 0)]) { r with uses := uv, code := v' } ∧ FrO (OO r w.heap.size) B w (w'.setCell ⟨B, 10, none⟩ v'))) := fun ty => by
                have hcs : w5.drew.ownsRow M 76 2 (.slice co cl cc) Lo.length (cks Lo) := by rw [← hcd]; exact (hDd.oc HO.out).1
                obtain ⟨v', w', p1, ⟨o9, c9, hv9⟩, p3, p4, p5, p6⟩ := rapp Tryz.underlying40 infoIn rfl (by decide) (by decide) (by decide) (zs := [.int .i64 op, .int .i64 0]) hDd.rx hcs rfl (by intro u hu; simp at hu; rcases hu with rfl | rfl <;> rfl) hLo hMd ty
                have hx2 : RX (w'.setCell ⟨B, 10, none⟩ v') B { r with uses := uv, code := v' } := heap_setCell_same w' B 10 _ _ v' p3
                have hfB : FB w5.drew f (.int .i64 0) (.int .i64 0) (.int .i64 0) := HFb.out
                have hXd : XB w5.drew xb op 0 := HXb.out
                have nxb : (Value.slice co cl cc).ownBlock ≠ some xb := fun e => by
                  have e' : r.code.ownBlock = some xb := by rw [hcd']; exact e
                  have h1 := HCb.out xb e'
                  have h2 := HX3l.out.1
                  have h3 := HB1.out.size
                  omega
                have nfb : (Value.slice co cl cc).ownBlock ≠ some f := fun e => by
                  obtain ⟨cur', hc'⟩ := own_blk hcs e
                  rw [show w5.drew.heap[f]? = _ from hfB] at hc'
                  simp only [Option.some.injEq, Obj.cells.injEq] at hc'
                  exact absurd hc'.2.1 (by decide)
                have hwx : w'.heap[xb]? = w5.drew.heap[xb]? := p4.block xb (Array.getElem?_eq_some_iff.1 hXd).1 (hDd.rx.ne hXd (by decide)) nxb
                have hwx2 : (w'.setCell ⟨B, 10, none⟩ v').heap[xb]? = w5.drew.heap[xb]? := (heap_setCell_other _ _ _ _ (hDd.rx.ne hXd (by decide))).trans hwx
                have hwf2 : (w'.setCell ⟨B, 10, none⟩ v').heap[f]? = w5.drew.heap[f]? := (heap_setCell_other _ _ _ _ (hDd.rx.ne hfB (by decide))).trans (p4.block f (Array.getElem?_eq_some_iff.1 hfB).1 (hDd.rx.ne hfB (by decide)) nfb)
                have f4 : FrB B r.code.ownBlock w5.drew (w'.setCell ⟨B, 10, none⟩ v') := by rw [hcd']; exact p4.set
                have hX' : XB w' xb op 0 := hwx.trans hXd
                have hX2 : XB (w'.setCell ⟨B, 10, none⟩ v') xb op 0 := hwx2.trans hXd
                refine ⟨v', w', p1, ⟨o9, _, c9, hv9⟩, by rw [p3.cell 10, ← hcd']; rfl, frozen_of_row _ _ 10 _ _ p3, ⟨hX'.cells.1, hX'.cells.2.1⟩, ⟨hX2.cells.1, hX2.cells.2.1⟩, hwf2.trans hfB, ?_, ?_⟩
                · refine hDd.recode (r := { r with uses := uv }) HO.out hx2 ?_ f4 (by rw [show ({ r with uses := uv } : Rv).code = _ from hcd']; exact p6) ?_
                  · rw [cks_appA, List.length_append]
                    exact p5 10
                  · intro q hq
                    rcases List.mem_append.1 hq with hq | hq
                    · exact (hDd.oko HO.out).2.1 q hq
                    · simp only [List.mem_singleton] at hq
                      subst hq
                      exact ⟨HOpi.out, HIn.out⟩
                · exact HFA.out.trans ((FrO.bel hbd).trans (f4.fro (fun g hg => .inr (.inr (.inr (.inr (.inr hg)))))))
              clear hbo hDd hcd hcd' hLo hcl
              refine wp_region_held_drew (S := fun w' => w'.cell? ⟨xb, 0, none⟩ = some (.int .i64 op) ∧ w'.cell? ⟨xb, 1, none⟩ = some (.int .i64 0)) (by kernel_rfl) ?_ (fun hHeld => ?_)
              · exact hS0
              refine wpAnyH_take (i := 0) (v := .pointer (some ⟨B, 0, none⟩)) rfl (by kernel_rfl) (by kernel_rfl) (by kernel_rfl) (fun _ _ _ h => h) (Or.inl ⟨by rfl, by intro w hSw; (try dsimp only at hSw); go_simp⟩) (by assumption) ?_
              refine wpAnyH_take (i := 1) (v := .pointer (some ⟨B, 0, none⟩)) rfl (by kernel_rfl) (by kernel_rfl) (by kernel_rfl) (fun _ _ _ h => h) (Or.inl ⟨by rfl, by intro w hSw; (try dsimp only at hSw); go_simp⟩) (by assumption) ?_
              refine wpAnyH_take (i := 2) (v := .pointer (some ⟨B, 0, none⟩)) rfl (by kernel_rfl) (by kernel_rfl) (by kernel_rfl) (fun _ _ _ h => h) (Or.inl ⟨by rfl, by intro w hSw; (try dsimp only at hSw); go_simp⟩) (by assumption) ?_
              refine wpAnyH_take (i := 3) (v := .pointer (some ⟨B, 6, none⟩)) rfl (by kernel_rfl) (by kernel_rfl) (by kernel_rfl) (fun _ _ _ h => h) (Or.inl ⟨by rfl, by intro w hSw; (try dsimp only at hSw); go_simp⟩) (by assumption) ?_
              refine wpAnyH_take (i := 4) (v := .pointer (some ⟨B, 10, none⟩)) rfl (by kernel_rfl) (by kernel_rfl) (by kernel_rfl) (fun _ _ _ h => h) (Or.inl ⟨by rfl, by intro w hSw; (try dsimp only at hSw); go_simp⟩) (by assumption) ?_
              refine wpAnyH_take (i := 6) (v := .agg #[.int .i64 op, .int .i64 0]) rfl (by kernel_rfl) (by kernel_rfl) (by kernel_rfl) (fun _ _ _ h => h) (Or.inl ⟨by rfl, by intro w hSw; (try dsimp only at hSw); go_simp⟩) (by assumption) ?_
              refine wpAnyH_ready (rs := [5, 7]) (by kernel_rfl) (by simp) ?_
              refine AllReadyH.cons rfl (fun K hK => ?_) ?_
              · go_simp
                refine hK.out _ _ (by assumption) (fun hHeld => ?_)
                clear hK K
                refine wpAnyH_ready (rs := [7]) (by kernel_rfl) (by simp) ?_
                refine AllReadyH.cons rfl (fun K hK => ?_) ?_
                · go_simp
                  refine hK.out _ _ (by exact hS3 _) (fun hHeld => ?_)
                  clear hK K
                  refine wpAnyH_ready (rs := [8]) (by kernel_rfl) (by simp) ?_
                  refine AllReadyH.cons rfl (fun K hK => ?_) ?_
                  · refine step_appA rfl _ _ 40 rfl (.slice co cl cc) (.slice (some ⟨w5.heap.size, 0, none⟩) 1 1) rfl rfl HAp.out ?_
                    rintro v' w9 ⟨⟨o9, n9, c9, rfl⟩, t1, t2, t3, t4, HP9⟩
                    refine hK.out _ _ (by exact t3) (fun hHeld => ?_)
                    clear hK K
                    refine wpAnyH_take (i := 9) (v := .pointer (some ⟨B, 0, none⟩)) rfl (by kernel_rfl) (by kernel_rfl) (by kernel_rfl) (fun _ _ _ h => h) (Or.inl ⟨by rfl, by intro w hSw; (try dsimp only at hSw); go_simp⟩) (by assumption) ?_
                    refine wpAnyH_take (i := 10) (v := .pointer (some ⟨B, 6, none⟩)) rfl (by kernel_rfl) (by kernel_rfl) (by kernel_rfl) (fun _ _ _ h => h) (Or.inl ⟨by rfl, by intro w hSw; (try dsimp only at hSw); go_simp⟩) (by assumption) ?_
                    refine wpAnyH_take (i := 11) (v := .pointer (some ⟨B, 10, none⟩)) rfl (by kernel_rfl) (by kernel_rfl) (by kernel_rfl) (fun _ _ _ h => h) (Or.inl ⟨by rfl, by intro w hSw; (try dsimp only at hSw); go_simp⟩) (by assumption) ?_
                    refine wpAnyH_ready (rs := [12]) (by kernel_rfl) (by simp) ?_
                    refine AllReadyH.cons rfl (fun K hK => ?_) ?_
                    · go_simp
                      refine hK.out _ _ (by exact t4) (fun hHeld => ?_)
                      clear hK K
                      refine wpAnyH_done (by kernel_rfl) ?_ _
                      obtain ⟨p1, p2, p3⟩ := HP9.out
                      obtain ⟨⟨g0, g1, g2⟩, ⟨c0, c1, c2⟩, hst⟩ := ft_facts p1
                      have hld := load_fault (hst (.int .i64 0) (.int .i64 0) (.int .i64 0))
                      have HX := hidA (HFin.out _ _ p1 p2 p3)
                      clear p1 p2 p3 HP9 hst t1 t2 t3 t4
                      go_wp2_with fail
                      refine bodyPost_ret (v := ftv 0 0 0) ?_ rfl ?_
                      · simp [results, Tryz.results22, asAddr, hld]
                      · exact HX.out
                    exact AllReadyH.nil
                  exact AllReadyH.nil
                exact AllReadyH.nil
              refine AllReadyH.cons rfl (fun K hK => ?_) ?_
              · go_simp
                refine hK.out _ _ (by exact hS3 _) (fun hHeld => ?_)
                clear hK K
                refine wpAnyH_ready (rs := [5]) (by kernel_rfl) (by simp) ?_
                refine AllReadyH.cons rfl (fun K hK => ?_) ?_
                · go_simp
                  refine hK.out _ _ (by assumption) (fun hHeld => ?_)
                  clear hK K
                  refine wpAnyH_ready (rs := [8]) (by kernel_rfl) (by simp) ?_
                  refine AllReadyH.cons rfl (fun K hK => ?_) ?_
                  · refine step_appA rfl _ _ 40 rfl (.slice co cl cc) (.slice (some ⟨w5.heap.size, 0, none⟩) 1 1) rfl rfl HAp.out ?_
                    rintro v' w9 ⟨⟨o9, n9, c9, rfl⟩, t1, t2, t3, t4, HP9⟩
                    refine hK.out _ _ (by exact t3) (fun hHeld => ?_)
                    clear hK K
                    refine wpAnyH_take (i := 9) (v := .pointer (some ⟨B, 0, none⟩)) rfl (by kernel_rfl) (by kernel_rfl) (by kernel_rfl) (fun _ _ _ h => h) (Or.inl ⟨by rfl, by intro w hSw; (try dsimp only at hSw); go_simp⟩) (by assumption) ?_
                    refine wpAnyH_take (i := 10) (v := .pointer (some ⟨B, 6, none⟩)) rfl (by kernel_rfl) (by kernel_rfl) (by kernel_rfl) (fun _ _ _ h => h) (Or.inl ⟨by rfl, by intro w hSw; (try dsimp only at hSw); go_simp⟩) (by assumption) ?_
                    refine wpAnyH_take (i := 11) (v := .pointer (some ⟨B, 10, none⟩)) rfl (by kernel_rfl) (by kernel_rfl) (by kernel_rfl) (fun _ _ _ h => h) (Or.inl ⟨by rfl, by intro w hSw; (try dsimp only at hSw); go_simp⟩) (by assumption) ?_
                    refine wpAnyH_ready (rs := [12]) (by kernel_rfl) (by simp) ?_
                    refine AllReadyH.cons rfl (fun K hK => ?_) ?_
                    · go_simp
                      refine hK.out _ _ (by exact t4) (fun hHeld => ?_)
                      clear hK K
                      refine wpAnyH_done (by kernel_rfl) ?_ _
                      obtain ⟨p1, p2, p3⟩ := HP9.out
                      obtain ⟨⟨g0, g1, g2⟩, ⟨c0, c1, c2⟩, hst⟩ := ft_facts p1
                      have hld := load_fault (hst (.int .i64 0) (.int .i64 0) (.int .i64 0))
                      have HX := hidA (HFin.out _ _ p1 p2 p3)
                      clear p1 p2 p3 HP9 hst t1 t2 t3 t4
                      go_wp2_with fail
                      refine bodyPost_ret (v := ftv 0 0 0) ?_ rfl ?_
                      · simp [results, Tryz.results22, asAddr, hld]
                      · exact HX.out
                    exact AllReadyH.nil
                  exact AllReadyH.nil
                exact AllReadyH.nil
              exact AllReadyH.nil
          · have h30 : (op == 30) = false := by rw [hjo]; rfl
            have h31 : (op == 31) = true := by rw [hjo]; rfl
            clear hj hjo
            go_upto_if 105 with fail
            go_cut [] from 106 to 133 (fun wx => Hid (UMid w wx M B f xb a Qs nl Lo r [⟨Lo.length, y.1, r.line, y.2⟩] op 0))
            case first =>
              clear HJs
              have hn2 : 2 ≤ n := by rw [HN.out]; simp
              obtain ⟨sy, hsy⟩ : ∃ sy, sy = S y.1 := ⟨_, rfl⟩
              go_upto_region 24 with fail
              have hbd : Go.RowKit.Below w1.heap.size w1 w5.drew := HB7.out.trans ((bel_drewN w5 1).mono HB7.out.size)
              have hDd := HDS.out _ hbd
              have hMd : M ≤ w5.drew.heap.size := hDd.bm.2
              obtain ⟨co, cc, hcd, _⟩ := own_slice (hDd.oc HO.out).1
              obtain ⟨uo, uc, hud, _⟩ := own_slice hDd.us
              obtain ⟨cl, hcl⟩ : ∃ cl, cl = Lo.length := ⟨_, rfl⟩
              obtain ⟨ul, hul⟩ : ∃ ul, ul = a.jumps.length := ⟨_, rfl⟩
              rw [← hcl] at hcd
              rw [← hul] at hud
              have HSS : Hid (∀ W', Go.RowKit.Below w1.heap.size w1 W' → W'.cell? ⟨B, 16, none⟩ = some (.slice uo ul uc) ∧ W'.cell? ⟨B, 10, none⟩ = some (.slice co cl cc) ∧ W'.cell? ⟨B, 17, none⟩ = some (.int .i64 (r.line : Int)) ∧ W'.cell? ⟨b, off + 2, none⟩ = some (.string sy) ∧ W'.cell? ⟨b, off + 2 + 1, none⟩ = some (.int .i64 (y.2 : Int))) := fun W' hb => by
                have hD := HDS.out W' hb
                have hq := wd_at (HWc.out W' hb) 1 (by simp)
                exact ⟨by rw [hD.rx.cell 16, ← hud]; rfl, by rw [hD.rx.cell 10, ← hcd]; rfl, by rw [hD.rx.cell 17]; rfl, by rw [hsy]; exact hq.1, hq.2⟩
              have hS0 := (HSS.out _ hbd).2
              have a16 := (HSS.out _ hbd).1
              have a16w := (HSS.out _ HB7.out).1
              have hbo : ∀ o, Go.RowKit.Below w1.heap.size w1 (w5.drew.alloc o) := fun o => hbd.trans ((bel_al _ _).mono hbd.size)
              have hS3 := fun o => (HSS.out _ (hbo o)).2
              have a16' : ∀ o, (w5.alloc o).cell? ⟨B, 16, none⟩ = some (.slice uo ul uc) := fun o => (HSS.out _ (hbo o)).1
              have a16d : ∀ o, (w5.alloc o).drew.cell? ⟨B, 16, none⟩ = some (.slice uo ul uc) := fun o => (HSS.out _ (hbo o)).1
              have hul2 : a.jumps.length ≤ 65537 := Nat.le_trans HZ.out.jmp HZ.out.top
              have HAp : Hid (∀ ty, ∃ v' w', (Builtin.append_ #[44, 44] ty #[.slice uo ul uc, .slice (some ⟨w5.heap.size, 0, none⟩) 1 1]).run Tryz.prog (w5.alloc (.cells #[.int .i64 (cl : Int), .string sy, .int .i64 (r.line : Int), .int .i64 (y.2 : Int)] 113)).drew = .ok v' w' ∧ (∃ o9 n9 c9, v' = .slice o9 n9 c9) ∧ w'.cell? ⟨B, 16, none⟩ = some (.slice uo ul uc) ∧ w'.frozen? ⟨B, 16, none⟩ = false ∧ (w'.cell? ⟨B, 10, none⟩ = some (.slice co cl cc) ∧ w'.cell? ⟨B, 17, none⟩ = some (.int .i64 (r.line : Int)) ∧ w'.cell? ⟨b, off + 2, none⟩ = some (.string sy) ∧ w'.cell? ⟨b, off + 2 + 1, none⟩ = some (.int .i64 (y.2 : Int))) ∧ ((w'.setCell ⟨B, 16, none⟩ v').cell? ⟨B, 10, none⟩ = some (.slice co cl cc) ∧ (w'.setCell ⟨B, 16, none⟩ v').cell? ⟨B, 17, none⟩ = some (.int .i64 (r.line : Int)) ∧ (w'.setCell ⟨B, 16, none⟩ v').cell? ⟨b, off + 2, none⟩ = some (.string sy) ∧ (w'.setCell ⟨B, 16, none⟩ v').cell? ⟨b, off + 2 + 1, none⟩ = some (.int .i64 (y.2 : Int))) ∧ Hid (UMid w (w'.setCell ⟨B, 16, none⟩ v') M B f xb a Qs nl Lo r [⟨Lo.length, y.1, r.line, y.2⟩] op 0)) := fun ty => by
                have hus : w5.drew.ownsRow M 113 4 (.slice uo ul uc) a.jumps.length (jpc a.jumps) := by rw [← hud]; exact hDd.us
                obtain ⟨v', w', p1, ⟨o9, c9, hv9⟩, p3, p4, p5, p6⟩ := rapp Tryz.underlying44 infoUs rfl (by decide) (by decide) (by decide) (zs := [.int .i64 (cl : Int), .string sy, .int .i64 (r.line : Int), .int .i64 (y.2 : Int)]) hDd.rx hus rfl (by intro u hu; simp at hu; rcases hu with rfl | rfl | rfl | rfl <;> rfl) hul2 hMd ty
                have hx2 : RX (w'.setCell ⟨B, 16, none⟩ v') B { r with uses := v' } := heap_setCell_same w' B 16 _ _ v' p3
                have hq := HSS.out _ hbd
                have hge := own_ge hus
                have hnb : (Value.slice uo ul uc).ownBlock ≠ some b := fun e => by have := hge b e; omega
                have hbW : b < w5.drew.heap.size := by omega
                have hwb : w'.heap[b]? = w5.drew.heap[b]? := p4.block b hbW hbM.2 hnb
                have hwb2 : (w'.setCell ⟨B, 16, none⟩ v').heap[b]? = w5.drew.heap[b]? := (heap_setCell_other _ _ _ _ hbM.2).trans hwb
                have hfB : FB w5.drew f (.int .i64 0) (.int .i64 0) (.int .i64 0) := HFF.out _ hbd
                have hXd : XB w5.drew xb op 0 := HX7.out
                have oth : ∀ (g : Nat) (cur : Array Value) (t : TypeId), w5.drew.heap[g]? = some (.cells cur t (0, 0)) → t ≠ 46 → t ≠ 113 → (w'.setCell ⟨B, 16, none⟩ v').heap[g]? = w5.drew.heap[g]? := fun g cur t hg h1 h2 => (heap_setCell_other _ _ _ _ (hDd.rx.ne hg h1)).trans (p4.block g (Array.getElem?_eq_some_iff.1 hg).1 (hDd.rx.ne hg h1) (fun e => by
                  obtain ⟨cur', hc'⟩ := own_blk hus e
                  rw [hg] at hc'
                  simp only [Option.some.injEq, Obj.cells.injEq] at hc'
                  exact h2 hc'.2.1))
                have f4 : FrB B r.uses.ownBlock w5.drew (w'.setCell ⟨B, 16, none⟩ v') := by rw [hud]; exact p4.set
                refine ⟨v', w', p1, ⟨o9, _, c9, hv9⟩, by rw [p3.cell 16, ← hud]; rfl, frozen_of_row _ _ 16 _ _ p3, ⟨by rw [p3.cell 10, ← hcd]; rfl, by rw [p3.cell 17]; rfl, ?_, ?_⟩, ⟨by rw [hx2.cell 10, ← hcd]; rfl, by rw [hx2.cell 17]; rfl, ?_, ?_⟩, ⟨⟨v', ?_⟩, ?_, (oth f _ _ hfB (by decide) (by decide)).trans hfB, (oth xb _ _ hXd (by decide) (by decide)).trans hXd⟩⟩
                · have := hq.2.2.2.1; simp only [World.cell?] at this ⊢; rw [hwb]; exact this
                · have := hq.2.2.2.2; simp only [World.cell?] at this ⊢; rw [hwb]; exact this
                · have := hq.2.2.2.1; simp only [World.cell?] at this ⊢; rw [hwb2]; exact this
                · have := hq.2.2.2.2; simp only [World.cell?] at this ⊢; rw [hwb2]; exact this
                · refine hDd.use hx2 ?_ f4
                  have := p5 16
                  rw [hsy, hcl] at this
                  exact this
                · exact (FrO.bel (HB1.out.trans (hbd.mono HB1.out.size))).trans (f4.fro (fun g hg => .inr (.inr (.inr (.inr (.inl hg))))))
              clear hbo hDd hcd hud hul2 hcl hul hsy
              have hni : ¬ ((n : Int) ≤ 1) := by omega
              refine wp_region_held_drew (S := fun w' => w'.cell? ⟨B, 10, none⟩ = some (.slice co cl cc) ∧ w'.cell? ⟨B, 17, none⟩ = some (.int .i64 (r.line : Int)) ∧ w'.cell? ⟨b, off + 2, none⟩ = some (.string sy) ∧ w'.cell? ⟨b, off + 2 + 1, none⟩ = some (.int .i64 (y.2 : Int))) (by kernel_rfl) ?_ (fun hHeld => ?_)
              · exact hS0
              refine wpAnyH_take (i := 0) (v := .pointer (some ⟨B, 0, none⟩)) rfl (by kernel_rfl) (by kernel_rfl) (by kernel_rfl) (fun _ _ _ h => h) (Or.inl ⟨by rfl, by intro w hSw; (try dsimp only at hSw); go_simp⟩) (by assumption) ?_
              refine wpAnyH_take (i := 1) (v := .pointer (some ⟨B, 0, none⟩)) rfl (by kernel_rfl) (by kernel_rfl) (by kernel_rfl) (fun _ _ _ h => h) (Or.inl ⟨by rfl, by intro w hSw; (try dsimp only at hSw); go_simp⟩) (by assumption) ?_
              refine wpAnyH_take (i := 2) (v := .pointer (some ⟨B, 0, none⟩)) rfl (by kernel_rfl) (by kernel_rfl) (by kernel_rfl) (fun _ _ _ h => h) (Or.inl ⟨by rfl, by intro w hSw; (try dsimp only at hSw); go_simp⟩) (by assumption) ?_
              refine wpAnyH_take (i := 3) (v := .pointer (some ⟨B, 16, none⟩)) rfl (by kernel_rfl) (by kernel_rfl) (by kernel_rfl) (fun _ _ _ h => h) (Or.inl ⟨by rfl, by intro w hSw; (try dsimp only at hSw); go_simp⟩) (by assumption) ?_
              refine wpAnyH_take (i := 5) (v := .pointer (some ⟨B, 0, none⟩)) rfl (by kernel_rfl) (by kernel_rfl) (by kernel_rfl) (fun _ _ _ h => h) (Or.inl ⟨by rfl, by intro w hSw; (try dsimp only at hSw); go_simp⟩) (by assumption) ?_
              refine wpAnyH_take (i := 6) (v := .pointer (some ⟨B, 0, none⟩)) rfl (by kernel_rfl) (by kernel_rfl) (by kernel_rfl) (fun _ _ _ h => h) (Or.inl ⟨by rfl, by intro w hSw; (try dsimp only at hSw); go_simp⟩) (by assumption) ?_
              refine wpAnyH_take (i := 7) (v := .pointer (some ⟨B, 6, none⟩)) rfl (by kernel_rfl) (by kernel_rfl) (by kernel_rfl) (fun _ _ _ h => h) (Or.inl ⟨by rfl, by intro w hSw; (try dsimp only at hSw); go_simp⟩) (by assumption) ?_
              refine wpAnyH_take (i := 8) (v := .pointer (some ⟨B, 10, none⟩)) rfl (by kernel_rfl) (by kernel_rfl) (by kernel_rfl) (fun _ _ _ h => h) (Or.inl ⟨by rfl, by intro w hSw; (try dsimp only at hSw); go_simp⟩) (by assumption) ?_
              refine wpAnyH_take (i := 9) (v := .slice co cl cc) rfl (by kernel_rfl) (by kernel_rfl) (by kernel_rfl) (fun _ _ _ h => h) (Or.inl ⟨by rfl, by intro w hSw; (try dsimp only at hSw); go_simp⟩) (by assumption) ?_
              refine wpAnyH_take (i := 10) (v := .int .i64 (cl : Int)) rfl (by kernel_rfl) (by kernel_rfl) (by kernel_rfl) (fun _ _ _ h => h) (Or.inl ⟨by rfl, by intro w hSw; (try dsimp only at hSw); go_simp⟩) (by assumption) ?_
              refine wpAnyH_take (i := 11) (v := .slice (some ⟨b, off, none⟩) n wcc) rfl (by kernel_rfl) (by kernel_rfl) (by kernel_rfl) (fun _ _ _ h => h) (Or.inl ⟨by rfl, by intro w hSw; (try dsimp only at hSw); go_simp⟩) (by assumption) ?_
              refine wpAnyH_take (i := 12) (v := .pointer (some ⟨b, off + 2, none⟩)) rfl (by kernel_rfl) (by kernel_rfl) (by kernel_rfl) (fun _ _ _ h => h) (Or.inl ⟨by rfl, by intro w hSw; (try dsimp only at hSw); go_simp⟩) (by assumption) ?_
              refine wpAnyH_take (i := 13) (v := .pointer (some ⟨b, off + 2, none⟩)) rfl (by kernel_rfl) (by kernel_rfl) (by kernel_rfl) (fun _ _ _ h => h) (Or.inl ⟨by rfl, by intro w hSw; (try dsimp only at hSw); go_simp⟩) (by assumption) ?_
              refine wpAnyH_take (i := 14) (v := .string sy) rfl (by kernel_rfl) (by kernel_rfl) (by kernel_rfl) (fun _ _ _ h => h) (Or.inl ⟨by rfl, by intro w hSw; (try dsimp only at hSw); go_simp⟩) (by assumption) ?_
              refine wpAnyH_take (i := 15) (v := .pointer (some ⟨B, 0, none⟩)) rfl (by kernel_rfl) (by kernel_rfl) (by kernel_rfl) (fun _ _ _ h => h) (Or.inl ⟨by rfl, by intro w hSw; (try dsimp only at hSw); go_simp⟩) (by assumption) ?_
              refine wpAnyH_take (i := 16) (v := .pointer (some ⟨B, 0, none⟩)) rfl (by kernel_rfl) (by kernel_rfl) (by kernel_rfl) (fun _ _ _ h => h) (Or.inl ⟨by rfl, by intro w hSw; (try dsimp only at hSw); go_simp⟩) (by assumption) ?_
              refine wpAnyH_take (i := 17) (v := .pointer (some ⟨B, 17, none⟩)) rfl (by kernel_rfl) (by kernel_rfl) (by kernel_rfl) (fun _ _ _ h => h) (Or.inl ⟨by rfl, by intro w hSw; (try dsimp only at hSw); go_simp⟩) (by assumption) ?_
              refine wpAnyH_take (i := 18) (v := .int .i64 (r.line : Int)) rfl (by kernel_rfl) (by kernel_rfl) (by kernel_rfl) (fun _ _ _ h => h) (Or.inl ⟨by rfl, by intro w hSw; (try dsimp only at hSw); go_simp⟩) (by assumption) ?_
              refine wpAnyH_take (i := 19) (v := .slice (some ⟨b, off, none⟩) n wcc) rfl (by kernel_rfl) (by kernel_rfl) (by kernel_rfl) (fun _ _ _ h => h) (Or.inl ⟨by rfl, by intro w hSw; (try dsimp only at hSw); go_simp⟩) (by assumption) ?_
              refine wpAnyH_take (i := 20) (v := .pointer (some ⟨b, off + 2, none⟩)) rfl (by kernel_rfl) (by kernel_rfl) (by kernel_rfl) (fun _ _ _ h => h) (Or.inl ⟨by rfl, by intro w hSw; (try dsimp only at hSw); go_simp⟩) (by assumption) ?_
              refine wpAnyH_take (i := 21) (v := .pointer (some ⟨b, off + 2 + 1, none⟩)) rfl (by kernel_rfl) (by kernel_rfl) (by kernel_rfl) (fun _ _ _ h => h) (Or.inl ⟨by rfl, by intro w hSw; (try dsimp only at hSw); go_simp⟩) (by assumption) ?_
              refine wpAnyH_take (i := 22) (v := .int .i64 (y.2 : Int)) rfl (by kernel_rfl) (by kernel_rfl) (by kernel_rfl) (fun _ _ _ h => h) (Or.inl ⟨by rfl, by intro w hSw; (try dsimp only at hSw); go_simp⟩) (by assumption) ?_
              refine wpAnyH_take (i := 23) (v := .agg #[.int .i64 (cl : Int), .string sy, .int .i64 (r.line : Int), .int .i64 (y.2 : Int)]) rfl (by kernel_rfl) (by kernel_rfl) (by kernel_rfl) (fun _ _ _ h => h) (Or.inl ⟨by rfl, by intro w hSw; (try dsimp only at hSw); go_simp⟩) (by assumption) ?_
              refine wpAnyH_ready (rs := [4, 24]) (by kernel_rfl) (by simp) ?_
              refine AllReadyH.cons rfl (fun K hK => ?_) ?_
              · go_simp
                refine hK.out _ _ (by assumption) (fun hHeld => ?_)
                clear hK K
                refine wpAnyH_ready (rs := [24]) (by kernel_rfl) (by simp) ?_
                refine AllReadyH.cons rfl (fun K hK => ?_) ?_
                · go_simp
                  refine hK.out _ _ (by exact hS3 _) (fun hHeld => ?_)
                  clear hK K
                  refine wpAnyH_ready (rs := [25]) (by kernel_rfl) (by simp) ?_
                  refine AllReadyH.cons rfl (fun K hK => ?_) ?_
                  · refine step_appA rfl _ _ 44 rfl (.slice uo ul uc) (.slice (some ⟨w5.heap.size, 0, none⟩) 1 1) rfl rfl HAp.out ?_
                    rintro v' w9 ⟨⟨o9, n9, c9, rfl⟩, t1, t2, t3, t4, HP9⟩
                    refine hK.out _ _ (by exact t3) (fun hHeld => ?_)
                    clear hK K
                    refine wpAnyH_take (i := 26) (v := .pointer (some ⟨B, 0, none⟩)) rfl (by kernel_rfl) (by kernel_rfl) (by kernel_rfl) (fun _ _ _ h => h) (Or.inl ⟨by rfl, by intro w hSw; (try dsimp only at hSw); go_simp⟩) (by assumption) ?_
                    refine wpAnyH_take (i := 27) (v := .pointer (some ⟨B, 16, none⟩)) rfl (by kernel_rfl) (by kernel_rfl) (by kernel_rfl) (fun _ _ _ h => h) (Or.inl ⟨by rfl, by intro w hSw; (try dsimp only at hSw); go_simp⟩) (by assumption) ?_
                    refine wpAnyH_ready (rs := [28]) (by kernel_rfl) (by simp) ?_
                    refine AllReadyH.cons rfl (fun K hK => ?_) ?_
                    · go_simp
                      refine hK.out _ _ (by exact t4) (fun hHeld => ?_)
                      clear hK K
                      refine wpAnyH_done (by kernel_rfl) ?_ _
                      clear t1 t2 t3 t4
                      go_wp2_with fail
                      go_meet
                      case rel => exact HP9
                    exact AllReadyH.nil
                  exact AllReadyH.nil
                exact AllReadyH.nil
              refine AllReadyH.cons rfl (fun K hK => ?_) ?_
              · go_simp
                refine hK.out _ _ (by exact hS3 _) (fun hHeld => ?_)
                clear hK K
                refine wpAnyH_ready (rs := [4]) (by kernel_rfl) (by simp) ?_
                refine AllReadyH.cons rfl (fun K hK => ?_) ?_
                · go_simp
                  refine hK.out _ _ (by assumption) (fun hHeld => ?_)
                  clear hK K
                  refine wpAnyH_ready (rs := [25]) (by kernel_rfl) (by simp) ?_
                  refine AllReadyH.cons rfl (fun K hK => ?_) ?_
                  · refine step_appA rfl _ _ 44 rfl (.slice uo ul uc) (.slice (some ⟨w5.heap.size, 0, none⟩) 1 1) rfl rfl HAp.out ?_
                    rintro v' w9 ⟨⟨o9, n9, c9, rfl⟩, t1, t2, t3, t4, HP9⟩
                    refine hK.out _ _ (by exact t3) (fun hHeld => ?_)
                    clear hK K
                    refine wpAnyH_take (i := 26) (v := .pointer (some ⟨B, 0, none⟩)) rfl (by kernel_rfl) (by kernel_rfl) (by kernel_rfl) (fun _ _ _ h => h) (Or.inl ⟨by rfl, by intro w hSw; (try dsimp only at hSw); go_simp⟩) (by assumption) ?_
                    refine wpAnyH_take (i := 27) (v := .pointer (some ⟨B, 16, none⟩)) rfl (by kernel_rfl) (by kernel_rfl) (by kernel_rfl) (fun _ _ _ h => h) (Or.inl ⟨by rfl, by intro w hSw; (try dsimp only at hSw); go_simp⟩) (by assumption) ?_
                    refine wpAnyH_ready (rs := [28]) (by kernel_rfl) (by simp) ?_
                    refine AllReadyH.cons rfl (fun K hK => ?_) ?_
                    · go_simp
                      refine hK.out _ _ (by exact t4) (fun hHeld => ?_)
                      clear hK K
                      refine wpAnyH_done (by kernel_rfl) ?_ _
                      clear t1 t2 t3 t4
                      go_wp2_with fail
                      go_meet
                      case rel => exact HP9
                    exact AllReadyH.nil
                  exact AllReadyH.nil
                exact AllReadyH.nil
              exact AllReadyH.nil
            case rest =>
              obtain ⟨⟨uv, hD⟩, hFA, hFB, hXB⟩ := hcut.out
              clear hcut
              generalize wc = w5 at *
              have hD' : DS w5 M B { a with jumps := a.jumps ++ [⟨Lo.length, y.1, r.line, y.2⟩] } Qs nl Lo { r with uses := uv } := hD
              have HDd := hidA hD'
              have HFA := hidA hFA
              have HFb := hidA hFB
              have HXb := hidA hXB
              clear hD hD' hFA hFB hXB HJs HB7 HX7
              go_upto_region 25 with fail
              have hbd : Go.RowKit.Below w5.heap.size w5 w5.drew := bel_drewN w5 1
              have hDd := HDd.out.below hbd
              have hMd : M ≤ w5.drew.heap.size := hDd.bm.2
              obtain ⟨co, cc, hcd, _⟩ := own_slice (hDd.oc HO.out).1
              obtain ⟨cl, hcl⟩ : ∃ cl, cl = Lo.length := ⟨_, rfl⟩
              rw [← hcl] at hcd
              have hcd' : r.code = .slice co cl cc := hcd
              have hLo : Lo.length ≤ 65537 := by
                have h1 := HZ.out.code (lastP a) (by rw [HLp.out]; have := hDd.eq; rw [if_pos HO.out] at this; have h9 : a.lib = _ := this; rw [h9]; simp)
                rw [HLp.out] at h1
                exact Nat.le_trans h1 HZ.out.top
              have HSS : Hid (∀ W', Go.RowKit.Below w5.heap.size w5 W' → W'.cell? ⟨B, 10, none⟩ = some (.slice co cl cc) ∧ W'.cell? ⟨xb, 0, none⟩ = some (.int .i64 op) ∧ W'.cell? ⟨xb, 1, none⟩ = some (.int .i64 0)) := fun W' hb => by
                have hD := HDd.out.below hb
                have hX : XB W' xb op 0 := (hb.block xb (Array.getElem?_eq_some_iff.1 HXb.out).1).trans HXb.out
                exact ⟨by rw [hD.rx.cell 10, ← hcd']; rfl, hX.cells.1, hX.cells.2.1⟩
              have hS0 := (HSS.out _ hbd).2
              have a10 := (HSS.out _ hbd).1
              have a10w := (HSS.out _ (Go.RowKit.Below.refl _ w5)).1
              have hbo : ∀ o, Go.RowKit.Below w5.heap.size w5 (w5.drew.alloc o) := fun o => hbd.trans ((bel_al _ _).mono hbd.size)
              have hS3 := fun o => (HSS.out _ (hbo o)).2
              have a10' : ∀ o, (w5.alloc o).cell? ⟨B, 10, none⟩ = some (.slice co cl cc) := fun o => (HSS.out _ (hbo o)).1
              have a10d : ∀ o, (w5.alloc o).drew.cell? ⟨B, 10, none⟩ = some (.slice co cl cc) := fun o => (HSS.out _ (hbo o)).1
              have HFin : Hid (∀ (v' : Value) (w9 : World), FB w9 f (.int .i64 0) (.int .i64 0) (.int .i64 0) → DS w9 M B (setL { a with jumps := a.jumps ++ [⟨Lo.length, y.1, r.line, y.2⟩] } (Lo ++ [(op, 0)])) Qs nl (Lo ++ [(op, 0)]) { r with uses := uv, code := v' } → FrO (OO r w.heap.size) B w w9 → RdPost w M B r (insA a r.line x (y :: rest')) (.returned (ftv 0 0 0)) (((w9.setCell ⟨f, 0, none⟩ (.int .i64 0)).setCell ⟨f, 1, none⟩ (.int .i64 0)).setCell ⟨f, 2, none⟩ (.int .i64 0))) := fun v' w9 q1 q2 q3 =>
                .inr ⟨_, Qs, nl, _, _, HE.out.trans (by rw [HLp.out]), rfl, q2.ft q1 (fun g hg => by have := HNl.out g hg; have := HFs.out; omega) _ _ _, rfl, q3.trans (fro_ft (.inl (Nat.le_of_eq HFs.out.symm)) _ _ _), fun g hg => .inl hg⟩
              have HAp : Hid (∀ ty, ∃ v' w', (Builtin.append_ #[40, 40] ty #[.slice co cl cc, .slice (some ⟨w5.heap.size, 0, none⟩) 1 1]).run Tryz.prog (w5.alloc (.cells #[.int .i64 op, .int .i64 0] 76)).drew = .ok v' w' ∧ (∃ o9 n9 c9, v' = .slice o9 n9 c9) ∧ w'.cell? ⟨B, 10, none⟩ = some (.slice co cl cc) ∧ w'.frozen? ⟨B, 10, none⟩ = false ∧ (w'.cell? ⟨xb, 0, none⟩ = some (.int .i64 op) ∧ w'.cell? ⟨xb, 1, none⟩ = some (.int .i64 0)) ∧ ((w'.setCell ⟨B, 10, none⟩ v').cell? ⟨xb, 0, none⟩ = some (.int .i64 op) ∧ (w'.setCell ⟨B, 10, none⟩ v').cell? ⟨xb, 1, none⟩ = some (.int .i64 0)) ∧ Hid (FB (w'.setCell ⟨B, 10, none⟩ v') f (.int .i64 0) (.int .i64 0) (.int .i64 0) ∧ DS (w'.setCell ⟨B, 10, none⟩ v') M B (setL { a with jumps := a.jumps ++ [⟨Lo.length, y.1, r.line, y.2⟩] } (Lo ++ [(op, 0)])) Qs nl (Lo ++ [(op, 0)]) { r with uses := uv, code := v' } ∧ FrO (OO r w.heap.size) B w (w'.setCell ⟨B, 10, none⟩ v'))) := fun ty => by
                have hcs : w5.drew.ownsRow M 76 2 (.slice co cl cc) Lo.length (cks Lo) := by rw [← hcd]; exact (hDd.oc HO.out).1
                obtain ⟨v', w', p1, ⟨o9, c9, hv9⟩, p3, p4, p5, p6⟩ := rapp Tryz.underlying40 infoIn rfl (by decide) (by decide) (by decide) (zs := [.int .i64 op, .int .i64 0]) hDd.rx hcs rfl (by intro u hu; simp at hu; rcases hu with rfl | rfl <;> rfl) hLo hMd ty
                have hx2 : RX (w'.setCell ⟨B, 10, none⟩ v') B { r with uses := uv, code := v' } := heap_setCell_same w' B 10 _ _ v' p3
                have hfB : FB w5.drew f (.int .i64 0) (.int .i64 0) (.int .i64 0) := HFb.out
                have hXd : XB w5.drew xb op 0 := HXb.out
                have nxb : (Value.slice co cl cc).ownBlock ≠ some xb := fun e => by
                  have e' : r.code.ownBlock = some xb := by rw [hcd']; exact e
                  have h1 := HCb.out xb e'
                  have h2 := HX3l.out.1
                  have h3 := HB1.out.size
                  omega
                have nfb : (Value.slice co cl cc).ownBlock ≠ some f := fun e => by
                  obtain ⟨cur', hc'⟩ := own_blk hcs e
                  rw [show w5.drew.heap[f]? = _ from hfB] at hc'
                  simp only [Option.some.injEq, Obj.cells.injEq] at hc'
                  exact absurd hc'.2.1 (by decide)
                have hwx : w'.heap[xb]? = w5.drew.heap[xb]? := p4.block xb (Array.getElem?_eq_some_iff.1 hXd).1 (hDd.rx.ne hXd (by decide)) nxb
                have hwx2 : (w'.setCell ⟨B, 10, none⟩ v').heap[xb]? = w5.drew.heap[xb]? := (heap_setCell_other _ _ _ _ (hDd.rx.ne hXd (by decide))).trans hwx
                have hwf2 : (w'.setCell ⟨B, 10, none⟩ v').heap[f]? = w5.drew.heap[f]? := (heap_setCell_other _ _ _ _ (hDd.rx.ne hfB (by decide))).trans (p4.block f (Array.getElem?_eq_some_iff.1 hfB).1 (hDd.rx.ne hfB (by decide)) nfb)
                have f4 : FrB B r.code.ownBlock w5.drew (w'.setCell ⟨B, 10, none⟩ v') := by rw [hcd']; exact p4.set
                have hX' : XB w' xb op 0 := hwx.trans hXd
                have hX2 : XB (w'.setCell ⟨B, 10, none⟩ v') xb op 0 := hwx2.trans hXd
                refine ⟨v', w', p1, ⟨o9, _, c9, hv9⟩, by rw [p3.cell 10, ← hcd']; rfl, frozen_of_row _ _ 10 _ _ p3, ⟨hX'.cells.1, hX'.cells.2.1⟩, ⟨hX2.cells.1, hX2.cells.2.1⟩, hwf2.trans hfB, ?_, ?_⟩
                · refine hDd.recode (r := { r with uses := uv }) HO.out hx2 ?_ f4 (by rw [show ({ r with uses := uv } : Rv).code = _ from hcd']; exact p6) ?_
                  · rw [cks_appA, List.length_append]
                    exact p5 10
                  · intro q hq
                    rcases List.mem_append.1 hq with hq | hq
                    · exact (hDd.oko HO.out).2.1 q hq
                    · simp only [List.mem_singleton] at hq
                      subst hq
                      exact ⟨HOpi.out, HIn.out⟩
                · exact HFA.out.trans ((FrO.bel hbd).trans (f4.fro (fun g hg => .inr (.inr (.inr (.inr (.inr hg)))))))
              clear hbo hDd hcd hcd' hLo hcl
              refine wp_region_held_drew (S := fun w' => w'.cell? ⟨xb, 0, none⟩ = some (.int .i64 op) ∧ w'.cell? ⟨xb, 1, none⟩ = some (.int .i64 0)) (by kernel_rfl) ?_ (fun hHeld => ?_)
              · exact hS0
              refine wpAnyH_take (i := 0) (v := .pointer (some ⟨B, 0, none⟩)) rfl (by kernel_rfl) (by kernel_rfl) (by kernel_rfl) (fun _ _ _ h => h) (Or.inl ⟨by rfl, by intro w hSw; (try dsimp only at hSw); go_simp⟩) (by assumption) ?_
              refine wpAnyH_take (i := 1) (v := .pointer (some ⟨B, 0, none⟩)) rfl (by kernel_rfl) (by kernel_rfl) (by kernel_rfl) (fun _ _ _ h => h) (Or.inl ⟨by rfl, by intro w hSw; (try dsimp only at hSw); go_simp⟩) (by assumption) ?_
              refine wpAnyH_take (i := 2) (v := .pointer (some ⟨B, 0, none⟩)) rfl (by kernel_rfl) (by kernel_rfl) (by kernel_rfl) (fun _ _ _ h => h) (Or.inl ⟨by rfl, by intro w hSw; (try dsimp only at hSw); go_simp⟩) (by assumption) ?_
              refine wpAnyH_take (i := 3) (v := .pointer (some ⟨B, 6, none⟩)) rfl (by kernel_rfl) (by kernel_rfl) (by kernel_rfl) (fun _ _ _ h => h) (Or.inl ⟨by rfl, by intro w hSw; (try dsimp only at hSw); go_simp⟩) (by assumption) ?_
              refine wpAnyH_take (i := 4) (v := .pointer (some ⟨B, 10, none⟩)) rfl (by kernel_rfl) (by kernel_rfl) (by kernel_rfl) (fun _ _ _ h => h) (Or.inl ⟨by rfl, by intro w hSw; (try dsimp only at hSw); go_simp⟩) (by assumption) ?_
              refine wpAnyH_take (i := 6) (v := .agg #[.int .i64 op, .int .i64 0]) rfl (by kernel_rfl) (by kernel_rfl) (by kernel_rfl) (fun _ _ _ h => h) (Or.inl ⟨by rfl, by intro w hSw; (try dsimp only at hSw); go_simp⟩) (by assumption) ?_
              refine wpAnyH_ready (rs := [5, 7]) (by kernel_rfl) (by simp) ?_
              refine AllReadyH.cons rfl (fun K hK => ?_) ?_
              · go_simp
                refine hK.out _ _ (by assumption) (fun hHeld => ?_)
                clear hK K
                refine wpAnyH_ready (rs := [7]) (by kernel_rfl) (by simp) ?_
                refine AllReadyH.cons rfl (fun K hK => ?_) ?_
                · go_simp
                  refine hK.out _ _ (by exact hS3 _) (fun hHeld => ?_)
                  clear hK K
                  refine wpAnyH_ready (rs := [8]) (by kernel_rfl) (by simp) ?_
                  refine AllReadyH.cons rfl (fun K hK => ?_) ?_
                  · refine step_appA rfl _ _ 40 rfl (.slice co cl cc) (.slice (some ⟨w5.heap.size, 0, none⟩) 1 1) rfl rfl HAp.out ?_
                    rintro v' w9 ⟨⟨o9, n9, c9, rfl⟩, t1, t2, t3, t4, HP9⟩
                    refine hK.out _ _ (by exact t3) (fun hHeld => ?_)
                    clear hK K
                    refine wpAnyH_take (i := 9) (v := .pointer (some ⟨B, 0, none⟩)) rfl (by kernel_rfl) (by kernel_rfl) (by kernel_rfl) (fun _ _ _ h => h) (Or.inl ⟨by rfl, by intro w hSw; (try dsimp only at hSw); go_simp⟩) (by assumption) ?_
                    refine wpAnyH_take (i := 10) (v := .pointer (some ⟨B, 6, none⟩)) rfl (by kernel_rfl) (by kernel_rfl) (by kernel_rfl) (fun _ _ _ h => h) (Or.inl ⟨by rfl, by intro w hSw; (try dsimp only at hSw); go_simp⟩) (by assumption) ?_
                    refine wpAnyH_take (i := 11) (v := .pointer (some ⟨B, 10, none⟩)) rfl (by kernel_rfl) (by kernel_rfl) (by kernel_rfl) (fun _ _ _ h => h) (Or.inl ⟨by rfl, by intro w hSw; (try dsimp only at hSw); go_simp⟩) (by assumption) ?_
                    refine wpAnyH_ready (rs := [12]) (by kernel_rfl) (by simp) ?_
                    refine AllReadyH.cons rfl (fun K hK => ?_) ?_
                    · go_simp
                      refine hK.out _ _ (by exact t4) (fun hHeld => ?_)
                      clear hK K
                      refine wpAnyH_done (by kernel_rfl) ?_ _
                      obtain ⟨p1, p2, p3⟩ := HP9.out
                      obtain ⟨⟨g0, g1, g2⟩, ⟨c0, c1, c2⟩, hst⟩ := ft_facts p1
                      have hld := load_fault (hst (.int .i64 0) (.int .i64 0) (.int .i64 0))
                      have HX := hidA (HFin.out _ _ p1 p2 p3)
                      clear p1 p2 p3 HP9 hst t1 t2 t3 t4
                      go_wp2_with fail
                      refine bodyPost_ret (v := ftv 0 0 0) ?_ rfl ?_
                      · simp [results, Tryz.results22, asAddr, hld]
                      · exact HX.out
                    exact AllReadyH.nil
                  exact AllReadyH.nil
                exact AllReadyH.nil
              refine AllReadyH.cons rfl (fun K hK => ?_) ?_
              · go_simp
                refine hK.out _ _ (by exact hS3 _) (fun hHeld => ?_)
                clear hK K
                refine wpAnyH_ready (rs := [5]) (by kernel_rfl) (by simp) ?_
                refine AllReadyH.cons rfl (fun K hK => ?_) ?_
                · go_simp
                  refine hK.out _ _ (by assumption) (fun hHeld => ?_)
                  clear hK K
                  refine wpAnyH_ready (rs := [8]) (by kernel_rfl) (by simp) ?_
                  refine AllReadyH.cons rfl (fun K hK => ?_) ?_
                  · refine step_appA rfl _ _ 40 rfl (.slice co cl cc) (.slice (some ⟨w5.heap.size, 0, none⟩) 1 1) rfl rfl HAp.out ?_
                    rintro v' w9 ⟨⟨o9, n9, c9, rfl⟩, t1, t2, t3, t4, HP9⟩
                    refine hK.out _ _ (by exact t3) (fun hHeld => ?_)
                    clear hK K
                    refine wpAnyH_take (i := 9) (v := .pointer (some ⟨B, 0, none⟩)) rfl (by kernel_rfl) (by kernel_rfl) (by kernel_rfl) (fun _ _ _ h => h) (Or.inl ⟨by rfl, by intro w hSw; (try dsimp only at hSw); go_simp⟩) (by assumption) ?_
                    refine wpAnyH_take (i := 10) (v := .pointer (some ⟨B, 6, none⟩)) rfl (by kernel_rfl) (by kernel_rfl) (by kernel_rfl) (fun _ _ _ h => h) (Or.inl ⟨by rfl, by intro w hSw; (try dsimp only at hSw); go_simp⟩) (by assumption) ?_
                    refine wpAnyH_take (i := 11) (v := .pointer (some ⟨B, 10, none⟩)) rfl (by kernel_rfl) (by kernel_rfl) (by kernel_rfl) (fun _ _ _ h => h) (Or.inl ⟨by rfl, by intro w hSw; (try dsimp only at hSw); go_simp⟩) (by assumption) ?_
                    refine wpAnyH_ready (rs := [12]) (by kernel_rfl) (by simp) ?_
                    refine AllReadyH.cons rfl (fun K hK => ?_) ?_
                    · go_simp
                      refine hK.out _ _ (by exact t4) (fun hHeld => ?_)
                      clear hK K
                      refine wpAnyH_done (by kernel_rfl) ?_ _
                      obtain ⟨p1, p2, p3⟩ := HP9.out
                      obtain ⟨⟨g0, g1, g2⟩, ⟨c0, c1, c2⟩, hst⟩ := ft_facts p1
                      have hld := load_fault (hst (.int .i64 0) (.int .i64 0) (.int .i64 0))
                      have HX := hidA (HFin.out _ _ p1 p2 p3)
                      clear p1 p2 p3 HP9 hst t1 t2 t3 t4
                      go_wp2_with fail
                      refine bodyPost_ret (v := ftv 0 0 0) ?_ rfl ?_
                      · simp [results, Tryz.results22, asAddr, hld]
                      · exact HX.out
                    exact AllReadyH.nil
                  exact AllReadyH.nil
                exact AllReadyH.nil
              exact AllReadyH.nil
end Go.Proofs.YtiiplikmoodfnaaGreatDoor
