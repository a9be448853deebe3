/-
  Drops.
-/
import Derived.Test.YtmelbebjcdkbdaaWDrops
namespace Go.Proofs.Ytmelbebjcdkbdaa
open Go.RowKit Go.Sort Go.Shelf

/-- how many of the first a are below x -/
def cntW (S : List Int) (a : Nat) (x : Int) : Nat := (S.take a).countP (fun y => !decide (x ≤ y))
theorem cntW_front {S : List Int} (hs : S.Pairwise (· ≤ ·)) (a : Nat) (x : Int) : cntW S a x ≤ a ∧ (∀ t (ht : t < S.length), t < cntW S a x → S[t] < x) ∧ (∀ t (ht : t < S.length), cntW S a x ≤ t → t < a → x ≤ S[t]) := by
  have hp : (S.take a).Pairwise (· ≤ ·) := hs.sublist (List.take_sublist _ _)
  obtain ⟨h0, h1, h2⟩ := cnt_front hp x
  have hl : (S.take a).length ≤ a := by simp; omega
  refine ⟨Nat.le_trans h0 hl, fun t ht h => ?_, fun t ht h hta => ?_⟩
  · have ht' : t < (S.take a).length := Nat.lt_of_lt_of_le h h0
    have := h1 t ht' h
    rwa [List.getElem_take] at this
  · have ht' : t < (S.take a).length := by simp; omega
    have := h2 t ht' h
    rwa [List.getElem_take] at this
theorem searchI_anyW (w : World) (g a c : Nat) (S : List Int) (x : Int) (h : WI w g S) (hs : S.Pairwise (· ≤ ·)) (ha : a ≤ S.length) (hm : S.length ≤ 140737488355328) :
    Calls Try.prog 11 #[.slice (some ⟨g, 0, none⟩) a c, .int .i64 x] w fun e w' => e = .returned (.int .i64 (cntW S a x : Int)) ∧ Below w.heap.size w w' := by
  have hsz : (S.take a).toArray.size = a := by simp; omega
  have hc := Any.sort_SearchInts laysSearchI g 0 c (S.take a).toArray x w (fun i hi => by
      rw [hsz] at hi
      rw [Nat.zero_add, h.cell (List.getElem?_eq_getElem (by omega : i < S.length)), getElem!_pos (S.take a).toArray i (by omega)]
      simp) h.lt (by omega) (fun i j hij hj hx => by
      rw [hsz] at hj
      rw [getElem!_pos (S.take a).toArray i (by omega)] at hx
      rw [getElem!_pos (S.take a).toArray j (by omega)]
      simp only [List.getElem_toArray, List.getElem_take, decide_eq_true_eq] at hx ⊢
      by_cases e : i = j
      · subst e; exact hx
      · have := List.pairwise_iff_getElem.1 hs i j (by omega) (by omega) (by omega)
        omega)
  rw [hsz] at hc
  exact hc
set_option maxRecDepth 100000 in
set_option maxHeartbeats 2000000 in
theorem drops_anyW (w : World) (ao po : Option Addr) (n ca m cp : Nat) (L : List V5) (fl : Int) (ps : List Int) (h : WAt w ao (v5s L)) (hn : n = L.length) (hp : WAt w po (i64s ps)) (hm : m = ps.length) (hb : n ≤ 100000000000000) (hbm : m ≤ 17592186044000) :
    Calls Try.prog 5 #[.slice ao n ca, .int .i64 fl, .slice po m cp] w fun e w' => DropsPost w L fl ps n e w' := by
  have HL := hidW h
  have HN := hidW hn
  have HM := hidW hm
  have hmk := fun u => make_boolsW n (by omega) u
  obtain ⟨cs, hcs⟩ : ∃ cs, cs = L.map V5.b := ⟨_, rfl⟩
  have HC := hidW hcs
  have HCl : Hid (n = cs.length) := by show _ = _; rw [hcs, List.length_map]; exact hn
  have HD : Hid (n = (dropsW cs fl ps).length) := by show _ = _; rw [dropsW_len]; exact HCl.out
  obtain ⟨W, hW⟩ : ∃ W, W = w.alloc (.cells (blsW (List.replicate n false)) 4) := ⟨_, rfl⟩
  have HR0 : Hid (WB W w.heap.size (partW (dropsW cs fl ps) n 0)) := by show WB _ _ _; rw [partW_zero, hW]; exact heap_alloc_new _ _ rfl
  have HB0 : Hid (Below w.heap.size w W) := by show Below _ _ _; rw [hW]; exact (Below.refl _ _).alloc (Nat.le_refl _) _
  have HWt := hidW (watched_anyW W fl po m cp ps (hp.below HB0.out) hm hbm)
  clear h hn hp hm hcs
  go_enter Try.func5, Try.ntmps5
  go_wp2_with fail
  rw [← hW]
  clear hW hmk
  refine HWt.out.mono ?_
  rintro e W2 ⟨g, S, rfl, hg, hS, hso, hpe, hbe⟩
  have HSo := hidW hso
  have HPe := hidW hpe
  have HSl : Hid (S.length = m + 1) := by show _ = _; rw [hpe.length_eq, HM.out]; simp
  have HDg : Hid (w.heap.size < g ∧ w.heap.size < W.heap.size) := ⟨Nat.lt_of_lt_of_le HR0.out.lt hg, HR0.out.lt⟩
  have HR1 : Hid (WB W2 w.heap.size (partW (dropsW cs fl ps) n 0)) := HR0.out.kept hbe HR0.out.lt
  have HI1 := hidW hS
  have HB1 : Hid (Below w.heap.size w W2) := HB0.out.trans (hbe.mono HB0.out.size)
  have HBl1 : Hid (BlindW cs S 0 (m + 1)) := by have := BlindW.start cs S; rw [HSl.out] at this; exact this
  clear hg hS hso hpe hbe HR0 HB0 HWt
  obtain ⟨N, hN⟩ : ∃ N, N = m + 1 := ⟨_, rfl⟩
  rw [← hN] at HBl1 HSl ⊢
  have HN1 := hidW hN
  clear hN
  go_wp2_with fail
  go_loopw [8, 9, 10, 11, 20] (fun bl _ _ _ x wr => ∃ i a : Nat, i ≤ n ∧ x = .int .i64 (i : Int) ∧ bl = .slice (some ⟨g, 0, none⟩) a N ∧ Hid (BlindW cs S i a) ∧ Hid (WB wr w.heap.size (partW (dropsW cs fl ps) n i)) ∧ Hid (WI wr g S) ∧ Hid (Below w.heap.size w wr)) (fun _ _ _ _ x _ => n - (intOf x).toNat)
  case atStart => exact ⟨0, N, Nat.zero_le _, rfl, rfl, HBl1, HR1, HI1, HB1⟩
  case round =>
    clear HR1 HI1 HB1 HBl1
    obtain ⟨i, a, hi, rfl, rfl, HBl, HR, HI, HB⟩ := hrel
    by_cases hlt : i < n
    · have hiL : i < L.length := by have := HN.out; omega
      have HiC : Hid (i < cs.length) := by show _ < _; have := HCl.out; omega
      obtain ⟨cg, off, rfl, e1, e2, e3, e4, e5⟩ := (HL.out.below HB.out).v5 i hiL
      have HG : Hid (∃ h : i < cs.length, cs[i] = L[i].b) := ⟨HiC.out, by simp only [HC.out, List.getElem_map]⟩
      generalize L[i] = y at *
      obtain ⟨vb, vi, vf, vc, vv⟩ := y
      simp only at e1 e2 e3 e4 e5 HG
      have haS : a ≤ N := by have := HBl.out.le; have := HSl.out; omega
      obtain ⟨W1, hW1⟩ : ∃ W1, W1 = wr.alloc (.cells #[.int .i64 vb, .int .i64 vi, .bool vf, .bool vc, .int .i64 vv] 27) := ⟨_, rfl⟩
      have HBa : Hid (Below wr.heap.size wr W1) := by show Below _ _ _; rw [hW1]; exact (Below.refl _ _).alloc (Nat.le_refl _) _
      have x0 : W1.cell? ⟨wr.heap.size, 0, none⟩ = some (.int .i64 vb) := by rw [World.cell?, hW1, heap_alloc_new _ _ rfl]; rfl
      have hxl : wr.heap.size < W1.heap.size := by rw [hW1]; simp
      have HSe := hidW (searchI_anyW W1 g a N S vb (HI.out.kept HBa.out HI.out.lt) HSo.out HBl.out.le (by have := HSl.out; have := HN1.out; omega))
      obtain ⟨hc1, hc2, hc3⟩ := cntW_front HSo.out a vb
      have HNx : Hid (BlindW cs S (i + 1) (cntW S a vb)) := by
        obtain ⟨h1, h2⟩ := HG.out
        exact HBl.out.next h1 hc1 (fun t ht h => by rw [h2]; exact hc2 t ht h) (fun t ht h h' => by rw [h2]; exact hc3 t ht h h')
      have HDr : Hid (dropW cs fl ps i = (decide (vb ≤ fl) && decide (cntW S a vb = a))) := by
        obtain ⟨h1, h2⟩ := HG.out
        have := HBl.out.drop h1 hc1 (fun t ht h => by rw [h2]; exact hc2 t ht h) (fun t ht h h' => by rw [h2]; exact hc3 t ht h h') HPe.out
        rw [h2] at this
        exact this
      clear hc2 hc3
      generalize cntW S a vb = c at *
      go_wp2_with fail
      rw [← hW1]
      refine HSe.out.mono ?_
      rintro e W3 ⟨rfl, hb3⟩
      have x1 : W3.cell? ⟨wr.heap.size, 0, none⟩ = some (.int .i64 vb) := (hb3.cell (p := ⟨wr.heap.size, 0, none⟩) hxl).trans x0
      have HR3 : Hid (WB W3 w.heap.size (partW (dropsW cs fl ps) n i)) := (HR.out.kept HBa.out HR.out.lt).kept hb3 (Nat.lt_of_lt_of_le HR.out.lt HBa.out.size)
      have HI3 : Hid (WI W3 g S) := (HI.out.kept HBa.out HI.out.lt).kept hb3 (Nat.lt_of_lt_of_le HI.out.lt HBa.out.size)
      have HB3 : Hid (Below w.heap.size w W3) := (HB.out.trans (HBa.out.mono HB.out.size)).trans (hb3.mono (Nat.le_trans HB.out.size HBa.out.size))
      clear hb3 HSe x0 hW1 HBa hxl HR HI HB e1 e2 e3 e4 e5
      have f0 := HR3.out.frozen i
      have c0 := HR3.out.cell (partW_get HD.out hlt)
      have HV : Hid ((dropsW cs fl ps)[i]? = some (dropW cs fl ps i)) := dropsW_get HiC.out
      generalize dropW cs fl ps i = db at *
      have HR4 : Hid (WB (W3.setCell ⟨w.heap.size, i, none⟩ (.bool db)) w.heap.size (partW (dropsW cs fl ps) n (i + 1))) := by
        show WB _ _ _
        rw [← partW_set HD.out hlt HV.out]
        exact HR3.out.set i _
      have HB4 : Hid (Below w.heap.size w (W3.setCell ⟨w.heap.size, i, none⟩ (.bool db))) := ⟨HB3.out.os, HB3.out.tape, HB3.out.output, by simpa using HB3.out.size, fun k hk => (setW_block _ _ _ k (by simp; omega)).trans (HB3.out.block k hk)⟩
      have HI4 : Hid (WI (W3.setCell ⟨w.heap.size, i, none⟩ (.bool db)) g S) := (setW_block _ _ _ g (by have := HDg.out; simp; omega)).trans HI3.out
      have hcN : (c : Int) ≤ (N : Int) := by omega
      go_upto_region 7 with fail
      go_cut [] (fun wx => wx = W3.setCell ⟨w.heap.size, i, none⟩ (.bool db))
      case first =>
        by_cases hfl : vb ≤ fl
        · by_cases hca : c = a
          · have hdb : db = true := by rw [HDr.out]; simp [hfl, hca]
            subst hdb hca
            go_wp2_with fail
            go_meet
            case rel => rfl
          · have hdb : db = false := by rw [HDr.out]; simp [hca]
            have hce : ((c : Int) == (a : Int)) = false := by simp; omega
            subst hdb
            go_wp2_with fail
            go_meet
            case rel => rfl
        · have hdb : db = false := by rw [HDr.out]; simp [hfl]
          subst hdb
          go_wp2_with fail
          go_meet
          case rel => rfl
      case rest =>
        have hcut' := hcut
        rw [← hcut'] at HR4 HB4 HI4
        clear hcut hcut' x1 f0 c0 HR3 HB3 HI3 HDr
        go_wp2
        go_roundw
        case rel => exact ⟨i + 1, c, by omega, by go_num, rfl, HNx, HR4, HI4, HB4⟩
        case measure => simp [intOf]; omega
    · obtain rfl : i = n := by omega
      have HR2 : Hid (WB wr w.heap.size (dropsW (L.map V5.b) fl ps)) := by
        have := HR.out
        rw [partW_all HD.out, HC.out] at this
        exact this
      go_wp2
      go_ret
      exact ⟨w.heap.size, rfl, Nat.le_refl _, HR2.out, HB.out⟩
end Go.Proofs.Ytmelbebjcdkbdaa
