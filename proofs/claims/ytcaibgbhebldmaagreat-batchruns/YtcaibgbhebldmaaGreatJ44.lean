import Derived.Test.YtcaibgbhebldmaaGreatJ43
import Derived.Test.YtcaibgbhebldmaaGreatJ10
import Derived.Deep.RegionHeld3
/-
  BatchRuns: THE LAW.
-/
namespace Go.Proofs.YtcaibgbhebldmaaGreat.Kk
open Go.RowKit Go.Sort

theorem bat_cells {W : World} {g : Nat} {Qs : List Bx} (h : BatAt W (some ⟨g, 0, none⟩) Qs) {k : Nat} (hk : k < Qs.length) :
    W.cell? ⟨g, k * 4, none⟩ = some (.int .i64 (bd Qs k).t.proc) ∧ W.cell? ⟨g, k * 4 + 1, none⟩ = some (.slice (bd Qs k).aA (bd Qs k).t.args.length (bd Qs k).cA) ∧ W.cell? ⟨g, k * 4 + 2, none⟩ = some (.slice (bd Qs k).aR (bd Qs k).t.reads.length (bd Qs k).cR) ∧ W.cell? ⟨g, k * 4 + 3, none⟩ = some (.slice (bd Qs k).aW (bd Qs k).t.writes.length (bd Qs k).cW) := by
  obtain ⟨b, off, e, c0, c1, c2, c3⟩ := TxsAt.get h.at_ k hk
  simp only [Option.some.injEq, Addr.mk.injEq, and_true] at e
  obtain ⟨rfl, rfl⟩ := e
  simp only [Nat.zero_add] at c0 c1 c2 c3
  exact ⟨c0, c1, c2, c3⟩
theorem row_len2 {w : World} {base : Nat} {T : TypeId} {sz : Nat} {v : Value} {n : Nat} {xs : List Value} (h : w.ownsRow base T sz v n xs) : ∃ ao cap, v = .slice ao n cap := by
  rcases h.2 with ⟨rfl, h2⟩ | ⟨g, cap, cur, e, _⟩
  · exact ⟨none, 0, by rw [h2]⟩
  · exact ⟨_, cap, e⟩
theorem zero_cells {W : World} {B : Nat} (h : W.heap[B]? = some (.cells #[.bool false, .int .i64 0, .int .i64 0, .slice none 0 0, .slice none 0 0, .int .i64 0] 56 (0, 0))) : (W.cell? ⟨B, 0, none⟩ = some (.bool false) ∧ W.cell? ⟨B, 1, none⟩ = some (.int .i64 0) ∧ W.cell? ⟨B, 2, none⟩ = some (.int .i64 0) ∧ W.cell? ⟨B, 3, none⟩ = some (.slice none 0 0) ∧ W.cell? ⟨B, 4, none⟩ = some (.slice none 0 0) ∧ W.cell? ⟨B, 5, none⟩ = some (.int .i64 0)) ∧ ∀ j, W.frozen? ⟨B, j, none⟩ = false := by
  refine ⟨⟨?_, ?_, ?_, ?_, ?_, ?_⟩, fun j => frozen_of_row W B j _ _ h⟩ <;> simp [World.cell?, h]
/-- what one round knows -/
structure RD (u : World) (g k : Nat) (lb loff j : Nat) (aA : Option Addr) (na cA : Nat) (aR : Option Addr) (nr cR : Nat) (aW : Option Addr) (nw cW : Nat) (p : Nums) (pa : Option Addr) (pn pc : Nat) (most : Int) (c : C) : Prop where
  tx : ∀ W, Below u.heap.size u W → W.cell? ⟨g, k * 4, none⟩ = some (.int .i64 (j : Int)) ∧ W.cell? ⟨g, k * 4 + 1, none⟩ = some (.slice aA na cA) ∧ W.cell? ⟨g, k * 4 + 2, none⟩ = some (.slice aR nr cR) ∧ W.cell? ⟨g, k * 4 + 3, none⟩ = some (.slice aW nw cW)
  lib : ∀ W, Below u.heap.size u W → W.cell? ⟨lb, loff + j * 6 + 1, none⟩ = some (.int .i64 p.args) ∧ W.cell? ⟨lb, loff + j * 6 + 2, none⟩ = some (.int .i64 p.reads) ∧ W.cell? ⟨lb, loff + j * 6 + 3, none⟩ = some (.int .i64 p.writes) ∧ W.cell? ⟨lb, loff + j * 6 + 4, none⟩ = some (.int .i64 p.locals) ∧ W.cell? ⟨lb, loff + j * 6 + 5, none⟩ = some (.slice pa pn pc)
  ri : ∀ W, Below u.heap.size u W → Calls Tryz.prog 13 #[.slice aR nr cR] W fun e w' => e = .returned (.bool true) ∧ Below W.heap.size W w'
  wi : ∀ W, Below u.heap.size u W → Calls Tryz.prog 13 #[.slice aW nw cW] W fun e w' => e = .returned (.bool true) ∧ Below W.heap.size W w'
  run : ∀ W, Below u.heap.size u W → ∀ base ra cr, W.ownsRow base 25 2 (.slice ra nr cr) nr (ccs (List.replicate nr c)) → Calls Tryz.prog 14 #[pv p pa pn pc, .slice aA na cA, .slice ra nr cr] W fun e w' => ∃ co cd us a1 n1 k1 a2 k2 st, e = .returned (.tuple #[.agg (eP co cd us a1 n1 k1 a2 nw k2 ((st : Nat) : Int)), .int .i64 0]) ∧ (st : Int) ≤ most ∧ Below W.heap.size W w'
  long : ∀ W, Below u.heap.size u W → Calls Tryz.prog 15 #[pv p pa pn pc] W fun e w' => e = .returned (.tuple #[.int .i64 most, .int .i64 0]) ∧ Below W.heap.size W w'
  nr16 : nr ≤ 16
  nw16 : nw ≤ 16
theorem rd_of {u : World} {g k j : Nat} {Qs : List Bx} {lo : Option Addr} {Ps : List Pr} (c : C) (hb : ∀ W, Below u.heap.size u W → BatAt W (some ⟨g, 0, none⟩) Qs) (hl : ∀ W, Below u.heap.size u W → LibAt W lo Ps) (hk : k < Qs.length) (hs : Snd1 Ps (bd Qs k).t j) (hv : verifyN (pd Ps j).p (pd Ps j).L = 0) :
    ∃ lb loff, lo = some ⟨lb, loff, none⟩ ∧ RD u g k lb loff j (bd Qs k).aA (bd Qs k).t.args.length (bd Qs k).cA (bd Qs k).aR (bd Qs k).t.reads.length (bd Qs k).cR (bd Qs k).aW (bd Qs k).t.writes.length (bd Qs k).cW (pd Ps j).p (pd Ps j).ao (pd Ps j).n (pd Ps j).cap (longestN (pd Ps j).p (pd Ps j).L).1 c := by
  obtain ⟨lb, loff, rfl, _⟩ := ProcsAt.get (hl u (Below.refl _ _)).at_ j hs.lt
  refine ⟨lb, loff, rfl, fun W hW => ?_, fun W hW => ?_, fun W hW => ?_, fun W hW => ?_, fun W hW base ra cr hr => ?_, fun W hW => ?_, hs.wf.r, hs.wf.w⟩
  · have := bat_cells (hb W hW) hk
    rw [hs.pj] at this
    exact this
  · obtain ⟨b, off, e, _, h⟩ := ProcsAt.get (hl W hW).at_ j hs.lt
    simp only [Option.some.injEq, Addr.mk.injEq, and_true] at e
    obtain ⟨rfl, rfl⟩ := e
    exact h
  · refine (rises_any W _ _ _ _ rfl ((hb W hW).lst k hk).reads (by have := hs.wf.r; omega)).mono fun e w' ⟨h1, q, os, h2⟩ => ⟨by rw [h1, decide_eq_true hs.wf.rr], ?_⟩
    exact Grew.below ⟨q, os, h2⟩
  · refine (rises_any W _ _ _ _ rfl ((hb W hW).lst k hk).writes (by have := hs.wf.w; omega)).mono fun e w' ⟨h1, q, os, h2⟩ => ⟨by rw [h1, decide_eq_true hs.wf.rw], ?_⟩
    exact Grew.below ⟨q, os, h2⟩
  · exact run_law W Ps _ j _ (hl W hW) hs hv _ _ ((hb W hW).lst k hk).args ((hb W hW).lst k hk).nilA ra _ cr base rfl c hr
  · have hp := pr_of (hl W hW) hs.lt
    have := longest_any W (pd Ps j).p (pd Ps j).ao (pd Ps j).n (pd Ps j).cap (pd Ps j).L hp.nin hp.ks hp.len
    rw [long_law hv] at this
    exact this

set_option maxRecDepth 100000 in
set_option maxHeartbeats 4000000 in
theorem lawBRuns (w : World) (lo a2 : Option Addr) (n lc n2 c2 : Nat) (Ps : List Pr) (zs : List Nat) (ci : Bool) (cv : Int) (hl : LibAt w lo Ps) (hn : n = Ps.length) (hlc : n ≤ lc) (hm : n ≤ 140737488351232) (hz : BytesAt w a2 zs) (hn2 : n2 = zs.length) (hnil : a2 = none → c2 = 0) (hs : n2 ≤ 140737488351232) :
    Calls Tryz.prog 3 #[.slice lo n lc, .slice a2 n2 c2, .agg #[.bool ci, .int .i64 cv]] w fun e w' => e = .returned (.bool true) ∧ Below w.heap.size w w' := by
  have HL : Hid (∀ W, Below w.heap.size w W → LibAt W lo Ps) := fun W hW => hl.kept hW
  have HN : Hid (n = Ps.length ∧ n ≤ lc) := ⟨hn, hlc⟩
  have HZ : Hid (∀ W, Below w.heap.size w W → BytesAt W a2 zs) := fun W hW => hz.kept hW
  have HN2 : Hid (n2 = zs.length ∧ (a2 = none → c2 = 0)) := ⟨hn2, hnil⟩
  obtain ⟨E, hE⟩ : ∃ E, E = (checkN Ps).2 := ⟨_, rfl⟩
  have HE : Hid (E = (checkN Ps).2) := hE
  obtain ⟨cp, hcp⟩ : ∃ cp, cp = (checkN Ps).1 := ⟨_, rfl⟩
  have HCk : Hid (∀ W, Below w.heap.size w W → Calls Tryz.prog 6 #[.slice lo n lc] W fun e w' => e = .returned (.tuple #[.int .i64 (cp : Int), .int .i64 E]) ∧ Below W.heap.size W w') := fun W hW => by
    rw [hE, hcp]
    exact Go.Proofs.YtcaibgbhebldmaaGreat.check_any W lo n lc Ps (hl.kept hW) hn hlc hm
  have HB0 : Hid (Below w.heap.size w (w.alloc (.cells #[.bool ci, .int .i64 cv] 25))) := (Below.refl _ _).alloc (Nat.le_refl _) _
  have HC0 : Hid ((w.alloc (.cells #[.bool ci, .int .i64 cv] 25)).heap[w.heap.size]? = some (.cells #[.bool ci, .int .i64 cv] 25 (0, 0))) := heap_alloc_new _ _ rfl
  clear hl hn hlc hz hn2 hnil hE hcp
  go_enter Tryz.func3, Tryz.ntmps3
  go_wp2_with fail
  generalize w.alloc (.cells #[.bool ci, .int .i64 cv] 25) = W0 at *
  refine (parts_any W0 lo n lc Ps (HL.out _ HB0.out) HN.out.1 hm).mono ?_
  rintro e w1 ⟨⟨r, rfl, hr, _, _⟩, q1, hw1⟩
  have HW1 : Hid (Below w.heap.size w w1 ∧ Below W0.heap.size W0 w1) := by
    have h1 : Below W0.heap.size W0 w1 := by rw [hw1]; exact ((Grew.refl W0).drewN q1).below
    exact ⟨HB0.out.trans (h1.mono HB0.out.size), h1⟩
  clear hw1 hr
  by_cases h0 : r < 0
  · go_wp2
    go_ret
    exact ⟨rfl, HW1.out.1⟩
  go_wp2_with fail
  refine (works_any w1).mono ?_
  rintro e w2 ⟨rfl, hb2⟩
  have HW2 : Hid (Below w.heap.size w w2 ∧ Below W0.heap.size W0 w2) := ⟨HW1.out.1.trans (hb2.mono HW1.out.1.size), HW1.out.2.trans (hb2.mono HW1.out.2.size)⟩
  clear hb2 HW1
  go_wp2_with fail
  refine (HCk.out w2 HW2.out.1).mono ?_
  rintro e w3 ⟨rfl, hb3⟩
  have HW3 : Hid (Below w.heap.size w w3 ∧ Below W0.heap.size W0 w3) := ⟨HW2.out.1.trans (hb3.mono HW2.out.1.size), HW2.out.2.trans (hb3.mono HW2.out.2.size)⟩
  clear hb3 HW2 HCk
  have HSrc : Hid (BytesAt (w3.alloc (.cells (cellsU8 []) 5)) a2 zs) := HZ.out _ (HW3.out.1.alloc HW3.out.1.size _)
  have HBl : Hid (Below w3.heap.size w3 (w3.alloc (.cells (cellsU8 []) 5))) := (Below.refl _ _).alloc (Nat.le_refl _) _
  go_wp2_with (
    at_builtin
    refine wpList_append_bytes rfl _ _ rfl w3.heap.size _ [] rfl (OwnB.made (w := w3) (L := []) (by simp) (by simp) (Nat.le_refl _)) a2 n2 c2 zs rfl HN2.out.1 HSrc.out HN2.out.2 (by rw [← HN2.out.1]; simp only [List.length_nil]; omega) (by simp only [World.size_alloc]; omega) ?_
    intro v6 w6 ho6 hg6
    rw [List.nil_append] at ho6
    have HO6 : Hid (OwnB w6 w3.heap.size v6 zs) := ho6
    have HB6 : Hid (Below w3.heap.size w3 w6) := HBl.out.trans (grown_below hg6 (fun q hq => by cases hq; exact Nat.le_refl _) (by simp only [World.size_alloc]; omega))
    clear ho6 hg6
    obtain ⟨a6, c6, e6, hby6, _, _⟩ := HO6.out.slice
    subst e6
    have HY6 : Hid (BytesAt w6 a6 zs) := hby6
    have HW6 : Hid (Below w.heap.size w w6 ∧ Below W0.heap.size W0 w6) := ⟨HW3.out.1.trans (HB6.out.mono HW3.out.1.size), HW3.out.2.trans (HB6.out.mono HW3.out.2.size)⟩
    clear hby6 HO6 HB6 HSrc HBl HW3)
  rw [← HN2.out.1]
  refine (acc_it w6 lo a6 n lc n2 c6 Ps zs (HL.out _ HW6.out.1).at_ HN.out.1 HY6.out HN2.out.1 (by omega)).mono ?_
  rintro e w7 ⟨hb7, h7⟩
  have HW7 : Hid (Below w.heap.size w w7 ∧ Below W0.heap.size W0 w7) := ⟨HW6.out.1.trans (hb7.mono HW6.out.1.size), HW6.out.2.trans (hb7.mono HW6.out.2.size)⟩
  clear hb7 HW6 HY6
  rcases h7 with ⟨P, rfl⟩ | ⟨P, rfl⟩ | ⟨g, Qs, m, rfl, hm7, hB, hbat, hfm, h64, hsd⟩
  · go_wp2
    go_ret
    exact ⟨rfl, HW7.out.1⟩
  · go_wp2
    go_ret
    exact ⟨rfl, HW7.out.1⟩
  have HQ : Hid (m = Qs.length ∧ batN (Qs.map Bx.t) = zs ∧ (eachN formN (Qs.map Bx.t)).2 = 0 ∧ ∀ i, i < m → ∃ j, Snd1 Ps (bd Qs i).t j) := ⟨hm7, hbat, hfm, hsd⟩
  have HBt : Hid (∀ W, Below w7.heap.size w7 W → BatAt W (some ⟨g, 0, none⟩) Qs) := fun W hW => hB.kept hW
  have HSm : Hid (Sm m Qs) := by
    refine ⟨by omega, fun x hx => ?_⟩
    obtain ⟨i, hi, rfl⟩ := List.mem_iff_getElem.1 hx
    obtain ⟨j, hj⟩ := hsd i (by omega)
    have : bd Qs i = Qs[i] := by simp [bd, List.getD_eq_getElem?_getD, List.getElem?_eq_getElem hi]
    rw [this] at hj
    have a := hj.wf.a; have b := hj.wf.r; have c := hj.wf.w
    exact ⟨by omega, by omega, by omega⟩
  clear hm7 hB hbat hfm hsd
  go_wp2_with fail
  refine (num_b _ _).mono ?_
  rintro e w8 ⟨rfl, hw8⟩
  have hw8' := hw8.symm
  subst hw8'
  clear hw8
  by_cases hE0 : ¬ E = 0
  · go_wp2
    go_ret
    exact ⟨rfl, HW7.out.1⟩
  obtain rfl : E = 0 := Decidable.not_not.1 hE0
  clear hE0
  go_wp2_with fail
  refine (lent_use w7 (some ⟨g, 0, none⟩) m m Qs (HBt.out _ (Below.refl _ _)) HQ.out.1 HSm.out.1 HSm.out.2).mono ?_
  rintro e w8 ⟨ai, ci', Is, rfl, hI, hT, hlI, hb8⟩
  have HI : Hid (BatAt w8 ai Is ∧ Is.map Bx.t = Qs.map Bx.t ∧ m = Is.length) := ⟨hI, hT, hlI⟩
  have HB8 : Hid (Below w7.heap.size w7 w8) := hb8
  clear hI hT hlI hb8
  go_wp2_with fail
  refine (encode_ok w8 ai m ci' Is HI.out.1 HI.out.2.2 (by omega) (by rw [HI.out.2.1]; exact HQ.out.2.2.1)).mono ?_
  rintro e w9 ⟨g9, rfl, hrow9, _, hb9⟩
  rw [HI.out.2.1, HQ.out.2.1] at hrow9 ⊢
  have HB9 : Hid (Below w7.heap.size w7 w9) := HB8.out.trans (hb9.mono HB8.out.size)
  have HS9 : Hid (Calls Tryz.prog 11 #[.slice (some ⟨g9, 0, none⟩) n2 n2, .slice a2 n2 c2] w9 fun e w' => e = .returned (.bool true) ∧ ∃ n, w' = w9.drewN n) := by
    have hz0 := HZ.out _ (HW7.out.1.trans (HB9.out.mono HW7.out.1.size))
    have := same_any w9 (some ⟨g9, 0, none⟩) a2 n2 c2 n2 n2 zs zs HN2.out.1 HN2.out.1 (row_bytes hrow9 hz0.1) hz0 (by rw [← HN2.out.1]; unfold maxLen; omega)
    rw [decide_eq_true rfl] at this
    exact this
  clear hrow9 hb9 HB8 HI
  rw [← HN2.out.1]
  go_wp2_with fail
  refine (num_b _ _).mono ?_
  rintro e w10 ⟨rfl, hw10⟩
  have hw10' := hw10.symm
  subst hw10'
  clear hw10
  go_wp2_with fail
  refine HS9.out.mono ?_
  rintro e w11 ⟨rfl, q11, hw11⟩
  have HB11 : Hid (Below w7.heap.size w7 w11) := by rw [hw11]; exact HB9.out.trans (((Grew.refl w9).drewN q11).below.mono HB9.out.size)
  clear hw11 HS9 HB9
  go_wp2_with fail
  refine (writes_any w11 (some ⟨g, 0, none⟩) m m Qs (HBt.out _ HB11.out) HQ.out.1 HSm.out).mono ?_
  rintro e u ⟨rfl, vs, lw, hws⟩
  have HBu : Hid (Below w7.heap.size w7 u) := HB11.out.trans (hws.bel.mono HB11.out.size)
  have HWu : Hid (Below w.heap.size w u ∧ Below W0.heap.size W0 u) := ⟨HW7.out.1.trans (HBu.out.mono HW7.out.1.size), HW7.out.2.trans (HBu.out.mono HW7.out.2.size)⟩
  have HBq : Hid (∀ W, Below u.heap.size u W → BatAt W (some ⟨g, 0, none⟩) Qs) := fun W hW => HBt.out W (HBu.out.trans (hW.mono HBu.out.size))
  have HLq : Hid (∀ W, Below u.heap.size u W → LibAt W lo Ps) := fun W hW => HL.out W (HWu.out.1.trans (hW.mono HWu.out.1.size))
  have HCq : Hid (∀ W, Below u.heap.size u W → W.cell? ⟨w.heap.size, 0, none⟩ = some (.bool ci) ∧ W.cell? ⟨w.heap.size, 1, none⟩ = some (.int .i64 cv)) := fun W hW => by
    have h1 := HWu.out.2.trans (hW.mono HWu.out.2.size)
    have h2 := (h1.block w.heap.size (Array.getElem?_eq_some_iff.1 HC0.out).1).trans HC0.out
    constructor <;> simp [World.cell?, h2]
  clear hws HB11 HBt HBu HW7 HZ HL HC0 HB0
  go_wp2_with fail
  go_loopw [13, 14] (fun s i wr => ∃ k : Nat, k ≤ m ∧ s = .int .i64 (wtN (Qs.take k) : Int) ∧ i = .int .i64 (k : Int) ∧ Hid (Below u.heap.size u wr)) (fun _ i _ => m - (intOf i).toNat)
  case atStart => exact ⟨0, Nat.zero_le _, rfl, rfl, Below.refl _ _⟩
  case round =>
    obtain ⟨k, hk, rfl, rfl, HBr⟩ := hrel
    by_cases hlt : k < m
    · have hlt' : k < Qs.length := by have := HQ.out.1; omega
      obtain ⟨j, hsd⟩ := HQ.out.2.2.2 k hlt
      obtain ⟨lb, loff, hlo, hrd⟩ := rd_of (ci, cv) HBq.out HLq.out hlt' hsd (chk_all HE.out.symm j hsd.lt)
      have hjn : (j : Int) < (n : Int) := by have := hsd.lt; have := HN.out.1; omega
      have hjn' : ¬ (n : Int) ≤ (j : Int) := by omega
      have hj0 : ¬ (j : Int) < 0 := by omega
      have hjN : j < n := by omega
      have HWt : Hid (wtN (Qs.take (k + 1)) = wtN (Qs.take k) + (bd Qs k).t.writes.length) := wtN_take Qs k hlt'
      have hwb : wtN (Qs.take k) ≤ 6400000 := by
        have h1 := wtN_le (Bs := Qs.take k) (fun x hx => (HSm.out.2 x (List.mem_of_mem_take hx)).2.2)
        have : (Qs.take k).length ≤ 64 := by rw [List.length_take]; omega
        omega
      generalize (bd Qs k).aA = aA at *
      generalize (bd Qs k).t.args.length = na at *
      generalize (bd Qs k).cA = cA at *
      generalize (bd Qs k).aR = aR at *
      generalize (bd Qs k).t.reads.length = nr at *
      generalize (bd Qs k).cR = cR at *
      generalize (bd Qs k).aW = aW at *
      generalize (bd Qs k).t.writes.length = nw at *
      generalize (bd Qs k).cW = cW at *
      generalize (longestN (pd Ps j).p (pd Ps j).L).1 = most at *
      generalize (pd Ps j).p = p at *
      generalize (pd Ps j).ao = pa at *
      generalize (pd Ps j).n = pn at *
      generalize (pd Ps j).cap = pc at *
      have HR : Hid (RD u g k lb loff j aA na cA aR nr cR aW nw cW p pa pn pc most (ci, cv)) := hrd
      have hr16 := hrd.nr16
      have hw16 := hrd.nw16
      clear hrd hsd
      subst hlo
      obtain ⟨t0, t1, t2, t3⟩ := HR.out.tx wr HBr.out
      go_wp2_with fail
      refine (HR.out.ri wr HBr.out).mono ?_
      rintro e v1 ⟨rfl, hb1⟩
      have HV1 : Hid (Below u.heap.size u v1) := HBr.out.trans (hb1.mono HBr.out.size)
      clear hb1 t0 t1 t2 t3 HBr
      obtain ⟨t0, t1, t2, t3⟩ := HR.out.tx v1 HV1.out
      go_wp2_with fail
      refine (HR.out.wi v1 HV1.out).mono ?_
      rintro e v2 ⟨rfl, hb2⟩
      have HV2 : Hid (Below u.heap.size u v2) := HV1.out.trans (hb2.mono HV1.out.size)
      clear hb2 t0 t1 t2 t3 HV1
      obtain ⟨t0, t1, t2, t3⟩ := HR.out.tx v2 HV2.out
      obtain ⟨l1, l2, l3, l4, l5⟩ := HR.out.lib v2 HV2.out
      have HV3 : Hid (Below u.heap.size u (v2.alloc (.cells #[.int .i64 p.args, .int .i64 p.reads, .int .i64 p.writes, .int .i64 p.locals, .slice pa pn pc] 50))) := HV2.out.alloc HV2.out.size _
      have HX3 : Hid ((v2.alloc (.cells #[.int .i64 p.args, .int .i64 p.reads, .int .i64 p.writes, .int .i64 p.locals, .slice pa pn pc] 50)).heap[v2.heap.size]? = some (.cells #[.int .i64 p.args, .int .i64 p.reads, .int .i64 p.writes, .int .i64 p.locals, .slice pa pn pc] 50 (0, 0))) := heap_alloc_new _ _ rfl
      go_upto_region 20 with fail
      clear t0 t1 t2 t3 l1 l2 l3 l4 l5
      generalize v2.alloc (.cells #[.int .i64 p.args, .int .i64 p.reads, .int .i64 p.writes, .int .i64 p.locals, .slice pa pn pc] 50) = V3 at *
      generalize v2.heap.size = B15 at *
      have HP : Hid (∀ W, Below V3.heap.size V3 W → W.cell? ⟨B15, 0, none⟩ = some (.int .i64 p.args) ∧ W.cell? ⟨B15, 1, none⟩ = some (.int .i64 p.reads) ∧ W.cell? ⟨B15, 2, none⟩ = some (.int .i64 p.writes) ∧ W.cell? ⟨B15, 3, none⟩ = some (.int .i64 p.locals) ∧ W.cell? ⟨B15, 4, none⟩ = some (.slice pa pn pc)) := fun W hW => by
        have h2 := (hW.block B15 (Array.getElem?_eq_some_iff.1 HX3.out).1).trans HX3.out
        refine ⟨?_, ?_, ?_, ?_, ?_⟩ <;> simp [World.cell?, h2]
      clear HX3
      go_wp2_with fail
      go_loopw [16, 17] (fun cs i wr => ∃ q : Nat, q ≤ nr ∧ i = .int .i64 (q : Int) ∧ (∃ a c, cs = .slice a q c ∧ Hid (wr.ownsRow V3.heap.size 25 2 (.slice a q c) q (ccs (List.replicate q (ci, cv))))) ∧ Hid (Below V3.heap.size V3 wr)) (fun _ i _ => nr - (intOf i).toNat)
      case atStart => exact ⟨0, Nat.zero_le _, rfl, ⟨none, 0, rfl, World.ownsRow_nil _ _ _ _⟩, Below.refl _ _⟩
      case round =>
        obtain ⟨q, hq, rfl, ⟨a, c, rfl, HO⟩, HB⟩ := hrel
        have HBu : Hid (Below u.heap.size u wr) := HV3.out.trans (HB.out.mono HV3.out.size)
        obtain ⟨t0, t1, t2, t3⟩ := HR.out.tx wr HBu.out
        by_cases hlq : q < nr
        · obtain ⟨z0, z1⟩ := HCq.out wr HBu.out
          have HA : Hid (Below wr.heap.size wr (wr.alloc (.cells #[.bool ci, .int .i64 cv] 25))) := (Below.refl _ _).alloc (Nat.le_refl _) _
          have HOa : Hid ((wr.alloc (.cells #[.bool ci, .int .i64 cv] 25)).ownsRow V3.heap.size 25 2 (.slice a q c) q (ccs (List.replicate q (ci, cv)))) := ownsRow_same HO.out fun g e => HA.out.block g (World.ownsRow.lt HO.out g e).2
          go_wp2_with (
            at_builtin
            refine wpL_app rfl _ _ 53 rfl (.slice a q c) _ rfl rfl (post := fun v' w' => w'.ownsRow V3.heap.size 25 2 v' (q + 1) (ccs (List.replicate q (ci, cv)) ++ [.bool ci, .int .i64 cv]) ∧ (wr.alloc (.cells #[.bool ci, .int .i64 cv] 25)).grownBy w' (Value.slice a q c).ownBlock) (fun ty => by
              obtain ⟨v', w', hr, h2, h3, _⟩ := run_append_E elC ty V3.heap.size _ q _ HOa.out ⟨wr.heap.size, 0, none⟩ 1 1 [.bool ci, .int .i64 cv] rfl (new_cell2 _ _ _ _) (by intro u hu; simp at hu; rcases hu with rfl | rfl <;> rfl) (by omega) (by have := HB.out.size; simp; omega)
              exact ⟨v', w', hr, h2, h3⟩) ?_
            rintro v1 w1 ⟨ho1, hg1⟩
            obtain ⟨a9, c9, e9⟩ := row_len2 ho1
            subst e9
            have HO9 : Hid (w1.ownsRow V3.heap.size 25 2 (.slice a9 (q + 1) c9) (q + 1) (ccs (List.replicate (q + 1) (ci, cv)))) := (by rw [ccs_rep]; exact ho1)
            have HB9 : Hid (Below V3.heap.size V3 w1) := (HB.out.trans (HA.out.mono HB.out.size)).trans (grown_below hg1 (fun g e => (World.ownsRow.lt HO.out g e).1) (by have := HB.out.size; simp; omega))
            clear ho1 hg1)
          go_roundw
          case rel => exact ⟨q + 1, by omega, by go_num, ⟨a9, c9, rfl, HO9⟩, HB9⟩
          case measure => simp [intOf]; omega
        · obtain rfl : q = nr := by omega
          obtain ⟨p0, p1, p2, p3, p4⟩ := HP.out wr HB.out
          have HRun : Hid (∀ W, Below wr.heap.size wr W → Calls Tryz.prog 14 #[pv p pa pn pc, .slice aA na cA, .slice a q c] W fun e w' => ∃ co cd us a1 n1 k1 a2 k2 st, e = .returned (.tuple #[.agg (eP co cd us a1 n1 k1 a2 nw k2 ((st : Nat) : Int)), .int .i64 0]) ∧ (st : Int) ≤ most ∧ Below W.heap.size W w') := fun W hW =>
            HR.out.run W (HBu.out.trans (hW.mono HBu.out.size)) V3.heap.size a c (ownsRow_same HO.out fun g e => hW.block g (World.ownsRow.lt HO.out g e).2)
          have HR1 : Hid (Calls Tryz.prog 14 #[pv p pa pn pc, .slice aA na cA, .slice a q c] wr.drew fun e w' => ∃ co cd us a1 n1 k1 a2 k2 st, e = .returned (.tuple #[.agg (eP co cd us a1 n1 k1 a2 nw k2 ((st : Nat) : Int)), .int .i64 0]) ∧ (st : Int) ≤ most ∧ Below wr.heap.size wr w') :=
            (HRun.out wr.drew ⟨rfl, rfl, rfl, Nat.le_refl _, fun _ _ => rfl⟩).mono fun e w' ⟨co, cd, us, a1, n1, k1, a2, k2, st, he, hst, hb⟩ => ⟨co, cd, us, a1, n1, k1, a2, k2, st, he, hst, ⟨hb.os, hb.tape, hb.output, hb.size, hb.block⟩⟩
          have HR2 : Hid (Calls Tryz.prog 14 #[pv p pa pn pc, .slice aA na cA, .slice a q c] (wr.alloc (.cells #[.bool false, .int .i64 0, .int .i64 0, .slice none 0 0, .slice none 0 0, .int .i64 0] 56)).drew fun e w' => ∃ co cd us a1 n1 k1 a2 k2 st, e = .returned (.tuple #[.agg (eP co cd us a1 n1 k1 a2 nw k2 ((st : Nat) : Int)), .int .i64 0]) ∧ (st : Int) ≤ most ∧ Below wr.heap.size wr w' ∧ w'.heap[wr.heap.size]? = some (.cells #[.bool false, .int .i64 0, .int .i64 0, .slice none 0 0, .slice none 0 0, .int .i64 0] 56 (0, 0))) := by
            have h0 : Below wr.heap.size wr (wr.alloc (.cells #[.bool false, .int .i64 0, .int .i64 0, .slice none 0 0, .slice none 0 0, .int .i64 0] 56)).drew := ⟨rfl, rfl, rfl, by simp, fun G hG => heap_alloc_old _ _ hG⟩
            refine (HRun.out _ h0).mono fun e w' ⟨co, cd, us, a1, n1, k1, a2, k2, st, he, hst, hb⟩ => ⟨co, cd, us, a1, n1, k1, a2, k2, st, he, hst, h0.trans (hb.mono h0.size), ?_⟩
            exact (hb.block _ (by simp)).trans (heap_alloc_new (w := wr) _ _ rfl)
          have HAl : Hid (Below wr.heap.size wr (wr.alloc (.cells #[.bool false, .int .i64 0, .int .i64 0, .slice none 0 0, .slice none 0 0, .int .i64 0] 56))) := (Below.refl _ _).alloc (Nat.le_refl _) _
          clear HRun
          go_upto_region 24 with fail
          go_cut [18, 19] from 140 to 150 (fun x y wx => ∃ (B18 : Nat) (a2' : Option Addr) (k2 st : Nat), x = .pointer (some ⟨B18, 0, none⟩) ∧ y = .int .i64 0 ∧ (st : Int) ≤ most ∧ Hid (Below wr.heap.size wr wx) ∧ Hid (∃ y0 y1 y2 y3, RE wx B18 y0 y1 y2 y3 (.slice a2' nw k2) (.int .i64 (st : Int))))
          case first =>
            have ta1 := (HR.out.tx _ (HBu.out.trans (HAl.out.mono HBu.out.size))).2.1
            obtain ⟨pa0, pa1, pa2, pa3, pa4⟩ := HP.out _ (HB.out.trans (HAl.out.mono HB.out.size))
            go_region_with (go_at_call 14; first
              | go_loud (refine HR1.out.mono ?_; rintro e v4 ⟨co, cd, us, a1, n1, k1, a2', k2, st, rfl, hst, hb4⟩; have HFin1 : Hid (Below wr.heap.size wr (v4.alloc (.cells #[.bool co, .int .i64 cd, .int .i64 us, .slice a1 n1 k1, .slice a2' nw k2, .int .i64 (st : Int)] 56)) ∧ RE (v4.alloc (.cells #[.bool co, .int .i64 cd, .int .i64 us, .slice a1 n1 k1, .slice a2' nw k2, .int .i64 (st : Int)] 56)) v4.heap.size (.bool co) (.int .i64 cd) (.int .i64 us) (.slice a1 n1 k1) (.slice a2' nw k2) (.int .i64 (st : Int))) := ⟨hb4.alloc hb4.size _, RE.new _ _ _ _ _ _ _⟩; clear hb4)
              | go_loud (refine HR2.out.mono ?_; rintro e v4 ⟨co, cd, us, a1, n1, k1, a2', k2, st, rfl, hst, hb4, hz4⟩; have HZ4 : Hid (RE v4 wr.heap.size (.bool false) (.int .i64 0) (.int .i64 0) (.slice none 0 0) (.slice none 0 0) (.int .i64 0)) := hz4; have HFin2 : Hid (Below wr.heap.size wr (e6 v4 wr.heap.size (.bool co) (.int .i64 cd) (.int .i64 us) (.slice a1 n1 k1) (.slice a2' nw k2) (.int .i64 (st : Int))) ∧ RE (e6 v4 wr.heap.size (.bool co) (.int .i64 cd) (.int .i64 us) (.slice a1 n1 k1) (.slice a2' nw k2) (.int .i64 (st : Int))) wr.heap.size (.bool co) (.int .i64 cd) (.int .i64 us) (.slice a1 n1 k1) (.slice a2' nw k2) (.int .i64 (st : Int))) := ⟨below_e6 hb4 (Nat.le_refl _) _ _ _ _ _ _, HZ4.out.six _ _ _ _ _ _⟩; clear hb4 hz4; obtain ⟨⟨zc0, zc1, zc2, zc3, zc4, zc5⟩, zf⟩ := zero_cells HZ4.out; have zf0 := zf 0; have zf1 := zf 1; have zf2 := zf 2; have zf3 := zf 3; have zf4 := zf 4; have zf5 := zf 5))
            all_goals go_wp2_with fail
            all_goals go_meet
            all_goals first | exact ⟨v4.heap.size, a2', k2, st, rfl, rfl, hst, HFin1.out.1, _, _, _, _, HFin1.out.2⟩ | exact ⟨wr.heap.size, a2', k2, st, rfl, rfl, hst, HFin2.out.1, _, _, _, _, HFin2.out.2⟩
          case rest =>
          obtain ⟨B18, a2', k2, st, rfl, rfl, hst, HB5, HX5⟩ := hcut
          generalize wc = V5 at *
          clear t0 t1 t2 t3 p0 p1 p2 p3 p4
          obtain ⟨p0, p1, p2, p3, p4⟩ := HP.out V5 (HB.out.trans (HB5.out.mono HB.out.size))
          have HV5 : Hid (Below u.heap.size u V5) := HBu.out.trans (HB5.out.mono HBu.out.size)
          obtain ⟨y0, y1, y2, y3, hx5⟩ := HX5.out
          go_wp2_with fail
          refine (HR.out.long V5 HV5.out).mono ?_
          rintro e V6 ⟨rfl, hb6⟩
          have HV6 : Hid (Below u.heap.size u V6) := HV5.out.trans (hb6.mono HV5.out.size)
          have hx6 := (hb6.block B18 hx5.lt).trans hx5
          have x4 : V6.cell? ⟨B18, 4, none⟩ = some (.slice a2' nw k2) := by simp [World.cell?, hx6]
          have x5 : V6.cell? ⟨B18, 5, none⟩ = some (.int .i64 (st : Int)) := by simp [World.cell?, hx6]
          have hst' : ¬ most < (st : Int) := by omega
          clear hb6 hx6 hx5 HX5 p0 p1 p2 p3 p4 HB5
          obtain ⟨t0, t1, t2, t3⟩ := HR.out.tx V6 HV6.out
          go_wp2_with fail
          go_quiet ((go_at_call 8; exact Calls.quiet_of_same (num_b _ _)))
          have HV7 : Hid (Below u.heap.size u (V6.drewN nq)) := ⟨HV6.out.os, HV6.out.tape, HV6.out.output, HV6.out.size, HV6.out.block⟩
          have t3' := (HR.out.tx (V6.drewN nq) HV7.out).2.2.2
          go_wp2_with fail
          go_roundw
          case rel => exact ⟨k + 1, by omega, by rw [HWt.out]; push_cast; go_num, by go_num, HV7⟩
          case measure => simp [intOf]; omega
    · obtain rfl : k = m := by omega
      have HWk : Hid (wtN (Qs.take k) = wtN Qs) := by rw [HQ.out.1, List.take_length]; rfl
      go_wp2_with fail
      refine (weight_any wr (some ⟨g, 0, none⟩) k k Qs (HBq.out _ HBr.out) HQ.out.1 HSm.out).mono ?_
      rintro e V8 ⟨rfl, hg8⟩
      rw [HWk.out]
      have HF : Hid (Below w.heap.size w V8) := HWu.out.1.trans ((HBr.out.trans (hg8.below.mono HBr.out.size)).mono HWu.out.1.size)
      clear hg8
      generalize wtN Qs = z at *
      go_wp2
      go_ret
      exact ⟨rfl, HF.out⟩
end Go.Proofs.YtcaibgbhebldmaaGreat.Kk
