/-
  spread, listed: THE WALKS.
-/
import Derived.Test.YtghfofjpoeckkaaHEq
namespace Go.Proofs.Ytghfofjpoeckkaa
open Go.RowKit Go.Sort

set_option maxRecDepth 100000 in
set_option maxHeartbeats 4000000 in
theorem spread_any (w : World) (D M L P f : Nat) (hh : K → Nat) (hok : PartOK f hh) (es : List En) (h : DA w D M L (hfn f) P es) (hs : HsOK hh P es) (oa va : Option Addr) (n oc vc : Nat) (hn : n = es.length) (ho : StrAt w oa (es.map En.k)) (hv : PrsAt w va (es.map En.v)) (hm : n ≤ 5000000000000) :
    Calls Try.prog 9 #[ptr D, .slice oa n oc, .slice va n vc] w fun e w' => e = .returned (.bool true) ∧ Below w.heap.size w w' := by
  have HD : Hid (∀ W, Below w.heap.size w W → DA W D M L (hfn f) P es) := fun W hW => h.kept hW
  have HS : Hid (HsOK hh P es) := hs
  have HP : Hid (PartOK f hh) := hok
  have HN : Hid (n = es.length) := hn
  have HO : Hid (∀ W, Below w.heap.size w W → StrAt W oa (es.map En.k)) := fun W hW => ho.kept hW
  have HV : Hid (∀ W, Below w.heap.size w W → PrsAt W va (es.map En.v)) := fun W hW => hv.kept hW
  have HKn : Hid ((es.map En.k).Nodup ∧ (∀ e ∈ es, e.p < P ∧ KIn e.k) ∧ P ≤ 256) := ⟨h.kn, fun e he => ⟨(h.pp e he).1, (h.pp e he).2.1⟩, h.P0.2⟩
  have HPt : Hid (∀ p : Nat, ptI P (p : Int) es = pt p es) := fun p => ptI_pt h p
  have HLen := hidH (len_any w D M L P (hfn f) es h)
  rw [← hn] at HLen
  clear h hs hok hn ho hv
  go_enter Try.func9, Try.ntmps9
  go_wp2_with fail
  refine HLen.out.mono ?_
  rintro e w1 ⟨rfl, hw1⟩
  subst hw1
  clear HLen
  go_wp2_with fail
  go_loopw [7, 8] (fun x y wr => ∃ p : Nat, p ≤ 256 ∧ x = .int .i64 (cntP p es : Int) ∧ y = .int .i64 (p : Int) ∧ Hid (Below w1.heap.size w1 wr)) (fun _ y _ => 256 - (intOf y).toNat)
  case atStart => exact ⟨0, by omega, by rw [cntP_zero]; rfl, rfl, Below.refl _ _⟩
  case round =>
    obtain ⟨p, hp, rfl, rfl, HB⟩ := hrel
    by_cases hlt : p < 256
    · have hlti : (p : Int) < 256 := by omega
      have hc1 := cntP_succ p es
      have hc2 := cntP_le (p + 1) es
      have HK := keys_any wr D M L P (hfn f) es (p : Int) (HD.out wr HB.out) (by rw [HPt.out]; have := HN.out; omega)
      rw [HPt.out p] at HK
      obtain ⟨l, hl⟩ : ∃ l, l = pt p es := ⟨_, rfl⟩
      have HLm : Hid (∀ e ∈ l, e ∈ es ∧ e.p = p) := fun e he => by rw [hl] at he; exact pt_mem.1 he
      have HLn : Hid ((l.map En.k).Nodup) := by rw [hl]; exact List.Sublist.nodup (List.Sublist.map _ List.filter_sublist) HKn.out.1
      have hml : l.length ≤ es.length := by rw [hl]; exact List.length_filter_le _ _
      rw [← hl] at HK hc1
      have HSz : Hid (∀ W, Below w1.heap.size w1 W → Calls Try.prog 20 #[ptr D, .int .i64 (p : Int)] W fun e w' => e = .returned (.int .i64 (l.length : Int)) ∧ Below W.heap.size W w') := fun W hW => by
        have := size_any W D M L P (hfn f) es (p : Int) (HD.out W hW)
        rw [HPt.out p, ← hl] at this
        exact this
      clear hl
      go_wp2_with fail
      refine HK.mono ?_
      clear HK
      rintro e w2 ⟨g, rfl, HRow, hb2⟩
      have HB2 : Hid (Below w1.heap.size w1 w2) := HB.out.trans (hb2.mono HB.out.size)
      have HSt : Hid (∀ W, Below w2.heap.size w2 W → StrAt W (some ⟨g, 0, none⟩) (l.map En.k)) := fun W hW => (own_strs HRow.out (by simp)).kept hW
      have hlen : l.length ≤ 5000000000000 := by have := HN.out; omega
      clear hb2 HB HRow
      go_wp2_with fail
      rename_i wo
      go_loopw [10] (fun x wr => ∃ i : Nat, i ≤ l.length ∧ x = .int .i64 (i : Int) ∧ Hid (Below w2.heap.size w2 wr)) (fun x _ => l.length - (intOf x).toNat)
      case atStart => exact ⟨0, Nat.zero_le _, rfl, Below.refl _ _⟩
      case round =>
        obtain ⟨i, hi, rfl, HBi⟩ := hrel
        have HBw : Hid (Below w1.heap.size w1 wr) := HB2.out.trans (HBi.out.mono HB2.out.size)
        by_cases hil : i < l.length
        · have hili : (i : Int) < (l.length : Int) := by omega
          have hmi := HLm.out l[i] (List.getElem_mem hil)
          obtain ⟨b, off, e, s0⟩ := HSt.out wr HBi.out i (by simpa using hil)
          cases e
          simp only [List.getElem_map, Nat.zero_add] at s0
          have hki := (HKn.out.2.1 l[i] hmi.1).2
          have HG := get_any wr D M L P (hfn f) es l[i].k (HD.out wr HBw.out) hki
          rw [fd_of HKn.out.1 hmi.1] at HG
          simp only [vv, Option.isSome_some] at HG
          have HPa : Hid (∀ W, Below w1.heap.size w1 W → Calls Try.prog 15 #[ptr D, .string l[i].k] W fun e w' => e = .returned (.int .i64 (p : Int)) ∧ Below W.heap.size W w') := fun W hW => by
            have := HP.out W D M L P es l[i].k hki (HD.out W hW)
            rw [← HS.out l[i] hmi.1, hmi.2] at this
            exact this
          go_wp2_with fail
          refine HG.mono ?_
          clear HG
          rintro e w3 ⟨rfl, hb3⟩
          obtain ⟨W4, hW4⟩ : ∃ W4, W4 = w3.alloc (.cells #[.int .i64 l[i].v.1, .int .i64 l[i].v.2] 28) := ⟨_, rfl⟩
          have HB4 : Hid (Below w2.heap.size w2 W4) := by
            have h3 := HBi.out.trans (hb3.mono HBi.out.size)
            rw [hW4]; exact h3.alloc h3.size _
          have HB4w : Hid (Below w1.heap.size w1 W4) := HB2.out.trans (HB4.out.mono HB2.out.size)
          clear s0
          obtain ⟨b, off, e, s0⟩ := HSt.out W4 HB4.out i (by simpa using hil)
          cases e
          simp only [List.getElem_map, Nat.zero_add] at s0
          go_upto_region 12 with fail
          rw [← hW4]
          clear hW4 hb3
          have hPa := HPa.out W4 HB4w.out
          clear HPa hki
          go_wp2_with fail
          refine hPa.mono ?_
          clear hPa
          rintro e w5 ⟨rfl, hb5⟩
          have HB5 : Hid (Below w2.heap.size w2 w5) := HB4.out.trans (hb5.mono HB4.out.size)
          clear hb5 s0 HB4 HB4w HBi HBw hmi
          go_wp2_with fail
          rename_i wo2
          go_loopw [13] (fun x wr => ∃ k : Nat, k ≤ i ∧ x = .int .i64 (k : Int) ∧ Hid (Below w2.heap.size w2 wr)) (fun x _ => i - (intOf x).toNat)
          case atStart => exact ⟨0, Nat.zero_le _, rfl, HB5⟩
          case round =>
            clear HB5
            obtain ⟨k, hk, rfl, HBk⟩ := hrel
            by_cases hkl : k < i
            · have hkli : (k : Int) < (i : Int) := by omega
              have hkll : (k : Int) < (l.length : Int) := by omega
              obtain ⟨_, _, e, s0⟩ := HSt.out wr HBk.out i (by simpa using hil)
              cases e
              obtain ⟨_, _, e, s1⟩ := HSt.out wr HBk.out k (by simp; omega)
              cases e
              simp only [List.getElem_map, Nat.zero_add] at s0 s1
              have hne := ne_list (a := (l[k]'(by omega)).k) (b := l[i].k) (fun e => by
                have h1 := (List.pairwise_iff_getElem.1 HLn.out) k i (by simp; omega) (by simp; omega) hkl
                simp only [List.getElem_map] at h1
                exact h1 e)
              have HBd : Hid (∀ q, Below w2.heap.size w2 (wr.drewN q)) := fun q => HBk.out.trans ⟨rfl, rfl, rfl, Nat.le_refl _, fun _ _ => rfl⟩
              generalize (l[k]'(by omega)).k = kk at *
              generalize l[i].k = ki at *
              clear HBk
              go_wp2_with fail
              go_quiet (fail)
              go_wp2
              go_roundw
              case rel => exact ⟨k + 1, by omega, by go_num, HBd.out _⟩
              case measure => simp [intOf]; omega
            · obtain rfl : k = i := by omega
              go_wp2
              go_roundw
              case rel => exact ⟨k + 1, by omega, by go_num, HBk⟩
              case measure => simp [intOf]; omega
        · obtain rfl : i = l.length := by omega
          have hSz := HSz.out wr HBw.out
          have hsum : (cntP p es : Int) + (l.length : Int) = (cntP (p + 1) es : Int) := by omega
          have HE := hidH hsum
          have hb1 : cntP p es ≤ 5000000000000 := by have := HN.out; have := cntP_le p es; omega
          clear hsum hc1
          generalize cntP p es = c1 at *
          generalize l.length = ll at *
          go_wp2_with fail
          refine hSz.mono ?_
          clear hSz
          rintro e w6 ⟨rfl, hb6⟩
          have HB6 : Hid (Below w1.heap.size w1 w6) := HBw.out.trans (hb6.mono HBw.out.size)
          clear hb6 HBw HBi
          go_wp2
          go_roundw
          case rel => exact ⟨p + 1, by omega, by rw [← HE.out], by go_num, HB6⟩
          case measure => simp [intOf]; omega
    · obtain rfl : p = 256 := by omega
      have hall : cntP 256 es = n := by rw [HN.out]; exact cntP_all (fun e he => by have := (HKn.out.2.1 e he).1; have := HKn.out.2.2; omega)
      rw [hall]
      simp only [show ((256 : Nat) : Int) = 256 from rfl]
      clear hall
      go_wp2_with fail
      rename_i wo
      go_loopw [14] (fun x wr => ∃ i : Nat, i ≤ n ∧ x = .int .i64 (i : Int) ∧ Hid (Below w1.heap.size w1 wr)) (fun x _ => n - (intOf x).toNat)
      case atStart => exact ⟨0, Nat.zero_le _, rfl, HB⟩
      case round =>
        clear HB
        obtain ⟨i, hi, rfl, HB⟩ := hrel
        by_cases hil : i < n
        · have hili : (i : Int) < (n : Int) := by omega
          have hie : i < es.length := by have := HN.out; omega
          obtain ⟨b, off, hoa, s0⟩ := HO.out wr HB.out i (by simpa using hie)
          subst hoa
          simp only [List.getElem_map] at s0
          have hki := (HKn.out.2.1 es[i] (List.getElem_mem hie)).2
          have HG := get_any wr D M L P (hfn f) es es[i].k (HD.out wr HB.out) hki
          rw [fd_of HKn.out.1 (List.getElem_mem hie)] at HG
          simp only [vv, Option.isSome_some] at HG
          go_wp2_with fail
          refine HG.mono ?_
          clear HG
          rintro e w3 ⟨rfl, hb3⟩
          obtain ⟨W4, hW4⟩ : ∃ W4, W4 = w3.alloc (.cells #[.int .i64 es[i].v.1, .int .i64 es[i].v.2] 28) := ⟨_, rfl⟩
          have HB4 : Hid (Below w1.heap.size w1 W4) := by
            have h3 := HB.out.trans (hb3.mono HB.out.size)
            rw [hW4]; exact h3.alloc h3.size _
          have HX4 : Hid (W4.heap[w3.heap.size]? = some (.cells #[.int .i64 es[i].v.1, .int .i64 es[i].v.2] 28 (0, 0))) := by rw [hW4]; exact heap_alloc_new _ _ rfl
          clear s0 hb3
          go_upto_region 26 with fail
          rw [← hW4]
          clear hW4
          generalize w3.heap.size = B4 at *
          obtain ⟨y0, y1, _, _⟩ := blk2_cell HX4.out
          obtain ⟨b2, off2, hva, v0, v1⟩ := HV.out W4 HB4.out i (by simpa using hie)
          subst hva
          simp only [List.getElem_map] at v0 v1
          have HBd : Hid (∀ q, Below w1.heap.size w1 (W4.drewN q)) := fun q => HB4.out.trans ⟨rfl, rfl, rfl, Nat.le_refl _, fun _ _ => rfl⟩
          have hq := run_nePs es[i].v.1 es[i].v.2
          have hg := fun op a b => grdP op a b es[i].v.1 es[i].v.2 es[i].v.1 es[i].v.2
          generalize es[i].v.1 = z1 at *
          generalize es[i].v.2 = z2 at *
          clear hki HB HB4 HX4
          go_quiet (fail)
          go_wp2
          go_roundw
          case rel => exact ⟨i + 1, by omega, by go_num, HBd.out _⟩
          case measure => simp [intOf]; omega
        · obtain rfl : i = n := by omega
          go_wp2
          go_ret
          exact ⟨rfl, HB.out⟩
set_option maxRecDepth 100000 in
set_option maxHeartbeats 4000000 in
theorem listed_any (w : World) (D M L : Nat) (f : Nat) (hh : K → Nat) (hok : PartOK f hh) (h0 : ∀ k, hh k = 0) (es : List En) (h : DA w D M L (hfn f) 256 es) (hs : HsOK hh 256 es) (oa va : Option Addr) (n oc vc : Nat) (hn : n = es.length) (ho : StrAt w oa (es.map En.k)) (hv : PrsAt w va (es.map En.v)) (hm : n ≤ 5000000000000) :
    Calls Try.prog 10 #[ptr D, .slice oa n oc, .slice va n vc] w fun e w' => e = .returned (.bool true) ∧ Below w.heap.size w w' := by
  have hpt : ∀ p : Int, ptI 256 p es = if p = 0 then es else [] := fun p => by
    by_cases hp : p = 0
    · subst hp
      have := ptI_pt h 0
      rw [if_pos rfl]
      refine Eq.trans this (List.filter_eq_self.2 fun e he => ?_)
      have := hs e he
      rw [h0] at this
      simp [this]
    · rw [if_neg hp]
      unfold ptI
      split
      · refine List.filter_eq_nil_iff.2 fun e he => ?_
        have := hs e he
        rw [h0] at this
        simp [this]
        omega
      · rfl
  have HD : Hid (∀ W, Below w.heap.size w W → DA W D M L (hfn f) 256 es) := fun W hW => h.kept hW
  have HO : Hid (∀ W, Below w.heap.size w W → StrAt W oa (es.map En.k)) := fun W hW => ho.kept hW
  have HV : Hid (∀ W, Below w.heap.size w W → PrsAt W va (es.map En.v)) := fun W hW => hv.kept hW
  have HKn : Hid ((es.map En.k).Nodup ∧ ∀ e ∈ es, KIn e.k) := ⟨h.kn, fun e he => (h.pp e he).2.1⟩
  have HK := keys_any w D M L 256 (hfn f) es 0 h (by rw [hpt 0, if_pos rfl]; omega)
  rw [hpt 0, if_pos rfl, ← hn] at HK
  have HS0 : Hid (∀ W, Below w.heap.size w W → Calls Try.prog 20 #[ptr D, .int .i64 0] W fun e w' => e = .returned (.int .i64 (n : Int)) ∧ Below W.heap.size W w') := fun W hW => by
    have := size_any W D M L 256 (hfn f) es 0 (h.kept hW)
    rw [hpt 0, if_pos rfl, ← hn] at this
    exact this
  have HS1 : Hid (∀ W, Below w.heap.size w W → Calls Try.prog 20 #[ptr D, .int .i64 1] W fun e w' => e = .returned (.int .i64 0) ∧ Below W.heap.size W w') := fun W hW => by
    have := size_any W D M L 256 (hfn f) es 1 (h.kept hW)
    rw [hpt 1, if_neg (by omega)] at this
    exact this
  have HK1 : Hid (∀ W, Below w.heap.size w W → Calls Try.prog 18 #[ptr D, .int .i64 1] W fun e w' => (∃ g, e = .returned (.slice (some ⟨g, 0, none⟩) 0 0)) ∧ Below W.heap.size W w') := fun W hW => by
    have := keys_any W D M L 256 (hfn f) es 1 (h.kept hW) (by rw [hpt 1, if_neg (by omega)]; simp)
    rw [hpt 1, if_neg (by omega)] at this
    exact this.mono fun e w' ⟨g, h1, _, h3⟩ => ⟨⟨g, h1⟩, h3⟩
  have HPx : Hid (∀ W, Below w.heap.size w W → Calls Try.prog 15 #[ptr D, .string ⟨#[120]⟩] W fun e w' => e = .returned (.int .i64 0) ∧ Below W.heap.size W w') := fun W hW => by
    have := hok W D M L 256 es ⟨#[120]⟩ (by unfold KIn maxLen; decide) (h.kept hW)
    rw [h0] at this
    exact this
  have HN : Hid (n = es.length) := hn
  clear h hs hok hn ho hv h0 hpt
  go_enter Try.func10, Try.ntmps10
  go_wp2_with fail
  refine HK.mono ?_
  clear HK
  rintro e w2 ⟨g, rfl, HRow, hb2⟩
  have HB2 : Hid (Below w.heap.size w w2) := hb2
  have HSt : Hid (∀ W, Below w2.heap.size w2 W → StrAt W (some ⟨g, 0, none⟩) (es.map En.k)) := fun W hW => (own_strs HRow.out (by rw [List.length_map]; exact HN.out)).kept hW
  clear hb2 HRow
  go_wp2_with fail
  go_loopw [8] (fun x wr => ∃ i : Nat, i ≤ n ∧ x = .int .i64 (i : Int) ∧ Hid (Below w2.heap.size w2 wr)) (fun x _ => n - (intOf x).toNat)
  case atStart => exact ⟨0, Nat.zero_le _, rfl, Below.refl _ _⟩
  case round =>
    obtain ⟨i, hi, rfl, HB⟩ := hrel
    have HBw : Hid (Below w.heap.size w wr) := HB2.out.trans (HB.out.mono HB2.out.size)
    by_cases hil : i < n
    · have hili : (i : Int) < (n : Int) := by omega
      have hie : i < es.length := by have := HN.out; omega
      obtain ⟨_, _, e, s0⟩ := HSt.out wr HB.out i (by simpa using hie)
      cases e
      simp only [List.getElem_map, Nat.zero_add] at s0
      have hki := HKn.out.2 es[i] (List.getElem_mem hie)
      have HG := get_any wr D M L 256 (hfn f) es es[i].k (HD.out wr HBw.out) hki
      rw [fd_of HKn.out.1 (List.getElem_mem hie)] at HG
      simp only [vv, Option.isSome_some] at HG
      go_wp2_with fail
      refine HG.mono ?_
      clear HG
      rintro e w3 ⟨rfl, hb3⟩
      obtain ⟨W4, hW4⟩ : ∃ W4, W4 = w3.alloc (.cells #[.int .i64 es[i].v.1, .int .i64 es[i].v.2] 28) := ⟨_, rfl⟩
      have HB4 : Hid (Below w2.heap.size w2 W4) := by
        have h3 := HB.out.trans (hb3.mono HB.out.size)
        rw [hW4]; exact h3.alloc h3.size _
      have HB4w : Hid (Below w.heap.size w W4) := HB2.out.trans (HB4.out.mono HB2.out.size)
      have HX4 : Hid (W4.heap[w3.heap.size]? = some (.cells #[.int .i64 es[i].v.1, .int .i64 es[i].v.2] 28 (0, 0))) := by rw [hW4]; exact heap_alloc_new _ _ rfl
      clear s0 hb3
      go_upto_region 8 with fail
      rw [← hW4]
      clear hW4
      generalize w3.heap.size = B4 at *
      obtain ⟨y0, y1, _, _⟩ := blk2_cell HX4.out
      obtain ⟨_, _, e, s0⟩ := HSt.out W4 HB4.out i (by simpa using hie)
      cases e
      obtain ⟨b1, off1, hoa, s1⟩ := HO.out W4 HB4w.out i (by simpa using hie)
      subst hoa
      obtain ⟨b2, off2, hva, v0, v1⟩ := HV.out W4 HB4w.out i (by simpa using hie)
      subst hva
      simp only [List.getElem_map, Nat.zero_add] at v0 v1 s0 s1
      have HBd : Hid (∀ q, Below w2.heap.size w2 (W4.drewN q)) := fun q => HB4.out.trans ⟨rfl, rfl, rfl, Nat.le_refl _, fun _ _ => rfl⟩
      have hq := run_nePs es[i].v.1 es[i].v.2
      have hg := fun op a b => grdP op a b es[i].v.1 es[i].v.2 es[i].v.1 es[i].v.2
      have hne : (es[i].k.toList != es[i].k.toList) = false := by simp
      generalize es[i].v.1 = z1 at *
      generalize es[i].v.2 = z2 at *
      generalize es[i].k = kk at *
      clear hki HB HB4 HX4 HB4w HBw
      go_quiet (fail)
      go_wp2
      go_roundw
      case rel => exact ⟨i + 1, by omega, by go_num, HBd.out _⟩
      case measure => simp [intOf]; omega
    · obtain rfl : i = n := by omega
      have h1 := HS0.out wr HBw.out
      go_wp2_with fail
      refine h1.mono ?_
      clear h1
      rintro e w3 ⟨rfl, hb3⟩
      have HB3 : Hid (Below w.heap.size w w3) := HBw.out.trans (hb3.mono HBw.out.size)
      clear hb3
      have h1 := HS1.out w3 HB3.out
      go_wp2_with fail
      refine h1.mono ?_
      clear h1
      rintro e w4 ⟨rfl, hb4⟩
      have HB4 : Hid (Below w.heap.size w w4) := HB3.out.trans (hb4.mono HB3.out.size)
      clear hb4
      have h1 := HK1.out w4 HB4.out
      go_wp2_with fail
      refine h1.mono ?_
      clear h1
      rintro e w5 ⟨⟨g5, rfl⟩, hb5⟩
      have HB5 : Hid (Below w.heap.size w w5) := HB4.out.trans (hb5.mono HB4.out.size)
      clear hb5
      have h1 := HPx.out w5 HB5.out
      go_wp2_with fail
      refine h1.mono ?_
      clear h1
      rintro e w6 ⟨rfl, hb6⟩
      have HB6 : Hid (Below w.heap.size w w6) := HB5.out.trans (hb6.mono HB5.out.size)
      clear hb6
      go_wp2
      go_ret
      exact ⟨rfl, HB6.out⟩
end Go.Proofs.Ytghfofjpoeckkaa
