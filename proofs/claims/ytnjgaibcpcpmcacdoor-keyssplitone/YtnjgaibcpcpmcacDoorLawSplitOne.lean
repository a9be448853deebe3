/-
  KeysSplitOne: THE WALK OF THE LAW.
-/
import Derived.Test.YtnjgaibcpcpmcacDoorKSplit
import Derived.Test.YtnjgaibcpcpmcacDoorPlain
import Derived.Test.YtnjgaibcpcpmcacDoorKNe
namespace Go.Proofs.YtnjgaibcpcpmcacDoor
open Go.RowKit Go.Sort

/-- a row of numbers -/
abbrev ints (f : Nat → Nat) (P : Nat) : Array Value := outer (fun p => .int .i64 (f p : Int)) P
theorem infoI : (Tryd.prog.info? 3).map (fun i => (i.zero, i.size, i.bytes)) = some (some (.int .i64 0), 1, 8) := by kernel_rfl
theorem make_ints (c : Nat) (hc : c ≤ 256) (u : World) : (Instr.makeSlice 41 (.int .i64 (c : Int)) (.int .i64 (c : Int))).run Tryd.prog u =
    .ok (.slice (some ⟨u.heap.size, 0, none⟩) c c) (u.alloc (.cells (ints (fun _ => 0) c) 3)) := by
  obtain ⟨i0, hi, hz0, hz1, hz2⟩ := info_parts infoI
  have h := run_make (P := Tryd.prog) u 41 3 i0 (.int .i64 0) Tryd.underlying41 hi hz0 .i64 .i64 (c : Int) (c : Int) (by omega) (Int.le_refl _) (by rw [hz2]; omega) (by omega)
  have e : madeCells #[.int .i64 0] c = ints (fun _ => 0) c := by
    apply Array.ext'
    rw [toList_madeCells_one]
    simp [ints, outer, List.map_const']
  rw [← e]
  simpa [hz1, Value.cells] using h
theorem ints_set (f : Nat → Nat) (P p n : Nat) : (ints f P).setIfInBounds p (.int .i64 (n : Int)) = ints (updf f p n) P := by
  unfold ints
  rw [outer_set]
  congr 1
  funext j
  unfold updf
  split <;> rfl

/-- where the k-th stands in its list -/
theorem partL_at (L : List K) (P k : Nat) (h : k < L.length) : (partL (L.take k) P (pn (kd L k) P)).length < (partL L P (pn (kd L k) P)).length ∧ kd (partL L P (pn (kd L k) P)) (partL (L.take k) P (pn (kd L k) P)).length = kd L k := by
  have e : partL L P (pn (kd L k) P) = partL (L.take k) P (pn (kd L k) P) ++ (kd L k :: partL (L.drop (k + 1)) P (pn (kd L k) P)) := by
    have h1 : L = L.take k ++ (kd L k :: L.drop (k + 1)) := by
      have := List.take_append_drop (k + 1) L
      rw [take_kd L k h] at this
      simpa using this.symm
    have h2 : partL L P (pn (kd L k) P) = partL (L.take k ++ (kd L k :: L.drop (k + 1))) P (pn (kd L k) P) := by rw [← h1]
    rw [h2]
    unfold partL
    rw [List.filter_append, List.filter_cons, if_pos (by simp)]
  rw [e]
  refine ⟨by simp, ?_⟩
  have := kd_right (partL (L.take k) P (pn (kd L k) P)) (kd L k :: partL (L.drop (k + 1)) P (pn (kd L k) P)) 0 (by simp)
  rw [Nat.add_zero] at this
  exact this.trans (by simp [kd])
theorem partN_upd (L : List K) (P k : Nat) (h : k < L.length) : (fun p => (partL (L.take (k + 1)) P p).length) = updf (fun p => (partL (L.take k) P p).length) (pn (kd L k) P) ((partL (L.take k) P (pn (kd L k) P)).length + 1) := by
  funext p
  rw [take_kd L k h, partL_snoc]
  by_cases h : pn (kd L k) P = p
  · subst h; rw [if_pos rfl, updf_same]; simp
  · rw [if_neg h, updf_other _ _ _ _ (Ne.symm h)]

set_option maxHeartbeats 4000000 in
set_option maxRecDepth 100000 in
theorem splitOne_bad (w : World) (ao : Option Addr) (cap n : Nat) (p : Int) (L : List K) (hv : DigVars w) (hn : n = L.length) (h : KeysAt w ao L) (hnil : ao = none → cap = 0) (hin : ∀ k ∈ L, In64 k.2) (hm : n * 16 ≤ 140737488351232) (hb : ¬ (L.all isKey = true ∧ 1 ≤ p ∧ p ≤ 256)) :
    Calls Tryd.prog 4 #[.slice ao n cap, .int .i64 p] w fun e w' => e = .returned (.bool true) ∧ Below w.heap.size w w' := by
  have HN : Hid (n = L.length) := hn
  have HV : Hid (DigVars w) := hv
  have HK : Hid (KeysAt w ao L) := h
  have HI : Hid (ao = none → cap = 0) := hnil
  have HB : Hid (¬ (L.all isKey = true ∧ 1 ≤ p ∧ p ≤ 256)) := hb
  have HS : Hid (∀ (w : World) (v : Value), OwnK w w.heap.size v L → True) := fun _ _ _ => trivial
  have HSp : Hid (∀ (w : World) (ao : Option Addr) (cap : Nat), KeysAt w ao L → Calls Tryd.prog 17 #[.slice ao n cap, .int .i64 p] w fun e w' => ∃ x : Int, x ≠ 0 ∧ e = .returned (.tuple #[.slice none 0 0, .int .i64 x]) ∧ Below w.heap.size w w') := by
    intro w ao cap hk
    by_cases hp : okParts p = true
    · obtain ⟨h1, h2⟩ := (okParts_iff p).1 hp
      obtain ⟨P, rfl⟩ := Int.eq_ofNat_of_zero_le (by omega : 0 ≤ p)
      refine (split_any w ao cap n P L hn hk hin (by omega) (by omega) (by omega)).mono fun e w' ⟨h3, h4⟩ => ?_
      rcases h3 with ⟨h3, _⟩ | ⟨_, rfl⟩
      · exact absurd ⟨h3, h1, h2⟩ hb
      · exact ⟨20, by omega, rfl, h4⟩
    · refine (split_parts w _ p (by simpa using hp)).mono fun e w' ⟨h1, h2⟩ => ⟨21, by omega, h1, by subst h2; exact (Grew.refl _).below⟩
  clear hn h hnil hv hin HS hb
  go_enter Tryd.func4, Tryd.ntmps4
  go_wp2_with fail
  refine (plain_any w HV.out).mono ?_
  rintro e w1 ⟨rfl, g1⟩
  have HG1 : Hid (Grew w w1) := g1
  have HK1 : Hid (KeysAt w1 ao L) := HK.out.grew g1
  clear g1 HV HK
  go_wp2_with fail
  refine (copiedK_any w1 ao cap n L HN.out HK1.out HI.out (by omega)).mono ?_
  rintro e w2 ⟨v, rfl, hown, hbel⟩
  obtain ⟨a2, c2, rfl, hk2, hn2, hl2⟩ := hown.slice
  rw [← HN.out]
  have HB2 : Hid (Below w.heap.size w w2) := HG1.out.below.trans (hbel.mono HG1.out.size)
  have HK2 : Hid (KeysAt w2 ao L) := HK1.out.kept hbel
  have HKc : Hid (KeysAt w2 a2 L) := hk2
  clear hown hbel hk2 hn2 hl2 HK1 HG1
  go_wp2_with fail
  refine (HSp.out w2 a2 c2 HKc.out).mono ?_
  rintro e w3 ⟨x, hx, rfl, hbel⟩
  have HB3 : Hid (Below w.heap.size w w3) := HB2.out.trans (hbel.mono HB2.out.size)
  have HK3 : Hid (KeysAt w3 ao L) := HK2.out.kept hbel
  have hx' : (x != 0) = true := by simpa using hx
  clear hbel HSp HKc HK2 HB2 hx
  go_wp2_with fail
  refine (sound_any w3 ao cap n L HN.out HK3.out (by omega)).mono ?_
  rintro e w4 ⟨rfl, rfl⟩
  by_cases hs : L.all isKey = true
  · rw [hs]
    by_cases h1 : p < 1
    · go_wp2_with (go_at_call 9; refine (num_any' _ _).mono ?_; rintro e w' ⟨rfl, rfl⟩)
      go_ret
      exact ⟨rfl, HB3.out⟩
    · have h2 : 256 < p := by have := HB.out; simp only [hs, true_and] at this; omega
      go_wp2_with (go_at_call 9; refine (num_any' _ _).mono ?_; rintro e w' ⟨rfl, rfl⟩)
      go_ret
      exact ⟨rfl, HB3.out⟩
  · rw [show L.all isKey = false by simpa using hs]
    go_wp2_with (go_at_call 9; refine (num_any' _ _).mono ?_; rintro e w' ⟨rfl, rfl⟩)
    go_ret
    exact ⟨rfl, HB3.out⟩

set_option maxHeartbeats 4000000 in
set_option maxRecDepth 100000 in
theorem splitOne_good (w : World) (ao : Option Addr) (cap n P : Nat) (L : List K) (hv : DigVars w) (hn : n = L.length) (h : KeysAt w ao L) (hnil : ao = none → cap = 0) (hin : ∀ k ∈ L, In64 k.2) (hm : n * 16 ≤ 140737488351232) (hall : L.all isKey = true) (hP1 : 1 ≤ P) (hP : P ≤ 256) :
    Calls Tryd.prog 4 #[.slice ao n cap, .int .i64 (P : Int)] w fun e w' => e = .returned (.bool true) ∧ Below w.heap.size w w' := by
  have HN : Hid (n = L.length) := hn
  have HV : Hid (DigVars w) := hv
  have HK : Hid (KeysAt w ao L) := h
  have HI : Hid (ao = none → cap = 0) := hnil
  have HIN : Hid (∀ k ∈ L, In64 k.2) := hin
  have HALL : Hid (L.all isKey = true) := hall
  have hmk := make_ints P hP
  clear hn h hnil hv hin hall
  go_enter Tryd.func4, Tryd.ntmps4
  go_wp2_with fail
  refine (plain_any w HV.out).mono ?_
  rintro e w1 ⟨rfl, g1⟩
  have HG1 : Hid (Grew w w1) := g1
  have HK1 : Hid (KeysAt w1 ao L) := HK.out.grew g1
  clear g1 HV HK
  go_wp2_with fail
  refine (copiedK_any w1 ao cap n L HN.out HK1.out HI.out (by omega)).mono ?_
  rintro e w2 ⟨v, rfl, hown, hbel⟩
  obtain ⟨a2, c2, rfl, hk2, hn2, hl2⟩ := hown.slice
  rw [← HN.out]
  have HB2 : Hid (Below w.heap.size w w2) := HG1.out.below.trans (hbel.mono HG1.out.size)
  have HK2 : Hid (KeysAt w2 ao L) := HK1.out.kept hbel
  have HKc : Hid (KeysAt w2 a2 L) := hk2
  clear hown hbel hk2 hn2 hl2 HK1 HG1
  go_wp2_with fail
  refine (split_any w2 a2 c2 n P L HN.out HKc.out HIN.out hP1 hP (by omega)).mono ?_
  rintro e w3 ⟨h3, hbel⟩
  rcases h3 with ⟨_, vs, rfl, hpt⟩ | ⟨h3, _⟩
  case inr => exact absurd (h3.symm.trans HALL.out) (by decide)
  have HB3 : Hid (Below w.heap.size w w3) := HB2.out.trans (hbel.mono HB2.out.size)
  have HK3 : Hid (KeysAt w3 ao L) := HK2.out.kept hbel
  have HPt : Hid (∃ base, Parts w3 base w2.heap.size P vs (fun p => partL L P p)) := ⟨_, hpt⟩
  generalize w2.heap.size = G at *
  clear hbel HKc HK2 HB2 hpt
  go_wp2_with fail
  refine (sound_any w3 ao cap n L HN.out HK3.out (by omega)).mono ?_
  rintro e w4 ⟨rfl, rfl⟩
  rw [HALL.out]
  obtain ⟨base, hpt⟩ := HPt.out
  have HPt : Hid (Parts w4 base G P vs (fun p => partL L P p)) := hpt
  clear hpt
  go_wp2_with (go_at_call 9; refine (num_any' _ _).mono ?_; rintro e w' ⟨rfl, rfl⟩)
  have HA0 : Hid ((w4.alloc (.cells (ints (fun _ => 0) P) 3)).heap[w4.heap.size]? = some (.cells (ints (fun p => (partL (L.take 0) P p).length) P) 3 (0, 0))) := by rw [Hid, show (fun p => (partL (L.take 0) P p).length) = (fun _ => 0) from funext fun p => by simp [partL]]; exact heap_alloc_new (w := w4) (.cells (ints (fun _ => 0) P) 3) _ rfl
  have HGw : Hid (Grew w4 (w4.alloc (.cells (ints (fun _ => 0) P) 3))) := (Grew.refl _).alloc _
  have HP0 : Hid (Parts (w4.alloc (.cells (ints (fun _ => 0) P) 3)) base G P vs (fun p => partL L P p)) := HPt.out.kept HGw.out.below
  have HK0 : Hid (KeysAt (w4.alloc (.cells (ints (fun _ => 0) P) 3)) ao L) := HK3.out.grew HGw.out
  have HB0 : Hid (Below w.heap.size w (w4.alloc (.cells (ints (fun _ => 0) P) 3))) := HB3.out.trans (HGw.out.below.mono HB3.out.size)
  have HAB : Hid (w.heap.size ≤ w4.heap.size ∧ G ≠ w4.heap.size ∧ (∀ a, L ≠ [] → ao = some a → a.block < w4.heap.size) ∧ ∀ p g, p < P → (vs p).ownBlock = some g → g ≠ w4.heap.size) := by
    refine ⟨HB3.out.size, ?_, HK3.out.lt, fun p g hp hg => ?_⟩
    · have := (Array.getElem?_eq_some_iff.1 HPt.out.row).1; omega
    · have := ((HPt.out.own p hp).lt g hg).2; omega
  generalize w4.alloc (.cells (ints (fun _ => 0) P) 3) = W0 at *
  generalize w4.heap.size = A at *
  clear HK3 HPt HB3 HGw
  go_loopw [9, 10, 11] (fun x _ _ wr => ∃ k : Nat, k ≤ n ∧ x = .int .i64 (k : Int) ∧ Hid (wr.heap[A]? = some (.cells (ints (fun p => (partL (L.take k) P p).length) P) 3 (0, 0))) ∧ Hid (Parts wr base G P vs (fun p => partL L P p)) ∧ Hid (KeysAt wr ao L) ∧ Hid (Below w.heap.size w wr)) (fun x _ _ _ => n - (intOf x).toNat)
  case atStart => exact ⟨0, Nat.zero_le _, rfl, HA0, HP0, HK0, HB0⟩
  case round =>
    clear HA0 HP0 HK0 HB0
    obtain ⟨k, hk, rfl, HA, HPt, HKt, HB⟩ := hrel
    by_cases hlt : k < n
    · have hl : k < L.length := by have := HN.out; omega
      rcases HKt.out with h0 | ⟨b, off, rfl, hc⟩
      · rw [h0] at hl; simp at hl
      · obtain ⟨c1, c2⟩ := KeysAt.at hc k hl
        have hik : isKey (kd L k) = true := List.all_eq_true.1 HALL.out _ (kd_mem hl)
        have hir := HIN.out _ (kd_mem hl)
        obtain ⟨hcl, hce⟩ := partL_at L P k hl
        have HNU : Hid _ := partN_upd L P k hl
        have hPL : (partL L P (pn (kd L k) P)).length ≤ L.length := partL_len _ _ _
        generalize kd L k = kk at *
        obtain ⟨t, r⟩ := kk
        simp only at c1 c2 hir
        have HPart : Hid (∀ w, Calls Tryd.prog 18 #[.agg #[.int .i64 t, .int .i64 r], .int .i64 (P : Int)] w fun e w' => e = .returned (.tuple #[.int .i64 (pn (t, r) P : Int), .int .i64 0]) ∧ ∃ q os, w' = grow (w.drewN q) os) := fun w => by
          have h := partition_any w t r P hir
          have hok : okParts (P : Int) = true := (okParts_iff _).2 (by omega)
          have e1 : partV (t, r) P = (pn (t, r) P : Int) := by unfold partV pn; rw [if_pos hik, if_pos hok]; simp
          have e2 : partE (t, r) P = 0 := by unfold partE; rw [if_pos hik, if_pos hok]
          rwa [e1, e2] at h
        have hpP : pn (t, r) P < P := Nat.mod_lt _ (by omega)
        generalize pn (t, r) P = p at *
        generalize hcn : (partL (L.take k) P p).length = c at *
        clear hc hl hik hir
        go_wp2_with fail
        refine Calls.mono (HPart.out wr) ?_
        rintro e w5 ⟨rfl, g5⟩
        have HG5 : Hid (Grew wr w5) := g5
        have HA5 : Hid (w5.heap[A]? = some (.cells (ints (fun p => (partL (L.take k) P p).length) P) 3 (0, 0))) := (HG5.out.heap (Array.getElem?_eq_some_iff.1 HA.out).1).trans HA.out
        have HP5 : Hid (Parts w5 base G P vs (fun p => partL L P p)) := HPt.out.kept HG5.out.below
        have HK5 : Hid (KeysAt w5 (some ⟨b, off, none⟩) L) := HKt.out.grew HG5.out
        have HB5 : Hid (Below w.heap.size w w5) := HB.out.trans (HG5.out.below.mono HB.out.size)
        have k1 := HG5.out.cell c1
        have k2 := HG5.out.cell c2
        have cG := HP5.out.cell p hpP
        have cA : w5.cell? ⟨A, p, none⟩ = some (.int .i64 (c : Int)) := by
          have := outer_at (fun p => .int .i64 ((partL (L.take k) P p).length : Int)) P p hpP
          simp only [hcn] at this
          simp [World.cell?, HA5.out, this]
        have fA : w5.frozen? ⟨A, p, none⟩ = false := frozen_of_row _ _ _ _ _ HA5.out
        rcases (HP5.out.own p hpP).shape with ⟨_, h0⟩ | ⟨g, cp, hvp, _, _, _, _, hkg⟩
        · rw [h0] at hcl; simp at hcl
        · rcases hkg with h0 | ⟨_, _, e, hkc⟩
          · rw [h0] at hcl; simp at hcl
          cases e
          obtain ⟨d1, d2⟩ := KeysAt.at hkc c hcl
          rw [hce] at d1 d2
          simp only [Nat.zero_add] at d1 d2
          rw [hvp] at cG
          generalize (partL L P p).length = m at *
          have hpP' : (p : Int) < (P : Int) := by omega
          have hpP2 : decide ((P : Int) ≤ (p : Int)) = false := by simp; omega
          have hcm3 : decide (m ≤ c) = false := by simp; omega
          have hpP3 : decide (P ≤ p) = false := by simp; omega
          have hcm : (c : Int) < (m : Int) := by omega
          have hcb : c < 8796093022208 := by have := HN.out; omega
          clear hPL
          have hcm2 : decide ((m : Int) ≤ (c : Int)) = false := by simp; omega
          have hne := run_neKey t r t r
          simp only [decide_true, Bool.not_true] at hne
          clear g5 HPart HG5 c1 c2 hkc hvp hce HA HPt HKt HB hcl
          go_wp2_with fail
          go_quiet ((go_at_call 9; exact Calls.quiet_of_same (num_any _ _)))
          have HA6 : Hid ((w5.drewN nq).heap[A]? = some (.cells (ints (fun p => (partL (L.take k) P p).length) P) 3 (0, 0))) := HA5.out
          have HP6 : Hid (Parts (w5.drewN nq) base G P vs (fun p => partL L P p)) := HP5.out.kept ⟨rfl, rfl, rfl, Nat.le_refl _, fun _ _ => rfl⟩
          have HK6 : Hid (KeysAt (w5.drewN nq) (some ⟨b, off, none⟩) L) := HK5.out.kept ⟨rfl, rfl, rfl, Nat.le_refl _, fun _ _ => rfl⟩
          have HD6 : Hid (Below w.heap.size w5 (w5.drewN nq)) := ⟨rfl, rfl, rfl, Nat.le_refl _, fun _ _ => rfl⟩
          have HB6 : Hid (Below w.heap.size w (w5.drewN nq)) := HB5.out.trans HD6.out
          have cA6 : (w5.drewN nq).cell? ⟨A, p, none⟩ = some (.int .i64 (c : Int)) := cA
          have fA6 : (w5.drewN nq).frozen? ⟨A, p, none⟩ = false := fA
          generalize w5.drewN nq = w6 at *
          clear HA5 HP5 HK5 HD6 HB5 cA fA k1 k2 cG d1 d2 hne hcm2 hcm3 hpP2 hpP3
          have hLne : L ≠ [] := by intro h0; have := HN.out; rw [h0] at this; simp at this; omega
          have HE6 : Hid (∀ v : Value, v = .int .i64 ((c : Int) + 1) → (w6.setCell ⟨A, p, none⟩ v).heap[A]? = some (.cells (ints (fun p => (partL (L.take (k + 1)) P p).length) P) 3 (0, 0)) ∧ Parts (w6.setCell ⟨A, p, none⟩ v) base G P vs (fun p => partL L P p) ∧ KeysAt (w6.setCell ⟨A, p, none⟩ v) (some ⟨b, off, none⟩) L ∧ Below w.heap.size w (w6.setCell ⟨A, p, none⟩ v)) := by
            rintro v rfl
            obtain ⟨hA1, hA2, hA3, hA4⟩ := HAB.out
            have hso : ∀ q, q ≠ A → (w6.setCell ⟨A, p, none⟩ (.int .i64 ((c : Int) + 1))).heap[q]? = w6.heap[q]? := fun q hq => heap_setCell_other w6 ⟨A, p, none⟩ q _ hq
            refine ⟨?_, ⟨(hso _ hA2).trans HP6.out.row, fun q hq => (HP6.out.own q hq).same fun g hg => hso g (hA4 q g hq hg), HP6.out.apart, HP6.out.notG⟩, ?_, ?_⟩
            · have := heap_setCell_same w6 A p _ _ (.int .i64 ((c + 1 : Nat) : Int)) HA6.out
              rw [ints_set] at this
              rw [HNU.out]
              simpa using this
            · refine HK6.out.below (B := A) ⟨rfl, rfl, rfl, by simp, fun q hq => hso q (by omega)⟩ hA3
            · exact HB6.out.trans ⟨rfl, rfl, rfl, by simp, fun q hq => hso q (by omega)⟩
          clear HNU HA6 HP6 HK6 HB6 hLne
          go_wp2_with fail
          go_roundw
          case rel =>
            obtain ⟨e1, e2, e3, e4⟩ := HE6.out (.int .i64 ((c : Int) + 1)) rfl
            exact ⟨k + 1, by omega, by go_num, e1, e2, e3, e4⟩
          case measure => simp [intOf]; omega
    · obtain rfl : k = n := by omega
      have HA1 : Hid (wr.heap[A]? = some (.cells (ints (fun p => (partL L P p).length) P) 3 (0, 0))) := by have := HA.out; rwa [HN.out, List.take_length] at this
      have HO : Hid (∀ p, p < P → ∃ a c, wr.cell? ⟨G, p, none⟩ = some (.slice a (partL L P p).length c)) := fun p hp => by
        obtain ⟨a, c, e, _⟩ := (HPt.out.own p hp).slice
        exact ⟨a, c, by rw [HPt.out.cell p hp, e]⟩
      have HC : Hid (∀ p, p < P → wr.cell? ⟨A, p, none⟩ = some (.int .i64 ((partL L P p).length : Int))) := fun p hp => by
        have := outer_at (fun p => .int .i64 ((partL L P p).length : Int)) P p hp
        simp [World.cell?, HA1.out, this]
      clear HA HPt HKt HA1 HAB
      go_wp2_with fail
      go_loopw [12] (fun x w' => ∃ q j : Nat, j ≤ P ∧ x = .int .i64 (j : Int) ∧ w' = wr.drewN q) (fun x _ => P - (intOf x).toNat)
      case atStart => exact ⟨0, 0, Nat.zero_le _, rfl, rfl⟩
      case round =>
        obtain ⟨q, j, hj, rfl, rfl⟩ := hrel
        by_cases hjl : j < P
        · obtain ⟨a, c, hc1⟩ := HO.out j hjl
          have hc2 := HC.out j hjl
          have hd1 : (wr.drewN q).cell? ⟨G, j, none⟩ = some (.slice a (partL L P j).length c) := hc1
          have hd2 : (wr.drewN q).cell? ⟨A, j, none⟩ = some (.int .i64 ((partL L P j).length : Int)) := hc2
          generalize (partL L P j).length = m at *
          have hjl' : (j : Int) < (P : Int) := by omega
          go_wp2_with fail
          go_quiet (fail)
          go_wp2_with fail
          go_roundw
          case rel => exact ⟨q + nq, j + 1, by omega, by go_num, rfl⟩
          case measure => simp [intOf]; omega
        · obtain rfl : j = P := by omega
          go_wp2_with fail
          go_ret
          exact ⟨rfl, HB.out.trans ⟨rfl, rfl, rfl, Nat.le_refl _, fun _ _ => rfl⟩⟩

theorem splitOne_any (w : World) (ao : Option Addr) (cap n : Nat) (p : Int) (L : List K) (hv : DigVars w) (hn : n = L.length) (h : KeysAt w ao L) (hnil : ao = none → cap = 0) (hin : ∀ k ∈ L, In64 k.2) (hm : n * 16 ≤ 140737488351232) :
    Calls Tryd.prog 4 #[.slice ao n cap, .int .i64 p] w fun e w' => e = .returned (.bool true) ∧ Below w.heap.size w w' := by
  by_cases hb : L.all isKey = true ∧ 1 ≤ p ∧ p ≤ 256
  · obtain ⟨h1, h2, h3⟩ := hb
    obtain ⟨P, rfl⟩ := Int.eq_ofNat_of_zero_le (by omega : 0 ≤ p)
    exact splitOne_good w ao cap n P L hv hn h hnil hin hm h1 (by omega) (by omega)
  · exact splitOne_bad w ao cap n p L hv hn h hnil hin hm hb
end Go.Proofs.YtnjgaibcpcpmcacDoor
