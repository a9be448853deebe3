import Derived.Test.YtbmohlkcmhhpgaaGreatJBkDColl
import Derived.BigQuiet
import Derived.Deep.RegionHeld3
import Derived.Test.YtbmohlkcmhhpgaaGreatJBkShortM
/-
  THE DOCUMENT'S newest, kept, Collect.
-/
namespace Go.Proofs.YtbmohlkcmhhpgaaGreat
open Go.RowKit Go.Sort

/-- which of the first n is the newest of a key that is not above b -/
def nwI (all : List V4) (k : K) (b : Int) : Nat → Int
  | 0 => -1
  | i + 1 => match all[i]? with
    | some v => if v.1 = k ∧ v.2.1 ≤ b then (i : Int) else nwI all k b i
    | none => nwI all k b i
theorem nwI_step {all : List V4} {k : K} {b : Int} {i : Nat} (hi : i < all.length) : nwI all k b (i + 1) = if all[i].1 = k ∧ all[i].2.1 ≤ b then (i : Int) else nwI all k b i := by
  simp only [nwI, List.getElem?_eq_getElem hi]
theorem nwI_lt {all : List V4} {k : K} {b : Int} : ∀ n, -1 ≤ nwI all k b n ∧ nwI all k b n < (n : Int)
  | 0 => by simp [nwI]
  | n + 1 => by
    have := nwI_lt (all := all) (k := k) (b := b) n
    simp only [nwI]
    split
    · split <;> omega
    · omega
theorem nwI_iff {all : List V4} {k : K} {b : Int} : ∀ (n i : Nat) (hn : n ≤ all.length) (hi : i < n), nwI all k b n = (i : Int) ↔ (all[i].1 = k ∧ all[i].2.1 ≤ b) ∧ ∀ j (hj : j < n), i < j → ¬ (all[j].1 = k ∧ all[j].2.1 ≤ b)
  | 0, i, _, hi => by omega
  | n + 1, i, hn, hi => by
    rw [nwI_step (by omega)]
    by_cases hc : all[n].1 = k ∧ all[n].2.1 ≤ b
    · rw [if_pos hc]
      constructor
      · intro e
        have e' : n = i := by omega
        subst e'
        exact ⟨hc, fun j hj hlt => by omega⟩
      · rintro ⟨_, h2⟩
        by_cases hni : i = n
        · rw [hni]
        · exact absurd hc (h2 n (by omega) (by omega))
    · rw [if_neg hc]
      by_cases hni : i = n
      · subst hni
        have h1 := (nwI_lt (all := all) (k := k) (b := b) i).2
        constructor
        · intro e; omega
        · rintro ⟨h2, _⟩; exact absurd h2 hc
      · rw [nwI_iff n i (by omega) (by omega)]
        refine ⟨fun ⟨h1, h2⟩ => ⟨h1, fun j hj hlt => ?_⟩, fun ⟨h1, h2⟩ => ⟨h1, fun j hj hlt => h2 j (by omega) hlt⟩⟩
        by_cases hjn : j = n
        · subst hjn; exact hc
        · exact h2 j (by omega) hlt
def keptI (all : List V4) (la : Int) (d : List Int) (i : Nat) : Bool := match all[i]? with
  | some v => decide (nwI all v.1 la all.length = (i : Int)) || d.any (fun p => decide (nwI all v.1 p all.length = (i : Int)))
  | none => false
theorem drop_all {all : List V4} {i : Nat} {P : V4 → Prop} : (∀ j (hj : j < all.length), i < j → P all[j]) ↔ ∀ u ∈ all.drop (i + 1), P u := by
  constructor
  · intro h u hu
    obtain ⟨j, hj, rfl⟩ := List.getElem_of_mem hu
    rw [List.getElem_drop]
    rw [List.length_drop] at hj
    exact h _ (by omega) (by omega)
  · intro h j hj hlt
    refine h _ ?_
    rw [List.mem_iff_getElem]
    refine ⟨j - (i + 1), by rw [List.length_drop]; omega, ?_⟩
    rw [List.getElem_drop]
    congr 1
    omega
theorem keptI_eq {all : List V4} {la : Int} {d : List Int} (hla : ∀ v ∈ all, v.2.1 ≤ la) {i : Nat} (hi : i < all.length) : keptI all la d i = keptB d all[i] (all.drop (i + 1)) := by
  have e1 : ∀ b, nwI all all[i].1 b all.length = (i : Int) ↔ all[i].2.1 ≤ b ∧ ∀ u ∈ all.drop (i + 1), ¬ (u.1 = all[i].1 ∧ u.2.1 ≤ b) := fun b => by
    rw [nwI_iff all.length i (Nat.le_refl _) hi, drop_all (P := fun u => ¬ (u.1 = all[i].1 ∧ u.2.1 ≤ b))]
    simp
  unfold keptI keptB
  rw [List.getElem?_eq_getElem hi]
  simp only
  congr 1
  · rw [Bool.eq_iff_iff, decide_eq_true_iff, e1, List.all_eq_true]
    constructor
    · rintro ⟨_, h⟩ u hu
      have h1 := h u hu
      have h2 := hla u (List.mem_of_mem_drop hu)
      simp only [decide_eq_true_eq]
      exact fun e => h1 ⟨e, h2⟩
    · intro h
      refine ⟨hla _ (List.getElem_mem hi), fun u hu hc => ?_⟩
      have h1 := h u hu
      simp only [decide_eq_true_eq] at h1
      exact h1 hc.1
  · congr 1
    funext p
    rw [Bool.eq_iff_iff, decide_eq_true_iff, e1, Bool.and_eq_true, List.all_eq_true]
    constructor
    · rintro ⟨h1, h⟩
      refine ⟨by simpa using h1, fun u hu => ?_⟩
      have h2 := h u hu
      simp only [decide_eq_true_eq]
      intro e
      have : ¬ u.2.1 ≤ p := fun h3 => h2 ⟨e, h3⟩
      omega
    · rintro ⟨h1, h⟩
      refine ⟨by simpa using h1, fun u hu hc => ?_⟩
      have h2 := h u hu
      simp only [decide_eq_true_eq] at h2
      have := h2 hc.1
      omega
theorem colD_step {d : List Int} {all : List V4} {i : Nat} (hi : i < all.length) : colD d (all.drop i) = if keptB d all[i] (all.drop (i + 1)) = true then all[i] :: colD d (all.drop (i + 1)) else colD d (all.drop (i + 1)) := by
  rw [List.drop_eq_getElem_cons hi]
  rfl
def NwPost (w : World) (x : Int) (e : Ending) (w' : World) : Prop := e = .returned (.int .i64 x) ∧ Below w.heap.size w w'
set_option maxRecDepth 100000 in
set_option maxHeartbeats 2000000 in
theorem rnewest_any (w : World) (base R : Nat) (room last low : Int) (av pv : Value) (all : List V4) (pins : List (Int × Int)) (h : RB w base R room last low av pv all pins) (hl : all.length ≤ 65536) (k : K) (b : Int) :
    Calls Tryz.prog 67 #[ptr R, kv k, .int .i64 b] w fun e w' => NwPost w (nwI all k b all.length) e w' := by
  obtain ⟨k1, k2⟩ := k
  obtain ⟨aa, an, ac, rfl, han⟩ := rowOpenD h.ra
  obtain ⟨W1, hW1⟩ : ∃ W1, W1 = w.alloc (.cells #[.int .i64 k1, .int .i64 k2] 43) := ⟨_, rfl⟩
  obtain ⟨g, hg⟩ : ∃ g, g = w.heap.size := ⟨_, rfl⟩
  have HB1 : Hid (Below w.heap.size w W1) := by rw [hW1]; exact (Below.refl _ _).alloc (Nat.le_refl _) _
  have g0 : W1.cell? ⟨g, 0, none⟩ = some (.int .i64 k1) := by
    have h1 : W1.heap[g]? = some (.cells #[.int .i64 k1, .int .i64 k2] 43 (0, 0)) := by rw [hW1, hg]; exact heap_alloc_new _ _ rfl
    simp [World.cell?, h1]
  have g1 : W1.cell? ⟨g, 1, none⟩ = some (.int .i64 k2) := by
    have h1 : W1.heap[g]? = some (.cells #[.int .i64 k1, .int .i64 k2] 43 (0, 0)) := by rw [hW1, hg]; exact heap_alloc_new _ _ rfl
    simp [World.cell?, h1]
  have h1 := h.kept HB1.out
  have r3 := h1.cells.2.2.2.1
  have HC := hidC (rowCs h1.ra).2.1
  have HN := hidC han
  have han2 : an ≤ 65536 := by omega
  clear h h1 han hl
  simp only [kv]
  go_enter Tryz.func67, Tryz.ntmps67
  go_wp2_with fail
  rw [← hW1, ← hg]
  clear hW1 hg
  go_loopw [7, 8] (fun x y wr => ∃ (i q : Nat) (z : Int), i ≤ an ∧ x = .int .i64 z ∧ y = .int .i64 (i : Int) ∧ wr = W1.drewN q ∧ Hid (z = nwI all (k1, k2) b i)) (fun _ y _ => an - (intOf y).toNat)
  case atStart => exact ⟨0, 0, -1, Nat.zero_le _, rfl, rfl, rfl, rfl⟩
  case round =>
    obtain ⟨i, q, z, hi, rfl, rfl, rfl, HZ⟩ := hrel
    by_cases hlt : i < an
    · have hil : i < all.length := by have := HN.out; omega
      obtain ⟨vb, vo, hva, e0, e1, e2, e3⟩ := HC.out.ver hil
      subst hva
      have HS := hidC (nwI_step (k := (k1, k2)) (b := b) hil)
      generalize all[i] = v at *
      obtain ⟨⟨x1, x2⟩, y1, y2⟩ := v
      simp only at e0 e1 e2 e3 HS
      have hgd := fun op x y => run_eqGuard op x y x1 x2 k1 k2
      have hq := run_eqKey x1 x2 k1 k2
      by_cases hk : (x1, x2) = (k1, k2)
      · rw [decide_eq_true hk] at hq
        by_cases hb : y1 ≤ b
        · have hbb : decide (y1 ≤ b) = true := decide_eq_true hb
          have HX : Hid ((i : Int) = nwI all (k1, k2) b (i + 1)) := by show _ = _; rw [HS.out, if_pos ⟨hk, hb⟩]
          clear HS HZ hk
          go_wp2_with fail
          go_quiet (fail)
          go_wp2
          exact ⟨⟨i + 1, q + nq, (i : Int), by omega, rfl, by go_num, by first | rfl | trivial, HX.out⟩, by simp [intOf]; omega⟩
        · have hbb : decide (y1 ≤ b) = false := decide_eq_false hb
          have HX : Hid (z = nwI all (k1, k2) b (i + 1)) := by show _ = _; rw [HS.out, if_neg (fun h => hb h.2)]; exact HZ.out
          clear HS HZ hk
          go_wp2_with fail
          go_quiet (fail)
          go_wp2
          exact ⟨⟨i + 1, q + nq, z, by omega, rfl, by go_num, by first | rfl | trivial, HX.out⟩, by simp [intOf]; omega⟩
      · rw [decide_eq_false hk] at hq
        have HX : Hid (z = nwI all (k1, k2) b (i + 1)) := by show _ = _; rw [HS.out, if_neg (fun h => hk h.1)]; exact HZ.out
        clear HS HZ hk
        go_wp2_with fail
        go_quiet (fail)
        go_wp2
        exact ⟨⟨i + 1, q + nq, z, by omega, rfl, by go_num, by first | rfl | trivial, HX.out⟩, by simp [intOf]; omega⟩
    · have hie : i = an := by omega
      subst hie
      have HX : Hid (NwPost w (nwI all (k1, k2) b all.length) (.returned (.int .i64 z)) (W1.drewN q)) := by
        refine ⟨?_, HB1.out.trans ((drew_below W1 q).mono HB1.out.size)⟩
        rw [← HN.out, ← HZ.out]
      clear HZ
      go_wp2
      go_ret
      exact HX.out
end Go.Proofs.YtbmohlkcmhhpgaaGreat
/-
  THE DOCUMENT'S kept, Collect.
-/
namespace Go.Proofs.YtbmohlkcmhhpgaaGreat
open Go.RowKit Go.Sort

def KtPost (w : World) (r : Bool) (e : Ending) (w' : World) : Prop := e = .returned (.bool r) ∧ Below w.heap.size w w'
theorem any_take {d : List Int} {f : Int → Bool} {n : Nat} (hn : n < d.length) : (d.take (n + 1)).any f = ((d.take n).any f || f d[n]) := by
  rw [List.take_succ_eq_append_getElem hn, List.any_append]
  simp
set_option maxRecDepth 100000 in
set_option maxHeartbeats 2000000 in
theorem rkept_any (w : World) (base R : Nat) (room last low : Int) (av pv : Value) (all : List V4) (pins : List (Int × Int)) (h : RB w base R room last low av pv all pins) (hl : all.length ≤ 65536) (hp : pins.length ≤ 32) (i : Nat) (hi : i < all.length) :
    Calls Tryz.prog 47 #[ptr R, .int .i64 (i : Int)] w fun e w' => KtPost w (keptI all last (pins.map Prod.fst) i) e w' := by
  obtain ⟨aa, an, ac, hav, han⟩ := rowOpenD h.ra
  subst hav
  obtain ⟨pa, pn, pc, hpv, hpn⟩ := rowOpenD h.rp
  subst hpv
  obtain ⟨vb, vo, hva, e0, e1, e2, e3⟩ := (rowCs h.ra).2.1.ver hi
  clear e2 e3
  subst hva
  obtain ⟨k, hk⟩ : ∃ k, k = all[i].1 := ⟨_, rfl⟩
  rw [← hk] at e0 e1
  have HK : Hid (keptI all last (pins.map Prod.fst) i = (decide (nwI all k last all.length = (i : Int)) || (pins.map Prod.fst).any (fun p => decide (nwI all k p all.length = (i : Int))))) := by
    show _ = _
    unfold keptI
    rw [List.getElem?_eq_getElem hi, hk]
  obtain ⟨k1, k2⟩ := k
  simp only at e0 e1
  obtain ⟨W1, hW1⟩ : ∃ W1, W1 = w.alloc (.cells #[.int .i64 k1, .int .i64 k2] 43) := ⟨_, rfl⟩
  obtain ⟨g, hg⟩ : ∃ g, g = w.heap.size := ⟨_, rfl⟩
  have HB1 : Hid (Below w.heap.size w W1) := by rw [hW1]; exact (Below.refl _ _).alloc (Nat.le_refl _) _
  have hgb : W1.heap[g]? = some (.cells #[.int .i64 k1, .int .i64 k2] 43 (0, 0)) := by rw [hW1, hg]; exact heap_alloc_new _ _ rfl
  have hR1 := h.kept HB1.out
  have HCl : Hid (∀ W, Below W1.heap.size W1 W → W.cell? ⟨g, 0, none⟩ = some (.int .i64 k1) ∧ W.cell? ⟨g, 1, none⟩ = some (.int .i64 k2) ∧ W.cell? ⟨R, 1, none⟩ = some (.int .i64 last) ∧ W.cell? ⟨R, 4, none⟩ = some (.slice pa pn pc)) := fun W hW => by
    have h4 : W.heap[g]? = _ := (hW.block _ (blk_lt hgb)).trans hgb
    have h5 := (hR1.kept hW).cells
    exact ⟨by simp [World.cell?, h4], by simp [World.cell?, h4], h5.2.1, h5.2.2.2.2⟩
  have HPc : Hid (∀ W, Below W1.heap.size W1 W → CsAt W.heap.size W pa (pns pins)) := fun W hW => (rowCs (hR1.kept hW).rp).2.1
  have HNw : Hid (∀ W, Below W1.heap.size W1 W → ∀ b, Calls Tryz.prog 67 #[ptr R, .agg #[.int .i64 k1, .int .i64 k2], .int .i64 b] W fun e w' => e = .returned (.int .i64 (nwI all (k1, k2) b all.length)) ∧ Below W.heap.size W w') := fun W hW b => rnewest_any W base R room last low _ _ all pins (hR1.kept hW) hl (k1, k2) b
  have r3 := h.cells.2.2.2.1
  have HN := hidC (And.intro han hpn)
  have hin : (i : Int) < (an : Int) := by omega
  have hin2 : i < an := by omega
  have hpn2 : pn ≤ 32 := by omega
  clear hk h hR1 hgb han hpn hp hl hi
  go_enter Tryz.func47, Tryz.ntmps47
  go_upto_region 2 with fail
  rw [← hW1, ← hg]
  clear hW1 hg e0 e1 r3
  obtain ⟨g0, g1, c1, _⟩ := HCl.out W1 (Below.refl _ _)
  have HDr : Hid (Below W1.heap.size W1 W1.drew) := drew_below W1 1
  obtain ⟨z, hz⟩ : ∃ z, z = nwI all (k1, k2) last all.length := ⟨_, rfl⟩
  have HN1 := hidC (HNw.out W1.drew HDr.out last)
  rw [← hz] at HN1
  have HZ := hidC hz
  clear hz
  go_region_held3 (fun w' => w'.cell? ⟨g, 0, none⟩ = some (.int .i64 k1) ∧ w'.cell? ⟨g, 1, none⟩ = some (.int .i64 k2) ∧ w'.cell? ⟨R, 1, none⟩ = some (.int .i64 last)) (first | with_reducible exact HC2.out | go_keep) (first
    | (go_at_call 67; with_reducible refine HN1.out.mono ?_; rintro e W2 ⟨rfl, hb2⟩; have HB2 := hidC (HDr.out.trans (hb2.mono HDr.out.size)); obtain ⟨x0, x1, x2, _⟩ := HCl.out W2 HB2.out; have HC2 := hidC (And.intro x0 (And.intro x1 x2)); clear hb2 x0 x1 x2))
  clear g0 g1 c1 HDr HN1 HC2
  generalize hzb : (z == (i : Int)) = zb
  cases zb
  case true =>
    have hzi : z = (i : Int) := by simpa using hzb
    have HX : Hid (KtPost w (keptI all last (pins.map Prod.fst) i) (.returned (.bool true)) W2) := by
      refine ⟨?_, HB1.out.trans (HB2.out.mono HB1.out.size)⟩
      rw [HK.out, ← HZ.out, decide_eq_true hzi, Bool.true_or]
    go_wp2
    go_ret
    exact HX.out
  have hzi : ¬ z = (i : Int) := by simpa using hzb
  have HZf : Hid (decide (nwI all (k1, k2) last all.length = (i : Int)) = false) := by rw [← HZ.out]; exact decide_eq_false hzi
  clear HZ
  clear hzi hzb
  go_wp2_with fail
  go_loopw [6] (fun y wr => ∃ n : Nat, n ≤ pn ∧ y = .int .i64 (n : Int) ∧ Hid (Below W1.heap.size W1 wr ∧ ((pins.map Prod.fst).take n).any (fun p => decide (nwI all (k1, k2) p all.length = (i : Int))) = false)) (fun y _ => pn - (intOf y).toNat)
  case atStart => exact ⟨0, Nat.zero_le _, rfl, HB2.out, rfl⟩
  case round =>
    clear HB2
    obtain ⟨n, hn, rfl, HI⟩ := hrel
    obtain ⟨g0, g1, c1, c4⟩ := HCl.out wr HI.out.1
    by_cases hlt : n < pn
    · have hnl : n < pins.length := by have := HN.out.2; omega
      obtain ⟨pb, po, hpa, f0, _⟩ := (HPc.out wr HI.out.1).pin hnl
      subst hpa
      have HAn := hidC (any_take (d := pins.map Prod.fst) (f := fun p => decide (nwI all (k1, k2) p all.length = (i : Int))) (n := n) (by simpa using hnl))
      have hgd : (pins.map Prod.fst)[n]'(by simpa using hnl) = pins[n].1 := by simp
      rw [hgd] at HAn
      have HPk : Hid (∀ W, Below wr.heap.size wr W → W.cell? ⟨pb, po + n * 2, none⟩ = some (.int .i64 pins[n].1)) := fun W hW => (hW.cell (p := ⟨pb, po + n * 2, none⟩) (cell_lt f0)).trans f0
      generalize pins[n].1 = pb1 at *
      have HDr : Hid (Below W1.heap.size W1 wr.drew) := HI.out.1.trans ((drew_below wr 1).mono HI.out.1.size)
      have HDw : Hid (Below wr.heap.size wr wr.drew) := drew_below wr 1
      obtain ⟨z2, hz2⟩ : ∃ z2, z2 = nwI all (k1, k2) pb1 all.length := ⟨_, rfl⟩
      have HN1 := hidC (HNw.out wr.drew HDr.out pb1)
      rw [← hz2] at HN1
      have HZ2 := hidC hz2
      clear hz2 hgd
      go_upto_region 7 with fail
      go_region_held3 (fun w' => w'.cell? ⟨g, 0, none⟩ = some (.int .i64 k1) ∧ w'.cell? ⟨g, 1, none⟩ = some (.int .i64 k2) ∧ w'.cell? ⟨R, 4, none⟩ = some (.slice (some ⟨pb, po, none⟩) pn pc) ∧ w'.cell? ⟨pb, po + n * 2, none⟩ = some (.int .i64 pb1)) (first | with_reducible exact HC2.out | go_keep) (first
        | (go_at_call 67; with_reducible refine HN1.out.mono ?_; rintro e W3 ⟨rfl, hb3⟩; have HB3 := hidC (HDr.out.trans (hb3.mono HDr.out.size)); have HBw := hidC (HDw.out.trans (hb3.mono HDw.out.size)); obtain ⟨x0, x1, _, x3⟩ := HCl.out W3 HB3.out; have HC2 := hidC (And.intro x0 (And.intro x1 (And.intro x3 (HPk.out W3 HBw.out)))); clear hb3 x0 x1 x3))
      clear g0 g1 c1 c4 f0 HDr HDw HN1 HC2 HBw HPk
      by_cases hzi2 : z2 = (i : Int)
      · have hzb2 : (z2 == (i : Int)) = true := by simpa using hzi2
        have HX : Hid (KtPost w (keptI all last (pins.map Prod.fst) i) (.returned (.bool true)) W3) := by
          refine ⟨?_, HB1.out.trans (HB3.out.mono HB1.out.size)⟩
          rw [HK.out]
          have h1 : (pins.map Prod.fst).any (fun p => decide (nwI all (k1, k2) p all.length = (i : Int))) = true := by
            have h2 := HAn.out
            rw [← HZ2.out, decide_eq_true hzi2, Bool.or_true] at h2
            rw [List.any_eq_true] at h2 ⊢
            obtain ⟨p, hp, h3⟩ := h2
            exact ⟨p, List.mem_of_mem_take hp, h3⟩
          rw [h1, Bool.or_true]
        go_wp2
        go_ret
        exact HX.out
      · have hzb2 : (z2 == (i : Int)) = false := by simpa using hzi2
        have HX : Hid (Below W1.heap.size W1 W3 ∧ ((pins.map Prod.fst).take (n + 1)).any (fun p => decide (nwI all (k1, k2) p all.length = (i : Int))) = false) := by
          refine ⟨HB3.out, ?_⟩
          rw [HAn.out, HI.out.2, ← HZ2.out, decide_eq_false hzi2]
          rfl
        clear HI HAn HZ2 hzi2
        go_wp2
        exact ⟨⟨n + 1, by omega, by go_num, HX.out⟩, by simp [intOf]; omega⟩
    · have HX : Hid (KtPost w (keptI all last (pins.map Prod.fst) i) (.returned (.bool false)) wr) := by
        refine ⟨?_, HB1.out.trans (HI.out.1.mono HB1.out.size)⟩
        have h2 := HI.out.2
        rw [List.take_of_length_le (by simp; have := HN.out.2; omega)] at h2
        rw [HK.out, HZf.out, h2]
        rfl
      clear HI
      go_wp2
      go_ret
      exact HX.out
def RColPost (w : World) (base R : Nat) (room : Int) (av pv : Value) (s : Bs) (d : List Int) (e : Ending) (w' : World) : Prop :=
  e = .returned (.int .i64 ((s.all.length : Int) - ((colD d s.all).length : Int))) ∧ RPost w base R room av pv ⟨s.la, s.la, s.pins, colD d s.all⟩ w'
set_option maxRecDepth 100000 in
set_option maxHeartbeats 2000000 in
theorem rcollect_any (w : World) (base R : Nat) (room : Int) (av pv : Value) (s : Bs) (h : RB w base R room s.la s.fl av pv s.all s.pins) (hl : s.all.length ≤ 65536) (hp : s.pins.length ≤ 32) (hla : ∀ v ∈ s.all, v.2.1 ≤ s.la) (hbs : base ≤ w.heap.size) :
    Calls Tryz.prog 25 #[ptr R] w fun e w' => RColPost w base R room av pv s (s.pins.map Prod.fst) e w' := by
  obtain ⟨aa, an, ac, hav, han⟩ := rowOpenD h.ra
  have HAv := hidC hav
  obtain ⟨d, hd⟩ : ∃ d, d = s.pins.map Prod.fst := ⟨_, rfl⟩
  have HKt : Hid (∀ W, Below w.heap.size w W → ∀ i, (hi : i < s.all.length) → Calls Tryz.prog 47 #[ptr R, .int .i64 (i : Int)] W fun e w' => e = .returned (.bool (keptB d s.all[i] (s.all.drop (i + 1)))) ∧ Below W.heap.size W w') := fun W hW i hi => by
    rw [← keptI_eq hla hi, hd]
    exact rkept_any W base R room s.la s.fl av pv s.all s.pins (h.kept hW) hl hp i hi
  have HCl : Hid (∀ W, Below w.heap.size w W → W.cell? ⟨R, 3, none⟩ = some (.slice aa an ac) ∧ W.cell? ⟨R, 1, none⟩ = some (.int .i64 s.la) ∧ W.cell? ⟨R, 2, none⟩ = some (.int .i64 s.fl) ∧ W.frozen? ⟨R, 3, none⟩ = false ∧ W.frozen? ⟨R, 2, none⟩ = false) := fun W hW => by
    have h5 := h.kept hW
    have h6 := h5.cells
    rw [hav] at h6
    exact ⟨h6.2.2.2.1, h6.2.1, h6.2.2.1, h5.frozen 3, h5.frozen 2⟩
  have HVc : Hid (∀ W, Below w.heap.size w W → CsAt W.heap.size W aa (v4s s.all)) := fun W hW => by
    have h5 := (h.kept hW).ra
    rw [hav] at h5
    exact (rowCs h5).2.1
  have HR := hidC h
  have HN := hidC (And.intro han (And.intro hl hbs))
  have han2 : an ≤ 65536 := by omega
  rw [← hd]
  clear h han hav hla hbs hp hl hd
  go_enter Tryz.func25, Tryz.ntmps25
  go_wp2_with fail
  go_loopw [3, 4, 5] (fun x y _ wr => ∃ (i m : Nat) (a : Option Addr) (c : Nat), i ≤ an ∧ m ≤ i ∧ x = .slice a m c ∧ y = .int .i64 (i : Int) ∧ Hid (∃ X, m = X.length ∧ wr.ownsRow w.heap.size 101 4 (.slice a m c) X.length (v4s X) ∧ X ++ colD d (s.all.drop i) = colD d s.all ∧ Below w.heap.size w wr)) (fun _ y _ _ => an - (intOf y).toNat)
  case atStart => exact ⟨0, 0, none, 0, Nat.zero_le _, Nat.zero_le _, rfl, rfl, [], rfl, World.ownsRow_nil _ _ _ _, rfl, Below.refl _ _⟩
  case round =>
    obtain ⟨i, m, a, c, hi, hmi, rfl, rfl, HI⟩ := hrel
    obtain ⟨X, hX⟩ := HI.out
    have HX := hidC hX
    clear HI hX
    obtain ⟨c3, c1, c2, f3, f2⟩ := HCl.out wr HX.out.2.2.2
    by_cases hlt : i < an
    · have hil : i < s.all.length := by have := HN.out.1; omega
      have HK1 := hidC (HKt.out wr HX.out.2.2.2 i hil)
      have HSt := hidC (colD_step (d := d) hil)
      have HVi : Hid (∀ W, Below w.heap.size w W → ∃ b off, aa = some ⟨b, off, none⟩ ∧ W.cell? ⟨b, off + i * 4, none⟩ = some (.int .i64 s.all[i].1.1) ∧ W.cell? ⟨b, off + i * 4 + 1, none⟩ = some (.int .i64 s.all[i].1.2) ∧ W.cell? ⟨b, off + i * 4 + 2, none⟩ = some (.int .i64 s.all[i].2.1) ∧ W.cell? ⟨b, off + i * 4 + 3, none⟩ = some (.int .i64 s.all[i].2.2)) := fun W hW => (HVc.out W hW).ver hil
      obtain ⟨kb, hkb⟩ : ∃ kb, kb = keptB d s.all[i] (s.all.drop (i + 1)) := ⟨_, rfl⟩
      rw [← hkb] at HK1 HSt
      generalize s.all[i] = v at *
      clear hkb
      go_wp2_with fail
      refine HK1.out.mono ?_
      rintro e W2 ⟨rfl, hb2⟩
      have HB2 : Hid (Below w.heap.size w W2) := HX.out.2.2.2.trans (hb2.mono HX.out.2.2.2.size)
      have HO2 : Hid (W2.ownsRow w.heap.size 101 4 (.slice a m c) X.length (v4s X)) := rowSame HX.out.2.1 (fun g hg => hb2.block g (World.ownsRow.lt HX.out.2.1 g hg).2)
      clear hb2 HK1 c3 c1 c2 f3 f2
      cases kb with
      | false =>
        have HZ : Hid (∃ X, m = X.length ∧ W2.ownsRow w.heap.size 101 4 (.slice a m c) X.length (v4s X) ∧ X ++ colD d (s.all.drop (i + 1)) = colD d s.all ∧ Below w.heap.size w W2) := by
          refine ⟨X, HX.out.1, HO2.out, ?_, HB2.out⟩
          have h1 := HX.out.2.2.1
          rw [HSt.out] at h1
          exact h1
        clear HX HSt HVi HO2
        go_wp2
        exact ⟨⟨i + 1, m, a, c, by omega, by omega, rfl, by go_num, HZ.out⟩, by simp [intOf]; omega⟩
      | true =>
        obtain ⟨vb, vo, hva, e0, e1, e2, e3⟩ := HVi.out W2 HB2.out
        subst hva
        obtain ⟨c3, c1, c2, f3, f2⟩ := HCl.out W2 HB2.out
        have HApp : Hid (∀ ty, ∃ v' w', (Builtin.append_ #[72, 72] ty #[.slice a m c, .slice (some ⟨W2.heap.size, 0, none⟩) 1 1]).run Tryz.prog (W2.alloc (.cells #[.int .i64 v.1.1, .int .i64 v.1.2, .int .i64 v.2.1, .int .i64 v.2.2] 101)) = .ok v' w' ∧ (∃ a c, v' = .slice a (m + 1) c ∧ Hid (∃ X, m + 1 = X.length ∧ w'.ownsRow w.heap.size 101 4 (.slice a (m + 1) c) X.length (v4s X) ∧ X ++ colD d (s.all.drop (i + 1)) = colD d s.all ∧ Below w.heap.size w w'))) := fun ty => by
          obtain ⟨v', w', z1, z2, z3, z4, z5⟩ := akVer.app1 W2 ty w.heap.size (.slice a m c) X.length (v4s X) [.int .i64 v.1.1, .int .i64 v.1.2, .int .i64 v.2.1, .int .i64 v.2.2] HO2.out rfl (by intro u hu; simp at hu; rcases hu with rfl | rfl | rfl | rfl <;> rfl) (by have := HX.out.1; omega) (by omega) HB2.out.size
          obtain ⟨a', m', c', rfl, hm'⟩ := rowOpenD z3
          have hm2 : m' = m + 1 := by rw [hm', HX.out.1]
          subst hm2
          refine ⟨_, w', z1, a', c', rfl, X ++ [v], by rw [List.length_append, ← HX.out.1]; rfl, ?_, ?_, ?_⟩
          · rw [v4s_append, List.length_append]
            exact z3
          · have h1 := HX.out.2.2.1
            rw [HSt.out, if_pos rfl] at h1
            rw [List.append_assoc]
            exact h1
          · exact HB2.out.trans (appBelow z4 HO2.out (Nat.le_refl _) HB2.out.size)
        obtain ⟨⟨v1, v2⟩, v3, v4⟩ := v
        simp only at e0 e1 e2 e3 HApp
        clear HX HSt HVi HO2
        go_wp2_with (at_builtin; refine wpL_appI rfl _ _ 72 rfl (.slice a m c) (.slice (some ⟨W2.heap.size, 0, none⟩) 1 1) rfl rfl HApp.out ?_; rintro v' w3 ⟨a3, c3', rfl, HZ⟩)
        clear HApp e0 e1 e2 e3 c3 c1 c2 f3 f2
        go_wp2
        exact ⟨⟨i + 1, m + 1, a3, c3', by omega, by omega, by first | rfl | simp, by go_num, HZ.out⟩, by simp [intOf]; omega⟩
    · have hie : i = an := by omega
      subst hie
      have hXe : X = colD d s.all := by
        have h1 := HX.out.2.2.1
        rw [List.drop_of_length_le (by have := HN.out.1; omega)] at h1
        simpa [colD] using h1
      have HF : Hid (RColPost w base R room av pv s d (.returned (.int .i64 ((i : Int) - (m : Int)))) ((wr.setCell ⟨R, 3, none⟩ (.slice a m c)).setCell ⟨R, 2, none⟩ (.int .i64 s.la))) := by
        have hRw := HR.out.kept HX.out.2.2.2
        have ho := rowBaseD HX.out.2.1 HN.out.2.2
        have h1 := (hRw.setAll ho).setLow s.la
        refine ⟨by rw [HN.out.1, HX.out.1, hXe], .slice a m c, pv, by rw [← hXe]; exact h1, ?_, fun k hk => ?_⟩
        · exact ((Fr.ofBelow HX.out.2.2.2).set ⟨R, 3, none⟩ _ (.inr (.inl rfl))).set ⟨R, 2, none⟩ _ (.inr (.inl rfl))
        · rcases hk with rfl | hk | hk
          · exact .inl (.inl rfl)
          · exact .inr (World.ownsRow.lt HX.out.2.1 k hk).1
          · exact .inl (.inr (.inr hk))
      have d1 : (wr.setCell ⟨R, 3, none⟩ (.slice a m c)).cell? ⟨R, 1, none⟩ = some (.int .i64 s.la) := by
        have h1 := ((HR.out.kept HX.out.2.2.2).setAll (rowBaseD HX.out.2.1 HN.out.2.2)).cells
        exact h1.2.1
      have d2 : (wr.setCell ⟨R, 3, none⟩ (.slice a m c)).cell? ⟨R, 2, none⟩ = some (.int .i64 s.fl) := by
        have h1 := ((HR.out.kept HX.out.2.2.2).setAll (rowBaseD HX.out.2.1 HN.out.2.2)).cells
        exact h1.2.2.1
      have d3 : (wr.setCell ⟨R, 3, none⟩ (.slice a m c)).frozen? ⟨R, 2, none⟩ = false := ((HR.out.kept HX.out.2.2.2).setAll (rowBaseD HX.out.2.1 HN.out.2.2)).frozen 2
      have hwp : IntKind.i64.wrap ((i : Int) - (m : Int)) = (i : Int) - (m : Int) := by rw [IntKind.wrap_i64]; omega
      clear HX
      go_wp2
      go_ret
      exact HF.out
end Go.Proofs.YtbmohlkcmhhpgaaGreat
/-
  THE DOCUMENT'S pin, Pin, Unpin.
-/
namespace Go.Proofs.YtbmohlkcmhhpgaaGreat
open Go.RowKit Go.Sort

def PixPost (w : World) (pins : List (Int × Int)) (n : Int) (e : Ending) (w' : World) : Prop :=
  w' = w ∧ ((∃ i, ∃ hi : i < pins.length, e = .returned (.int .i64 (i : Int)) ∧ pins[i].1 = n) ∨ (e = .returned (.int .i64 (-1)) ∧ ∀ j (hj : j < pins.length), pins[j].1 ≠ n))
set_option maxRecDepth 100000 in
set_option maxHeartbeats 2000000 in
theorem rpin_any (w : World) (base R : Nat) (room last low : Int) (av pv : Value) (all : List V4) (pins : List (Int × Int)) (h : RB w base R room last low av pv all pins) (hp : pins.length ≤ 32) (n : Int) :
    Calls Tryz.prog 44 #[ptr R, .int .i64 n] w fun e w' => PixPost w pins n e w' := by
  obtain ⟨pa, pn, pc, hpv, hpn⟩ := rowOpenD h.rp
  subst hpv
  have c4 := h.cells.2.2.2.2
  have HC := hidC (rowCs h.rp).2.1
  have HN := hidC hpn
  have hpn2 : pn ≤ 32 := by omega
  clear h hpn hp
  go_enter Tryz.func44, Tryz.ntmps44
  go_wp2_with fail
  go_loopw [5] (fun y wr => ∃ i : Nat, i ≤ pn ∧ y = .int .i64 (i : Int) ∧ wr = w ∧ Hid (∀ j (hj : j < pins.length), j < i → pins[j].1 ≠ n)) (fun y _ => pn - (intOf y).toNat)
  case atStart => exact ⟨0, Nat.zero_le _, rfl, rfl, fun j _ h => by omega⟩
  case round =>
    obtain ⟨i, hi, rfl, hw, HI⟩ := hrel
    subst hw
    by_cases hlt : i < pn
    · have hil : i < pins.length := by have := HN.out; omega
      obtain ⟨b, off, hpa, e0, e1⟩ := HC.out.pin hil
      subst hpa
      by_cases he : pins[i].1 = n
      · have heb : (pins[i].1 == n) = true := by simpa using he
        have HX : Hid (PixPost wr pins n (.returned (.int .i64 (i : Int))) wr) := ⟨rfl, .inl ⟨i, hil, rfl, he⟩⟩
        generalize pins[i].1 = x at *
        generalize pins[i].2 = y at *
        go_wp2
        go_ret
        exact HX.out
      · have heb : (pins[i].1 == n) = false := by simpa using he
        have HX : Hid (∀ j (hj : j < pins.length), j < i + 1 → pins[j].1 ≠ n) := fun j hj h => by
          by_cases hji : j = i
          · subst hji; exact he
          · exact HI.out j hj (by omega)
        generalize pins[i].1 = x at *
        generalize pins[i].2 = y at *
        clear HI
        go_wp2
        exact ⟨⟨i + 1, by omega, by go_num, by first | rfl | trivial, HX.out⟩, by simp [intOf]; omega⟩
    · have HX : Hid (PixPost wr pins n (.returned (.int .i64 (-1))) wr) := ⟨rfl, .inr ⟨rfl, fun j hj => HI.out j hj (by have := HN.out; omega)⟩⟩
      clear HI
      go_wp2
      go_ret
      exact HX.out
def RPinPost (w : World) (base R : Nat) (room : Int) (av pv : Value) (s : Bs) (n : Int) (e : Ending) (w' : World) : Prop :=
  (pinE s.la s.fl s.pins n ≠ 0 ∧ e = .returned (.int .i64 (pinE s.la s.fl s.pins n)) ∧ Below w.heap.size w w') ∨
  (pinE s.la s.fl s.pins n = 0 ∧ e = .returned (.int .i64 0) ∧ ∃ pins', PinD s.pins pins' n ∧ RPost w base R room av pv ⟨s.la, s.fl, pins', s.all⟩ w')
theorem RPinPost.no {w : World} {base R : Nat} {room : Int} {av pv : Value} {s : Bs} {n E : Int} (h : pinE s.la s.fl s.pins n = E) (hE : E ≠ 0) : RPinPost w base R room av pv s n (.returned (.int .i64 E)) w := by
  subst h
  exact .inl ⟨hE, rfl, Below.refl _ _⟩
set_option maxRecDepth 100000 in
set_option maxHeartbeats 4000000 in
theorem rPin_any (w : World) (base R : Nat) (room : Int) (av pv : Value) (s : Bs) (h : RB w base R room s.la s.fl av pv s.all s.pins) (hp : s.pins.length ≤ 32) (hr : (s.pins.map Prod.fst).Pairwise (· < ·)) (hc : ∀ p ∈ s.pins, 1 ≤ p.2 ∧ p.2 ≤ 1099511627776) (hbs : base ≤ w.heap.size) (n : Int) :
    Calls Tryz.prog 21 #[ptr R, .int .i64 n] w fun e w' => RPinPost w base R room av pv s n e w' := by
  obtain ⟨pa, pn, pc, hpv, hpn⟩ := rowOpenD h.rp
  have HPv := hidC hpv
  have HRp := hidC (rpin_any w base R room s.la s.fl av pv s.all s.pins h hp n)
  have HR := hidC h
  have HN := hidC (And.intro hpn (And.intro hr hbs))
  obtain ⟨_, c1, c2, _, c4⟩ := h.cells
  rw [hpv] at c4
  have hpn2 : pn ≤ 32 := by omega
  have HCt := hidC hc
  obtain ⟨la, hla⟩ : ∃ la, la = s.la := ⟨_, rfl⟩
  obtain ⟨fl, hfl⟩ : ∃ fl, fl = s.fl := ⟨_, rfl⟩
  rw [← hla] at c1
  rw [← hfl] at c2
  have HLF := hidC (And.intro hla hfl)
  clear h hpn hr hbs hpv hc hla hfl hp
  go_enter Tryz.func21, Tryz.ntmps21
  go_wp2_with fail
  refine HRp.out.mono ?_
  rintro e w1 ⟨hw, ⟨i, hi, rfl, hin⟩ | ⟨rfl, hno⟩⟩
  all_goals (
    have hw' := hw.symm
    subst hw'
    clear hw HRp)
  · -- it is pinned
    have HF : Hid (fpn s.pins n = some s.pins[i].2) := by show _ = _; rw [← hin]; exact fpn_ix HN.out.2.1 hi
    have hct := HCt.out _ (List.getElem_mem hi)
    obtain ⟨g, pc', hpv', hrb, hfz, e0, e1, hsr⟩ := HR.out.count hi (s.pins[i].2 + 1)
    have hpe : (Value.slice pa pn pc) = .slice (some ⟨g, 0, none⟩) s.pins.length pc' := by rw [← HPv.out]; exact hpv'
    simp only [Value.slice.injEq] at hpe
    obtain ⟨hpa, hpl, _⟩ := hpe
    subst hpa
    have hipn : i < pn := by omega
    have hii : (i : Int) < (pn : Int) := by omega
    have hi0 : (0 : Int) ≤ (i : Int) := by omega
    have hi1 : ¬ (i : Int) < 0 := by omega
    have HX : Hid (s.pins[i].2 ≠ 1099511627776 → ¬ (n < 0 ∨ la < n) → RPinPost w base R room av pv s n (.returned (.int .i64 0)) (w.setCell ⟨g, i * 2 + 1, none⟩ (.int .i64 (s.pins[i].2 + 1)))) := fun h1 h2 => by
      rw [HLF.out.1] at h2
      refine .inr ⟨?_, rfl, _, pinD_set HN.out.2.1 hi hin, av, pv, hrb, ?_, fun k hk => .inl hk⟩
      · unfold pinE
        rw [if_neg h2, HF.out]
        simp only
        rw [if_neg h1]
      · exact (Fr.refl _ _).set _ _ (.inr hsr)
    have HE : Hid (pinE s.la s.fl s.pins n = if n < 0 ∨ la < n then 80 else if s.pins[i].2 = 1099511627776 then 104 else 0) := by
      show _ = _
      unfold pinE
      rw [HF.out, HLF.out.1]
    clear hrb hpv' hsr HF hpl
    generalize s.pins[i].2 = x at *
    generalize s.pins[i].1 = y at *
    clear hin
    by_cases hn0 : n < 0
    · have hn0b : decide (n < 0) = true := decide_eq_true hn0
      have HZ : Hid (RPinPost w base R room av pv s n (.returned (.int .i64 80)) w) := RPinPost.no (by rw [HE.out, if_pos (.inl hn0)]) (by omega)
      go_wp2
      go_ret
      exact HZ.out
    have hn0b : decide (n < 0) = false := decide_eq_false hn0
    by_cases hn1 : la < n
    · have hn1b : decide (la < n) = true := decide_eq_true hn1
      have HZ : Hid (RPinPost w base R room av pv s n (.returned (.int .i64 80)) w) := RPinPost.no (by rw [HE.out, if_pos (.inr hn1)]) (by omega)
      go_wp2
      go_ret
      exact HZ.out
    have hn1b : decide (la < n) = false := decide_eq_false hn1
    have hn2 : ¬ (n < 0 ∨ la < n) := by omega
    by_cases hx : x = 1099511627776
    · have hxb : (x == 1099511627776) = true := by simpa using hx
      have HZ : Hid (RPinPost w base R room av pv s n (.returned (.int .i64 104)) w) := RPinPost.no (by rw [HE.out, if_neg hn2, if_pos hx]) (by omega)
      clear HX hx
      by_cases hf : n < fl
      · have hfb : decide (n < fl) = true := decide_eq_true hf
        go_wp2
        go_ret
        exact HZ.out
      · have hfb : decide (n < fl) = false := decide_eq_false hf
        go_wp2
        go_ret
        exact HZ.out
    · have hxb : (x == 1099511627776) = false := by simpa using hx
      have HZ := hidC (HX.out hx hn2)
      have hwp : IntKind.i64.wrap (x + 1) = x + 1 := by rw [IntKind.wrap_i64]; omega
      clear HX hx
      by_cases hf : n < fl
      · have hfb : decide (n < fl) = true := decide_eq_true hf
        go_wp2
        go_ret
        exact HZ.out
      · have hfb : decide (n < fl) = false := decide_eq_false hf
        go_wp2
        go_ret
        exact HZ.out
  · -- it is not
    have hF : fpn s.pins n = none := fpn_no hno
    have HF := hidC hF
    have HE : Hid (pinE s.la s.fl s.pins n = if n < 0 ∨ la < n then 80 else if n < fl then 103 else if pn = 32 then 104 else 0) := by
      show _ = _
      unfold pinE
      rw [hF, HLF.out.1, HLF.out.2, HN.out.1]
    clear hF hno
    by_cases hn0 : n < 0
    · have hn0b : decide (n < 0) = true := decide_eq_true hn0
      have HZ : Hid (RPinPost w base R room av pv s n (.returned (.int .i64 80)) w) := RPinPost.no (by rw [HE.out, if_pos (.inl hn0)]) (by omega)
      go_wp2
      go_ret
      exact HZ.out
    have hn0b : decide (n < 0) = false := decide_eq_false hn0
    by_cases hn1 : la < n
    · have hn1b : decide (la < n) = true := decide_eq_true hn1
      have HZ : Hid (RPinPost w base R room av pv s n (.returned (.int .i64 80)) w) := RPinPost.no (by rw [HE.out, if_pos (.inr hn1)]) (by omega)
      go_wp2
      go_ret
      exact HZ.out
    have hn1b : decide (la < n) = false := decide_eq_false hn1
    have hn2 : ¬ (n < 0 ∨ la < n) := by omega
    by_cases hf : n < fl
    · have hfb : decide (n < fl) = true := decide_eq_true hf
      have HZ : Hid (RPinPost w base R room av pv s n (.returned (.int .i64 103)) w) := RPinPost.no (by rw [HE.out, if_neg hn2, if_pos hf]) (by omega)
      go_wp2
      go_ret
      exact HZ.out
    have hfb : decide (n < fl) = false := decide_eq_false hf
    by_cases h32 : pn = 32
    · have h32b : ((pn : Int) == 32) = true := by simp; omega
      have HZ : Hid (RPinPost w base R room av pv s n (.returned (.int .i64 104)) w) := RPinPost.no (by rw [HE.out, if_neg hn2, if_neg hf, if_pos h32]) (by omega)
      clear h32
      go_wp2
      go_ret
      exact HZ.out
    have h32b : ((pn : Int) == 32) = false := by simp; omega
    have HE0 : Hid (pinE s.la s.fl s.pins n = 0) := by show _ = _; rw [HE.out, if_neg hn2, if_neg hf, if_neg h32]
    have HCl : Hid (∀ W, Below w.heap.size w W → W.cell? ⟨R, 4, none⟩ = some (.slice pa pn pc) ∧ CsAt W.heap.size W pa (pns s.pins) ∧ W.frozen? ⟨R, 4, none⟩ = false) := fun W hW => by
      have h5 := HR.out.kept hW
      have h6 := h5.cells.2.2.2.2
      have h7 := h5.rp
      rw [HPv.out] at h6 h7
      exact ⟨h6, (rowCs h7).2.1, h5.frozen 4⟩
    have HApp : Hid (∀ (W : World) (a : Option Addr) (m c : Nat) (X : List (Int × Int)) (p : Int × Int), m = X.length → m ≤ 100 → W.ownsRow w.heap.size 92 2 (.slice a m c) X.length (pns X) → Below w.heap.size w W → ∀ ty, ∃ v' w', (Builtin.append_ #[22, 22] ty #[.slice a m c, .slice (some ⟨W.heap.size, 0, none⟩) 1 1]).run Tryz.prog (W.alloc (.cells #[.int .i64 p.1, .int .i64 p.2] 92)) = .ok v' w' ∧ (∃ a c, v' = .slice a (m + 1) c ∧ Hid (w'.ownsRow w.heap.size 92 2 (.slice a (m + 1) c) (X ++ [p]).length (pns (X ++ [p])) ∧ Below w.heap.size w w'))) := fun W a m c X p hm hm2 hO hB ty => by
      obtain ⟨v', w', z1, z2, z3, z4, z5⟩ := akPin.app1 W ty w.heap.size (.slice a m c) X.length (pns X) [.int .i64 p.1, .int .i64 p.2] hO rfl (by intro u hu; simp at hu; rcases hu with rfl | rfl <;> rfl) (by omega) (by omega) hB.size
      obtain ⟨a', m', c', rfl, hm'⟩ := rowOpenD z3
      have hm3 : m' = m + 1 := by rw [hm', hm]
      subst hm3
      refine ⟨_, w', z1, a', c', rfl, ?_, hB.trans (appBelow z4 hO (Nat.le_refl _) hB.size)⟩
      rw [pns_append, List.length_append]
      exact z3
    have HFin : Hid (∀ (W : World) (a : Option Addr) (m c : Nat), W.ownsRow w.heap.size 92 2 (.slice a m c) (insP n s.pins).length (pns (insP n s.pins)) → Below w.heap.size w W → RPinPost w base R room av pv s n (.returned (.int .i64 0)) (W.setCell ⟨R, 4, none⟩ (.slice a m c))) := fun W a m c hO hB => by
      have hRw := HR.out.kept hB
      have h1 := hRw.setPins (rowBaseD hO HN.out.2.2)
      refine .inr ⟨HE0.out, rfl, insP n s.pins, pinD_ins HN.out.2.1 HF.out, av, _, h1, ?_, fun k hk => ?_⟩
      · exact (Fr.ofBelow hB).set ⟨R, 4, none⟩ _ (.inr (.inl rfl))
      · rcases hk with rfl | hk | hk
        · exact .inl (.inl rfl)
        · exact .inl (.inr (.inl hk))
        · exact .inr (World.ownsRow.lt hO k hk).1
    have hn3 : ((-1 : Int) < 0) := by omega
    clear HE HE0 h32 HF
    go_wp2_with fail
    clear c4 c1 c2
    go_loopw [6, 7, 8] (fun x y z wr => ∃ (k m : Nat) (a : Option Addr) (c : Nat) (pb : Bool), k ≤ pn ∧ m ≤ 2 * k + 1 ∧ x = .slice a m c ∧ y = .bool pb ∧ z = .int .i64 (k : Int) ∧ Hid (∃ X, m = X.length ∧ wr.ownsRow w.heap.size 92 2 (.slice a m c) X.length (pns X) ∧ Below w.heap.size w wr ∧ (pb = false → X ++ insP n (s.pins.drop k) = insP n s.pins) ∧ (pb = true → X ++ s.pins.drop k = insP n s.pins))) (fun _ _ z _ => pn - (intOf z).toNat)
    case atStart => exact ⟨0, 0, none, 0, false, Nat.zero_le _, by omega, rfl, rfl, rfl, [], rfl, World.ownsRow_nil _ _ _ _, Below.refl _ _, fun _ => rfl, fun h => by cases h⟩
    case round =>
      obtain ⟨k, m, a, c, pb, hk, hmk, rfl, rfl, rfl, HI⟩ := hrel
      obtain ⟨X, hX⟩ := HI.out
      have HX := hidC hX
      clear HI hX
      obtain ⟨c4, hcs, f4⟩ := HCl.out wr HX.out.2.2.1
      by_cases hlt : k < pn
      · have hkl : k < s.pins.length := by have := HN.out.1; omega
        obtain ⟨b, off, hpa, e0, e1⟩ := hcs.pin hkl
        subst hpa
        have HDk : Hid (s.pins.drop k = s.pins[k] :: s.pins.drop (k + 1)) := List.drop_eq_getElem_cons hkl
        have HPk : Hid (∀ W, Below w.heap.size w W → W.cell? ⟨b, off + k * 2, none⟩ = some (.int .i64 s.pins[k].1) ∧ W.cell? ⟨b, off + k * 2 + 1, none⟩ = some (.int .i64 s.pins[k].2) ∧ W.cell? ⟨R, 4, none⟩ = some (.slice (some ⟨b, off, none⟩) pn pc)) := fun W hW => by
          obtain ⟨x4, xcs, _⟩ := HCl.out W hW
          obtain ⟨b', off', e', y0, y1⟩ := xcs.pin hkl
          cases e'
          exact ⟨y0, y1, x4⟩
        generalize s.pins[k] = p at *
        obtain ⟨p1, p2⟩ := p
        simp only at e0 e1 HPk
        clear hcs f4
        cases pb with
        | true =>
          have HA := hidC (HApp.out wr a m c X (p1, p2) HX.out.1 (by omega) HX.out.2.1 HX.out.2.2.1)
          have HNx : Hid (∀ W a c, W.ownsRow w.heap.size 92 2 (.slice a (m + 1) c) (X ++ [(p1, p2)]).length (pns (X ++ [(p1, p2)])) → Below w.heap.size w W → ∃ X, m + 1 = X.length ∧ W.ownsRow w.heap.size 92 2 (.slice a (m + 1) c) X.length (pns X) ∧ Below w.heap.size w W ∧ (true = false → X ++ insP n (s.pins.drop (k + 1)) = insP n s.pins) ∧ (true = true → X ++ s.pins.drop (k + 1) = insP n s.pins)) := fun W a c h1 h2 => by
            refine ⟨_, by rw [List.length_append, ← HX.out.1]; rfl, h1, h2, (fun h => by cases h), fun _ => ?_⟩
            have h3 := HX.out.2.2.2.2 rfl
            rw [HDk.out] at h3
            rw [List.append_assoc]
            exact h3
          simp only at HA
          clear HX HDk HPk
          go_wp2_with (at_builtin; refine wpL_appI rfl _ _ 22 rfl (.slice a m c) (.slice (some ⟨wr.heap.size, 0, none⟩) 1 1) rfl rfl HA.out ?_; rintro v' w3 ⟨a3, c3, rfl, HO3⟩)
          have HZ := hidC (HNx.out w3 a3 c3 HO3.out.1 HO3.out.2)
          clear HA HNx HO3 e0 e1 c4
          go_wp2
          exact ⟨⟨k + 1, m + 1, a3, c3, true, by omega, by omega, by first | rfl | simp, rfl, by go_num, HZ.out⟩, by simp [intOf]; omega⟩
        | false =>
          by_cases hpn1 : n < p1
          · have hpb : decide (n < p1) = true := decide_eq_true hpn1
            have HA := hidC (HApp.out wr a m c X (n, 1) HX.out.1 (by omega) HX.out.2.1 HX.out.2.2.1)
            have HA2 : Hid (∀ W a c, W.ownsRow w.heap.size 92 2 (.slice a (m + 1) c) (X ++ [(n, 1)]).length (pns (X ++ [(n, 1)])) → Below w.heap.size w W → ∀ ty, ∃ v' w', (Builtin.append_ #[22, 22] ty #[.slice a (m + 1) c, .slice (some ⟨W.heap.size, 0, none⟩) 1 1]).run Tryz.prog (W.alloc (.cells #[.int .i64 p1, .int .i64 p2] 92)) = .ok v' w' ∧ (∃ a c, v' = .slice a (m + 1 + 1) c ∧ Hid (w'.ownsRow w.heap.size 92 2 (.slice a (m + 1 + 1) c) (X ++ [(n, 1)] ++ [(p1, p2)]).length (pns (X ++ [(n, 1)] ++ [(p1, p2)])) ∧ Below w.heap.size w w'))) := fun W a c h1 h2 => HApp.out W a (m + 1) c (X ++ [(n, 1)]) (p1, p2) (by rw [List.length_append, ← HX.out.1]; rfl) (by omega) h1 h2
            have HNx : Hid (∀ W a c, W.ownsRow w.heap.size 92 2 (.slice a (m + 1 + 1) c) (X ++ [(n, 1)] ++ [(p1, p2)]).length (pns (X ++ [(n, 1)] ++ [(p1, p2)])) → Below w.heap.size w W → ∃ X, m + 1 + 1 = X.length ∧ W.ownsRow w.heap.size 92 2 (.slice a (m + 1 + 1) c) X.length (pns X) ∧ Below w.heap.size w W ∧ (true = false → X ++ insP n (s.pins.drop (k + 1)) = insP n s.pins) ∧ (true = true → X ++ s.pins.drop (k + 1) = insP n s.pins)) := fun W a c h1 h2 => by
              refine ⟨_, by rw [List.length_append, List.length_append, ← HX.out.1]; rfl, h1, h2, (fun h => by cases h), fun _ => ?_⟩
              have h3 := HX.out.2.2.2.1 rfl
              rw [HDk.out] at h3
              simp only [insP, if_pos hpn1] at h3
              rw [List.append_assoc, List.append_assoc]
              exact h3
            simp only at HA
            clear HX HDk
            go_wp2_with (first
              | (at_builtin; refine wpL_appI rfl _ _ 22 rfl (.slice a3 (m + 1) c3) (.slice (some ⟨w3.heap.size, 0, none⟩) 1 1) rfl rfl HA3.out ?_; rintro v'' w4 ⟨a4, c5, rfl, HO4⟩)
              | (at_builtin; refine wpL_appI rfl _ _ 22 rfl (.slice a m c) (.slice (some ⟨wr.heap.size, 0, none⟩) 1 1) rfl rfl HA.out ?_; rintro v' w3 ⟨a3, c3, rfl, HO3⟩; obtain ⟨y0, y1, y4⟩ := HPk.out w3 HO3.out.2; have HA3 := hidC (HA2.out w3 a3 c3 HO3.out.1 HO3.out.2)))
            have HZ := hidC (HNx.out w4 a4 c5 HO4.out.1 HO4.out.2)
            clear HA HA2 HA3 HNx HO3 HO4 HPk e0 e1 c4 y0 y1 y4
            go_wp2
            exact ⟨⟨k + 1, m + 1 + 1, a4, c5, true, by omega, by omega, by first | rfl | simp, rfl, by go_num, HZ.out⟩, by simp [intOf]; omega⟩
          · have hpb : decide (n < p1) = false := decide_eq_false hpn1
            have HA := hidC (HApp.out wr a m c X (p1, p2) HX.out.1 (by omega) HX.out.2.1 HX.out.2.2.1)
            have HNx : Hid (∀ W a c, W.ownsRow w.heap.size 92 2 (.slice a (m + 1) c) (X ++ [(p1, p2)]).length (pns (X ++ [(p1, p2)])) → Below w.heap.size w W → ∃ X, m + 1 = X.length ∧ W.ownsRow w.heap.size 92 2 (.slice a (m + 1) c) X.length (pns X) ∧ Below w.heap.size w W ∧ (false = false → X ++ insP n (s.pins.drop (k + 1)) = insP n s.pins) ∧ (false = true → X ++ s.pins.drop (k + 1) = insP n s.pins)) := fun W a c h1 h2 => by
              refine ⟨_, by rw [List.length_append, ← HX.out.1]; rfl, h1, h2, fun _ => ?_, (fun h => by cases h)⟩
              have h3 := HX.out.2.2.2.1 rfl
              rw [HDk.out] at h3
              simp only [insP, if_neg hpn1] at h3
              rw [List.append_assoc]
              exact h3
            simp only at HA
            clear HX HDk HPk
            go_wp2_with (at_builtin; refine wpL_appI rfl _ _ 22 rfl (.slice a m c) (.slice (some ⟨wr.heap.size, 0, none⟩) 1 1) rfl rfl HA.out ?_; rintro v' w3 ⟨a3, c3, rfl, HO3⟩)
            have HZ := hidC (HNx.out w3 a3 c3 HO3.out.1 HO3.out.2)
            clear HA HNx HO3 e0 e1 c4
            go_wp2
            exact ⟨⟨k + 1, m + 1, a3, c3, false, by omega, by omega, by first | rfl | simp, rfl, by go_num, HZ.out⟩, by simp [intOf]; omega⟩
      · have hke : k = pn := by omega
        subst hke
        have hdr : s.pins.drop k = [] := List.drop_of_length_le (by have := HN.out.1; omega)
        cases pb with
        | true =>
          have hXe : X = insP n s.pins := by
            have h3 := HX.out.2.2.2.2 rfl
            rw [hdr, List.append_nil] at h3
            exact h3
          have HZ : Hid (RPinPost w base R room av pv s n (.returned (.int .i64 0)) (wr.setCell ⟨R, 4, none⟩ (.slice a m c))) := HFin.out wr a m c (by rw [← hXe]; exact HX.out.2.1) HX.out.2.2.1
          clear HX hXe hdr hcs
          go_wp2
          go_ret
          exact HZ.out
        | false =>
          have hXe : X ++ [(n, 1)] = insP n s.pins := by
            have h3 := HX.out.2.2.2.1 rfl
            rw [hdr] at h3
            exact h3
          have HA := hidC (HApp.out wr a m c X (n, 1) HX.out.1 (by omega) HX.out.2.1 HX.out.2.2.1)
          have HXe := hidC hXe
          simp only at HA
          clear HX hXe hdr hcs
          go_wp2_with (at_builtin; refine wpL_appI rfl _ _ 22 rfl (.slice a m c) (.slice (some ⟨wr.heap.size, 0, none⟩) 1 1) rfl rfl HA.out ?_; rintro v' w3 ⟨a3, c3, rfl, HO3⟩; have HZ : Hid (RPinPost w base R room av pv s n (.returned (.int .i64 0)) (w3.setCell ⟨R, 4, none⟩ (.slice a3 (m + 1) c3))) := HFin.out w3 a3 (m + 1) c3 (by rw [← HXe.out]; exact HO3.out.1) HO3.out.2; obtain ⟨d4, _, g4⟩ := HCl.out w3 HO3.out.2)
          clear HA HO3 c4 f4
          go_wp2
          go_ret
          exact HZ.out
end Go.Proofs.YtbmohlkcmhhpgaaGreat
/-
  THE DOCUMENT'S Unpin.
-/
namespace Go.Proofs.YtbmohlkcmhhpgaaGreat
open Go.RowKit Go.Sort

def RUnpPost (w : World) (base R : Nat) (room : Int) (av pv : Value) (s : Bs) (n : Int) (e : Ending) (w' : World) : Prop :=
  (fpn s.pins n = none ∧ e = .returned (.int .i64 102) ∧ Below w.heap.size w w') ∨
  ((fpn s.pins n).isSome = true ∧ e = .returned (.int .i64 0) ∧ ∃ pins', UnpD s.pins pins' n ∧ RPost w base R room av pv ⟨s.la, s.fl, pins', s.all⟩ w')
set_option maxRecDepth 100000 in
set_option maxHeartbeats 4000000 in
theorem rUnpin_any (w : World) (base R : Nat) (room : Int) (av pv : Value) (s : Bs) (h : RB w base R room s.la s.fl av pv s.all s.pins) (hp : s.pins.length ≤ 32) (hr : (s.pins.map Prod.fst).Pairwise (· < ·)) (hc : ∀ p ∈ s.pins, 1 ≤ p.2 ∧ p.2 ≤ 1099511627776) (hbs : base ≤ w.heap.size) (n : Int) :
    Calls Tryz.prog 23 #[ptr R, .int .i64 n] w fun e w' => RUnpPost w base R room av pv s n e w' := by
  obtain ⟨pa, pn, pc, hpv, hpn⟩ := rowOpenD h.rp
  have HPv := hidC hpv
  have HRp := hidC (rpin_any w base R room s.la s.fl av pv s.all s.pins h hp n)
  have HR := hidC h
  have HN := hidC (And.intro hpn (And.intro hr hbs))
  have c4 := h.cells.2.2.2.2
  rw [hpv] at c4
  have hpn2 : pn ≤ 32 := by omega
  have HCt := hidC hc
  clear h hpn hr hbs hpv hc hp
  go_enter Tryz.func23, Tryz.ntmps23
  go_wp2_with fail
  refine HRp.out.mono ?_
  rintro e w1 ⟨hw, ⟨i, hi, rfl, hin⟩ | ⟨rfl, hno⟩⟩
  all_goals (
    have hw' := hw.symm
    subst hw'
    clear hw HRp)
  · have hF : fpn s.pins n = some s.pins[i].2 := by rw [← hin]; exact fpn_ix HN.out.2.1 hi
    have hct := HCt.out _ (List.getElem_mem hi)
    obtain ⟨g, pc', hpv', hrb, hfz, e0, e1, hsr⟩ := HR.out.count hi (s.pins[i].2 - 1)
    have hpe : (Value.slice pa pn pc) = .slice (some ⟨g, 0, none⟩) s.pins.length pc' := by rw [← HPv.out]; exact hpv'
    simp only [Value.slice.injEq] at hpe
    obtain ⟨hpa, hpl, hpc⟩ := hpe
    subst hpa hpc
    have hipn : i < pn := by omega
    have hii : (i : Int) < (pn : Int) := by omega
    have hi1 : ¬ (i : Int) < 0 := by omega
    have HSm : Hid ((fpn s.pins n).isSome = true) := by rw [hF]; rfl
    obtain ⟨W1, hW1⟩ : ∃ W1, W1 = w.setCell ⟨g, i * 2 + 1, none⟩ (.int .i64 (s.pins[i].2 - 1)) := ⟨_, rfl⟩
    rw [← hW1] at hrb
    have HR1 := hidC hrb
    have HF1 : Hid (Fr (SR R av pv) w W1) := by rw [hW1]; exact (Fr.refl _ _).set _ _ (.inr hsr)
    have d4 : W1.cell? ⟨R, 4, none⟩ = some (.slice (some ⟨g, 0, none⟩) pn pc) := by
      have h1 := hrb.cells.2.2.2.2
      rw [HPv.out] at h1
      exact h1
    have d1 : W1.cell? ⟨g, i * 2 + 1, none⟩ = some (.int .i64 (s.pins[i].2 - 1)) := by
      obtain ⟨g', _, hpv2, _, _, _, c1', _⟩ := hrb.count (i := i) (by simpa using hi) 0
      rw [HPv.out] at hpv2
      simp only [Value.slice.injEq] at hpv2
      have e9 := hpv2.1
      cases e9
      simpa using c1'
    have HXs : Hid (s.pins[i].2 ≠ 1 → RUnpPost w base R room av pv s n (.returned (.int .i64 0)) W1) := fun h1 => .inr ⟨HSm.out, rfl, _, unpD_set HN.out.2.1 hi hin h1, av, pv, HR1.out, HF1.out, fun k hk => .inl hk⟩
    have HXe : Hid (s.pins[i].2 = 1 → UnpD s.pins ((s.pins.set i (s.pins[i].1, s.pins[i].2 - 1)).eraseIdx i) n) := fun h1 => unpD_erase HN.out.2.1 hi hin h1
    obtain ⟨L, hL⟩ : ∃ L, L = s.pins.set i (s.pins[i].1, s.pins[i].2 - 1) := ⟨_, rfl⟩
    rw [← hL] at HR1 HXe
    have HLl : Hid (pn = L.length) := by show _ = _; rw [hL, List.length_set]; exact HN.out.1
    clear hrb hpv' hsr hF hpl hL
    generalize s.pins[i].2 = x at *
    generalize s.pins[i].1 = y at *
    have hwp : IntKind.i64.wrap (x - 1) = x - 1 := by rw [IntKind.wrap_i64]; omega
    clear hin
    by_cases hx : x = 1
    · have hx0 : ¬ (0 : Int) < x - 1 := by omega
      have hx0b : decide (0 < x - 1) = false := decide_eq_false hx0
      have HUn := hidC (HXe.out hx)
      have HCl : Hid (∀ W, Below W1.heap.size W1 W → W.cell? ⟨R, 4, none⟩ = some (.slice (some ⟨g, 0, none⟩) pn pc) ∧ CsAt W.heap.size W (some ⟨g, 0, none⟩) (pns L) ∧ W.frozen? ⟨R, 4, none⟩ = false) := fun W hW => by
        have h5 := HR1.out.kept hW
        have h6 := h5.cells.2.2.2.2
        have h7 := h5.rp
        rw [HPv.out] at h6 h7
        exact ⟨h6, (rowCs h7).2.1, h5.frozen 4⟩
      have HApp : Hid (∀ (W : World) (a : Option Addr) (m c : Nat) (X : List (Int × Int)) (p : Int × Int), m = X.length → m ≤ 100 → W.ownsRow W1.heap.size 92 2 (.slice a m c) X.length (pns X) → Below W1.heap.size W1 W → ∀ ty, ∃ v' w', (Builtin.append_ #[22, 22] ty #[.slice a m c, .slice (some ⟨W.heap.size, 0, none⟩) 1 1]).run Tryz.prog (W.alloc (.cells #[.int .i64 p.1, .int .i64 p.2] 92)) = .ok v' w' ∧ (∃ a c, v' = .slice a (m + 1) c ∧ Hid (w'.ownsRow W1.heap.size 92 2 (.slice a (m + 1) c) (X ++ [p]).length (pns (X ++ [p])) ∧ Below W1.heap.size W1 w'))) := fun W a m c X p hm hm2 hO hB ty => by
        obtain ⟨v', w', z1, z2, z3, z4, z5⟩ := akPin.app1 W ty W1.heap.size (.slice a m c) X.length (pns X) [.int .i64 p.1, .int .i64 p.2] hO rfl (by intro u hu; simp at hu; rcases hu with rfl | rfl <;> rfl) (by omega) (by omega) hB.size
        obtain ⟨a', m', c', rfl, hm'⟩ := rowOpenD z3
        have hm3 : m' = m + 1 := by rw [hm', hm]
        subst hm3
        refine ⟨_, w', z1, a', c', rfl, ?_, hB.trans (appBelow z4 hO (Nat.le_refl _) hB.size)⟩
        rw [pns_append, List.length_append]
        exact z3
      have HFin : Hid (∀ (W : World) (a : Option Addr) (m c : Nat), W.ownsRow W1.heap.size 92 2 (.slice a m c) (L.eraseIdx i).length (pns (L.eraseIdx i)) → Below W1.heap.size W1 W → RUnpPost w base R room av pv s n (.returned (.int .i64 0)) (W.setCell ⟨R, 4, none⟩ (.slice a m c))) := fun W a m c hO hB => by
        have hRw := HR1.out.kept hB
        have h1 := hRw.setPins (rowBaseD hO (Nat.le_trans HN.out.2.2 HF1.out.size))
        refine .inr ⟨HSm.out, rfl, L.eraseIdx i, HUn.out, av, _, h1, ?_, fun k hk => ?_⟩
        · exact (HF1.out.trans (Fr.ofBelow hB)).set ⟨R, 4, none⟩ _ (.inr (.inl rfl))
        · rcases hk with rfl | hk | hk
          · exact .inl (.inl rfl)
          · exact .inl (.inr (.inl hk))
          · exact .inr (Nat.le_trans HF1.out.size (World.ownsRow.lt hO k hk).1)
      clear HXs HXe HUn HSm hx HR HR1
      go_wp2_with fail
      rw [← hW1]
      clear hW1 d4 d1 c4 e0 e1 hfz
      go_loopw [6, 7] (fun x z wr => ∃ (k m : Nat) (a : Option Addr) (c : Nat), k ≤ pn ∧ m ≤ k ∧ x = .slice a m c ∧ z = .int .i64 (k : Int) ∧ Hid (m = ((L.take k).eraseIdx i).length ∧ wr.ownsRow W1.heap.size 92 2 (.slice a m c) ((L.take k).eraseIdx i).length (pns ((L.take k).eraseIdx i)) ∧ Below W1.heap.size W1 wr)) (fun _ z _ => pn - (intOf z).toNat)
      case atStart => exact ⟨0, 0, none, 0, Nat.zero_le _, Nat.le_refl _, rfl, rfl, by simp, by simpa [pns] using World.ownsRow_nil _ _ _ _, Below.refl _ _⟩
      case round =>
        obtain ⟨k, m, a, c, hk, hmk, rfl, rfl, HX⟩ := hrel
        obtain ⟨c4, hcs, f4⟩ := HCl.out wr HX.out.2.2
        by_cases hlt : k < pn
        · have hkl : k < L.length := by have := HLl.out; omega
          obtain ⟨b, off, hpa, e0, e1⟩ := hcs.pin hkl
          cases hpa
          rw [Nat.zero_add] at e0 e1
          have HSt := hidC (erase_step (i := i) hkl)
          generalize L[k] = p at *
          obtain ⟨p1, p2⟩ := p
          simp only at e0 e1
          clear hcs f4
          by_cases hki : k = i
          · have hkb : ((k : Int) == (i : Int)) = true := by simp; omega
            have HZ : Hid (m = ((L.take (k + 1)).eraseIdx i).length ∧ wr.ownsRow W1.heap.size 92 2 (.slice a m c) ((L.take (k + 1)).eraseIdx i).length (pns ((L.take (k + 1)).eraseIdx i)) ∧ Below W1.heap.size W1 wr) := by
              rw [HSt.out, if_pos hki]
              exact HX.out
            clear HX HSt e0 e1
            go_wp2
            exact ⟨⟨k + 1, m, a, c, by omega, by omega, rfl, by go_num, HZ.out⟩, by simp [intOf]; omega⟩
          · have hkb : ((k : Int) == (i : Int)) = false := by simp; omega
            have HA := hidC (HApp.out wr a m c _ (p1, p2) HX.out.1 (by omega) HX.out.2.1 HX.out.2.2)
            rw [if_neg hki] at HSt
            have HNx : Hid (∀ W a c, W.ownsRow W1.heap.size 92 2 (.slice a (m + 1) c) ((L.take k).eraseIdx i ++ [(p1, p2)]).length (pns ((L.take k).eraseIdx i ++ [(p1, p2)])) → Below W1.heap.size W1 W → m + 1 = ((L.take (k + 1)).eraseIdx i).length ∧ W.ownsRow W1.heap.size 92 2 (.slice a (m + 1) c) ((L.take (k + 1)).eraseIdx i).length (pns ((L.take (k + 1)).eraseIdx i)) ∧ Below W1.heap.size W1 W) := fun W a c h1 h2 => by
              rw [HSt.out]
              exact ⟨by rw [List.length_append, ← HX.out.1]; rfl, h1, h2⟩
            simp only at HA
            clear HX HSt
            go_wp2_with (at_builtin; refine wpL_appI rfl _ _ 22 rfl (.slice a m c) (.slice (some ⟨wr.heap.size, 0, none⟩) 1 1) rfl rfl HA.out ?_; rintro v' w3 ⟨a3, c3, rfl, HO3⟩)
            have HZ := hidC (HNx.out w3 a3 c3 HO3.out.1 HO3.out.2)
            clear HA HNx HO3 e0 e1 c4
            go_wp2
            exact ⟨⟨k + 1, m + 1, a3, c3, by omega, by omega, by first | rfl | simp, by go_num, HZ.out⟩, by simp [intOf]; omega⟩
        · have hke : L.take k = L := List.take_of_length_le (by have := HLl.out; omega)
          have HZ : Hid (RUnpPost w base R room av pv s n (.returned (.int .i64 0)) (wr.setCell ⟨R, 4, none⟩ (.slice a m c))) := by
            have h1 := HX.out.2.1
            rw [hke] at h1
            exact HFin.out wr a m c h1 HX.out.2.2
          clear HX hke hcs
          go_wp2
          go_ret
          exact HZ.out
    · have hx0 : (0 : Int) < x - 1 := by omega
      have hx0b : decide (0 < x - 1) = true := decide_eq_true hx0
      have HZ := hidC (HXs.out hx)
      clear HXs HXe hx
      go_wp2
      rw [← hW1]
      go_ret
      exact HZ.out
  · have HZ : Hid (RUnpPost w base R room av pv s n (.returned (.int .i64 102)) w) := .inl ⟨fpn_no hno, rfl, Below.refl _ _⟩
    have hn3 : ((-1 : Int) < 0) := by omega
    clear hno
    go_wp2
    go_ret
    exact HZ.out
end Go.Proofs.YtbmohlkcmhhpgaaGreat
