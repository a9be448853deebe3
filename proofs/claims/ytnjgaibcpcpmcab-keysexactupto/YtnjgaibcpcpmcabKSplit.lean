/-
  THE WALK OF Split.
-/
import Derived.Test.YtnjgaibcpcpmcabKSound
import Derived.Test.YtnjgaibcpcpmcabHash
import Derived.Deep.RegionLaw
namespace Go.Proofs.Ytnjgaibcpcpmcab
open Go.RowKit Go.Sort

def updf {α : Type} (f : Nat → α) (p : Nat) (v : α) : Nat → α := fun j => if j = p then v else f j
theorem updf_same {α : Type} (f : Nat → α) (p : Nat) (v : α) : updf f p v p = v := if_pos rfl
theorem updf_other {α : Type} (f : Nat → α) (p j : Nat) (v : α) (h : j ≠ p) : updf f p v j = f j := if_neg h
/-- the row of the lists -/
def outer (vs : Nat → Value) (P : Nat) : Array Value := ((List.range P).map vs).toArray
theorem outer_size (vs : Nat → Value) (P : Nat) : (outer vs P).size = P := by simp [outer]
theorem outer_at (vs : Nat → Value) (P p : Nat) (h : p < P) : (outer vs P)[p]? = some (vs p) := by simp [outer, h]
theorem outer_set (vs : Nat → Value) (P p : Nat) (v : Value) : (outer vs P).setIfInBounds p v = outer (updf vs p v) P := by
  apply Array.ext_getElem?
  intro j
  by_cases hj : j < P
  · rw [outer_at _ _ _ hj, Array.getElem?_setIfInBounds]
    by_cases hp : p = j
    · subst hp; rw [if_pos rfl, outer_size, if_pos hj, updf_same]
    · rw [if_neg hp, outer_at _ _ _ hj, updf_other _ _ _ _ (Ne.symm hp)]
  · rw [Array.getElem?_eq_none_iff.2 (by simp [outer_size]; omega), Array.getElem?_eq_none_iff.2 (by simp [outer_size]; omega)]

/-- THE LISTS OF A SPLIT: each of the call's own, apart from each other and from their row -/
structure Parts (w : World) (base G P : Nat) (vs : Nat → Value) (Ls : Nat → List K) : Prop where
  row : w.heap[G]? = some (.cells (outer vs P) 29 (0, 0))
  own : ∀ p, p < P → OwnK w base (vs p) (Ls p)
  apart : ∀ p q, p < P → q < P → p ≠ q → ∀ b, (vs p).ownBlock = some b → (vs q).ownBlock ≠ some b
  notG : ∀ p, p < P → (vs p).ownBlock ≠ some G
theorem Parts.kept {w w1 : World} {base G P : Nat} {vs : Nat → Value} {Ls : Nat → List K} (h : Parts w base G P vs Ls) (hb : Below w.heap.size w w1) : Parts w1 base G P vs Ls :=
  ⟨(hb.block G (Array.getElem?_eq_some_iff.1 h.row).1).trans h.row, fun p hp => (h.own p hp).kept hb, h.apart, h.notG⟩
theorem Parts.cell {w : World} {base G P : Nat} {vs : Nat → Value} {Ls : Nat → List K} (h : Parts w base G P vs Ls) (p : Nat) (hp : p < P) : w.cell? ⟨G, p, none⟩ = some (vs p) := by
  have := outer_at vs P p hp
  simp [World.cell?, h.row, this]
theorem Parts.frozen {w : World} {base G P : Nat} {vs : Nat → Value} {Ls : Nat → List K} (h : Parts w base G P vs Ls) (p : Nat) : w.frozen? ⟨G, p, none⟩ = false := frozen_of_row _ _ _ _ _ h.row
theorem Parts.put {w w1 : World} {base G P : Nat} {vs : Nat → Value} {Ls : Nat → List K} (h : Parts w base G P vs Ls) (p : Nat) (hp : p < P) {v' : Value} {M : List K} (hown : OwnK w1 base v' M) (hg : w.grownBy w1 (vs p).ownBlock)
    (hat : v'.ownBlock = (vs p).ownBlock ∨ ∃ b, v'.ownBlock = some b ∧ w.heap.size ≤ b) : Parts (w1.setCell ⟨G, p, none⟩ v') base G P (updf vs p v') (updf Ls p M) := by
  have hGl : G < w.heap.size := (Array.getElem?_eq_some_iff.1 h.row).1
  have hrow1 : w1.heap[G]? = some (.cells (outer vs P) 29 (0, 0)) := (hg.block G hGl (fun e => h.notG p hp e.symm)).trans h.row
  have hvG : v'.ownBlock ≠ some G := by
    rcases hat with e | ⟨b0, e, hb0⟩
    · rw [e]; exact h.notG p hp
    · rw [e]; intro e2; have := Option.some.inj e2; omega
  have hso : ∀ b, b ≠ G → (w1.setCell ⟨G, p, none⟩ v').heap[b]? = w1.heap[b]? := fun b hb => heap_setCell_other w1 ⟨G, p, none⟩ b v' hb
  refine ⟨?_, fun q hq => ?_, fun q r hq hr hne b h1 h2 => ?_, fun q hq => ?_⟩
  · have := heap_setCell_same w1 G p _ _ v' hrow1
    rwa [outer_set] at this
  · by_cases hqp : q = p
    · subst hqp
      rw [updf_same, updf_same]
      exact hown.same fun g hgg => hso g (fun e => hvG (by rw [hgg, e]))
    · rw [updf_other _ _ _ _ hqp, updf_other _ _ _ _ hqp]
      have ho := h.own q hq
      refine OwnK.same (w := w1) ?_ fun g hgg => hso g (fun e => h.notG q hq (by rw [hgg, e]))
      refine ho.same fun g hgg => hg.block g (ho.lt g hgg).2 (fun e => h.apart q p hq hp hqp g hgg e.symm)
  · by_cases hqp : q = p
    · subst hqp
      rw [updf_same] at h1
      rw [updf_other _ _ _ _ (Ne.symm hne)] at h2
      rcases hat with e | ⟨b0, e, hb0⟩
      · rw [e] at h1; exact h.apart q r hq hr hne b h1 h2
      · rw [e] at h1; have := Option.some.inj h1; have := ((h.own r hr).lt b h2).2; omega
    · rw [updf_other _ _ _ _ hqp] at h1
      by_cases hrp : r = p
      · subst hrp
        rw [updf_same] at h2
        rcases hat with e | ⟨b0, e, hb0⟩
        · rw [e] at h2; exact h.apart q r hq hr hne b h1 h2
        · rw [e] at h2; have := Option.some.inj h2; have := ((h.own q hq).lt b h1).2; omega
      · rw [updf_other _ _ _ _ hrp] at h2
        exact h.apart q r hq hr hne b h1 h2
  · by_cases hqp : q = p
    · subst hqp; rw [updf_same]; exact hvG
    · rw [updf_other _ _ _ _ hqp]; exact h.notG q hq

theorem grown_alloc'' {w : World} {o : Obj} {row : Option Nat} (w1 : World) (h : (w.alloc o).grownBy w1 row) : w.grownBy w1 row :=
  ⟨h.os, h.tape, h.output, Nat.le_trans (by simp) h.size, fun k hk hne => (h.block k (by simp; omega) hne).trans (Below.heap_alloc w o k hk)⟩

/-- a key's partition -/
def pn (k : K) (P : Nat) : Nat := hash k % P
def partL (L : List K) (P p : Nat) : List K := L.filter fun k => decide (pn k P = p)
theorem partL_snoc (L : List K) (P p : Nat) (k : K) : partL (L ++ [k]) P p = if pn k P = p then partL L P p ++ [k] else partL L P p := by
  unfold partL
  rw [List.filter_append]
  by_cases h : pn k P = p <;> simp [h]
theorem partL_upd (L : List K) (P : Nat) (k : K) : (fun p => partL (L ++ [k]) P p) = updf (fun p => partL L P p) (pn k P) (partL L P (pn k P) ++ [k]) := by
  funext p
  rw [partL_snoc]
  by_cases h : pn k P = p
  · subst h; rw [if_pos rfl, updf_same]
  · rw [if_neg h, updf_other _ _ _ _ (Ne.symm h)]
theorem partL_len (L : List K) (P p : Nat) : (partL L P p).length ≤ L.length := List.length_filter_le _ _

theorem infoL : (Try.prog.info? 29).map (fun i => (i.zero, i.size, i.bytes)) = some (some (.slice none 0 0), 1, 24) := by kernel_rfl
theorem make_lists (c : Nat) (hc : c ≤ 256) (u : World) : (Instr.makeSlice 23 (.int .i64 (c : Int)) (.int .i64 (c : Int))).run Try.prog u =
    .ok (.slice (some ⟨u.heap.size, 0, none⟩) c c) (u.alloc (.cells (outer (fun _ => .slice none 0 0) c) 29)) := by
  obtain ⟨i0, hi, hz0, hz1, hz2⟩ := info_parts infoL
  have h := run_make (P := Try.prog) u 23 29 i0 (.slice none 0 0) Try.underlying23 hi hz0 .i64 .i64 (c : Int) (c : Int) (by omega) (Int.le_refl _) (by rw [hz2]; omega) (by omega)
  have e : madeCells #[.slice none 0 0] c = outer (fun _ => .slice none 0 0) c := by
    apply Array.ext'
    rw [toList_madeCells_one]
    simp [outer, List.map_const']
  rw [← e]
  simpa [hz1, Value.cells] using h

set_option maxHeartbeats 4000000 in
set_option maxRecDepth 100000 in
theorem split_any (w : World) (ao : Option Addr) (cap n P : Nat) (L : List K) (hn : n = L.length) (h : KeysAt w ao L) (hin : ∀ k ∈ L, In64 k.2) (hP1 : 1 ≤ P) (hP : P ≤ 256) (hm : n * 16 ≤ 140737488355328) :
    Calls Try.prog 6 #[.slice ao n cap, .int .i64 (P : Int)] w fun e w' => ((L.all isKey = true ∧ ∃ vs, e = .returned (.tuple #[.slice (some ⟨w.heap.size, 0, none⟩) P P, .int .i64 0]) ∧ Parts w' w.heap.size w.heap.size P vs (fun p => partL L P p)) ∨ (L.all isKey = false ∧ e = .returned (.tuple #[.slice none 0 0, .int .i64 20]))) ∧ Below w.heap.size w w' := by
  have HN : Hid (n = L.length) := hn
  have HK : Hid (KeysAt w ao L) := h
  have HIN : Hid (∀ k ∈ L, In64 k.2) := hin
  have HC : Hid (∀ w, Calls Try.prog 13 #[.int .i64 (P : Int)] w fun e w' => e = .returned (.bool true) ∧ w = w') := fun w => by
    have := canSplit_any w (P : Int)
    rw [(okParts_iff (P : Int)).2 (by omega)] at this
    exact this.mono fun _ _ h => ⟨h.1, h.2.symm⟩
  have hmk := make_lists P hP
  clear hn h hin
  go_enter Try.func6, Try.ntmps6
  go_wp2_with fail
  refine Calls.mono (HC.out w) ?_
  rintro e w1 ⟨rfl, rfl⟩
  go_wp2
  have HP0 : Hid (Parts (w.alloc (.cells (outer (fun _ => .slice none 0 0) P) 29)) w.heap.size w.heap.size P (fun _ => .slice none 0 0) (fun p => partL (L.take 0) P p)) := by
    refine ⟨heap_alloc_new _ _ rfl, fun p hp => ?_, (fun p q _ _ _ b hb => by cases hb), (fun p _ hb => by cases hb)⟩
    simpa [partL] using OwnK.nil _ _
  have HB0 : Hid (Below w.heap.size w (w.alloc (.cells (outer (fun _ => .slice none 0 0) P) 29))) := ((Grew.refl w).alloc _).below
  generalize w.alloc (.cells (outer (fun _ => .slice none 0 0) P) 29) = W0 at *
  go_loopw [8, 9, 10, 18] (fun _ _ _ y wr => ∃ (k : Nat) (vs : Nat → Value), k ≤ n ∧ y = .int .i64 (k : Int) ∧ Hid ((L.take k).all isKey = true) ∧ Hid (Parts wr w.heap.size w.heap.size P vs (fun p => partL (L.take k) P p)) ∧ Hid (Below w.heap.size w wr)) (fun _ _ _ y _ => n - (intOf y).toNat)
  case atStart => exact ⟨0, _, Nat.zero_le _, rfl, by simp [Hid], HP0.out, HB0.out⟩
  case round =>
    obtain ⟨k, vs, hk, rfl, HA, HPt, HB⟩ := hrel
    by_cases hlt : k < n
    · have hl : k < L.length := by have := HN.out; omega
      have HK2 := HK.out.kept HB.out
      rcases HK2 with h0 | ⟨b, off, rfl, hc⟩
      · rw [h0] at hl; simp at hl
      · obtain ⟨c1, c2⟩ := KeysAt.at hc k hl
        have HAT : Hid (isKey (kd L k) = true → (L.take (k + 1)).all isKey = true) := all_take L k HA.out hl
        have HAF : Hid (isKey (kd L k) = false → L.all isKey = false) := all_false hl
        have hir := HIN.out _ (kd_mem hl)
        have HT : Hid (L.take (k + 1) = L.take k ++ [kd L k]) := take_kd L k hl
        have hlen : (partL (L.take k) P (pn (kd L k) P)).length ≤ k := Nat.le_trans (partL_len _ _ _) (by simp; omega)
        generalize kd L k = kk at *
        obtain ⟨t, r⟩ := kk
        simp only at c1 c2 hir
        clear HA
        by_cases hik : isKey (t, r) = true
        · have HE : Hid ((L.take (k + 1)).all isKey = true) := HAT.out hik
          clear HAT HAF
          have HPart : Hid (∀ w, Calls Try.prog 14 #[.agg #[.int .i64 t, .int .i64 r], .int .i64 (P : Int)] w fun e w' => e = .returned (.tuple #[.int .i64 (pn (t, r) P : Int), .int .i64 0]) ∧ ∃ q os, w' = grow (w.drewN q) os) := fun w => by
            have h := partition_any w t r P hir
            have hok : okParts (P : Int) = true := (okParts_iff _).2 (by omega)
            have e1 : partV (t, r) P = (pn (t, r) P : Int) := by unfold partV pn; rw [if_pos hik, if_pos hok]; simp
            have e2 : partE (t, r) P = 0 := by unfold partE; rw [if_pos hik, if_pos hok]
            rwa [e1, e2] at h
          have hpP : pn (t, r) P < P := Nat.mod_lt _ (by omega)
          have HU : Hid _ := partL_upd (L.take k) P (t, r)
          have HM : Hid _ := fun p hp => HPt.out.own p hp
          generalize hpv : pn (t, r) P = p at *
          clear hc hl hik hir hpv
          go_wp2_with fail
          have B1 : Hid (Box (wr.alloc (.cells #[.int .i64 t, .int .i64 r] 28)) wr.heap.size t r) := Box.new rfl
          have HG1 : Hid (Grew wr (wr.alloc (.cells #[.int .i64 t, .int .i64 r] 28))) := (Grew.refl _).alloc _
          generalize wr.alloc (.cells #[.int .i64 t, .int .i64 r] 28) = W1 at *
          refine Calls.mono (HPart.out W1) ?_
          rintro e w2 ⟨rfl, g2⟩
          have HG2 : Hid (Grew wr w2) := HG1.out.trans g2
          have B2 : Hid (Box w2 wr.heap.size t r) := B1.out.grew g2
          have HP2 : Hid (Parts w2 w.heap.size w.heap.size P vs (fun p => partL (L.take k) P p)) := HPt.out.kept HG2.out.below
          have HB2 : Hid (Below w.heap.size w w2) := HB.out.trans (HG2.out.below.mono HB.out.size)
          clear g2 HPart B1 HG1 c1 c2 HM
          obtain ⟨p1, p2⟩ := B2.out
          have cG := HP2.out.cell p hpP
          have fG := HP2.out.frozen p
          have hpP' : (p : Int) < (P : Int) := by omega
          go_wp2_with fail
          have HO2 : Hid (OwnK w2 w.heap.size (vs p) (partL (L.take k) P p)) := HP2.out.own p hpP
          have HPU : Hid (∀ (w3 : World) (v' : Value), OwnK w3 w.heap.size v' (partL (L.take k) P p ++ [(t, r)]) → (w2.drew.alloc (.cells #[.int .i64 t, .int .i64 r] 28)).grownBy w3 (vs p).ownBlock → (v'.ownBlock = (vs p).ownBlock ∨ v'.ownBlock = some (w2.drew.alloc (.cells #[.int .i64 t, .int .i64 r] 28)).heap.size) →
              w3.cell? ⟨w.heap.size, p, none⟩ = some (vs p) ∧ w3.frozen? ⟨w.heap.size, p, none⟩ = false ∧ Hid (Parts (w3.setCell ⟨w.heap.size, p, none⟩ v') w.heap.size w.heap.size P (updf vs p v') (fun p => partL (L.take (k + 1)) P p)) ∧ Hid (Below w.heap.size w (w3.setCell ⟨w.heap.size, p, none⟩ v'))) := by
            intro w3 v' h1 h2 h3
            have hg := grown_alloc'' (w := w2.drew) w3 h2
            have hPt : Parts w2.drew w.heap.size w.heap.size P vs (fun p => partL (L.take k) P p) := HP2.out.kept ⟨rfl, rfl, rfl, Nat.le_refl _, fun _ _ => rfl⟩
            have hr3 : w3.heap[w.heap.size]? = some (.cells (outer vs P) 29 (0, 0)) := (hg.block _ (Array.getElem?_eq_some_iff.1 hPt.row).1 (fun e => hPt.notG p hpP e.symm)).trans hPt.row
            refine ⟨?_, frozen_of_row _ _ _ _ _ hr3, ?_, ?_⟩
            · have := outer_at vs P p hpP
              simp [World.cell?, hr3, this]
            · have := hPt.put p hpP h1 hg (h3.imp id (fun e => ⟨_, e, by simp⟩))
              rw [HT.out]
              rwa [← HU.out] at this
            · have hb1 : Below w.heap.size w2.drew w3 := grown_below hg (fun b hb => ((HO2.out.lt b hb).1)) (HB2.out.size)
              have hb2 : Below w.heap.size w3 (w3.setCell ⟨w.heap.size, p, none⟩ v') := ⟨rfl, rfl, rfl, by simp, fun b hb => heap_setCell_other w3 ⟨w.heap.size, p, none⟩ b v' (by simp; omega)⟩
              have hb0 : Below w.heap.size w2 w2.drew := ⟨rfl, rfl, rfl, Nat.le_refl _, fun _ _ => rfl⟩
              exact (HB2.out.trans hb0).trans (hb1.trans hb2)
          have cGa : (w2.alloc (.cells #[.int .i64 t, .int .i64 r] 28)).cell? ⟨w.heap.size, p, none⟩ = some (vs p) := Grew.cell ((Grew.refl w2).alloc _) cG
          clear HT HU
          go_region_law (refine step_append_keys rfl _ _ rfl w.heap.size (vs p) (partL (L.take k) P p) rfl (OwnK.alloc (w := w2.drew) HO2.out _) _ _ _ [(t, r)] rfl rfl (key_src w2.drew _ t r rfl) (by simp) (by simp; omega) (by have := HB2.out.size; simp; omega) ?_; intro v' w3 hown3 hgrow3 hat3; obtain ⟨a3, k3, hv3, _, _, _⟩ := hown3.slice; obtain ⟨c3, f3, HP3, HB3⟩ := HPU.out w3 v' hown3 hgrow3 hat3; rw [List.length_append] at hv3; subst hv3; clear hown3 hgrow3 hat3)
          all_goals go_wp2
          all_goals go_roundw
          all_goals first | exact ⟨k + 1, _, by omega, by go_num, HE, HP3, HB3⟩ | (simp [intOf]; omega)
        · have hik' : isKey (t, r) = false := by simpa using hik
          have HE : Hid (L.all isKey = false) := HAF.out hik'
          have HPart : Hid (∀ w, Calls Try.prog 14 #[.agg #[.int .i64 t, .int .i64 r], .int .i64 (P : Int)] w fun e w' => e = .returned (.tuple #[.int .i64 0, .int .i64 20]) ∧ ∃ q os, w' = grow (w.drewN q) os) := fun w => by
            have h := partition_any w t r P hir
            have e1 : partV (t, r) P = 0 := by unfold partV; rw [if_neg hik]
            have e2 : partE (t, r) P = 20 := by unfold partE; rw [if_neg hik]
            rwa [e1, e2] at h
          clear HAT HAF hc hl hik hir HT hlen hik'
          go_wp2_with fail
          have HG1 : Hid (Grew wr (wr.alloc (.cells #[.int .i64 t, .int .i64 r] 28))) := (Grew.refl _).alloc _
          generalize wr.alloc (.cells #[.int .i64 t, .int .i64 r] 28) = W1 at *
          refine Calls.mono (HPart.out W1) ?_
          rintro e w2 ⟨rfl, g2⟩
          have HB2 : Hid (Below w.heap.size w w2) := HB.out.trans ((HG1.out.trans g2).below.mono HB.out.size)
          clear g2 HPart HG1 c1 c2
          go_wp2
          go_ret2
          exact ⟨.inr ⟨HE.out, rfl⟩, HB2.out⟩
    · obtain rfl : k = n := by omega
      have HE : Hid (Parts wr w.heap.size w.heap.size P vs (fun p => partL L P p)) := by have := HPt.out; rwa [HN.out, List.take_length] at this
      have HAll : Hid (L.all isKey = true) := by have := HA.out; rwa [HN.out, List.take_length] at this
      go_wp2
      go_ret2
      exact ⟨.inl ⟨HAll.out, vs, rfl, HE.out⟩, HB.out⟩
theorem split_parts (w : World) (v : Value) (p : Int) (hp : okParts p = false) :
    Calls Try.prog 6 #[v, .int .i64 p] w fun e w' => e = .returned (.tuple #[.slice none 0 0, .int .i64 21]) ∧ w' = w := by
  have HC : Hid (∀ w, Calls Try.prog 13 #[.int .i64 p] w fun e w' => e = .returned (.bool false) ∧ w = w') := fun w => by
    have := canSplit_any w p
    rw [hp] at this
    exact this.mono fun _ _ h => ⟨h.1, h.2.symm⟩
  go_enter Try.func6, Try.ntmps6
  go_wp2_with fail
  refine Calls.mono (HC.out w) ?_
  rintro e w1 ⟨rfl, rfl⟩
  go_wp2
  go_ret2
  exact ⟨rfl, rfl⟩

end Go.Proofs.Ytnjgaibcpcpmcab
