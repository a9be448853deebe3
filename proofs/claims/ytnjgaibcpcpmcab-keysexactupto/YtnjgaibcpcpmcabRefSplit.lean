/-
  THE WALK OF THE DOCUMENT'S Split.
-/
import Derived.Test.YtnjgaibcpcpmcabKSplit
import Derived.Test.YtnjgaibcpcpmcabRefHash
import Derived.Test.YtnjgaibcpcpmcabKRefSet
namespace Go.Proofs.Ytnjgaibcpcpmcab
open Go.RowKit Go.Sort

set_option maxHeartbeats 4000000 in
set_option maxRecDepth 100000 in
theorem refSplit_any (w : World) (ao : Option Addr) (cap n P : Nat) (L : List K) (hn : n = L.length) (h : KeysAt w ao L) (hin : ∀ k ∈ L, In64 k.2) (hP1 : 1 ≤ P) (hP : P ≤ 256) (hm : n * 16 ≤ 140737488355328) :
    Calls Try.prog 54 #[.slice ao n cap, .int .i64 (P : Int)] w fun e w' => ((L.all isKey = true ∧ ∃ vs G, e = .returned (.tuple #[.slice (some ⟨G, 0, none⟩) P P, .int .i64 0]) ∧ w.heap.size ≤ G ∧ Parts w' w.heap.size G P vs (fun p => partL L P p)) ∨ (L.all isKey = false ∧ e = .returned (.tuple #[.slice none 0 0, .int .i64 20]))) ∧ Below w.heap.size w w' := by
  have HN : Hid (n = L.length) := hn
  have HK : Hid (KeysAt w ao L) := h
  have HIN : Hid (∀ k ∈ L, In64 k.2) := hin
  have HAll : Hid _ := refAll_any w ao cap n L hn h (by omega)
  have hmk := make_lists P hP
  have d1 : decide ((P : Int) < 1) = false := by simp; omega
  have d2 : decide ((256 : Int) < P) = false := by simp; omega
  clear hn h hin
  by_cases hall : L.all isKey = true
  case neg =>
    have hall' : L.all isKey = false := by simpa using hall
    have HE : Hid (L.all isKey = false) := hall'
    rw [hall'] at HAll
    clear hall hall'
    go_enter Try.func54, Try.ntmps54
    go_wp2_with fail
    refine Calls.mono HAll.out ?_
    rintro e w1 ⟨rfl, g1⟩
    have HG1 : Hid (Below w.heap.size w w1) := Grew.below g1
    clear g1
    go_wp2
    go_ret2
    exact ⟨.inr ⟨HE.out, rfl⟩, HG1.out⟩
  case pos =>
    have HE : Hid (L.all isKey = true) := hall
    rw [hall] at HAll
    clear hall
    go_enter Try.func54, Try.ntmps54
    go_wp2_with fail
    refine Calls.mono HAll.out ?_
    rintro e w1 ⟨rfl, g1⟩
    have HG1 : Hid (Below w.heap.size w w1) := Grew.below g1
    clear g1 HAll
    go_wp2_with fail
    have HP0 : Hid (Parts (w1.alloc (.cells (outer (fun _ => .slice none 0 0) P) 29)) w.heap.size w1.heap.size P (fun _ => .slice none 0 0) (fun p => partL (L.take 0) P p)) := by
      refine ⟨heap_alloc_new _ _ rfl, fun p hp => ?_, (fun p q _ _ _ b hb => by cases hb), (fun p _ hb => by cases hb)⟩
      simpa [partL] using OwnK.nil _ _
    have HB0 : Hid (Below w.heap.size w (w1.alloc (.cells (outer (fun _ => .slice none 0 0) P) 29))) := HG1.out.trans (((Grew.refl w1).alloc _).below.mono HG1.out.size)
    have HGs : Hid (w.heap.size ≤ w1.heap.size) := HG1.out.size
    generalize w1.alloc (.cells (outer (fun _ => .slice none 0 0) P) 29) = W0 at *
    generalize w1.heap.size = G at *
    clear HG1 hmk
    go_loopw [8, 9, 10] (fun y _ _ wr => ∃ (k : Nat) (vs : Nat → Value), k ≤ n ∧ y = .int .i64 (k : Int) ∧ Hid (Parts wr w.heap.size G P vs (fun p => partL (L.take k) P p)) ∧ Hid (Below w.heap.size w wr)) (fun y _ _ _ => n - (intOf y).toNat)
    case atStart => exact ⟨0, _, Nat.zero_le _, rfl, HP0, HB0⟩
    case round =>
      clear HP0 HB0
      obtain ⟨k, vs, hk, rfl, HPt, HB⟩ := hrel
      by_cases hlt : k < n
      · have hl : k < L.length := by have := HN.out; omega
        have HK2 := HK.out.kept HB.out
        rcases HK2 with h0 | ⟨b, off, rfl, hc⟩
        · rw [h0] at hl; simp at hl
        · obtain ⟨c1, c2⟩ := KeysAt.at hc k hl
          have hir := HIN.out _ (kd_mem hl)
          have HT : Hid (L.take (k + 1) = L.take k ++ [kd L k]) := take_kd L k hl
          have hlen : (partL (L.take k) P (pn (kd L k) P)).length ≤ k := Nat.le_trans (partL_len _ _ _) (by simp; omega)
          have hik : isKey (kd L k) = true := by have := HE.out; rw [List.all_eq_true] at this; exact this _ (kd_mem hl)
          generalize kd L k = kk at *
          obtain ⟨t, r⟩ := kk
          simp only at c1 c2 hir
          have HPart : Hid (∀ w, Calls Try.prog 69 #[.agg #[.int .i64 t, .int .i64 r], .int .i64 (P : Int)] w fun e w' => e = .returned (.tuple #[.int .i64 (pn (t, r) P : Int), .int .i64 0]) ∧ ∃ q os, w' = grow (w.drewN q) os) := fun w => by
            have h := refPartition_any w t r P hir
            have hok : okParts (P : Int) = true := (okParts_iff _).2 (by omega)
            have e1 : partV (t, r) P = (pn (t, r) P : Int) := by unfold partV pn; rw [if_pos hik, if_pos hok]; simp
            have e2 : partE (t, r) P = 0 := by unfold partE; rw [if_pos hik, if_pos hok]
            rwa [e1, e2] at h
          have hpP : pn (t, r) P < P := Nat.mod_lt _ (by omega)
          have HU : Hid _ := partL_upd (L.take k) P (t, r)
          generalize hpv : pn (t, r) P = p at *
          clear hc hl hik hir hpv
          go_wp2_with fail
          refine Calls.mono (HPart.out wr) ?_
          rintro e w2 ⟨rfl, g2⟩
          have HG2 : Hid (Grew wr w2) := g2
          have HP2 : Hid (Parts w2 w.heap.size G P vs (fun p => partL (L.take k) P p)) := HPt.out.kept HG2.out.below
          have HB2 : Hid (Below w.heap.size w w2) := HB.out.trans (HG2.out.below.mono HB.out.size)
          have p1 : w2.cell? ⟨b, off + k * 2, none⟩ = some (.int .i64 t) := HG2.out.cell c1
          have p2 : w2.cell? ⟨b, off + k * 2 + 1, none⟩ = some (.int .i64 r) := HG2.out.cell c2
          clear g2 HPart HG2 c1 c2
          have cG := HP2.out.cell p hpP
          have fG := HP2.out.frozen p
          have hpP' : (p : Int) < (P : Int) := by omega
          go_wp2_with fail
          have HO2 : Hid (OwnK w2 w.heap.size (vs p) (partL (L.take k) P p)) := HP2.out.own p hpP
          have HPU : Hid (∀ (w3 : World) (v' : Value), OwnK w3 w.heap.size v' (partL (L.take k) P p ++ [(t, r)]) → (w2.drew.alloc (.cells #[.int .i64 t, .int .i64 r] 28)).grownBy w3 (vs p).ownBlock → (v'.ownBlock = (vs p).ownBlock ∨ v'.ownBlock = some (w2.drew.alloc (.cells #[.int .i64 t, .int .i64 r] 28)).heap.size) →
              w3.cell? ⟨G, p, none⟩ = some (vs p) ∧ w3.frozen? ⟨G, p, none⟩ = false ∧ Hid (Parts (w3.setCell ⟨G, p, none⟩ v') w.heap.size G P (updf vs p v') (fun p => partL (L.take (k + 1)) P p)) ∧ Hid (Below w.heap.size w (w3.setCell ⟨G, p, none⟩ v'))) := by
            intro w3 v' h1 h2 h3
            have hg := grown_alloc'' (w := w2.drew) w3 h2
            have hPt : Parts w2.drew w.heap.size G P vs (fun p => partL (L.take k) P p) := HP2.out.kept ⟨rfl, rfl, rfl, Nat.le_refl _, fun _ _ => rfl⟩
            have hr3 : w3.heap[G]? = some (.cells (outer vs P) 29 (0, 0)) := (hg.block _ (Array.getElem?_eq_some_iff.1 hPt.row).1 (fun e => hPt.notG p hpP e.symm)).trans hPt.row
            refine ⟨?_, frozen_of_row _ _ _ _ _ hr3, ?_, ?_⟩
            · have := outer_at vs P p hpP
              simp [World.cell?, hr3, this]
            · have := hPt.put p hpP h1 hg (h3.imp id (fun e => ⟨_, e, by simp⟩))
              rw [HT.out]
              rwa [← HU.out] at this
            · have hb1 : Below w.heap.size w2.drew w3 := grown_below hg (fun b hb => ((HO2.out.lt b hb).1)) (HB2.out.size)
              have hb2 : Below w.heap.size w3 (w3.setCell ⟨G, p, none⟩ v') := ⟨rfl, rfl, rfl, by simp, fun b hb => heap_setCell_other w3 ⟨G, p, none⟩ b v' (by have := HGs.out; simp; omega)⟩
              have hb0 : Below w.heap.size w2 w2.drew := ⟨rfl, rfl, rfl, Nat.le_refl _, fun _ _ => rfl⟩
              exact (HB2.out.trans hb0).trans (hb1.trans hb2)
          have cGa : (w2.alloc (.cells #[.int .i64 t, .int .i64 r] 28)).cell? ⟨G, p, none⟩ = some (vs p) := Grew.cell ((Grew.refl w2).alloc _) cG
          clear HT HU
          go_region_law (refine step_append_keys rfl _ _ rfl w.heap.size (vs p) (partL (L.take k) P p) rfl (OwnK.alloc (w := w2.drew) HO2.out _) _ _ _ [(t, r)] rfl rfl (key_src w2.drew _ t r rfl) (by simp) (by simp; omega) (by have := HB2.out.size; simp; omega) ?_; intro v' w3 hown3 hgrow3 hat3; obtain ⟨a3, k3, hv3, _, _, _⟩ := hown3.slice; obtain ⟨c3, f3, HP3, HB3⟩ := HPU.out w3 v' hown3 hgrow3 hat3; rw [List.length_append] at hv3; subst hv3; clear hown3 hgrow3 hat3)
          all_goals go_wp2
          all_goals go_roundw
          all_goals first | exact ⟨k + 1, _, by omega, by go_num, HP3, HB3⟩ | (simp [intOf]; omega)
      · obtain rfl : k = n := by omega
        have HF : Hid (Parts wr w.heap.size G P vs (fun p => partL L P p)) := by have := HPt.out; rwa [HN.out, List.take_length] at this
        go_wp2
        go_ret2
        exact ⟨.inl ⟨HE.out, vs, _, rfl, HGs.out, HF.out⟩, HB.out⟩
set_option maxHeartbeats 1000000 in
theorem refSplit_parts (w : World) (v : Value) (p : Int) (hp : okParts p = false) :
    Calls Try.prog 54 #[v, .int .i64 p] w fun e w' => e = .returned (.tuple #[.slice none 0 0, .int .i64 21]) ∧ Below w.heap.size w w' := by
  have hq : p < 1 ∨ 256 < p := by
    have : ¬ okParts p = true := by rw [hp]; decide
    rw [okParts_iff] at this; omega
  clear hp
  by_cases h1 : p < 1
  · clear hq
    go_enter Try.func54, Try.ntmps54
    go_wp2
    go_ret2
    exact ⟨rfl, Below.refl _ _⟩
  · have h2 : 256 < p := by omega
    have d1 : decide (p < 1) = false := by simpa using h1
    clear hq
    go_enter Try.func54, Try.ntmps54
    go_wp2
    go_ret2
    exact ⟨rfl, Below.refl _ _⟩

end Go.Proofs.Ytnjgaibcpcpmcab
