/-
  told: a partition's keys with their values.
-/
import Derived.Test.YtgaolpfpenaflaaDSame
namespace Go.Proofs.Ytgaolpfpenaflaa
open Go.RowKit Go.Sort

theorem part_ok_mixed : ∃ h, PartOK 8 h ∧ HashOK 8 h ∧ ∀ k, h k < 18446744073709551616 := by
  obtain ⟨h, h1, h2⟩ := hash_mixed
  exact ⟨h, fun w D M L P es k hd => part_mixed h h1 h2 w D M L P es k hd, h1, h2⟩
theorem part_ok_rough : ∃ h, PartOK 9 h ∧ HashOK 9 h ∧ ∀ k, h k < 18446744073709551616 := by
  obtain ⟨h, h1, h2⟩ := hash_rough
  exact ⟨h, fun w D M L P es k hd => part_rough h h1 h2 w D M L P es k hd, h1, h2⟩

theorem cks_set1 (L : List K) (j : Nat) (x : Int) : (cks L).set (j * 2) (.int .i64 x) = cks (L.set j (x, (kd L j).2)) := by
  induction L generalizing j with
  | nil => simp [cks]
  | cons k L ih =>
    cases j with
    | zero => simp [cks, kd]
    | succ j =>
      rw [kd_cons_succ, show (j + 1) * 2 = j * 2 + 1 + 1 by omega]
      simp [cks, ih]

theorem mem_ptI {P : Nat} {p : Int} {es : List En} {e : En} (h : e ∈ ptI P p es) : e ∈ es ∧ (e.p : Int) = p := by
  unfold ptI at h
  split at h
  · rename_i hp
    obtain ⟨h1, h2⟩ := pt_mem.1 h
    exact ⟨h1, by omega⟩
  · simp at h
theorem two_src (w : World) : KeysAt (w.alloc (.cells #[.int .i64 (-99), .int .i64 0, .int .i64 (-98), .int .i64 0] 28)) (some ⟨w.heap.size, 0, none⟩) [(-99, 0), (-98, 0)] := by
  refine .inr ⟨w.heap.size, 0, rfl, fun j u hu => ?_⟩
  have hb := heap_alloc_new (w := w) (.cells #[.int .i64 (-99), .int .i64 0, .int .i64 (-98), .int .i64 0] 28) w.heap.size rfl
  rw [World.cell?, hb]
  simp only [cks] at hu
  simpa using hu

set_option maxRecDepth 100000 in
set_option maxHeartbeats 1000000 in
theorem told_any (w : World) (D M L P : Nat) (hf : Value) (es : List En) (p : Int) (h : DA w D M L hf P es) (hm : es.length ≤ 4000000000000) :
    Calls Try.prog 13 #[ptr D, .int .i64 p] w fun e w' => ∃ v', e = .returned v' ∧ OwnQ w' w.heap.size v' (ptI P p es) ∧ Below w.heap.size w w' := by
  have HD : Hid (DA w D M L hf P es) := h
  clear h
  have hlen : (ptI P p es).length ≤ es.length := by unfold ptI; split; · exact List.length_filter_le _ _
                                                    · simp
  have hmm : (ptI P p es).length * 16 ≤ 281474976710656 := by omega
  obtain ⟨l, hl⟩ : ∃ l, l = ptI P p es := ⟨_, rfl⟩
  obtain ⟨n, hn⟩ : ∃ n, n = l.length := ⟨_, rfl⟩
  have HN : Hid (n = l.length) := hn
  have hnm : n ≤ 4000000000000 := by rw [hn, hl]; omega
  go_enter Try.func13, Try.ntmps13
  go_wp2_with fail
  refine (keys_any w D M L P hf es p HD.out hmm).mono ?_
  rintro e w1 ⟨ga, rfl, HA1, hb1⟩
  have HB1 : Hid (Below w.heap.size w w1) := hb1
  go_wp2_with fail
  refine (keys_any w1 D M L P hf es p (HD.out.kept HB1.out) hmm).mono ?_
  rintro e w2 ⟨gb, rfl, HG1, hb2⟩
  rw [← hl, ← hn] at HA1 HG1 ⊢
  have HL : Hid (l = ptI P p es) := hl
  have HB2 : Hid (Below w.heap.size w w2) := HB1.out.trans (hb2.mono HB1.out.size)
  have HA2 : Hid (OwnK w2 w.heap.size (.slice (some ⟨ga, 0, none⟩) n n) (l.map En.k)) := by
    have h1 : OwnK w1 w.heap.size (.slice (some ⟨ga, 0, none⟩) n n) (l.map En.k) := by unfold OwnK; rw [List.length_map, ← HN.out]; exact HA1.out
    exact h1.kept hb2
  have HG2 : Hid (OwnK w2 w.heap.size (.slice (some ⟨gb, 0, none⟩) n n) (l.map En.k)) := by
    have h1 : OwnK w2 w1.heap.size (.slice (some ⟨gb, 0, none⟩) n n) (l.map En.k) := by unfold OwnK; rw [List.length_map, ← HN.out]; exact HG1.out
    exact h1.mono HB1.out.size
  have hab : ga ≠ gb := by
    have h1 := (HA1.out.lt ga rfl).2
    have h2 := (HG1.out.lt gb rfl).1
    omega
  clear HA1 HG1 HB1 hb1 hb2 hl hn hmm hlen
  go_wp2
  go_loopw [8] (fun i wr => ∃ j : Nat, j ≤ n ∧ i = .int .i64 (j : Int) ∧ Hid (∃ La : List K, La.length = n ∧ OwnK wr w.heap.size (.slice (some ⟨ga, 0, none⟩) n n) La) ∧ Hid (OwnK wr w.heap.size (.slice (some ⟨gb, 0, none⟩) n n) (l.map En.k)) ∧ Hid (Below w.heap.size w wr)) (fun i _ => n - (intOf i).toNat)
  case atStart => exact ⟨0, Nat.zero_le _, rfl, ⟨_, by simp [HN.out], HA2.out⟩, HG2, HB2⟩
  case round =>
    obtain ⟨j, hj, rfl, HA, HG, HW⟩ := hrel
    by_cases hlt : j < n
    · obtain ⟨La, hLa, hown⟩ := HA.out
      rcases hown.shape with ⟨h0, _⟩ | ⟨g, cap, h0, hbg, hgl, hcap, hmx, hpr⟩
      · cases h0
      obtain ⟨b, off, hao, hcc⟩ : ∃ b off, some (⟨g, 0, none⟩ : Addr) = some ⟨b, off, none⟩ ∧ ∀ j u, (cks La)[j]? = some u → wr.cell? ⟨b, off + j, none⟩ = some u := by
        rcases hpr with h1 | h1
        · rw [h1] at hLa; simp at hLa; omega
        · exact h1
      cases hao
      have hga : g = ga := by injection h0 with h0 _ _; injection h0 with h0; injection h0 with h0; exact h0.symm
      subst hga
      obtain ⟨y0, y1⟩ := KeysAt.at hcc j (by omega)
      simp only [Nat.zero_add] at y0 y1
      have hst := World.ownsRow.stored (w := wr) (g := g) (n := n) (cap := n) (by have := hown; unfold OwnK at this; rw [hLa] at this; exact this) (j * 2) (.int .i64 (-1 - (j : Int)))
      have fg : wr.frozen? ⟨g, j * 2, none⟩ = false := by
        rcases hown.2 with ⟨h0, _⟩ | ⟨g', cap', cur, e', _, hg', _⟩
        · cases h0
        · cases e'; exact frozen_of_row _ _ _ _ _ hg'
      have HA5 : Hid (∃ La : List K, La.length = n ∧ OwnK (wr.setCell ⟨g, j * 2, none⟩ (.int .i64 (-1 - (j : Int)))) w.heap.size (.slice (some ⟨g, 0, none⟩) n n) La) := by
        refine ⟨La.set j (-1 - (j : Int), (kd La j).2), by simp [hLa], ?_⟩
        unfold OwnK
        rw [← cks_set1, List.length_set, hLa]
        exact hst.1
      have HG5 : Hid (OwnK (wr.setCell ⟨g, j * 2, none⟩ (.int .i64 (-1 - (j : Int)))) w.heap.size (.slice (some ⟨gb, 0, none⟩) n n) (l.map En.k)) := HG.out.same (fun q hq => by cases hq; exact heap_setCell_other wr ⟨g, j * 2, none⟩ gb _ (fun e => hab (by simpa using e.symm)))
      have HW5 : Hid (Below w.heap.size w (wr.setCell ⟨g, j * 2, none⟩ (.int .i64 (-1 - (j : Int))))) := ((Fr.ofBelow (S := fun _ => False) HW.out).set ⟨g, j * 2, none⟩ _ (.inl hbg)).below (Nat.le_refl _) (fun _ hk => hk.elim)
      clear hst hcc hpr h0 hown HA HG HW
      go_wp2
      go_roundw
      case rel => exact ⟨j + 1, by omega, by go_num, HA5, HG5, HW5⟩
      case measure => simp [intOf]; omega
    · obtain rfl : j = n := by omega
      obtain ⟨La, hLa, hown⟩ := HA.out
      have HO : Hid (OwnK (wr.alloc (.cells #[.int .i64 (-99), .int .i64 0, .int .i64 (-98), .int .i64 0] 28)) w.heap.size (.slice (some ⟨ga, 0, none⟩) j j) La) := hown.alloc _
      have HBa : Hid (Below w.heap.size w (wr.alloc (.cells #[.int .i64 (-99), .int .i64 0, .int .i64 (-98), .int .i64 0] 28))) := HW.out.alloc HW.out.size _
      have HGa : Hid (OwnK (wr.alloc (.cells #[.int .i64 (-99), .int .i64 0, .int .i64 (-98), .int .i64 0] 28)) w.heap.size (.slice (some ⟨gb, 0, none⟩) j j) (l.map En.k)) := HG.out.alloc _
      have hsz := HW.out.size
      clear hown HA HG HW
      go_wp2_with (at_builtin; refine wpList_append_keys rfl _ _ rfl w.heap.size (.slice (some ⟨ga, 0, none⟩) j j) La rfl HO.out (some ⟨wr.heap.size, 0, none⟩) 2 2 [(-99, 0), (-98, 0)] rfl rfl (two_src wr) (by simp) (by simp; omega) (by simp only [World.size_alloc]; omega) ?_; intro v5 w5 ho5 hg5 _; have HB5 : Hid (Below w.heap.size w w5) := HBa.out.trans (grown_below hg5 (fun q hq => (HO.out.lt q hq).1) HBa.out.size); have HG5 : Hid (OwnK w5 w.heap.size (.slice (some ⟨gb, 0, none⟩) j j) (l.map En.k)) := World.ownsRow.kept HGa.out hg5 (.inr (fun e => hab (by simpa [Value.ownBlock] using e.symm))); obtain ⟨a5, n5, cp5, e5, hn5⟩ : ∃ a n c, v5 = .slice a n c ∧ n = j + 2 := (by obtain ⟨a, c, e, _⟩ := ho5.slice; exact ⟨a, _, c, e, by simp [hLa]⟩); subst e5 hn5; clear ho5 hg5 HO HBa HGa)
      have HE : Hid (∀ (i : Nat) (hi : i < l.length), KIn l[i].k ∧ fd es l[i].k = some l[i] ∧ (l[i].p : Int) = p) := fun i hi => by
        have h1 : l[i] ∈ ptI P p es := by rw [← HL.out]; exact List.getElem_mem hi
        have h2 := mem_ptI h1
        exact ⟨(HD.out.pp _ h2.1).2.1, fd_of HD.out.kn h2.1, h2.2⟩
      have HDk : Hid (∀ W, Below w5.heap.size w5 W → DA W D M L hf P es) := fun W hW => HD.out.kept (HB5.out.trans (hW.mono HB5.out.size))
      have HGk : Hid (∀ W, Below w5.heap.size w5 W → ∀ (i : Nat) (hi : i < l.length), W.cell? ⟨gb, i * 2, none⟩ = some (.int .i64 l[i].k.1) ∧ W.cell? ⟨gb, i * 2 + 1, none⟩ = some (.int .i64 l[i].k.2)) := fun W hW i hi => by
        rcases (HG5.out.kept hW).shape with ⟨h0, _⟩ | ⟨g, cap, h0, _, _, _, _, hpr⟩
        · cases h0
        have hga : g = gb := by injection h0 with h0 _ _; injection h0 with h0; injection h0 with h0; exact h0.symm
        subst hga
        rcases hpr with h1 | ⟨b, off, hao, hcc⟩
        · rw [List.map_eq_nil_iff] at h1; rw [h1] at hi; simp at hi
        · cases hao
          have h2 := KeysAt.at hcc i (by simpa using hi)
          rw [show kd (l.map En.k) i = l[i].k by simp [kd, hi]] at h2
          simpa using h2
      have HBf : Hid (Below w.heap.size w w5) := HB5
      have hs5 := HB5.out.size
      clear HG5 HD HB5 hLa hlt hj
      go_wp2
      go_loopw [5, 9] (fun r i wr => ∃ (q : Nat) (a : Option Addr) (m c : Nat), q ≤ j ∧ r = .slice a m c ∧ i = .int .i64 (q : Int) ∧ Hid (OwnQ wr w5.heap.size (.slice a m c) (l.take q)) ∧ Hid (Below w5.heap.size w5 wr)) (fun _ i _ => j - (intOf i).toNat)
      case atStart => exact ⟨0, none, 0, 0, Nat.zero_le _, rfl, rfl, OwnQ.nil _ _, Below.refl _ _⟩
      case round =>
        obtain ⟨q, a, m, c, hq, rfl, rfl, HO, HW⟩ := hrel
        by_cases hlt : q < j
        · have hql : q < l.length := by have := HN.out; omega
          obtain ⟨y0, y1⟩ := HGk.out _ HW.out q hql
          obtain ⟨hk, hfd, hxp⟩ := HE.out q hql
          have HT : Hid (l.take (q + 1) = l.take q ++ [l[q]]) := List.take_succ_eq_append_getElem hql
          have HYk : Hid (∀ W, Below w5.heap.size w5 W → W.cell? ⟨gb, q * 2, none⟩ = some (.int .i64 l[q].k.1) ∧ W.cell? ⟨gb, q * 2 + 1, none⟩ = some (.int .i64 l[q].k.2)) := fun W hW => HGk.out W hW q hql
          generalize l[q] = x at *
          go_wp2_with fail
          refine (get_any wr D M L P hf es x.k (HDk.out _ HW.out) hk).mono ?_
          rintro e w6 ⟨rfl, hb6⟩
          rw [hfd]
          simp only [vv, Option.isSome_some]
          have HW6 : Hid (Below w5.heap.size w5 w6) := HW.out.trans (hb6.mono HW.out.size)
          have HO6 : Hid (OwnQ w6 w5.heap.size (.slice a m c) (l.take q)) := HO.out.kept hb6
          obtain ⟨z0, z1⟩ := HYk.out _ HW6.out
          have hs6 := HW6.out.size
          have HBa : Hid (Below w5.heap.size w5 (w6.alloc (.cells #[.int .i64 x.k.1, .int .i64 x.k.2, .int .i64 x.v, .int .i64 p] TQ))) := HW6.out.alloc hs6 _
          have HSr : Hid (PrAt (w6.alloc (.cells #[.int .i64 x.k.1, .int .i64 x.k.2, .int .i64 x.v, .int .i64 p] TQ)) (some ⟨w6.heap.size, 0, none⟩) [x]) := pr_src w6 _ _ _ _ x rfl rfl rfl hxp
          clear hb6 HW HO y0 y1
          go_wp2_with (at_builtin; refine wpList_append_q rfl _ _ rfl w5.heap.size (.slice a m c) (l.take q) rfl (HO6.out.alloc _) (some ⟨w6.heap.size, 0, none⟩) 1 1 [x] rfl rfl HSr.out (by simp) (by simp; omega) (by simp only [World.size_alloc]; omega) ?_; intro v7 w7 ho7 hg7 _; have HO7 : Hid (OwnQ w7 w5.heap.size v7 (l.take (q + 1))) := (by rw [Hid, HT.out]; exact ho7); have HB7 : Hid (Below w5.heap.size w5 w7) := HBa.out.trans (grown_below hg7 (fun q hq => (HO6.out.lt q hq).1) HBa.out.size); obtain ⟨a7, n7, cp7, e7⟩ : ∃ a n c, v7 = .slice a n c := (by obtain ⟨a, c, e, _⟩ := ho7.slice; exact ⟨a, _, c, e⟩); subst e7; clear ho7 hg7)
          go_wp2
          go_roundw
          case rel => exact ⟨q + 1, a7, n7, cp7, by omega, rfl, by go_num, HO7, HB7⟩
          case measure => simp [intOf]; omega
        · obtain rfl : q = j := by omega
          have HOf : Hid (OwnQ wr w5.heap.size (.slice a m c) l) := by
            have := HO.out
            rw [List.take_of_length_le (by have := HN.out; omega)] at this
            exact this
          go_wp2
          go_ret
          exact ⟨_, rfl, by rw [← HL.out]; exact HOf.out.mono hs5, HBf.out.trans (HW.out.mono hs5)⟩
end Go.Proofs.Ytgaolpfpenaflaa
