/-
  THE WALK OF LangVerifies.
-/
import Derived.Test.YtjmlogljfboleaaLVMath
namespace Go.Proofs.Ytjmlogljfboleaa
open Go.RowKit Go.Sort

/-- what stands behind the calls -/
structure VS (w W : World) (p : Nums) (ao : Option Addr) (n cap G B3 : Nat) (L : List K) : Prop where
  b0 : PBox W w.heap.size p ao n cap
  b3 : PBox W B3 p (some ⟨G, 0, none⟩) n (n + 2)
  row : RowK W G (L ++ marks)
  bel : Below w.heap.size w W
theorem VS.kept {w W W' : World} {p : Nums} {ao : Option Addr} {n cap G B3 : Nat} {L : List K} (h : VS w W p ao n cap G B3 L) (hb : Below W.heap.size W W') : VS w W' p ao n cap G B3 L :=
  ⟨h.b0.kept hb, h.b3.kept hb, h.row.kept hb, h.bel.trans (hb.mono h.bel.size)⟩
theorem VS.below {w W W' : World} {p : Nums} {ao : Option Addr} {n cap G B3 B : Nat} {L : List K} (h : VS w W p ao n cap G B3 L) (hb : Below B W W') (hB : W.heap.size ≤ B) : VS w W' p ao n cap G B3 L := h.kept (hb.mono hB)

/-- what stands when all is laid -/
structure FS (w W : World) (p : Nums) (ao aw : Option Addr) (n cap G B3 ga gb bx by' k : Nat) (L : List K) (D : List Int) : Prop where
  ia : IRead W ga (negs k)
  ib : IRead W gb D
  xr : IRead W bx (negs k ++ adds 1000 40)
  yr : IRead W by' (D ++ adds 2000 40)
  wd : WantI W aw D
  vs : VS w W p ao n cap G B3 L
theorem FS.kept {w W W' : World} {p : Nums} {ao aw : Option Addr} {n cap G B3 ga gb bx by' k : Nat} {L : List K} {D : List Int} (h : FS w W p ao aw n cap G B3 ga gb bx by' k L D) (hb : Below W.heap.size W W') : FS w W' p ao aw n cap G B3 ga gb bx by' k L D :=
  ⟨h.ia.kept hb, h.ib.kept hb, h.xr.kept hb, h.yr.kept hb, h.wd.kept hb, h.vs.kept hb⟩

set_option maxRecDepth 100000 in
set_option maxHeartbeats 2000000 in
theorem verifies_walk (w : World) (p : Nums) (ao : Option Addr) (n cap : Nat) (L : List K) (hp : NIn p) (h : KeysAt w ao L) (hn : n = L.length) (hm : n * 16 ≤ 140737488351232) :
    Calls Try.prog 3 #[pv p ao n cap] w fun e w' => e = .returned (.bool true) ∧ Below w.heap.size w w' := by
  have HL : Hid (KeysAt w ao L) := h
  have HN : Hid (n = L.length) := hn
  have HP : Hid (NIn p) := hp
  clear h hn hp
  go_enter Try.func3, Try.ntmps3
  go_wp2_with fail
  have hB0 : Below w.heap.size w (w.alloc (.cells #[.int .i64 p.args, .int .i64 p.reads, .int .i64 p.writes, .int .i64 p.locals, .slice ao n cap] 24)) := (Below.refl _ _).alloc (Nat.le_refl _) _
  refine (roomy_any _ p ao n cap L (HL.out.kept hB0) HN.out hm).mono ?_
  rintro e w1 ⟨G, rfl, hrow, hb1, hG⟩
  have HP1 : Hid (PBox w1 w.heap.size p ao n cap) := (PBox.new w p ao n cap).kept hb1
  have HW1 : Hid (Below w.heap.size w w1) := hB0.trans (hb1.mono hB0.size)
  have HVS : Hid (VS w (w1.alloc (.cells #[.int .i64 p.args, .int .i64 p.reads, .int .i64 p.writes, .int .i64 p.locals, .slice (some ⟨G, 0, none⟩) n (n + 2)] 24)) p ao n cap G w1.heap.size L) := by
    have hA : Below w1.heap.size w1 (w1.alloc (.cells #[.int .i64 p.args, .int .i64 p.reads, .int .i64 p.writes, .int .i64 p.locals, .slice (some ⟨G, 0, none⟩) n (n + 2)] 24)) := (Below.refl _ _).alloc (Nat.le_refl _) _
    exact ⟨HP1.out.kept hA, PBox.new w1 p _ _ _, hrow.kept hA, HW1.out.trans (hA.mono HW1.out.size)⟩
  obtain ⟨x0, x1, x2, x3, x4⟩ := HVS.out.b0.cells
  clear hrow hb1 hB0 HP1 HW1 hG
  go_wp2_with fail
  generalize w1.alloc (.cells #[.int .i64 p.args, .int .i64 p.reads, .int .i64 p.writes, .int .i64 p.locals, .slice (some ⟨G, 0, none⟩) n (n + 2)] 24) = W1 at *
  generalize w1.heap.size = B3 at *
  clear x0 x1 x2 x3 x4
  refine (refDepths_any W1 p ao n cap L (HL.out.kept HVS.out.bel) HN.out).mono ?_
  rintro e W2 ⟨hd, hb2⟩
  obtain ⟨aw, cw, rfl, hw2⟩ := hd.got
  have HV2 : Hid (VS w W2 p ao n cap G B3 L) := HVS.out.kept hb2
  have HW2 : Hid (WantI W2 aw (depthsN p L).1) := hw2
  clear hd hw2 hb2 HVS
  obtain ⟨x0, x1, x2, x3, x4⟩ := HV2.out.b0.cells
  go_wp2_with fail
  refine (refLongest_any W2 p ao n cap L (HL.out.kept HV2.out.bel) HN.out).mono ?_
  rintro e W3 ⟨rfl, hb3⟩
  have HV3 : Hid (VS w W3 p ao n cap G B3 L) := HV2.out.kept hb3
  have HW3 : Hid (WantI W3 aw (depthsN p L).1) := HW2.out.kept hb3
  clear hb3 HV2 HW2 x0 x1 x2 x3 x4
  obtain ⟨x0, x1, x2, x3, x4⟩ := HV3.out.b3.cells
  go_wp2_with fail
  refine (depths_any W3 p (some ⟨G, 0, none⟩) n (n + 2) L HP.out HV3.out.row.keys HN.out).mono ?_
  rintro e W4 ⟨hd, hb4⟩
  obtain ⟨va, ga, rfl, hga⟩ := hd.got (by have := HV3.out.b0.lt; have := hb4.size; omega)
  have HV4 : Hid (VS w W4 p ao n cap G B3 L) := HV3.out.kept hb4
  have HQ4 : Hid (Below W3.heap.size W3 W4) := hb4
  have HW4 : Hid (WantI W4 aw (depthsN p L).1) := HW3.out.kept hb4
  have HA4 : Hid (GotI W4 W3.heap.size va (depthsN p L).1 ga) := hga
  clear hd hga x0 x1 x2 x3 x4
  obtain ⟨x0, x1, x2, x3, x4⟩ := HV4.out.b3.cells
  go_wp2_with fail
  refine (depths_any W4 p (some ⟨G, 0, none⟩) n (n + 2) L HP.out HV4.out.row.keys HN.out).mono ?_
  rintro e W5 ⟨hd, hb5⟩
  obtain ⟨vb, gb, rfl, hgb⟩ := hd.got (by have := HV4.out.b0.lt; have := hb5.size; omega)
  have HQ5 : Hid (Below W3.heap.size W3 W5) := HQ4.out.trans (hb5.mono HQ4.out.size)
  have HV5 : Hid (VS w W5 p ao n cap G B3 L) := HV4.out.kept hb5
  have HW5 : Hid (WantI W5 aw (depthsN p L).1) := HW4.out.kept hb5
  have HA5 : Hid (GotI W5 W3.heap.size va (depthsN p L).1 ga) := HA4.out.kept hb5
  have HB5 : Hid (GotI W5 W4.heap.size vb (depthsN p L).1 gb) := hgb
  have HNe : Hid ((depthsN p L).1 ≠ [] → ga ≠ gb) := fun hD => by
    obtain ⟨_, _, hf⟩ := hgb.form
    have := (hf hD).2
    have := HA4.out.lt
    omega
  have HS34 : Hid (W3.heap.size ≤ W4.heap.size) := hb4.size
  clear hd hgb x0 x1 x2 x3 x4 hb4 HV4 HW4 HA4
  obtain ⟨x0, x1, x2, x3, x4⟩ := HV5.out.b3.cells
  go_wp2_with fail
  refine (longest_any W5 p (some ⟨G, 0, none⟩) n (n + 2) L HP.out HV5.out.row.keys HN.out).mono ?_
  rintro e W6 ⟨rfl, hb6⟩
  have HQ6 : Hid (Below W3.heap.size W3 W6) := HQ5.out.trans (hb6.mono HQ5.out.size)
  have HV6 : Hid (VS w W6 p ao n cap G B3 L) := HV5.out.kept hb6
  have HW6 : Hid (WantI W6 aw (depthsN p L).1) := HW5.out.kept hb6
  have HA6 : Hid (GotI W6 W3.heap.size va (depthsN p L).1 ga) := HA5.out.kept hb6
  have HB6 : Hid (GotI W6 W4.heap.size vb (depthsN p L).1 gb) := HB5.out.kept hb6
  clear x0 x1 x2 x3 x4 hb5 hb6 HV5 HW5 HA5 HB5
  obtain ⟨x0, x1, x2, x3, x4⟩ := HV6.out.b3.cells
  go_wp2_with fail
  refine (verify_any W6 p (some ⟨G, 0, none⟩) n (n + 2) L HP.out HV6.out.row.keys HN.out).mono ?_
  rintro e W7 ⟨rfl, hb7⟩
  have HQ7 : Hid (Below W3.heap.size W3 W7) := HQ6.out.trans (hb7.mono HQ6.out.size)
  have HV7 : Hid (VS w W7 p ao n cap G B3 L) := HV6.out.kept hb7
  have HW7 : Hid (WantI W7 aw (depthsN p L).1) := HW6.out.kept hb7
  have HA7 : Hid (GotI W7 W3.heap.size va (depthsN p L).1 ga) := HA6.out.kept hb7
  have HB7 : Hid (GotI W7 W4.heap.size vb (depthsN p L).1 gb) := HB6.out.kept hb7
  clear x0 x1 x2 x3 x4 hb7 HV6 HW6 HA6 HB6
  have hsm := depths_small p L
  generalize (depthsN p L).1 = D at *
  generalize verifyN p L = v at *
  generalize (longestN p L).1 = l1 at *
  generalize (longestN p L).2 = l2 at *
  obtain ⟨aa, rfl, hwa⟩ := HA7.out.want
  obtain ⟨ab, rfl, hwb⟩ := HB7.out.want
  have HWA : Hid (WantI W7 aa D) := hwa
  have HWB : Hid (WantI W7 ab D) := hwb
  clear hwa hwb
  go_wp2_with fail
  refine (sameInts_eq W7 aa aw D.length D.length cw D HWA.out HW7.out rfl (by omega)).mono ?_
  rintro e W8 ⟨rfl, g8⟩
  have hb8 := Grew.below g8
  have HQ8 : Hid (Below W3.heap.size W3 W8) := HQ7.out.trans (hb8.mono HQ7.out.size)
  have HV8 : Hid (VS w W8 p ao n cap G B3 L) := HV7.out.kept hb8
  have HW8 : Hid (WantI W8 aw D) := HW7.out.kept hb8
  have HA8 : Hid (GotI W8 W3.heap.size (.slice aa D.length D.length) D ga) := HA7.out.kept hb8
  have HB8 : Hid (GotI W8 W4.heap.size (.slice ab D.length D.length) D gb) := HB7.out.kept hb8
  have HWB8 : Hid (WantI W8 ab D) := HWB.out.kept hb8
  clear hb8 g8 HV7 HW7 HA7 HB7 HWA HWB
  go_wp2_with fail
  refine (sameInts_eq W8 ab aw D.length D.length cw D HWB8.out HW8.out rfl (by omega)).mono ?_
  rintro e W9 ⟨rfl, g9⟩
  have hb9 := Grew.below g9
  have HQ9 : Hid (Below W3.heap.size W3 W9) := HQ8.out.trans (hb9.mono HQ8.out.size)
  have HV9 : Hid (VS w W9 p ao n cap G B3 L) := HV8.out.kept hb9
  have HW9 : Hid (WantI W9 aw D) := HW8.out.kept hb9
  have HA9 : Hid (GotI W9 W3.heap.size (.slice aa D.length D.length) D ga) := HA8.out.kept hb9
  have HB9 : Hid (GotI W9 W4.heap.size (.slice ab D.length D.length) D gb) := HB8.out.kept hb9
  clear hb9 g9 HV8 HW8 HA8 HB8 HWB8
  obtain ⟨x0, x1, x2, x3, x4⟩ := HV9.out.b3.cells
  obtain ⟨y0, y1, y2, y3, y4⟩ := HV9.out.b0.cells
  go_wp2_with fail
  refine (intact_eq W9 p ao G n cap L HV9.out.row (HL.out.kept HV9.out.bel) HN.out hm).mono ?_
  rintro e WA ⟨rfl, gA⟩
  have hbA := Grew.below gA
  have HQA : Hid (Below W3.heap.size W3 WA) := HQ9.out.trans (hbA.mono HQ9.out.size)
  have HT0 : Hid (Two W3.heap.size W3 WA ga gb (overD D 0) D [] [] (.slice aa D.length D.length) (.slice ab D.length D.length)) := by
    rw [overD_zero]; exact Two.start (HA9.out.kept hbA) ((HB9.out.kept hbA).monoB HS34.out) HNe.out HQA.out
  have HFa : Hid (D ≠ [] → aa = some ⟨ga, 0, none⟩) := fun hD => by
    obtain ⟨ao', e, hf⟩ := HA9.out.form
    simp only [Value.slice.injEq] at e
    rw [e.1]; exact (hf hD).1
  have HFb : Hid (D ≠ [] → ab = some ⟨gb, 0, none⟩) := fun hD => by
    obtain ⟨ao', e, hf⟩ := HB9.out.form
    simp only [Value.slice.injEq] at e
    rw [e.1]; exact (hf hD).1
  have HBs : Hid (W3.heap.size ≤ WA.heap.size) := HQA.out.size
  clear hbA gA HV9 HW9 HA9 HB9 HQ4 HQ5 HQ6 HQ7 HQ8 HQ9 HQA x0 x1 x2 x3 x4 y0 y1 y2 y3 y4
  go_wp2_with fail
  obtain ⟨m, hDm⟩ : ∃ m, m = D.length := ⟨_, rfl⟩
  rw [← hDm] at hsm HT0 ⊢
  have HM : Hid (m = D.length) := hDm
  clear hDm
  go_loopw [15] (fun x wr => ∃ k : Nat, k ≤ m ∧ x = .int .i64 (k : Int) ∧ Hid (Two W3.heap.size W3 wr ga gb (overD D k) D [] [] (.slice aa m m) (.slice ab m m)) ∧ Hid (W3.heap.size ≤ wr.heap.size)) (fun x _ => m - (intOf x).toNat)
  case atStart => exact ⟨0, by omega, rfl, HT0, HBs⟩
  case round =>
    clear HT0 HBs
    obtain ⟨k, hk, rfl, HT, HBs⟩ := hrel
    by_cases hlt : k < m
    · have hD : D ≠ [] := by intro e; have := HM.out; rw [e] at this; simp at this; omega
      obtain rfl := HFa.out hD
      have HT2 : Hid (Two W3.heap.size W3 (wr.setCell ⟨ga, k, none⟩ (.int .i64 (-70 - (k : Int)))) ga gb (overD D (k + 1)) D [] [] (.slice (some ⟨ga, 0, none⟩) m m) (.slice ab m m)) := by
        have := HT.out.paint k (-70 - (k : Int))
        rwa [overD_set D k (by have := HM.out; omega)] at this
      have HBs2 : Hid (W3.heap.size ≤ (wr.setCell ⟨ga, k, none⟩ (.int .i64 (-70 - (k : Int)))).heap.size) := by have := HBs.out; simpa [Hid] using this
      have hox := HT.out.ox
      rw [List.append_nil] at hox
      have c1 := HT.out.ia k (by rw [overD_length D k (by have := HM.out; omega)]; have := HM.out; omega)
      have f1 := hox.frozen k
      clear hox hD
      generalize (overD D k).getD k 0 = z0 at *
      go_wp2
      go_roundw
      case rel => exact ⟨k + 1, by omega, by go_num, HT2, HBs2⟩
      case measure => simp [intOf]; omega
    · obtain rfl : k = m := by omega
      have HT3 : Hid (Two W3.heap.size W3 wr ga gb (negs k) D (adds 1000 0) (adds 2000 0) (.slice aa k k) (.slice ab k k)) := by
        have := HT.out
        rw [HM.out, overD_full, ← HM.out] at this
        exact this
      clear HT
      have hbs := build_ints1
      go_wp2_with fail
      generalize wr = wz at *
      go_loopw [16, 17, 18] (fun vx vy x wr => ∃ q : Nat, q ≤ 40 ∧ x = .int .i64 (q : Int) ∧ Hid (Two W3.heap.size W3 wr ga gb (negs k) D (adds 1000 q) (adds 2000 q) vx vy) ∧ Hid (W3.heap.size ≤ wr.heap.size)) (fun _ _ x _ => 40 - (intOf x).toNat)
      case atStart => exact ⟨0, by omega, rfl, HT3, HBs⟩
      case round =>
        clear HT3 HBs
        obtain ⟨q, hq, rfl, HT, HBs⟩ := hrel
        by_cases hlq : q < 40
        · have HlX : Hid ((negs k ++ adds 1000 q).length + 1 ≤ 1000000) := by rw [List.length_append, negs_length, adds_length]; show _ ≤ _; omega
          have HlY : Hid ((D ++ adds 2000 q).length + 1 ≤ 1000000) := by rw [List.length_append, adds_length, ← HM.out]; show _ ≤ _; omega
          go_wp2_with (first
            | (at_builtin; refine wpList_append_int2 rfl _ _ rfl W3.heap.size _ (D ++ adds 2000 q) rfl (HX1.out.oy.alloc _) _ (2000 + (q : Int)) rfl (cell_new1 _ _ _) HlY.out (by have := HBs1.out; simp; omega) ?_; intro v2 w2 h3 h4)
            | (at_builtin; refine wpList_append_int2 rfl _ _ rfl W3.heap.size _ (negs k ++ adds 1000 q) rfl (HT.out.ox.alloc _) _ (1000 + (q : Int)) rfl (cell_new1 _ _ _) HlX.out (by have := HBs.out; simp; omega) ?_; intro v' w' h1 h2; have HX1 : Hid (Two W3.heap.size W3 w' ga gb (negs k) D (adds 1000 (q + 1)) (adds 2000 q) v' u17) := (by rw [adds_succ]; exact (HT.out.alloc HBs.out _).growX (by have := HBs.out; simp; omega) h1 h2); have HBs1 : Hid (W3.heap.size ≤ w'.heap.size) := HX1.out.bel.size; clear h1 h2))
          have HX2 : Hid (Two W3.heap.size W3 w2 ga gb (negs k) D (adds 1000 (q + 1)) (adds 2000 (q + 1)) v' v2) := by
            rw [adds_succ 2000]; exact (HX1.out.alloc HBs1.out _).growY (by have := HBs1.out; simp; omega) h3 h4
          have HBs2 : Hid (W3.heap.size ≤ w2.heap.size) := HX2.out.bel.size
          clear h3 h4 HT HX1 HBs1 HlX HlY
          go_roundw
          case rel => exact ⟨q + 1, by omega, by go_num, HX2, HBs2⟩
          case measure => simp [intOf]; omega
        · obtain rfl : q = 40 := by omega
          rw [show ((40 : Nat) : Int) = 40 from rfl]
          obtain ⟨bx, cx, hvx, hx0, hx1, hxc, _, hxr⟩ : ∃ g c, _ ∧ _ ∧ _ ∧ _ ∧ _ ∧ _ := HT.out.ox.shape.resolve_left (by rintro ⟨_, h⟩; have := congrArg List.length h; simp [adds_length] at this)
          obtain ⟨by', cy, hvy, hy0, hy1, hyc, _, hyr⟩ : ∃ g c, _ ∧ _ ∧ _ ∧ _ ∧ _ ∧ _ := HT.out.oy.shape.resolve_left (by rintro ⟨_, h⟩; have := congrArg List.length h; simp [adds_length] at this)
          rw [List.length_append, adds_length, negs_length] at hvx hxc
          rw [List.length_append, adds_length, ← HM.out] at hvy hyc
          subst hvx hvy
          have HFS : Hid (FS w wr p ao aw n cap G B3 ga gb bx by' k L D) := ⟨HT.out.ia, HT.out.ib, hxr, hyr, HW3.out.kept HT.out.bel, HV3.out.kept HT.out.bel⟩
          clear hxr hyr hx0 hx1 hy0 hy1 hbs HT HBs
          go_wp2_with fail
          generalize wr = wy at *
          go_loopw [19] (fun x wr => ∃ i : Nat, i ≤ k ∧ x = .int .i64 (i : Int) ∧ Hid (FS w wr p ao aw n cap G B3 ga gb bx by' k L D)) (fun x _ => k - (intOf x).toNat)
          case atStart => exact ⟨0, by omega, rfl, HFS⟩
          case round =>
            clear HFS
            obtain ⟨i, hi, rfl, HFS⟩ := hrel
            by_cases hli : i < k
            · have hD : D ≠ [] := by intro e; have := HM.out; rw [e] at this; simp at this; omega
              obtain rfl := HFa.out hD
              obtain rfl := HFb.out hD
              obtain ⟨g5, rfl, hw5⟩ := HFS.out.wd.resolve_left hD
              have hiD : i < D.length := by have := HM.out; omega
              have k1 := HFS.out.ia i (by rw [negs_length]; exact hli)
              have k2 := HFS.out.ib i hiD
              have k3 := HFS.out.xr i (by rw [List.length_append, negs_length]; omega)
              have k4 := HFS.out.yr i (by rw [List.length_append]; omega)
              have k5 := hw5 i hiD
              rw [negs_get k i hli] at k1
              rw [getD_app _ _ _ (by rw [negs_length]; exact hli), negs_get k i hli] at k3
              rw [getD_app _ _ _ hiD] at k4
              generalize D.getD i 0 = z at *
              clear hw5 hiD hD
              go_wp2_with fail
              go_quiet (fail)
              go_wp2
              go_roundw
              case rel => exact ⟨i + 1, by omega, by go_num, HFS.out.kept (below_drewK _ _ _)⟩
              case measure => simp [intOf]; omega
            · obtain rfl : i = k := by omega
              go_wp2_with fail
              generalize wr = wx at *
              go_loopw [20] (fun x wr => ∃ q : Nat, q ≤ 40 ∧ x = .int .i64 (q : Int) ∧ Hid (FS w wr p ao aw n cap G B3 ga gb bx by' i L D)) (fun x _ => 40 - (intOf x).toNat)
              case atStart => exact ⟨0, by omega, rfl, HFS⟩
              case round =>
                clear HFS
                obtain ⟨q, hq, rfl, HFS⟩ := hrel
                by_cases hlq : q < 40
                · have k3 := HFS.out.xr (i + q) (by rw [List.length_append, negs_length, adds_length]; omega)
                  have k4 := HFS.out.yr (i + q) (by rw [List.length_append, adds_length, ← HM.out]; omega)
                  have e3 := getD_appR (negs i) (adds 1000 40) q
                  rw [negs_length, adds_get 1000 40 q hlq] at e3
                  have e4 := getD_appR D (adds 2000 40) q
                  rw [← HM.out, adds_get 2000 40 q hlq] at e4
                  rw [e3] at k3
                  rw [e4] at k4
                  clear e3 e4
                  go_wp2
                  go_roundw
                  case rel => exact ⟨q + 1, by omega, by go_num, HFS⟩
                  case measure => simp [intOf]; omega
                · obtain rfl : q = 40 := by omega
                  rw [show ((40 : Nat) : Int) = 40 from rfl]
                  obtain ⟨x0, x1, x2, x3, x4⟩ := HFS.out.vs.b3.cells
                  obtain ⟨y0, y1, y2, y3, y4⟩ := HFS.out.vs.b0.cells
                  go_wp2_with fail
                  refine (intact_eq wr p ao G n cap L HFS.out.vs.row (HL.out.kept HFS.out.vs.bel) HN.out hm).mono ?_
                  rintro e WB ⟨rfl, gB⟩
                  have HBB : Hid (Below w.heap.size w WB) := HFS.out.vs.bel.trans ((Grew.below gB).mono HFS.out.vs.bel.size)
                  clear gB
                  go_wp2
                  go_ret
                  exact ⟨rfl, HBB.out⟩

end Go.Proofs.Ytjmlogljfboleaa
