/-
  DictHashes: THE LAW.
-/
import Derived.Test.YtghfofjpoeckkaaHSt2
import Derived.BigRegion
namespace Go.Proofs.Ytghfofjpoeckkaa
open Go.RowKit Go.Sort

theorem part_range (one : Int) : ∃ P : Nat, wrap64 (1 + wrap64 ((IntKind.u64.wrap one).tmod 256)) = (P : Int) ∧ 1 ≤ P ∧ P ≤ 256 := by
  have h0 : 0 ≤ IntKind.u64.wrap one := by rw [IntKind.wrap_u64]; omega
  have h1 : (IntKind.u64.wrap one).tmod 256 = IntKind.u64.wrap one % 256 := Int.tmod_eq_emod_of_nonneg h0
  rw [h1]
  generalize IntKind.u64.wrap one = x at *
  refine ⟨(1 + x % 256).toNat, ?_, ?_, ?_⟩ <;> (try unfold wrap64) <;> omega
theorem DA.do {f P D M L : Nat} {hh : K → Nat} {W : World} (h : DA W D M L (hfn f) P []) : DO f hh P D [] (fun k => k = D ∨ Ft M L [] k) W := ⟨M, L, [], h, (by intro e he; cases he), rfl, rfl⟩
theorem wrap_j {j : Nat} (h : j ≤ 4500000000000) : IntKind.i64.wrap ((j : Int) + 1) = (j : Int) + 1 := by
  rw [IntKind.wrap_i64]
  omega
theorem ft_nil {D M L k : Nat} (h : k = D ∨ Ft M L [] k) : k = D ∨ k = M ∨ k = L := by
  rcases h with h | h | h | ⟨_, he, _⟩
  · exact .inl h
  · exact .inr (.inl h)
  · exact .inr (.inr h)
  · cases he
set_option maxHeartbeats 16000000 in
set_option maxRecDepth 100000 in
theorem lawDHash (w : World) (one two : Int) (ao : Option Addr) (n cap : Nat) (ws : List Wr) (hn : n = ws.length) (hw : WrsAt w ao ws) (hin : ∀ x ∈ ws, KIn x.t ∧ -9223372036854775808 ≤ x.n ∧ x.n ≤ 9223372036854775807) (hm : n ≤ 4500000000000) :
    Calls Try.prog 3 #[.int .i64 one, .int .i64 two, .slice ao n cap] w fun e w' => e = .returned (.bool true) ∧ Below w.heap.size w w' := by
  have HW : Hid (∀ W, Below w.heap.size w W → WrsAt W ao ws) := fun W hW => hw.kept hW
  have HN : Hid (n = ws.length ∧ ∀ x ∈ ws, KIn x.t) := ⟨hn, fun x hx => (hin x hx).1⟩
  obtain ⟨Pa, hPa, a1, a2⟩ := part_range one
  obtain ⟨Pb, hPb, b1, b2⟩ := part_range two
  clear hw hn hin
  go_enter Try.func3, Try.ntmps3
  go_wp2_with fail
  rw [hPa]
  refine (new_fn w fS Pa a1 a2).mono ?_
  rintro e u1 ⟨Da, Ma, La, rfl, hda, hga, hb1⟩
  have HA := hidH (And.intro hda (And.intro hga hb1))
  clear hda hga hb1
  go_wp2_with fail
  rw [hPb]
  refine (new_fn u1 fL Pb b1 b2).mono ?_
  rintro e u2 ⟨Db, Mb, Lb, rfl, hdb, hgb, hb2⟩
  have HB := hidH (And.intro hdb (And.intro hgb hb2))
  clear hdb hgb hb2
  go_wp2_with fail
  refine (new_nil u2 256 (by omega) (by omega)).mono ?_
  rintro e u3 ⟨Dc, Mc, Lc, rfl, hdc, hgc, hb3⟩
  have HL0 : Hid (HLs w.heap.size Pa Pb Da Db Dc w u3 [] (.slice none 0 0) (.slice none 0 0)) := by
    obtain ⟨hda, hga, hb1⟩ := HA.out
    obtain ⟨hdb, hgb, hb2⟩ := HB.out
    have z1 := hb1.size
    have z2 := hb2.size
    have hA1 : DA u3 Da Ma La (hfn fS) Pa [] := (hda.kept hb2).kept hb3
    have hB1 : DA u3 Db Mb Lb (hfn fL) Pb [] := hdb.kept hb3
    have lA : ∀ k, (k = Da ∨ Ft Ma La [] k) → w.heap.size ≤ k ∧ k < u1.heap.size := fun k hk => ⟨(by rcases ft_nil hk with rfl | rfl | rfl; (exact hga.1); (exact hga.2.1); (exact hga.2.2)), hda.lt hk⟩
    have lB : ∀ k, (k = Db ∨ Ft Mb Lb [] k) → u1.heap.size ≤ k ∧ k < u2.heap.size := fun k hk => ⟨(by rcases ft_nil hk with rfl | rfl | rfl; (exact hgb.1); (exact hgb.2.1); (exact hgb.2.2)), hdb.lt hk⟩
    have lC : ∀ k, (k = Dc ∨ Ft Mc Lc [] k) → u2.heap.size ≤ k := fun k hk => (by rcases ft_nil hk with rfl | rfl | rfl; (exact hgc.1); (exact hgc.2.1); (exact hgc.2.2))
    refine ⟨⟨_, _, _, ⟨hA1.do, hB1.do, hdc.do⟩, fun k h1 h2 => ?_, fun k h1 h2 => ?_, fun k h1 h2 => ?_, fun k hk => ?_⟩, World.ownsRow_nil _ _ _ _, World.ownsRow_nil _ _ _ _, (hb1.trans (hb2.mono z1)).trans (hb3.mono (by omega)), Nat.le_refl _⟩
    · have := lA k h1; have := lB k h2; omega
    · have := lA k h1; have := lC k h2; omega
    · have := lB k h1; have := lC k h2; omega
    · rcases hk with hk | hk | hk
      · exact (lA k hk).1
      · have := (lB k hk).1; omega
      · have := lC k hk; omega
  clear HA HB hdc hgc hb3
  go_wp2_with fail
  go_loopw [13, 14, 15] (fun x y z wr => ∃ (i m : Nat) (l : List (K × (Int × Int))) (oa va : Option Addr) (oc vc : Nat), i ≤ n ∧ m ≤ i ∧ x = .slice oa m oc ∧ y = .slice va m vc ∧ z = .int .i64 (i : Int) ∧ Hid (m = l.length ∧ HLs w.heap.size Pa Pb Da Db Dc w wr l (.slice oa m oc) (.slice va m vc))) (fun _ _ z _ => n - (intOf z).toNat)
  case atStart => exact ⟨0, 0, [], none, none, 0, 0, Nat.zero_le _, Nat.le_refl _, rfl, rfl, rfl, rfl, HL0.out⟩
  case round =>
    clear HL0
    obtain ⟨i, m, l, oa, va, oc, vc, hi, hmi, rfl, rfl, rfl, HH⟩ := hrel
    by_cases hlt : i < n
    · have hlti : (i : Int) < (n : Int) := by omega
      have hil : i < ws.length := by have := HN.out.1; omega
      obtain ⟨b, off, hao, c0, c1, c2⟩ := HW.out wr HH.out.2.bel i hil
      subst hao
      have HKt : Hid (KIn ws[i].t) := HN.out.2 _ (List.getElem_mem hil)
      generalize ws[i] = x at *
      obtain ⟨tx, N, out⟩ := x
      simp only at c0 c1 c2 HKt
      obtain ⟨W1, hW1⟩ : ∃ W1, W1 = wr.alloc (.cells #[.string tx, .int .i64 N, .bool out] 34) := ⟨_, rfl⟩
      have HX1 : Hid (W1.heap[wr.heap.size]? = some (.cells #[.string tx, .int .i64 N, .bool out] 34 (0, 0)) ∧ HLs w.heap.size Pa Pb Da Db Dc w W1 l (.slice oa m oc) (.slice va m vc)) := by
        rw [hW1]
        exact ⟨heap_alloc_new _ _ rfl, HH.out.2.kept ((Below.refl _ _).alloc (Nat.le_refl _) _)⟩
      have HM : Hid (m = l.length) := HH.out.1
      go_upto_region 12 with fail
      rw [← hW1]
      clear hW1 c0 c1 c2 HH
      generalize wr.heap.size = B16 at *
      go_wp2_with fail
      go_loopw [17, 18] (fun x y wr' => ∃ (k q : Nat) (a : Int), k ≤ m ∧ x = .int .i64 a ∧ y = .int .i64 (k : Int) ∧ Hid (AtI (l.map Prod.fst) tx k a) ∧ wr' = W1.drewN q) (fun _ y _ => m - (intOf y).toNat)
      case atStart => exact ⟨0, 0, -1, Nat.zero_le _, rfl, rfl, AtI.start _ _, rfl⟩
      case round =>
        obtain ⟨k, q, a, hk, rfl, rfl, HAt, hwq⟩ := hrel
        subst hwq
        by_cases hkl : k < m
        · have hkli : (k : Int) < (m : Int) := by omega
          have hkk : k < (l.map Prod.fst).length := by rw [List.length_map, ← HM.out]; exact hkl
          obtain ⟨b2, off2, hoa, s0⟩ := own_strAt (by have := HX1.out.2.os; rw [← HM.out] at this; exact this) (by rw [List.length_map]; exact HM.out) k hkk
          subst hoa
          have s0' : (W1.drewN q).cell? ⟨b2, off2 + k, none⟩ = some (.string (l.map Prod.fst)[k]) := s0
          have x0 : (W1.drewN q).cell? ⟨B16, 0, none⟩ = some (.string tx) := by simp [World.cell?, HX1.out.1]
          have HW2 : Hid (∀ z, (W1.drewN q).drewN z = W1.drewN (q + z)) := fun z => World.drewN_drewN _ _ _
          clear s0
          by_cases he : (l.map Prod.fst)[k] = tx
          · have HA2 : Hid (AtI (l.map Prod.fst) tx (k + 1) (k : Int)) := AtI.hit hkk he
            have heq : ((l.map Prod.fst)[k].toList == tx.toList) = true := by rw [he]; simp
            generalize (l.map Prod.fst)[k] = kk at *
            generalize W1.drewN q = Wq at *
            clear he
            go_wp2_with fail
            go_quiet (fail)
            go_wp2
            go_roundw
            case rel => exact ⟨k + 1, q + nq, k, by omega, rfl, by go_num, HA2, HW2.out nq⟩
            case measure => simp [intOf]; omega
          · have HA2 : Hid (AtI (l.map Prod.fst) tx (k + 1) a) := HAt.out.miss hkk he
            have heq : ((l.map Prod.fst)[k].toList == tx.toList) = false := ne_list he
            generalize (l.map Prod.fst)[k] = kk at *
            generalize W1.drewN q = Wq at *
            clear he
            go_wp2_with fail
            go_quiet (fail)
            go_wp2
            go_roundw
            case rel => exact ⟨k + 1, q + nq, a, by omega, rfl, by go_num, HA2, HW2.out nq⟩
            case measure => simp [intOf]; omega
        · obtain rfl : k = m := by omega
          have HX2 : Hid ((W1.drewN q).heap[B16]? = some (.cells #[.string tx, .int .i64 N, .bool out] 34 (0, 0)) ∧ HLs w.heap.size Pa Pb Da Db Dc w (W1.drewN q) l (.slice oa k oc) (.slice va k vc)) := ⟨HX1.out.1, HX1.out.2.kept ⟨rfl, rfl, rfl, Nat.le_refl _, fun _ _ => rfl⟩⟩
          generalize W1.drewN q = W2 at *
          clear HX1 hkl
          obtain ⟨V0, hV0⟩ : ∃ U, U = W2.alloc (.cells #[.int .i64 0, .int .i64 0] 28) := ⟨_, rfl⟩
          have HX3 : Hid (V0.heap[B16]? = some (.cells #[.string tx, .int .i64 N, .bool out] 34 (0, 0)) ∧ V0.heap[W2.heap.size]? = some (.cells #[.int .i64 0, .int .i64 0] 28 (0, 0)) ∧ Below W2.heap.size W2 V0 ∧ V0.heap.size = W2.heap.size + 1) := by
            rw [hV0]
            exact ⟨(heap_alloc_old _ _ (blk_lt HX2.out.1)).trans HX2.out.1, heap_alloc_new _ _ rfl, (Below.refl _ _).alloc (Nat.le_refl _) _, by simp⟩
          have HX4 := hidH (HX2.out.2.kept HX3.out.2.2.1)
          go_upto_region 19 with fail
          rw [← hV0]
          clear hV0
          rcases HAt.out with ⟨rfl, hno⟩ | ⟨j, hjk, rfl, hjl, hje⟩
          · as_aux_lemma =>
            have HNo : Hid (∀ p ∈ l, p.1 ≠ tx) := fun p hp => by
              obtain ⟨z, hz, rfl⟩ := List.getElem_of_mem hp
              have := hno z (by rw [HM.out]; exact hz) (by simpa using hz)
              simpa using this
            clear HAt hno
            obtain ⟨U0, hU0⟩ : ∃ U, U = V0.alloc (.cells #[.int .i64 N, .int .i64 (i : Int)] 28) := ⟨_, rfl⟩
            have HG0 : Hid (Stg w.heap.size Pa Pb Da Db Dc w U0 l l l l (.slice oa k oc) (.slice va k vc) B16 W2.heap.size V0.heap.size ⟨tx, N, out⟩ (0, 0) (N, (i : Int))) := by
              have hb : Below V0.heap.size V0 U0 := by rw [hU0]; exact (Below.refl _ _).alloc (Nat.le_refl _) _
              have h2 := HX4.out.kept hb
              exact ⟨h2.t3, h2.os, h2.vs, h2.bel, h2.le, (hb.block _ (blk_lt HX3.out.1)).trans HX3.out.1, (hb.block _ (blk_lt HX3.out.2.1)).trans HX3.out.2.1, by rw [hU0]; exact heap_alloc_new _ _ rfl⟩
            obtain ⟨x0, x1, x2⟩ := wr_cells HX3.out.1
            have hng : ¬ (-1 : Int) ≥ 0 := by omega
            go_upto_region 22 with fail
            rw [← hU0]
            have HNE : Hid ((Value.slice va k vc).ownBlock ≠ some V0.heap.size) := fun e => by have := (World.ownsRow.lt HX4.out.vs _ e).2; omega
            clear hU0 x0 x1 x2 HX2 HX3 HX4
            generalize V0.heap.size = B20 at *
            generalize W2.heap.size = B19 at *
            cases out with
            | true =>
              obtain ⟨x0, x1, x2⟩ := wr_cells HG0.out.x16
              go_upto_region 23 with fail
              clear x0 x1 x2
              have HC0 := hidH (HG0.out.t3.opA HG0.out.n0s (fun X hX => hX.takeNew tx HKt.out HNo.out))
              obtain ⟨g0, g1, g2⟩ := wr_cells HG0.out.x16
              go_wp2_with fail
              clear g0 g1 g2
              refine HC0.out.mono ?_
              rintro e Y0 ⟨rfl, ht, hf, hb⟩
              have HY0 := hidH (HG0.out.op ht hf hb)
              clear ht hf hb HC0 HG0
              obtain ⟨U1, hU1⟩ : ∃ U, U = Y0.alloc (.cells #[.int .i64 0, .int .i64 0] 28) := ⟨_, rfl⟩
              have hbU : Below Y0.heap.size Y0 U1 := by rw [hU1]; exact (Below.refl _ _).alloc (Nat.le_refl _) _
              have HG1 := hidH (HY0.out.kept hbU)
              have HR0 : Hid (U1.heap[Y0.heap.size]? = some (.cells #[.int .i64 0, .int .i64 0] 28 (0, 0))) := by rw [hU1]; exact heap_alloc_new _ _ rfl
              clear hbU HY0
              go_upto_region 24 with fail
              rw [← hU1]
              clear hU1
              generalize Y0.heap.size = D0x at *
              have HC1 := hidH (HG1.out.t3.opB HG1.out.n0s (fun X hX => hX.takeNew tx HKt.out HNo.out))
              obtain ⟨g0, g1, g2⟩ := wr_cells HG1.out.x16
              go_wp2_with fail
              clear g0 g1 g2
              refine HC1.out.mono ?_
              rintro e Y1 ⟨rfl, ht, hf, hb⟩
              have HY1 := hidH (HG1.out.op ht hf hb)
              have HZ01 := hidH (hf.block _ _ _ HR0.out noPr)
              clear ht hf hb HC1 HG1 HR0
              obtain ⟨U2, hU2⟩ : ∃ U, U = Y1.alloc (.cells #[.int .i64 0, .int .i64 0] 28) := ⟨_, rfl⟩
              have hbU : Below Y1.heap.size Y1 U2 := by rw [hU2]; exact (Below.refl _ _).alloc (Nat.le_refl _) _
              have HG2 := hidH (HY1.out.kept hbU)
              have HR1 : Hid (U2.heap[Y1.heap.size]? = some (.cells #[.int .i64 0, .int .i64 0] 28 (0, 0))) := by rw [hU2]; exact heap_alloc_new _ _ rfl
              have HR0 := hidH ((hbU.block _ (blk_lt HZ01.out)).trans HZ01.out)
              clear hbU HY1 HZ01
              go_upto_region 25 with fail
              rw [← hU2]
              clear hU2
              generalize Y1.heap.size = D1x at *
              have HC2 := hidH (HG2.out.t3.opC HG2.out.n0s (fun X hX => hX.takeNew tx HKt.out HNo.out))
              obtain ⟨g0, g1, g2⟩ := wr_cells HG2.out.x16
              go_wp2_with fail
              clear g0 g1 g2
              refine HC2.out.mono ?_
              rintro e Y2 ⟨rfl, ht, hf, hb⟩
              have HY2 := hidH (HG2.out.op ht hf hb)
              have HZ02 := hidH (hf.block _ _ _ HR0.out noPr)
              have HZ12 := hidH (hf.block _ _ _ HR1.out noPr)
              clear ht hf hb HC2 HG2 HR0 HR1
              obtain ⟨U3, hU3⟩ : ∃ U, U = Y2.alloc (.cells #[.int .i64 0, .int .i64 0] 28) := ⟨_, rfl⟩
              have hbU : Below Y2.heap.size Y2 U3 := by rw [hU3]; exact (Below.refl _ _).alloc (Nat.le_refl _) _
              have HG3 := hidH (HY2.out.kept hbU)
              have HR2 : Hid (U3.heap[Y2.heap.size]? = some (.cells #[.int .i64 0, .int .i64 0] 28 (0, 0))) := by rw [hU3]; exact heap_alloc_new _ _ rfl
              have HR0 := hidH ((hbU.block _ (blk_lt HZ02.out)).trans HZ02.out)
              have HR1 := hidH ((hbU.block _ (blk_lt HZ12.out)).trans HZ12.out)
              clear hbU HY2 HZ02 HZ12
              go_upto_region 26 with fail
              rw [← hU3]
              clear hU3
              generalize Y2.heap.size = D2x at *
              obtain ⟨h0, h1, _, _⟩ := blk2_cell HG3.out.x19
              obtain ⟨r00, r01, _, _⟩ := blk2_cell HR0.out
              obtain ⟨r10, r11, _, _⟩ := blk2_cell HR1.out
              obtain ⟨r20, r21, _, _⟩ := blk2_cell HR2.out
              have hq := run_nePs 0 0
              have hgd := fun op a b => grdP op a b 0 0 0 0
              clear HR0 HR1 HR2
              have HF : Hid (HLs w.heap.size Pa Pb Da Db Dc w U3 l (.slice oa k oc) (.slice va k vc)) := ⟨HG3.out.t3, HG3.out.os, HG3.out.vs, HG3.out.bel, HG3.out.le⟩
              clear HG3
              go_wp2
              exact ⟨⟨i + 1, k, l, oa, va, oc, vc, by omega, by omega, rfl, rfl, by go_num, HM.out, HF.out⟩, by simp [intOf]; omega⟩
            | false =>
              obtain ⟨x0, x1, x2⟩ := wr_cells HG0.out.x16
              go_upto_region 31 with fail
              clear x0 x1 x2
              have HLn : Hid (l.length ≤ 140737488355328) := by have := HM.out; show _ ≤ _; omega
              have HC0 := hidH (HG0.out.t3.opA HG0.out.n0s (fun X hX => hX.putNew okS tx (N, (i : Int)) HKt.out HNo.out HLn.out))
              obtain ⟨g0, g1, g2⟩ := wr_cells HG0.out.x16
              obtain ⟨p0, p1, _, _⟩ := blk2_cell HG0.out.x20
              go_wp2_with fail
              clear g0 g1 g2 p0 p1
              refine HC0.out.mono ?_
              rintro e Y0 ⟨rfl, ht, hf, hb⟩
              have HY0 := hidH (HG0.out.op ht hf hb)
              clear ht hf hb HC0 HG0
              obtain ⟨U1, hU1⟩ : ∃ U, U = Y0.alloc (.cells #[.int .i64 0, .int .i64 0] 28) := ⟨_, rfl⟩
              have hbU : Below Y0.heap.size Y0 U1 := by rw [hU1]; exact (Below.refl _ _).alloc (Nat.le_refl _) _
              have HG1 := hidH (HY0.out.kept hbU)
              have HR0 : Hid (U1.heap[Y0.heap.size]? = some (.cells #[.int .i64 0, .int .i64 0] 28 (0, 0))) := by rw [hU1]; exact heap_alloc_new _ _ rfl
              clear hbU HY0
              go_upto_region 32 with fail
              rw [← hU1]
              clear hU1
              generalize Y0.heap.size = D0x at *
              have HC1 := hidH (HG1.out.t3.opB HG1.out.n0s (fun X hX => hX.putNew okL tx (N, (i : Int)) HKt.out HNo.out HLn.out))
              obtain ⟨g0, g1, g2⟩ := wr_cells HG1.out.x16
              obtain ⟨p0, p1, _, _⟩ := blk2_cell HG1.out.x20
              go_wp2_with fail
              clear g0 g1 g2 p0 p1
              refine HC1.out.mono ?_
              rintro e Y1 ⟨rfl, ht, hf, hb⟩
              have HY1 := hidH (HG1.out.op ht hf hb)
              have HZ01 := hidH (hf.block _ _ _ HR0.out noPr)
              clear ht hf hb HC1 HG1 HR0
              obtain ⟨U2, hU2⟩ : ∃ U, U = Y1.alloc (.cells #[.int .i64 0, .int .i64 0] 28) := ⟨_, rfl⟩
              have hbU : Below Y1.heap.size Y1 U2 := by rw [hU2]; exact (Below.refl _ _).alloc (Nat.le_refl _) _
              have HG2 := hidH (HY1.out.kept hbU)
              have HR1 : Hid (U2.heap[Y1.heap.size]? = some (.cells #[.int .i64 0, .int .i64 0] 28 (0, 0))) := by rw [hU2]; exact heap_alloc_new _ _ rfl
              have HR0 := hidH ((hbU.block _ (blk_lt HZ01.out)).trans HZ01.out)
              clear hbU HY1 HZ01
              go_upto_region 33 with fail
              rw [← hU2]
              clear hU2
              generalize Y1.heap.size = D1x at *
              have HC2 := hidH (HG2.out.t3.opC HG2.out.n0s (fun X hX => hX.putNew okN tx (N, (i : Int)) HKt.out HNo.out HLn.out))
              obtain ⟨g0, g1, g2⟩ := wr_cells HG2.out.x16
              obtain ⟨p0, p1, _, _⟩ := blk2_cell HG2.out.x20
              go_wp2_with fail
              clear g0 g1 g2 p0 p1
              refine HC2.out.mono ?_
              rintro e Y2 ⟨rfl, ht, hf, hb⟩
              have HY2 := hidH (HG2.out.op ht hf hb)
              have HZ02 := hidH (hf.block _ _ _ HR0.out noPr)
              have HZ12 := hidH (hf.block _ _ _ HR1.out noPr)
              clear ht hf hb HC2 HG2 HR0 HR1
              obtain ⟨U3, hU3⟩ : ∃ U, U = Y2.alloc (.cells #[.int .i64 0, .int .i64 0] 28) := ⟨_, rfl⟩
              have hbU : Below Y2.heap.size Y2 U3 := by rw [hU3]; exact (Below.refl _ _).alloc (Nat.le_refl _) _
              have HG3 := hidH (HY2.out.kept hbU)
              have HR2 : Hid (U3.heap[Y2.heap.size]? = some (.cells #[.int .i64 0, .int .i64 0] 28 (0, 0))) := by rw [hU3]; exact heap_alloc_new _ _ rfl
              have HR0 := hidH ((hbU.block _ (blk_lt HZ02.out)).trans HZ02.out)
              have HR1 := hidH ((hbU.block _ (blk_lt HZ12.out)).trans HZ12.out)
              clear hbU HY2 HZ02 HZ12
              go_upto_region 34 with fail
              rw [← hU3]
              clear hU3
              generalize Y2.heap.size = D2x at *
              obtain ⟨h0, h1, _, _⟩ := blk2_cell HG3.out.x19
              obtain ⟨r00, r01, _, _⟩ := blk2_cell HR0.out
              obtain ⟨r10, r11, _, _⟩ := blk2_cell HR1.out
              obtain ⟨r20, r21, _, _⟩ := blk2_cell HR2.out
              have hq := run_nePs 0 0
              have hgd := fun op a b => grdP op a b 0 0 0 0
              clear HR0 HR1 HR2
              have HS2 : Hid (St2 w.heap.size Pa Pb Da Db Dc w U3 (l ++ [(tx, (N, (i : Int)))]) (l.map Prod.fst) (l.map Prod.snd) (.slice oa k oc) (.slice va k vc) B16 B20 ⟨tx, N, false⟩ (N, (i : Int))) := HG3.out.st2 HNE.out
              have HKl : Hid (k = (l.map Prod.fst).length ∧ k = (l.map Prod.snd).length ∧ k ≤ 4500000000000) := ⟨by rw [List.length_map]; exact HM.out, by rw [List.length_map]; exact HM.out, by omega⟩
              have HAp : Hid (∀ ty, ∃ v' w', (Builtin.append_ #[31, 31] ty #[.slice oa k oc, .slice (some ⟨U3.heap.size, 0, none⟩) 1 1]).run Try.prog (U3.alloc (.cells #[.string tx] 9)) = .ok v' w' ∧ (∃ ya yc, v' = .slice ya (k + 1) yc) ∧ St2 w.heap.size Pa Pb Da Db Dc w w' (l ++ [(tx, (N, (i : Int)))]) (l.map Prod.fst ++ [tx]) (l.map Prod.snd) (v') (.slice va k vc) B16 B20 ⟨tx, N, false⟩ (N, (i : Int))) := fun ty => by
                have h := HS2.out.appS tx (by have := HKl.out; omega) ty
                rw [← HKl.out.1] at h
                exact h
              obtain ⟨x0, x1, x2⟩ := wr_cells HG3.out.x16
              clear HG3 HS2
              go_upto_region 38 with fail
              clear h0 h1 r00 r01 r10 r11 r20 r21 hq hgd x1 x2
              go_upto_region 39 with (at_builtin; refine wpL_appH rfl _ _ 31 rfl (.slice oa k oc) (.slice (some ⟨U3.heap.size, 0, none⟩) 1 1) rfl rfl HAp.out ?_; rintro v' w3 ⟨⟨ya, yc, rfl⟩, hg3⟩; replace hg3 := hidH hg3)
              clear x0 HAp
              have HAp : Hid (∀ ty, ∃ v' w', (Builtin.append_ #[32, 32] ty #[.slice va k vc, .slice (some ⟨w3.heap.size, 0, none⟩) 1 1]).run Try.prog (w3.alloc (.cells #[.int .i64 N, .int .i64 (i : Int)] 28)) = .ok v' w' ∧ (∃ ya yc, v' = .slice ya (k + 1) yc) ∧ St2 w.heap.size Pa Pb Da Db Dc w w' (l ++ [(tx, (N, (i : Int)))]) (l.map Prod.fst ++ [tx]) (l.map Prod.snd ++ [(N, (i : Int))]) (.slice ya (k + 1) yc) (v') B16 B20 ⟨tx, N, false⟩ (N, (i : Int))) := fun ty => by
                have h := hg3.out.appP (by have := HKl.out; omega) ty
                rw [← HKl.out.2.1] at h
                exact h
              obtain ⟨p0, p1, _, _⟩ := blk2_cell hg3.out.x20
              clear hg3
              go_wp2_with (at_builtin; refine wpL_appH rfl _ _ 32 rfl (.slice va k vc) (.slice (some ⟨w3.heap.size, 0, none⟩) 1 1) rfl rfl HAp.out ?_; rintro v' w4 ⟨⟨yb, yd, rfl⟩, hg4⟩; replace hg4 := hidH hg4)
              exact ⟨⟨i + 1, k + 1, l ++ [(tx, (N, (i : Int)))], ya, yb, yc, yd, by omega, by omega, rfl, rfl, by go_num, by simp [HM.out], hg4.out.hls (by simp) (by simp)⟩, by simp [intOf]; omega⟩

          · have HJ : Hid (∃ h : j < l.length, l[j].1 = tx) := ⟨by simpa using hjl, by simpa using hje⟩
            obtain ⟨hx, hy, HH⟩ : ∃ hx hy, Hid (∃ h : j < l.length, l[j].1 = tx ∧ l[j].2 = (hx, hy)) := by
              obtain ⟨h, e⟩ := HJ.out
              exact ⟨l[j].2.1, l[j].2.2, h, e, rfl⟩
            clear HJ HAt hjl hje
            have hji : (j : Int) < (k : Int) := by omega
            have hj0 : (j : Int) ≥ 0 := by omega
            obtain ⟨ga, hoa, hka⟩ := own_adr HX4.out.os HM.out (by omega)
            obtain ⟨gv, hva, hkv⟩ := own_adr HX4.out.vs HM.out (by omega)
            subst hoa hva
            have hcv : V0.cell? ⟨gv, j * 2, none⟩ = some (.int .i64 hx) ∧ V0.cell? ⟨gv, j * 2 + 1, none⟩ = some (.int .i64 hy) := by
              obtain ⟨h, _, e⟩ := HH.out
              have hv := HX4.out.vs
              rw [← HM.out] at hv
              obtain ⟨q0, q1⟩ := prs_at (l.map Prod.snd) j (by simpa using h)
              rw [List.getElem_map, e] at q0 q1
              rw [World.ownsRow.cellAt hv (j * 2) (by omega), World.ownsRow.cellAt hv (j * 2 + 1) (by omega)]
              exact ⟨q0, q1⟩
            obtain ⟨cv0, cv1⟩ := hcv
            obtain ⟨y0, y1, f0, f1⟩ := blk2_cell HX3.out.2.1
            obtain ⟨V1, hV1⟩ : ∃ U, U = (V0.setCell ⟨W2.heap.size, 0, none⟩ (.int .i64 hx)).setCell ⟨W2.heap.size, 1, none⟩ (.int .i64 hy) := ⟨_, rfl⟩
            have HX5 : Hid (V1.heap[B16]? = some (.cells #[.string tx, .int .i64 N, .bool out] 34 (0, 0)) ∧ V1.heap[W2.heap.size]? = some (.cells #[.int .i64 hx, .int .i64 hy] 28 (0, 0)) ∧ HLs w.heap.size Pa Pb Da Db Dc w V1 l (.slice (some ⟨ga, 0, none⟩) k oc) (.slice (some ⟨gv, 0, none⟩) k vc)) := by
              have hne := blk_lt HX2.out.1
              rw [hV1]
              exact ⟨blk_oth _ (blk_oth _ HX3.out.1 (by omega)) (by omega), blk2_set HX3.out.2.1 _ _, HX2.out.2.kept (below_set (below_set HX3.out.2.2.1 _ _ (Nat.le_refl _)) _ _ (Nat.le_refl _))⟩
            go_upto_region 21 with fail
            rw [← hV1]
            clear hV1 cv0 cv1 y0 y1 f0 f1 HX2 HX3 HX4
            generalize W2.heap.size = B19 at *
            obtain ⟨U0, hU0⟩ : ∃ U, U = V1.alloc (.cells #[.int .i64 N, .int .i64 (i : Int)] 28) := ⟨_, rfl⟩
            have HG0 : Hid (Stg w.heap.size Pa Pb Da Db Dc w U0 l l l l (.slice (some ⟨ga, 0, none⟩) k oc) (.slice (some ⟨gv, 0, none⟩) k vc) B16 B19 V1.heap.size ⟨tx, N, out⟩ (hx, hy) (N, (i : Int))) := by
              have hb : Below V1.heap.size V1 U0 := by rw [hU0]; exact (Below.refl _ _).alloc (Nat.le_refl _) _
              have h2 := HX5.out.2.2.kept hb
              exact ⟨h2.t3, h2.os, h2.vs, h2.bel, h2.le, (hb.block _ (blk_lt HX5.out.1)).trans HX5.out.1, (hb.block _ (blk_lt HX5.out.2.1)).trans HX5.out.2.1, by rw [hU0]; exact heap_alloc_new _ _ rfl⟩
            have HNE : Hid ((Value.slice (some ⟨gv, 0, none⟩) k vc).ownBlock ≠ some V1.heap.size) := fun e => by have := (World.ownsRow.lt HX5.out.2.2.vs _ e).2; omega
            obtain ⟨x0, x1, x2⟩ := wr_cells HX5.out.1
            go_upto_region 22 with fail
            rw [← hU0]
            clear hU0 x0 x1 x2 HX5
            generalize V1.heap.size = B20 at *
            have HLn : Hid (l.length ≤ 140737488355328) := by have := HM.out; show _ ≤ _; omega
            cases out with
            | true =>
              obtain ⟨x0, x1, x2⟩ := wr_cells HG0.out.x16
              go_upto_region 23 with fail
              clear x0 x1 x2
              have HC0 := hidH (HG0.out.t3.opA HG0.out.n0s (fun X hX => (by obtain ⟨hj, e1, e2⟩ := HH.out; have h := hX.takeOld tx HKt.out j hj e1 HLn.out; rw [e2] at h; exact h)))
              obtain ⟨g0, g1, g2⟩ := wr_cells HG0.out.x16
              go_wp2_with fail
              clear g0 g1 g2
              refine HC0.out.mono ?_
              rintro e Y0 ⟨rfl, ht, hf, hb⟩
              have HY0 := hidH (HG0.out.op ht hf hb)
              clear ht hf hb HC0 HG0
              obtain ⟨U1, hU1⟩ : ∃ U, U = Y0.alloc (.cells #[.int .i64 hx, .int .i64 hy] 28) := ⟨_, rfl⟩
              have hbU : Below Y0.heap.size Y0 U1 := by rw [hU1]; exact (Below.refl _ _).alloc (Nat.le_refl _) _
              have HG1 := hidH (HY0.out.kept hbU)
              have HR0 : Hid (U1.heap[Y0.heap.size]? = some (.cells #[.int .i64 hx, .int .i64 hy] 28 (0, 0))) := by rw [hU1]; exact heap_alloc_new _ _ rfl
              clear hbU HY0
              go_upto_region 24 with fail
              rw [← hU1]
              clear hU1
              generalize Y0.heap.size = D0x at *
              have HC1 := hidH (HG1.out.t3.opB HG1.out.n0s (fun X hX => (by obtain ⟨hj, e1, e2⟩ := HH.out; have h := hX.takeOld tx HKt.out j hj e1 HLn.out; rw [e2] at h; exact h)))
              obtain ⟨g0, g1, g2⟩ := wr_cells HG1.out.x16
              go_wp2_with fail
              clear g0 g1 g2
              refine HC1.out.mono ?_
              rintro e Y1 ⟨rfl, ht, hf, hb⟩
              have HY1 := hidH (HG1.out.op ht hf hb)
              have HZ01 := hidH (hf.block _ _ _ HR0.out noPr)
              clear ht hf hb HC1 HG1 HR0
              obtain ⟨U2, hU2⟩ : ∃ U, U = Y1.alloc (.cells #[.int .i64 hx, .int .i64 hy] 28) := ⟨_, rfl⟩
              have hbU : Below Y1.heap.size Y1 U2 := by rw [hU2]; exact (Below.refl _ _).alloc (Nat.le_refl _) _
              have HG2 := hidH (HY1.out.kept hbU)
              have HR1 : Hid (U2.heap[Y1.heap.size]? = some (.cells #[.int .i64 hx, .int .i64 hy] 28 (0, 0))) := by rw [hU2]; exact heap_alloc_new _ _ rfl
              have HR0 := hidH ((hbU.block _ (blk_lt HZ01.out)).trans HZ01.out)
              clear hbU HY1 HZ01
              go_upto_region 25 with fail
              rw [← hU2]
              clear hU2
              generalize Y1.heap.size = D1x at *
              have HC2 := hidH (HG2.out.t3.opC HG2.out.n0s (fun X hX => (by obtain ⟨hj, e1, e2⟩ := HH.out; have h := hX.takeOld tx HKt.out j hj e1 HLn.out; rw [e2] at h; exact h)))
              obtain ⟨g0, g1, g2⟩ := wr_cells HG2.out.x16
              go_wp2_with fail
              clear g0 g1 g2
              refine HC2.out.mono ?_
              rintro e Y2 ⟨rfl, ht, hf, hb⟩
              have HY2 := hidH (HG2.out.op ht hf hb)
              have HZ02 := hidH (hf.block _ _ _ HR0.out noPr)
              have HZ12 := hidH (hf.block _ _ _ HR1.out noPr)
              clear ht hf hb HC2 HG2 HR0 HR1
              obtain ⟨U3, hU3⟩ : ∃ U, U = Y2.alloc (.cells #[.int .i64 hx, .int .i64 hy] 28) := ⟨_, rfl⟩
              have hbU : Below Y2.heap.size Y2 U3 := by rw [hU3]; exact (Below.refl _ _).alloc (Nat.le_refl _) _
              have HG3 := hidH (HY2.out.kept hbU)
              have HR2 : Hid (U3.heap[Y2.heap.size]? = some (.cells #[.int .i64 hx, .int .i64 hy] 28 (0, 0))) := by rw [hU3]; exact heap_alloc_new _ _ rfl
              have HR0 := hidH ((hbU.block _ (blk_lt HZ02.out)).trans HZ02.out)
              have HR1 := hidH ((hbU.block _ (blk_lt HZ12.out)).trans HZ12.out)
              clear hbU HY2 HZ02 HZ12
              go_upto_region 26 with fail
              rw [← hU3]
              clear hU3
              generalize Y2.heap.size = D2x at *
              obtain ⟨h0, h1, _, _⟩ := blk2_cell HG3.out.x19
              obtain ⟨r00, r01, _, _⟩ := blk2_cell HR0.out
              obtain ⟨r10, r11, _, _⟩ := blk2_cell HR1.out
              obtain ⟨r20, r21, _, _⟩ := blk2_cell HR2.out
              have hq := run_nePs hx hy
              have hgd := fun op a b => grdP op a b hx hy hx hy
              clear HR0 HR1 HR2
              have HS2 : Hid (St2 w.heap.size Pa Pb Da Db Dc w U3 (l.eraseIdx j) (l.map Prod.fst) (l.map Prod.snd) (.slice (some ⟨ga, 0, none⟩) k oc) (.slice (some ⟨gv, 0, none⟩) k vc) B16 B20 ⟨tx, N, true⟩ (N, (i : Int))) := HG3.out.st2 HNE.out
              have HKl : Hid (k = (l.map Prod.fst).length ∧ k = (l.map Prod.snd).length ∧ k ≤ 4500000000000) := ⟨by rw [List.length_map]; exact HM.out, by rw [List.length_map]; exact HM.out, by omega⟩
              clear HG3
              go_upto_region 29 with fail
              clear h0 h1 r00 r01 r10 r11 r20 r21 hq hgd
              have HC1 : Hid (∀ (a2 : Addr), (a2 = ⟨ga, (j + 1) * 1, none⟩ ∨ (a2 = ⟨ga, 0, none⟩ ∧ k = j + 1)) → ∃ g1 c1 w1 g2 c3 w2, (Builtin.append_ #[31, 31] 31 #[.slice (some ⟨U3.heap.size, 0, none⟩) 0 0, .slice (some ⟨ga, 0, none⟩) j oc]).run Try.prog (U3.alloc (.cells #[] 9)).drew = .ok (.slice (some ⟨g1, 0, none⟩) j c1) w1 ∧ (Builtin.append_ #[31, 31] 31 #[.slice (some ⟨g1, 0, none⟩) j c1, .slice (some a2) (k - (j + 1)) (oc - (j + 1))]).run Try.prog w1 = .ok (.slice (some ⟨g2, 0, none⟩) (k - 1) c3) w2 ∧ St2 w.heap.size Pa Pb Da Db Dc w w2 (l.eraseIdx j) ((l.map Prod.fst).eraseIdx j) (l.map Prod.snd) (.slice (some ⟨g2, 0, none⟩) (k - 1) c3) (.slice (some ⟨gv, 0, none⟩) k vc) B16 B20 ⟨tx, N, true⟩ (N, (i : Int))) := fun a2 ha2 => by
                have h2 := HS2.out
                rw [HKl.out.1] at ha2
                rw [show St2 w.heap.size Pa Pb Da Db Dc w U3 (l.eraseIdx j) (l.map Prod.fst) (l.map Prod.snd) (.slice (some ⟨ga, 0, none⟩) k oc) (.slice (some ⟨gv, 0, none⟩) k vc) B16 B20 ⟨tx, N, true⟩ (N, (i : Int)) = St2 w.heap.size Pa Pb Da Db Dc w U3 (l.eraseIdx j) (l.map Prod.fst) (l.map Prod.snd) (.slice (some ⟨ga, 0, none⟩) (l.map Prod.fst).length oc) (.slice (some ⟨gv, 0, none⟩) k vc) B16 B20 ⟨tx, N, true⟩ (N, (i : Int)) by rw [← HKl.out.1]] at h2
                have h3 := h2.cutS j (by rw [← HKl.out.1]; omega) (by have := HKl.out; omega) 31 a2 ha2 (oc - (j + 1))
                rw [← HKl.out.1] at h3
                exact h3
              go_cut [13] (fun v wx => ∃ g2 c3, v = .slice (some ⟨g2, 0, none⟩) (k - 1) c3 ∧ Hid (St2 w.heap.size Pa Pb Da Db Dc w wx (l.eraseIdx j) ((l.map Prod.fst).eraseIdx j) (l.map Prod.snd) v (.slice (some ⟨gv, 0, none⟩) k vc) B16 B20 ⟨tx, N, true⟩ (N, (i : Int))))
              case first =>
                have hjk1 : j + 1 ≤ k := hjk
                have hjk2 : (j : Int) + 1 ≤ (k : Int) := by omega
                have hwr : IntKind.i64.wrap ((j : Int) + 1) = (j : Int) + 1 := wrap_j (by omega)
                have hw0 : (0 : Int) ≤ (j : Int) + 1 := by omega
                have hwt : ((j : Int) + 1).toNat = j + 1 := by omega
                have hw1 : (j : Int) ≤ (j : Int) + 1 := by omega
                by_cases hcp : oc = j + 1
                · subst hcp
                  obtain ⟨g1, c1, w1, g2, c3, w2, r1, r2, hs2⟩ := HC1.out ⟨ga, 0, none⟩ (.inr ⟨rfl, by omega⟩)
                  rw [Nat.sub_self] at r2
                  have hk0 : k - (j + 1) = 0 := by omega
                  have r3 := r2
                  rw [hk0] at r3
                  have R3 := hidH r3
                  clear r3 hk0
                  have HS3 := hidH hs2
                  have R1 := hidH r1
                  have R2 := hidH r2
                  clear hs2 HC1 HS2 r1 r2
                  go_region_law (first | (refine step_appH rfl _ _ 31 rfl (.slice (some ⟨U3.heap.size, 0, none⟩) 0 0) (.slice (some ⟨ga, 0, none⟩) j (j + 1)) rfl rfl rfl R1.out ?_) | (refine step_appH rfl _ _ 31 rfl (.slice (some ⟨g1, 0, none⟩) j c1) (.slice (some ⟨ga, 0, none⟩) (k - (j + 1)) 0) rfl rfl rfl R2.out ?_) | (refine step_appH rfl _ _ 31 rfl (.slice (some ⟨g1, 0, none⟩) j c1) (.slice (some ⟨ga, 0, none⟩) 0 0) rfl rfl rfl R3.out ?_))
                  all_goals (go_wp2_with fail; go_meet; exact ⟨g2, c3, rfl, HS3⟩)
                · obtain ⟨g1, c1, w1, g2, c3, w2, r1, r2, hs2⟩ := HC1.out ⟨ga, (j + 1) * 1, none⟩ (.inl rfl)
                  rw [Nat.mul_one] at r2
                  have HS3 := hidH hs2
                  have R1 := hidH r1
                  have R2 := hidH r2
                  clear hs2 HC1 HS2 r1 r2
                  have hjo : j ≤ oc := by omega
                  have hjo2 : (j : Int) ≤ (oc : Int) := by omega
                  go_region_law (first | (refine step_appH rfl _ _ 31 rfl (.slice (some ⟨U3.heap.size, 0, none⟩) 0 0) (.slice (some ⟨ga, 0, none⟩) j oc) rfl rfl rfl R1.out ?_) | (refine step_appH rfl _ _ 31 rfl (.slice (some ⟨g1, 0, none⟩) j c1) (.slice (some ⟨ga, j + 1, none⟩) (k - (j + 1)) (oc - (j + 1))) rfl rfl rfl R2.out ?_))
                  all_goals (go_wp2_with fail; go_meet; exact ⟨g2, c3, rfl, HS3⟩)
              case rest =>
                obtain ⟨go, co, rfl, HS3q⟩ := hcut
                clear HC1 HS2
                obtain ⟨Y4, hY4⟩ : ∃ Y, Y = wc := ⟨_, rfl⟩
                subst hY4
                have HC2 : Hid (∀ (a2 : Addr), (a2 = ⟨gv, (j + 1) * 2, none⟩ ∨ (a2 = ⟨gv, 0, none⟩ ∧ k = j + 1)) → ∃ g1 c1 w1 g2 c3 w2, (Builtin.append_ #[32, 32] 32 #[.slice (some ⟨Y4.heap.size, 0, none⟩) 0 0, .slice (some ⟨gv, 0, none⟩) j vc]).run Try.prog (Y4.alloc (.cells #[] 28)).drew = .ok (.slice (some ⟨g1, 0, none⟩) j c1) w1 ∧ (Builtin.append_ #[32, 32] 32 #[.slice (some ⟨g1, 0, none⟩) j c1, .slice (some a2) (k - (j + 1)) (vc - (j + 1))]).run Try.prog w1 = .ok (.slice (some ⟨g2, 0, none⟩) (k - 1) c3) w2 ∧ St2 w.heap.size Pa Pb Da Db Dc w w2 (l.eraseIdx j) ((l.map Prod.fst).eraseIdx j) ((l.map Prod.snd).eraseIdx j) (.slice (some ⟨go, 0, none⟩) (k - 1) co) (.slice (some ⟨g2, 0, none⟩) (k - 1) c3) B16 B20 ⟨tx, N, true⟩ (N, (i : Int))) := fun a2 ha2 => by
                  have h2 := HS3q.out
                  rw [HKl.out.2.1] at ha2
                  rw [show St2 w.heap.size Pa Pb Da Db Dc w Y4 (l.eraseIdx j) ((l.map Prod.fst).eraseIdx j) (l.map Prod.snd) (.slice (some ⟨go, 0, none⟩) (k - 1) co) (.slice (some ⟨gv, 0, none⟩) k vc) B16 B20 ⟨tx, N, true⟩ (N, (i : Int)) = St2 w.heap.size Pa Pb Da Db Dc w Y4 (l.eraseIdx j) ((l.map Prod.fst).eraseIdx j) (l.map Prod.snd) (.slice (some ⟨go, 0, none⟩) (k - 1) co) (.slice (some ⟨gv, 0, none⟩) (l.map Prod.snd).length vc) B16 B20 ⟨tx, N, true⟩ (N, (i : Int)) by rw [← HKl.out.2.1]] at h2
                  have h3 := h2.cutP j (by rw [← HKl.out.2.1]; omega) (by have := HKl.out; omega) 32 a2 ha2 (vc - (j + 1))
                  rw [← HKl.out.2.1] at h3
                  exact h3
                go_upto_region 30 with fail
                go_cut [14] (fun v wx => ∃ g2 c3, v = .slice (some ⟨g2, 0, none⟩) (k - 1) c3 ∧ Hid (St2 w.heap.size Pa Pb Da Db Dc w wx (l.eraseIdx j) ((l.map Prod.fst).eraseIdx j) ((l.map Prod.snd).eraseIdx j) (.slice (some ⟨go, 0, none⟩) (k - 1) co) v B16 B20 ⟨tx, N, true⟩ (N, (i : Int))))
                case first =>
                  have hjk1 : j + 1 ≤ k := hjk
                  have hjk2 : (j : Int) + 1 ≤ (k : Int) := by omega
                  have hwr : IntKind.i64.wrap ((j : Int) + 1) = (j : Int) + 1 := wrap_j (by omega)
                  have hw0 : (0 : Int) ≤ (j : Int) + 1 := by omega
                  have hwt : ((j : Int) + 1).toNat = j + 1 := by omega
                  have hw1 : (j : Int) ≤ (j : Int) + 1 := by omega
                  by_cases hcp : vc = j + 1
                  · subst hcp
                    obtain ⟨g1, c1, w1, g2, c3, w2, r1, r2, hs2⟩ := HC2.out ⟨gv, 0, none⟩ (.inr ⟨rfl, by omega⟩)
                    rw [Nat.sub_self] at r2
                    have hk0 : k - (j + 1) = 0 := by omega
                    have r3 := r2
                    rw [hk0] at r3
                    have R3 := hidH r3
                    clear r3 hk0
                    have HS3 := hidH hs2
                    have R1 := hidH r1
                    have R2 := hidH r2
                    clear hs2 HC2 HS3q r1 r2
                    go_region_law (first | (refine step_appH rfl _ _ 32 rfl (.slice (some ⟨Y4.heap.size, 0, none⟩) 0 0) (.slice (some ⟨gv, 0, none⟩) j (j + 1)) rfl rfl rfl R1.out ?_) | (refine step_appH rfl _ _ 32 rfl (.slice (some ⟨g1, 0, none⟩) j c1) (.slice (some ⟨gv, 0, none⟩) (k - (j + 1)) 0) rfl rfl rfl R2.out ?_) | (refine step_appH rfl _ _ 32 rfl (.slice (some ⟨g1, 0, none⟩) j c1) (.slice (some ⟨gv, 0, none⟩) 0 0) rfl rfl rfl R3.out ?_))
                    all_goals (go_wp2_with fail; go_meet; exact ⟨g2, c3, rfl, HS3⟩)
                  · obtain ⟨g1, c1, w1, g2, c3, w2, r1, r2, hs2⟩ := HC2.out ⟨gv, (j + 1) * 2, none⟩ (.inl rfl)
                    have HS3 := hidH hs2
                    have R1 := hidH r1
                    have R2 := hidH r2
                    clear hs2 HC2 HS3q r1 r2
                    have hjo : j ≤ vc := by omega
                    have hjo2 : (j : Int) ≤ (vc : Int) := by omega
                    go_region_law (first | (refine step_appH rfl _ _ 32 rfl (.slice (some ⟨Y4.heap.size, 0, none⟩) 0 0) (.slice (some ⟨gv, 0, none⟩) j vc) rfl rfl rfl R1.out ?_) | (refine step_appH rfl _ _ 32 rfl (.slice (some ⟨g1, 0, none⟩) j c1) (.slice (some ⟨gv, (j + 1) * 2, none⟩) (k - (j + 1)) (vc - (j + 1))) rfl rfl rfl R2.out ?_))
                    all_goals (go_wp2_with fail; go_meet; exact ⟨g2, c3, rfl, HS3⟩)
                case rest =>
                  obtain ⟨gz, cz, rfl, HS4⟩ := hcut
                  have HF : Hid (k - 1 = (l.eraseIdx j).length ∧ HLs w.heap.size Pa Pb Da Db Dc w wc (l.eraseIdx j) (.slice (some ⟨go, 0, none⟩) (k - 1) co) (.slice (some ⟨gz, 0, none⟩) (k - 1) cz)) := ⟨by rw [List.length_eraseIdx, if_pos (by rw [← HM.out]; omega), HM.out], HS4.out.hls (by rw [ChangeMaps.map_eraseIdx]) (by rw [ChangeMaps.map_eraseIdx])⟩
                  clear HS4 HS3q HC2
                  go_wp2
                  exact ⟨⟨i + 1, k - 1, l.eraseIdx j, _, _, co, cz, by omega, by omega, rfl, rfl, by go_num, HF.out⟩, by simp [intOf]; omega⟩
            | false =>
              obtain ⟨x0, x1, x2⟩ := wr_cells HG0.out.x16
              go_upto_region 31 with fail
              clear x0 x1 x2
              have HC0 := hidH (HG0.out.t3.opA HG0.out.n0s (fun X hX => (by obtain ⟨hj, e1, e2⟩ := HH.out; have h := hX.putOld tx (N, (i : Int)) HKt.out j hj e1; rw [e2] at h; exact h)))
              obtain ⟨g0, g1, g2⟩ := wr_cells HG0.out.x16
              obtain ⟨p0, p1, _, _⟩ := blk2_cell HG0.out.x20
              go_wp2_with fail
              clear g0 g1 g2 p0 p1
              refine HC0.out.mono ?_
              rintro e Y0 ⟨rfl, ht, hf, hb⟩
              have HY0 := hidH (HG0.out.op ht hf hb)
              clear ht hf hb HC0 HG0
              obtain ⟨U1, hU1⟩ : ∃ U, U = Y0.alloc (.cells #[.int .i64 hx, .int .i64 hy] 28) := ⟨_, rfl⟩
              have hbU : Below Y0.heap.size Y0 U1 := by rw [hU1]; exact (Below.refl _ _).alloc (Nat.le_refl _) _
              have HG1 := hidH (HY0.out.kept hbU)
              have HR0 : Hid (U1.heap[Y0.heap.size]? = some (.cells #[.int .i64 hx, .int .i64 hy] 28 (0, 0))) := by rw [hU1]; exact heap_alloc_new _ _ rfl
              clear hbU HY0
              go_upto_region 32 with fail
              rw [← hU1]
              clear hU1
              generalize Y0.heap.size = D0x at *
              have HC1 := hidH (HG1.out.t3.opB HG1.out.n0s (fun X hX => (by obtain ⟨hj, e1, e2⟩ := HH.out; have h := hX.putOld tx (N, (i : Int)) HKt.out j hj e1; rw [e2] at h; exact h)))
              obtain ⟨g0, g1, g2⟩ := wr_cells HG1.out.x16
              obtain ⟨p0, p1, _, _⟩ := blk2_cell HG1.out.x20
              go_wp2_with fail
              clear g0 g1 g2 p0 p1
              refine HC1.out.mono ?_
              rintro e Y1 ⟨rfl, ht, hf, hb⟩
              have HY1 := hidH (HG1.out.op ht hf hb)
              have HZ01 := hidH (hf.block _ _ _ HR0.out noPr)
              clear ht hf hb HC1 HG1 HR0
              obtain ⟨U2, hU2⟩ : ∃ U, U = Y1.alloc (.cells #[.int .i64 hx, .int .i64 hy] 28) := ⟨_, rfl⟩
              have hbU : Below Y1.heap.size Y1 U2 := by rw [hU2]; exact (Below.refl _ _).alloc (Nat.le_refl _) _
              have HG2 := hidH (HY1.out.kept hbU)
              have HR1 : Hid (U2.heap[Y1.heap.size]? = some (.cells #[.int .i64 hx, .int .i64 hy] 28 (0, 0))) := by rw [hU2]; exact heap_alloc_new _ _ rfl
              have HR0 := hidH ((hbU.block _ (blk_lt HZ01.out)).trans HZ01.out)
              clear hbU HY1 HZ01
              go_upto_region 33 with fail
              rw [← hU2]
              clear hU2
              generalize Y1.heap.size = D1x at *
              have HC2 := hidH (HG2.out.t3.opC HG2.out.n0s (fun X hX => (by obtain ⟨hj, e1, e2⟩ := HH.out; have h := hX.putOld tx (N, (i : Int)) HKt.out j hj e1; rw [e2] at h; exact h)))
              obtain ⟨g0, g1, g2⟩ := wr_cells HG2.out.x16
              obtain ⟨p0, p1, _, _⟩ := blk2_cell HG2.out.x20
              go_wp2_with fail
              clear g0 g1 g2 p0 p1
              refine HC2.out.mono ?_
              rintro e Y2 ⟨rfl, ht, hf, hb⟩
              have HY2 := hidH (HG2.out.op ht hf hb)
              have HZ02 := hidH (hf.block _ _ _ HR0.out noPr)
              have HZ12 := hidH (hf.block _ _ _ HR1.out noPr)
              clear ht hf hb HC2 HG2 HR0 HR1
              obtain ⟨U3, hU3⟩ : ∃ U, U = Y2.alloc (.cells #[.int .i64 hx, .int .i64 hy] 28) := ⟨_, rfl⟩
              have hbU : Below Y2.heap.size Y2 U3 := by rw [hU3]; exact (Below.refl _ _).alloc (Nat.le_refl _) _
              have HG3 := hidH (HY2.out.kept hbU)
              have HR2 : Hid (U3.heap[Y2.heap.size]? = some (.cells #[.int .i64 hx, .int .i64 hy] 28 (0, 0))) := by rw [hU3]; exact heap_alloc_new _ _ rfl
              have HR0 := hidH ((hbU.block _ (blk_lt HZ02.out)).trans HZ02.out)
              have HR1 := hidH ((hbU.block _ (blk_lt HZ12.out)).trans HZ12.out)
              clear hbU HY2 HZ02 HZ12
              go_upto_region 34 with fail
              rw [← hU3]
              clear hU3
              generalize Y2.heap.size = D2x at *
              obtain ⟨h0, h1, _, _⟩ := blk2_cell HG3.out.x19
              obtain ⟨r00, r01, _, _⟩ := blk2_cell HR0.out
              obtain ⟨r10, r11, _, _⟩ := blk2_cell HR1.out
              obtain ⟨r20, r21, _, _⟩ := blk2_cell HR2.out
              have hq := run_nePs hx hy
              have hgd := fun op a b => grdP op a b hx hy hx hy
              clear HR0 HR1 HR2
              have HS2 : Hid (St2 w.heap.size Pa Pb Da Db Dc w U3 (l.set j (tx, (N, (i : Int)))) (l.map Prod.fst) (l.map Prod.snd) (.slice (some ⟨ga, 0, none⟩) k oc) (.slice (some ⟨gv, 0, none⟩) k vc) B16 B20 ⟨tx, N, false⟩ (N, (i : Int))) := HG3.out.st2 HNE.out
              have HKl : Hid (k = (l.map Prod.fst).length ∧ k = (l.map Prod.snd).length ∧ k ≤ 4500000000000) := ⟨by rw [List.length_map]; exact HM.out, by rw [List.length_map]; exact HM.out, by omega⟩
              obtain ⟨p0, p1, _, _⟩ := blk2_cell HG3.out.x20
              clear HG3
              have hfv : (U3.cell? ⟨gv, j * 2, none⟩ = some (.int .i64 hx) ∧ U3.cell? ⟨gv, j * 2 + 1, none⟩ = some (.int .i64 hy)) ∧ U3.frozen? ⟨gv, j * 2, none⟩ = false ∧ U3.frozen? ⟨gv, j * 2 + 1, none⟩ = false := by
                obtain ⟨h, _, e⟩ := HH.out
                have hv := HS2.out.vs
                rw [← HKl.out.2.1] at hv
                obtain ⟨q0, q1⟩ := prs_at (l.map Prod.snd) j (by simpa using h)
                rw [List.getElem_map, e] at q0 q1
                rw [World.ownsRow.cellAt hv (j * 2) (by omega), World.ownsRow.cellAt hv (j * 2 + 1) (by omega)]
                exact ⟨⟨q0, q1⟩, World.ownsRow.frozenAt hv _, World.ownsRow.frozenAt hv _⟩
              obtain ⟨⟨cv0, cv1⟩, f0, f1⟩ := hfv
              have HF : Hid (HLs w.heap.size Pa Pb Da Db Dc w ((U3.setCell ⟨gv, j * 2, none⟩ (.int .i64 N)).setCell ⟨gv, j * 2 + 1, none⟩ (.int .i64 (i : Int))) (l.set j (tx, (N, (i : Int)))) (.slice (some ⟨ga, 0, none⟩) k oc) (.slice (some ⟨gv, 0, none⟩) k vc)) := by
                obtain ⟨h, e, _⟩ := HH.out
                have h2 := HS2.out
                rw [HKl.out.2.1] at h2
                have h3 := (h2.setP j).hls (set_fst l j h e _).symm (set_snd tx l j _).symm
                rw [← HKl.out.2.1] at h3
                exact h3
              clear HS2
              go_upto_region 37 with fail
              clear h0 h1 r00 r01 r10 r11 r20 r21 hq hgd
              go_wp2
              exact ⟨⟨i + 1, k, l.set j (tx, (N, (i : Int))), _, _, oc, vc, by omega, by omega, rfl, rfl, by go_num, by rw [List.length_set]; exact HM.out, HF.out⟩, by simp [intOf]; omega⟩
    · obtain rfl : n = i := by omega
      clear HW HN hlt
      have HMl : Hid (m = l.length ∧ m ≤ 4500000000000) := ⟨HH.out.1, by omega⟩
      have H1 := hidH HH.out.2
      clear HH
      go_wp2_with fail
      refine (H1.out.spA HMl.out.1 HMl.out.2).mono ?_
      rintro e Y1 ⟨rfl, hb1⟩
      have H2 := hidH (H1.out.kept hb1)
      clear hb1 H1
      go_wp2_with fail
      refine (H2.out.spB HMl.out.1 HMl.out.2).mono ?_
      rintro e Y2 ⟨rfl, hb1⟩
      have H3 := hidH (H2.out.kept hb1)
      clear hb1 H2
      go_wp2_with fail
      refine (H3.out.liC HMl.out.1 HMl.out.2).mono ?_
      rintro e Y3 ⟨rfl, hb1⟩
      have HE := hidH (H3.out.kept hb1).bel
      clear hb1 H3
      go_wp2
      go_ret
      exact ⟨rfl, HE.out⟩
end Go.Proofs.Ytghfofjpoeckkaa
