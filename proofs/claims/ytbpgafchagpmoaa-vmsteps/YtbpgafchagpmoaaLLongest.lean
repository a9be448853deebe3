/-
  THE WALK OF Longest.
-/
import Derived.Test.YtbpgafchagpmoaaLLMath
import Derived.Test.YtbpgafchagpmoaaLLast
namespace Go.Proofs.Ytbpgafchagpmoaa
open Go.RowKit Go.Sort Go.Shelf

attribute [local go_sem] Oper.semAt_some

set_option maxHeartbeats 1000000 in
set_option maxRecDepth 100000 in
theorem longest_any (w : World) (p : Nums) (ao : Option Addr) (n cap : Nat) (L : List K) (hp : NIn p) (h : KeysAt w ao L) (hn : n = L.length) :
    Calls Try.prog 20 #[pv p ao n cap] w fun e w' => e = .returned (.tuple #[.int .i64 (longestN p L).1, .int .i64 (longestN p L).2]) ∧ Below w.heap.size w w' := by
  have HL : Hid (KeysAt w ao L) := h
  have HN : Hid (n = L.length) := hn
  have HP : Hid (NIn p) := hp
  clear h hn hp
  refine (callsIn_wide (n := 10)).1 ?_
  refine callsIn_of_wp_marks Try.func20 rfl trivial ?_ rfl
  simp only [Try.ntmps20, List.size_toArray, List.length_cons, List.length_nil, Nat.reduceAdd, Nat.reduceSub, Array.replicate_succ, Array.replicate_zero, List.push_toArray, List.append_toArray, List.nil_append, List.cons_append]
  gi_wp2_with fail
  have hB0 : Below w.heap.size w (w.alloc (.cells #[.int .i64 p.args, .int .i64 p.reads, .int .i64 p.writes, .int .i64 p.locals, .slice ao n cap] 24)) := (Below.refl _ _).alloc (Nat.le_refl _) _
  refine ⟨trivial, (callsIn_wide.2 (verify_any _ p ao n cap L HP.out (HL.out.kept hB0) HN.out)).mono ?_⟩
  rintro e w1 ⟨rfl, hb1⟩
  have HB1 : Hid (PBox w1 w.heap.size p ao n cap) := (PBox.new w p ao n cap).kept hb1
  have HW1 : Hid (Below w.heap.size w w1) := hB0.trans (hb1.mono hB0.size)
  clear hb1 hB0
  obtain ⟨x0, x1, x2, x3, x4⟩ := HB1.out.cells
  have HV : Hid (∀ v, verifyN p L = v → v ≠ 0 → longestN p L = (0, v)) := fun v h h0 => by unfold longestN; rw [h, if_pos h0]
  have HV0 : Hid (verifyN p L = 0 → longestN p L = ((mostN L L.length).getD 0 0, 0) ∧ Sane L ∧ n ≤ 256) := fun h => by
    obtain ⟨h1, h2, _⟩ := verify_ok h
    refine ⟨by unfold longestN; rw [h, if_neg (by simp)], sane_of h2, ?_⟩
    rw [HN.out]; exact ((limB_iff p L.length).1 h1).2.2.2.2
  generalize hv : verifyN p L = v at *
  by_cases h0 : v = 0
  · subst h0
    obtain ⟨hl1, hl2, hm⟩ := HV0.out rfl
    have HL1 : Hid (longestN p L = ((mostN L L.length).getD 0 0, 0)) := hl1
    have HS : Hid (Sane L) := hl2
    clear hl1 hl2 HV0 HV hv
    have hmk := make_ints (n + 1) ((n : Int) + 1) (by omega) (by omega)
    obtain ⟨g, hg⟩ : ∃ g, g = w1.heap.size := ⟨_, rfl⟩
    have hbA : Below w1.heap.size w1 ((w1.alloc (.cells (cellsI (List.replicate (n + 1) 0)) 3)).alloc (.cells #[.slice (some ⟨w1.heap.size, 0, none⟩) (n + 1) (n + 1)] 42)) := ((Below.refl _ _).alloc (Nat.le_refl _) _).alloc (by simp) _
    have x4' : ((w1.alloc (.cells (cellsI (List.replicate (n + 1) 0)) 3)).alloc (.cells #[.slice (some ⟨w1.heap.size, 0, none⟩) (n + 1) (n + 1)] 42)).cell? ⟨w.heap.size, 4, none⟩ = some (.slice ao n cap) := (hbA.cell (p := ⟨w.heap.size, 4, none⟩) HB1.out.lt).trans x4
    have HLI : Hid (LI w1 (((w1.alloc (.cells (cellsI (List.replicate (n + 1) 0)) 3)).alloc (.cells #[.slice (some ⟨w1.heap.size, 0, none⟩) (n + 1) (n + 1)] 42)).alloc (.cells #[.slice ao n cap] 22)) g (g + 1) (g + 1 + 1) n cap ao (List.replicate (n + 1) 0)) := by
      subst hg
      have e1 := RowI.new w1 (List.replicate (n + 1) 0)
      have e2 := Boxed.new (w1.alloc (.cells (cellsI (List.replicate (n + 1) 0)) 3)) 42 (.slice (some ⟨w1.heap.size, 0, none⟩) (n + 1) (n + 1))
      have e3 := Boxed.new ((w1.alloc (.cells (cellsI (List.replicate (n + 1) 0)) 3)).alloc (.cells #[.slice (some ⟨w1.heap.size, 0, none⟩) (n + 1) (n + 1)] 42)) 22 (.slice ao n cap)
      simp only [World.size_alloc] at e2 e3
      exact ⟨(e1.alloc _).alloc _, e2.alloc _, e3, hbA.alloc (by simp; omega) _⟩
    have HSz : Hid ((((w1.alloc (.cells (cellsI (List.replicate (n + 1) 0)) 3)).alloc (.cells #[.slice (some ⟨w1.heap.size, 0, none⟩) (n + 1) (n + 1)] 42)).alloc (.cells #[.slice ao n cap] 22)).heap.size = g + 3) := by rw [hg]; simp [Hid]
    gi_wp2_with fail
    refine ⟨trivial, (callsIn_wide.2 (backward_any _ ao n cap)).mono ?_⟩
    rintro e W2 ⟨rfl, rfl⟩
    clear x0 x1 x2 x3 x4 x4' hmk hbA
    simp only [World.size_alloc]
    rw [← hg] at HLI HSz ⊢
    gi_wp2_with fail
    generalize ((w1.alloc (.cells (cellsI (List.replicate (n + 1) 0)) 3)).alloc (.cells #[.slice (some ⟨g, 0, none⟩) (n + 1) (n + 1)] 42)).alloc (.cells #[.slice ao n cap] 22) = W5 at *
    have hsz := HSz.out
    obtain ⟨Bm, hBm⟩ : ∃ Bm, Bm = g + 1 := ⟨_, rfl⟩
    obtain ⟨Bs, hBs⟩ : ∃ Bs, Bs = g + 1 + 1 := ⟨_, rfl⟩
    rw [← hBs, ← hBm] at HLI
    rw [← hBs, ← hBm]
    have hK5 : KeysAt W5 ao L := ((HL.out.kept HW1.out).below HLI.out.bel (by rw [hg]; exact (HL.out.kept HW1.out).lt))
    have hlt5 : ∀ a, L ≠ [] → ao = some a → a.block < g := by rw [hg]; exact (HL.out.kept HW1.out).lt
    have hI0 : LInv w1 g Bm Bs n cap ao L [] W5 := ⟨_, HLI.out, by simp, fun j hj => by simp at hj; simp [List.getD_eq_getElem?_getD, hj], fun _ => by rw [HN.out]; rfl⟩
    have HG : Hid (g = w1.heap.size ∧ Bm = g + 1 ∧ Bs = g + 1 + 1 ∧ W5.heap.size = g + 3) := ⟨hg, hBm, hBs, hsz⟩
    have hgm : g < Bm := by omega
    have hms : Bm < Bs := by omega
    have hs5 : Bs < W5.heap.size := by omega
    have hsg : Bs < g + 3 := by omega
    have h5g : W5.heap.size ≤ g + 3 := by omega
    clear hg hBm hBs hsz HSz
    refine wpIn_rangeFunc_ownH rfl (by omega) (gf := 50) (lb := #[.pointer (some ⟨Bs, 0, none⟩)]) rfl trivial (enters_of Try.func50 (by kernel_rfl) rfl)
      (back_stops Fence.wide 9 trivial rfl (by omega) Bs g n cap ao L (by omega) HN.out W5 (by omega) HLI.out.bs.cell hK5 hlt5) KB.trans (KB.put (by omega) (by omega)) (Below.refl _ _) (fun _ => rfl)
      (fun pre W => LInv w1 g Bm Bs n cap ao L pre W)
      (fun _ _ _ => False)
      (fun pre X Y row hs hgr hr => by
        obtain ⟨m, h1, h2⟩ := hs
        refine ⟨m, h1.keep (fun k hk => hgr.block k (by rcases hk with rfl | rfl | rfl; exact h1.row.lt; exact h1.bm.lt; exact h1.bs.lt) (fun e => by have := (hr k e.symm).1; omega)) ?_, h2⟩
        exact ⟨hgr.os, hgr.tape, hgr.output, hgr.size, fun k hk => hgr.block k (by have := h1.row.lt; omega) (fun e => by have := (hr k e.symm).1; omega)⟩)
      (fun c => ownFrom_pure _ _)
      hI0
      (fun x a' W => ∃ Bx, g + 3 ≤ Bx ∧ (W.cell? ⟨Bx, 0, none⟩ = some (.int .i64 (cd L (cl n x)).1) ∧ W.cell? ⟨Bx, 1, none⟩ = some (.int .i64 (cd L (cl n x)).2)) ∧ a' = { tmps := #[pv p ao n cap, (.pointer (some ⟨w.heap.size, 0, none⟩)), (.int .i64 0), (.int .i64 0), (.int .i64 0), (.pointer (some ⟨Bm, 0, none⟩)), (.int .i64 ((cl n x : Nat) : Int)), (.pointer (some ⟨Bx, 0, none⟩)), undef, undef, undef, undef, (.agg #[.int .i64 p.args, .int .i64 p.reads, .int .i64 p.writes, .int .i64 p.locals, .slice ao n cap]), (.int .i64 0), (.int .i64 0), (.bool false), undef, (.pointer (some ⟨w.heap.size, 4, none⟩)), (.slice ao n cap), (.int .i64 (n : Int)), (.int .i64 ((n : Int) + 1)), (.slice (some ⟨g, 0, none⟩) (n + 1) (n + 1)), (.pointer (some ⟨w.heap.size, 4, none⟩)), (.slice ao n cap), (.func (.func 50) #[] #[.pointer (some ⟨Bs, 0, none⟩)]), (.int .i64 ((cl n x : Nat) : Int)), (.agg #[.int .i64 (cd L (cl n x)).1, .int .i64 (cd L (cl n x)).2]), undef, undef, undef, undef, undef, undef, undef, undef, undef, undef, undef, undef, undef, undef, undef, undef, undef, undef, undef, undef, undef, undef, undef, undef, undef, undef, undef, undef, undef, undef, undef, undef, undef, undef, undef], defers := [] })
      (fun x a' _ X Y row hs hgr hr => by
        obtain ⟨Bx, e1, ⟨e2, e4⟩, e3⟩ := hs
        exact ⟨Bx, e1, ⟨cell_kept e2 hgr (fun r e => (hr r e).2), cell_kept e4 hgr (fun r e => (hr r e).2)⟩, e3⟩)
      ?assign ?body ?done ?stop
    case stop => rintro D c pre W hD _ hIx _; exact absurd hIx id
    case assign =>
      rintro l pre x W K hI hK
      gi_wp2
      obtain ⟨m, h1, h2⟩ := hI
      have hbA : Below W.heap.size W (W.alloc (.cells #[.int .i64 (cd L (cl n x)).1, .int .i64 (cd L (cl n x)).2] 66)) := (Below.refl _ _).alloc (Nat.le_refl _) _
      have hWs : g + 3 ≤ W.heap.size := by have := h1.bs.lt; have := HG.out; omega
      exact hK _ _ ((KeepsOthers.alloc _ _).from _) (KB.ofBelow hbA (by omega) (by omega)) ⟨m, h1.kept hbA, h2⟩ ⟨W.heap.size, hWs, Box.new rfl, rfl⟩
    case done =>
      rintro D ys W hD rfl ⟨m, h1, hml, hfew, hch⟩ hK
      have HM := hch (chn_dn n n)
      rw [dn_length] at HM
      have HMo : Hid (m = mostN L n) := HM
      clear HM
      have cB := h1.bm.cell
      have cR := h1.row.cell 0 (by omega)
      have HZ : Hid (m.getD 0 0 = (mostN L L.length).getD 0 0) := by rw [HMo.out, HN.out]; rfl
      generalize m.getD 0 0 = z at *
      have HW2 : Hid (Below w.heap.size w W) := HW1.out.trans (h1.bel.mono (by rw [HG.out.1]; exact HW1.out.size))
      gi_wp2
      have hwD : w.heap.size ≤ D := by have := HW1.out.size; have := HG.out.1; omega
      refine ⟨by simp, .inl ⟨D, _, rfl, run_takeDeferred hK, ?_⟩⟩
      refine ⟨.tuple #[.int .i64 z, .int .i64 0], by simp [results, Try.f20, go_sem], by rw [HL1.out, HZ.out], ?_⟩
      exact HW2.out.trans (belowK_b (w := w) (Nat.le_refl _) W D _ (.deferred none) hwD hK rfl rfl)
    case body =>
      rintro l pre x a' W hl ⟨r, hr⟩ ⟨m, h1, hml, hfew, hch⟩ ⟨Bx, hBx, ⟨c1, c2⟩, rfl⟩ hlt
      have hn0 : 0 < n := by omega
      have hi : cl n x < n := cl_lt hn0
      have HC : Hid (Chn n (pre ++ [x]) → Chn n pre ∧ cl n x = L.length - 1 - pre.length ∧ pre.length < L.length) := fun h => by
        obtain ⟨k1, k2⟩ := chn_snoc h
        have := HN.out
        refine ⟨k1, by rw [cl_of (by omega)]; omega, by omega⟩
      generalize cl n x = i at *
      have HK : Hid (i < L.length) := by have := HN.out; show i < L.length; omega
      have HNx : Hid (∀ j, j < (nextN i (cd L i).1 (cd L i).2).length → arrD (onw i (cd L i).1 (cd L i).2).1 (onw i (cd L i).1 (cd L i).2).2.1 j = (((nextN i (cd L i).1 (cd L i).2).getD j 0 : Nat) : Int)) := fun j hj => arr_next HS.out HK.out j hj
      have HNl : Hid ((onw i (cd L i).1 (cd L i).2).2.2 = ((nextN i (cd L i).1 (cd L i).2).length : Int)) := (onw_next HS.out HK.out).1
      have HNt : Hid (∀ t ∈ nextN i (cd L i).1 (cd L i).2, i < t ∧ t ≤ n) := by have := next_lt HS.out HK.out; rw [← HN.out] at this; exact this
      have HN2 : Hid ((nextN i (cd L i).1 (cd L i).2).length ≤ 2) := next_two _ _ _
      have HSt : Hid (stepM L m i = m.set i (foldM m (nextN i (cd L i).1 (cd L i).2) (m.getD i 0) + 1)) := rfl
      have HI : Hid (LI w1 W g Bm Bs n cap ao m) := h1
      have HF : Hid (m.length = n + 1 ∧ Few m (pre.length : Int)) := ⟨hml, hfew⟩
      have HCh : Hid (Chn n pre → m = mostN L pre.length) := hch
      clear h1 hml hfew hch
      generalize hkk : cd L i = kk at *
      obtain ⟨op, a⟩ := kk
      clear hkk
      simp only at c1 c2 HNx HNl HNt HN2 HSt
      have hWs : Bs < W.heap.size := HI.out.bs.lt
      gi_wp2_with fail
      refine ⟨trivial, (CallsIn.inRound l (callsIn_wide.2 (onward_any _ op a i (by omega)))).mono ?_⟩
      rintro e W4 ⟨rfl, hb4⟩
      have HI4 : Hid (LI w1 W4 g Bm Bs n cap ao m) := HI.out.kept hb4
      have HK4 : Hid (KeepsOthers W W4 ∧ KB g Bs W W4) := ⟨keeps_below hb4, KB.ofBelow hb4 (by omega) hWs⟩
      have HA4 : Hid (ArrAt (W4.alloc (.cells #[.int .i64 (onw i op a).1, .int .i64 (onw i op a).2.1] 88)) W4.heap.size (onw i op a).1 (onw i op a).2.1) := arr_new _ _ _
      have hb5 : Below W4.heap.size W4 (W4.alloc (.cells #[.int .i64 (onw i op a).1, .int .i64 (onw i op a).2.1] 88)) := (Below.refl _ _).alloc (Nat.le_refl _) _
      have HI5 : Hid (LI w1 (W4.alloc (.cells #[.int .i64 (onw i op a).1, .int .i64 (onw i op a).2.1] 88)) g Bm Bs n cap ao m) := HI4.out.kept hb5
      have HK5 : Hid (KeepsOthers W (W4.alloc (.cells #[.int .i64 (onw i op a).1, .int .i64 (onw i op a).2.1] 88)) ∧ KB g Bs W (W4.alloc (.cells #[.int .i64 (onw i op a).1, .int .i64 (onw i op a).2.1] 88))) :=
        ⟨HK4.out.1.trans (keeps_below hb5), HK4.out.2.trans (KB.ofBelow hb5 (by have := HI4.out.bs.lt; omega) HI4.out.bs.lt)⟩
      clear hb4 hb5 HI4 HK4 c1 c2
      rw [tripleV, HNl.out]
      clear HNl
      generalize (onw i op a).1 = X at *
      generalize (onw i op a).2.1 = Y at *
      generalize nextN i op a = nx at *
      have hc2 := HN2.out
      obtain ⟨c, hc⟩ : ∃ c, c = nx.length := ⟨_, rfl⟩
      rw [← hc] at hc2 ⊢
      have HCc : Hid (c = nx.length) := hc
      clear hc
      have hsl := fun u => slice_arr u W4.heap.size c hc2
      gi_wp2_with fail
      clear hsl
      generalize W4.heap.size = B2 at *
      generalize W4.alloc (.cells #[.int .i64 X, .int .i64 Y] 88) = W6 at *
      have hBm' : Bm ≠ g := by omega
      have hBs' : Bs ≠ g := by omega
      have HFw : Hid (∀ j, j < m.length → 0 ≤ m.getD j 0 ∧ m.getD j 0 ≤ (pre.length : Int)) := HF.out.2
      have HLe : Hid (i < m.length) := by have := HF.out.1; show i < m.length; omega
      have hpl : pre.length < 256 := by omega
      gi_loopw [36] (fun y wr => ∃ (j : Nat) (acc : Int), j ≤ c ∧ y = .int .i64 (j : Int) ∧ Hid (foldM m nx (m.getD i 0) = foldM m (nx.drop j) acc) ∧ Hid (0 ≤ acc ∧ acc ≤ (pre.length : Int)) ∧ Hid (LI w1 wr g Bm Bs n cap ao (m.set i acc)) ∧ Hid (ArrAt wr B2 X Y) ∧ Hid (KeepsOthers W wr ∧ KB g Bs W wr)) (fun y _ => c - (intOf y).toNat)
      case atStart => exact ⟨0, m.getD i 0, by omega, rfl, by rw [List.drop_zero]; rfl, HFw.out i HLe.out, by rw [set_self]; exact HI5, HA4, HK5⟩
      case round =>
        obtain ⟨j, acc, hj, rfl, HP, HAcc, HIj, HAj, HKj⟩ := hrel
        have cB := HIj.out.bm.cell
        have cI := HIj.out.row.cell i (by rw [List.length_set]; exact HLe.out)
        rw [getD_set _ _ _ _ HLe.out, if_pos rfl] at cI
        have fI := HIj.out.row.frozen i
        obtain ⟨ha0, ha1⟩ := HAcc.out
        by_cases hlj : j < c
        · have HJ : Hid (j < nx.length) := by have := HCc.out; show j < nx.length; omega
          have ca := HAj.out.at j (by omega)
          rw [HNx.out j HJ.out] at ca
          have HT := HNt.out (nx.getD j 0) (by rw [List.getD_eq_getElem?_getD, List.getElem?_eq_getElem HJ.out]; simp)
          have HP' := HP.out
          rw [drop_getD nx j HJ.out, foldM_cons] at HP'
          have HP1 : Hid (foldM m nx (m.getD i 0) = foldM m (nx.drop (j + 1)) (max acc (m.getD (nx.getD j 0) 0))) := HP'
          clear HP HP'
          generalize nx.getD j 0 = t at *
          obtain ⟨ht1, ht2⟩ := HT
          have htl : t < m.length := by have := HF.out.1; omega
          have cT := HIj.out.row.cell t (by rw [List.length_set]; exact htl)
          rw [getD_set _ _ _ _ htl, if_neg (by omega)] at cT
          obtain ⟨hy0, hy1⟩ := HFw.out t htl
          have HI2 : Hid (∀ q z, LI w1 ((wr.drewN q).setCell ⟨g, i, none⟩ (.int .i64 z)) g Bm Bs n cap ao (m.set i z)) := fun q z => by
            have := (HIj.out.drewN q).set i z hBm' hBs'
            rwa [List.set_set] at this
          have HA2 : Hid (∀ q z, ArrAt ((wr.drewN q).setCell ⟨g, i, none⟩ (.int .i64 z)) B2 X Y) := fun q z => ArrAt.set (W := wr.drewN q) HAj.out (HAj.out.ne HIj.out.row) i _
          have HK2 : Hid (∀ q z, KeepsOthers W ((wr.drewN q).setCell ⟨g, i, none⟩ (.int .i64 z)) ∧ KB g Bs W ((wr.drewN q).setCell ⟨g, i, none⟩ (.int .i64 z))) := fun q z =>
            ⟨HKj.out.1.trans ((show KeepsOthers wr (wr.drewN q) from ⟨Nat.le_refl _, fun _ _ h _ => h⟩).trans (KeepsOthers.setCell _ _ _)), HKj.out.2.trans ((show KB g Bs wr (wr.drewN q) from ⟨⟨rfl, rfl, rfl, Nat.le_refl _, fun _ _ => rfl⟩, rfl⟩).trans (KB.set (A := wr.drewN q) _ (Nat.le_refl _) hBs'))⟩
          generalize m.getD t 0 = y at *
          clear htl HFw
          gi_wp2_with fail
          refine region_round_last (F := Fence.wide) (l := l) 12 rfl (by kernel_rfl) (by kernel_rfl) (by kernel_rfl) rfl rfl ?_
          show wpQuietIn _ _ _ _ _ _ [_, _, _, _, _, _, _, _, _, _, _, _] _
          repeat (gi_big_quiet_step (fail))
          refine wpQuietIn_nil ?_
          rintro _ ⟨nq, rfl⟩
          gi_wp2_with fail
          exact ⟨⟨j + 1, max acc y, by omega, by go_num, HP1, ⟨by omega, by omega⟩, HI2.out nq _, HA2.out nq _, HK2.out nq _⟩, by simp [intOf]; omega⟩
        · obtain rfl : j = c := by omega
          have HE : Hid (foldM m nx (m.getD i 0) = acc) := HP.out.trans (by rw [HCc.out, List.drop_length]; rfl)
          gi_wp2
          refine ⟨(HKj.out.1.trans (KeepsOthers.setCell _ _ _)).from _, HKj.out.2.trans (KB.set _ (Nat.le_refl _) hBs'), m.set i (acc + 1), ?_, ?_, ?_, ?_⟩
          · have := HIj.out.set i (acc + 1) hBm' hBs'
            rwa [List.set_set] at this
          · rw [List.length_set]; exact HF.out.1
          · have hfw : Few m ((pre ++ [x]).length : Int) := Few.mono HF.out.2 (by simp; omega)
            exact hfw.set i (by rw [List.length_append, List.length_singleton]; push_cast; omega)
          · intro hc
            obtain ⟨k1, k2, k3⟩ := HC.out hc
            have e1 := HCh.out k1
            rw [List.length_append, List.length_singleton, most_step L pre.length k3, ← e1, ← k2, HSt.out, HE.out]
  · have h0' : (v != 0) = true := by simpa using h0
    have HE : Hid (longestN p L = (0, v)) := HV.out v rfl h0
    gi_wp2
    refine ⟨.tuple #[.int .i64 0, .int .i64 v], by simp [results, Try.f20, go_sem], by rw [HE.out], HW1.out⟩

end Go.Proofs.Ytbpgafchagpmoaa
