/-
  line.
-/
import Derived.Test.YteobmijfbjgccabZLinH
namespace Go.Proofs.Yteobmijfbjgccab
open Go.RowKit Go.Sort

set_option maxHeartbeats 4000000 in
theorem line_any (w : World) (ao : Option Addr) (n ca : Nat) (L : List Mk) (turn : Int) (h : MksAt w ao L) (hn : n = L.length) (hp : ptsM L ≤ 100000) :
    Calls Try.prog 6 #[.slice ao n ca, .int .i64 turn] w fun e w' => LinP w L turn e w' := by
  have HL := hidW h
  have HN := hidW hn
  have HP := hidW hp
  have hnb : n ≤ 100000 := by have := ptsM_len L; omega
  clear h hn hp
  go_enter Try.func6, Try.ntmps6
  go_wp2_with fail
  go_loopw [6, 7, 8, 9] (fun x y _ _ wr => ∃ (i : Nat) (cb : Nat → Nat) (X : Nat → Prop) (lo : Option Addr) (lc : Nat), i ≤ n ∧ y = .int .i64 (i : Int) ∧ x = .slice lo i lc ∧ Hid (LM w L wr i cb X lo lc)) (fun _ y _ _ _ => n - (intOf y).toNat)
  case atStart => exact ⟨0, _, _, none, 0, Nat.zero_le _, rfl, rfl, LM.start w L⟩
  case round =>
    obtain ⟨i, cb, X, lo, lc, hi, rfl, rfl, HM⟩ := hrel
    by_cases hlt : i < n
    · have hil : i < L.length := by have := HN.out; omega
      have HLr := hidW (HL.out.below HM.out.bl)
      obtain ⟨b, off, rfl, e1, e2⟩ := HLr.out.get i hil
      have HZ := hidW (HLr.out.sub L[i] (List.getElem_mem hil)).1
      have HPz : Hid (L[i].zs.length ≤ 100000) := by have := ptsM_mem (List.getElem_mem hil); have := HP.out; show _ ≤ _; omega
      have HB : Hid (blM L i = if i = 0 then [] else L[i].zs.map (fun z => wiZ z i)) := by show _ = _; rw [blM, getM hil]
      obtain ⟨zs, hzs⟩ : ∃ zs, zs = L[i].zs := ⟨_, rfl⟩
      obtain ⟨s, hs⟩ : ∃ s, s = L[i].s := ⟨_, rfl⟩
      obtain ⟨za, hza⟩ : ∃ za, za = L[i].a := ⟨_, rfl⟩
      obtain ⟨zc, hzc⟩ : ∃ zc, zc = L[i].c := ⟨_, rfl⟩
      obtain ⟨zl, hzl⟩ : ∃ zl, zl = zs.length := ⟨_, rfl⟩
      rw [← hzs, ← hza, ← hzc, ← hzl] at e2
      rw [← hzs, ← hza] at HZ
      rw [← hzs, ← hzl] at HPz
      rw [← hzs] at HB
      rw [← hs] at e1
      have HS := hidW hs
      have HZL := hidW hzl
      have hzl2 := HPz.out
      clear hzs hs hza hzc hzl HPz
      obtain ⟨W, hW⟩ : ∃ W, W = wr := ⟨_, rfl⟩
      subst hW
      go_wp2_with fail
      go_loopw [8, 9] (fun x y wq => ∃ (k t : Nat) (bo : Option Addr) (bc : Nat), k ≤ zl ∧ y = .int .i64 (k : Int) ∧ x = .slice bo t bc ∧ Hid ((i = 0 → t = 0) ∧ (0 < i → t = k)) ∧ Hid (OwZ W.heap.size 35 wq bo t bc (((blM L i).take t).map (pvZ cb))) ∧ Hid (RowKit.Below W.heap.size W wq)) (fun _ y _ => zl - (intOf y).toNat)
      case atStart => exact ⟨0, 0, none, 0, Nat.zero_le _, rfl, rfl, ⟨fun _ => rfl, fun _ => rfl⟩, OwZ.nil _ _ _, Below.refl _ _⟩
      case round =>
        obtain ⟨k, t, bo, bc, hk, rfl, rfl, HT, HO, HBl⟩ := hrel
        have d1 : wr.cell? ⟨b, off + i * 2, none⟩ = some (.int .i64 s) := (HBl.out.cell (p := ⟨b, off + i * 2, none⟩) (cell_lt e1)).trans e1
        have d2 : wr.cell? ⟨b, off + i * 2 + 1, none⟩ = some (.slice za zl zc) := (HBl.out.cell (p := ⟨b, off + i * 2 + 1, none⟩) (cell_lt e2)).trans e2
        by_cases hlt2 : k < zl ∧ 0 < i
        · obtain ⟨hkz, hi0⟩ := hlt2
          have hkl : k < zs.length := by have := HZL.out; omega
          obtain ⟨g, zo, rfl, d3⟩ := (HZ.out.below HBl.out).int k hkl
          have hx := wiZ_range (x := zs[k]) hi0
          obtain ⟨j, hj⟩ : ∃ j : Nat, wiZ zs[k] i = (j : Int) := ⟨(wiZ zs[k] i).toNat, by omega⟩
          have hji : j < i := by omega
          have HWi := hidW (within_any wr zs[k] i (by omega))
          rw [hj] at HWi
          have HBk : Hid ((blM L i).take (k + 1) = (blM L i).take k ++ [(j : Int)]) := by
            show _ = _
            rw [HB.out, if_neg (by omega), List.take_add_one, List.getElem?_map, List.getElem?_eq_getElem hkl]
            simp only [Option.map_some, Option.toList_some, hj]
          obtain ⟨lg, lof, hlo, d4⟩ := (HM.out.keptZ HBl.out).ow.at_ j (ptZ (cb j)) (by simp [hji])
          rw [hlo]
          have htk : t = k := HT.out.2 hi0
          subst htk
          have HA := hidW (appZ (TS := 26) (TE := 35) Try.underlying26 infoZP rfl HO.out HBl.out.size (ptZ (cb j)) rfl (by unfold maxLen; omega) (by omega))
          have hjI : (j : Int) < (i : Int) := by omega
          generalize zs[t] = x at *
          have HWl : Hid (RowKit.Below W.heap.size W wr) := HBl.out
          go_wp2_with fail
          refine HWi.out.mono ?_
          rintro e w2 ⟨rfl, hw2⟩
          have hw2' := hw2.symm
          subst hw2'
          clear hw2
          have HF : Hid (∀ v' w', AppZ W.heap.size 35 wr bo t (((blM L i).take t).map (pvZ cb) ++ [ptZ (cb j)]) v' w' → ∃ bo' bc', v' = .slice bo' (t + 1) bc' ∧ Hid (OwZ W.heap.size 35 w' bo' (t + 1) bc' (((blM L i).take (t + 1)).map (pvZ cb))) ∧ Hid (RowKit.Below W.heap.size W w')) := by
            rintro v' w' ⟨bo', bc', rfl, h1, h2, _⟩
            refine ⟨bo', bc', rfl, ?_, HWl.out.trans (h2.below HWl.out.size (fun k hk => by obtain ⟨g, hg, rfl⟩ := hk; exact (HO.out.lt g hg).1))⟩
            rw [HBk.out, List.map_append, List.map_cons, List.map_nil, pvZ_nat]
            exact h1
          clear HBk HWi HT hx hj
          go_wp2_with (at_builtin; refine wpL_appZ rfl _ _ 26 rfl (.slice bo t bc) (.slice (some ⟨wr.heap.size, 0, none⟩) 1 1) rfl rfl HA.out ?_; intro v1 w1 hv1; obtain ⟨bo', bc', rfl, HO1, HB1⟩ := HF.out v1 w1 hv1; clear hv1)
          go_roundw
          case rel => exact ⟨t + 1, t + 1, bo', bc', by omega, by go_num, rfl, ⟨fun h => by omega, fun _ => rfl⟩, HO1, HB1⟩
          case measure => simp [intOf]; omega
        · have HBt : Hid ((blM L i).take t = blM L i ∧ t = (blM L i).length) := by
            show _ ∧ _
            rw [HB.out]
            by_cases h0 : i = 0
            · rw [if_pos h0, HT.out.1 h0]
              exact ⟨rfl, rfl⟩
            · have hk' : k = zl := by omega
              have ht := HT.out.2 (by omega)
              rw [if_neg h0, ht, hk', HZL.out]
              refine ⟨?_, by simp⟩
              rw [List.take_of_length_le (by simp)]
          have HLM := hidW (HM.out.keptZ HBl.out)
          have htb : t ≤ 1000000 := by
            rcases Nat.eq_zero_or_pos i with h | h
            · have := HT.out.1 h; omega
            · have := HT.out.2 h; omega
          have HNC : Hid (Calls Try.prog 14 #[.int .i64 s, .slice bo t bc] wr fun e w' => NCP wr i cb (lsM L) (blM L) X s (blM L i) e w') := by
            have h1 := HO.out.at_
            rw [HBt.out.1] at h1
            refine newChore_any HLM.out.ci s bo t bc (blM L i) HBt.out.2 h1 (fun z hz => ?_) htb
            rw [HB.out] at hz
            by_cases h0 : i = 0
            · rw [if_pos h0] at hz; simp at hz
            · rw [if_neg h0] at hz
              obtain ⟨y, _, rfl⟩ := List.mem_map.1 hz
              exact (wiZ_range (by omega)).2
          have HNx : Hid (∀ e w1, NCP wr i cb (lsM L) (blM L) X s (blM L i) e w1 → ∃ b0, e = .returned (ptZ b0) ∧ Hid (∀ ty, ∃ v' w', (Builtin.append_ #[26, 26] ty #[.slice lo i lc, .slice (some ⟨w1.heap.size, 0, none⟩) 1 1]).run Try.prog (w1.alloc (.cells #[ptZ b0] 35)) = .ok v' w' ∧ ∃ cb' X' lo' lc', v' = .slice lo' (i + 1) lc' ∧ LM w L w' (i + 1) cb' X' lo' lc')) := fun e w1 hh => by
            rw [HS.out] at hh
            exact HLM.out.next hil (by have := HN.out; omega) hh
          have hcs : ¬ k < zl ∨ (k < zl ∧ i = 0) := by omega
          clear HBt HB HO HBl HT HM HS
          rcases hcs with hcs | ⟨hcs, hcs2⟩
          · go_wp2_with fail
            refine HNC.out.mono ?_
            intro e w1 hne
            obtain ⟨b0, rfl, HAp⟩ := HNx.out e w1 hne
            clear hne HNx HNC HLM
            go_wp2_with (at_builtin; refine wpL_appZ rfl _ _ 26 rfl (.slice lo i lc) (.slice (some ⟨w1.heap.size, 0, none⟩) 1 1) rfl rfl HAp.out ?_; rintro v2 w2 ⟨cb', X', lo', lc', rfl, hlm⟩; have HLM2 := hidW hlm; clear hlm)
            go_roundw
            case rel => exact ⟨i + 1, cb', X', lo', lc', by omega, by go_num, rfl, HLM2⟩
            case measure => simp [intOf]; omega
          · have hi0 : ¬ (0 : Int) < (i : Int) := by omega
            have hi1 : ¬ 0 < i := by omega
            replace hcs2 := hidW hcs2
            go_wp2_with fail
            refine HNC.out.mono ?_
            intro e w1 hne
            obtain ⟨b0, rfl, HAp⟩ := HNx.out e w1 hne
            clear hne HNx HNC HLM
            go_wp2_with (at_builtin; refine wpL_appZ rfl _ _ 26 rfl (.slice lo i lc) (.slice (some ⟨w1.heap.size, 0, none⟩) 1 1) rfl rfl HAp.out ?_; rintro v2 w2 ⟨cb', X', lo', lc', rfl, hlm⟩; have HLM2 := hidW hlm; clear hlm)
            go_roundw
            case rel => exact ⟨i + 1, cb', X', lo', lc', by omega, by go_num, rfl, HLM2⟩
            case measure => simp [intOf]; omega
    · obtain rfl : i = n := by omega
      have HNL : Hid (L.length = i) := HN.out.symm
      have hp0 : totZ i (lsM L) ≤ 1000000000000 := by rw [HN.out, totM]; have := ttM_le L; have := HN.out; omega
      obtain ⟨W, hW⟩ : ∃ W, W = wr := ⟨_, rfl⟩
      subst hW
      go_wp2_with fail
      go_loopw [10, 11] (fun x y wq => ∃ (j : Nat) (ko : Option Addr) (tc : Nat), j ≤ i ∧ y = .int .i64 (j : Int) ∧ x = .slice ko j tc ∧ Hid (OwZ W.heap.size 49 wq ko j tc (((List.range j).map (tsM i turn)).map (tvZ cb))) ∧ Hid (RowKit.Below W.heap.size W wq)) (fun _ y _ => i - (intOf y).toNat)
      case atStart => exact ⟨0, none, 0, Nat.zero_le _, rfl, rfl, OwZ.nil _ _ _, Below.refl _ _⟩
      case round =>
        obtain ⟨j, ko, tc, hj, rfl, rfl, HO, HBl⟩ := hrel
        have HLM := hidW (HM.out.keptZ HBl.out)
        by_cases hlt2 : j < i
        · have hi0 : 0 < i := by omega
          obtain ⟨t1, t2⟩ := wiZ_range (x := turn) hi0
          obtain ⟨r1, r2⟩ := tsM_range (turn := turn) (i := j) hi0
          have HW1 := hidW (within_any wr turn i (by omega))
          have HW2 := hidW (within_any wr ((j : Int) + wiZ turn i) i (by omega))
          rw [show wiZ ((j : Int) + wiZ turn i) i = tsM i turn j from rfl] at HW2
          have HTs : Hid (((List.range (j + 1)).map (tsM i turn)).map (tvZ cb) = ((List.range j).map (tsM i turn)).map (tvZ cb) ++ [tvZ cb (tsM i turn j)]) := by show _ = _; rw [List.range_succ]; simp
          obtain ⟨p, hp⟩ : ∃ p : Nat, tsM i turn j = (p : Int) := ⟨(tsM i turn j).toNat, by omega⟩
          rw [hp] at HW2 HTs r2
          rw [show tvZ cb (p : Int) = .iface 35 (ptZ (cb p)) by simp [tvZ]] at HTs
          have r2' : p < i := by omega
          obtain ⟨lg, lof, hlo, d4⟩ := HLM.out.ow.at_ p (ptZ (cb p)) (by simp [r2'])
          have HA := hidW (appZ (TS := 45) (TE := 49) Try.underlying45 infoZT rfl HO.out HBl.out.size (.iface 35 (ptZ (cb p))) rfl (by unfold maxLen; omega) (by omega))
          have HF : Hid (∀ v' w', AppZ W.heap.size 49 wr ko j (((List.range j).map (tsM i turn)).map (tvZ cb) ++ [.iface 35 (ptZ (cb p))]) v' w' → ∃ ko' tc', v' = .slice ko' (j + 1) tc' ∧ Hid (OwZ W.heap.size 49 w' ko' (j + 1) tc' (((List.range (j + 1)).map (tsM i turn)).map (tvZ cb))) ∧ Hid (RowKit.Below W.heap.size W w')) := by
            rintro v' w' ⟨ko', tc', rfl, h1, h2, _⟩
            refine ⟨ko', tc', rfl, ?_, HBl.out.trans (h2.below HBl.out.size (fun k hk => by obtain ⟨g, hg, rfl⟩ := hk; exact (HO.out.lt g hg).1))⟩
            rw [HTs.out]
            exact h1
          generalize wiZ turn i = t at *
          rw [hlo]
          clear HTs hp r1 hlo
          go_wp2_with fail
          refine HW1.out.mono ?_
          rintro e w2 ⟨rfl, hw2⟩
          have hw2' := hw2.symm
          subst hw2'
          clear hw2
          go_wp2_with fail
          refine HW2.out.mono ?_
          rintro e w2 ⟨rfl, hw2⟩
          have hw2' := hw2.symm
          subst hw2'
          clear hw2
          go_wp2_with (at_builtin; refine wpL_appZ rfl _ _ 45 rfl (.slice ko j tc) (.slice (some ⟨wr.heap.size, 0, none⟩) 1 1) rfl rfl HA.out ?_; intro v1 w1 hv1; obtain ⟨ko', tc', rfl, HO1, HB1⟩ := HF.out v1 w1 hv1; clear hv1)
          go_roundw
          case rel => exact ⟨j + 1, ko', tc', by omega, by go_num, rfl, HO1, HB1⟩
          case measure => simp [intOf]; omega
        · obtain rfl : j = i := by omega
          have HNw := hidW (newLine_any HLM.out.ci ko j tc (tsM j turn) HO.out.none0 HO.out.at_ (fun q hq => (tsM_range (by omega)).2) (by omega) hp0)
          have HF : Hid (∀ e w1, NLP wr j cb (lsM L) (blM L) X j (tsM j turn) e w1 → ∃ lb, e = .returned (ptZ lb) ∧ Hid (LinP w L turn (.returned (.tuple #[.slice lo j lc, ptZ lb])) w1)) := by
            rintro e w1 ⟨lb, ao', tc', rfl, h1, h2, h3, h4⟩
            have hs := HLM.out.bl.size
            refine ⟨lb, rfl, lo, lc, cb, X, lb, ao', tc', by rw [HNL.out], ?_, ?_, by omega, fun g hg => by have := h4 g hg; omega⟩
            · rw [HNL.out]; exact HLM.out.keptZ h2
            · rw [HNL.out]; exact h1
          clear HO HBl HLM HM HN HNL
          go_wp2_with fail
          refine HNw.out.mono ?_
          intro e w1 hne
          obtain ⟨lb, rfl, HQ⟩ := HF.out e w1 hne
          clear hne HF HNw
          go_wp2
          go_ret2
          exact HQ.out
end Go.Proofs.Yteobmijfbjgccab
