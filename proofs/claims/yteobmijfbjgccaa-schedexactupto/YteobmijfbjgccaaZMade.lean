/-
  made: its first loop.
-/
import Derived.Test.YteobmijfbjgccaaZPairM
namespace Go.Proofs.Yteobmijfbjgccaa
open Go.RowKit Go.Sort

/-- the two rows of one chore -/
structure BN (W wq : World) (cb : Nat → Nat) (zs : List Int) (a b : Nat) (bo : Option Addr) (bk : Nat) (no : Option Addr) (nk : Nat) : Prop where
  p : OwZ W.heap.size 44 wq bo a bk ((zs.take a).map (pvZ cb))
  q : OwZ W.heap.size 3 wq no b nk (i64s (zs.take b))
  bl : RowKit.Below W.heap.size W wq
theorem BN.appP {W wq : World} {cb : Nat → Nat} {zs : List Int} {a b : Nat} {bo : Option Addr} {bk : Nat} {no : Option Addr} {nk : Nat} (h : BN W wq cb zs a b bo bk no nk) (x : Int) (hx : zs.take (a + 1) = zs.take a ++ [x]) (ha : a ≤ 1000000) (y : Value) (hy : y = pvZ cb x) (ty : TypeId) :
    ∃ v' w', (Builtin.append_ #[35, 35] ty #[.slice bo a bk, .slice (some ⟨wq.heap.size, 0, none⟩) 1 1]).run Try.prog (wq.alloc (.cells #[y] 44)) = .ok v' w' ∧ ∃ bo' bk', v' = .slice bo' (a + 1) bk' ∧ Hid (BN W w' cb zs (a + 1) b bo' bk' no nk) := by
  obtain ⟨v', w', hr, bo', bk', rfl, ho, hf, _⟩ := appZ (TS := 35) (TE := 44) Try.underlying35 infoZP rfl h.p h.bl.size y (by rw [hy]; unfold pvZ; split <;> rfl) (by unfold maxLen; omega) (by omega) ty
  refine ⟨_, w', hr, bo', bk', rfl, ⟨?_, h.q.kept (fun g hg => hf.block _ (h.q.lt g hg).2 (fun hS => ?_)), h.bl.trans (hf.below h.bl.size (fun k hk => by obtain ⟨g, hg, rfl⟩ := hk; exact (h.p.lt g hg).1))⟩⟩
  · rw [hx, List.map_append, List.map_cons, List.map_nil, ← hy]; exact ho
  · obtain ⟨g', hg', e⟩ := hS
    obtain ⟨C, hC⟩ := h.p.ty g' hg'
    obtain ⟨C', hC'⟩ := h.q.ty g hg
    rw [e, hC'] at hC; cases hC
theorem BN.appQ {W wq : World} {cb : Nat → Nat} {zs : List Int} {a b : Nat} {bo : Option Addr} {bk : Nat} {no : Option Addr} {nk : Nat} (h : BN W wq cb zs a b bo bk no nk) (x : Int) (hx : zs.take (b + 1) = zs.take b ++ [x]) (hb : b ≤ 1000000) (ty : TypeId) :
    ∃ v' w', (Builtin.append_ #[23, 23] ty #[.slice no b nk, .slice (some ⟨wq.heap.size, 0, none⟩) 1 1]).run Try.prog (wq.alloc (.cells #[.int .i64 x] 3)) = .ok v' w' ∧ ∃ no' nk', v' = .slice no' (b + 1) nk' ∧ Hid (BN W w' cb zs a (b + 1) bo bk no' nk') := by
  obtain ⟨v', w', hr, bo', bk', rfl, ho, hf, _⟩ := appZ (TS := 23) (TE := 3) Try.underlying23 infoZI rfl h.q h.bl.size (.int .i64 x) rfl (by unfold maxLen; omega) (by omega) ty
  refine ⟨_, w', hr, bo', bk', rfl, ⟨h.p.kept (fun g hg => hf.block _ (h.p.lt g hg).2 (fun hS => ?_)), ?_, h.bl.trans (hf.below h.bl.size (fun k hk => by obtain ⟨g, hg, rfl⟩ := hk; exact (h.q.lt g hg).1))⟩⟩
  · obtain ⟨g', hg', e⟩ := hS
    obtain ⟨C, hC⟩ := h.q.ty g' hg'
    obtain ⟨C', hC'⟩ := h.p.ty g hg
    rw [e, hC'] at hC; cases hC
  · rw [hx, i64s, List.map_append]; exact ho
theorem BN.drew {W wq : World} {cb : Nat → Nat} {zs : List Int} {a b : Nat} {bo : Option Addr} {bk : Nat} {no : Option Addr} {nk : Nat} (h : BN W wq cb zs a b bo bk no nk) : BN W wq.drew cb zs a b bo bk no nk := ⟨h.p.kept (fun _ _ => rfl), h.q.kept (fun _ _ => rfl), ⟨h.bl.os, h.bl.tape, h.bl.output, h.bl.size, h.bl.block⟩⟩
theorem OwZ.rowC {N TE : Nat} {w : World} {ao : Option Addr} {n c : Nat} {ys : List Value} (h : OwZ N TE w ao n c ys) (g : Addr) (hg : ao = some g) : ∃ C, w.heap[g.block]? = some (.cells C TE (0, 0)) ∧ n ≤ C.size ∧ g = ⟨g.block, 0, none⟩ := by
  obtain ⟨hl, h⟩ := h
  rcases h with ⟨h, _⟩ | ⟨g', cap, cur, e, hb, hh, hn, _, hs, _⟩
  · cases h; cases hg
  · cases e; cases hg; exact ⟨_, hh, by omega, rfl⟩
/-- what the first loop leaves -/
def M1 (w : World) (L : List Mk) (pb rb : Nat) (wr : World) (i : Nat) : Prop := ∃ cb X lo lc ra rk ba bc, MD w L pb rb wr i i cb X lo lc ra rk ba bc
theorem MD.start (w : World) (L : List Mk) (W0 : World) (hW0 : W0 = ((w.alloc (.cells #[.slice none 0 0] 51)).alloc (.cells #[.slice none 0 0, .pointer none, .pointer (some ⟨w.heap.size, 0, none⟩), .pointer none, .slice none 0 0, .slice none 0 0] 55))) : M1 w L (w.heap.size + 1) w.heap.size W0 0 := by
  have hb1 : RowKit.Below w.heap.size w (w.alloc (.cells #[.slice none 0 0] 51)) := (Below.refl _ _).alloc (Nat.le_refl _) _
  have hsz : (w.alloc (.cells #[.slice none 0 0] 51)).heap.size = w.heap.size + 1 := by simp
  have hb2 : RowKit.Below w.heap.size w W0 := by rw [hW0]; exact hb1.alloc (by rw [hsz]; omega) _
  have e1 : W0.heap[w.heap.size + 1]? = some (.cells #[.slice none 0 0, .pointer none, ptZ w.heap.size, .pointer none, .slice none 0 0, .slice none 0 0] 55 (0, 0)) := by rw [hW0]; exact heap_alloc_new _ _ (by rw [hsz])
  have e2 : W0.heap[w.heap.size]? = some (.cells #[.slice none 0 0] 51 (0, 0)) := by rw [hW0, heap_alloc_old _ _ (by rw [hsz]; omega)]; exact heap_alloc_new _ _ rfl
  refine ⟨fun _ => 0, fun _ => False, none, 0, none, 0, fun _ => none, fun _ => 0, ⟨e1, CI.none _ _ _ _, OwZ.nil _ _ _, fun _ _ h => h, ⟨e2, World.ownsRow_nil _ _ _ _, fun i hi => by omega, fun i hi => by omega, fun i hi => by omega, Nat.le_refl _⟩, hb2, fun _ h => h.elim, by omega⟩⟩
set_option maxRecDepth 100000 in
set_option maxHeartbeats 8000000 in
theorem made_any (w : World) (ao to_ : Option Addr) (n ca nt ct : Nat) (L : List Mk) (Ts : List Int) (h : MksAt w ao L) (hn : n = L.length) (hp : ptsM L ≤ 100000) (ht : WAt w to_ (i64s Ts)) (htn : nt = Ts.length) (htb : nt ≤ 10000000) :
    Calls Try.prog 11 #[.slice ao n ca, .slice to_ nt ct] w fun e w' => MadP w L Ts e w' := by
  have HL := hidW h
  have HN := hidW hn
  have HP := hidW hp
  have hnb : n ≤ 100000 := by have := ptsM_len L; omega
  have HTs := hidW ht
  have HTn := hidW htn
  clear h hn hp ht htn
  go_enter Try.func11, Try.ntmps11
  go_wp2_with fail
  obtain ⟨W0, hW0⟩ : ∃ W0, W0 = ((w.alloc (.cells #[.slice none 0 0] 51)).alloc (.cells #[.slice none 0 0, .pointer none, .pointer (some ⟨w.heap.size, 0, none⟩), .pointer none, .slice none 0 0, .slice none 0 0] 55)) := ⟨_, rfl⟩
  have HM0 : Hid (M1 w L (w.heap.size + 1) w.heap.size W0 0) := MD.start w L W0 hW0
  rw [← hW0]
  clear hW0
  obtain ⟨rb, hrb⟩ : ∃ rb, rb = w.heap.size := ⟨_, rfl⟩
  obtain ⟨pb, hpb⟩ : ∃ pb, pb = rb + 1 := ⟨_, rfl⟩
  rw [← hrb, ← hpb] at HM0 ⊢
  clear hpb hrb
  go_loopw [6, 7, 8, 9, 10, 11] (fun y _ _ _ _ _ wr => ∃ (i : Nat), i ≤ n ∧ y = .int .i64 (i : Int) ∧ Hid (M1 w L pb rb wr i)) (fun y _ _ _ _ _ _ => n - (intOf y).toNat)
  case atStart => exact ⟨0, Nat.zero_le _, rfl, HM0⟩
  case round =>
    clear HM0
    obtain ⟨i, hi, rfl, HM1⟩ := hrel
    obtain ⟨cb, X, lo, lc, ra, rk, ba, bc, hmd⟩ := HM1.out
    have HM := hidW hmd
    clear hmd HM1
    by_cases hlt : i < n
    · have hil : i < L.length := by have := HN.out; omega
      have HLr := hidW (HL.out.below HM.out.bl)
      obtain ⟨b, off, rfl, e1, e2⟩ := HLr.out.get i hil
      have HZ := hidW (HLr.out.sub L[i] (List.getElem_mem hil)).1
      have HPz : Hid (L[i].zs.length ≤ 100000) := by have := ptsM_mem (List.getElem_mem hil); have := HP.out; show _ ≤ _; omega
      have HB : Hid (bhM L i = L[i].zs.map (fun z => wbZ z i)) := by show _ = _; rw [bhM, getM hil]
      obtain ⟨zs, hzs⟩ : ∃ zs, zs = L[i].zs := ⟨_, rfl⟩
      obtain ⟨s, hs⟩ : ∃ s, s = L[i].s := ⟨_, rfl⟩
      obtain ⟨za, hza⟩ : ∃ za, za = L[i].a := ⟨_, rfl⟩
      obtain ⟨zc, hzc⟩ : ∃ zc, zc = L[i].c := ⟨_, rfl⟩
      obtain ⟨zl, hzl⟩ : ∃ zl, zl = zs.length := ⟨_, rfl⟩
      rw [← hzs, ← hza, ← hzc, ← hzl] at e2
      rw [← hzs, ← hza] at HZ
      rw [← hzs, ← hzl] at HPz
      rw [← hzs] at HB
      rw [← hs] at e1
      have HS := hidW hs
      have HZL := hidW hzl
      have hzl2 := HPz.out
      clear hzs hs hza hzc hzl HPz
      obtain ⟨W, hW⟩ : ∃ W, W = wr := ⟨_, rfl⟩
      subst hW
      go_wp2_with fail
      go_loopw [7, 8, 9, 10] (fun x x2 y _ wq => ∃ (k : Nat) (bo : Option Addr) (bk : Nat) (no : Option Addr) (nk : Nat), k ≤ zl ∧ y = .int .i64 (k : Int) ∧ x = .slice bo k bk ∧ x2 = .slice no k nk ∧ Hid (BN W wq cb (bhM L i) k k bo bk no nk)) (fun _ _ y _ _ => zl - (intOf y).toNat)
      case atStart => exact ⟨0, none, 0, none, 0, Nat.zero_le _, rfl, rfl, rfl, ⟨OwZ.nil _ _ _, OwZ.nil _ _ _, Below.refl _ _⟩⟩
      case round =>
        obtain ⟨k, bo, bk, no, nk, hk, rfl, rfl, rfl, HN2⟩ := hrel
        have HBl : Hid (RowKit.Below W.heap.size W wr) := HN2.out.bl
        have d1 : wr.cell? ⟨b, off + i * 2, none⟩ = some (.int .i64 s) := (HBl.out.cell (p := ⟨b, off + i * 2, none⟩) (cell_lt e1)).trans e1
        have d2 : wr.cell? ⟨b, off + i * 2 + 1, none⟩ = some (.slice za zl zc) := (HBl.out.cell (p := ⟨b, off + i * 2 + 1, none⟩) (cell_lt e2)).trans e2
        by_cases hlt2 : k < zl
        · have hkl : k < zs.length := by have := HZL.out; omega
          obtain ⟨g, zo, rfl, d3⟩ := (HZ.out.below HBl.out).int k hkl
          have HBk : Hid ((bhM L i).take (k + 1) = (bhM L i).take k ++ [wbZ zs[k] i]) := by
            show _ = _
            rw [HB.out, List.take_add_one, List.getElem?_map, List.getElem?_eq_getElem hkl]
            simp only [Option.map_some, Option.toList_some]
          generalize zs[k] = x at *
          have hkI : (k : Int) < (zl : Int) := by omega
          have hiI : (i : Int) < (n : Int) := by omega
          by_cases hc : x < 0 ∨ i = 0
          · have HBk2 : Hid ((bhM L i).take (k + 1) = (bhM L i).take k ++ [-1]) := by have := HBk.out; rw [wbZ, if_pos hc] at this; exact this
            have HAp := hidW (HN2.out.appP (-1) HBk2.out (by omega) (.pointer none) rfl)
            have hcs : x < 0 ∨ (¬ x < 0 ∧ (i : Int) = 0) := by omega
            clear hc HBk
            have hcs2 : x < 0 ∨ (¬ x < 0 ∧ ((i : Int) == 0) = true) := by
              rcases hcs with h | ⟨h, h2⟩
              · exact .inl h
              · exact .inr ⟨h, by rw [h2]; rfl⟩
            clear hcs
            rcases hcs2 with hc | ⟨hc, hc2⟩
            all_goals
              go_wp2_with (first
                | (at_builtin; refine wpL_appZ rfl _ _ 35 rfl (.slice bo k bk) (.slice (some ⟨wr.heap.size, 0, none⟩) 1 1) rfl rfl HAp.out ?_; rintro v1 w1 ⟨bo', bk', rfl, HN3⟩; have HAq := hidW (HN3.out.appQ (-1) HBk2.out (by omega)))
                | (at_builtin; refine wpL_appZ rfl _ _ 23 rfl (.slice no k nk) (.slice (some ⟨w1.heap.size, 0, none⟩) 1 1) rfl rfl HAq.out ?_; rintro v2 w2 ⟨no', nk', rfl, HN4⟩))
              go_roundw
              case rel => exact ⟨k + 1, bo', bk', no', nk', by omega, by go_num, rfl, rfl, HN4⟩
              case measure => simp [intOf]; omega
          · have hx0 : 0 ≤ x := by omega
            have hi0 : 0 < i := by omega
            have hr1 := Int.emod_nonneg x (b := (i : Int)) (by omega)
            have hr2 := Int.emod_lt_of_pos x (b := (i : Int)) (by omega)
            obtain ⟨j, hj⟩ : ∃ j : Nat, x % (i : Int) = (j : Int) := ⟨(x % (i : Int)).toNat, by omega⟩
            have hji : j < i := by omega
            have hrem : x.tmod (i : Int) = (j : Int) := by rw [Int.tmod_eq_emod_of_nonneg hx0, hj]
            have HBk2 : Hid ((bhM L i).take (k + 1) = (bhM L i).take k ++ [(j : Int)]) := by have := HBk.out; rw [wbZ, if_neg hc, hj] at this; exact this
            have HMr := hidW (HM.out.kept HBl.out)
            obtain ⟨lg, lof, hlo, d4⟩ := HMr.out.ow.at_ j (ptZ (cb j)) (by simp [hji])
            have d5 : wr.cell? ⟨pb, 0, none⟩ = some (.slice lo i lc) := by simp [World.cell?, HMr.out.pc]
            have HAp := hidW (HN2.out.drew.appP (j : Int) HBk2.out (by omega) (ptZ (cb j)) (by rw [pvZ_nat]))
            rw [hlo] at d5
            have hx1 : ¬ x < 0 := by omega
            have hi1 : ¬ (i : Int) = 0 := by omega
            have hi3 : ¬ i = 0 := by omega
            have hi2 : ((i : Int) == 0) = false := by rw [beq_eq_false_iff_ne]; exact hi1
            have hjI : (j : Int) < (i : Int) := by omega
            have HLo := hidW hlo
            clear hc HBk hj hr1 hr2 HMr hlo
            have HSS : Hid (∀ w' : World, RowKit.Below W.heap.size W w' → w'.cell? ⟨pb, 0, none⟩ = some (.slice (some ⟨lg, lof, none⟩) i lc) ∧ w'.cell? ⟨lg, lof + j, none⟩ = some (ptZ (cb j))) := fun w' hb => by
              have hM := HM.out.kept hb
              obtain ⟨lg', lof', hlo', d4'⟩ := hM.ow.at_ j (ptZ (cb j)) (by simp [hji])
              rw [HLo.out] at hlo'
              cases hlo'
              refine ⟨?_, d4'⟩
              have := hM.pc
              rw [HLo.out] at this
              simp [World.cell?, this]
            have hbd : RowKit.Below W.heap.size W wr.drew := HN2.out.drew.bl
            have hS3 := fun o => HSS.out (wr.drew.alloc o) (hbd.alloc hbd.size o)
            go_upto_region 14 with fail
            -- REGION 14
            refine wp_region_held_drew (S := fun w' => w'.cell? ⟨pb, 0, none⟩ = some (.slice (some ⟨lg, lof, none⟩) i lc) ∧ w'.cell? ⟨lg, lof + j, none⟩ = some (ptZ (cb j))) (by kernel_rfl) ?_ (fun hHeld => ?_)
            · exact HSS.out _ hbd
            refine wpAnyH_take (i := 0) (v := .slice bo k bk) rfl (by kernel_rfl) (by kernel_rfl) (by kernel_rfl) (fun _ _ _ h => h) (Or.inl ⟨by rfl, by intro w hSw; (try dsimp only at hSw); go_simp⟩) (by assumption) ?_
            refine wpAnyH_take (i := 1) (v := .pointer (some ⟨pb, 0, none⟩)) rfl (by kernel_rfl) (by kernel_rfl) (by kernel_rfl) (fun _ _ _ h => h) (Or.inl ⟨by rfl, by intro w hSw; (try dsimp only at hSw); go_simp⟩) (by assumption) ?_
            refine wpAnyH_take (i := 2) (v := .pointer (some ⟨pb, 0, none⟩)) rfl (by kernel_rfl) (by kernel_rfl) (by kernel_rfl) (fun _ _ _ h => h) (Or.inl ⟨by rfl, by intro w hSw; (try dsimp only at hSw); go_simp⟩) (by assumption) ?_
            refine wpAnyH_take (i := 3) (v := .pointer (some ⟨pb, 0, none⟩)) rfl (by kernel_rfl) (by kernel_rfl) (by kernel_rfl) (fun _ _ _ h => h) (Or.inl ⟨by rfl, by intro w hSw; (try dsimp only at hSw); go_simp⟩) (by assumption) ?_
            refine wpAnyH_take (i := 4) (v := .slice (some ⟨lg, lof, none⟩) i lc) rfl (by kernel_rfl) (by kernel_rfl) (by kernel_rfl) (fun _ _ _ h => h) (Or.inl ⟨by rfl, by intro w hSw; (try dsimp only at hSw); go_simp⟩) (by assumption) ?_
            refine wpAnyH_take (i := 5) (v := .int .i64 x) rfl (by kernel_rfl) (by kernel_rfl) (by kernel_rfl) (fun _ _ _ h => h) (Or.inl ⟨by rfl, by intro w hSw; (try dsimp only at hSw); go_simp⟩) (by assumption) ?_
            refine wpAnyH_take (i := 6) (v := .int .i64 (i : Int)) rfl (by kernel_rfl) (by kernel_rfl) (by kernel_rfl) (fun _ _ _ h => h) (Or.inl ⟨by rfl, by intro w hSw; (try dsimp only at hSw); go_simp⟩) (by assumption) ?_
            refine wpAnyH_take (i := 7) (v := .int .i64 (j : Int)) rfl (by kernel_rfl) (by kernel_rfl) (by kernel_rfl) (fun _ _ _ h => h) (Or.inl ⟨by rfl, by intro w hSw; (try dsimp only at hSw); go_simp⟩) (by assumption) ?_
            refine wpAnyH_take (i := 8) (v := .pointer (some ⟨lg, lof + j, none⟩)) rfl (by kernel_rfl) (by kernel_rfl) (by kernel_rfl) (fun _ _ _ h => h) (Or.inl ⟨by rfl, by intro w hSw; (try dsimp only at hSw); go_simp⟩) (by assumption) ?_
            refine wpAnyH_take (i := 9) (v := ptZ (cb j)) rfl (by kernel_rfl) (by kernel_rfl) (by kernel_rfl) (fun _ _ _ h => h) (Or.inl ⟨by rfl, by intro w hSw; (try dsimp only at hSw); go_simp⟩) (by assumption) ?_
            refine wpAnyH_ready (rs := [10]) (by kernel_rfl) (by simp) ?_
            refine AllReadyH.cons rfl (fun K hK => ?_) ?_
            · go_simp
              refine hK.out _ _ (by exact hS3 _) (fun hHeld => ?_)
              clear hK K
              refine wpAnyH_ready (rs := [11]) (by kernel_rfl) (by simp) ?_
              refine AllReadyH.cons rfl (fun K hK => ?_) ?_
              · refine step_appZ rfl _ _ 35 rfl (.slice bo k bk) (.slice (some ⟨wr.drew.heap.size, 0, none⟩) 1 1) rfl rfl HAp.out ?_
                rintro v1 w1 ⟨bo', bk', rfl, HN3⟩
                refine hK.out _ _ (by exact HSS.out _ HN3.out.bl) (fun hHeld => ?_)
                clear hK K
                refine wpAnyH_take (i := 12) (v := .slice bo' (k + 1) bk') rfl (by kernel_rfl) (by kernel_rfl) (by kernel_rfl) (fun _ _ _ h => h) (Or.inl ⟨by rfl, by intro w hSw; (try dsimp only at hSw); go_simp⟩) (by assumption) ?_
                refine wpAnyH_done (by kernel_rfl) ?_ _
                have HAq := hidW (HN3.out.appQ (j : Int) HBk2.out (by omega))
                go_wp2_with (at_builtin; refine wpL_appZ rfl _ _ 23 rfl (.slice no k nk) (.slice (some ⟨w1.heap.size, 0, none⟩) 1 1) rfl rfl HAq.out ?_; rintro v2 w2 ⟨no', nk', rfl, HN4⟩)
                go_roundw
                case rel => exact ⟨k + 1, bo', bk', no', nk', by omega, by go_num, rfl, rfl, HN4⟩
                case measure => simp [intOf]; omega
              exact AllReadyH.nil
            exact AllReadyH.nil
            -- END 14
        · have hkz : k = zl := by omega
          have HBt : Hid ((bhM L i).take k = bhM L i ∧ k = (bhM L i).length) := by
            show _ ∧ _
            rw [HB.out, hkz, HZL.out]
            exact ⟨List.take_of_length_le (by simp), by simp⟩
          obtain rfl : k = zl := hkz
          clear HB
          have hdr : RowKit.Below W.heap.size W wr.drew := HN2.out.drew.bl
          have HMd := hidW (HM.out.kept hdr)
          have HNC : Hid (Calls Try.prog 25 #[.int .i64 s, .slice bo k bk] wr.drew fun e w' => NCP wr.drew i cb (lsM L) (bhM L) X s (bhM L i) e w') := by
            have h1 := HN2.out.drew.p.at_
            rw [HBt.out.1] at h1
            exact newChore_any HMd.out.ci s bo k bk (bhM L i) HBt.out.2 h1 (bhM_lt L i) (by omega)
          have HSw : Hid (∀ w' : World, RowKit.Below w.heap.size w w' → w'.cell? ⟨b, off + i * 2, none⟩ = some (.int .i64 s)) := fun w' hb => by
            obtain ⟨b', off', hh, q1, _⟩ := (HL.out.below hb).get i hil
            cases hh
            rw [HS.out]
            exact q1
          have HNx : Hid (∀ e w1, NCP wr.drew i cb (lsM L) (bhM L) X s (bhM L i) e w1 → ∃ b0, e = .returned (ptZ b0) ∧ (∀ o, (w1.alloc o).cell? ⟨pb, 0, none⟩ = some (.slice lo i lc)) ∧ w1.cell? ⟨pb, 0, none⟩ = some (.slice lo i lc) ∧ w1.cell? ⟨b, off + i * 2, none⟩ = some (.int .i64 s) ∧ (∀ o, (w1.alloc o).cell? ⟨b, off + i * 2, none⟩ = some (.int .i64 s)) ∧ Hid (∀ ty, ∃ v' w2, (Builtin.append_ #[35, 35] ty #[.slice lo i lc, .slice (some ⟨w1.heap.size, 0, none⟩) 1 1]).run Try.prog (w1.alloc (.cells #[ptZ b0] 44)) = .ok v' w2 ∧ ∃ lo' lc', v' = .slice lo' (i + 1) lc' ∧ Hid (w2.cell? ⟨pb, 0, none⟩ = some (.slice lo i lc) ∧ w2.frozen? ⟨pb, 0, none⟩ = false ∧ RowKit.Below w.heap.size w w2 ∧ ∃ cb' X', MD w L pb rb (w2.setCell ⟨pb, 0, none⟩ (.slice lo' (i + 1) lc')) (i + 1) i cb' X' lo' lc' ra rk ba bc ∧ (∀ k, k < wr.drew.heap.size → W.heap.size ≤ k → ¬ X' k ∧ (∀ g, lo' = some g → g.block ≠ k) ∧ (w2.setCell ⟨pb, 0, none⟩ (.slice lo' (i + 1) lc')).heap[k]? = wr.drew.heap[k]?)))) := fun e w1 hh => by
            have hh2 := hh
            rw [HS.out] at hh
            obtain ⟨b0, he, hap⟩ := HM.out.next hil (by have := HN.out; omega) hdr hh
            obtain ⟨_, _, _, _, _, _, _, hbl⟩ := hh2
            have hM1 := (HMd.out.kept hbl)
            have c1 : w1.cell? ⟨pb, 0, none⟩ = some (.slice lo i lc) := by simp [World.cell?, hM1.pc]
            have c2 := HSw.out w1 hM1.bl
            exact ⟨b0, he, fun o => Lib.cell?_alloc_some _ c1, c1, c2, fun o => Lib.cell?_alloc_some _ c2, hap⟩
          have d5 : wr.drew.cell? ⟨pb, 0, none⟩ = some (.slice lo i lc) := by simp [World.cell?, HMd.out.pc]
          have hiI : (i : Int) < (n : Int) := by omega
          have hS0 := HSw.out wr.drew HMd.out.bl
          clear HMd
          go_upto_region 16 with fail
          go_cut [] from 20 to 109 (fun wx => ∃ cb' X' lo' lc', Hid (MD w L pb rb wx (i + 1) i cb' X' lo' lc' ra rk ba bc) ∧ Hid (OwZ W.heap.size 3 wx no k nk (i64s (bhM L i))) ∧ Hid (∀ g, bo = some g → W.heap.size ≤ g.block ∧ g = ⟨g.block, 0, none⟩ ∧ ¬ X' g.block ∧ (∀ g', lo' = some g' → g'.block ≠ g.block) ∧ ∃ C, wx.heap[g.block]? = some (.cells C 44 (0, 0)) ∧ k ≤ C.size))
          case first =>
            -- REGION 16
            refine wp_region_held_drew (S := fun w' => w'.cell? ⟨b, off + i * 2, none⟩ = some (.int .i64 s)) (by kernel_rfl) ?_ (fun hHeld => ?_)
            · exact hS0
            refine wpAnyH_take (i := 0) (v := .pointer (some ⟨pb, 0, none⟩)) rfl (by kernel_rfl) (by kernel_rfl) (by kernel_rfl) (fun _ _ _ h => h) (Or.inl ⟨by rfl, by intro w hSw; (try dsimp only at hSw); go_simp⟩) (by assumption) ?_
            refine wpAnyH_take (i := 1) (v := .pointer (some ⟨pb, 0, none⟩)) rfl (by kernel_rfl) (by kernel_rfl) (by kernel_rfl) (fun _ _ _ h => h) (Or.inl ⟨by rfl, by intro w hSw; (try dsimp only at hSw); go_simp⟩) (by assumption) ?_
            refine wpAnyH_take (i := 2) (v := .pointer (some ⟨pb, 0, none⟩)) rfl (by kernel_rfl) (by kernel_rfl) (by kernel_rfl) (fun _ _ _ h => h) (Or.inl ⟨by rfl, by intro w hSw; (try dsimp only at hSw); go_simp⟩) (by assumption) ?_
            refine wpAnyH_take (i := 3) (v := .pointer (some ⟨pb, 0, none⟩)) rfl (by kernel_rfl) (by kernel_rfl) (by kernel_rfl) (fun _ _ _ h => h) (Or.inl ⟨by rfl, by intro w hSw; (try dsimp only at hSw); go_simp⟩) (by assumption) ?_
            refine wpAnyH_take (i := 5) (v := .slice (some ⟨b, off, none⟩) n ca) rfl (by kernel_rfl) (by kernel_rfl) (by kernel_rfl) (fun _ _ _ h => h) (Or.inl ⟨by rfl, by intro w hSw; (try dsimp only at hSw); go_simp⟩) (by assumption) ?_
            refine wpAnyH_take (i := 6) (v := .int .i64 (i : Int)) rfl (by kernel_rfl) (by kernel_rfl) (by kernel_rfl) (fun _ _ _ h => h) (Or.inl ⟨by rfl, by intro w hSw; (try dsimp only at hSw); go_simp⟩) (by assumption) ?_
            refine wpAnyH_take (i := 7) (v := .pointer (some ⟨b, off + i * 2, none⟩)) rfl (by kernel_rfl) (by kernel_rfl) (by kernel_rfl) (fun _ _ _ h => h) (Or.inl ⟨by rfl, by intro w hSw; (try dsimp only at hSw); go_simp⟩) (by assumption) ?_
            refine wpAnyH_take (i := 8) (v := .pointer (some ⟨b, off + i * 2, none⟩)) rfl (by kernel_rfl) (by kernel_rfl) (by kernel_rfl) (fun _ _ _ h => h) (Or.inl ⟨by rfl, by intro w hSw; (try dsimp only at hSw); go_simp⟩) (by assumption) ?_
            refine wpAnyH_take (i := 9) (v := .int .i64 s) rfl (by kernel_rfl) (by kernel_rfl) (by kernel_rfl) (fun _ _ _ h => h) (Or.inl ⟨by rfl, by intro w hSw; (try dsimp only at hSw); go_simp⟩) (by assumption) ?_
            refine wpAnyH_take (i := 10) (v := .slice bo k bk) rfl (by kernel_rfl) (by kernel_rfl) (by kernel_rfl) (fun _ _ _ h => h) (Or.inl ⟨by rfl, by intro w hSw; (try dsimp only at hSw); go_simp⟩) (by assumption) ?_
            refine wpAnyH_ready (rs := [4, 11]) (by kernel_rfl) (by simp) ?_
            refine AllReadyH.cons rfl (fun K hK => ?_) ?_
            · go_simp
              refine hK.out _ _ (by assumption) (fun hHeld => ?_)
              clear hK K
              refine wpAnyH_ready (rs := [11]) (by kernel_rfl) (by simp) ?_
              refine AllReadyH.cons rfl (fun K hK => ?_) ?_
              · go_simp
                refine HNC.out.mono ?_
                intro e w1 hne
                obtain ⟨b0, rfl, a5, b5, hS1, hS1a, HAp⟩ := HNx.out e w1 hne
                clear hne
                go_wp2_with fail
                refine hK.out _ _ (by exact hS1) (fun hHeld => ?_)
                clear hK K
                refine wpAnyH_ready (rs := [12]) (by kernel_rfl) (by simp) ?_
                refine AllReadyH.cons rfl (fun K hK => ?_) ?_
                · go_simp
                  refine hK.out _ _ (by exact hS1a _) (fun hHeld => ?_)
                  clear hK K
                  refine wpAnyH_ready (rs := [13]) (by kernel_rfl) (by simp) ?_
                  refine AllReadyH.cons rfl (fun K hK => ?_) ?_
                  · refine step_appZ rfl _ _ 35 rfl (.slice lo i lc) (.slice (some ⟨w1.heap.size, 0, none⟩) 1 1) rfl rfl HAp.out ?_
                    rintro v2 w2 ⟨lo', lc', rfl, HQ⟩
                    have c2 := HQ.out.1
                    have f2 := HQ.out.2.1
                    have hS2 := HSw.out w2 HQ.out.2.2.1
                    refine hK.out _ _ (by exact hS2) (fun hHeld => ?_)
                    clear hK K
                    refine wpAnyH_take (i := 14) (v := .pointer (some ⟨pb, 0, none⟩)) rfl (by kernel_rfl) (by kernel_rfl) (by kernel_rfl) (fun _ _ _ h => h) (Or.inl ⟨by rfl, by intro w hSw; (try dsimp only at hSw); go_simp⟩) (by assumption) ?_
                    refine wpAnyH_take (i := 15) (v := .pointer (some ⟨pb, 0, none⟩)) rfl (by kernel_rfl) (by kernel_rfl) (by kernel_rfl) (fun _ _ _ h => h) (Or.inl ⟨by rfl, by intro w hSw; (try dsimp only at hSw); go_simp⟩) (by assumption) ?_
                    refine wpAnyH_ready (rs := [16]) (by kernel_rfl) (by simp) ?_
                    refine AllReadyH.cons rfl (fun K hK => ?_) ?_
                    · go_simp
                      refine hK.out _ _ (by obtain ⟨_, _, _, _, _, hmd, _⟩ := HQ.out; exact HSw.out _ hmd.bl) (fun hHeld => ?_)
                      clear hK K
                      refine wpAnyH_done (by kernel_rfl) ?_ _
                      obtain ⟨_, _, _, cb', X', hmd3, hrw⟩ := HQ.out
                      have HM3 := hidW hmd3
                      have HRw := hidW hrw
                      clear hmd3 hrw HQ HAp c2 f2 hS2 hS1 hS1a a5 b5 HNx HNC d5
                      generalize w2.setCell ⟨pb, 0, none⟩ (.slice lo' (i + 1) lc') = w3 at *
                      have HN3 : Hid (OwZ W.heap.size 3 w3 no k nk (i64s (bhM L i))) := by
                        have h1 := HN2.out.q
                        rw [HBt.out.1] at h1
                        exact h1.kept (fun g hg => (HRw.out g.block (h1.lt g hg).2 (h1.lt g hg).1).2.2)
                      have HBo : Hid (∀ g, bo = some g → W.heap.size ≤ g.block ∧ g = ⟨g.block, 0, none⟩ ∧ ¬ X' g.block ∧ (∀ g', lo' = some g' → g'.block ≠ g.block) ∧ ∃ C, w3.heap[g.block]? = some (.cells C 44 (0, 0)) ∧ k ≤ C.size) := fun g hg => by
                        have h1 := HN2.out.p.lt g hg
                        obtain ⟨q1, q2, q3⟩ := HRw.out g.block h1.2 h1.1
                        obtain ⟨C, hC, hk', ho⟩ := HN2.out.p.rowC g hg
                        exact ⟨h1.1, ho, q1, q2, C, q3.trans hC, hk'⟩
                      clear HRw
                      go_wp2_with fail
                      go_meet
                      case rel => exact ⟨cb', X', lo', lc', HM3, HN3, HBo⟩
                    exact AllReadyH.nil
                  exact AllReadyH.nil
                exact AllReadyH.nil
              exact AllReadyH.nil
            refine AllReadyH.cons rfl (fun K hK => ?_) ?_
            · go_simp
              refine HNC.out.mono ?_
              intro e w1 hne
              obtain ⟨b0, rfl, a5, b5, hS1, hS1a, HAp⟩ := HNx.out e w1 hne
              clear hne
              go_wp2_with fail
              refine hK.out _ _ (by exact hS1) (fun hHeld => ?_)
              clear hK K
              refine wpAnyH_ready (rs := [4, 12]) (by kernel_rfl) (by simp) ?_
              refine AllReadyH.cons rfl (fun K hK => ?_) ?_
              · go_simp
                refine hK.out _ _ (by assumption) (fun hHeld => ?_)
                clear hK K
                refine wpAnyH_ready (rs := [12]) (by kernel_rfl) (by simp) ?_
                refine AllReadyH.cons rfl (fun K hK => ?_) ?_
                · go_simp
                  refine hK.out _ _ (by exact hS1a _) (fun hHeld => ?_)
                  clear hK K
                  refine wpAnyH_ready (rs := [13]) (by kernel_rfl) (by simp) ?_
                  refine AllReadyH.cons rfl (fun K hK => ?_) ?_
                  · refine step_appZ rfl _ _ 35 rfl (.slice lo i lc) (.slice (some ⟨w1.heap.size, 0, none⟩) 1 1) rfl rfl HAp.out ?_
                    rintro v2 w2 ⟨lo', lc', rfl, HQ⟩
                    have c2 := HQ.out.1
                    have f2 := HQ.out.2.1
                    have hS2 := HSw.out w2 HQ.out.2.2.1
                    refine hK.out _ _ (by exact hS2) (fun hHeld => ?_)
                    clear hK K
                    refine wpAnyH_take (i := 14) (v := .pointer (some ⟨pb, 0, none⟩)) rfl (by kernel_rfl) (by kernel_rfl) (by kernel_rfl) (fun _ _ _ h => h) (Or.inl ⟨by rfl, by intro w hSw; (try dsimp only at hSw); go_simp⟩) (by assumption) ?_
                    refine wpAnyH_take (i := 15) (v := .pointer (some ⟨pb, 0, none⟩)) rfl (by kernel_rfl) (by kernel_rfl) (by kernel_rfl) (fun _ _ _ h => h) (Or.inl ⟨by rfl, by intro w hSw; (try dsimp only at hSw); go_simp⟩) (by assumption) ?_
                    refine wpAnyH_ready (rs := [16]) (by kernel_rfl) (by simp) ?_
                    refine AllReadyH.cons rfl (fun K hK => ?_) ?_
                    · go_simp
                      refine hK.out _ _ (by obtain ⟨_, _, _, _, _, hmd, _⟩ := HQ.out; exact HSw.out _ hmd.bl) (fun hHeld => ?_)
                      clear hK K
                      refine wpAnyH_done (by kernel_rfl) ?_ _
                      obtain ⟨_, _, _, cb', X', hmd3, hrw⟩ := HQ.out
                      have HM3 := hidW hmd3
                      have HRw := hidW hrw
                      clear hmd3 hrw HQ HAp c2 f2 hS2 hS1 hS1a a5 b5 HNx HNC d5
                      generalize w2.setCell ⟨pb, 0, none⟩ (.slice lo' (i + 1) lc') = w3 at *
                      have HN3 : Hid (OwZ W.heap.size 3 w3 no k nk (i64s (bhM L i))) := by
                        have h1 := HN2.out.q
                        rw [HBt.out.1] at h1
                        exact h1.kept (fun g hg => (HRw.out g.block (h1.lt g hg).2 (h1.lt g hg).1).2.2)
                      have HBo : Hid (∀ g, bo = some g → W.heap.size ≤ g.block ∧ g = ⟨g.block, 0, none⟩ ∧ ¬ X' g.block ∧ (∀ g', lo' = some g' → g'.block ≠ g.block) ∧ ∃ C, w3.heap[g.block]? = some (.cells C 44 (0, 0)) ∧ k ≤ C.size) := fun g hg => by
                        have h1 := HN2.out.p.lt g hg
                        obtain ⟨q1, q2, q3⟩ := HRw.out g.block h1.2 h1.1
                        obtain ⟨C, hC, hk', ho⟩ := HN2.out.p.rowC g hg
                        exact ⟨h1.1, ho, q1, q2, C, q3.trans hC, hk'⟩
                      clear HRw
                      go_wp2_with fail
                      go_meet
                      case rel => exact ⟨cb', X', lo', lc', HM3, HN3, HBo⟩
                    exact AllReadyH.nil
                  exact AllReadyH.nil
                exact AllReadyH.nil
              refine AllReadyH.cons rfl (fun K hK => ?_) ?_
              · go_simp
                refine hK.out _ _ (by exact hS1a _) (fun hHeld => ?_)
                clear hK K
                refine wpAnyH_ready (rs := [4]) (by kernel_rfl) (by simp) ?_
                refine AllReadyH.cons rfl (fun K hK => ?_) ?_
                · go_simp
                  refine hK.out _ _ (by assumption) (fun hHeld => ?_)
                  clear hK K
                  refine wpAnyH_ready (rs := [13]) (by kernel_rfl) (by simp) ?_
                  refine AllReadyH.cons rfl (fun K hK => ?_) ?_
                  · refine step_appZ rfl _ _ 35 rfl (.slice lo i lc) (.slice (some ⟨w1.heap.size, 0, none⟩) 1 1) rfl rfl HAp.out ?_
                    rintro v2 w2 ⟨lo', lc', rfl, HQ⟩
                    have c2 := HQ.out.1
                    have f2 := HQ.out.2.1
                    have hS2 := HSw.out w2 HQ.out.2.2.1
                    refine hK.out _ _ (by exact hS2) (fun hHeld => ?_)
                    clear hK K
                    refine wpAnyH_take (i := 14) (v := .pointer (some ⟨pb, 0, none⟩)) rfl (by kernel_rfl) (by kernel_rfl) (by kernel_rfl) (fun _ _ _ h => h) (Or.inl ⟨by rfl, by intro w hSw; (try dsimp only at hSw); go_simp⟩) (by assumption) ?_
                    refine wpAnyH_take (i := 15) (v := .pointer (some ⟨pb, 0, none⟩)) rfl (by kernel_rfl) (by kernel_rfl) (by kernel_rfl) (fun _ _ _ h => h) (Or.inl ⟨by rfl, by intro w hSw; (try dsimp only at hSw); go_simp⟩) (by assumption) ?_
                    refine wpAnyH_ready (rs := [16]) (by kernel_rfl) (by simp) ?_
                    refine AllReadyH.cons rfl (fun K hK => ?_) ?_
                    · go_simp
                      refine hK.out _ _ (by obtain ⟨_, _, _, _, _, hmd, _⟩ := HQ.out; exact HSw.out _ hmd.bl) (fun hHeld => ?_)
                      clear hK K
                      refine wpAnyH_done (by kernel_rfl) ?_ _
                      obtain ⟨_, _, _, cb', X', hmd3, hrw⟩ := HQ.out
                      have HM3 := hidW hmd3
                      have HRw := hidW hrw
                      clear hmd3 hrw HQ HAp c2 f2 hS2 hS1 hS1a a5 b5 HNx HNC d5
                      generalize w2.setCell ⟨pb, 0, none⟩ (.slice lo' (i + 1) lc') = w3 at *
                      have HN3 : Hid (OwZ W.heap.size 3 w3 no k nk (i64s (bhM L i))) := by
                        have h1 := HN2.out.q
                        rw [HBt.out.1] at h1
                        exact h1.kept (fun g hg => (HRw.out g.block (h1.lt g hg).2 (h1.lt g hg).1).2.2)
                      have HBo : Hid (∀ g, bo = some g → W.heap.size ≤ g.block ∧ g = ⟨g.block, 0, none⟩ ∧ ¬ X' g.block ∧ (∀ g', lo' = some g' → g'.block ≠ g.block) ∧ ∃ C, w3.heap[g.block]? = some (.cells C 44 (0, 0)) ∧ k ≤ C.size) := fun g hg => by
                        have h1 := HN2.out.p.lt g hg
                        obtain ⟨q1, q2, q3⟩ := HRw.out g.block h1.2 h1.1
                        obtain ⟨C, hC, hk', ho⟩ := HN2.out.p.rowC g hg
                        exact ⟨h1.1, ho, q1, q2, C, q3.trans hC, hk'⟩
                      clear HRw
                      go_wp2_with fail
                      go_meet
                      case rel => exact ⟨cb', X', lo', lc', HM3, HN3, HBo⟩
                    exact AllReadyH.nil
                  exact AllReadyH.nil
                exact AllReadyH.nil
              exact AllReadyH.nil
            exact AllReadyH.nil
            -- END 16
          case rest =>
            obtain ⟨cb', X', lo', lc', HM3, HN3, HBo⟩ := hcut
            have HWs : Hid (w.heap.size ≤ W.heap.size) := HM.out.bl.size
            have HBn : Hid (bo = none → k = 0) := fun hb => by
              have := HN2.out.p
              rw [hb] at this
              obtain ⟨_, ⟨_, h2⟩ | ⟨_, _, _, h2, _⟩⟩ := this
              · exact h2
              · cases h2
            clear HNx HNC hS0 d5 HN2 HBl hdr HM d1 d2
            generalize wc = w3 at *
            go_wp2_with fail
            go_loopw [11] (fun y wq => ∃ t : Nat, t ≤ k ∧ y = .int .i64 (t : Int) ∧ Hid (MD w L pb rb wq (i + 1) i cb' X' lo' lc' ra rk ba bc) ∧ Hid (OwZ W.heap.size 3 wq no k nk (i64s (bhM L i))) ∧ Hid (∀ g, bo = some g → W.heap.size ≤ g.block ∧ g = ⟨g.block, 0, none⟩ ∧ ¬ X' g.block ∧ (∀ g', lo' = some g' → g'.block ≠ g.block) ∧ ∃ C, wq.heap[g.block]? = some (.cells C 44 (0, 0)) ∧ k ≤ C.size)) (fun y _ => k - (intOf y).toNat)
            case atStart => exact ⟨0, Nat.zero_le _, rfl, HM3, HN3, HBo⟩
            case round =>
              clear HM3 HN3 HBo
              obtain ⟨t, ht, rfl, HM3, HN3, HBo⟩ := hrel
              by_cases hlt3 : t < k
              · cases bo with
                | none => exact absurd (HBn.out rfl) (by omega)
                | some g =>
                  obtain ⟨g1, g2, g3, g4, C, hC, hCs⟩ := HBo.out g rfl
                  rw [g2]
                  generalize g.block = gb at *
                  obtain ⟨y, hy⟩ : ∃ y, wr.cell? ⟨gb, t, none⟩ = some y := by
                    refine ⟨C[t]'(by omega), ?_⟩
                    simp [World.cell?, hC, show t < C.size by omega]
                  have f0 : wr.frozen? ⟨gb, t, none⟩ = false := frozen_of_row wr _ _ _ _ hC
                  have hf : FrZ (fun j => j = gb) wr (wr.setCell ⟨gb, t, none⟩ (.pointer none)) := (FrZ.refl (fun j => j = gb) wr).set ⟨gb, t, none⟩ (.pointer none) (.inr rfl)
                  have HM4 : Hid (MD w L pb rb (wr.setCell ⟨gb, t, none⟩ (.pointer none)) (i + 1) i cb' X' lo' lc' ra rk ba bc) := HM3.out.rows hf ⟨C, hC⟩ g3 g4 (by have := HWs.out; omega)
                  have HN4 : Hid (OwZ W.heap.size 3 (wr.setCell ⟨gb, t, none⟩ (.pointer none)) no k nk (i64s (bhM L i))) := HN3.out.kept (fun g' hg' => hf.block _ (HN3.out.lt g' hg').2 (fun e => by
                    obtain ⟨C', hC'⟩ := HN3.out.ty g' hg'
                    rw [e, hC] at hC'; cases hC'))
                  have HC4 : Hid (∃ C, (wr.setCell ⟨gb, t, none⟩ (.pointer none)).heap[gb]? = some (.cells C 44 (0, 0)) ∧ k ≤ C.size) := ⟨_, heap_setCell_same wr gb t _ _ _ hC, by simpa using hCs⟩
                  have HBo4 : Hid (∀ g', some (⟨gb, 0, none⟩ : Addr) = some g' → W.heap.size ≤ g'.block ∧ g' = ⟨g'.block, 0, none⟩ ∧ ¬ X' g'.block ∧ (∀ g'', lo' = some g'' → g''.block ≠ g'.block) ∧ ∃ C, (wr.setCell ⟨gb, t, none⟩ (.pointer none)).heap[g'.block]? = some (.cells C 44 (0, 0)) ∧ k ≤ C.size) := fun g' hg' => by
                    cases hg'
                    exact ⟨g1, rfl, g3, g4, HC4.out⟩
                  have htI : (t : Int) < (k : Int) := by omega
                  clear HM3 HN3 HBo HC4 hf
                  go_wp2_with fail
                  go_roundw
                  case rel => exact ⟨t + 1, by omega, by go_num, HM4, HN4, HBo4⟩
                  case measure => simp [intOf]; omega
              · obtain rfl : t = k := by omega
                have d6 : wr.cell? ⟨pb, 2, none⟩ = some (ptZ rb) := by simp [World.cell?, HM3.out.pc]
                have d7 := HSw.out wr HM3.out.bl
                have hdr : RowKit.Below wr.heap.size wr wr.drew := ⟨rfl, rfl, rfl, Nat.le_refl _, fun _ _ => rfl⟩
                have HMd := hidW (HM3.out.kept hdr)
                have HMk : Hid (Calls Try.prog 26 #[ptZ rb, .int .i64 s, .slice no t nk] wr.drew fun e w' => e = .returned (.int .i64 (i : Int)) ∧ Hid (M1 w L pb rb w' (i + 1)) ∧ Hid (w'.cell? ⟨pb, 2, none⟩ = some (ptZ rb) ∧ w'.cell? ⟨b, off + i * 2, none⟩ = some (.int .i64 s))) := by
                  have h1 := HN3.out.kept (w' := wr.drew) (fun _ _ => rfl)
                  have h2 := rmake_any HMd.out.rd HMd.out.bl.size s (bhM L i) no nk h1.at_ (fun g hg => h1.ty g hg) (bhM_lt L i) (by have := HBt.out.2; omega) (by omega)
                  rw [← HBt.out.2] at h2
                  refine Calls.mono h2 ?_
                  intro e w' hh
                  rw [HS.out] at hh
                  obtain ⟨ra', rk', ba', bc', he, hM⟩ := HMd.out.make hil hh
                  refine ⟨he, ⟨cb', X', lo', lc', ra', rk', ba', bc', hM⟩, ?_, HSw.out w' hM.bl⟩
                  simp [World.cell?, hM.pc]
                clear HMd HM3 HN3 HBo
                go_upto_region 21 with fail
                go_region_held3 (fun w' => w'.cell? ⟨pb, 2, none⟩ = some (ptZ rb) ∧ w'.cell? ⟨b, off + i * 2, none⟩ = some (.int .i64 s)) (first | with_reducible exact HSx.out | go_keep) (first | (go_at_call 26; (with_reducible refine HMk.out.mono ?_); rintro e w5 ⟨rfl, HM5, HSx⟩))
                all_goals
                  go_wp2_with fail
                  go_roundw
                  case rel => exact ⟨i + 1, by omega, by go_num, HM5⟩
                  case measure => simp [intOf]; omega
    · obtain rfl : i = n := by omega
      have HNL : Hid (L.length = i) := HN.out.symm
      have HTL : Hid (Ts.length = nt) := HTn.out.symm
      have hp0 : totZ i (lsM L) ≤ 1000000000000 := by rw [HN.out, totM]; have := ttM_le L; have := HN.out; omega
      obtain ⟨zs, hzs⟩ : ∃ zs, zs = tkM i Ts := ⟨_, rfl⟩
      have HZt : Hid (zs = tkM i Ts) := hzs
      have HZl : Hid (zs.length = nt) := by show _ = _; rw [hzs, tkM, List.length_map, ← HTn.out]
      clear hzs
      obtain ⟨W, hW⟩ : ∃ W, W = wr := ⟨_, rfl⟩
      subst hW
      have HTw := hidW (HTs.out.below HM.out.bl)
      go_wp2_with fail
      go_loopw [12, 13, 14] (fun x x2 y wq => ∃ (k : Nat) (bo : Option Addr) (bk : Nat) (no : Option Addr) (nk : Nat), k ≤ nt ∧ y = .int .i64 (k : Int) ∧ x = .slice bo k bk ∧ x2 = .slice no k nk ∧ Hid (TN W wq cb zs k k bo bk no nk)) (fun _ _ y _ => nt - (intOf y).toNat)
      case atStart => exact ⟨0, none, 0, none, 0, Nat.zero_le _, rfl, rfl, rfl, ⟨OwZ.nil _ _ _, OwZ.nil _ _ _, Below.refl _ _⟩⟩
      case round =>
        obtain ⟨k, bo, bk, no, nk, hk, rfl, rfl, rfl, HN2⟩ := hrel
        have HBl : Hid (RowKit.Below W.heap.size W wr) := HN2.out.bl
        by_cases hlt2 : k < nt
        · have hkl : k < Ts.length := by have := HTn.out; omega
          obtain ⟨g, zo, hto, gz⟩ := HTw.out.int k hkl
          subst hto
          have HGz0 := hidW gz
          have d3 : wr.cell? ⟨g, zo + k, none⟩ = some (.int .i64 Ts[k]) := (HBl.out.cell (p := ⟨g, zo + k, none⟩) (cell_lt gz)).trans gz
          clear gz
          have HBk : Hid (zs.take (k + 1) = zs.take k ++ [wbZ Ts[k] i]) := by
            show _ = _
            rw [HZt.out, tkM, List.take_add_one, List.getElem?_map, List.getElem?_eq_getElem hkl]
            simp only [Option.map_some, Option.toList_some]
          generalize Ts[k] = x at *
          have HGz : Hid (W.cell? ⟨g, zo + k, none⟩ = some (.int .i64 x)) := HGz0.out
          clear HGz0
          have hkI : (k : Int) < (nt : Int) := by omega
          by_cases hc : x < 0 ∨ i = 0
          · have HBk2 : Hid (zs.take (k + 1) = zs.take k ++ [-1]) := by have := HBk.out; rw [wbZ, if_pos hc] at this; exact this
            have HAp := hidW (HN2.out.appP (-1) HBk2.out (by omega) .nilIface rfl)
            have hcs2 : x < 0 ∨ (¬ x < 0 ∧ ((i : Int) == 0) = true) := by
              by_cases h : x < 0
              · exact .inl h
              · exact .inr ⟨h, by rw [show (i : Int) = 0 by omega]; rfl⟩
            clear hc HBk
            rcases hcs2 with hc | ⟨hc, hc2⟩
            all_goals
              go_wp2_with (first
                | (at_builtin; refine wpL_appZ rfl _ _ 58 rfl (.slice bo k bk) (.slice (some ⟨wr.heap.size, 0, none⟩) 1 1) rfl rfl HAp.out ?_; rintro v1 w1 ⟨bo', bk', rfl, HN3⟩; have HAq := hidW (HN3.out.appQ (-1) HBk2.out (by omega)))
                | (at_builtin; refine wpL_appZ rfl _ _ 23 rfl (.slice no k nk) (.slice (some ⟨w1.heap.size, 0, none⟩) 1 1) rfl rfl HAq.out ?_; rintro v2 w2 ⟨no', nk', rfl, HN4⟩))
              go_roundw
              case rel => exact ⟨k + 1, bo', bk', no', nk', by omega, by go_num, rfl, rfl, HN4⟩
              case measure => simp [intOf]; omega
          · have hx0 : 0 ≤ x := by omega
            have hi0 : 0 < i := by omega
            have hr1 := Int.emod_nonneg x (b := (i : Int)) (by omega)
            have hr2 := Int.emod_lt_of_pos x (b := (i : Int)) (by omega)
            obtain ⟨j, hj⟩ : ∃ j : Nat, x % (i : Int) = (j : Int) := ⟨(x % (i : Int)).toNat, by omega⟩
            have hji : j < i := by omega
            have hrem : x.tmod (i : Int) = (j : Int) := by rw [Int.tmod_eq_emod_of_nonneg hx0, hj]
            have HBk2 : Hid (zs.take (k + 1) = zs.take k ++ [(j : Int)]) := by have := HBk.out; rw [wbZ, if_neg hc, hj] at this; exact this
            have HMr := hidW (HM.out.kept HBl.out)
            obtain ⟨lg, lof, hlo, d4⟩ := HMr.out.ow.at_ j (ptZ (cb j)) (by simp [hji])
            have HAp := hidW (HN2.out.drew.appP (j : Int) HBk2.out (by omega) (.iface 44 (ptZ (cb j))) (by simp [tvZ]))
            have hx1 : ¬ x < 0 := by omega
            have hi1 : ¬ (i : Int) = 0 := by omega
            have hi3 : ¬ i = 0 := by omega
            have hi2 : ((i : Int) == 0) = false := by rw [beq_eq_false_iff_ne]; exact hi1
            have hjI : (j : Int) < (i : Int) := by omega
            have HLo := hidW hlo
            clear hc HBk hj hr1 hr2 HMr hlo
            have HSS : Hid (∀ w' : World, RowKit.Below W.heap.size W w' → w'.cell? ⟨pb, 0, none⟩ = some (.slice (some ⟨lg, lof, none⟩) i lc) ∧ w'.cell? ⟨lg, lof + j, none⟩ = some (ptZ (cb j)) ∧ w'.cell? ⟨g, zo + k, none⟩ = some (.int .i64 x)) := fun w' hb => by
              have hM := HM.out.kept hb
              obtain ⟨lg', lof', hlo', d4'⟩ := hM.ow.at_ j (ptZ (cb j)) (by simp [hji])
              rw [HLo.out] at hlo'
              cases hlo'
              refine ⟨?_, d4', ?_⟩
              · have := hM.pc
                rw [HLo.out] at this
                simp [World.cell?, this]
              · have hgW := HGz.out
                exact (hb.cell (p := ⟨g, zo + k, none⟩) (cell_lt hgW)).trans hgW
            have hbd : RowKit.Below W.heap.size W wr.drew := HN2.out.drew.bl
            have hS3 := fun o => HSS.out (wr.drew.alloc o) (hbd.alloc hbd.size o)
            go_upto_region 30 with fail
            -- REGION 30
            refine wp_region_held_drew (S := fun w' => w'.cell? ⟨pb, 0, none⟩ = some (.slice (some ⟨lg, lof, none⟩) i lc) ∧ w'.cell? ⟨lg, lof + j, none⟩ = some (ptZ (cb j)) ∧ w'.cell? ⟨g, zo + k, none⟩ = some (.int .i64 x)) (by kernel_rfl) ?_ (fun hHeld => ?_)
            · exact HSS.out _ hbd
            refine wpAnyH_take (i := 0) (v := .slice bo k bk) rfl (by kernel_rfl) (by kernel_rfl) (by kernel_rfl) (fun _ _ _ h => h) (Or.inl ⟨by rfl, by intro w hSw; (try dsimp only at hSw); go_simp⟩) (by assumption) ?_
            refine wpAnyH_take (i := 1) (v := .pointer (some ⟨pb, 0, none⟩)) rfl (by kernel_rfl) (by kernel_rfl) (by kernel_rfl) (fun _ _ _ h => h) (Or.inl ⟨by rfl, by intro w hSw; (try dsimp only at hSw); go_simp⟩) (by assumption) ?_
            refine wpAnyH_take (i := 2) (v := .pointer (some ⟨pb, 0, none⟩)) rfl (by kernel_rfl) (by kernel_rfl) (by kernel_rfl) (fun _ _ _ h => h) (Or.inl ⟨by rfl, by intro w hSw; (try dsimp only at hSw); go_simp⟩) (by assumption) ?_
            refine wpAnyH_take (i := 3) (v := .pointer (some ⟨pb, 0, none⟩)) rfl (by kernel_rfl) (by kernel_rfl) (by kernel_rfl) (fun _ _ _ h => h) (Or.inl ⟨by rfl, by intro w hSw; (try dsimp only at hSw); go_simp⟩) (by assumption) ?_
            refine wpAnyH_take (i := 4) (v := .slice (some ⟨lg, lof, none⟩) i lc) rfl (by kernel_rfl) (by kernel_rfl) (by kernel_rfl) (fun _ _ _ h => h) (Or.inl ⟨by rfl, by intro w hSw; (try dsimp only at hSw); go_simp⟩) (by assumption) ?_
            refine wpAnyH_take (i := 5) (v := .slice (some ⟨g, zo, none⟩) nt ct) rfl (by kernel_rfl) (by kernel_rfl) (by kernel_rfl) (fun _ _ _ h => h) (Or.inl ⟨by rfl, by intro w hSw; (try dsimp only at hSw); go_simp⟩) (by assumption) ?_
            refine wpAnyH_take (i := 6) (v := .int .i64 (k : Int)) rfl (by kernel_rfl) (by kernel_rfl) (by kernel_rfl) (fun _ _ _ h => h) (Or.inl ⟨by rfl, by intro w hSw; (try dsimp only at hSw); go_simp⟩) (by assumption) ?_
            refine wpAnyH_take (i := 7) (v := .pointer (some ⟨g, zo + k, none⟩)) rfl (by kernel_rfl) (by kernel_rfl) (by kernel_rfl) (fun _ _ _ h => h) (Or.inl ⟨by rfl, by intro w hSw; (try dsimp only at hSw); go_simp⟩) (by assumption) ?_
            refine wpAnyH_take (i := 8) (v := .int .i64 x) rfl (by kernel_rfl) (by kernel_rfl) (by kernel_rfl) (fun _ _ _ h => h) (Or.inl ⟨by rfl, by intro w hSw; (try dsimp only at hSw); go_simp⟩) (by assumption) ?_
            refine wpAnyH_take (i := 9) (v := .slice ao i ca) rfl (by kernel_rfl) (by kernel_rfl) (by kernel_rfl) (fun _ _ _ h => h) (Or.inl ⟨by rfl, by intro w hSw; (try dsimp only at hSw); go_simp⟩) (by assumption) ?_
            refine wpAnyH_take (i := 10) (v := .int .i64 (i : Int)) rfl (by kernel_rfl) (by kernel_rfl) (by kernel_rfl) (fun _ _ _ h => h) (Or.inl ⟨by rfl, by intro w hSw; (try dsimp only at hSw); go_simp⟩) (by assumption) ?_
            refine wpAnyH_take (i := 11) (v := .int .i64 (j : Int)) rfl (by kernel_rfl) (by kernel_rfl) (by kernel_rfl) (fun _ _ _ h => h) (Or.inl ⟨by rfl, by intro w hSw; (try dsimp only at hSw); go_simp⟩) (by assumption) ?_
            refine wpAnyH_take (i := 12) (v := .pointer (some ⟨lg, lof + j, none⟩)) rfl (by kernel_rfl) (by kernel_rfl) (by kernel_rfl) (fun _ _ _ h => h) (Or.inl ⟨by rfl, by intro w hSw; (try dsimp only at hSw); go_simp⟩) (by assumption) ?_
            refine wpAnyH_take (i := 13) (v := ptZ (cb j)) rfl (by kernel_rfl) (by kernel_rfl) (by kernel_rfl) (fun _ _ _ h => h) (Or.inl ⟨by rfl, by intro w hSw; (try dsimp only at hSw); go_simp⟩) (by assumption) ?_
            refine wpAnyH_take (i := 14) (v := .iface 44 (ptZ (cb j))) rfl (by kernel_rfl) (by kernel_rfl) (by kernel_rfl) (fun _ _ _ h => h) (Or.inl ⟨by rfl, by intro w hSw; (try dsimp only at hSw); go_simp⟩) (by assumption) ?_
            refine wpAnyH_ready (rs := [15]) (by kernel_rfl) (by simp) ?_
            refine AllReadyH.cons rfl (fun K hK => ?_) ?_
            · go_simp
              refine hK.out _ _ (by exact hS3 _) (fun hHeld => ?_)
              clear hK K
              refine wpAnyH_ready (rs := [16]) (by kernel_rfl) (by simp) ?_
              refine AllReadyH.cons rfl (fun K hK => ?_) ?_
              · refine step_appZ rfl _ _ 58 rfl (.slice bo k bk) (.slice (some ⟨wr.drew.heap.size, 0, none⟩) 1 1) rfl rfl HAp.out ?_
                rintro v1 w1 ⟨bo', bk', rfl, HN3⟩
                have hS4 := HSS.out _ HN3.out.bl
                refine hK.out _ _ (by exact hS4) (fun hHeld => ?_)
                clear hK K
                refine wpAnyH_take (i := 17) (v := .slice bo' (k + 1) bk') rfl (by kernel_rfl) (by kernel_rfl) (by kernel_rfl) (fun _ _ _ h => h) (Or.inl ⟨by rfl, by intro w hSw; (try dsimp only at hSw); go_simp⟩) (by assumption) ?_
                refine wpAnyH_done (by kernel_rfl) ?_ _
                have HAq := hidW (HN3.out.appQ (j : Int) HBk2.out (by omega))
                have d8 := hS4.2.2
                clear hS4
                go_wp2_with (at_builtin; refine wpL_appZ rfl _ _ 23 rfl (.slice no k nk) (.slice (some ⟨w1.heap.size, 0, none⟩) 1 1) rfl rfl HAq.out ?_; rintro v2 w2 ⟨no', nk', rfl, HN4⟩)
                go_roundw
                case rel => exact ⟨k + 1, bo', bk', no', nk', by omega, by go_num, rfl, rfl, HN4⟩
                case measure => simp [intOf]; omega
              exact AllReadyH.nil
            exact AllReadyH.nil
            -- END 30
        · obtain rfl : k = nt := by omega
          have HZk : Hid (zs.take k = zs ∧ zs = (List.range k).map (tsT i Ts)) := by
            refine ⟨List.take_of_length_le (by have := HZl.out; omega), ?_⟩
            rw [HZt.out, HTn.out, tsT_all]
          have HMr := hidW (HM.out.kept HBl.out)
          have HNw : Hid (Calls Try.prog 27 #[.slice bo k bk] wr fun e w' => NLP wr i cb (lsM L) (bhM L) X k (tsT i Ts) e w') := by
            have h1 := HN2.out.p.at_
            rw [HZk.out.1, HZk.out.2] at h1
            exact newLine_any HMr.out.ci bo k bk (tsT i Ts) HN2.out.p.none0 h1 (fun q hq => tsT_lt i Ts q (by have := HTn.out; omega)) htb hp0
          have HRo : Hid (OwZ W.heap.size 3 wr no k nk (i64s ((List.range k).map (tsT i Ts)))) := by
            have h1 := HN2.out.q
            rw [HZk.out.1] at h1
            rw [← HZk.out.2]
            exact h1
          have HBo : Hid (∀ g, bo = some g → g = ⟨g.block, 0, none⟩ ∧ w.heap.size ≤ g.block ∧ g.block < wr.heap.size ∧ ∃ C, wr.heap[g.block]? = some (.cells C 61 (0, 0)) ∧ k ≤ C.size) := fun g hg => by
            obtain ⟨C, hC, hk', ho⟩ := HN2.out.p.rowC g hg
            have h1 := HN2.out.p.lt g hg
            have h2 := HM.out.bl.size
            exact ⟨ho, by omega, h1.2, C, hC, hk'⟩
          have HBn : Hid (bo = none → k = 0) := fun hb => by
            have := HN2.out.p
            rw [hb] at this
            obtain ⟨_, ⟨_, h2⟩ | ⟨_, _, _, h2, _⟩⟩ := this
            · exact h2
            · cases h2
          have HF : Hid (∀ e w5, NLP wr i cb (lsM L) (bhM L) X k (tsT i Ts) e w5 → ∃ lb ao' tc, e = .returned (ptZ lb) ∧ w5.cell? ⟨pb, 1, none⟩ = some (.pointer none) ∧ w5.frozen? ⟨pb, 1, none⟩ = false ∧ Hid (PQ w.heap.size (w5.setCell ⟨pb, 1, none⟩ (ptZ lb)) pb i cb (bhM L) X lb ao' k tc (tsT i Ts) lo lc rb ra rk ba bc (.pointer none) (.slice none 0 0) (.slice none 0 0) (lsM L) 0 (lsM L)) ∧ Hid (RowKit.Below w.heap.size w (w5.setCell ⟨pb, 1, none⟩ (ptZ lb))) ∧ Hid (OwZ W.heap.size 3 (w5.setCell ⟨pb, 1, none⟩ (ptZ lb)) no k nk (i64s ((List.range k).map (tsT i Ts)))) ∧ Hid (∀ g, bo = some g → g = ⟨g.block, 0, none⟩ ∧ w.heap.size ≤ g.block ∧ (∀ g', ao' = some g' → g'.block ≠ g.block) ∧ ∃ C, (w5.setCell ⟨pb, 1, none⟩ (ptZ lb)).heap[g.block]? = some (.cells C 61 (0, 0)) ∧ k ≤ C.size)) := fun e w5 hh => by
            obtain ⟨lb, ao', tc, he, q1, q2, q3, q4, q5, q6⟩ := HMr.out.line hh
            have hpb : ∀ (g : Addr) (C : Array Value) (T : TypeId), wr.heap[g.block]? = some (.cells C T (0, 0)) → T ≠ 55 → g.block ≠ pb := fun g C T hC hT e => by rw [e, HMr.out.pc] at hC; cases hC; exact hT rfl
            refine ⟨lb, ao', tc, he, q1, q2, q3, q4, HRo.out.kept (fun g hg => ?_), fun g hg => ?_⟩
            · obtain ⟨C, hC⟩ := HRo.out.ty g hg
              exact q6 _ (blk_ltZ hC) (hpb g C _ hC (by decide))
            · obtain ⟨g1, g2, g3, C, hC, g4⟩ := HBo.out g hg
              exact ⟨g1, g2, fun g' hg' => by have := q5 g' hg'; omega, C, (q6 _ g3 (hpb g C _ hC (by decide))).trans hC, g4⟩
          have HPn : Hid (i = L.length ∧ k = Ts.length) := ⟨HN.out, HTn.out⟩
          clear HN2 HBl HZk HZt HZl HM HMr HRo HBo HTw HL HP HTs
          go_wp2_with fail
          refine HNw.out.mono ?_
          intro e w5 hh
          obtain ⟨lb, ao', tc, rfl, c5, f5, HQ5, HB5, HR5, HO5⟩ := HF.out e w5 hh
          clear hh HF HNw
          go_wp2_with fail
          clear c5 f5
          generalize w5.setCell ⟨pb, 1, none⟩ (ptZ lb) = w6 at *
          go_loopw [15] (fun y wq => ∃ t : Nat, t ≤ k ∧ y = .int .i64 (t : Int) ∧ Hid (PQ w.heap.size wq pb i cb (bhM L) X lb ao' k tc (tsT i Ts) lo lc rb ra rk ba bc (.pointer none) (.slice none 0 0) (.slice none 0 0) (lsM L) 0 (lsM L)) ∧ Hid (RowKit.Below w.heap.size w wq) ∧ Hid (OwZ W.heap.size 3 wq no k nk (i64s ((List.range k).map (tsT i Ts)))) ∧ Hid (∀ g, bo = some g → g = ⟨g.block, 0, none⟩ ∧ w.heap.size ≤ g.block ∧ (∀ g', ao' = some g' → g'.block ≠ g.block) ∧ ∃ C, wq.heap[g.block]? = some (.cells C 61 (0, 0)) ∧ k ≤ C.size)) (fun y _ => k - (intOf y).toNat)
          case atStart => exact ⟨0, Nat.zero_le _, rfl, HQ5, HB5, HR5, HO5⟩
          case round =>
            clear HQ5 HB5 HR5 HO5
            obtain ⟨t, ht, rfl, HQ, HB, HR, HO⟩ := hrel
            by_cases hlt3 : t < k
            · cases bo with
              | none => exact absurd (HBn.out rfl) (by omega)
              | some g =>
                obtain ⟨g2, g1, g4, C, hC, hCs⟩ := HO.out g rfl
                rw [g2]
                generalize g.block = gb at *
                obtain ⟨y, hy⟩ : ∃ y, wr.cell? ⟨gb, t, none⟩ = some y := by
                  refine ⟨C[t]'(by omega), ?_⟩
                  simp [World.cell?, hC, show t < C.size by omega]
                have f0 : wr.frozen? ⟨gb, t, none⟩ = false := frozen_of_row wr _ _ _ _ hC
                have hf : FrZ (fun j => j = gb) wr (wr.setCell ⟨gb, t, none⟩ .nilIface) := (FrZ.refl (fun j => j = gb) wr).set ⟨gb, t, none⟩ .nilIface (.inr rfl)
                have hT : TyF pqT wr (wr.setCell ⟨gb, t, none⟩ .nilIface) := TyF.ofFr hf (fun k C' T hk hT e => by
                  rw [e, hC] at hk; cases hk
                  rcases hT with hT | hT | hT | hT | hT | hT | hT | hT <;> cases hT)
                have HQ4 : Hid (PQ w.heap.size (wr.setCell ⟨gb, t, none⟩ .nilIface) pb i cb (bhM L) X lb ao' k tc (tsT i Ts) lo lc rb ra rk ba bc (.pointer none) (.slice none 0 0) (.slice none 0 0) (lsM L) 0 (lsM L)) := HQ.out.keptT hT (fun g' hg' => hf.block _ (by obtain ⟨C', hC'⟩ := HQ.out.sl.ln.rt g' hg'; exact blk_ltZ hC') (g4 g' hg'))
                have HB4 : Hid (RowKit.Below w.heap.size w (wr.setCell ⟨gb, t, none⟩ .nilIface)) := HB.out.trans (hf.below HB.out.size (fun k e => by rw [e]; exact g1))
                have HR4 : Hid (OwZ W.heap.size 3 (wr.setCell ⟨gb, t, none⟩ .nilIface) no k nk (i64s ((List.range k).map (tsT i Ts)))) := HR.out.kept (fun g' hg' => by
                  obtain ⟨C', hC'⟩ := HR.out.ty g' hg'
                  exact hT _ _ _ hC' (.inr (.inr (.inr (.inr (.inr (.inr (.inl rfl))))))))
                have HC4 : Hid (∃ C, (wr.setCell ⟨gb, t, none⟩ .nilIface).heap[gb]? = some (.cells C 61 (0, 0)) ∧ k ≤ C.size) := ⟨_, heap_setCell_same wr gb t _ _ _ hC, by simpa using hCs⟩
                have HO4 : Hid (∀ g', some (⟨gb, 0, none⟩ : Addr) = some g' → g' = ⟨g'.block, 0, none⟩ ∧ w.heap.size ≤ g'.block ∧ (∀ g'', ao' = some g'' → g''.block ≠ g'.block) ∧ ∃ C, (wr.setCell ⟨gb, t, none⟩ .nilIface).heap[g'.block]? = some (.cells C 61 (0, 0)) ∧ k ≤ C.size) := fun g' hg' => by
                  cases hg'
                  exact ⟨rfl, g1, g4, HC4.out⟩
                have htI : (t : Int) < (k : Int) := by omega
                clear HQ HB HR HO HC4 hf hT
                go_wp2_with fail
                go_roundw
                case rel => exact ⟨t + 1, by omega, by go_num, HQ4, HB4, HR4, HO4⟩
                case measure => simp [intOf]; omega
            · obtain rfl : t = k := by omega
              have d2 := HQ.out.cell.2.2.1
              have HFin := HQ.out.whole rfl HB.out HR.out (by rw [HPn.out.1, totM]; have := ttM_le L; have := HPn.out.1; omega)
              have d3 := HFin.out.1
              have f3 := HFin.out.2.1
              have HE : Hid (MadP w L Ts (.returned (ptZ pb)) ((wr.alloc (.cells #[ptZ rb, .slice no t nk, .int .i64 0] 63)).setCell ⟨pb, 3, none⟩ (ptZ wr.heap.size))) := by
                have h1 := HFin.out.2.2.1
                have h2 := HFin.out.2.2.2
                rw [HPn.out.1, HPn.out.2] at h1
                rw [HPn.out.2] at h2
                rw [HPn.out.2]
                exact ⟨pb, cb, X, lb, ao', tc, lo, lc, rb, ra, rk, ba, bc, _, no, nk, rfl, h1, h2⟩
              clear HFin HQ HB HR HO
              go_wp2
              go_ret
              exact HE.out
end Go.Proofs.Yteobmijfbjgccaa
