/-
  THE WALK OF (*book).ends.
-/
import Derived.Test.YthdlilekilkogaaEndsMath
namespace Go.Proofs.Ythdlilekilkogaa
open Go.RowKit

theorem IsBook.drewN {w : World} {kb : Nat} {vl vw : Value} {ls ws : List Value} {Ls Ws : List (List Nat)} (h : IsBook w kb vl vw ls ws Ls Ws) (q : Nat) : IsBook (w.drewN q) kb vl vw ls ws Ls Ws := h.same fun _ _ => rfl

theorem ownsRow_slice {w : World} {e : TypeId} {n : Nat} {v : Value} {xs : List Value} (h : w.ownsRow 0 e 1 v n xs) : ∃ a c, v = .slice a n c ∧ (n ≠ 0 → ∃ g, a = some ⟨g, 0, none⟩) ∧ n ≤ c ∧ c ≤ maxLen := by
  obtain ⟨_, ⟨rfl, h0⟩ | ⟨g, cap, cur, rfl, _, _, hn, hm, _⟩⟩ := h
  · exact ⟨none, 0, by rw [h0], fun h => absurd h0 h, by omega, Nat.zero_le _⟩
  · exact ⟨_, cap, rfl, fun _ => ⟨g, rfl⟩, hn, hm⟩
theorem ownsRow_cell {w : World} {e : TypeId} {g n cap : Nat} {xs : List Value} (h : w.ownsRow 0 e 1 (.slice (some ⟨g, 0, none⟩) n cap) n xs) (i : Nat) (hi : i < n) : w.cell? ⟨g, i, none⟩ = some (xs.getD i nilV) := by
  have e := World.ownsRow.cellAt h i (by omega)
  have hl : xs.length = n := by have := h.1; omega
  rw [e, List.getD_eq_getElem?_getD, List.getElem?_eq_getElem (by omega)]
  simp
theorem ownsRow_frozen {w : World} {e : TypeId} {g n cap : Nat} {xs : List Value} (h : w.ownsRow 0 e 1 (.slice (some ⟨g, 0, none⟩) n cap) n xs) (i : Nat) : w.frozen? ⟨g, i, none⟩ = false := by
  obtain ⟨_, ⟨h1, _⟩ | ⟨g', cap', cur, e, _, hg, _⟩⟩ := h
  · cases h1
  · simp only [Value.slice.injEq, Option.some.injEq, Addr.mk.injEq] at e
    obtain ⟨⟨rfl, _⟩, _⟩ := e
    exact frozen_of_row w g i _ _ hg

set_option maxRecDepth 100000 in
set_option maxHeartbeats 4000000 in
theorem ends_any (w : World) (kb : Nat) (vl vw : Value) (ls ws : List Value) (Ls : List (List Nat)) (h : IsBook w kb vl vw ls ws Ls Ls) (hw : ws.length = ls.length) (hn : ls.length ≤ 4194304) (hL : ∀ i, (Ls.getD i []).length ≤ 70368744177664) :
    Calls Try.prog 13 #[.pointer (some ⟨kb, 0, none⟩)] w fun e w' => e = .returned (.bool true) ∧ Touch (BookSet kb vl vw ls ws) w w' := by
  have HB : Hid (IsBook w kb vl vw ls ws Ls Ls) := h
  have HWL : Hid (ws.length = ls.length) := hw
  have HL : Hid (∀ i, (Ls.getD i []).length ≤ 70368744177664) := hL
  obtain ⟨al, cl, hvl, hgl, hl1, hl2⟩ := h.hl.slice
  obtain ⟨aw, cw, hvw, hgw, hw1, hw2⟩ := h.hw.slice
  unfold maxLen at hl2 hw2
  rw [hw] at hvw hgw hw1
  clear h hw hL
  obtain ⟨n, hnn⟩ : ∃ n, ls.length = n := ⟨_, rfl⟩
  have HNN : Hid (ls.length = n) := hnn
  rw [hnn] at hvl hvw hgl hgw hn hl1 hw1
  clear hnn
  subst hvl hvw
  go_enter Try.func13, Try.ntmps13
  go_wp2_with fail
  refine (whole_any w kb _ _ ls ws Ls HB.out HWL.out).mono ?_
  rintro e w1 ⟨rfl, q, hq⟩
  have HB1 : Hid (IsBook w1 kb (.slice al n cl) (.slice aw n cw) ls ws Ls Ls) := by rw [hq]; exact HB.out.drewN q
  have HT1 : Hid (Touch (BookSet kb (.slice al n cl) (.slice aw n cw) ls ws) w w1) := by rw [hq]; exact (Touch.refl _ _).drewN q
  clear hq
  go_wp2
  go_loopw [3] (fun x wr => ∃ (i : Nat) (Ms : List (List Nat)), i ≤ n ∧ x = .int .i64 (i : Int) ∧ Hid (IsBook wr kb (.slice al n cl) (.slice aw n cw) ls ws Ms Ms) ∧ Hid (∀ t, (Ms.getD t []).length = (Ls.getD t []).length) ∧ Hid (Touch (BookSet kb (.slice al n cl) (.slice aw n cw) ls ws) w wr)) (fun x _ => n - (intOf x).toNat)
  case atStart => exact ⟨0, Ls, Nat.zero_le _, rfl, HB1, fun _ => rfl, HT1⟩
  case round =>
    obtain ⟨i, Ms, hi, rfl, HBi, HMi, HTi⟩ := hrel
    have d0 := HBi.out.c0
    have d1 := HBi.out.c1
    by_cases hlt : i < n
    · obtain ⟨gl, rfl⟩ := hgl (by omega)
      obtain ⟨gw, rfl⟩ := hgw (by omega)
      have HIL : Hid (i < ls.length) := by rw [Hid, HNN.out]; exact hlt
      have HIW : Hid (i < ws.length) := by rw [Hid, HWL.out, HNN.out]; exact hlt
      obtain ⟨li, hli⟩ : ∃ l, (Ls.getD i []).length = l := ⟨_, rfl⟩
      have HLI : Hid ((Ls.getD i []).length = li) := hli
      have hlim : li ≤ 70368744177664 := by rw [← hli]; exact HL.out i
      obtain ⟨a1, p1, hv1, _, _, _⟩ := (HBi.out.hl.own i HIL.out).slice
      obtain ⟨a2, p2, hv2, _, _, _⟩ := (HBi.out.hw.own i HIW.out).slice
      rw [HMi.out i, hli] at hv1 hv2
      have HV1 : Hid (ls.getD i nilV = .slice a1 li p1) := hv1
      have HV2 : Hid (ws.getD i nilV = .slice a2 li p2) := hv2
      clear hli hv1 hv2
      go_wp2
      generalize wr = W1 at *
      clear d0 d1
      go_loopw [4] (fun x wr => ∃ (j : Nat) (Ms : List (List Nat)), j ≤ li ∧ x = .int .i64 (j : Int) ∧ Hid (IsBook wr kb (.slice (some ⟨gl, 0, none⟩) n cl) (.slice (some ⟨gw, 0, none⟩) n cw) ls ws Ms Ms) ∧ Hid (∀ t, (Ms.getD t []).length = (Ls.getD t []).length) ∧ Hid (Touch (BookSet kb (.slice (some ⟨gl, 0, none⟩) n cl) (.slice (some ⟨gw, 0, none⟩) n cw) ls ws) w wr)) (fun x _ => li - (intOf x).toNat)
      case atStart => exact ⟨0, Ms, Nat.zero_le _, rfl, HBi, HMi, HTi⟩
      case round =>
        clear HBi HMi HTi
        obtain ⟨j, Ms, hj, rfl, HBi, HMi, HTi⟩ := hrel
        have d0 := HBi.out.c0
        have d1 := HBi.out.c1
        have e0 : wr.cell? ⟨gl, i, none⟩ = some (.slice a1 li p1) := by rw [HBi.out.hl.cell i HIL.out, HV1.out]
        have e1 : wr.cell? ⟨gw, i, none⟩ = some (.slice a2 li p2) := by rw [HBi.out.hw.cell i HIW.out, HV2.out]
        by_cases hlj : j < li
        · have ho1 := HBi.out.hl.own i HIL.out
          have ho2 := HBi.out.hw.own i HIW.out
          have HM1 := HMi.out i
          rw [HLI.out] at HM1
          rw [HV1.out] at ho1
          rw [HV2.out] at ho2
          obtain ⟨g1, h1⟩ : ∃ g1, a1 = some ⟨g1, 0, none⟩ := by
            rcases ho1.shape with ⟨_, h0⟩ | ⟨g, c, e, _⟩
            · rw [h0] at HM1; simp at HM1; omega
            · simp only [Value.slice.injEq] at e; exact ⟨g, e.1⟩
          obtain ⟨g2, h2⟩ : ∃ g2, a2 = some ⟨g2, 0, none⟩ := by
            rcases ho2.shape with ⟨_, h0⟩ | ⟨g, c, e, _⟩
            · rw [h0] at HM1; simp at HM1; omega
            · simp only [Value.slice.injEq] at e; exact ⟨g, e.1⟩
          subst h1 h2
          have b1 := ho1.cell j (by omega)
          have b2 := ho2.cell j (by omega)
          have f1 := ho1.frozen j
          have f2 := ho2.frozen j
          generalize (Ms.getD i []).getD j 0 = zo at b1 b2
          have hne1 := HBi.out.ne_b ho1 g1 rfl
          have hne2 := HBi.out.ne_b ho2 g2 rfl
          have hne12 : g1 ≠ g2 := fun e => HBi.out.cross i i HIL.out HIW.out g1 (by rw [HV1.out]; rfl) (by rw [HV2.out, e]; rfl)
          simp only [Value.ownBlock, ne_eq, Option.some.injEq] at hne1 hne2
          obtain ⟨z, hz⟩ : ∃ z : Nat, ((i : Int) * 7 + (j : Int)) % 256 = (z : Int) := ⟨(i * 7 + j) % 256, by omega⟩
          have hz256 : z < 256 := by omega
          have HB2 : Hid (IsBook (wr.setCell ⟨g1, j, none⟩ (.int .u8 (z : Int))) kb (.slice (some ⟨gl, 0, none⟩) n cl) (.slice (some ⟨gw, 0, none⟩) n cw) ls ws (Ms.set i ((Ms.getD i []).set j z)) Ms) := HBi.out.setL HIL.out HV1.out j z hz256
          have HB3 : Hid (IsBook ((wr.setCell ⟨g1, j, none⟩ (.int .u8 (z : Int))).setCell ⟨g2, j, none⟩ (.int .u8 (z : Int))) kb (.slice (some ⟨gl, 0, none⟩) n cl) (.slice (some ⟨gw, 0, none⟩) n cw) ls ws (Ms.set i ((Ms.getD i []).set j z)) (Ms.set i ((Ms.getD i []).set j z))) := HB2.out.setW HIW.out HV2.out j z hz256
          have HT3 : Hid (Touch (BookSet kb (.slice (some ⟨gl, 0, none⟩) n cl) (.slice (some ⟨gw, 0, none⟩) n cw) ls ws) w ((wr.setCell ⟨g1, j, none⟩ (.int .u8 (z : Int))).setCell ⟨g2, j, none⟩ (.int .u8 (z : Int)))) :=
            (HTi.out.setCell _ _ (.inl (.inr (.inl (.inr ⟨i, HIL.out, by rw [HV1.out]; rfl⟩))))).setCell _ _ (.inl (.inr (.inr (.inr ⟨i, HIW.out, by rw [HV2.out]; rfl⟩))))
          have HM3 : Hid (∀ t, ((Ms.set i ((Ms.getD i []).set j z)).getD t []).length = (Ls.getD t []).length) := by
            intro t
            rw [getD_set']
            split
            · rename_i h; rw [List.length_set, ← h.1]; exact HMi.out i
            · exact HMi.out t
          obtain ⟨n1, n2, n3⟩ := hne1
          obtain ⟨n4, n5, n6⟩ := hne2
          have n1' : ¬ kb = g1 := fun e => n1 e.symm
          have n3' : ¬ g1 = gw := fun e => n3 e.symm
          have n12 : ¬ g2 = g1 := fun e => hne12 e.symm
          clear ho1 ho2 HM1
          go_wp2
          go_roundw
          case rel => exact ⟨j + 1, _, by omega, by go_num, HB3, HM3, HT3⟩
          case measure => simp [intOf]; omega
        · go_wp2
          go_roundw
          case rel => exact ⟨i + 1, Ms, by omega, by go_num, HBi, HMi, HTi⟩
          case measure => simp [intOf]; omega
    · obtain ⟨i0, hi0, hz0, hz1, hz2⟩ := info_parts infoS
      go_wp2
      generalize wr = W1 at *
      clear d0 d1 hi hlt
      go_loopw [5, 6] (fun x y wr => ∃ (k : Nat) (vm : Value), k ≤ n ∧ x = vm ∧ y = .int .i64 (k : Int) ∧ Hid (wr.ownsRow 0 26 1 vm k (ls.take k)) ∧ Hid (IsBook wr kb (.slice al n cl) (.slice aw n cw) ls ws Ms Ms) ∧ Hid (Touch (BookSet kb (.slice al n cl) (.slice aw n cw) ls ws) w wr) ∧ Hid (∀ b, vm.ownBlock = some b → w.heap.size ≤ b)) (fun _ y _ => n - (intOf y).toNat)
      case atStart => exact ⟨0, .slice none 0 0, Nat.zero_le _, rfl, rfl, World.ownsRow_nil _ _ _ _, HBi, HTi, fun b hb => by simp [Value.ownBlock] at hb⟩
      case round =>
        clear HBi HTi
        obtain ⟨k, vm, hk, rfl, rfl, HRm, HBi, HTi, HMn⟩ := hrel
        have d0 := HBi.out.c0
        by_cases hlt : k < n
        · obtain ⟨gl, rfl⟩ := hgl (by omega)
          have HIL : Hid (k < ls.length) := by rw [Hid, HNN.out]; exact hlt
          obtain ⟨a1, p1, hv1, _, _, _⟩ := (HBi.out.hl.own k HIL.out).slice
          have e0 : wr.cell? ⟨gl, k, none⟩ = some (.slice a1 (Ms.getD k []).length p1) := by rw [HBi.out.hl.cell k HIL.out, hv1]
          generalize (Ms.getD k []).length = li at *
          have HTK : Hid (ls.take k ++ [.slice a1 li p1] = ls.take (k + 1)) := by
            rw [Hid, ← hv1, List.take_succ_eq_append_getElem HIL.out, List.getD_eq_getElem?_getD, List.getElem?_eq_getElem HIL.out]; rfl
          clear hv1
          go_wp2_with (at_builtin; refine wpList_append_lies _ rfl _ _ 29 rfl 0 26 i0 (.slice none 0 0) 1 24 Try.underlying29 hi0 hz0 hz1 hz2 rfl (by decide) _ k (ls.take k) rfl (HRm.out.alloc _) _ 1 1 [.slice a1 li p1] rfl rfl (cell_one_new _ _ _) (by simp [slice_one]) (by omega) (by unfold maxLen; omega) (by omega) (Nat.zero_le _) (wr.heap.size + 1) (by simp) ?_; intro g cap w1 hown1 hgrow1 hat1 hlt1)
          have hg1 := grown_alloc_b w1 hgrow1
          have HB4 : Hid (IsBook w1 kb (.slice (some ⟨gl, 0, none⟩) n cl) (.slice aw n cw) ls ws Ms Ms) := HBi.out.same (fun b hb => grown_far hg1 b (HBi.out.lt b hb) (fun e => by have := HMn.out b e; have := HB.out.lt b hb; omega))
          have HT4 : Hid (Touch (BookSet kb (.slice (some ⟨gl, 0, none⟩) n cl) (.slice aw n cw) ls ws) w w1) := HTi.out.grown hg1 (fun b hb => .inr (HMn.out b hb))
          have HM4 : Hid (∀ b, (Value.slice (some ⟨g, 0, none⟩) (k + 1) cap).ownBlock = some b → w.heap.size ≤ b) := by
            intro b hb
            simp only [Value.ownBlock, Option.some.injEq] at hb
            subst hb
            rcases hat1 with e | e
            · exact HMn.out g e
            · have := HTi.out.size; omega
          go_roundw
          case rel => exact ⟨k + 1, _, by omega, rfl, by go_num, by rw [← HTK.out]; exact hown1, HB4, HT4, HM4⟩
          case measure => simp [intOf]; omega
        · obtain rfl : k = n := by omega
          have HTA : Hid (ls.take k = ls) := by rw [Hid, ← HNN.out, List.take_length]
          rw [HTA.out] at HRm
          obtain ⟨am, cm, hvm, hgm, hm1, hm2⟩ := ownsRow_slice HRm.out
          subst hvm
          have HG0 : Hid (Grows wr kb (.slice al k cl) (.slice aw k cw) ls ws Ms (.slice am k cm) ls w.heap.size 0 0) :=
            ⟨HBi.out, by rw [HNN.out]; exact HRm.out, rfl, fun t ht => by unfold grownList; rw [if_neg (by omega), List.replicate_zero, List.append_nil]; exact HBi.out.hl.own t ht, HBi.out.hl.apart, HBi.out.hl.apart,
              fun s t hs ht => HBi.out.cross s t hs (by rw [HWL.out]; exact ht), fun t ht b hb => .inl hb, HMn.out, HB.out.lt, HTi.out.size⟩
          go_wp2
          clear d0 hk hlt
          generalize wr = W2 at *
          go_loopw [7] (fun x wr => ∃ (J : Nat) (ms : List Value), J ≤ 70 ∧ x = .int .i64 (J : Int) ∧ Hid (Grows wr kb (.slice al k cl) (.slice aw k cw) ls ws Ms (.slice am k cm) ms w.heap.size J 0) ∧ Hid (Touch (BookSet kb (.slice al k cl) (.slice aw k cw) ls ws) w wr)) (fun x _ => 70 - (intOf x).toNat)
          case atStart => exact ⟨0, ls, by omega, rfl, HG0, HTi⟩
          case round =>
            clear HG0 HTi HBi HRm
            obtain ⟨J, ms, hJ, rfl, HG, HTi⟩ := hrel
            by_cases hlt : J < 70
            · have hlt' : (J : Int) < 70 := by omega
              go_wp2
              generalize wr = W3 at *
              go_loopw [8] (fun x wr => ∃ (t : Nat) (ms : List Value), t ≤ k ∧ x = .int .i64 (t : Int) ∧ Hid (Grows wr kb (.slice al k cl) (.slice aw k cw) ls ws Ms (.slice am k cm) ms w.heap.size J t) ∧ Hid (Touch (BookSet kb (.slice al k cl) (.slice aw k cw) ls ws) w wr)) (fun x _ => k - (intOf x).toNat)
              case atStart => exact ⟨0, ms, Nat.zero_le _, rfl, HG, HTi⟩
              case round =>
                clear HG HTi
                obtain ⟨t, ms, ht, rfl, HG, HTi⟩ := hrel
                by_cases hlt2 : t < k
                · obtain ⟨gm, rfl⟩ := hgm (by omega)
                  have HML : Hid (ms.length = k) := by rw [Hid, HG.out.len, HNN.out]
                  have HTL : Hid (t < ms.length) := by rw [Hid, HML.out]; exact hlt2
                  have hrow := HG.out.row
                  rw [HML.out] at hrow
                  have e0 := ownsRow_cell hrow t hlt2
                  have f0 := ownsRow_frozen hrow t
                  have HO : Hid (OwnB wr 0 (ms.getD t nilV) (grownList Ms J t t)) := HG.out.own t HTL.out
                  obtain ⟨a1, p1, hv1, _, hn1, _⟩ := HO.out.slice
                  have HV1 : Hid (ms.getD t nilV = .slice a1 (grownList Ms J t t).length p1) := hv1
                  have hgl1 : (grownList Ms J t t).length ≤ 70368744177734 := by
                    unfold grownList
                    rw [List.length_append, List.length_replicate, HMi.out t]
                    have := HL.out t
                    split <;> omega
                  have HOV : Hid (OwnB wr 0 (.slice a1 (grownList Ms J t t).length p1) (grownList Ms J t t)) := by rw [← hv1]; exact HO.out
                  rw [hv1] at e0
                  obtain ⟨z, hz⟩ : ∃ z : Nat, (100 + (t : Int) * 3) % 256 = (z : Int) := ⟨(100 + t * 3) % 256, by omega⟩
                  have hz256 : z < 256 := by omega
                  have HZ : Hid (z = (100 + t * 3) % 256) := by rw [Hid]; omega
                  obtain ⟨gl1, hgl1e⟩ : ∃ L, grownList Ms J t t = L := ⟨_, rfl⟩
                  have HGE : Hid (grownList Ms J t t = gl1) := hgl1e
                  rw [hgl1e] at e0 hgl1
                  rw [hgl1e] at HOV HV1
                  have HAFT : Hid (∀ w1 a' c', OwnB w1 0 (.slice a' (gl1.length + 1) c') (gl1 ++ [z]) → wr.grownBy w1 (Value.slice a1 gl1.length p1).ownBlock → (∀ b, (Value.slice a' (gl1.length + 1) c').ownBlock = some b → (Value.slice a1 gl1.length p1).ownBlock = some b ∨ wr.heap.size ≤ b) →
                      (∀ u M, OwnB wr 0 u M → u.ownBlock = (Value.slice a1 gl1.length p1).ownBlock → M.length ≤ gl1.length → OwnB w1 0 u M) → w1.heap[gm]? = wr.heap[gm]? ∧
                      Grows (w1.setCell ⟨gm, t, none⟩ (.slice a' (gl1.length + 1) c')) kb (.slice al k cl) (.slice aw k cw) ls ws Ms (.slice (some ⟨gm, 0, none⟩) k cm) (ms.set t (.slice a' (gl1.length + 1) c')) w.heap.size J (t + 1) ∧
                      Touch (BookSet kb (.slice al k cl) (.slice aw k cw) ls ws) w (w1.setCell ⟨gm, t, none⟩ (.slice a' (gl1.length + 1) c'))) := by
                    intro w1 a' c' hown hgrow hat hkeep
                    rw [← HV1.out] at hgrow hat hkeep
                    obtain ⟨curm, hgmr⟩ := ownsRow_typ HG.out.row gm rfl
                    refine ⟨grown_far hgrow gm (heap_lt hgmr) (fun e => ?_), HG.out.step HWL.out HTL.out (by rw [HGE.out, ← HZ.out]; exact hown) hgrow hat (by rw [HGE.out]; exact hkeep), (HTi.out.grown hgrow (fun b hb => ?_)).setCell _ _ (.inr (HG.out.mine gm rfl))⟩
                    · obtain ⟨_, h1⟩ := HO.out.typ gm e
                      rw [hgmr] at h1; simp at h1
                    · rcases HG.out.lies t HTL.out b hb with e | e
                      · exact .inl (.inr (.inl (.inr ⟨t, by rw [HNN.out]; exact hlt2, e⟩)))
                      · exact .inr e
                  clear hv1 hrow hgl1e
                  go_wp2_with (at_builtin; refine wpList_append_bytes_keep rfl _ _ rfl 0 _ gl1 rfl (HOV.out.alloc _) _ _ _ [z] rfl rfl (byte_src _ _ z rfl hz256) (by simp; omega) (Nat.zero_le _) ?_; intro v' w1 hown1 hgrow1 hat1 hkeep1; obtain ⟨a', c', hv', _, _, _⟩ := hown1.slice; rw [List.length_append, List.length_singleton] at hv'; subst hv'; have hg1 := grown_alloc_b w1 hgrow1; have HQ := HAFT.out w1 a' c' hown1 hg1 (by intro b hb; rcases hat1 with e | e <;> rw [e] at hb <;> first | exact .inl hb | (simp at hb; exact .inr (by omega))) (fun u M hu he hl => hkeep1 u M (hu.alloc _) he hl); have hk1 := HQ.1; have hc1 : w1.cell? ⟨gm, t, none⟩ = some (.slice a1 gl1.length p1) := (by simp only [World.cell?]; rw [hk1]; exact e0); have hf1 : w1.frozen? ⟨gm, t, none⟩ = false := (World.frozen?_of_block hk1).trans f0; have HQQ := HQ.2; have HQ3 : Hid (Grows (w1.setCell ⟨gm, t, none⟩ (.slice a' (gl1.length + 1) c')) kb (.slice al k cl) (.slice aw k cw) ls ws Ms (.slice (some ⟨gm, 0, none⟩) k cm) (ms.set t (.slice a' (gl1.length + 1) c')) w.heap.size J (t + 1) ∧ Touch (BookSet kb (.slice al k cl) (.slice aw k cw) ls ws) w (w1.setCell ⟨gm, t, none⟩ (.slice a' (gl1.length + 1) c'))) := HQQ; clear HQ HQQ hk1 hown1 hgrow1 hat1 hkeep1 hg1)
                  go_roundw
                  case rel => exact ⟨t + 1, _, by omega, by go_num, HQ3.out.1, HQ3.out.2⟩
                  case measure => simp [intOf]; omega
                · obtain rfl : t = k := by omega
                  have HG2 : Hid (Grows wr kb (.slice al t cl) (.slice aw t cw) ls ws Ms (.slice am t cm) ms w.heap.size (J + 1) 0) :=
                    ⟨HG.out.book, HG.out.row, HG.out.len, fun s hs => by rw [← grownList_next Ms J t s (by rw [← HNN.out, ← HG.out.len]; exact hs)]; exact HG.out.own s hs, HG.out.apart, HG.out.lists, HG.out.wants, HG.out.lies, HG.out.mine, HG.out.old, HG.out.top⟩
                  go_wp2
                  go_roundw
                  case rel => exact ⟨J + 1, ms, by omega, by go_num, HG2, HTi⟩
                  case measure => simp [intOf]; omega
            · have hlt' : ¬ (J : Int) < 70 := by omega
              obtain rfl : J = 70 := by omega
              go_wp2
              generalize wr = W3 at *
              go_loopw [9] (fun x wr => ∃ (s q : Nat), s ≤ k ∧ x = .int .i64 (s : Int) ∧ Hid (wr = W3.drewN q)) (fun x _ => k - (intOf x).toNat)
              case atStart => exact ⟨0, 0, Nat.zero_le _, rfl, rfl⟩
              case round =>
                obtain ⟨s, q, hs, rfl, HQ⟩ := hrel
                by_cases hlt2 : s < k
                · obtain ⟨gl, rfl⟩ := hgl (by omega)
                  obtain ⟨gw, rfl⟩ := hgw (by omega)
                  obtain ⟨gm, rfl⟩ := hgm (by omega)
                  have HIL : Hid (s < ls.length) := by rw [Hid, HNN.out]; exact hlt2
                  have HIW : Hid (s < ws.length) := by rw [Hid, HWL.out, HNN.out]; exact hlt2
                  have HML : Hid (ms.length = k) := by rw [Hid, HG.out.len, HNN.out]
                  have HIM : Hid (s < ms.length) := by rw [Hid, HML.out]; exact hlt2
                  have hrow := HG.out.row
                  rw [HML.out] at hrow
                  have d0 : wr.cell? ⟨kb, 0, none⟩ = some (.slice (some ⟨gl, 0, none⟩) k cl) := by rw [HQ.out]; exact HG.out.book.c0
                  have d1 : wr.cell? ⟨kb, 1, none⟩ = some (.slice (some ⟨gw, 0, none⟩) k cw) := by rw [HQ.out]; exact HG.out.book.c1
                  have e0 : wr.cell? ⟨gl, s, none⟩ = some (ls.getD s nilV) := by rw [HQ.out]; exact HG.out.book.hl.cell s HIL.out
                  have e1 : wr.cell? ⟨gw, s, none⟩ = some (ws.getD s nilV) := by rw [HQ.out]; exact HG.out.book.hw.cell s HIW.out
                  have e2 : wr.cell? ⟨gm, s, none⟩ = some (ms.getD s nilV) := by rw [HQ.out]; exact ownsRow_cell hrow s hlt2
                  obtain ⟨a1, p1, hv1, _, _, _⟩ := (HG.out.book.hl.own s HIL.out).slice
                  obtain ⟨a2, p2, hv2, hb2, _, _⟩ := (HG.out.book.hw.own s HIW.out).slice
                  have ho3 := HG.out.own s HIM.out
                  obtain ⟨l1, hl1e⟩ : ∃ l, (Ms.getD s []).length = l := ⟨_, rfl⟩
                  have hgn : (grownList Ms 70 0 s).length = l1 + 70 := by
                    unfold grownList; rw [if_neg (by omega), List.length_append, List.length_replicate, hl1e]
                  obtain ⟨g3, p3, hv3, hp3, hp4, hb3⟩ : ∃ g3 p3, ms.getD s nilV = .slice (some ⟨g3, 0, none⟩) (l1 + 70) p3 ∧ l1 + 70 ≤ p3 ∧ p3 ≤ maxLen ∧ BytesAt W3 (some ⟨g3, 0, none⟩) (grownList Ms 70 0 s) := by
                    rcases ho3.shape with ⟨_, h0⟩ | ⟨g, c, e, _, _, h5, h6, h7⟩
                    · rw [h0] at hgn; simp at hgn
                    · rw [hgn] at e h5; exact ⟨g, c, e, h5, h6, h7⟩
                  unfold maxLen at hp4
                  have hl1m : l1 ≤ 70368744177664 := by rw [← hl1e, HMi.out s]; exact HL.out s
                  rw [hv1, hl1e] at e0
                  rw [hv2, hl1e] at e1
                  rw [hv3] at e2
                  have HB2 : Hid (BytesAt wr a2 (Ms.getD s [])) := by rw [HQ.out]; exact hb2
                  have HB3 : Hid (BytesAt wr (some ⟨g3, 0, none⟩) (Ms.getD s [])) := by
                    rw [HQ.out]
                    have h8 := hb3
                    obtain ⟨hz, h0 | ⟨g, off, e, hc⟩⟩ := h8
                    · rw [h0] at hgn; simp at hgn
                    · refine ⟨fun z hz' => hz z (by unfold grownList; exact List.mem_append_left _ hz'), .inr ⟨g, off, e, fun i hi => ?_⟩⟩
                      have h9 := hc i (by rw [hgn]; omega)
                      unfold grownList at h9
                      rw [getD_left _ _ _ hi] at h9
                      exact h9
                  have HBZ : Hid (∀ j, l1 ≤ j → j < l1 + 70 → wr.cell? ⟨g3, j, none⟩ = some (.int .u8 (((100 + s * 3) % 256 : Nat) : Int))) := by
                    intro j hj1 hj2
                    rw [HQ.out]
                    obtain ⟨hz, h0 | ⟨g, off, e, hc⟩⟩ := hb3
                    · rw [h0] at hgn; simp at hgn
                    · simp only [Option.some.injEq, Addr.mk.injEq] at e
                      obtain ⟨rfl, rfl, _⟩ := e
                      have h9 := hc j (by rw [hgn]; omega)
                      unfold grownList at h9
                      rw [if_neg (by omega), getD_right _ _ _ (by rw [hl1e]; omega), Nat.zero_add] at h9
                      rw [List.getD_eq_getElem?_getD, List.getElem?_replicate, if_pos (by rw [hl1e]; omega)] at h9
                      exact h9
                  have HLE : Hid (l1 = (Ms.getD s []).length) := hl1e.symm
                  have HMX : Hid ((Ms.getD s []).length ≤ maxLen) := by rw [Hid, hl1e]; unfold maxLen; omega
                  clear hv1 hv2 hv3 hb2 hb3 ho3 hgn hl1e hrow
                  go_wp2
                  go_quiet ((go_at_call 10; exact Calls.quiet_of (same_any _ _ _ _ _ _ _ (Ms.getD s []) (Ms.getD s []) HLE.out HLE.out (HB3.out.drewN _) (HB2.out.drewN _) HMX.out)))
                  have HQ2 : Hid (wr.drewN nq = W3.drewN (q + nq)) := by rw [HQ.out, World.drewN_drewN]; rfl
                  have d0' : (wr.drewN nq).cell? ⟨kb, 0, none⟩ = some (.slice (some ⟨gl, 0, none⟩) k cl) := d0
                  have e2' : (wr.drewN nq).cell? ⟨gm, s, none⟩ = some (.slice (some ⟨g3, 0, none⟩) (l1 + 70) p3) := e2
                  have HBZ' : Hid (∀ j, l1 ≤ j → j < l1 + 70 → (wr.drewN nq).cell? ⟨g3, j, none⟩ = some (.int .u8 (((100 + s * 3) % 256 : Nat) : Int))) := HBZ.out
                  generalize wr.drewN nq = W4 at *
                  clear d0 d1 e0 e1 e2 HBZ
                  go_wp2
                  go_loop [11] (fun x => ∃ j : Nat, l1 ≤ j ∧ j ≤ l1 + 70 ∧ x = .int .i64 (j : Int)) (fun x => l1 + 70 - (intOf x).toNat)
                  case atStart => exact ⟨l1, Nat.le_refl _, by omega, rfl⟩
                  case round =>
                    obtain ⟨j, hj1, hj2, rfl⟩ := hrel
                    by_cases hlj : j < l1 + 70
                    · have hcz := HBZ'.out j hj1 hlj
                      have hzz : (((100 + s * 3) % 256 : Nat) : Int) = (100 + (s : Int) * 3) % 256 := by omega
                      rw [hzz] at hcz
                      clear hzz
                      go_wp2
                      go_round
                      case rel => exact ⟨j + 1, by omega, by omega, by go_num⟩
                      case measure => simp [intOf]; omega
                    · go_wp2
                      go_roundw
                      case rel => exact ⟨s + 1, q + nq, by omega, by go_num, HQ2⟩
                      case measure => simp [intOf]; omega
                · have HBE : Hid (IsBook wr kb (.slice al k cl) (.slice aw k cw) ls ws Ms Ms) := by rw [HQ.out]; exact HG.out.book.drewN q
                  have HTE : Hid (Touch (BookSet kb (.slice al k cl) (.slice aw k cw) ls ws) w wr) := by rw [HQ.out]; exact HTi.out.drewN q
                  go_wp2_with fail
                  refine (whole_any wr kb _ _ ls ws Ms HBE.out HWL.out).mono ?_
                  rintro e5 w5 ⟨rfl, q5, hq5⟩
                  have HT5 : Hid (Touch (BookSet kb (.slice al k cl) (.slice aw k cw) ls ws) w w5) := by rw [hq5]; exact HTE.out.drewN q5
                  clear hq5
                  go_wp2
                  go_ret
                  exact ⟨rfl, HT5.out⟩

end Go.Proofs.Ythdlilekilkogaa
