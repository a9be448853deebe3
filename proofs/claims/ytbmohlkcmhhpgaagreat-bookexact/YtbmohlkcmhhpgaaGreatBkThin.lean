/-
  thin.
-/
import Derived.Test.YtbmohlkcmhhpgaaGreatBkThinH
import Derived.BigRegion
import Derived.Deep.LoopGhost
namespace Go.Proofs.YtbmohlkcmhhpgaaGreat
open Go.RowKit Go.Sort

theorem alloc_drew (w : World) (o : Obj) : Below w.heap.size w (w.alloc o).drew := by
  have h := (Below.refl w.heap.size w).alloc (Nat.le_refl _) o
  exact ⟨h.os, h.tape, h.output, h.size, h.block⟩
/-- a version in a box -/
def VB (W : World) (b : Nat) (v : V4) : Prop := W.heap[b]? = some (.cells #[.int .i64 v.1.1, .int .i64 v.1.2, .int .i64 v.2.1, .int .i64 v.2.2] 118 (0, 0))
theorem VB.cells {W : World} {b : Nat} {v : V4} (h : VB W b v) : W.cell? ⟨b, 0, none⟩ = some (.int .i64 v.1.1) ∧ W.cell? ⟨b, 1, none⟩ = some (.int .i64 v.1.2) ∧ W.cell? ⟨b, 2, none⟩ = some (.int .i64 v.2.1) ∧ W.cell? ⟨b, 3, none⟩ = some (.int .i64 v.2.2) := by
  refine ⟨?_, ?_, ?_, ?_⟩ <;> simp [World.cell?, show W.heap[b]? = _ from h]
theorem VB.frozen {W : World} {b : Nat} {v : V4} (h : VB W b v) (i : Nat) : W.frozen? ⟨b, i, none⟩ = false := frozen_of_row W b i _ _ h
abbrev s4 (W : World) (b : Nat) (v : V4) : World := (((W.setCell ⟨b, 0, none⟩ (.int .i64 v.1.1)).setCell ⟨b, 1, none⟩ (.int .i64 v.1.2)).setCell ⟨b, 2, none⟩ (.int .i64 v.2.1)).setCell ⟨b, 3, none⟩ (.int .i64 v.2.2)
theorem VB.four {W : World} {b : Nat} {v : V4} (h : VB W b v) (x : V4) : VB (s4 W b x) b x := by
  have h0 := heap_setCell_same W b 0 _ _ (.int .i64 x.1.1) h
  have h1 := heap_setCell_same _ b 1 _ _ (.int .i64 x.1.2) h0
  have h2 := heap_setCell_same _ b 2 _ _ (.int .i64 x.2.1) h1
  have h3 := heap_setCell_same _ b 3 _ _ (.int .i64 x.2.2) h2
  exact h3
theorem s4_other (W : World) (b : Nat) (v : V4) {k : Nat} (h : k ≠ b) : (s4 W b v).heap[k]? = W.heap[k]? := by
  unfold s4
  rw [heap_setCell_other _ _ _ _ (fun e => h e), heap_setCell_other _ _ _ _ (fun e => h e), heap_setCell_other _ _ _ _ (fun e => h e), heap_setCell_other _ _ _ _ (fun e => h e)]
def ThinPost (w : World) (B Mp Mc Mn : Nat) (cap latest floor : Int) (pins : List (Int × Int)) (nw : List K) (T : List V4) (e : Ending) (w' : World) : Prop :=
  (∃ x, e = .returned x) ∧ BA w' B Mp Mc Mn cap latest floor pins T nw ∧ Fr (SB B Mp Mc Mn) w w' ∧ w'.heap[Mn]? = w.heap[Mn]?
set_option maxRecDepth 100000 in
set_option maxHeartbeats 16000000 in
theorem thin_any (w : World) (B Mp Mc Mn : Nat) (cap latest floor : Int) (pins : List (Int × Int)) (X Y : List V4) (u : V4) (nw : List K) (h : BA w B Mp Mc Mn cap latest floor pins (X ++ u :: Y) nw) (hY : ∀ v ∈ Y, v.1 ≠ u.1) (ao : Option Addr) (n c : Nat) (d : List Int) (hn : n = d.length) (hd : IAt w ao d) (hao : ∀ a, ao = some a → ¬ SB B Mp Mc Mn a.block) (hs : d.Pairwise (· < ·)) (hb : n ≤ 1000000) :
    Calls Tryz.prog 46 #[ptr B, kv u.1, .slice ao n c] w fun e w' => ThinPost w B Mp Mc Mn cap latest floor pins nw (thinT d u.1 X u Y) e w' := by
  obtain ⟨Kb, hKb⟩ : ∃ Kb, Kb = w.heap.size := ⟨_, rfl⟩
  obtain ⟨W1, hW1⟩ : ∃ W1, W1 = w.alloc (.cells #[.int .i64 u.1.1, .int .i64 u.1.2] 43) := ⟨_, rfl⟩
  have HB1 : Hid (Below w.heap.size w W1 ∧ W1.heap[Kb]? = some (.cells #[.int .i64 u.1.1, .int .i64 u.1.2] 43 (0, 0))) := by
    rw [hW1, hKb]
    exact ⟨(Below.refl _ _).alloc (Nat.le_refl _) _, heap_alloc_new _ _ rfl⟩
  have hA1 : BA W1.drew B Mp Mc Mn cap latest floor pins (X ++ u :: Y) nw := (h.kept HB1.out.1).same (fun _ _ => rfl)
  have hum : VIn u := by
    have h1 : (u, pv (nf f0 X u.1)) ∈ chg f0 (X ++ u :: Y) := by rw [chg_append]; simp [chg]
    exact h.mc.dm _ h1
  have hlk := kdN.look hA1.mn hum.1
  rw [hA1.newest, nf_last hY] at hlk
  obtain ⟨_, _, _, _, _, c5⟩ := hA1.cells
  have k1 : W1.drew.cell? ⟨Kb, 0, none⟩ = some (.int .i64 u.1.1) := by have h1 : W1.drew.heap[Kb]? = _ := HB1.out.2; simp [World.cell?, h1]
  have k2 : W1.drew.cell? ⟨Kb, 1, none⟩ = some (.int .i64 u.1.2) := by have h1 : W1.drew.heap[Kb]? = _ := HB1.out.2; simp [World.cell?, h1]
  have HAa : Hid (∀ o, BA (W1.alloc o).drew B Mp Mc Mn cap latest floor pins (X ++ u :: Y) nw) := fun o => ((h.kept HB1.out.1).kept ((Below.refl _ _).alloc (Nat.le_refl _) o)).same (fun _ _ => rfl)
  have hlka : ∀ o, (Instr.lookup 86 (.map (some Mn)) (kv u.1) false).run Tryz.prog (W1.alloc o).drew = .ok (pv u.2) (W1.alloc o).drew := fun o => by
    have h1 := kdN.look (HAa.out o).mn hum.1
    rw [(HAa.out o).newest, nf_last hY] at h1
    exact h1
  have c5a : ∀ o, (W1.alloc o).drew.cell? ⟨B, 5, none⟩ = some (.map (some Mn)) := fun o => (HAa.out o).cells.2.2.2.2.2
  have k1a : ∀ o, (W1.alloc o).drew.cell? ⟨Kb, 0, none⟩ = some (.int .i64 u.1.1) := fun o => by have h1 : (W1.alloc o).drew.heap[Kb]? = _ := (heap_alloc_old _ _ (blk_lt HB1.out.2)).trans HB1.out.2; simp [World.cell?, h1]
  have k2a : ∀ o, (W1.alloc o).drew.cell? ⟨Kb, 1, none⟩ = some (.int .i64 u.1.2) := fun o => by have h1 : (W1.alloc o).drew.heap[Kb]? = _ := (heap_alloc_old _ _ (blk_lt HB1.out.2)).trans HB1.out.2; simp [World.cell?, h1]
  have HA := hidC h
  have HY := hidC hY
  have HD : Hid (∀ W, Fr (SB B Mp Mc Mn) w W → IAt W ao d) := fun W hW => hd.fr hW hao
  have HS := hidC (And.intro hn hs)
  have HU := hidC hum
  clear h hY hd hs hn hA1 hum hao
  obtain ⟨⟨u1, u2⟩, u3, u4⟩ := u
  simp only at *
  go_enter Tryz.func46, Tryz.ntmps46
  go_wp2_with fail
  rw [← hW1, ← hKb]
  clear hW1 hKb
  go_region
  obtain ⟨W2, hW2⟩ : ∃ W2, W2 = (W1.alloc (.cells #[.int .i64 u1, .int .i64 u2, .int .i64 u3, .int .i64 u4] 118)).drew := ⟨_, rfl⟩
  obtain ⟨b6, hb6⟩ : ∃ b6, b6 = W1.heap.size := ⟨_, rfl⟩
  have HW2 : Hid (BA W2 B Mp Mc Mn cap latest floor pins (X ++ ((u1, u2), (u3, u4)) :: Y) nw ∧ VB W2 b6 ((u1, u2), (u3, u4)) ∧ W2.heap[Kb]? = some (.cells #[.int .i64 u1, .int .i64 u2] 43 (0, 0)) ∧ Fr (SB B Mp Mc Mn) w W2 ∧ W2.heap[Mn]? = w.heap[Mn]?) := by
    have hbA : Below W1.heap.size W1 W2 := by rw [hW2]; exact alloc_drew _ _
    refine ⟨by rw [hW2]; exact HAa.out _, ?_, (hbA.block _ (blk_lt HB1.out.2)).trans HB1.out.2, Fr.ofBelow (HB1.out.1.trans (hbA.mono HB1.out.1.size)), (HB1.out.1.trans (hbA.mono HB1.out.1.size)).block _ HA.out.mn.lt⟩
    rw [hW2, hb6]
    exact heap_alloc_new _ _ rfl
  rw [← hW2, ← hb6]
  obtain ⟨T, hT⟩ : ∃ T, T = thinT d (u1, u2) X ((u1, u2), (u3, u4)) Y := ⟨_, rfl⟩
  have HT := hidC hT
  have HNS : Hid (b6 ≠ Kb ∧ ¬ SB B Mp Mc Mn b6 ∧ ¬ SB B Mp Mc Mn Kb ∧ w.heap.size ≤ b6) := by
    have h1 := blk_lt HB1.out.2
    refine ⟨by omega, fun hS => ?_, fun hS => ?_, by have := HB1.out.1.size; omega⟩
    · have := HA.out.lt hS; have := HB1.out.1.size; omega
    · have hl := HA.out.lt hS
      have h3 : W1.heap[Kb]? = w.heap[Kb]? := HB1.out.1.block _ hl
      rcases hS with e | e | e | e
      · have := HA.out.bk; rw [← e, ← h3, HB1.out.2] at this; cases this
      · obtain ⟨_, _, h4, _⟩ := HA.out.mp.ex; rw [← e, ← h3, HB1.out.2] at h4; cases h4
      · obtain ⟨_, _, h4, _⟩ := HA.out.mc.ex; rw [← e, ← h3, HB1.out.2] at h4; cases h4
      · obtain ⟨_, _, h4, _⟩ := HA.out.mn.ex; rw [← e, ← h3, HB1.out.2] at h4; cases h4
  clear hW2 hb6 hT k1 k2 k1a k2a c5 c5a hlk hlka HAa HB1 HU
  go_wp2_with fail
  go_loopg [7] X.length (fun gk _ wr => ∃ (Xc Yc : List V4) (a3 a4 : Int), Xc.length = gk ∧ Hid (thinT d (u1, u2) Xc ((u1, u2), (a3, a4)) Yc = T ∧ BA wr B Mp Mc Mn cap latest floor pins (Xc ++ ((u1, u2), (a3, a4)) :: Yc) nw ∧ VB wr b6 ((u1, u2), (a3, a4)) ∧ wr.heap[Kb]? = some (.cells #[.int .i64 u1, .int .i64 u2] 43 (0, 0)) ∧ Fr (SB B Mp Mc Mn) w wr ∧ wr.heap[Mn]? = w.heap[Mn]?))
  case atStart => exact ⟨X, Y, u3, u4, rfl, HT.out.symm, HW2.out⟩
  case round =>
    clear HW2
    obtain ⟨Xc, Yc, a3, a4, hgk, HR⟩ := hrel
    obtain ⟨p1, p2, hp⟩ : ∃ p1 p2, nf f0 Xc (u1, u2) = (p1, p2) := ⟨_, _, rfl⟩
    have HPp := hidC hp
    have hnd : (Xc ++ ((u1, u2), (a3, a4)) :: Yc).Nodup := HR.out.2.1.nodup
    have hvi : VIn ((u1, u2), (a3, a4)) := by
      have h1 : ((((u1, u2), (a3, a4)) : V4), pv (nf f0 Xc (u1, u2))) ∈ chg f0 (Xc ++ ((u1, u2), (a3, a4)) :: Yc) := by rw [chg_append]; simp [chg]
      exact HR.out.2.1.mc.dm _ h1
    have HL : Hid (∀ W, Below wr.heap.size wr W → (Instr.lookup 85 (.map (some Mc)) (.agg #[.int .i64 u1, .int .i64 u2, .int .i64 a3, .int .i64 a4]) false).run Tryz.prog W = .ok (.agg #[.int .i64 p1, .int .i64 p2]) W ∧ W.cell? ⟨B, 4, none⟩ = some (.map (some Mc)) ∧ (W.cell? ⟨Kb, 0, none⟩ = some (.int .i64 u1) ∧ W.cell? ⟨Kb, 1, none⟩ = some (.int .i64 u2)) ∧ VB W b6 ((u1, u2), (a3, a4))) := fun W hW => by
      have hba := HR.out.2.1.kept hW
      have h1 := kdC.look hba.mc hvi
      rw [chg_at hnd, hp] at h1
      have h2 : W.heap[Kb]? = _ := (hW.block _ (blk_lt HR.out.2.2.2.1)).trans HR.out.2.2.2.1
      refine ⟨h1, hba.cells.2.2.2.2.1, ?_, (hW.block _ (blk_lt HR.out.2.2.1)).trans HR.out.2.2.1⟩
      constructor <;> simp [World.cell?, h2]
    obtain ⟨l1, l2, ⟨l3, l4⟩, l5⟩ := HL.out wr.drew (drew_below wr 1)
    obtain ⟨l6, l7, l8, l9⟩ := l5.cells
    have HLa : ∀ o, Below wr.heap.size wr (wr.alloc o).drew := fun o => alloc_drew wr o
    have m1 := fun o => (HL.out _ (HLa o)).1
    have m2 := fun o => (HL.out _ (HLa o)).2.1
    have m3 := fun o => (HL.out _ (HLa o)).2.2.1.1
    have m4 := fun o => (HL.out _ (HLa o)).2.2.1.2
    have m6 := fun o => (HL.out _ (HLa o)).2.2.2.cells.1
    have m7 := fun o => (HL.out _ (HLa o)).2.2.2.cells.2.1
    have m8 := fun o => (HL.out _ (HLa o)).2.2.2.cells.2.2.1
    have m9 := fun o => (HL.out _ (HLa o)).2.2.2.cells.2.2.2
    simp only at l6 l7 l8 l9 m6 m7 m8 m9
    clear hp hnd hvi l5 HLa
    go_wp2_with fail
    go_region
    obtain ⟨U, hU⟩ : ∃ U, U = (wr.alloc (.cells #[.int .i64 u1, .int .i64 u2, .int .i64 p1, .int .i64 p2] 118)).drew := ⟨_, rfl⟩
    obtain ⟨b7, hb7⟩ : ∃ b7, b7 = wr.heap.size := ⟨_, rfl⟩
    have HU : Hid (Below wr.heap.size wr U ∧ VB U b7 ((u1, u2), (p1, p2)) ∧ b7 ≠ b6 ∧ ¬ SB B Mp Mc Mn b7) := by
      have h1 := blk_lt HR.out.2.2.1
      refine ⟨by rw [hU]; exact alloc_drew _ _, by rw [hU, hb7]; exact heap_alloc_new _ _ rfl, by omega, fun hS => ?_⟩
      have := HR.out.2.1.lt hS
      omega
    rw [← hU, ← hb7]
    have HG : Hid (BA U B Mp Mc Mn cap latest floor pins (Xc ++ ((u1, u2), (a3, a4)) :: Yc) nw ∧ VB U b6 ((u1, u2), (a3, a4)) ∧ U.heap[Kb]? = some (.cells #[.int .i64 u1, .int .i64 u2] 43 (0, 0)) ∧ Fr (SB B Mp Mc Mn) w U ∧ U.heap[Mn]? = w.heap[Mn]?) := by
      have hb := HU.out.1
      exact ⟨HR.out.2.1.kept hb, (hb.block _ (blk_lt HR.out.2.2.1)).trans HR.out.2.2.1, (hb.block _ (blk_lt HR.out.2.2.2.1)).trans HR.out.2.2.2.1, HR.out.2.2.2.2.1.trans (Fr.ofBelow hb), (hb.block _ HR.out.2.1.mn.lt).trans HR.out.2.2.2.2.2⟩
    have HTc := hidC HR.out.1
    clear hU hb7 l1 l2 l3 l4 l6 l7 l8 l9 m1 m2 m3 m4 m6 m7 m8 m9 HL HR
    obtain ⟨q0, q1, q2, q3⟩ := HU.out.2.1.cells
    obtain ⟨r0, r1, r2, r3⟩ := HG.out.2.1.cells
    simp only at q0 q1 q2 q3 r0 r1 r2 r3
    by_cases hp0 : p1 = 0
    · subst hp0
      have HF : Hid (ThinPost w B Mp Mc Mn cap latest floor pins nw T (.returned (.tuple #[])) U) := by
        refine ⟨⟨_, rfl⟩, ?_, HG.out.2.2.2.1, HG.out.2.2.2.2⟩
        rw [← HTc.out, thinT_end (fun v hv e => ?_)]
        · exact HG.out.1
        · obtain ⟨A, x, M, hA, hx, hM⟩ := last_split Xc ⟨v, hv, e⟩
          have h1 : nf f0 Xc (u1, u2) = x.2 := by
            rw [hA, ← hx]
            exact nf_last (by rw [hx]; exact hM)
          have h2 := HG.out.1.pl x (by rw [hA]; simp)
          unfold PlOK at h2
          rw [← h1, HPp.out] at h2
          simp only at h2
          omega
      clear HG HU
      go_wp2
      go_end0
      rw [← HT.out]
      exact HF.out
    · have hp0b : (p1 == 0) = false := by simpa using hp0
      obtain ⟨A, v, M, hA, hv1, hM⟩ : ∃ A v M, Xc = A ++ v :: M ∧ v.1 = (u1, u2) ∧ ∀ x ∈ M, x.1 ≠ (u1, u2) := by
        refine last_split Xc (Classical.byContradiction fun hno => hp0 ?_)
        have h1 := nf_other Xc f0 (k := (u1, u2)) (fun x hx e => hno ⟨x, hx, e⟩)
        rw [HPp.out] at h1
        exact congrArg Prod.fst h1
      have hv2 : v.2 = (p1, p2) := by
        rw [← HPp.out, hA, ← hv1]
        exact (nf_last (by rw [hv1]; exact hM)).symm
      have hve : v = ((u1, u2), (p1, p2)) := Prod.ext hv1 hv2
      subst hve
      have HAM := hidC (And.intro hA hM)
      have HSn := hidC (seen_any U p1 a3 ao n c d HS.out.1 (HD.out U HG.out.2.2.2.1) HS.out.2 hb)
      have hgk2 : A.length < gk := by rw [← hgk, hA]; simp
      have hgk3 : (A ++ M).length < gk := by rw [← hgk, hA]; simp
      clear hA hM hv1 hv2 hgk
      go_wp2_with fail
      refine HSn.out.mono ?_
      rintro e w6 ⟨rfl, hw6⟩
      have hw6' := hw6.symm
      subst hw6'
      clear hw6 HSn
      cases hsn : seenN d p1 a3 with
      | true =>
        have f0' := HG.out.2.1.frozen 0
        have f1' := HG.out.2.1.frozen 1
        have f2' := HG.out.2.1.frozen 2
        have f3' := HG.out.2.1.frozen 3
        have HF : Hid (thinT d (u1, u2) A ((u1, u2), (p1, p2)) (M ++ ((u1, u2), (a3, a4)) :: Yc) = T ∧ BA (s4 U b6 ((u1, u2), (p1, p2))) B Mp Mc Mn cap latest floor pins (A ++ ((u1, u2), (p1, p2)) :: (M ++ ((u1, u2), (a3, a4)) :: Yc)) nw ∧ VB (s4 U b6 ((u1, u2), (p1, p2))) b6 ((u1, u2), (p1, p2)) ∧ (s4 U b6 ((u1, u2), (p1, p2))).heap[Kb]? = some (.cells #[.int .i64 u1, .int .i64 u2] 43 (0, 0)) ∧ Fr (SB B Mp Mc Mn) w (s4 U b6 ((u1, u2), (p1, p2))) ∧ (s4 U b6 ((u1, u2), (p1, p2))).heap[Mn]? = w.heap[Mn]?) := by
          refine ⟨?_, ?_, HG.out.2.1.four _, (s4_other _ _ _ HNS.out.1.symm).trans HG.out.2.2.1, ?_, (s4_other _ _ _ (fun e => HNS.out.2.1 (by rw [← show Mn = b6 from e]; exact .inr (.inr (.inr rfl))))).trans HG.out.2.2.2.2⟩
          · rw [← HTc.out, HAM.out.1]
            exact (thinT_keep HAM.out.2 rfl hsn).symm
          · have h1 := HG.out.1
            rw [HAM.out.1] at h1
            simp only [List.append_assoc, List.cons_append] at h1
            exact h1.same (fun k hk => s4_other _ _ _ (fun e => HNS.out.2.1 (e ▸ hk)))
          · have h6 := HNS.out.2.2.2
            exact (((HG.out.2.2.2.1.set _ _ (.inl h6)).set _ _ (.inl h6)).set _ _ (.inl h6)).set _ _ (.inl h6)
        clear HG HU HTc
        as_aux_lemma =>
          go_wp2
          go_roundg A.length
          case measure => exact hgk2
          case rel => exact ⟨A, M ++ ((u1, u2), (a3, a4)) :: Yc, p1, p2, rfl, HF.out⟩
      | false =>
        have h0 := HG.out.1
        rw [HAM.out.1] at h0
        simp only [List.append_assoc, List.cons_append] at h0
        have hAd : BA U.drew B Mp Mc Mn cap latest floor pins (A ++ ((u1, u2), (p1, p2)) :: (M ++ ((u1, u2), (a3, a4)) :: Yc)) nw := h0.same (fun _ _ => rfl)
        have hvi : VIn ((u1, u2), (p1, p2)) := by
          have h1 : ((((u1, u2), (p1, p2)) : V4), pv (nf f0 A (u1, u2))) ∈ chg f0 (A ++ ((u1, u2), (p1, p2)) :: (M ++ ((u1, u2), (a3, a4)) :: Yc)) := by rw [chg_append]; simp [chg]
          exact hAd.mc.dm _ h1
        have hlk := kdC.look hAd.mc hvi
        rw [chg_at hAd.nodup] at hlk
        obtain ⟨W5, hp5, hg5, W6, hd6, hg6, hA6⟩ := hAd.thinStep rfl HAM.out.2
        obtain ⟨_, _, _, _, t4, _⟩ := hAd.cells
        have hb5 : ∀ k, k < U.heap.size → k ≠ Mc → W5.heap[k]? = U.heap[k]? := fun k hk hne => hg5.block k hk (fun e => by cases e; exact hne rfl)
        have hz5 : U.heap.size ≤ W5.heap.size := hg5.size
        have hb6' : ∀ k, k < U.heap.size → k ≠ Mc → W6.heap[k]? = U.heap[k]? := fun k hk hne => (hg6.block k (by omega) (fun e => by cases e; exact hne rfl)).trans (hb5 k hk hne)
        have hBn := h0.Bne
        have t5 : W5.drew.cell? ⟨B, 4, none⟩ = some (.map (some Mc)) := by
          have h1 : W5.drew.heap[B]? = _ := (hb5 B (blk_lt h0.bk) hBn.2.1).trans h0.bk
          simp [World.cell?, h1]
        have hv5 : VB W5.drew b7 ((u1, u2), (p1, p2)) := (hb5 b7 (blk_lt HU.out.2.1) (fun e => HU.out.2.2.2 (e ▸ .inr (.inr (.inl rfl))))).trans HU.out.2.1
        obtain ⟨x0, x1, x2, x3⟩ := hv5.cells
        have q0' : U.drew.cell? ⟨b7, 0, none⟩ = _ := q0
        have q1' : U.drew.cell? ⟨b7, 1, none⟩ = _ := q1
        have q2' : U.drew.cell? ⟨b7, 2, none⟩ = _ := q2
        have q3' : U.drew.cell? ⟨b7, 3, none⟩ = _ := q3
        have r0' : U.drew.cell? ⟨b6, 0, none⟩ = _ := r0
        have r1' : U.drew.cell? ⟨b6, 1, none⟩ = _ := r1
        have r2' : U.drew.cell? ⟨b6, 2, none⟩ = _ := r2
        have r3' : U.drew.cell? ⟨b6, 3, none⟩ = _ := r3
        have HF : Hid (thinT d (u1, u2) (A ++ M) ((u1, u2), (a3, a4)) Yc = T ∧ BA W6 B Mp Mc Mn cap latest floor pins ((A ++ M) ++ ((u1, u2), (a3, a4)) :: Yc) nw ∧ VB W6 b6 ((u1, u2), (a3, a4)) ∧ W6.heap[Kb]? = some (.cells #[.int .i64 u1, .int .i64 u2] 43 (0, 0)) ∧ Fr (SB B Mp Mc Mn) w W6 ∧ W6.heap[Mn]? = w.heap[Mn]?) := by
          refine ⟨?_, by rw [List.append_assoc]; exact hA6, (hb6' b6 (blk_lt HG.out.2.1) (fun e => HNS.out.2.1 (e ▸ .inr (.inr (.inl rfl))))).trans HG.out.2.1, (hb6' Kb (blk_lt HG.out.2.2.1) (fun e => HNS.out.2.2.1 (e ▸ .inr (.inr (.inl rfl))))).trans HG.out.2.2.1, ?_, (hb6' Mn h0.mn.lt h0.ne.2.2.symm).trans HG.out.2.2.2.2⟩
          · rw [← HTc.out, HAM.out.1]
            exact (thinT_drop HAM.out.2 rfl hsn).symm
          · have f1 : Fr (SB B Mp Mc Mn) U U.drew := Fr.ofBelow (drew_below U 1)
            exact ((HG.out.2.2.2.1.trans f1).trans (Fr.ofGrown hg5 (.inr (.inr (.inl rfl))))).trans (Fr.ofGrown hg6 (.inr (.inr (.inl rfl))))
        clear HG HU HTc h0 hAd hvi hg5 hg6 hA6 hb5 hb6' hz5 hBn hv5 q0 q1 q2 q3 r0 r1 r2 r3
        simp only [ev] at hp5 hd6 hlk
        simp only at x0 x1 x2 x3
        generalize nf f0 A (u1, u2) = pa at *
        obtain ⟨pa1, pa2⟩ := pa
        simp only [Option.getD_some] at hlk
        go_wp2_with fail
        clear HA HY HD HS hsn hp0 hp0b HPp hgk2
        rename_i jj k1 a2 a1 l3 l2 l1 l0 rr k0 a0
        have Ha2 := hidC a2
        clear a2 l3 l2 l1 l0 rr
        go_region
        as_aux_lemma =>
          clear hlk hp5 t4 q0' q1' q2' q3' r0' r1' r2' r3'
          go_wp2_with fail
          go_region
          all_goals as_aux_lemma =>
            have a2 := Ha2.out
            clear Ha2
            go_wp2
            go_roundg (A ++ M).length
            case measure => exact hgk3
            case rel => exact ⟨A ++ M, Yc, a3, a4, rfl, HF.out⟩
end Go.Proofs.YtbmohlkcmhhpgaaGreat
