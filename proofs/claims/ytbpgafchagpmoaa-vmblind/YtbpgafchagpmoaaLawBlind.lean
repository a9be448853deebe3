/-
  VmBlind: THE WALK.
-/
import Derived.Test.YtbpgafchagpmoaaXBlind
import Derived.Test.YtbpgafchagpmoaaOpenCall
namespace Go.Proofs.Ytbpgafchagpmoaa
open Go.RowKit Go.Sort

def BRel (V : World) (R : List C) (Q : List Int) (nr : Nat) (x7 x8 : Value) (wr : World) : Prop := ∃ (k : Nat) (o7 : Option Addr) (c7 : Nat), k ≤ nr ∧ x7 = .slice o7 k c7 ∧ x8 = .int .i64 (k : Int) ∧ Hid (wr.ownsRow V.heap.size 64 2 (.slice o7 k c7) k (ccs (othL R Q k))) ∧ Hid (Go.RowKit.Below V.heap.size V wr)
/-- Run, with the rows of its effect -/
theorem run_own (w : World) (p : Nums) (ao : Option Addr) (n cap : Nat) (L : List K) (aa : Option Addr) (na ca : Nat) (A : List Int) (ra : Option Addr) (nr cr : Nat) (R : List C) (hin : CallIn w p ao n cap L aa na ca A ra nr cr R) :
    Calls Try.prog 10 #[pv p ao n cap, .slice aa na ca, .slice ra nr cr] w fun e w' => ∃ a1 k1 a2 k2, e = .returned (.tuple #[efR (runX p L A R) a1 k1 a2 k2, .int .i64 (newE p L A R)]) ∧ EfAt w' w.heap.size (.slice a1 (runX p L A R).out.length k1) (.slice a2 (runX p L A R).puts.length k2) (runX p L A R) ∧ Go.RowKit.Below w.heap.size w w' :=
  (run_any w p ao n cap L aa na ca A ra nr cr R hin).mono fun e w' ⟨a1, l1, k1, a2, l2, k2, he, hr, hb⟩ => by
    obtain ⟨_, rfl, rfl⟩ := hr.read
    exact ⟨a1, k1, a2, k2, he, hr, hb⟩
theorem ef_e6 {w : World} {base b : Nat} {a1 a2 : Option Addr} {k1 k2 : Nat} {x : Ef} (h : EfAt w base (.slice a1 x.out.length k1) (.slice a2 x.puts.length k2) x) (hb : b < base) (c0 c1 c2 c3 c4 c5 : Value) : Hid (EfR (e6 w b c0 c1 c2 c3 c4 c5) a1 a2 x) := by
  have h' : EfAt (e6 w b c0 c1 c2 c3 c4 c5) base (.slice a1 x.out.length k1) (.slice a2 x.puts.length k2) x :=
    ⟨ownsRow_same h.1 (fun g hg => heap_e6 w (by have := (World.ownsRow.lt h.1 g hg).1; omega) _ _ _ _ _ _), ownsRow_same h.2 (fun g hg => heap_e6 w (by have := (World.ownsRow.lt h.2 g hg).1; omega) _ _ _ _ _ _)⟩
  exact h'.read.1
theorem cell_one (b : Bool) (z : Int) : ∀ u ∈ ([.bool b, .int .i64 z] : List Value), u.oneCell' = true := by
  intro u hu
  simp only [List.mem_cons, List.not_mem_nil, or_false] at hu
  rcases hu with rfl | rfl <;> rfl
theorem blindStep {V W w' : World} {e size n : Nat} {v : Value} {xs : List Value} (hb : Go.RowKit.Below V.heap.size V W) (ho : W.ownsRow V.heap.size e size v n xs) (hg : W.grownBy w' v.ownBlock) : Hid (Go.RowKit.Below V.heap.size V w') :=
  hb.trans (grown_belowK hg (fun q hq => (World.ownsRow.lt ho q hq).1) hb.size)
set_option maxRecDepth 100000 in
set_option maxHeartbeats 8000000 in
theorem blind_walk (w : World) (p : Nums) (ao : Option Addr) (n cap : Nat) (L : List K) (aa : Option Addr) (na ca : Nat) (A : List Int) (ra : Option Addr) (nr cr : Nat) (R : List C) (hin : CallIn w p ao n cap L aa na ca A ra nr cr R) (hr : nr * 16 ≤ 140737488351232) (hnl : n ≤ 8796093021952)
    (va : Option Addr) (nv cv : Nat) (Q : List Int) (hva : SlIn w va nv cv (Q.map iv)) (hnv : nv = Q.length) :
    Calls Try.prog 7 #[callV p ao n cap aa na ca ra nr cr, .slice va nv cv] w fun e w' => e = .returned (.bool true) ∧ Go.RowKit.Below w.heap.size w w' := by
  have HIn : Hid (CallIn w p ao n cap L aa na ca A ra nr cr R) := hin
  have HQ0 : Hid (CellsAt w va (Q.map iv)) := hva.at_
  have HNv : Hid (nv = Q.length) := hnv
  have HB0 : Hid (Go.RowKit.Below w.heap.size w (w.alloc (cO p ao n cap aa na ca ra nr cr))) := (Below.refl _ _).alloc (Nat.le_refl _) _
  have HC0 : Hid (CBox (w.alloc (cO p ao n cap aa na ca ra nr cr)) w.heap.size p ao n cap aa na ca ra nr cr) := heap_alloc_new _ _ rfl
  clear hin hva hnv
  go_enter Try.func7, Try.ntmps7
  go_wp2_with fail
  refine (awake_any _).mono ?_
  rintro e w1 ⟨rfl, hb1⟩
  have HB1 : Hid (Go.RowKit.Below w.heap.size w w1) := HB0.out.trans (hb1.mono HB0.out.size)
  have HC1 : Hid (CBox w1 w.heap.size p ao n cap aa na ca ra nr cr) := HC0.out.kept hb1
  have HI1 : Hid (CallIn w1 p ao n cap L aa na ca A ra nr cr R) := HIn.out.kept HB1.out
  obtain ⟨x0, x1, x2, x3, x4, x5, x6⟩ := HC1.out.cells
  clear hb1 HB0 HC0
  go_wp2_with fail
  refine (run_use w1 p ao n cap L aa na ca A ra nr cr R HI1.out).mono ?_
  rintro e w2 ⟨a1, k1, a2, k2, rfl, he2, hb2⟩
  obtain ⟨x, hx⟩ : ∃ x, x = runX p L A R := ⟨_, rfl⟩
  rw [← hx] at he2 ⊢
  have HXe : Hid (x = runX p L A R) := hx
  have hbA : Go.RowKit.Below w2.heap.size w2 (w2.alloc (eQ x.commit x.code x.user a1 x.out.length k1 a2 x.puts.length k2 (x.steps : Int))) := (Below.refl _ _).alloc (Nat.le_refl _) _
  have HB2 : Hid (Go.RowKit.Below w.heap.size w (w2.alloc (eQ x.commit x.code x.user a1 x.out.length k1 a2 x.puts.length k2 (x.steps : Int)))) := (HB1.out.trans (hb2.mono HB1.out.size)).trans (hbA.mono (HB1.out.trans (hb2.mono HB1.out.size)).size)
  have HC2 : Hid (CBox (w2.alloc (eQ x.commit x.code x.user a1 x.out.length k1 a2 x.puts.length k2 (x.steps : Int))) w.heap.size p ao n cap aa na ca ra nr cr) := (HC1.out.kept hb2).kept hbA
  have HE2 : Hid (EfR (w2.alloc (eQ x.commit x.code x.user a1 x.out.length k1 a2 x.puts.length k2 (x.steps : Int))) a1 a2 x) := he2.grew hbA
  have HR2 : Hid (RE (w2.alloc (eQ x.commit x.code x.user a1 x.out.length k1 a2 x.puts.length k2 (x.steps : Int))) w2.heap.size (.bool x.commit) (.int .i64 x.code) (.int .i64 x.user) (.slice a1 x.out.length k1) (.slice a2 x.puts.length k2) (.int .i64 (x.steps : Int))) := RE.new _ _ _ _ _ _ _
  clear he2 hb2 hbA hx x0 x1 x2 x3 x4 x5 x6 HB1 HC1 HI1
  go_upto_region 4 with fail
  generalize w2.alloc (eQ x.commit x.code x.user a1 x.out.length k1 a2 x.puts.length k2 (x.steps : Int)) = V at *
  generalize w2.heap.size = b5 at *
  have HI2 : Hid (CallIn V p ao n cap L aa na ca A ra nr cr R) := HIn.out.kept HB2.out
  have HQ : Hid (CellsAt V va (Q.map iv)) := HQ0.out.below HB2.out
  have HLr : Hid (nr = R.length) := HI2.out.lr
  clear HIn HQ0
  obtain ⟨ne, hne⟩ : ∃ ne, ne = newE p L A R := ⟨_, rfl⟩
  rw [← hne]
  have HNe : Hid (ne = newE p L A R) := hne
  clear hne
  go_wp2_with fail
  go_loopw [7, 8] (fun x7 x8 wr => BRel V R Q nr x7 x8 wr) (fun _ x8 _ => nr - (intOf x8).toNat)
  case atStart => exact ⟨0, none, 0, by omega, rfl, rfl, World.ownsRow_nil _ _ _ _, Below.refl _ _⟩
  case round =>
    obtain ⟨k, o7, c7, hk, rfl, rfl, HO, HBk⟩ := hrel
    obtain ⟨x0, x1, x2, x3, x4, x5, x6⟩ := (HC2.out.kept HBk.out).cells
    by_cases hlt : k < nr
    · obtain ⟨rb, roff, rfl, d0, d1⟩ := (HI2.out.reads.at_.below HBk.out).cell k (by have := HLr.out; omega)
      obtain ⟨i0, hi, hz0, hz1, hz2⟩ := info_parts info_cell
      have HSn : Hid (ccs (othL R Q (k + 1)) = ccs (othL R Q k) ++ ccs [othC Q k (rd R k)]) := by show _ = _; rw [oth_snoc, ccs_append]
      have HC : Hid (∀ (b : Bool) (z : Int), othC Q k (rd R k) = (b, z) → ∀ (w' : World) (v' : Value), w'.ownsRow V.heap.size 64 2 v' (k + 1) (ccs (othL R Q k) ++ [.bool b, .int .i64 z]) → ∃ o c, v' = .slice o (k + 1) c ∧ Hid (w'.ownsRow V.heap.size 64 2 (.slice o (k + 1) c) (k + 1) (ccs (othL R Q (k + 1))))) := fun b z h w' v' ho => by
        obtain ⟨o, c, rfl, _⟩ := own_slice ho
        refine ⟨o, c, rfl, ?_⟩
        show World.ownsRow _ _ _ _ _ _ _
        rw [HSn.out, h]; exact ho
      have HCo : Hid (∀ (b : Bool) (z : Int), (rd R k).1 = b → (rd R k).2 = z → (b = true ∨ nv = 0) → othC Q k (rd R k) = (b, z)) := fun b z h1 h2 h3 => by
        unfold othC
        rw [if_neg (by rw [h1, ← HNv.out]; rcases h3 with h3 | h3 <;> simp [h3]), ← h1, ← h2]
      have HCv : Hid ((rd R k).1 = false → 0 < nv → othC Q k (rd R k) = (false, Q.getD (k % nv) 0)) := fun h1 h2 => by
        unfold othC
        rw [if_pos ⟨h1, by rw [← HNv.out]; exact h2⟩, ← HNv.out]
      have HMx : Hid (k + 1 ≤ maxLen ∧ (k + 1) * 16 ≤ 140737488355328) := ⟨by unfold maxLen; omega, by omega⟩
      have HSrc : Hid (∀ (o : Obj) (b : Bool) (z : Int) (j : Nat) (u : Value), ([Value.bool b, .int .i64 z] : List Value)[j]? = some u → ((wr.alloc o).alloc (.cells #[.bool b, .int .i64 z] 64)).cell? ((⟨wr.heap.size + 1, 0, none⟩ : Addr).add j) = some u) := fun o b z j u hu => by
        have := cell_src (wr.alloc o) b z j u hu
        simpa using this
      have HBs : Hid (∀ o o', Go.RowKit.Below V.heap.size V ((wr.alloc o).alloc o')) := fun o o' => HBk.out.trans ((((Below.refl _ _).alloc (Nat.le_refl _) _).alloc (by simp) _).mono HBk.out.size)
      clear HSn
      cases hb : (rd R k).1 with
      | true =>
        rw [hb] at d0
        obtain ⟨z, hz⟩ : ∃ z, (rd R k).2 = z := ⟨_, rfl⟩
        rw [hz] at d1
        have HCc : Hid (othC Q k (rd R k) = (true, z)) := HCo.out true z hb hz (.inl rfl)
        clear HCo HCv hb hz
        go_wp2_with (at_builtin; refine wpList_append_gen rfl _ _ 26 64 i0 (.agg #[.bool false, .int .i64 0]) 2 16 Try.underlying26 hi hz0 hz1 hz2 rfl (by decide) rfl V.heap.size (.slice o7 k c7) k (ccs (othL R Q k)) rfl ((HO.out.alloc _).alloc _) ⟨_, 0, none⟩ 1 1 [.bool true, .int .i64 z] rfl rfl (HSrc.out _ _ _) (cell_one _ _) HMx.out.1 HMx.out.2 (HBs.out _ _).size ?_; intro v' w' h1 h2; obtain ⟨o8, c8, rfl, HO8⟩ := HC.out true z HCc.out w' v' h1; have HB8 := blindStep (HBs.out _ _) ((HO.out.alloc _).alloc _) h2; clear h1 h2)
        go_roundw
        case rel => exact ⟨k + 1, o8, c8, by omega, rfl, by go_num, HO8, HB8⟩
        case measure => simp [intOf]; omega
      | false =>
        rw [hb] at d0
        by_cases hv0 : nv = 0
        · obtain ⟨z, hz⟩ : ∃ z, (rd R k).2 = z := ⟨_, rfl⟩
          rw [hz] at d1
          have HCc : Hid (othC Q k (rd R k) = (false, z)) := HCo.out false z hb hz (.inr hv0)
          have hv1 : ¬ (0 : Int) < (nv : Int) := by omega
          clear HCo HCv hb hz
          go_wp2_with (at_builtin; refine wpList_append_gen rfl _ _ 26 64 i0 (.agg #[.bool false, .int .i64 0]) 2 16 Try.underlying26 hi hz0 hz1 hz2 rfl (by decide) rfl V.heap.size (.slice o7 k c7) k (ccs (othL R Q k)) rfl ((HO.out.alloc _).alloc _) ⟨_, 0, none⟩ 1 1 [.bool false, .int .i64 z] rfl rfl (HSrc.out _ _ _) (cell_one _ _) HMx.out.1 HMx.out.2 (HBs.out _ _).size ?_; intro v' w' h1 h2; obtain ⟨o8, c8, rfl, HO8⟩ := HC.out false z HCc.out w' v' h1; have HB8 := blindStep (HBs.out _ _) ((HO.out.alloc _).alloc _) h2; clear h1 h2)
          go_roundw
          case rel => exact ⟨k + 1, o8, c8, by omega, rfl, by go_num, HO8, HB8⟩
          case measure => simp [intOf]; omega
        · have hv1 : (0 : Int) < (nv : Int) := by omega
          have hv2 : ((nv : Int) == 0) = false := by simp; omega
          have hv3 : ¬ (nv : Int) = 0 := by omega
          have hmd : (k : Int).tmod (nv : Int) = ((k % nv : Nat) : Int) := rfl
          have hml : k % nv < nv := Nat.mod_lt _ (by omega)
          have HCc : Hid (othC Q k (rd R k) = (false, Q.getD (k % nv) 0)) := HCv.out hb (by omega)
          obtain ⟨vb, voff, rfl, q0⟩ := (HQ.out.below HBk.out).get (k % nv) (by rw [← HNv.out]; exact hml)
          generalize Q.getD (k % nv) 0 = z at *
          generalize k % nv = kv at *
          generalize (rd R k).2 = z0 at *
          have q0' := Lib.cell?_alloc_some (.cells #[.bool false, .int .i64 z0] 64) q0
          clear HCo HCv hb
          go_wp2_with (at_builtin; refine wpList_append_gen rfl _ _ 26 64 i0 (.agg #[.bool false, .int .i64 0]) 2 16 Try.underlying26 hi hz0 hz1 hz2 rfl (by decide) rfl V.heap.size (.slice o7 k c7) k (ccs (othL R Q k)) rfl ((HO.out.alloc _).alloc _) ⟨_, 0, none⟩ 1 1 [.bool false, .int .i64 z] rfl rfl (HSrc.out _ _ _) (cell_one _ _) HMx.out.1 HMx.out.2 (HBs.out _ _).size ?_; intro v' w' h1 h2; obtain ⟨o8, c8, rfl, HO8⟩ := HC.out false z HCc.out w' v' h1; have HB8 := blindStep (HBs.out _ _) ((HO.out.alloc _).alloc _) h2; clear h1 h2)
          go_roundw
          case rel => exact ⟨k + 1, o8, c8, by omega, rfl, by go_num, HO8, HB8⟩
          case measure => simp [intOf]; omega
    · obtain rfl : k = nr := by omega
      have HLo : Hid (k = (othL R Q k).length) := (oth_length R Q k).symm
      have hnl7 : o7 = none → k = 0 ∧ c7 = 0 := fun e => by
        have h1 := HO.out
        rw [e] at h1
        obtain ⟨_, ⟨h2, h3⟩ | ⟨g, cap', cur, e1, _⟩⟩ := h1
        · simp only [Value.slice.injEq] at h2; exact ⟨h3, h2.2.2⟩
        · cases e1
      have hal : Alike R (othL R Q k) := by have := oth_alike R Q; rw [← HLr.out] at this; exact this
      have HI3 : Hid (CallIn wr p ao n cap L aa na ca A o7 k c7 (othL R Q k)) := ⟨HI2.out.nin, HI2.out.keys.kept HBk.out, HI2.out.ln, HI2.out.cnil, ⟨HI2.out.args.at_.below HBk.out, HI2.out.args.nil⟩, HI2.out.la, ⟨own_read HO.out, hnl7⟩, HLo.out⟩
      have HR3 := run_use wr p ao n cap L aa na ca A o7 k c7 (othL R Q k) HI3.out
      rw [runX_alike hal, newE_len hal.len, ← HXe.out, ← HNe.out] at HR3
      have HSz : Hid (ne = 0 → x.out.length ≤ 1000000 ∧ x.puts.length ≤ 1000000) := fun h => by
        have hm := ends_math (show newE p L A R = 0 by rw [← HNe.out]; exact h)
        rw [HXe.out]; exact ⟨Nat.le_trans hm.2.2.1 (by omega), Nat.le_trans hm.2.2.2.1 (by omega)⟩
      have HSz' : Hid (x.out.length ≤ 1000000 ∧ x.puts.length ≤ 1000000) := by
        by_cases h : ne = 0
        · exact HSz.out h
        · have : x = zeroEf := by rw [HXe.out]; exact if_pos (by rw [← HNe.out]; exact h)
          rw [this]; exact ⟨by decide, by decide⟩
      have Hnl7 : Hid (o7 = none → k = 0 ∧ c7 = 0) := hnl7
      clear hnl7 hal hlt
      go_wp2_with fail
      refine HR3.mono ?_
      rintro e w3 ⟨e1, l1, e2, l2, rfl, he3, hb3⟩
      have hbA : Go.RowKit.Below w3.heap.size w3 (w3.alloc (eQ x.commit x.code x.user e1 x.out.length l1 e2 x.puts.length l2 (x.steps : Int))) := (Below.refl _ _).alloc (Nat.le_refl _) _
      have HB3 : Hid (Go.RowKit.Below wr.heap.size wr (w3.alloc (eQ x.commit x.code x.user e1 x.out.length l1 e2 x.puts.length l2 (x.steps : Int)))) := hb3.trans (hbA.mono hb3.size)
      have HE3 : Hid (EfR (w3.alloc (eQ x.commit x.code x.user e1 x.out.length l1 e2 x.puts.length l2 (x.steps : Int))) e1 e2 x) := he3.grew hbA
      have HT : Hid (RE (w3.alloc (eQ x.commit x.code x.user e1 x.out.length l1 e2 x.puts.length l2 (x.steps : Int))) w3.heap.size (.bool x.commit) (.int .i64 x.code) (.int .i64 x.user) (.slice e1 x.out.length l1) (.slice e2 x.puts.length l2) (.int .i64 (x.steps : Int))) := RE.new _ _ _ _ _ _ _
      have HTg : Hid (V.heap.size ≤ w3.heap.size) := Nat.le_trans HBk.out.size hb3.size
      clear he3 hb3 hbA HR3 x0 x1 x2 x3 x4 x5 x6
      go_upto_region 13 with fail
      generalize w3.alloc (eQ x.commit x.code x.user e1 x.out.length l1 e2 x.puts.length l2 (x.steps : Int)) = W4 at *
      generalize w3.heap.size = b10 at *
      have HB4 : Hid (Go.RowKit.Below V.heap.size V W4) := HBk.out.trans (HB3.out.mono HBk.out.size)
      obtain ⟨r0, r1, r2, r3, r4, r5⟩ := (HR2.out.below HB4.out HR2.out.lt).cells
      obtain ⟨t0, t1, t2, t3, t4, t5⟩ := HT.out.cells
      have HSe := sameEffect_eq W4 x a1 a2 e1 e2 k1 k2 l1 l2 (HE2.out.grew HB4.out) HE3.out HSz'.out.1 HSz'.out.2
      go_wp2_with fail
      refine HSe.mono ?_
      rintro e w5 ⟨rfl, hb5⟩
      have HB5 : Hid (Go.RowKit.Below V.heap.size V w5) := HB4.out.trans (hb5.mono HB4.out.size)
      have HT5 : Hid (RE w5 b10 (.bool x.commit) (.int .i64 x.code) (.int .i64 x.user) (.slice e1 x.out.length l1) (.slice e2 x.puts.length l2) (.int .i64 (x.steps : Int))) := HT.out.below hb5 HT.out.lt
      have HO5 : Hid (w5.ownsRow V.heap.size 64 2 (.slice o7 k c7) k (ccs (othL R Q k))) := ownsRow_same HO.out (fun g hg => by
        have := (World.ownsRow.lt HO.out g hg).2
        rw [hb5.block g (Nat.lt_of_lt_of_le this HB3.out.size), HB3.out.block g this])
      have HBw : Hid (Go.RowKit.Below w.heap.size w w5) := HB2.out.trans (HB5.out.mono HB2.out.size)
      clear hb5 HSe r0 r1 r2 r3 r4 r5 t0 t1 t2 t3 t4 t5 HB4 HB3 HT HE3 HO HBk HI3
      by_cases hne : ne = 0
      · subst hne
        have hN0 : newE p L A R = 0 := HNe.out.symm
        obtain ⟨y0, y1, y2, y3, y4, y5, y6⟩ := (HC2.out.kept HB5.out).cells
        clear HSz HNe
        go_wp2_with fail
        go_loopw [12] (fun x12 w6 => ∃ j : Nat, j ≤ n ∧ x12 = .int .i64 (j : Int) ∧ Hid (∀ i, i < j → (cd L i).1 ≠ 7 ∧ (cd L i).1 ≠ 8 ∧ (cd L i).1 ≠ 9) ∧ Hid (w6 = w5)) (fun x12 _ => n - (intOf x12).toNat)
        case atStart => exact ⟨0, by omega, rfl, fun i hi => absurd hi (by omega), rfl⟩
        case round =>
          obtain ⟨j, hj, rfl, HNr, hw6⟩ := hrel
          have hw6' := hw6.out
          subst hw6'
          by_cases hjn : j < n
          · obtain ⟨kb, koff, rfl, c0, c1⟩ := (HI2.out.keys.kept HB5.out).get j (by have := HI2.out.ln; omega)
            have HNj : Hid ((cd L j).1 ≠ 7 ∧ (cd L j).1 ≠ 8 ∧ (cd L j).1 ≠ 9 → ∀ i, i < j + 1 → (cd L i).1 ≠ 7 ∧ (cd L i).1 ≠ 8 ∧ (cd L i).1 ≠ 9) := fun h i hi => by
              by_cases e : i = j
              · rw [e]; exact h
              · exact HNr.out i (by omega)
            generalize (cd L j).1 = op at *
            generalize (cd L j).2 = opa at *
            by_cases h7 : op = 7
            · subst h7
              go_wp2
              go_ret
              exact ⟨rfl, HBw.out⟩
            · have g7 : (op == 7) = false := by simpa using h7
              by_cases h8 : op = 8
              · subst h8
                go_wp2
                go_ret
                exact ⟨rfl, HBw.out⟩
              · have g8 : (op == 8) = false := by simpa using h8
                by_cases h9 : op = 9
                · subst h9
                  go_wp2
                  go_ret
                  exact ⟨rfl, HBw.out⟩
                · have g9 : (op == 9) = false := by simpa using h9
                  have HNj' : Hid (∀ i, i < j + 1 → (cd L i).1 ≠ 7 ∧ (cd L i).1 ≠ 8 ∧ (cd L i).1 ≠ 9) := HNj.out ⟨h7, h8, h9⟩
                  clear h7 h8 h9 HNj
                  go_wp2
                  go_roundw
                  case rel => exact ⟨j + 1, by omega, by go_num, HNj', trivial⟩
                  case measure => simp [intOf]; omega
          · obtain rfl : j = n := by omega
            have HNR : Hid (NoRead L) := by have := HNr.out; rw [HI2.out.ln] at this; exact this
            clear HNr hjn
            go_wp2_with fail
            go_loopw [14] (fun x14 w6 => ∃ i : Nat, i ≤ k ∧ x14 = .int .i64 (i : Int) ∧ Hid (w6.ownsRow V.heap.size 64 2 (.slice o7 k c7) k (ccs (flipL (othL R Q k) i))) ∧ Hid (Go.RowKit.Below V.heap.size V w6) ∧ Hid (RE w6 b10 (.bool x.commit) (.int .i64 x.code) (.int .i64 x.user) (.slice e1 x.out.length l1) (.slice e2 x.puts.length l2) (.int .i64 (x.steps : Int)))) (fun x14 _ => k - (intOf x14).toNat)
            case atStart => exact ⟨0, by omega, rfl, by rw [flip_zero]; exact HO5, HB5, HT5⟩
            case round =>
              clear y0 y1 y2 y3 y4 y5 y6
              obtain ⟨i, hi, rfl, HOi, HBi, HTi⟩ := hrel
              by_cases hik : i < k
              · obtain ⟨g, cc, hg7, hcc⟩ := own_some HOi.out (by omega)
                simp only [Value.slice.injEq] at hg7
                obtain ⟨rfl, _, rfl⟩ := hg7
                obtain ⟨dd0, dd1⟩ := ccs_at (flipL (othL R Q k) i) i (by rw [flip_length, oth_length]; exact hik)
                have d0 := World.ownsRow.cellAt HOi.out (i * 2) (by omega)
                have d1 := World.ownsRow.cellAt HOi.out (i * 2 + 1) (by omega)
                rw [dd0] at d0
                rw [dd1] at d1
                have f0 := World.ownsRow.frozenAt HOi.out (i * 2)
                have f1 := World.ownsRow.frozenAt HOi.out (i * 2 + 1)
                have HGb : Hid (V.heap.size ≤ g) := (World.ownsRow.lt HOi.out g rfl).1
                have HGn : Hid (b10 ≠ g) := fun e => own_ne HOi.out HTi.out (by decide) (g := g) rfl e.symm
                have HSt : Hid (∀ (b : Bool) (z : Int), rd (flipL (othL R Q k) i) i = (b, z) → ((wr.setCell ⟨g, i * 2, none⟩ (.bool (!b))).setCell ⟨g, i * 2 + 1, none⟩ (.int .i64 (wrap64 (z - 1)))).drew.ownsRow V.heap.size 64 2 (.slice (some ⟨g, 0, none⟩) k c7) k (ccs (flipL (othL R Q k) (i + 1)))) := fun b z h => by
                  have h1 := (World.ownsRow.stored (World.ownsRow.stored HOi.out (i * 2) (.bool (!b))).1 (i * 2 + 1) (.int .i64 (wrap64 (z - 1)))).1
                  rw [ccs_set _ i (!b, wrap64 (z - 1))] at h1
                  have h2 := flip_step (othL R Q k) i (by rw [oth_length]; exact hik)
                  rw [h] at h2
                  rw [← h2]
                  exact ownsRow_same h1 (fun _ _ => rfl)
                have HBs : Hid (∀ v1 v2, Go.RowKit.Below V.heap.size V ((wr.setCell ⟨g, i * 2, none⟩ v1).setCell ⟨g, i * 2 + 1, none⟩ v2).drew) := fun v1 v2 => by
                  have h := HBi.out.trans ((below_setCell (w := wr) ⟨g, i * 2, none⟩ v1 HGb.out).trans (below_setCell ⟨g, i * 2 + 1, none⟩ v2 HGb.out))
                  exact ⟨h.os, h.tape, h.output, h.size, h.block⟩
                have HTs : Hid (∀ v1 v2, RE ((wr.setCell ⟨g, i * 2, none⟩ v1).setCell ⟨g, i * 2 + 1, none⟩ v2).drew b10 (.bool x.commit) (.int .i64 x.code) (.int .i64 x.user) (.slice e1 x.out.length l1) (.slice e2 x.puts.length l2) (.int .i64 (x.steps : Int))) := fun v1 v2 => by
                  show ((wr.setCell ⟨g, i * 2, none⟩ v1).setCell ⟨g, i * 2 + 1, none⟩ v2).heap[b10]? = _
                  rw [heap_setCell_other _ _ _ _ HGn.out, heap_setCell_other _ _ _ _ HGn.out]; exact HTi.out
                obtain ⟨bz, hbz⟩ : ∃ bz, bz = rd (flipL (othL R Q k) i) i := ⟨_, rfl⟩
                rw [← hbz] at d0 d1
                obtain ⟨b, z⟩ := bz
                have HS1 := HSt.out b z hbz.symm
                have HS1' : Hid (((wr.setCell ⟨g, i * 2, none⟩ (.bool (!b))).setCell ⟨g, i * 2 + 1, none⟩ (.int .i64 (wrap64 (z - 1)))).drew.ownsRow V.heap.size 64 2 (.slice (some ⟨g, 0, none⟩) k c7) k (ccs (flipL (othL R Q k) (i + 1)))) := HS1
                simp only at d0 d1
                clear HSt hbz dd0 dd1 HS1
                go_wp2_with fail
                go_region
                all_goals (
                  go_wp2
                  go_roundw
                  case rel => exact ⟨i + 1, by omega, by go_num, HS1', HBs.out _ _, HTs.out _ _⟩
                  case measure => simp [intOf]; omega)
              · obtain rfl : i = k := by omega
                obtain ⟨y0, y1, y2, y3, y4, y5, y6⟩ := (HC2.out.kept HBi.out).cells
                have hlen : (flipL (othL R Q i) i).length = R.length := by rw [flip_length, oth_length]; exact HLr.out
                have HI7 : Hid (CallIn wr p ao j cap L aa na ca A o7 i c7 (flipL (othL R Q i) i)) := ⟨HI2.out.nin, HI2.out.keys.kept HBi.out, HI2.out.ln, HI2.out.cnil, ⟨HI2.out.args.at_.below HBi.out, HI2.out.args.nil⟩, HI2.out.la, ⟨own_read HOi.out, Hnl7.out⟩, by rw [hlen]; exact HLr.out⟩
                have HR7 := run_own wr p ao j cap L aa na ca A o7 i c7 (flipL (othL R Q i) i) HI7.out
                rw [runX_noread HNR.out p A hlen, newE_len hlen, ← HXe.out, hN0] at HR7
                clear hlen HOi hik
                go_wp2_with fail
                refine HR7.mono ?_
                rintro e w7 ⟨c1, m1, c2, m2, rfl, he7, hb7⟩
                have HB7 : Hid (Go.RowKit.Below V.heap.size V w7) := HBi.out.trans (hb7.mono HBi.out.size)
                have HT7 : Hid (RE w7 b10 (.bool x.commit) (.int .i64 x.code) (.int .i64 x.user) (.slice e1 x.out.length l1) (.slice e2 x.puts.length l2) (.int .i64 (x.steps : Int))) := HTi.out.below hb7 HTi.out.lt
                obtain ⟨t0, t1, t2, t3, t4, t5⟩ := HT7.out.cells
                have f0 := HT7.out.frozen 0
                have f1 := HT7.out.frozen 1
                have f2 := HT7.out.frozen 2
                have f3 := HT7.out.frozen 3
                have f4 := HT7.out.frozen 4
                have f5 := HT7.out.frozen 5
                have HE6 : Hid (RE (e6 w7 b10 (.bool x.commit) (.int .i64 x.code) (.int .i64 x.user) (.slice c1 x.out.length m1) (.slice c2 x.puts.length m2) (.int .i64 (x.steps : Int))) b10 (.bool x.commit) (.int .i64 x.code) (.int .i64 x.user) (.slice c1 x.out.length m1) (.slice c2 x.puts.length m2) (.int .i64 (x.steps : Int))) := HT7.out.six _ _ _ _ _ _
                have HB8 : Hid (Go.RowKit.Below V.heap.size V (e6 w7 b10 (.bool x.commit) (.int .i64 x.code) (.int .i64 x.user) (.slice c1 x.out.length m1) (.slice c2 x.puts.length m2) (.int .i64 (x.steps : Int)))) := below_e6 HB7.out HTg.out _ _ _ _ _ _
                have HE8 : Hid (EfR (e6 w7 b10 (.bool x.commit) (.int .i64 x.code) (.int .i64 x.user) (.slice c1 x.out.length m1) (.slice c2 x.puts.length m2) (.int .i64 (x.steps : Int))) c1 c2 x) := ef_e6 he7 HTi.out.lt _ _ _ _ _ _
                go_upto_region 28 with fail
                unfold e6 at HE6 HB8 HE8
                generalize (((((w7.setCell ⟨b10, 0, none⟩ (.bool x.commit)).setCell ⟨b10, 1, none⟩ (.int .i64 x.code)).setCell ⟨b10, 2, none⟩ (.int .i64 x.user)).setCell ⟨b10, 3, none⟩ (.slice c1 x.out.length m1)).setCell ⟨b10, 4, none⟩ (.slice c2 x.puts.length m2)).setCell ⟨b10, 5, none⟩ (.int .i64 (x.steps : Int)) = W8 at *
                clear t0 t1 t2 t3 t4 t5 f0 f1 f2 f3 f4 f5 y0 y1 y2 y3 y4 y5 y6
                obtain ⟨r0, r1, r2, r3, r4, r5⟩ := (HR2.out.below HB8.out HR2.out.lt).cells
                obtain ⟨t0, t1, t2, t3, t4, t5⟩ := HE6.out.cells
                have HSe := sameEffect_eq W8 x a1 a2 c1 c2 k1 k2 m1 m2 (HE2.out.grew HB8.out) HE8.out HSz'.out.1 HSz'.out.2
                have HB9 : Hid (Go.RowKit.Below w.heap.size w W8) := HB2.out.trans (HB8.out.mono HB2.out.size)
                go_wp2_with fail
                refine HSe.mono ?_
                rintro e w9 ⟨rfl, hb9⟩
                have HBf : Hid (Go.RowKit.Below w.heap.size w w9) := HB9.out.trans (hb9.mono HB9.out.size)
                clear hb9 HSe
                go_wp2
                go_ret
                exact ⟨rfl, HBf.out⟩
      · have hne' : (ne != 0) = true := by simpa using hne
        clear HSz HNe
        go_wp2
        go_ret
        exact ⟨rfl, HBw.out⟩
end Go.Proofs.Ytbpgafchagpmoaa
