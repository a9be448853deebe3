import Derived.Test.YtkjmeknaedapjaaDoorK14
import Derived.Laws.Cover3
/-
  THE WALK OF layer 4's lent.
-/
namespace Go.Proofs.YtkjmeknaedapjaaDoor
open Go.RowKit Go.Sort

theorem run_eqNilP (ao : Option Addr) (n c : Nat) (w : World) : (binOp .eql 22 (.slice ao n c) (.slice none 0 0)).run Tryd.prog w = .ok (.bool ao.isNone) w := by
  simp only [binOp]
  simp [run_equal_slice_nil w 22 43 ao n c Tryd.underlying22]
theorem run_eqNilI (ao : Option Addr) (n c : Nat) (w : World) : (binOp .eql 39 (.slice ao n c) (.slice none 0 0)).run Tryd.prog w = .ok (.bool ao.isNone) w := by
  simp only [binOp]
  simp [run_equal_slice_nil w 39 87 ao n c Tryd.underlying39]
def LentPost (w : World) (ao : Option Addr) (n : Nat) (Ps : List Pr) (e : Ending) (w' : World) : Prop :=
  (ao = none ∧ e = .returned (.slice none 0 0) ∧ w' = w) ∨ (ao ≠ none ∧ ∃ Qs, e = .returned (.slice (some ⟨w.heap.size, 0, none⟩) n (n + 3)) ∧ LT w w' n n Ps Qs)

set_option maxRecDepth 100000 in
set_option maxHeartbeats 2000000 in
theorem lent_any (w : World) (ao : Option Addr) (n cap : Nat) (Ps : List Pr) (h : LibAt w ao Ps) (hn : n = Ps.length) (hm : n ≤ 100000) (hx : ∀ x ∈ Ps, x.n ≤ 100000) :
    Calls Tryd.prog 17 #[.slice ao n cap] w fun e w' => LentPost w ao n Ps e w' := by
  have H : Hid (LibAt w ao Ps) := h
  have HN : Hid (n = Ps.length) := hn
  have HM : Hid (∀ x ∈ Ps, x.n ≤ 100000) := hx
  clear h hn hx
  cases ao with
  | none =>
    have HP : Hid (LentPost w none n Ps (.returned (.slice none 0 0)) w) := .inl ⟨rfl, rfl, rfl⟩
    have hnil := run_eqNilP none n cap
    go_enter Tryd.func17, Tryd.ntmps17
    go_wp2
    go_ret
    exact HP.out
  | some a =>
  have hnil := run_eqNilP (some a) n cap
  have hmk := make_procs (n + 3) ((n : Int) + 3) (by omega) (by omega)
  go_enter Tryd.func17, Tryd.ntmps17
  go_upto_region 4 with fail
  have HR0 : Hid (L1 w (w.alloc (.cells (prcs (List.replicate (n + 3) prD)).toArray 43)) n 0 (List.replicate (n + 3) prD)) := ⟨heap_alloc_new _ _ rfl, by simp, (Below.refl _ _).alloc (Nat.le_refl _) _, fun i hi => by omega⟩
  generalize w.alloc (.cells (prcs (List.replicate (n + 3) prD)).toArray 43) = W0 at *
  clear hmk hnil
  go_wp2_with fail
  go_loopw [4] (fun x wr => ∃ k : Nat, k ≤ n + 3 ∧ x = .int .i64 (k : Int) ∧ ∃ Qs, Hid (L1 w wr n k Qs)) (fun x _ => n + 3 - (intOf x).toNat)
  case atStart => exact ⟨0, Nat.zero_le _, rfl, _, HR0⟩
  case round =>
    clear HR0
    obtain ⟨k, hk, rfl, Qs, HQ⟩ := hrel
    by_cases hlt : k < n + 3
    · have hlti : (k : Int) < (n : Int) + 3 := by omega
      obtain ⟨_, _, e, s0, s1, s2, s3, s4, s5⟩ := HQ.out.row.procs.get k (by have := HQ.out.len; omega)
      cases e
      simp only [Nat.zero_add] at s0 s1 s2 s3 s4 s5
      have f0 := HQ.out.row.frozen (k * 6)
      have f1 := HQ.out.row.frozen (k * 6 + 1)
      have f2 := HQ.out.row.frozen (k * 6 + 2)
      have f3 := HQ.out.row.frozen (k * 6 + 3)
      have f4 := HQ.out.row.frozen (k * 6 + 4)
      have f5 := HQ.out.row.frozen (k * 6 + 5)
      obtain ⟨Qs', hp⟩ := HQ.out.put hlt
      have HP : Hid (L1 w _ n (k + 1) Qs') := hp
      clear hp
      go_wp2_with fail
      exact ⟨⟨k + 1, by omega, by go_num, Qs', HP⟩, by simp [intOf]; omega⟩
    · obtain rfl : k = n + 3 := by omega
      have HT0 : Hid (LT w wr n 0 Ps Qs) := HQ.out.fin
      clear HQ hlt hk
      go_wp2_with fail
      generalize wr = wx at *
      go_loopw [5] (fun x wr => ∃ k : Nat, k ≤ n ∧ x = .int .i64 (k : Int) ∧ ∃ Qs, Hid (LT w wr n k Ps Qs)) (fun x _ => n - (intOf x).toNat)
      case atStart => exact ⟨0, Nat.zero_le _, rfl, _, HT0⟩
      case round =>
        clear HT0 Qs
        obtain ⟨k, hk, rfl, Qs, HQ⟩ := hrel
        by_cases hlt : k < n
        · have hlt' : k < Ps.length := by have := HN.out; omega
          obtain ⟨b, off, e, c0, c1, c2, c3, c4, c5⟩ := (H.out.at_.kept HQ.out.bel).get k hlt'
          cases e
          have HO : Hid (PrOK w (pd Ps k)) := H.out.ok _ (pd_mem hlt')
          have hxn : (pd Ps k).n ≤ 100000 := HM.out _ (pd_mem hlt')
          have HA : Hid (∀ W', Below w.heap.size w W' → W'.cell? ⟨b, off + k * 6 + 5, none⟩ = some (.slice (pd Ps k).ao (pd Ps k).n (pd Ps k).cap)) := fun W' hb => by
            obtain ⟨b', off', e', d0, d1, d2, d3, d4, d5⟩ := (H.out.at_.kept hb).get k hlt'
            cases e'
            exact d5
          obtain ⟨_, _, e, s0, s1, s2, s3, s4, s5⟩ := HQ.out.row.procs.get k (by have := HQ.out.len; omega)
          cases e
          simp only [Nat.zero_add] at s0 s1 s2 s3 s4 s5
          have f0 := HQ.out.row.frozen (k * 6)
          have f1 := HQ.out.row.frozen (k * 6 + 1)
          have f2 := HQ.out.row.frozen (k * 6 + 2)
          have f3 := HQ.out.row.frozen (k * 6 + 3)
          have f4 := HQ.out.row.frozen (k * 6 + 4)
          have f5 := HQ.out.row.frozen (k * 6 + 5)
          obtain ⟨x, hx⟩ : ∃ x, x = pd Ps k := ⟨_, rfl⟩
          rw [← hx] at c0 c1 c2 c3 c4 c5 HO hxn HA
          have HXe : Hid (pd Ps k = x) := hx.symm
          have HXq : Hid (pd (Qs.set k x) k = x) := pd_set_eq _ _ _ (by have := HQ.out.len; omega)
          have hp := HQ.out.put hlt x
          have HP : Hid (LT w _ n k Ps (Qs.set k x)) := hp
          clear hp hx HQ
          go_upto_region 12 with fail
          clear c0 c1 c2 c3 c4 c5 s0 s1 s2 s3 s4 s5 f0 f1 f2 f3 f4 f5
          generalize (((((wr.setCell ⟨w.heap.size, k * 6, none⟩ (.string x.name)).setCell ⟨w.heap.size, k * 6 + 1, none⟩ (.int .i64 x.p.args)).setCell ⟨w.heap.size, k * 6 + 2, none⟩ (.int .i64 x.p.reads)).setCell ⟨w.heap.size, k * 6 + 3, none⟩ (.int .i64 x.p.writes)).setCell ⟨w.heap.size, k * 6 + 4, none⟩ (.int .i64 x.p.locals)).setCell ⟨w.heap.size, k * 6 + 5, none⟩ (.slice x.ao x.n x.cap) = W1 at *
          generalize Qs.set k x = Q1 at *
          have d5 := HA.out W1 HP.out.bel
          obtain ⟨name, pp, xao, xn, xcap, xL⟩ := x
          simp only at d5 hxn
          cases xao with
          | none =>
            have hnil := run_eqNilI none xn xcap
            have HP2 : Hid (LT w W1 n (k + 1) Ps Q1) := HP.out.nil (by rw [HXe.out]) (by rw [HXe.out]; exact HXq.out)
            clear HP
            go_wp2
            go_roundw
            case rel => exact ⟨k + 1, by omega, by go_num, _, HP2⟩
            case measure => simp [intOf]; omega
          | some xa =>
            have hnil := run_eqNilI (some xa) xn xcap
            have hmk := make_keys (xn + 3) ((xn : Int) + 3) (by omega) (by omega)
            go_upto_region 14 with fail
            clear hnil hmk d5
            have HK0 : Hid (KP (W1.alloc (.cells (cks (List.replicate (xn + 3) (0, 0))).toArray 87)) W1.heap.size (xn + 3) 0 (List.replicate (xn + 3) (0, 0))) := ⟨heap_alloc_new _ _ rfl, by simp, fun j hj => by omega⟩
            have HB0 : Hid (Below W1.heap.size W1 (W1.alloc (.cells (cks (List.replicate (xn + 3) (0, 0))).toArray 87))) := (Below.refl _ _).alloc (Nat.le_refl _) _
            generalize W1.alloc (.cells (cks (List.replicate (xn + 3) (0, 0))).toArray 87) = W2 at *
            have HGB : Hid (w.heap.size < W1.heap.size) := HP.out.row.lt
            obtain ⟨G, hG⟩ : ∃ G, G = W1.heap.size := ⟨_, rfl⟩
            rw [← hG] at HK0 HB0 HGB ⊢
            have HGe : Hid (G = W1.heap.size) := hG
            clear hG
            go_wp2_with fail
            go_loopw [7] (fun x wr => ∃ j : Nat, j ≤ xn + 3 ∧ x = .int .i64 (j : Int) ∧ Hid (Below G W1 wr) ∧ ∃ M, Hid (KP wr G (xn + 3) j M)) (fun x _ => xn + 3 - (intOf x).toNat)
            case atStart => exact ⟨0, Nat.zero_le _, rfl, HB0, _, HK0⟩
            case round =>
              clear HK0 HB0
              obtain ⟨j, hj, rfl, HB, M, HK⟩ := hrel
              by_cases hjl : j < xn + 3
              · have hjli : (j : Int) < (xn : Int) + 3 := by omega
                obtain ⟨_, _, e, m0, m1⟩ := HK.out.row.keys0.get j (by have := HK.out.len; omega)
                cases e
                simp only [Nat.zero_add] at m0 m1
                have f0 := HK.out.row.frozen (j * 2)
                have f1 := HK.out.row.frozen (j * 2 + 1)
                have hp := HK.out.put hjl
                have HK2 : Hid (KP _ G (xn + 3) (j + 1) _) := hp
                have hb : Below G W1 ((wr.setCell ⟨G, j * 2, none⟩ (.int .i64 (-7))).setCell ⟨G, j * 2 + 1, none⟩ (.int .i64 (j : Int))) := below_set (below_set HB.out _ _ (Nat.le_refl _)) _ _ (Nat.le_refl _)
                have HB2 : Hid (Below G W1 _) := hb
                clear hp hb
                go_wp2_with fail
                exact ⟨⟨j + 1, by omega, by go_num, HB2, _, HK2⟩, by simp [intOf]; omega⟩
              · obtain rfl : j = xn + 3 := by omega
                have hcp := fun ty => run_copy_keys wr ty G (xn + 3) (xn + 3) xa xn xcap xL M HO.out.len (HK.out.len).symm (by omega) HK.out.row (HO.out.ks.kept (HP.out.bel.trans (HB.out.mono (by have := HGB.out; omega)))) _ rfl
                have HPD : Hid (Pads xn xL (xL ++ M.drop xn)) := HK.out.pads HO.out.len
                have HR : Hid (RowK (wr.setRow G (cks (xL ++ M.drop xn)).toArray) G (xL ++ M.drop xn)) := setRow_heap _ _ _ _ _ _ HK.out.row
                have HBC : Hid (Below G W1 (wr.setRow G (cks (xL ++ M.drop xn)).toArray)) := HB.out.trans (below_setRow _ (Nat.le_refl _))
                have d5 := HA.out wr (HP.out.bel.trans (HB.out.mono (by have := HGB.out; omega)))
                clear HK HB
                go_upto_region 19 with fail
                clear hcp d5
                generalize wr.setRow G (cks (xL ++ M.drop xn)).toArray = W4 at *
                generalize xL ++ M.drop xn = M4 at *
                have HP4 : Hid (LT w W4 n k Ps Q1) := HP.out.kept (by rw [← HGe.out]; exact HBC.out)
                have d5 := HA.out W4 HP4.out.bel
                have f5 := HP4.out.row.frozen (k * 6 + 5)
                obtain ⟨_, _, e, s0, s1, s2, s3, s4, s5⟩ := HP4.out.row.procs.get k (by have := HP4.out.len; omega)
                cases e
                simp only [Nat.zero_add] at s5
                clear s0 s1 s2 s3 s4
                obtain ⟨Q5, hq5⟩ := HP4.out.code hlt _ HXe.out HXq.out G M4 HR.out HPD.out HGB.out
                have HP5 : Hid (LT w _ n (k + 1) Ps Q5) := hq5
                clear hq5 HP4 HP HR HPD HBC
                go_wp2
                go_roundw
                case rel => exact ⟨k + 1, by omega, by go_num, _, HP5⟩
                case measure => simp [intOf]; omega
        · obtain rfl : k = n := by omega
          have HPp : Hid (LentPost w (some a) k Ps (.returned (.slice (some ⟨w.heap.size, 0, none⟩) k (k + 3))) wr) := .inr ⟨by simp, Qs, rfl, HQ.out⟩
          clear HQ
          go_wp2
          go_ret
          exact HPp.out
end Go.Proofs.YtkjmeknaedapjaaDoor
