import Derived.Test.YtkmafpfldnapjaaGreatDoorKALSame
import Derived.Laws.Cover3
import Derived.Test.YtkmafpfldnapjaaGreatDoorKLDMath
import Derived.Test.YtkmafpfldnapjaaGreatDoorKLProc
import Derived.Test.YtkmafpfldnapjaaGreatDoorKAMath
import Derived.Test.YtkmafpfldnapjaaGreatDoorKASplit
import Derived.Test.YtkmafpfldnapjaaGreatDoorKALList
import Derived.Test.YtkmafpfldnapjaaGreatDoorKARd
/-
  THE WALK OF layer 4's lent.
-/
namespace Go.Proofs.YtkmafpfldnapjaaGreatDoor
open Go.RowKit Go.Sort

theorem run_eqNilP (ao : Option Addr) (n c : Nat) (w : World) : (binOp .eql 22 (.slice ao n c) (.slice none 0 0)).run Tryz.prog w = .ok (.bool ao.isNone) w := by
  simp only [binOp]
  simp [run_equal_slice_nil w 22 87 ao n c Tryz.underlying22]
theorem run_eqNilI (ao : Option Addr) (n c : Nat) (w : World) : (binOp .eql 56 (.slice ao n c) (.slice none 0 0)).run Tryz.prog w = .ok (.bool ao.isNone) w := by
  simp only [binOp]
  simp [run_equal_slice_nil w 56 91 ao n c Tryz.underlying56]
def LentPost (w : World) (ao : Option Addr) (n : Nat) (Ps : List Pr) (e : Ending) (w' : World) : Prop :=
  (ao = none ∧ e = .returned (.slice none 0 0) ∧ w' = w) ∨ (ao ≠ none ∧ ∃ Qs, e = .returned (.slice (some ⟨w.heap.size, 0, none⟩) n (n + 3)) ∧ LT w w' n n Ps Qs)

set_option maxRecDepth 100000 in
set_option maxHeartbeats 2000000 in
theorem lent_any (w : World) (ao : Option Addr) (n cap : Nat) (Ps : List Pr) (h : LibAt w ao Ps) (hn : n = Ps.length) (hm : n ≤ 100000) (hx : ∀ x ∈ Ps, x.n ≤ 100000) :
    Calls Tryz.prog 15 #[.slice ao n cap] w fun e w' => LentPost w ao n Ps e w' := by
  have H : Hid (LibAt w ao Ps) := h
  have HN : Hid (n = Ps.length) := hn
  have HM : Hid (∀ x ∈ Ps, x.n ≤ 100000) := hx
  clear h hn hx
  cases ao with
  | none =>
    have HP : Hid (LentPost w none n Ps (.returned (.slice none 0 0)) w) := .inl ⟨rfl, rfl, rfl⟩
    have hnil := run_eqNilP none n cap
    go_enter Tryz.func15, Tryz.ntmps15
    go_wp2
    go_ret
    exact HP.out
  | some a =>
  have hnil := run_eqNilP (some a) n cap
  have hmk := make_procs (n + 3) ((n : Int) + 3) (by omega) (by omega)
  go_enter Tryz.func15, Tryz.ntmps15
  go_upto_region 4 with fail
  have HR0 : Hid (L1 w (w.alloc (.cells (prcs (List.replicate (n + 3) prD)).toArray 87)) n 0 (List.replicate (n + 3) prD)) := ⟨heap_alloc_new _ _ rfl, by simp, (Below.refl _ _).alloc (Nat.le_refl _) _, fun i hi => by omega⟩
  generalize w.alloc (.cells (prcs (List.replicate (n + 3) prD)).toArray 87) = W0 at *
  clear hmk hnil
  go_wp2_with fail
  go_loopw [4] (fun x wr => ∃ k : Nat, k ≤ n + 3 ∧ x = .int .i64 (k : Int) ∧ ∃ Qs, Hid (L1 w wr n k Qs)) (fun x _ => n + 3 - (intOf x).toNat)
  case atStart => exact ⟨0, Nat.zero_le _, rfl, _, HR0⟩
  case round =>
    clear HR0
    obtain ⟨k, hk, rfl, Qs, HQ⟩ := hrel
    by_cases hlt : k < n + 3
    · have hlti : (k : Int) < (n : Int) + 3 := by omega
      obtain ⟨_, _, e, s0, s1, s2, s3, s4, s5⟩ := HQ.out.row.procs.get k (by have := HQ.out.len; omega)
      cases e
      simp only [Nat.zero_add] at s0 s1 s2 s3 s4 s5
      have f0 := HQ.out.row.frozen (k * 6)
      have f1 := HQ.out.row.frozen (k * 6 + 1)
      have f2 := HQ.out.row.frozen (k * 6 + 2)
      have f3 := HQ.out.row.frozen (k * 6 + 3)
      have f4 := HQ.out.row.frozen (k * 6 + 4)
      have f5 := HQ.out.row.frozen (k * 6 + 5)
      obtain ⟨Qs', hp⟩ := HQ.out.put hlt
      have HP : Hid (L1 w _ n (k + 1) Qs') := hp
      clear hp
      go_wp2_with fail
      exact ⟨⟨k + 1, by omega, by go_num, Qs', HP⟩, by simp [intOf]; omega⟩
    · obtain rfl : k = n + 3 := by omega
      have HT0 : Hid (LT w wr n 0 Ps Qs) := HQ.out.fin
      clear HQ hlt hk
      go_wp2_with fail
      generalize wr = wx at *
      go_loopw [5] (fun x wr => ∃ k : Nat, k ≤ n ∧ x = .int .i64 (k : Int) ∧ ∃ Qs, Hid (LT w wr n k Ps Qs)) (fun x _ => n - (intOf x).toNat)
      case atStart => exact ⟨0, Nat.zero_le _, rfl, _, HT0⟩
      case round =>
        clear HT0 Qs
        obtain ⟨k, hk, rfl, Qs, HQ⟩ := hrel
        by_cases hlt : k < n
        · have hlt' : k < Ps.length := by have := HN.out; omega
          obtain ⟨b, off, e, c0, c1, c2, c3, c4, c5⟩ := (H.out.at_.kept HQ.out.bel).get k hlt'
          cases e
          have HO : Hid (PrOK w (pd Ps k)) := H.out.ok _ (pd_mem hlt')
          have hxn : (pd Ps k).n ≤ 100000 := HM.out _ (pd_mem hlt')
          have HA : Hid (∀ W', Below w.heap.size w W' → W'.cell? ⟨b, off + k * 6 + 5, none⟩ = some (.slice (pd Ps k).ao (pd Ps k).n (pd Ps k).cap)) := fun W' hb => by
            obtain ⟨b', off', e', d0, d1, d2, d3, d4, d5⟩ := (H.out.at_.kept hb).get k hlt'
            cases e'
            exact d5
          obtain ⟨_, _, e, s0, s1, s2, s3, s4, s5⟩ := HQ.out.row.procs.get k (by have := HQ.out.len; omega)
          cases e
          simp only [Nat.zero_add] at s0 s1 s2 s3 s4 s5
          have f0 := HQ.out.row.frozen (k * 6)
          have f1 := HQ.out.row.frozen (k * 6 + 1)
          have f2 := HQ.out.row.frozen (k * 6 + 2)
          have f3 := HQ.out.row.frozen (k * 6 + 3)
          have f4 := HQ.out.row.frozen (k * 6 + 4)
          have f5 := HQ.out.row.frozen (k * 6 + 5)
          obtain ⟨x, hx⟩ : ∃ x, x = pd Ps k := ⟨_, rfl⟩
          rw [← hx] at c0 c1 c2 c3 c4 c5 HO hxn HA
          have HXe : Hid (pd Ps k = x) := hx.symm
          have HXq : Hid (pd (Qs.set k x) k = x) := pd_set_eq _ _ _ (by have := HQ.out.len; omega)
          have hp := HQ.out.put hlt x
          have HP : Hid (LT w _ n k Ps (Qs.set k x)) := hp
          clear hp hx HQ
          go_upto_region 12 with fail
          clear c0 c1 c2 c3 c4 c5 s0 s1 s2 s3 s4 s5 f0 f1 f2 f3 f4 f5
          generalize (((((wr.setCell ⟨w.heap.size, k * 6, none⟩ (.string x.name)).setCell ⟨w.heap.size, k * 6 + 1, none⟩ (.int .i64 x.p.args)).setCell ⟨w.heap.size, k * 6 + 2, none⟩ (.int .i64 x.p.reads)).setCell ⟨w.heap.size, k * 6 + 3, none⟩ (.int .i64 x.p.writes)).setCell ⟨w.heap.size, k * 6 + 4, none⟩ (.int .i64 x.p.locals)).setCell ⟨w.heap.size, k * 6 + 5, none⟩ (.slice x.ao x.n x.cap) = W1 at *
          generalize Qs.set k x = Q1 at *
          have d5 := HA.out W1 HP.out.bel
          obtain ⟨name, pp, xao, xn, xcap, xL⟩ := x
          simp only at d5 hxn
          cases xao with
          | none =>
            have hnil := run_eqNilI none xn xcap
            have HP2 : Hid (LT w W1 n (k + 1) Ps Q1) := HP.out.nil (by rw [HXe.out]) (by rw [HXe.out]; exact HXq.out)
            clear HP
            go_wp2
            go_roundw
            case rel => exact ⟨k + 1, by omega, by go_num, _, HP2⟩
            case measure => simp [intOf]; omega
          | some xa =>
            have hnil := run_eqNilI (some xa) xn xcap
            have hmk := make_keys (xn + 3) ((xn : Int) + 3) (by omega) (by omega)
            go_upto_region 14 with fail
            clear hnil hmk d5
            have HK0 : Hid (KP (W1.alloc (.cells (cks (List.replicate (xn + 3) (0, 0))).toArray 91)) W1.heap.size (xn + 3) 0 (List.replicate (xn + 3) (0, 0))) := ⟨heap_alloc_new _ _ rfl, by simp, fun j hj => by omega⟩
            have HB0 : Hid (Below W1.heap.size W1 (W1.alloc (.cells (cks (List.replicate (xn + 3) (0, 0))).toArray 91))) := (Below.refl _ _).alloc (Nat.le_refl _) _
            generalize W1.alloc (.cells (cks (List.replicate (xn + 3) (0, 0))).toArray 91) = W2 at *
            have HGB : Hid (w.heap.size < W1.heap.size) := HP.out.row.lt
            obtain ⟨G, hG⟩ : ∃ G, G = W1.heap.size := ⟨_, rfl⟩
            rw [← hG] at HK0 HB0 HGB ⊢
            have HGe : Hid (G = W1.heap.size) := hG
            clear hG
            go_wp2_with fail
            go_loopw [7] (fun x wr => ∃ j : Nat, j ≤ xn + 3 ∧ x = .int .i64 (j : Int) ∧ Hid (Below G W1 wr) ∧ ∃ M, Hid (KP wr G (xn + 3) j M)) (fun x _ => xn + 3 - (intOf x).toNat)
            case atStart => exact ⟨0, Nat.zero_le _, rfl, HB0, _, HK0⟩
            case round =>
              clear HK0 HB0
              obtain ⟨j, hj, rfl, HB, M, HK⟩ := hrel
              by_cases hjl : j < xn + 3
              · have hjli : (j : Int) < (xn : Int) + 3 := by omega
                obtain ⟨_, _, e, m0, m1⟩ := HK.out.row.keys0.get j (by have := HK.out.len; omega)
                cases e
                simp only [Nat.zero_add] at m0 m1
                have f0 := HK.out.row.frozen (j * 2)
                have f1 := HK.out.row.frozen (j * 2 + 1)
                have hp := HK.out.put hjl
                have HK2 : Hid (KP _ G (xn + 3) (j + 1) _) := hp
                have hb : Below G W1 ((wr.setCell ⟨G, j * 2, none⟩ (.int .i64 (-7))).setCell ⟨G, j * 2 + 1, none⟩ (.int .i64 (j : Int))) := below_set (below_set HB.out _ _ (Nat.le_refl _)) _ _ (Nat.le_refl _)
                have HB2 : Hid (Below G W1 _) := hb
                clear hp hb
                go_wp2_with fail
                exact ⟨⟨j + 1, by omega, by go_num, HB2, _, HK2⟩, by simp [intOf]; omega⟩
              · obtain rfl : j = xn + 3 := by omega
                have hcp := fun ty => run_copy_keys wr ty G (xn + 3) (xn + 3) xa xn xcap xL M HO.out.len (HK.out.len).symm (by omega) HK.out.row (HO.out.ks.kept (HP.out.bel.trans (HB.out.mono (by have := HGB.out; omega)))) _ rfl
                have HPD : Hid (Pads xn xL (xL ++ M.drop xn)) := HK.out.pads HO.out.len
                have HR : Hid (RowK (wr.setRow G (cks (xL ++ M.drop xn)).toArray) G (xL ++ M.drop xn)) := setRow_heap _ _ _ _ _ _ HK.out.row
                have HBC : Hid (Below G W1 (wr.setRow G (cks (xL ++ M.drop xn)).toArray)) := HB.out.trans (below_setRow _ (Nat.le_refl _))
                have d5 := HA.out wr (HP.out.bel.trans (HB.out.mono (by have := HGB.out; omega)))
                clear HK HB
                go_upto_region 19 with fail
                clear hcp d5
                generalize wr.setRow G (cks (xL ++ M.drop xn)).toArray = W4 at *
                generalize xL ++ M.drop xn = M4 at *
                have HP4 : Hid (LT w W4 n k Ps Q1) := HP.out.kept (by rw [← HGe.out]; exact HBC.out)
                have d5 := HA.out W4 HP4.out.bel
                have f5 := HP4.out.row.frozen (k * 6 + 5)
                obtain ⟨_, _, e, s0, s1, s2, s3, s4, s5⟩ := HP4.out.row.procs.get k (by have := HP4.out.len; omega)
                cases e
                simp only [Nat.zero_add] at s5
                clear s0 s1 s2 s3 s4
                obtain ⟨Q5, hq5⟩ := HP4.out.code hlt _ HXe.out HXq.out G M4 HR.out HPD.out HGB.out
                have HP5 : Hid (LT w _ n (k + 1) Ps Q5) := hq5
                clear hq5 HP4 HP HR HPD HBC
                go_wp2
                go_roundw
                case rel => exact ⟨k + 1, by omega, by go_num, _, HP5⟩
                case measure => simp [intOf]; omega
        · obtain rfl : k = n := by omega
          have HPp : Hid (LentPost w (some a) k Ps (.returned (.slice (some ⟨w.heap.size, 0, none⟩) k (k + 3))) wr) := .inr ⟨by simp, Qs, rfl, HQ.out⟩
          clear HQ
          go_wp2
          go_ret
          exact HPp.out
end Go.Proofs.YtkmafpfldnapjaaGreatDoor
/-
  THE WALK OF layer 4's back.
-/
namespace Go.Proofs.YtkmafpfldnapjaaGreatDoor
open Go.RowKit Go.Sort

/-- what was lent, and whose it is -/
structure Bk (W : World) (n g : Nat) (a : Addr) (Ps Qs : List Pr) : Prop where
  row : RowP W g Qs
  len : Qs.length = n + 3
  pad : ∀ i, n ≤ i → i < n + 3 → pd Qs i = padP i
  cop : ∀ i, i < n → CopL W g (pd Ps i) (pd Qs i)
  lib : LibAt W (some a) Ps
  num : n = Ps.length
theorem Bk.kept {W W' : World} {n g : Nat} {a : Addr} {Ps Qs : List Pr} (h : Bk W n g a Ps Qs) (hb : Below W.heap.size W W') : Bk W' n g a Ps Qs :=
  ⟨h.row.kept hb, h.len, h.pad, fun i hi => (h.cop i hi).kept hb, h.lib.kept hb, h.num⟩
theorem Bk.ok {W : World} {n g : Nat} {a : Addr} {Ps Qs : List Pr} (h : Bk W n g a Ps Qs) (i : Nat) (hi : i < n) : LikeP (pd Qs i) (pd Ps i) ∧ PrOK W (pd Qs i) ∧ PrOK W (pd Ps i) := by
  have hp := h.lib.ok _ (pd_mem (by rw [← h.num]; exact hi))
  rcases h.cop i hi with ⟨_, e⟩ | ⟨G, M, e, r, p, _⟩
  · rw [e]; exact ⟨⟨rfl, rfl, rfl, rfl⟩, hp, hp⟩
  · have hM : M = (pd Ps i).L ++ M.drop (pd Ps i).n := by rw [← p.take, List.take_append_drop]
    rw [hM] at r
    rw [e]
    exact ⟨⟨rfl, rfl, rfl, rfl⟩, ⟨hp.len, r.keys, hp.nin, hp.kin, (fun h => by cases h), hp.str, hp.big⟩, hp⟩
theorem pd_tk {Qs : List Pr} {n i : Nat} (h : i < n) : pd (Qs.take n) i = pd Qs i := by
  simp [pd, List.getD_eq_getElem?_getD, h]
theorem Bk.like {W : World} {n g : Nat} {a : Addr} {Ps Qs : List Pr} (h : Bk W n g a Ps Qs) (i : Nat) (hi : i < n) :
    LikeP (pd (Qs.take n) i) (pd Ps i) ∧ KeysAt W (pd (Qs.take n) i).ao (pd (Qs.take n) i).L ∧ KeysAt W (pd Ps i).ao (pd Ps i).L ∧ (pd Ps i).n = (pd Ps i).L.length ∧ (pd Ps i).n * 16 ≤ 140737488355328 := by
  rw [pd_tk hi]
  obtain ⟨a, b, c⟩ := h.ok i hi
  exact ⟨a, b.ks, c.ks, c.len, by have := c.big; omega⟩
theorem Bk.lent {W : World} {n g : Nat} {a : Addr} {Ps Qs : List Pr} (h : Bk W n g a Ps Qs) : LibAt W (some ⟨g, 0, none⟩) (Qs.take n) := by
  refine ⟨h.row.procs.take n, fun x hx => ?_⟩
  obtain ⟨i, hi, rfl⟩ := List.mem_iff_getElem.1 hx
  have hl : i < n := by simp [h.len] at hi; omega
  have := (h.ok i hl).2.1
  rw [← pd_tk hl] at this
  simpa [pd, List.getD_eq_getElem?_getD, List.getElem?_eq_getElem hi] using this
theorem Bk.core {W : World} {n g : Nat} {a : Addr} {Ps Qs : List Pr} (h : Bk W n g a Ps Qs) : (Qs.take n).map core = Ps.map core := by
  apply List.ext_getElem
  · simp [h.len, ← h.num]
  · intro i h1 h2
    have hl : i < n := by simp at h2; rw [h.num]; exact h2
    have e := (h.ok i hl).1
    rw [← pd_tk hl] at e
    simp only [List.length_map] at h1 h2
    have e1 : pd (Qs.take n) i = (Qs.take n)[i] := by simp [pd, List.getD_eq_getElem?_getD, List.getElem?_eq_getElem h1]
    have e2 : pd Ps i = Ps[i] := by simp [pd, List.getD_eq_getElem?_getD, List.getElem?_eq_getElem h2]
    rw [e1, e2] at e
    simp only [List.getElem_map, Go.Proofs.YtkmafpfldnapjaaGreatDoor.core, e.name, e.p, e.L]

end Go.Proofs.YtkmafpfldnapjaaGreatDoor
/-
  THE DOCUMENT'S Parts OF A LIBRARY (out of ALRefL).
-/
namespace Go.Proofs.YtkmafpfldnapjaaGreatDoor
open Go.RowKit Go.Sort

def used : List Pr → Nat
  | [] => 0
  | x :: Ps => 1 + x.name.size + x.n + used Ps
theorem used_append (A B : List Pr) : used (A ++ B) = used A + used B := by
  induction A with
  | nil => simp [used]
  | cons x A ih => simp [used, ih]; omega
theorem used_take (Ps : List Pr) (k : Nat) (h : k < Ps.length) : used (Ps.take (k + 1)) = used (Ps.take k) + (1 + (pd Ps k).name.size + (pd Ps k).n) := by
  rw [pd_take Ps k h, used_append]; simp [used]
theorem used_all {Ps : List Pr} : Ps.length ≤ used Ps ∧ ∀ x ∈ Ps, x.name.size ≤ used Ps ∧ x.n ≤ used Ps := by
  induction Ps with
  | nil => simp [used]
  | cons y Ps ih =>
    refine ⟨by simp [used]; omega, fun x hx => ?_⟩
    rcases List.mem_cons.1 hx with rfl | hx
    · simp [used]; omega
    · have := ih.2 x hx
      simp [used]; omega
def PartsPost (n : Nat) (Ps : List Pr) (e : Ending) : Prop := ∃ r : Int, e = .returned (.int .i64 r) ∧ (0 ≤ r → n ≤ 100000 ∧ ∀ x ∈ Ps, x.name.size ≤ 100000 ∧ x.n ≤ 100000)
set_option maxRecDepth 100000 in
set_option maxHeartbeats 1000000 in
theorem parts_any (w : World) (ao : Option Addr) (n cap : Nat) (Ps : List Pr) (h : LibAt w ao Ps) (hn : n = Ps.length) (hm : n ≤ 140737488351232) :
    Calls Tryz.prog 12 #[.slice ao n cap, .int .i64 100000] w fun e w' => PartsPost n Ps e ∧ ∃ q, w' = w.drewN q := by
  have H : Hid (LibAt w ao Ps) := h
  have HN : Hid (n = Ps.length) := hn
  clear h hn
  go_enter Tryz.func12, Tryz.ntmps12
  go_wp2_with fail
  go_loopw [1, 5] (fun x y wr => ∃ (k q : Nat) (r : Int), k ≤ n ∧ x = .int .i64 r ∧ y = .int .i64 (k : Int) ∧ Hid (r = 100000 - (used (Ps.take k) : Int)) ∧ r ≤ 100000 ∧ -300000000000000 ≤ r ∧ wr = w.drewN q) (fun _ y _ => n - (intOf y).toNat)
  case atStart => exact ⟨0, 0, 100000, Nat.zero_le _, rfl, rfl, by simp [Hid, used], by omega, by omega, rfl⟩
  case round =>
    obtain ⟨k, q, r, hk, rfl, rfl, HRe, hr1, hr2, rfl⟩ := hrel
    by_cases hlt : k < n
    · by_cases hr0 : 0 ≤ r
      · have hlt' : k < Ps.length := by have := HN.out; omega
        obtain ⟨b, off, rfl, c0, c1, c2, c3, c4, c5⟩ := H.out.at_.get k hlt'
        have HU : Hid (used (Ps.take (k + 1)) = used (Ps.take k) + (1 + (pd Ps k).name.size + (pd Ps k).n)) := used_take Ps k hlt'
        have HOk := H.out.ok _ (pd_mem hlt')
        have hb1 := HOk.str
        have hb2 := HOk.big
        clear HOk
        generalize pd Ps k = x at *
        generalize hns : x.name.size = ns at *
        generalize x.n = xn at *
        have hns' : x.name.size = ns := hns
        clear hns c1 c2 c3 c4
        have d0 : (w.drewN q).cell? ⟨b, off + k * 6, none⟩ = some (.string x.name) := c0
        have d5 : (w.drewN q).cell? ⟨b, off + k * 6 + 5, none⟩ = some (.slice x.ao xn x.cap) := c5
        have HW1 : Hid (∀ m, (w.drewN q).drewN m = w.drewN (q + m)) := fun m => World.drewN_drewN _ _ _
        generalize w.drewN q = w1 at *
        have hw1 : IntKind.i64.wrap (r - 1) = r - 1 := by rw [IntKind.wrap_i64]; omega
        have hw2 : IntKind.i64.wrap (r - 1 - (ns : Int)) = r - 1 - (ns : Int) := by rw [IntKind.wrap_i64]; omega
        have hw3 : IntKind.i64.wrap (r - 1 - (ns : Int) - (xn : Int)) = r - 1 - (ns : Int) - (xn : Int) := by rw [IntKind.wrap_i64]; omega
        have HR2 : Hid (r - 1 - (ns : Int) - (xn : Int) = 100000 - (used (Ps.take (k + 1)) : Int)) := by rw [HU.out, HRe.out]; show _ = _; omega
        clear HU c0 c5
        go_wp2_with fail
        go_quiet (fail)
        go_wp2_with fail
        go_roundw
        case rel => exact ⟨k + 1, q + nq, r - 1 - (ns : Int) - (xn : Int), by omega, rfl, by go_num, HR2, by omega, by omega, HW1.out nq⟩
        case measure => simp [intOf]; omega
      · have hr0' : ¬ (r ≥ 0) := by omega
        have hrn : r < 0 := by omega
        have HPp : Hid (PartsPost n Ps (.returned (.int .i64 r))) := ⟨r, rfl, fun h => absurd h (by omega)⟩
        clear HRe
        go_wp2
        go_ret
        exact ⟨HPp.out, q, rfl⟩
    · obtain rfl : k = n := by omega
      have HPp : Hid (PartsPost k Ps (.returned (.int .i64 r))) := ⟨r, rfl, fun h => by
        have hu := HRe.out
        rw [HN.out, List.take_length] at hu
        obtain ⟨h1, h2⟩ := used_all (Ps := Ps)
        refine ⟨by rw [HN.out]; omega, fun x hx => ?_⟩
        have := h2 x hx
        omega⟩
      clear HRe
      go_wp2
      go_ret
      exact ⟨HPp.out, q, rfl⟩
end Go.Proofs.YtkmafpfldnapjaaGreatDoor
/-
  A TEXT's LINES AND WORDS, WITHOUT COLUMNS.
-/
namespace Go.Proofs.YtkmafpfldnapjaaGreatDoor

/-- lines, the words of the line that is read, the word that is read, is it a comment? -/
structure Tk where
  lines : List (List (List UInt8))
  words : List (List UInt8)
  cur : Option (List UInt8)
  com : Bool
def endW (t : Tk) : List (List UInt8) := match t.cur with
  | none => t.words
  | some w => t.words ++ [w]
def tkStep (t : Tk) (c : UInt8) : Tk :=
  if c = 10 then ⟨t.lines ++ [endW t], [], none, false⟩
  else if c = 35 then ⟨t.lines, endW t, none, true⟩
  else if endB c.toNat = true then ⟨t.lines, endW t, none, t.com⟩
  else match t.cur with
    | some w => { t with cur := some (w ++ [c]) }
    | none => if t.com = true then t else { t with cur := some [c] }
def tk0 : Tk := ⟨[], [], none, false⟩
def tokN (l : List UInt8) : List (List (List UInt8)) := ((l ++ [10]).foldl tkStep tk0).lines
def unc (ls : List (List Wd)) : List (List (List UInt8)) := ls.map (·.map (·.1))
structure TkR (l : List UInt8) (k : Nat) (x : Sc) (t : Tk) : Prop where
  lines : t.lines = unc x.lines
  words : t.words = x.words.map (·.1)
  com : t.com = x.com
  cur : t.cur = x.wf.map (fun f => pieceL l f k)
  bef : ∀ f, x.wf = some f → f < k
theorem piece_on (l : List UInt8) (f k : Nat) (hf : f ≤ k) (hk : k < l.length) : pieceL l f (k + 1) = pieceL l f k ++ [l[k]] := by
  unfold pieceL
  rw [List.take_add_one, List.getElem?_eq_getElem hk, List.drop_append_of_le_length (by rw [List.length_take]; omega)]
  rfl
theorem end_tk {l : List UInt8} {k c : Nat} {x : Sc} {t : Tk} (h : TkR l k x t) (hc : endB c = true) : (scEnd l x k c).words.map (·.1) = endW t ∧ (scEnd l x k c).wf = none := by
  unfold scEnd endW
  rw [h.cur, h.words]
  cases hx : x.wf with
  | none => exact ⟨rfl, hx⟩
  | some f => simp [hc]
theorem u8_ten {c : UInt8} : c = 10 ↔ c.toNat = 10 := by
  constructor
  · intro h; rw [h]; rfl
  · intro h; exact UInt8.toNat_inj.1 h
theorem u8_hash {c : UInt8} : c = 35 ↔ c.toNat = 35 := by
  constructor
  · intro h; rw [h]; rfl
  · intro h; exact UInt8.toNat_inj.1 h
theorem step_tk {l : List UInt8} {k : Nat} {x : Sc} {t : Tk} (h : TkR l k x t) (c : UInt8) (hc : c = 10 ∨ (∃ hk : k < l.length, l[k] = c)) : TkR l (k + 1) (scStep l x k c.toNat) (tkStep t c) := by
  obtain ⟨e1, e2, e3⟩ := scEnd_frm l x k c.toNat
  unfold scStep tkStep
  by_cases h10 : c = 10
  · have h10' := u8_ten.1 h10
    obtain ⟨q1, q2⟩ := end_tk h (show endB c.toNat = true by rw [h10']; rfl)
    rw [if_pos h10, if_pos h10']
    refine ⟨?_, rfl, rfl, by rw [q2]; rfl, fun f hf => by rw [q2] at hf; cases hf⟩
    show t.lines ++ [endW t] = unc ((scEnd l x k c.toNat).lines ++ [(scEnd l x k c.toNat).words])
    rw [e3, ← q1, h.lines]
    simp [unc]
  rw [if_neg h10, if_neg (fun e => h10 (u8_ten.2 e))]
  by_cases h35 : c = 35
  · have h35' := u8_hash.1 h35
    obtain ⟨q1, q2⟩ := end_tk h (show endB c.toNat = true by rw [h35']; rfl)
    rw [if_pos h35, if_pos h35']
    refine ⟨?_, q1.symm, rfl, by show none = _; rw [q2]; rfl, fun f hf => by rw [show (scEnd l x k c.toNat).wf = some f from hf] at q2; cases q2⟩
    show t.lines = unc (scEnd l x k c.toNat).lines
    rw [e3, h.lines]
  rw [if_neg h35, if_neg (fun e => h35 (u8_hash.2 e))]
  by_cases hb : endB c.toNat = true
  · obtain ⟨q1, q2⟩ := end_tk h hb
    rw [if_pos hb, if_neg (by rw [hb]; simp)]
    exact ⟨by show t.lines = _; rw [e3, h.lines], q1.symm, by show t.com = _; rw [e2, h.com], by show none = _; rw [q2]; rfl, fun f hf => by rw [q2] at hf; cases hf⟩
  have hb' : endB c.toNat = false := by simpa using hb
  rw [if_neg hb]
  obtain ⟨hk, hlk⟩ : ∃ hk : k < l.length, l[k] = c := by rcases hc with hc | hc; exact absurd hc h10; exact hc
  have hen : scEnd l x k c.toNat = x := by
    unfold scEnd
    cases hx : x.wf with
    | none => rfl
    | some f => simp [hb']
  cases hx : x.wf with
  | some f =>
    have hf := h.bef f hx
    have hcur : t.cur = some (pieceL l f k) := by rw [h.cur, hx]; rfl
    rw [if_neg (by simp), hen, hcur]
    refine ⟨h.lines, h.words, h.com, ?_, fun g hg => by have := h.bef g hg; omega⟩
    show some (pieceL l f k ++ [c]) = _
    rw [hx]
    show _ = some (pieceL l f (k + 1))
    rw [piece_on l f k (by omega) hk, hlk]
  | none =>
    have hcur : t.cur = none := by rw [h.cur, hx]; rfl
    rw [hcur]
    by_cases hcm : x.com = true
    · rw [if_neg (by rw [hcm]; simp), hen]
      simp only
      rw [if_pos (by rw [h.com]; exact hcm)]
      exact ⟨h.lines, h.words, h.com, by rw [hcur, hx]; rfl, fun g hg => by rw [hx] at hg; cases hg⟩
    · have hcm' : x.com = false := by simpa using hcm
      rw [if_pos ⟨hcm', hb', rfl⟩]
      simp only
      rw [if_neg (by rw [h.com]; exact hcm)]
      refine ⟨h.lines, h.words, h.com, ?_, fun g hg => by cases hg; omega⟩
      show some [c] = some (pieceL l k (k + 1))
      rw [piece_on l k k (Nat.le_refl _) hk, hlk]
      congr 1
      unfold pieceL
      rw [List.drop_eq_nil_of_le (by rw [List.length_take]; omega)]
      rfl
theorem run_tk (l : List UInt8) : ∀ k, k ≤ l.length + 1 → TkR l k (scRun l k) (((l ++ [10]).take k).foldl tkStep tk0)
  | 0, _ => ⟨rfl, rfl, rfl, rfl, fun f hf => (by cases hf)⟩
  | k + 1, hk => by
    have ih := run_tk l k (by omega)
    have hlt : k < (l ++ [10]).length := by simp; omega
    rw [List.take_add_one, List.getElem?_eq_getElem hlt, List.foldl_append]
    have hby : byteAt l k = ((l ++ [10])[k]).toNat := by unfold byteAt; rw [List.getD_eq_getElem?_getD, List.getElem?_eq_getElem hlt]; rfl
    show TkR l (k + 1) (scStep l (scRun l k) k (byteAt l k)) (tkStep _ ((l ++ [10])[k]))
    rw [hby]
    refine step_tk ih _ ?_
    by_cases h : k < l.length
    · exact .inr ⟨h, by rw [List.getElem_append_left h]⟩
    · left
      have : k = l.length := by omega
      subst this
      simp
theorem split_tok (l : List UInt8) : unc (splitN l) = tokN l := by
  have h := (run_tk l (l.length + 1) (Nat.le_refl _)).lines
  rw [List.take_of_length_le (by simp)] at h
  exact h.symm
end Go.Proofs.YtkmafpfldnapjaaGreatDoor
/-
  LINES ONE BEHIND THE OTHER, WITHOUT COLUMNS: what they do to an assembly.
-/
namespace Go.Proofs.YtkmafpfldnapjaaGreatDoor
open Go.RowKit Go.Sort

def foldA : As → Nat → List (List Wd) → Except (Nat × Nat × Int) As
  | a, _, [] => .ok a
  | a, n, ws :: r =>
    match lineA a (n + 1) ws with
    | .error e => .error e
    | .ok a' => foldA a' (n + 1) r
theorem linesA_fold (ls : List (List Wd)) : ∀ (B A : List (List Wd)) (a : As), ls = A ++ B → linesA ls A.length = .ok a → linesA ls ls.length = foldA a A.length B
  | [], A, a, e, h => by
    subst e
    rw [List.append_nil] at h ⊢
    exact h
  | ws :: B, A, a, e, h => by
    have h1 : linesA ls (A.length + 1) = lineA a (A.length + 1) ws := by
      rw [linesA, h]
      simp only
      rw [e, List.getD_eq_getElem?_getD, List.getElem?_append_right (Nat.le_refl _)]
      simp
    unfold foldA
    cases hl : lineA a (A.length + 1) ws with
    | error E =>
      simp only
      rw [hl] at h1
      have : ∀ m, linesA ls (A.length + 1 + m) = .error E := fun m => by
        induction m with
        | zero => exact h1
        | succ m ih => show linesA ls (A.length + 1 + m + 1) = _; rw [linesA, ih]
      have := this B.length
      rw [e] at this ⊢
      rw [← this]
      congr 1
      simp
      omega
    | ok a' =>
      simp only
      rw [hl] at h1
      have := linesA_fold ls B (A ++ [ws]) a' (by rw [e]; simp) (by rw [List.length_append]; exact h1)
      rw [this, List.length_append]
      rfl
theorem linesA_all (ls : List (List Wd)) : linesA ls ls.length = foldA start0 0 ls := linesA_fold ls ls [] start0 rfl rfl
theorem foldA_app : ∀ (X Y : List (List Wd)) (a : As) (n : Nat), foldA a n (X ++ Y) = match foldA a n X with
    | .error e => .error e
    | .ok a' => foldA a' (n + X.length) Y
  | [], Y, a, n => rfl
  | ws :: X, Y, a, n => by
    simp only [List.cons_append, foldA]
    cases hl : lineA a (n + 1) ws with
    | error E => rfl
    | ok a' =>
      simp only
      rw [foldA_app X Y a' (n + 1)]
      rw [show n + 1 + X.length = n + (ws :: X).length by simp; omega]
/-- the lines that have words -/
def neW (T : List (List (List UInt8))) : List (List (List UInt8)) := T.filter (fun t => !t.isEmpty)
theorem neW_app (X Y : List (List (List UInt8))) : neW (X ++ Y) = neW X ++ neW Y := List.filter_append _ _
/-- lines of these words lead from P to Q -/
def Runs (T : List (List (List UInt8))) (P Q : As → Prop) : Prop := ∀ a n ls, P a → neW (unc ls) = T → ∃ a', foldA a n ls = .ok a' ∧ Q a'
theorem unc_cons (ws : List Wd) (ls : List (List Wd)) : unc (ws :: ls) = ws.map (·.1) :: unc ls := rfl
theorem neW_nil {ws : List Wd} (h : ws = []) (ls : List (List Wd)) : neW (unc (ws :: ls)) = neW (unc ls) := by subst h; rfl
theorem neW_some {ws : List Wd} (h : ws ≠ []) (ls : List (List Wd)) : neW (unc (ws :: ls)) = ws.map (·.1) :: neW (unc ls) := by
  cases ws with
  | nil => exact absurd rfl h
  | cons x ws => rfl
theorem Runs.nil (P : As → Prop) : Runs [] P P := fun a n ls => by
  induction ls generalizing n with
  | nil => intro hp _; exact ⟨a, rfl, hp⟩
  | cons ws ls ih =>
    intro hp he
    by_cases hw : ws = []
    · rw [neW_nil hw] at he
      obtain ⟨a', h1, h2⟩ := ih (n + 1) hp he
      refine ⟨a', ?_, h2⟩
      subst hw
      unfold foldA lineA
      rw [if_pos rfl]
      exact h1
    · rw [neW_some hw] at he
      cases he
theorem neW_split : ∀ (ls : List (List Wd)) (T1 T2 : List (List (List UInt8))), neW (unc ls) = T1 ++ T2 → ∃ X Y, ls = X ++ Y ∧ neW (unc X) = T1 ∧ neW (unc Y) = T2
  | [], T1, T2, h => by
    have h' : T1 ++ T2 = [] := h.symm
    obtain ⟨rfl, rfl⟩ := List.append_eq_nil_iff.1 h'
    exact ⟨[], [], rfl, rfl, rfl⟩
  | ws :: ls, T1, T2, h => by
    by_cases hw : ws = []
    · rw [neW_nil hw] at h
      obtain ⟨X, Y, rfl, h1, h2⟩ := neW_split ls T1 T2 h
      exact ⟨ws :: X, Y, rfl, by rw [neW_nil hw]; exact h1, h2⟩
    · cases T1 with
      | nil => exact ⟨[], ws :: ls, rfl, rfl, h⟩
      | cons t T1 =>
        rw [neW_some hw, List.cons_append, List.cons.injEq] at h
        obtain ⟨X, Y, rfl, h1, h2⟩ := neW_split ls T1 T2 h.2
        exact ⟨ws :: X, Y, rfl, by rw [neW_some hw, h1, h.1], h2⟩
theorem Runs.seq {T1 T2 : List (List (List UInt8))} {P Q R : As → Prop} (h1 : Runs T1 P Q) (h2 : Runs T2 Q R) : Runs (T1 ++ T2) P R := fun a n ls hp he => by
  obtain ⟨X, Y, rfl, e1, e2⟩ := neW_split ls T1 T2 he
  obtain ⟨a1, f1, q1⟩ := h1 a n X hp e1
  obtain ⟨a2, f2, q2⟩ := h2 a1 (n + X.length) Y q1 e2
  refine ⟨a2, ?_, q2⟩
  rw [foldA_app, f1]
  exact f2
theorem Runs.one {t : List (List UInt8)} {P Q : As → Prop} (h : ∀ a n ws, P a → ws.map (·.1) = t → ws ≠ [] → ∃ a', lineA a (n + 1) ws = .ok a' ∧ Q a') : Runs [t] P Q := fun a n ls => by
  induction ls generalizing n with
  | nil => intro _ he; cases he
  | cons ws ls ih =>
    intro hp he
    by_cases hw : ws = []
    · rw [neW_nil hw] at he
      obtain ⟨a', h1, h2⟩ := ih (n + 1) hp he
      refine ⟨a', ?_, h2⟩
      subst hw
      unfold foldA lineA
      rw [if_pos rfl]
      exact h1
    · rw [neW_some hw, List.cons.injEq] at he
      obtain ⟨a1, h1, q1⟩ := h a n ws hp he.1 hw
      obtain ⟨a', h2, q2⟩ := Runs.nil Q a1 (n + 1) ls q1 he.2
      exact ⟨a', by unfold foldA; rw [h1]; exact h2, q2⟩
theorem Runs.mono {T : List (List (List UInt8))} {P P' Q Q' : As → Prop} (h : Runs T P Q) (hp : ∀ a, P' a → P a) (hq : ∀ a, Q a → Q' a) : Runs T P' Q' := fun a n ls h1 h2 => by
  obtain ⟨a', e, q⟩ := h a n ls (hp a h1) h2
  exact ⟨a', e, hq a' q⟩
/-- a text whose words are these -/
theorem Runs.text {T : List (List (List UInt8))} {P Q : As → Prop} (h : Runs T P Q) (h0 : P start0) {l : List UInt8} (hl : neW (tokN l) = T) : ∃ a, linesA (splitN l) (splitN l).length = .ok a ∧ Q a := by
  rw [linesA_all]
  exact h start0 0 (splitN l) h0 (by rw [split_tok]; exact hl)
end Go.Proofs.YtkmafpfldnapjaaGreatDoor
/-
  A LISTING's WORDS.
-/
namespace Go.Proofs.YtkmafpfldnapjaaGreatDoor
open Go.RowKit Go.Sort Go.Shelf

/-- no blank, no line's end, no comment's beginning in it -/
def okW (w : List UInt8) : Prop := w ≠ [] ∧ ∀ b ∈ w, endB b.toNat = false
def joinS : List (List UInt8) → List UInt8
  | [] => []
  | [w] => w
  | w :: v :: r => w ++ 32 :: joinS (v :: r)
theorem okb_ne {b : UInt8} (h : endB b.toNat = false) : b ≠ 10 ∧ b ≠ 35 := by
  constructor <;> (rintro rfl; revert h; decide)
theorem tk_letter {Ls : List (List (List UInt8))} {W : List (List UInt8)} {w : List UInt8} {b : UInt8} (h : endB b.toNat = false) : tkStep ⟨Ls, W, some w, false⟩ b = ⟨Ls, W, some (w ++ [b]), false⟩ := by
  unfold tkStep
  rw [if_neg (okb_ne h).1, if_neg (okb_ne h).2, if_neg (by rw [h]; simp)]
theorem tk_first {Ls : List (List (List UInt8))} {W : List (List UInt8)} {b : UInt8} (h : endB b.toNat = false) : tkStep ⟨Ls, W, none, false⟩ b = ⟨Ls, W, some [b], false⟩ := by
  unfold tkStep
  rw [if_neg (okb_ne h).1, if_neg (okb_ne h).2, if_neg (by rw [h]; simp)]
  rfl
theorem tk_rest {Ls : List (List (List UInt8))} {W : List (List UInt8)} : ∀ (r w : List UInt8), (∀ b ∈ r, endB b.toNat = false) → r.foldl tkStep ⟨Ls, W, some w, false⟩ = ⟨Ls, W, some (w ++ r), false⟩
  | [], w, _ => by simp
  | b :: r, w, h => by
    rw [List.foldl_cons, tk_letter (h b List.mem_cons_self), tk_rest r (w ++ [b]) (fun c hc => h c (List.mem_cons_of_mem _ hc))]
    simp
theorem tk_word {Ls : List (List (List UInt8))} {W : List (List UInt8)} {w : List UInt8} (h : okW w) : w.foldl tkStep ⟨Ls, W, none, false⟩ = ⟨Ls, W, some w, false⟩ := by
  cases w with
  | nil => exact absurd rfl h.1
  | cons b r =>
    rw [List.foldl_cons, tk_first (h.2 b List.mem_cons_self), tk_rest r [b] (fun c hc => h.2 c (List.mem_cons_of_mem _ hc))]
    rfl
theorem tk_blank (Ls : List (List (List UInt8))) (W : List (List UInt8)) (c : Option (List UInt8)) : tkStep ⟨Ls, W, c, false⟩ 32 = ⟨Ls, endW ⟨Ls, W, c, false⟩, none, false⟩ := rfl
theorem tk_nl (Ls : List (List (List UInt8))) (W : List (List UInt8)) (c : Option (List UInt8)) : tkStep ⟨Ls, W, c, false⟩ 10 = ⟨Ls ++ [endW ⟨Ls, W, c, false⟩], [], none, false⟩ := rfl
/-- words, one blank between two -/
theorem tk_words {Ls : List (List (List UInt8))} : ∀ (ws W : List (List UInt8)), (∀ w ∈ ws, okW w) → ws ≠ [] → (joinS ws ++ [10]).foldl tkStep ⟨Ls, W, none, false⟩ = ⟨Ls ++ [W ++ ws], [], none, false⟩
  | [], _, _, h => absurd rfl h
  | [w], W, h, _ => by
    rw [List.foldl_append, joinS, tk_word (h w List.mem_cons_self)]
    rfl
  | w :: v :: r, W, h, _ => by
    rw [joinS, List.append_assoc, List.foldl_append, tk_word (h w List.mem_cons_self), List.cons_append, List.foldl_cons, tk_blank]
    rw [tk_words (v :: r) (endW ⟨Ls, W, some w, false⟩) (fun x hx => h x (List.mem_cons_of_mem _ hx)) (by simp)]
    simp [endW]
theorem tk_line {Ls : List (List (List UInt8))} (ws : List (List UInt8)) (h : ∀ w ∈ ws, okW w) (hn : ws ≠ []) : (joinS ws ++ [10]).foldl tkStep ⟨Ls, [], none, false⟩ = ⟨Ls ++ [ws], [], none, false⟩ := by
  rw [tk_words ws [] h hn]
  rfl
theorem tk_indent {Ls : List (List (List UInt8))} (ws : List (List UInt8)) (h : ∀ w ∈ ws, okW w) (hn : ws ≠ []) : ([32, 32] ++ joinS ws ++ [10]).foldl tkStep ⟨Ls, [], none, false⟩ = ⟨Ls ++ [ws], [], none, false⟩ := by
  show (joinS ws ++ [10]).foldl tkStep ⟨Ls, [], none, false⟩ = _
  exact tk_line ws h hn
/-- a line: with or without its two blanks -/
def LineOf (l : List UInt8) (ws : List (List UInt8)) : Prop := (l = joinS ws ∨ l = [32, 32] ++ joinS ws) ∧ (∀ w ∈ ws, okW w) ∧ ws ≠ []
inductive LOf : List (List UInt8) → List (List (List UInt8)) → Prop where
  | nil : LOf [] []
  | cons {l : List UInt8} {ws : List (List UInt8)} {M : List (List UInt8)} {T : List (List (List UInt8))} (h : LineOf l ws) (hr : LOf M T) : LOf (l :: M) (ws :: T)
theorem LOf.app {M : List (List UInt8)} {T : List (List (List UInt8))} (h : LOf M T) {N : List (List UInt8)} {U : List (List (List UInt8))} (g : LOf N U) : LOf (M ++ N) (T ++ U) := by
  induction h with
  | nil => exact g
  | cons h _ ih => exact .cons h ih
theorem LOf.one {l : List UInt8} {ws : List (List UInt8)} (h : LineOf l ws) : LOf [l] [ws] := .cons h .nil
theorem tk_lines : ∀ (M : List (List UInt8)) (T : List (List (List UInt8))) (Ls : List (List (List UInt8))), LOf M T → (joinL M).foldl tkStep ⟨Ls, [], none, false⟩ = ⟨Ls ++ T, [], none, false⟩
  | [], _, Ls, .nil => by simp [joinL]
  | l :: M, _, Ls, .cons h hr => by
    rename_i ws T
    have e : joinL (l :: M) = (l ++ [10]) ++ joinL M := by simp [joinL]
    rw [e, List.foldl_append]
    have h1 : (l ++ [10]).foldl tkStep ⟨Ls, [], none, false⟩ = ⟨Ls ++ [ws], [], none, false⟩ := by
      rcases h.1 with rfl | rfl
      · exact tk_line ws h.2.1 h.2.2
      · exact tk_indent ws h.2.1 h.2.2
    rw [h1, tk_lines M T (Ls ++ [ws]) hr]
    simp
theorem LOf.right {M : List (List UInt8)} {T : List (List (List UInt8))} (h : LOf M T) : ∀ t ∈ T, t ≠ [] := by
  induction h with
  | nil => intro t ht; cases ht
  | cons h _ ih =>
    intro t ht
    rcases List.mem_cons.1 ht with rfl | ht
    · exact h.2.2
    · exact ih t ht
/-- a text of such lines -/
theorem tok_lines {M : List (List UInt8)} {T : List (List (List UInt8))} (h : LOf M T) : neW (tokN (joinL M)) = T := by
  unfold tokN
  rw [List.foldl_append, show tk0 = ⟨[], [], none, false⟩ from rfl, tk_lines M T [] h]
  show neW (([] ++ T) ++ [[]]) = T
  rw [neW_app, List.nil_append]
  have h1 : neW T = T := by
    unfold neW
    rw [List.filter_eq_self]
    intro t ht
    have hl := h.right t ht
    cases t with
    | nil => exact absurd rfl hl
    | cons => rfl
  rw [h1]
  show T ++ [] = T
  simp
end Go.Proofs.YtkmafpfldnapjaaGreatDoor
/-
  A TEXT AND MORE LINES BEHIND IT.
-/
namespace Go.Proofs.YtkmafpfldnapjaaGreatDoor

theorem piece_pre (t u : List UInt8) (f k : Nat) (hk : k ≤ t.length) : pieceL (t ++ u) f k = pieceL t f k := by
  unfold pieceL
  rw [List.take_append_of_le_length hk]
theorem byte_pre (t u : List UInt8) {k : Nat} (hk : k ≤ t.length) : byteAt (t ++ 10 :: u) k = byteAt t k := by
  unfold byteAt
  rw [List.append_assoc, List.getD_eq_getElem?_getD, List.getD_eq_getElem?_getD]
  by_cases h : k < t.length
  · rw [List.getElem?_append_left h, List.getElem?_append_left h]
  · obtain rfl : k = t.length := by omega
    rw [List.getElem?_append_right (Nat.le_refl _), List.getElem?_append_right (Nat.le_refl _)]
    simp
theorem end_pre (t u : List UInt8) (x : Sc) (k c : Nat) (hk : k ≤ t.length) : scEnd (t ++ u) x k c = scEnd t x k c := by
  unfold scEnd
  cases x.wf with
  | none => rfl
  | some f => simp only; rw [piece_pre t u f k hk]
theorem step_pre (t u : List UInt8) (x : Sc) (k c : Nat) (hk : k ≤ t.length) : scStep (t ++ u) x k c = scStep t x k c := by
  unfold scStep
  rw [end_pre t u x k c hk]
theorem run_pre (t u : List UInt8) : ∀ k, k ≤ t.length + 1 → scRun (t ++ 10 :: u) k = scRun t k
  | 0, _ => rfl
  | k + 1, hk => by
    show scStep _ _ _ _ = scStep _ _ _ _
    rw [run_pre t u k (by omega), byte_pre t u (by omega), step_pre t _ _ k _ (by omega)]
theorem lines_more (l : List UInt8) (k : Nat) : ∀ m, ∃ more, (scRun l (k + m)).lines = (scRun l k).lines ++ more
  | 0 => ⟨[], by simp⟩
  | m + 1 => by
    obtain ⟨more, h⟩ := lines_more l k m
    have e : scRun l (k + (m + 1)) = scStep l (scRun l (k + m)) (k + m) (byteAt l (k + m)) := rfl
    obtain ⟨_, _, e1⟩ := scEnd_frm l (scRun l (k + m)) (k + m) (byteAt l (k + m))
    rw [e]
    unfold scStep
    split
    · refine ⟨more ++ [(scEnd l (scRun l (k + m)) (k + m) (byteAt l (k + m))).words], ?_⟩
      show (scEnd l (scRun l (k + m)) (k + m) (byteAt l (k + m))).lines ++ _ = _
      rw [e1, h, List.append_assoc]
    · split
      · exact ⟨more, by show (scEnd l (scRun l (k + m)) (k + m) (byteAt l (k + m))).lines = _; rw [e1, h]⟩
      · split
        · exact ⟨more, h⟩
        · exact ⟨more, by rw [e1, h]⟩
theorem split_pre (t u : List UInt8) : ∃ more, splitN (t ++ 10 :: u) = splitN t ++ more := by
  obtain ⟨more, h⟩ := lines_more (t ++ 10 :: u) (t.length + 1) (u.length + 1)
  refine ⟨more, ?_⟩
  unfold splitN
  rw [← run_pre t u (t.length + 1) (Nat.le_refl _), ← h]
  congr 2
  simp
  omega
theorem linesA_pre (ls more : List (List Wd)) : ∀ k, k ≤ ls.length → linesA (ls ++ more) k = linesA ls k
  | 0, _ => rfl
  | k + 1, hk => by
    rw [linesA, linesA, linesA_pre ls more k (by omega), List.getD_eq_getElem?_getD, List.getD_eq_getElem?_getD, List.getElem?_append_left (by omega)]
/-- an error within the lines stays, whatever lines follow -/
theorem first_stays (t u : List UInt8) {E : Nat × Nat × Int} (h : linesA (splitN t) (splitN t).length = .error E) : linesA (splitN (t ++ 10 :: u)) (splitN (t ++ 10 :: u)).length = .error E := by
  obtain ⟨more, e⟩ := split_pre t u
  rw [e]
  refine linesA_up (i := (splitN t).length) ?_ _ (by simp)
  rw [linesA_pre _ _ _ (Nat.le_refl _)]
  exact h
end Go.Proofs.YtkmafpfldnapjaaGreatDoor
