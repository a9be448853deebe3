/-
  THE DOCUMENT's first AND Drops.
-/
import Derived.Test.YtmelbebjcdkbdaaWSame
import Derived.Deep.DeepCutAuto
namespace Go.Proofs.Ytmelbebjcdkbdaa
open Go.RowKit Go.Sort

def fstW (cs : List Int) (b : Int) : Int := if fxW cs b < cs.length then (fxW cs b : Int) else -1
theorem fstW_eq {cs : List Int} {b : Int} {i : Nat} (hi : i < cs.length) : (fstW cs b == (i : Int)) = decide (fxW cs b = i) := by
  unfold fstW
  rw [Bool.eq_iff_iff]
  simp only [beq_iff_eq, decide_eq_true_eq]
  split <;> constructor <;> intro h <;> omega
set_option maxHeartbeats 1000000 in
theorem first_anyW (w : World) (ao : Option Addr) (n ca : Nat) (L : List V5) (b : Int) (h : WAt w ao (v5s L)) (hn : n = L.length) (hm : n ≤ 140737488355328) :
    Calls Try.prog 9 #[.slice ao n ca, .int .i64 b] w fun e w' => e = .returned (.int .i64 (fstW (L.map V5.b) b)) ∧ w' = w := by
  have H := hidW h
  have HN := hidW hn
  clear h hn
  go_enter Try.func9, Try.ntmps9
  go_wp2_with fail
  go_loopw [5] (fun x wr => ∃ k : Nat, k ≤ n ∧ x = .int .i64 (k : Int) ∧ Hid (k ≤ fxW (L.map V5.b) b) ∧ wr = w) (fun x _ => n - (intOf x).toNat)
  case atStart => exact ⟨0, Nat.zero_le _, rfl, Nat.zero_le _, rfl⟩
  case round =>
    obtain ⟨k, hk, rfl, HF, rfl⟩ := hrel
    by_cases hlt : k < n
    · have hlt' : k < L.length := by have := HN.out; omega
      obtain ⟨g, off, rfl, e1, _⟩ := H.out.v5 k hlt'
      have HE : Hid (L[k].b ≤ b → fstW (L.map V5.b) b = (k : Int)) := fun hle => by
        have h2 : k < (L.map V5.b).length := by simpa using hlt'
        have := fxW_eq h2 HF.out (by simpa using hle)
        unfold fstW
        rw [this, if_pos h2]
      have HX : Hid (¬ L[k].b ≤ b → k + 1 ≤ fxW (L.map V5.b) b) := fun hle => by
        have h2 : k < (L.map V5.b).length := by simpa using hlt'
        exact fxW_ne h2 HF.out (by simp; omega)
      generalize L[k].b = y at *
      by_cases hle : y ≤ b
      · have HR := hidW (HE.out hle)
        go_wp2
        go_ret
        exact ⟨by rw [HR.out]; rfl, rfl⟩
      · have HF2 := hidW (HX.out hle)
        go_wp2
        go_roundw
        case rel => exact ⟨k + 1, by omega, by go_num, HF2, trivial⟩
        case measure => simp [intOf]; omega
    · obtain rfl : k = n := by omega
      have HR : Hid (fstW (L.map V5.b) b = -1) := by
        have h1 := HF.out
        have h2 := HN.out
        unfold Hid fstW
        rw [if_neg (by rw [List.length_map]; omega)]
      go_wp2
      go_ret
      exact ⟨by rw [HR.out]; rfl, rfl⟩
/-- what both Drops hand out -/
def DropsPost (w : World) (L : List V5) (fl : Int) (ps : List Int) (n : Nat) (e : Ending) (w' : World) : Prop :=
  ∃ g, e = .returned (.slice (some ⟨g, 0, none⟩) n n) ∧ w.heap.size ≤ g ∧ WB w' g (dropsW (L.map V5.b) fl ps) ∧ Below w.heap.size w w'
/-- the first i are told -/
def partW (ds : List Bool) (n i : Nat) : List Bool := ds.take i ++ List.replicate (n - i) false
theorem partW_zero (ds : List Bool) (n : Nat) : partW ds n 0 = List.replicate n false := by simp [partW]
theorem partW_all {ds : List Bool} {n : Nat} (h : n = ds.length) : partW ds n n = ds := by simp [partW, h]
theorem partW_get {ds : List Bool} {n i : Nat} (h : n = ds.length) (hi : i < n) : (partW ds n i)[i]? = some false := by
  unfold partW
  have e : (ds.take i).length = i := by simp; omega
  rw [List.getElem?_append_right (by omega), e, Nat.sub_self, List.getElem?_replicate, if_pos (by omega)]
theorem partW_set {ds : List Bool} {n i : Nat} {x : Bool} (h : n = ds.length) (hi : i < n) (hx : ds[i]? = some x) : (partW ds n i).set i x = partW ds n (i + 1) := by
  have hi' : i < ds.length := by omega
  have hx' : ds[i] = x := by rw [List.getElem?_eq_getElem hi'] at hx; exact Option.some.inj hx
  unfold partW
  rw [List.set_append_right _ _ (by simp; omega), show i - (ds.take i).length = 0 by simp; omega, show n - i = (n - (i + 1)) + 1 by omega, List.replicate_succ, List.set_cons_zero, List.take_add_one, List.getElem?_eq_getElem hi']
  simp [hx']
def keepW (cs : List Int) (fl : Int) (ps : List Int) (i k : Nat) : Bool := decide (fl < cs.getD i 0) || decide (fxW cs fl = i) || (ps.take k).any (fun p => decide (fxW cs p = i))
theorem keepW_succ {cs : List Int} {fl : Int} {ps : List Int} {i k : Nat} (hk : k < ps.length) : keepW cs fl ps i (k + 1) = (keepW cs fl ps i k || decide (fxW cs ps[k] = i)) := by
  unfold keepW
  rw [List.take_add_one, List.getElem?_eq_getElem hk]
  simp only [Option.toList_some, List.any_append, List.any_cons, List.any_nil, Bool.or_false, Bool.or_assoc]
set_option maxRecDepth 100000 in
set_option maxHeartbeats 2000000 in
theorem rdrops_anyW (w : World) (ao po : Option Addr) (n ca m cp : Nat) (L : List V5) (fl : Int) (ps : List Int) (h : WAt w ao (v5s L)) (hn : n = L.length) (hp : WAt w po (i64s ps)) (hm : m = ps.length) (hb : n ≤ 100000000000000) (hbm : m ≤ 100000000000000) :
    Calls Try.prog 4 #[.slice ao n ca, .int .i64 fl, .slice po m cp] w fun e w' => DropsPost w L fl ps n e w' := by
  have HL := hidW h
  have HN := hidW hn
  have HP := hidW hp
  have HM := hidW hm
  have hmk := fun u => make_boolsW n (by omega) u
  obtain ⟨cs, hcs⟩ : ∃ cs, cs = L.map V5.b := ⟨_, rfl⟩
  have HC := hidW hcs
  have HCl : Hid (n = cs.length) := by show _ = _; rw [hcs, List.length_map]; exact hn
  have HD : Hid (n = (dropsW cs fl ps).length) := by show _ = _; rw [dropsW_len]; exact HCl.out
  clear h hn hp hm hcs
  obtain ⟨W, hW⟩ : ∃ W, W = w.alloc (.cells (blsW (List.replicate n false)) 4) := ⟨_, rfl⟩
  have HR0 : Hid (WB W w.heap.size (partW (dropsW cs fl ps) n 0)) := by show WB _ _ _; rw [partW_zero, hW]; exact heap_alloc_new _ _ rfl
  have HB0 : Hid (Below w.heap.size w W) := by show Below _ _ _; rw [hW]; exact (Below.refl _ _).alloc (Nat.le_refl _) _
  go_enter Try.func4, Try.ntmps4
  go_wp2_with fail
  rw [← hW]
  clear hW hmk
  go_loopw [8, 9, 10] (fun x _ _ wr => ∃ i : Nat, i ≤ n ∧ x = .int .i64 (i : Int) ∧ Hid (WB wr w.heap.size (partW (dropsW cs fl ps) n i)) ∧ Hid (Below w.heap.size w wr)) (fun x _ _ _ => n - (intOf x).toNat)
  case atStart => exact ⟨0, Nat.zero_le _, rfl, HR0, HB0⟩
  case round =>
    clear HR0 HB0
    obtain ⟨i, hi, rfl, HR, HB⟩ := hrel
    by_cases hlt : i < n
    · have hiL : i < L.length := by have := HN.out; omega
      have HiC : Hid (i < cs.length) := by show _ < _; have := HCl.out; omega
      have HLr := hidW (HL.out.below HB.out)
      obtain ⟨g, off, rfl, e1, _⟩ := HLr.out.v5 i hiL
      have HG : Hid (cs.getD i 0 = L[i].b) := by show _ = _; rw [HC.out]; simp [List.getD, hiL]
      have HF := fun (b : Int) => hidW (first_anyW wr _ n ca L b HLr.out HN.out (by omega))
      generalize L[i].b = y at *
      have HK0 : Hid (keepW cs fl ps i 0 = (decide (fl < y) || decide (fxW cs fl = i))) := by
        show _ = _
        rw [keepW, HG.out]
        simp
      obtain ⟨W1, hW1⟩ : ∃ W1, W1 = wr := ⟨_, rfl⟩
      subst hW1
      go_upto_region 5 with fail
      go_cut [9] (fun x wx => x = .bool (keepW cs fl ps i 0) ∧ wx = W1)
      case first =>
        by_cases hfl : fl < y
        · have HK : Hid (keepW cs fl ps i 0 = true) := by show _ = _; rw [HK0.out]; simp [hfl]
          go_wp2_with fail
          go_meet
          case rel => exact ⟨by rw [HK.out], rfl⟩
        · have HK : Hid (keepW cs fl ps i 0 = (fstW cs fl == (i : Int))) := by show _ = _; rw [HK0.out, fstW_eq HiC.out]; simp [hfl]
          have HF1 := HF fl
          go_wp2_with fail
          refine HF1.out.mono ?_
          rintro e w2 ⟨rfl, hw2⟩
          have hw2' := hw2.symm
          subst hw2'
          clear hw2 HF1
          rw [← HC.out]
          go_wp2_with fail
          go_meet
          case rel => exact ⟨by rw [HK.out], rfl⟩
      case rest =>
        obtain ⟨rfl, rfl⟩ := hcut
        clear HK0
        go_wp2_with fail
        go_loopw [9, 10] (fun x y wr => ∃ k : Nat, k ≤ m ∧ x = .bool (keepW cs fl ps i k) ∧ y = .int .i64 (k : Int) ∧ wr = wc) (fun _ y _ => m - (intOf y).toNat)
        case atStart => exact ⟨0, Nat.zero_le _, rfl, rfl, rfl⟩
        case round =>
          obtain ⟨k, hk, rfl, rfl, hwr⟩ := hrel
          subst hwr
          by_cases hkm : k < m
          · have hkl : k < ps.length := by have := HM.out; omega
            obtain ⟨pg, po2, rfl, ep⟩ := (HP.out.below HB.out).int k hkl
            have HS : Hid (keepW cs fl ps i (k + 1) = (keepW cs fl ps i k || decide (fxW cs ps[k] = i))) := keepW_succ hkl
            generalize ps[k] = p at *
            generalize keepW cs fl ps i k = b0 at *
            cases b0 with
            | true =>
              go_wp2_with fail
              go_roundw
              case rel => exact ⟨k + 1, by omega, by rw [HS.out]; rfl, by go_num, trivial⟩
              case measure => simp [intOf]; omega
            | false =>
              have HF1 := HF p
              have HK : Hid (keepW cs fl ps i (k + 1) = (fstW cs p == (i : Int))) := by show _ = _; rw [HS.out, fstW_eq HiC.out]; rfl
              go_wp2_with fail
              refine HF1.out.mono ?_
              rintro e w2 ⟨rfl, hw2⟩
              have hw2' := hw2.symm
              subst hw2'
              clear hw2 HF1
              rw [← HC.out]
              go_wp2_with fail
              go_roundw
              case rel => exact ⟨k + 1, by omega, by rw [HK.out], by go_num, trivial⟩
              case measure => simp [intOf]; omega
          · obtain rfl : k = m := by omega
            have f0 := HR.out.frozen i
            have c0 := HR.out.cell (partW_get HD.out hlt)
            have HV : Hid ((dropsW cs fl ps)[i]? = some (!keepW cs fl ps i k)) := by
              show _ = _
              rw [dropsW_get HiC.out, dropW, keepW, HM.out, List.take_length]
            generalize keepW cs fl ps i k = b0 at *
            have HR2 : Hid (WB (wr.setCell ⟨w.heap.size, i, none⟩ (.bool (!b0))) w.heap.size (partW (dropsW cs fl ps) n (i + 1))) := by
              show WB _ _ _
              rw [← partW_set HD.out hlt HV.out]
              exact HR.out.set i _
            have HB2 : Hid (Below w.heap.size w (wr.setCell ⟨w.heap.size, i, none⟩ (.bool (!b0)))) := ⟨HB.out.os, HB.out.tape, HB.out.output, by simpa using HB.out.size, fun k hk => (setW_block _ _ _ k (by simp; omega)).trans (HB.out.block k hk)⟩
            go_wp2
            go_roundw
            case rel => exact ⟨i + 1, by omega, by go_num, HR2, HB2⟩
            case measure => simp [intOf]; omega
    · obtain rfl : i = n := by omega
      have HR2 : Hid (WB wr w.heap.size (dropsW (L.map V5.b) fl ps)) := by
        have := HR.out
        rw [partW_all HD.out, HC.out] at this
        exact this
      go_wp2
      go_ret
      exact ⟨w.heap.size, rfl, Nat.le_refl _, HR2.out, HB.out⟩
end Go.Proofs.Ytmelbebjcdkbdaa
