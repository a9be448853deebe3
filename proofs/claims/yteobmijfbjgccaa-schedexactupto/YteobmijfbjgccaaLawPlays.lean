/-
  play, and the laws that play.
-/
import Derived.Test.YteobmijfbjgccaaZMade
import Derived.Test.YteobmijfbjgccaaZStep0
import Derived.Test.YteobmijfbjgccaaZStep1
import Derived.Test.YteobmijfbjgccaaZStep2
import Derived.Test.YteobmijfbjgccaaZStep3
import Derived.Test.YteobmijfbjgccaaZStep5
import Derived.Test.YteobmijfbjgccaaZStep6
import Derived.Test.YteobmijfbjgccaaZStepN
namespace Go.Proofs.Yteobmijfbjgccaa
open Go.RowKit Go.Sort

theorem step_all (kd : Int) : StepOK kd := by
  by_cases h0 : kd = 0
  · subst h0; exact step0Z
  · by_cases h1 : kd = 1
    · subst h1; exact step1Z
    · by_cases h2 : kd = 2
      · subst h2; exact step2Z
      · by_cases h3 : kd = 3
        · subst h3; exact step3Z
        · by_cases h5 : kd = 5
          · subst h5; exact step5Z
          · by_cases h6 : kd = 6
            · subst h6; exact step6Z
            · exact stepNZ kd h0 h1 h2 h3 h5 h6
theorem there_any {N : Nat} {w : World} {pb n : Nat} {B : Nat → List Int} {nt : Nat} {ts : Nat → Int} {t : Nat} (h : PS N w pb n B nt ts t) (hn : n ≤ 100000) : Calls Try.prog 12 #[ptZ pb] w fun e w' => e = .returned (.bool true) ∧ w' = w := by
  obtain ⟨cb, X, lb, ao, tc, lo, lc, rb, ra, rk, ba, bc, db, no, nc, lio, lic, wo, wc, vs1, vs2, l, k, hpa⟩ := h
  have p0 := hpa.pq.cell.1
  have p1 := hpa.pq.cell.2.1
  have HW := hidW hpa.pq.ow.at_
  clear hpa
  go_enter Try.func12, Try.ntmps12
  go_wp2_with fail
  go_loopw [3] (fun y wr => ∃ (i : Nat), i ≤ n ∧ y = .int .i64 (i : Int) ∧ wr = w) (fun y _ => n - (intOf y).toNat)
  case atStart => exact ⟨0, Nat.zero_le _, rfl, rfl⟩
  case round =>
    obtain ⟨i, hi, rfl, hwr⟩ := hrel
    subst hwr
    by_cases hlt : i < n
    · obtain ⟨b, off, hlo, e1⟩ := HW.out i (ptZ (cb i)) (by simp [hlt])
      rw [hlo] at p0
      have hiI : (i : Int) < (n : Int) := by omega
      go_wp2
      go_roundw
      case rel => exact ⟨i + 1, by omega, by go_num, trivial⟩
      case measure => simp [intOf]; omega
    · obtain rfl : i = n := by omega
      go_wp2
      go_ret
      exact ⟨rfl, rfl⟩
set_option maxHeartbeats 4000000 in
theorem playZ_any (w : World) (ao to_ so : Option Addr) (n ca nt ct m cs : Nat) (L : List Mk) (Ts : List Int) (O : List Oq) (lo hi : Int) (h : MksAt w ao L) (hn : n = L.length) (hp : ptsM L ≤ 100000) (ht : WAt w to_ (i64s Ts)) (htn : nt = Ts.length) (htb : nt ≤ 10000000) (ho : OqsAt w so O) (hm : m = O.length) (hop : ptsO O ≤ 100000) :
    Calls Try.prog 10 #[.slice ao n ca, .slice to_ nt ct, .slice so m cs, .int .i64 lo, .int .i64 hi] w fun e w' => e = .returned (.bool true) ∧ RowKit.Below w.heap.size w w' := by
  have HMa := hidW (made_any w ao to_ n ca nt ct L Ts h hn hp ht htn htb)
  have hnb : n ≤ 100000 := by have := ptsM_len L; omega
  have hmb : m ≤ 100000 := by have := ptsO_len O; omega
  have HO := hidW ho
  have HM := hidW hm
  have HN := hidW hn
  have HOp := hidW hop
  have HT := hidW htn
  clear h hn hp ht htn ho hm hop
  go_enter Try.func10, Try.ntmps10
  go_wp2_with fail
  refine HMa.out.mono ?_
  rintro e w1 ⟨pb, cb, X, lb, bo, tc, lo1, lc, rb, ra, rk, ba, bc, db, no, nc, rfl, hpa, hb⟩
  have HP : Hid (PS w.heap.size w1 pb n (bhM L) nt (tsT n Ts) 0) := by
    rw [← HN.out, ← HT.out] at hpa
    exact ⟨cb, X, lb, bo, tc, lo1, lc, rb, ra, rk, ba, bc, db, no, nc, none, 0, none, 0, [], [], lsM L, 0, hpa⟩
  have HB := hidW hb
  clear hpa hb HMa
  have HTh := hidW (there_any HP.out hnb)
  go_wp2_with fail
  refine HTh.out.mono ?_
  rintro e wx ⟨rfl, hwx⟩
  have hwx' := hwx.symm
  subst hwx'
  clear hwx HTh
  generalize bhM L = B at *
  generalize tsT n Ts = ts at *
  go_wp2_with fail
  go_loopw [13, 14] (fun y _ wr => ∃ (i t : Nat), i ≤ m ∧ y = .int .i64 (i : Int) ∧ t ≤ i ∧ Hid (PS w.heap.size wr pb n B nt ts t) ∧ Hid (RowKit.Below w.heap.size w wr)) (fun y _ _ => m - (intOf y).toNat)
  case atStart => exact ⟨0, 0, Nat.zero_le _, rfl, Nat.zero_le _, HP, HB⟩
  case round =>
    clear HP HB
    obtain ⟨i, t, hi', rfl, hti, HP, HB⟩ := hrel
    by_cases hlt : i < m
    · have hil : i < O.length := by have := HM.out; omega
      have HOr := HO.out.below HB.out
      obtain ⟨b, off, hso, e1, e2, e3⟩ := HOr.get i hil
      subst hso
      obtain ⟨s1, s2, s3⟩ := HOr.sub O[i] (List.getElem_mem hil)
      have s4 := (HO.out.sub O[i] (List.getElem_mem hil)).1
      have hpl : O[i].ps.length ≤ 100000 := by have := ptsO_mem (List.getElem_mem hil); have := HOp.out; omega
      have HAb : Hid (∀ g, O[i].a = some g → O[i].ps ≠ [] → g.block < w.heap.size) := fun g hg hne => by
        obtain ⟨x, hx⟩ : ∃ x, O[i].ps[0]? = some x := by
          cases hps : O[i].ps with
          | nil => exact absurd hps hne
          | cons x xs => exact ⟨x, rfl⟩
        obtain ⟨b', off', e', h2⟩ := s4.int 0 (List.getElem?_eq_some_iff.1 hx).1
        rw [hg] at e'
        cases e'
        exact cell_lt (p := ⟨b', off' + 0, none⟩) h2
      have HS := hidW (step_all O[i].kd w.heap.size wr pb n B nt ts t O[i].n O[i].a O[i].c O[i].ps.length O[i].ps HP.out hnb (by omega) HB.out.size rfl hpl s1 s3 HAb.out)
      clear s1 s2 s3 s4 HAb HOr HP
      generalize O[i] = op at *
      obtain ⟨okd, on, oa, oc, ops⟩ := op
      simp only at e1 e2 e3 HS hpl
      generalize ops.length = ol at *
      have hiI : (i : Int) < (m : Int) := by omega
      go_wp2_with fail
      refine HS.out.mono ?_
      rintro e w2 ⟨rfl, t', ht', hps', hb2⟩
      have HP2 := hidW hps'
      have HB2 : Hid (RowKit.Below w.heap.size w w2) := HB.out.trans hb2
      clear hps' hb2 HS HB e1 e2 e3
      go_wp2_with fail
      go_roundw
      case rel => exact ⟨i + 1, t', by omega, by go_num, by omega, HP2, HB2⟩
      case measure => simp [intOf]; omega
    · obtain rfl : i = m := by omega
      go_wp2
      go_ret
      exact ⟨rfl, HB.out⟩
set_option maxHeartbeats 2000000 in
theorem law_chores (w : World) (ao to_ so : Option Addr) (n ca nt ct m cs : Nat) (L : List Mk) (Ts : List Int) (O : List Oq) (h : MksAt w ao L) (hn : n = L.length) (hnb : n ≤ 20000000000000) (ht : WAt w to_ (i64s Ts)) (htn : nt = Ts.length) (htb : nt ≤ 10000000) (ho : OqsAt w so O) (hm : m = O.length) (hmb : m ≤ 20000000000000) :
    Calls Try.prog 3 #[.slice ao n ca, .slice to_ nt ct, .slice so m cs] w fun e w' => e = .returned (.bool true) ∧ RowKit.Below w.heap.size w w' := by
  have HPt := hidW (parts_any w ao so n m ca cs L O h ho hn hm hnb hmb)
  have HPl := hidW (fun (hp : ptsM L + ptsO O ≤ 100000) => playZ_any w ao to_ so n ca nt ct m cs L Ts O 5 6 h hn (by omega) ht htn htb ho hm (by omega))
  clear h hn ht htn ho hm
  go_enter Try.func3, Try.ntmps3
  go_wp2_with fail
  refine HPt.out.mono ?_
  rintro e wx ⟨r, rfl, hwx, hr⟩
  have hwx' := hwx.symm
  subst hwx'
  have HPP := hidW hr
  clear hwx HPt hr
  by_cases hr0 : r < 0
  · go_wp2
    go_ret
    exact ⟨rfl, Below.refl _ _⟩
  · have HP2 := hidW (HPl.out (HPP.out hr0))
    clear HPl HPP
    go_wp2_with fail
    refine HP2.out.mono ?_
    rintro e w2 ⟨rfl, hb⟩
    have HB := hidW hb
    clear hb
    go_wp2
    go_ret
    exact ⟨rfl, HB.out⟩
set_option maxHeartbeats 2000000 in
theorem law_drains (w : World) (ao to_ so : Option Addr) (n ca nt ct m cs : Nat) (L : List Mk) (Ts : List Int) (O : List Oq) (h : MksAt w ao L) (hn : n = L.length) (hnb : n ≤ 20000000000000) (ht : WAt w to_ (i64s Ts)) (htn : nt = Ts.length) (htb : nt ≤ 10000000) (ho : OqsAt w so O) (hm : m = O.length) (hmb : m ≤ 20000000000000) :
    Calls Try.prog 5 #[.slice ao n ca, .slice to_ nt ct, .slice so m cs] w fun e w' => e = .returned (.bool true) ∧ RowKit.Below w.heap.size w w' := by
  have HPt := hidW (parts_any w ao so n m ca cs L O h ho hn hm hnb hmb)
  have HPl := hidW (fun (hp : ptsM L + ptsO O ≤ 100000) => playZ_any w ao to_ so n ca nt ct m cs L Ts O 2 3 h hn (by omega) ht htn htb ho hm (by omega))
  clear h hn ht htn ho hm
  go_enter Try.func5, Try.ntmps5
  go_wp2_with fail
  refine HPt.out.mono ?_
  rintro e wx ⟨r, rfl, hwx, hr⟩
  have hwx' := hwx.symm
  subst hwx'
  have HPP := hidW hr
  clear hwx HPt hr
  by_cases hr0 : r < 0
  · go_wp2
    go_ret
    exact ⟨rfl, Below.refl _ _⟩
  · have HP2 := hidW (HPl.out (HPP.out hr0))
    clear HPl HPP
    go_wp2_with fail
    refine HP2.out.mono ?_
    rintro e w2 ⟨rfl, hb⟩
    have HB := hidW hb
    clear hb
    go_wp2
    go_ret
    exact ⟨rfl, HB.out⟩
set_option maxHeartbeats 2000000 in
theorem law_takes (w : World) (ao to_ so : Option Addr) (n ca nt ct m cs : Nat) (L : List Mk) (Ts : List Int) (O : List Oq) (h : MksAt w ao L) (hn : n = L.length) (hnb : n ≤ 20000000000000) (ht : WAt w to_ (i64s Ts)) (htn : nt = Ts.length) (htb : nt ≤ 10000000) (ho : OqsAt w so O) (hm : m = O.length) (hmb : m ≤ 20000000000000) :
    Calls Try.prog 4 #[.slice ao n ca, .slice to_ nt ct, .slice so m cs] w fun e w' => e = .returned (.bool true) ∧ RowKit.Below w.heap.size w w' := by
  have HPt := hidW (parts_any w ao so n m ca cs L O h ho hn hm hnb hmb)
  have HPl := hidW (fun (w1 : World) (hb : RowKit.Below w.heap.size w w1) (lo hi : Int) (hp : ptsM L + ptsO O ≤ 100000) => playZ_any w1 ao to_ so n ca nt ct m cs L Ts O lo hi (h.below hb) hn (by omega) (ht.below hb) htn htb (ho.below hb) hm (by omega))
  clear h hn ht htn ho hm
  go_enter Try.func4, Try.ntmps4
  go_wp2_with fail
  refine HPt.out.mono ?_
  rintro e wx ⟨r, rfl, hwx, hr⟩
  have hwx' := hwx.symm
  subst hwx'
  have HPP := hidW hr
  clear hwx HPt hr
  by_cases hr0 : r < 0
  · go_wp2
    go_ret
    exact ⟨rfl, Below.refl _ _⟩
  · have HP2 := hidW (HPl.out w (Below.refl _ _) 0 1 (HPP.out hr0))
    go_wp2_with fail
    refine HP2.out.mono ?_
    rintro e w2 ⟨rfl, hb⟩
    have HB := hidW hb
    have HP3 := hidW (HPl.out w2 hb 4 4 (HPP.out hr0))
    clear hb HPl HPP HP2
    go_wp2_with fail
    refine HP3.out.mono ?_
    rintro e w3 ⟨rfl, hb3⟩
    have HB3 : Hid (RowKit.Below w.heap.size w w3) := HB.out.trans (hb3.mono HB.out.size)
    clear hb3
    go_wp2
    go_ret
    exact ⟨rfl, HB3.out⟩
end Go.Proofs.Yteobmijfbjgccaa
