/-
  SchedExact.
-/
import Derived.Test.YteobmijfbjgccaaLawPlays
import Derived.Test.YteobmijfbjgccaaZKept
namespace Go.Proofs.Yteobmijfbjgccaa
open Go.RowKit Go.Sort

theorem keptPS {N : Nat} {w : World} {pb n : Nat} {B : Nat → List Int} {nt : Nat} {ts : Nat → Int} {t : Nat} (h : PS N w pb n B nt ts t) (hN : N ≤ w.heap.size) (ht : t ≤ 1000000) : Calls Try.prog 14 #[ptZ pb] w fun e w' => e = .returned (.bool true) ∧ RowKit.Below N w w' := by
  obtain ⟨cb, X, lb, ao, tc, lo, lc, rb, ra, rk, ba, bc, db, no, nc, lio, lic, wo, wc, vs1, vs2, l, k, hpa⟩ := h
  obtain ⟨P, ro, ro2, rc, rc2, g1, g2, g3, g4⟩ := hpa.ls
  have hl : ∀ i, ((P i).map Int.ofNat).length = (P i).length := fun i => by simp
  have hli := hpa.li
  have hwa := hpa.wa
  rw [g1] at hli
  rw [g2] at hwa
  simp only [← hl] at hli hwa g3
  exact kept_any (vals := fun i => (P i).map Int.ofNat) ⟨hpa.pq.pc, rfl, hli, fun i hi => ⟨(g3 i hi).1, (g3 i hi).2.2⟩, g4⟩ wo wc ro2 rc2 rfl hwa (fun i hi => (g3 i hi).2.1) hN ht
set_option maxHeartbeats 4000000 in
theorem law_exact (w : World) (ao to_ so : Option Addr) (n ca nt ct m cs : Nat) (L : List Mk) (Ts : List Int) (O : List Oq) (h : MksAt w ao L) (hn : n = L.length) (hnb : n ≤ 20000000000000) (ht : WAt w to_ (i64s Ts)) (htn : nt = Ts.length) (htb : nt ≤ 10000000) (ho : OqsAt w so O) (hm : m = O.length) (hmb : m ≤ 20000000000000) :
    Calls Try.prog 6 #[.slice ao n ca, .slice to_ nt ct, .slice so m cs] w fun e w' => e = .returned (.bool true) ∧ RowKit.Below w.heap.size w w' := by
  have HPt := hidW (parts_any w ao so n m ca cs L O h ho hn hm hnb hmb)
  have HMa := hidW (fun (hp : ptsM L + ptsO O ≤ 100000) => made_any w ao to_ n ca nt ct L Ts h hn (by omega) ht htn htb)
  have HO := hidW ho
  have HM := hidW hm
  have HN := hidW hn
  have HT := hidW htn
  clear h hn ht htn ho hm
  go_enter Try.func6, Try.ntmps6
  go_wp2_with fail
  refine HPt.out.mono ?_
  rintro e wx ⟨r, rfl, hwx, hr⟩
  have hwx' := hwx.symm
  subst hwx'
  have HPP := hidW hr
  clear hwx HPt hr
  by_cases hr0 : r < 0
  · go_wp2
    go_ret
    exact ⟨rfl, Below.refl _ _⟩
  · have hpp := HPP.out hr0
    have hnb2 : n ≤ 100000 := by have := ptsM_len L; have := HN.out; omega
    have hmb2 : m ≤ 100000 := by have := ptsO_len O; have := HM.out; omega
    have HOp : Hid (ptsO O ≤ 100000) := by show _ ≤ _; omega
    have HMb := hidW (HMa.out hpp)
    clear HPP hpp HMa hnb hmb
    go_wp2_with fail
    refine HMb.out.mono ?_
    rintro e w1 ⟨pb, cb, X, lb, bo, tc, lo1, lc, rb, ra, rk, ba, bc, db, no, nc, rfl, hpa, hb⟩
    have HP : Hid (PS w.heap.size w1 pb n (bhM L) nt (tsT n Ts) 0) := by
      rw [← HN.out, ← HT.out] at hpa
      exact ⟨cb, X, lb, bo, tc, lo1, lc, rb, ra, rk, ba, bc, db, no, nc, none, 0, none, 0, [], [], lsM L, 0, hpa⟩
    have HB := hidW hb
    clear hpa hb HMb
    have HTh := hidW (there_any HP.out hnb2)
    go_wp2_with fail
    refine HTh.out.mono ?_
    rintro e wx ⟨rfl, hwx⟩
    have hwx' := hwx.symm
    subst hwx'
    clear hwx HTh
    generalize bhM L = B at *
    generalize tsT n Ts = ts at *
    go_wp2_with fail
    go_loopw [9, 8] (fun y _ wr => ∃ (i t : Nat), i ≤ m ∧ y = .int .i64 (i : Int) ∧ t ≤ i ∧ Hid (PS w.heap.size wr pb n B nt ts t) ∧ Hid (RowKit.Below w.heap.size w wr)) (fun y _ _ => m - (intOf y).toNat)
    case atStart => exact ⟨0, 0, Nat.zero_le _, rfl, Nat.zero_le _, HP, HB⟩
    case round =>
      clear HP HB
      obtain ⟨i, t, hi', rfl, hti, HP, HB⟩ := hrel
      by_cases hlt : i < m
      · have hil : i < O.length := by have := HM.out; omega
        have HOr := HO.out.below HB.out
        obtain ⟨b, off, hso, e1, e2, e3⟩ := HOr.get i hil
        subst hso
        obtain ⟨s1, s2, s3⟩ := HOr.sub O[i] (List.getElem_mem hil)
        have s4 := (HO.out.sub O[i] (List.getElem_mem hil)).1
        have hpl : O[i].ps.length ≤ 100000 := by have := ptsO_mem (List.getElem_mem hil); have := HOp.out; omega
        have HAb : Hid (∀ g, O[i].a = some g → O[i].ps ≠ [] → g.block < w.heap.size) := fun g hg hne => by
          obtain ⟨x, hx⟩ : ∃ x, O[i].ps[0]? = some x := by
            cases hps : O[i].ps with
            | nil => exact absurd hps hne
            | cons x xs => exact ⟨x, rfl⟩
          obtain ⟨b', off', e', h2⟩ := s4.int 0 (List.getElem?_eq_some_iff.1 hx).1
          rw [hg] at e'
          cases e'
          exact cell_lt (p := ⟨b', off' + 0, none⟩) h2
        have HS := hidW (step_all O[i].kd w.heap.size wr pb n B nt ts t O[i].n O[i].a O[i].c O[i].ps.length O[i].ps HP.out hnb2 (by omega) HB.out.size rfl hpl s1 s3 HAb.out)
        clear s1 s2 s3 s4 HAb HOr HP
        generalize O[i] = op at *
        obtain ⟨okd, on, oa, oc, ops⟩ := op
        simp only at e1 e2 e3 HS hpl
        generalize ops.length = ol at *
        have hiI : (i : Int) < (m : Int) := by omega
        go_wp2_with fail
        refine HS.out.mono ?_
        rintro e w2 ⟨rfl, t', ht', hps', hb2⟩
        have HP2 := hidW hps'
        have HB2 : Hid (RowKit.Below w.heap.size w w2) := HB.out.trans hb2
        clear hps' hb2 HS HB e1 e2 e3
        go_wp2_with fail
        go_roundw
        case rel => exact ⟨i + 1, t', by omega, by go_num, by omega, HP2, HB2⟩
        case measure => simp [intOf]; omega
      · obtain rfl : i = m := by omega
        have HKp := hidW (keptPS HP.out HB.out.size (by omega))
        clear HP
        go_wp2_with fail
        refine HKp.out.mono ?_
        rintro e w2 ⟨rfl, hb2⟩
        have HB2 : Hid (RowKit.Below w.heap.size w w2) := HB.out.trans hb2
        clear hb2 HKp HB
        go_wp2
        go_ret
        exact ⟨rfl, HB2.out⟩
end Go.Proofs.Yteobmijfbjgccaa
