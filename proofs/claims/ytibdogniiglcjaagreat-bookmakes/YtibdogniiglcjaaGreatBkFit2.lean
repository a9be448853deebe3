/-
  chainFits.
-/
import Derived.Test.YtibdogniiglcjaaGreatBkFit
namespace Go.Proofs.YtibdogniiglcjaaGreat
open Go.RowKit Go.Sort

theorem IAt.below {W W' : World} {ao : Option Addr} {d : List Int} (h : IAt W ao d) (hb : Below W.heap.size W W') : IAt W' ao d := h.fr (G := fun _ => False) (Fr.ofBelow hb) (fun _ _ h => h)
set_option maxRecDepth 100000 in
set_option maxHeartbeats 4000000 in
theorem chainFits_any (N : Nat) (w : World) (ao : Option Addr) (n c : Nat) (l : List Stp) (h : CsAt N w ao (scs l)) (hN : N ≤ w.heap.size) (hn : n = l.length) (hn2 : n ≤ 100000) (la : Int) (hla : 0 ≤ la ∧ la ≤ 1099511627776) (da : Option Addr) (dn dc : Nat) (d : List Int) (hdn : dn = d.length) (hd : IAt w da d) (hds : d.Pairwise (· < ·)) (hdb : dn ≤ 1000000) :
    Calls Tryz.prog 64 #[.slice ao n c, .int .i64 la, .slice da dn dc] w fun e w' => FitPost w (ChOK la d l) e w' := by
  have HNn := hidC hn
  have HS : Hid (∀ W, Below w.heap.size w W → CsAt N W ao (scs l)) := fun W hW => h.below (hW.mono hN)
  have HD : Hid (∀ W, Below w.heap.size w W → ∀ x y, Calls Tryz.prog 73 #[.int .i64 x, .int .i64 y, .slice da dn dc] W fun e w' => e = .returned (.bool (seenN d x y)) ∧ w' = W) := fun W hW x y => seen_any W x y da dn dc d hdn (hd.below hW) hds hdb
  clear h hn hdn hd hds
  go_enter Tryz.func64, Tryz.ntmps64
  go_wp2_with fail
  go_loopw [7, 8, 9, 12] (fun x _ _ y wr => ∃ (i : Nat) (lo : Int), i ≤ n ∧ 1 ≤ lo ∧ x = .int .i64 lo ∧ y = .int .i64 (i : Int) ∧ Hid (lo = loC l i) ∧ Hid (∀ j, j < i → ChAt la d l j) ∧ Hid (Below w.heap.size w wr)) (fun _ _ _ y _ => n - (intOf y).toNat)
  case atStart => exact ⟨0, 1, Nat.zero_le _, by omega, rfl, rfl, rfl, fun j h => by omega, Below.refl _ _⟩
  case round =>
    obtain ⟨i, lo, hi, hlo0, rfl, rfl, HLo, HJ, HBw⟩ := hrel
    by_cases hlt : i < n
    · have hil : i < l.length := by have := HNn.out; omega
      obtain ⟨b, off, hao, c0, c1, c2, c3⟩ := (HS.out wr HBw.out).stamp hil
      subst hao
      have HSu := hidC (loC_succ hil)
      have HP : Hid (ChAt la d l i ↔ ((lo ≤ l[i].b ∧ l[i].b ≤ la ∧ 0 ≤ l[i].i ∧ l[i].i < 64) ∧ ∀ j, i = j + 1 → seenN d (lo - 1) l[i].b = true)) := ⟨fun h => by rw [HLo.out]; exact h hil, fun h _ => by rw [HLo.out] at h; exact h⟩
      have HBn : Hid (∀ o, Below w.heap.size w (wr.alloc o)) := fun o => HBw.out.alloc HBw.out.size o
      have HPr : Hid (∀ j, i = j + 1 → lo - 1 = (l.getD j ⟨0, 0, false, 0⟩).b ∧ wr.cell? ⟨b, off + j * 4, none⟩ = some (.int .i64 (l.getD j ⟨0, 0, false, 0⟩).b)) := fun j hj => by
        have hjl : j < l.length := by omega
        obtain ⟨b', off', he, q0, _⟩ := (HS.out wr HBw.out).stamp hjl
        cases he
        have e1 : l.getD j ⟨0, 0, false, 0⟩ = l[j] := by simp [List.getD_eq_getElem?_getD, List.getElem?_eq_getElem hjl]
        rw [e1]
        refine ⟨?_, q0⟩
        rw [HLo.out, hj, loC_succ hjl]
        omega
      generalize l[i].b = p1 at *
      generalize l[i].i = p2 at *
      generalize l[i].s = p3 at *
      generalize l[i].v = p4 at *
      clear HBw
      by_cases h1 : p1 < lo
      · have h1b : decide (p1 < lo) = true := decide_eq_true h1
        go_wp2
        go_ret
        exact FitPost.no (fun h => by have := (HP.out.1 (h.2 i)).1; omega) (HBn.out _)
      have h1b : decide (p1 < lo) = false := decide_eq_false h1
      by_cases h2 : la < p1
      · have h2b : decide (la < p1) = true := decide_eq_true h2
        go_wp2
        go_ret
        exact FitPost.no (fun h => by have := (HP.out.1 (h.2 i)).1; omega) (HBn.out _)
      have h2b : decide (la < p1) = false := decide_eq_false h2
      by_cases h3 : p2 < 0
      · have h3b : decide (p2 < 0) = true := decide_eq_true h3
        go_wp2
        go_ret
        exact FitPost.no (fun h => by have := (HP.out.1 (h.2 i)).1; omega) (HBn.out _)
      have h3b : decide (p2 < 0) = false := decide_eq_false h3
      by_cases h4 : 64 ≤ p2
      · have h4b : decide (64 ≤ p2) = true := decide_eq_true h4
        go_wp2
        go_ret
        exact FitPost.no (fun h => by have := (HP.out.1 (h.2 i)).1; omega) (HBn.out _)
      have h4b : decide (64 ≤ p2) = false := decide_eq_false h4
      have hwp : IntKind.i64.wrap (p1 + 1) = p1 + 1 := by rw [IntKind.wrap_i64]; omega
      have HNext : Hid ((∀ j, i = j + 1 → seenN d (lo - 1) p1 = true) → ∀ j, j < i + 1 → ChAt la d l j) := fun hs j hj => by
        by_cases hji : j < i
        · exact HJ.out j hji
        · have : j = i := by omega
          subst this
          exact HP.out.2 ⟨by omega, hs⟩
      by_cases hi0 : i = 0
      · have hg : decide ((0 : Int) < (i : Int)) = false := decide_eq_false (by omega)
        have hgN : decide (0 < i) = false := decide_eq_false (by omega)
        have HJ2 : Hid (∀ j, j < i + 1 → ChAt la d l j) := HNext.out (fun j hj => by omega)
        have HBq : Hid (∀ o q, Below w.heap.size w ((wr.alloc o).drewN q)) := fun o q => (HBn.out o).trans ((drew_below _ q).mono (HBn.out o).size)
        clear hi0 HNext HP HPr
        go_wp2_with fail
        go_quiet (fail)
        go_wp2
        refine ⟨⟨i + 1, p1 + 1, by omega, by omega, rfl, by go_num, HSu.out.symm, HJ2.out, HBq.out _ _⟩, by simp [intOf]; omega⟩
      · have hg : decide ((0 : Int) < (i : Int)) = true := decide_eq_true (by omega)
        have hg' : (0 : Int) < (i : Int) := by omega
        have hgN : decide (0 < i) = true := decide_eq_true (by omega)
        have hgN' : 0 < i := by omega
        obtain ⟨j, hj⟩ : ∃ j, i = j + 1 := ⟨i - 1, by omega⟩
        have hji : (i : Int) - 1 = (j : Int) := by omega
        have hjn : (j : Int) < (n : Int) := by omega
        have hwj : IntKind.i64.wrap ((i : Int) - 1) = (j : Int) := by rw [IntKind.wrap_i64]; omega
        obtain ⟨hpl, hpc⟩ := HPr.out j hj
        obtain ⟨pb, hpb⟩ : ∃ pb, pb = (l.getD j ⟨0, 0, false, 0⟩).b := ⟨_, rfl⟩
        rw [← hpb] at hpc hpl
        have HPl := hidC hpl
        have HIj := hidC hj
        have hpca : ∀ o, (wr.alloc o).cell? ⟨b, off + j * 4, none⟩ = some (.int .i64 pb) := fun o => Lib.cell?_alloc_some _ hpc
        have HBq : Hid (∀ o q, Below w.heap.size w ((wr.alloc o).drewN q)) := fun o q => (HBn.out o).trans ((drew_below _ q).mono (HBn.out o).size)
        have HDq : Hid (∀ o q, Calls Tryz.prog 73 #[.int .i64 pb, .int .i64 p1, .slice da dn dc] ((wr.alloc o).drewN q) fun e w' => e = .returned (.bool (seenN d pb p1)) ∧ w' = (wr.alloc o).drewN q) := fun o q => HD.out _ (HBq.out o q) pb p1
        have HP2 : Hid (ChAt la d l i → seenN d pb p1 = true) := fun h => by have h1 := (HP.out.1 h).2 j HIj.out; rwa [HPl.out] at h1
        have HN2 : Hid (seenN d pb p1 = true → ∀ j, j < i + 1 → ChAt la d l j) := fun h => HNext.out (fun j' _ => by rw [HPl.out]; exact h)
        generalize seenN d pb p1 = sb at *
        clear hi0 hj HNext HP HPr hpb hpl hpc HD HS
        go_wp2_with fail
        go_quiet (first | (go_at_call 73; exact Calls.quiet_of_same (HDq.out _ _)))
        cases sb with
        | false =>
          go_wp2
          go_ret
          exact FitPost.no (fun h => by have := HP2.out (h.2 i); cases this) (HBq.out _ _)
        | true =>
          have HJ2 := hidC (HN2.out rfl)
          go_wp2
          refine ⟨⟨i + 1, p1 + 1, by omega, by omega, rfl, by go_num, HSu.out.symm, HJ2.out, HBq.out _ _⟩, by simp [intOf]; omega⟩
    · have hlb : decide ((i : Int) < (n : Int)) = false := decide_eq_false (by omega)
      have HX : Hid (ChOK la d l ↔ 0 < n) := by
        have hn := HNn.out
        refine ⟨fun h => by have := h.1; omega, fun h => ⟨by omega, fun j hj => HJ.out j (by omega) hj⟩⟩
      by_cases h0 : 0 < n
      · have h0b : decide ((0 : Int) < (n : Int)) = true := decide_eq_true (by omega)
        go_wp2
        go_ret
        first | exact FitPost.yes (HX.out.2 h0) HBw.out | (rw [h0b]; exact FitPost.yes (HX.out.2 h0) HBw.out)
      · have h0b : decide ((0 : Int) < (n : Int)) = false := decide_eq_false (by omega)
        go_wp2
        go_ret
        first | exact FitPost.no (fun h => h0 (HX.out.1 h)) HBw.out | (rw [h0b]; exact FitPost.no (fun h => h0 (HX.out.1 h)) HBw.out)
end Go.Proofs.YtibdogniiglcjaaGreat
