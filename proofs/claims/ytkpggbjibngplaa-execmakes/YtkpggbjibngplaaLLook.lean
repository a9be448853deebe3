/-
  THE WALKS OF look, Depths' first loop.
-/
import Derived.Test.YtkpggbjibngplaaLOnw
import Derived.Test.YtkpggbjibngplaaLFits
namespace Go.Proofs.Ytkpggbjibngplaa
open Go.RowKit Go.Sort

theorem KeysAt.get {w : World} {ao : Option Addr} {L : List K} (h : KeysAt w ao L) (j : Nat) (hj : j < L.length) : ∃ b off, ao = some ⟨b, off, none⟩ ∧ w.cell? ⟨b, off + j * 2, none⟩ = some (.int .i64 (cd L j).1) ∧ w.cell? ⟨b, off + j * 2 + 1, none⟩ = some (.int .i64 (cd L j).2) := by
  rcases h with rfl | ⟨b, off, rfl, hc⟩
  · simp at hj
  · exact ⟨b, off, rfl, KeysAt.at hc j hj⟩

set_option maxHeartbeats 2000000 in
theorem look_any (w : World) (p : Nums) (ao : Option Addr) (n cap i : Nat) (L : List K) (hp : NIn p) (h : KeysAt w ao L) (hn : n = L.length) (hi : i < n) :
    Calls Try.prog 35 #[pv p ao n cap, .int .i64 (i : Int)] w fun e w' => e = .returned (.int .i64 (lookN p n i (cd L i))) ∧ Below w.heap.size w w' := by
  obtain ⟨b, off, rfl, c1, c2⟩ := h.get i (by omega)
  have hlt : b < w.heap.size := cell_lt c1
  have HP : Hid (NIn p) := hp
  clear hp h hn
  generalize hk : cd L i = k at *
  obtain ⟨op, a⟩ := k
  simp only at c1 c2
  have HE : Hid (∀ x, lookN p n i (op, a) = x → lookN p n i (op, a) = x) := fun x h => h
  clear hk
  have HB : ∀ (q : Nat) (os : Array Obj) (W : World), Below w.heap.size w W → Below w.heap.size w (grow (W.drewN q) os) := fun q os W h => h.trans ((Grew.grow (Grew.refl W) q os).below.mono h.size)
  go_enter Try.func35, Try.ntmps35
  go_wp2_with fail
  refine (isOp_any _ _).mono ?_
  rintro e w1 ⟨rfl, rfl⟩
  cases ho : isOpB op with
  | false =>
    go_wp2
    go_ret
    refine ⟨by rw [HE.out 31 (by simp [lookN, ho])]; rfl, ?_⟩
    repeat (first | exact Below.refl _ _ | refine below_set ?_ _ _ (by simp <;> omega) | refine Below.alloc ?_ (by simp <;> omega) _)
  | true =>
    by_cases hj : op = 30 ∨ op = 31
    · by_cases ha : a ≤ (i : Int)
      · have HX : Hid (lookN p n i (op, a) = 33) := by rcases hj with rfl | rfl <;> simp [lookN, ho, jumpB, Hid] <;> omega
        rcases hj with rfl | rfl <;>
        (go_wp2
         go_ret
         refine ⟨by rw [HE.out 33 HX.out]; rfl, ?_⟩
         repeat (first | exact Below.refl _ _ | refine below_set ?_ _ _ (by simp <;> omega) | refine Below.alloc ?_ (by simp <;> omega) _))
      · have ha' : decide (a ≤ (i : Int)) = false := by simpa using ha
        by_cases hb : (n : Int) < a
        · have HX : Hid (lookN p n i (op, a) = 33) := by rcases hj with rfl | rfl <;> simp [lookN, ho, jumpB, Hid] <;> omega
          rcases hj with rfl | rfl <;>
          (go_wp2
           go_ret
           refine ⟨by rw [HE.out 33 HX.out]; rfl, ?_⟩
           repeat (first | exact Below.refl _ _ | refine below_set ?_ _ _ (by simp <;> omega) | refine Below.alloc ?_ (by simp <;> omega) _))
        · have hb' : decide ((n : Int) < a) = false := by simpa using hb
          have HX : Hid (lookN p n i (op, a) = 0) := by rcases hj with rfl | rfl <;> simp [lookN, ho, jumpB, fitsB, Hid] <;> omega
          have HF : Hid (fitsB p op a = true) := by rcases hj with rfl | rfl <;> simp [fitsB, Hid]
          rcases hj with rfl | rfl <;>
          (go_wp2_with fail
           refine (fits_any _ p _ _ _ _ _ HP.out).mono ?_
           rintro e w2 ⟨rfl, q, os, rfl⟩
           rw [HF.out]
           go_wp2
           go_ret
           refine ⟨by rw [HE.out 0 HX.out]; rfl, HB _ _ _ ?_⟩
           repeat (first | exact Below.refl _ _ | refine below_set ?_ _ _ (by simp <;> omega) | refine Below.alloc ?_ (by simp <;> omega) _))
    · have h30 : (op == 30) = false := by simp; omega
      have h31 : (op == 31) = false := by simp; omega
      have h30' : op ≠ 30 := by omega
      have h31' : op ≠ 31 := by omega
      clear hj
      go_wp2_with fail
      refine (fits_any _ p _ _ _ _ _ HP.out).mono ?_
      rintro e w2 ⟨rfl, q, os, rfl⟩
      cases hf : fitsB p op a with
      | false =>
        have HX : Hid (lookN p n i (op, a) = 32) := by simp [lookN, ho, jumpB, hf, h30', h31', Hid]
        go_wp2
        go_ret
        refine ⟨by rw [HE.out 32 HX.out]; rfl, HB _ _ _ ?_⟩
        repeat (first | exact Below.refl _ _ | refine below_set ?_ _ _ (by simp <;> omega) | refine Below.alloc ?_ (by simp <;> omega) _)
      | true =>
        have HX : Hid (lookN p n i (op, a) = 0) := by simp [lookN, ho, jumpB, hf, h30', h31', Hid]
        go_wp2
        go_ret
        refine ⟨by rw [HE.out 0 HX.out]; rfl, HB _ _ _ ?_⟩
        repeat (first | exact Below.refl _ _ | refine below_set ?_ _ _ (by simp <;> omega) | refine Below.alloc ?_ (by simp <;> omega) _)

end Go.Proofs.Ytkpggbjibngplaa
