import Derived.Test.YtcaibgbhebldmaaGreatJ25
import Derived.Test.YtcaibgbhebldmaaGreatJ26
import Derived.Deep.RegionLaw
/-
  THE WALKS OF withinLimits, fits.
-/
namespace Go.Proofs.YtcaibgbhebldmaaGreat
open Go.RowKit Go.Sort


set_option maxHeartbeats 2000000 in
theorem withinLimits_any (w : World) (p : Nums) (ao : Option Addr) (n cap : Nat) :
    Calls Tryz.prog 67 #[pv p ao n cap] w fun e w' => e = .returned (.bool (limB p n)) ∧ ∃ q os, w' = grow (w.drewN q) os := by
  have HE : Hid (∀ b : Bool, limB p n = b → limB p n = b) := fun b h => h
  obtain ⟨x1, x2, x3, x4⟩ := p
  go_enter Tryz.func67, Tryz.ntmps67
  by_cases h0 : 0 ≤ x1
  case neg =>
    have h0b : decide (0 ≤ x1) = false := by simpa using h0
    go_wp2
    go_ret
    refine ⟨by rw [HE.out false (by rw [← Bool.not_eq_true, limB_iff]; simp only; omega)]; rfl, Grew.alloc (Grew.refl _) _⟩
  by_cases h1 : x1 ≤ 16
  case neg =>
    have h1b : decide (x1 ≤ 16) = false := by simpa using h1
    go_wp2
    go_ret
    refine ⟨by rw [HE.out false (by rw [← Bool.not_eq_true, limB_iff]; simp only; omega)]; rfl, Grew.alloc (Grew.refl _) _⟩
  by_cases h2 : 0 ≤ x2
  case neg =>
    have h2b : decide (0 ≤ x2) = false := by simpa using h2
    go_wp2
    go_ret
    refine ⟨by rw [HE.out false (by rw [← Bool.not_eq_true, limB_iff]; simp only; omega)]; rfl, Grew.alloc (Grew.refl _) _⟩
  by_cases h3 : x2 ≤ 16
  case neg =>
    have h3b : decide (x2 ≤ 16) = false := by simpa using h3
    go_wp2
    go_ret
    refine ⟨by rw [HE.out false (by rw [← Bool.not_eq_true, limB_iff]; simp only; omega)]; rfl, Grew.alloc (Grew.refl _) _⟩
  by_cases h4 : 0 ≤ x3
  case neg =>
    have h4b : decide (0 ≤ x3) = false := by simpa using h4
    go_wp2
    go_ret
    refine ⟨by rw [HE.out false (by rw [← Bool.not_eq_true, limB_iff]; simp only; omega)]; rfl, Grew.alloc (Grew.refl _) _⟩
  by_cases h5 : x3 ≤ 16
  case neg =>
    have h5b : decide (x3 ≤ 16) = false := by simpa using h5
    go_wp2
    go_ret
    refine ⟨by rw [HE.out false (by rw [← Bool.not_eq_true, limB_iff]; simp only; omega)]; rfl, Grew.alloc (Grew.refl _) _⟩
  by_cases h6 : 0 ≤ x4
  case neg =>
    have h6b : decide (0 ≤ x4) = false := by simpa using h6
    go_wp2
    go_ret
    refine ⟨by rw [HE.out false (by rw [← Bool.not_eq_true, limB_iff]; simp only; omega)]; rfl, Grew.alloc (Grew.refl _) _⟩
  by_cases h7 : x4 ≤ 16
  case neg =>
    have h7b : decide (x4 ≤ 16) = false := by simpa using h7
    go_wp2
    go_ret
    refine ⟨by rw [HE.out false (by rw [← Bool.not_eq_true, limB_iff]; simp only; omega)]; rfl, Grew.alloc (Grew.refl _) _⟩
  by_cases h8 : (n : Int) ≤ 256
  case neg =>
    have h8b : decide ((n : Int) ≤ 256) = false := by simpa using h8
    go_wp2
    go_ret
    refine ⟨by rw [HE.out false (by rw [← Bool.not_eq_true, limB_iff]; simp only; omega)]; rfl, Grew.alloc (Grew.refl _) _⟩
  go_wp2
  go_ret
  refine ⟨by rw [HE.out true (by rw [limB_iff]; simp only; omega)]; rfl, Grew.alloc (Grew.refl _) _⟩

theorem room_kinds (op : Int) : (op = 1 ∨ op = 30 ∨ op = 31) ∨ (op = 4 ∨ op = 5) ∨ op = 6 ∨ (op = 7 ∨ op = 8) ∨ (op = 32 ∨ op = 33) ∨ (op ≠ 1 ∧ op ≠ 30 ∧ op ≠ 31 ∧ op ≠ 4 ∧ op ≠ 5 ∧ op ≠ 6 ∧ op ≠ 7 ∧ op ≠ 8 ∧ op ≠ 32 ∧ op ≠ 33) := by omega

set_option maxHeartbeats 2000000 in
theorem fits_any (w : World) (p : Nums) (ao : Option Addr) (n cap : Nat) (op a : Int) (hp : In64 p.args ∧ In64 p.reads ∧ In64 p.writes ∧ In64 p.locals) :
    Calls Tryz.prog 83 #[pv p ao n cap, .agg #[.int .i64 op, .int .i64 a]] w fun e w' => e = .returned (.bool (fitsB p op a)) ∧ ∃ q os, w' = grow (w.drewN q) os := by
  have HE : Hid (∀ b : Bool, fitsB p op a = b → fitsB p op a = b) := fun b h => h
  have HP : Hid (In64 p.args ∧ In64 p.reads ∧ In64 p.writes ∧ In64 p.locals) := hp
  clear hp
  obtain ⟨x1, x2, x3, x4⟩ := p
  rcases room_kinds op with h | h | h | h | h | h
  · rcases h with rfl | rfl | rfl <;>
    (go_enter Tryz.func83, Tryz.ntmps83
     go_wp2
     go_ret
     refine ⟨by rw [HE.out true (by simp [fitsB])]; rfl, Grew.alloc (Grew.alloc (Grew.refl _) _) _⟩)
  · rcases h with rfl | rfl
    · by_cases h0 : 0 ≤ a
      · by_cases h1 : a < x4
        · go_enter Tryz.func83, Tryz.ntmps83
          go_wp2
          go_ret
          refine ⟨by rw [HE.out true (by simp [fitsB, roomN]; omega)]; rfl, Grew.alloc (Grew.alloc (Grew.refl _) _) _⟩
        · have h1' : decide (a < x4) = false := by simpa using h1
          go_enter Tryz.func83, Tryz.ntmps83
          go_wp2
          go_ret
          refine ⟨by rw [HE.out false (by simp [fitsB, roomN]; omega)]; rfl, Grew.alloc (Grew.alloc (Grew.refl _) _) _⟩
      · have h0' : decide (0 ≤ a) = false := by simpa using h0
        go_enter Tryz.func83, Tryz.ntmps83
        go_wp2
        go_ret
        refine ⟨by rw [HE.out false (by simp [fitsB, roomN]; omega)]; rfl, Grew.alloc (Grew.alloc (Grew.refl _) _) _⟩
    · by_cases h0 : 0 ≤ a
      · by_cases h1 : a < x4
        · go_enter Tryz.func83, Tryz.ntmps83
          go_wp2
          go_ret
          refine ⟨by rw [HE.out true (by simp [fitsB, roomN]; omega)]; rfl, Grew.alloc (Grew.alloc (Grew.refl _) _) _⟩
        · have h1' : decide (a < x4) = false := by simpa using h1
          go_enter Tryz.func83, Tryz.ntmps83
          go_wp2
          go_ret
          refine ⟨by rw [HE.out false (by simp [fitsB, roomN]; omega)]; rfl, Grew.alloc (Grew.alloc (Grew.refl _) _) _⟩
      · have h0' : decide (0 ≤ a) = false := by simpa using h0
        go_enter Tryz.func83, Tryz.ntmps83
        go_wp2
        go_ret
        refine ⟨by rw [HE.out false (by simp [fitsB, roomN]; omega)]; rfl, Grew.alloc (Grew.alloc (Grew.refl _) _) _⟩
  · subst h
    by_cases h0 : 0 ≤ a
    · by_cases h1 : a < x1
      · go_enter Tryz.func83, Tryz.ntmps83
        go_wp2
        go_ret
        refine ⟨by rw [HE.out true (by simp [fitsB, roomN]; omega)]; rfl, Grew.alloc (Grew.alloc (Grew.refl _) _) _⟩
      · have h1' : decide (a < x1) = false := by simpa using h1
        go_enter Tryz.func83, Tryz.ntmps83
        go_wp2
        go_ret
        refine ⟨by rw [HE.out false (by simp [fitsB, roomN]; omega)]; rfl, Grew.alloc (Grew.alloc (Grew.refl _) _) _⟩
    · have h0' : decide (0 ≤ a) = false := by simpa using h0
      go_enter Tryz.func83, Tryz.ntmps83
      go_wp2
      go_ret
      refine ⟨by rw [HE.out false (by simp [fitsB, roomN]; omega)]; rfl, Grew.alloc (Grew.alloc (Grew.refl _) _) _⟩
  · rcases h with rfl | rfl
    · by_cases h0 : 0 ≤ a
      · by_cases h1 : a < x2
        · go_enter Tryz.func83, Tryz.ntmps83
          go_wp2
          go_ret
          refine ⟨by rw [HE.out true (by simp [fitsB, roomN]; omega)]; rfl, Grew.alloc (Grew.alloc (Grew.refl _) _) _⟩
        · have h1' : decide (a < x2) = false := by simpa using h1
          go_enter Tryz.func83, Tryz.ntmps83
          go_wp2
          go_ret
          refine ⟨by rw [HE.out false (by simp [fitsB, roomN]; omega)]; rfl, Grew.alloc (Grew.alloc (Grew.refl _) _) _⟩
      · have h0' : decide (0 ≤ a) = false := by simpa using h0
        go_enter Tryz.func83, Tryz.ntmps83
        go_wp2
        go_ret
        refine ⟨by rw [HE.out false (by simp [fitsB, roomN]; omega)]; rfl, Grew.alloc (Grew.alloc (Grew.refl _) _) _⟩
    · by_cases h0 : 0 ≤ a
      · by_cases h1 : a < x2
        · go_enter Tryz.func83, Tryz.ntmps83
          go_wp2
          go_ret
          refine ⟨by rw [HE.out true (by simp [fitsB, roomN]; omega)]; rfl, Grew.alloc (Grew.alloc (Grew.refl _) _) _⟩
        · have h1' : decide (a < x2) = false := by simpa using h1
          go_enter Tryz.func83, Tryz.ntmps83
          go_wp2
          go_ret
          refine ⟨by rw [HE.out false (by simp [fitsB, roomN]; omega)]; rfl, Grew.alloc (Grew.alloc (Grew.refl _) _) _⟩
      · have h0' : decide (0 ≤ a) = false := by simpa using h0
        go_enter Tryz.func83, Tryz.ntmps83
        go_wp2
        go_ret
        refine ⟨by rw [HE.out false (by simp [fitsB, roomN]; omega)]; rfl, Grew.alloc (Grew.alloc (Grew.refl _) _) _⟩
  · rcases h with rfl | rfl
    · by_cases h0 : 0 ≤ a
      · by_cases h1 : a < x3
        · go_enter Tryz.func83, Tryz.ntmps83
          go_wp2
          go_ret
          refine ⟨by rw [HE.out true (by simp [fitsB, roomN]; omega)]; rfl, Grew.alloc (Grew.alloc (Grew.refl _) _) _⟩
        · have h1' : decide (a < x3) = false := by simpa using h1
          go_enter Tryz.func83, Tryz.ntmps83
          go_wp2
          go_ret
          refine ⟨by rw [HE.out false (by simp [fitsB, roomN]; omega)]; rfl, Grew.alloc (Grew.alloc (Grew.refl _) _) _⟩
      · have h0' : decide (0 ≤ a) = false := by simpa using h0
        go_enter Tryz.func83, Tryz.ntmps83
        go_wp2
        go_ret
        refine ⟨by rw [HE.out false (by simp [fitsB, roomN]; omega)]; rfl, Grew.alloc (Grew.alloc (Grew.refl _) _) _⟩
    · by_cases h0 : 0 ≤ a
      · by_cases h1 : a < x3
        · go_enter Tryz.func83, Tryz.ntmps83
          go_wp2
          go_ret
          refine ⟨by rw [HE.out true (by simp [fitsB, roomN]; omega)]; rfl, Grew.alloc (Grew.alloc (Grew.refl _) _) _⟩
        · have h1' : decide (a < x3) = false := by simpa using h1
          go_enter Tryz.func83, Tryz.ntmps83
          go_wp2
          go_ret
          refine ⟨by rw [HE.out false (by simp [fitsB, roomN]; omega)]; rfl, Grew.alloc (Grew.alloc (Grew.refl _) _) _⟩
      · have h0' : decide (0 ≤ a) = false := by simpa using h0
        go_enter Tryz.func83, Tryz.ntmps83
        go_wp2
        go_ret
        refine ⟨by rw [HE.out false (by simp [fitsB, roomN]; omega)]; rfl, Grew.alloc (Grew.alloc (Grew.refl _) _) _⟩
  · obtain ⟨g1, g2, g3, g4, g5, g6, g7, g8, g9, g10⟩ := h
    by_cases h0 : 0 ≤ a
    · by_cases h1 : a < 1
      · go_enter Tryz.func83, Tryz.ntmps83
        go_wp2
        go_ret
        refine ⟨by rw [HE.out true (by simp [fitsB, roomN, g1, g2, g3, g4, g5, g6, g7, g8, g9, g10]; omega)]; rfl, Grew.alloc (Grew.alloc (Grew.refl _) _) _⟩
      · have h1' : decide (a < 1) = false := by simpa using h1
        go_enter Tryz.func83, Tryz.ntmps83
        go_wp2
        go_ret
        refine ⟨by rw [HE.out false (by simp [fitsB, roomN, g1, g2, g3, g4, g5, g6, g7, g8, g9, g10]; omega)]; rfl, Grew.alloc (Grew.alloc (Grew.refl _) _) _⟩
    · have h0' : decide (0 ≤ a) = false := by simpa using h0
      go_enter Tryz.func83, Tryz.ntmps83
      go_wp2
      go_ret
      refine ⟨by rw [HE.out false (by simp [fitsB, roomN, g1, g2, g3, g4, g5, g6, g7, g8, g9, g10]; omega)]; rfl, Grew.alloc (Grew.alloc (Grew.refl _) _) _⟩

end Go.Proofs.YtcaibgbhebldmaaGreat
/-
  THE WALKS OF look, Depths' first loop.
-/
namespace Go.Proofs.YtcaibgbhebldmaaGreat
open Go.RowKit Go.Sort

theorem KeysAt.get {w : World} {ao : Option Addr} {L : List K} (h : KeysAt w ao L) (j : Nat) (hj : j < L.length) : ∃ b off, ao = some ⟨b, off, none⟩ ∧ w.cell? ⟨b, off + j * 2, none⟩ = some (.int .i64 (cd L j).1) ∧ w.cell? ⟨b, off + j * 2 + 1, none⟩ = some (.int .i64 (cd L j).2) := by
  rcases h with rfl | ⟨b, off, rfl, hc⟩
  · simp at hj
  · exact ⟨b, off, rfl, KeysAt.at hc j hj⟩

set_option maxHeartbeats 2000000 in
theorem look_any (w : World) (p : Nums) (ao : Option Addr) (n cap i : Nat) (L : List K) (hp : NIn p) (h : KeysAt w ao L) (hn : n = L.length) (hi : i < n) :
    Calls Tryz.prog 68 #[pv p ao n cap, .int .i64 (i : Int)] w fun e w' => e = .returned (.int .i64 (lookN p n i (cd L i))) ∧ Below w.heap.size w w' := by
  obtain ⟨b, off, rfl, c1, c2⟩ := h.get i (by omega)
  have hlt : b < w.heap.size := cell_lt c1
  have HP : Hid (NIn p) := hp
  clear hp h hn
  generalize hk : cd L i = k at *
  obtain ⟨op, a⟩ := k
  simp only at c1 c2
  have HE : Hid (∀ x, lookN p n i (op, a) = x → lookN p n i (op, a) = x) := fun x h => h
  clear hk
  have HB : ∀ (q : Nat) (os : Array Obj) (W : World), Below w.heap.size w W → Below w.heap.size w (grow (W.drewN q) os) := fun q os W h => h.trans ((Grew.grow (Grew.refl W) q os).below.mono h.size)
  go_enter Tryz.func68, Tryz.ntmps68
  go_wp2_with fail
  refine (isOp_any _ _).mono ?_
  rintro e w1 ⟨rfl, rfl⟩
  cases ho : isOpB op with
  | false =>
    go_wp2
    go_ret
    refine ⟨by rw [HE.out 31 (by simp [lookN, ho])]; rfl, ?_⟩
    repeat (first | exact Below.refl _ _ | refine below_set ?_ _ _ (by simp <;> omega) | refine Below.alloc ?_ (by simp <;> omega) _)
  | true =>
    by_cases hj : op = 30 ∨ op = 31
    · by_cases ha : a ≤ (i : Int)
      · have HX : Hid (lookN p n i (op, a) = 33) := by rcases hj with rfl | rfl <;> simp [lookN, ho, jumpB, Hid] <;> omega
        rcases hj with rfl | rfl <;>
        (go_wp2
         go_ret
         refine ⟨by rw [HE.out 33 HX.out]; rfl, ?_⟩
         repeat (first | exact Below.refl _ _ | refine below_set ?_ _ _ (by simp <;> omega) | refine Below.alloc ?_ (by simp <;> omega) _))
      · have ha' : decide (a ≤ (i : Int)) = false := by simpa using ha
        by_cases hb : (n : Int) < a
        · have HX : Hid (lookN p n i (op, a) = 33) := by rcases hj with rfl | rfl <;> simp [lookN, ho, jumpB, Hid] <;> omega
          rcases hj with rfl | rfl <;>
          (go_wp2
           go_ret
           refine ⟨by rw [HE.out 33 HX.out]; rfl, ?_⟩
           repeat (first | exact Below.refl _ _ | refine below_set ?_ _ _ (by simp <;> omega) | refine Below.alloc ?_ (by simp <;> omega) _))
        · have hb' : decide ((n : Int) < a) = false := by simpa using hb
          have HX : Hid (lookN p n i (op, a) = 0) := by rcases hj with rfl | rfl <;> simp [lookN, ho, jumpB, fitsB, Hid] <;> omega
          have HF : Hid (fitsB p op a = true) := by rcases hj with rfl | rfl <;> simp [fitsB, Hid]
          rcases hj with rfl | rfl <;>
          (go_wp2_with fail
           refine (fits_any _ p _ _ _ _ _ HP.out).mono ?_
           rintro e w2 ⟨rfl, q, os, rfl⟩
           rw [HF.out]
           go_wp2
           go_ret
           refine ⟨by rw [HE.out 0 HX.out]; rfl, HB _ _ _ ?_⟩
           repeat (first | exact Below.refl _ _ | refine below_set ?_ _ _ (by simp <;> omega) | refine Below.alloc ?_ (by simp <;> omega) _))
    · have h30 : (op == 30) = false := by simp; omega
      have h31 : (op == 31) = false := by simp; omega
      have h30' : op ≠ 30 := by omega
      have h31' : op ≠ 31 := by omega
      clear hj
      go_wp2_with fail
      refine (fits_any _ p _ _ _ _ _ HP.out).mono ?_
      rintro e w2 ⟨rfl, q, os, rfl⟩
      cases hf : fitsB p op a with
      | false =>
        have HX : Hid (lookN p n i (op, a) = 32) := by simp [lookN, ho, jumpB, hf, h30', h31', Hid]
        go_wp2
        go_ret
        refine ⟨by rw [HE.out 32 HX.out]; rfl, HB _ _ _ ?_⟩
        repeat (first | exact Below.refl _ _ | refine below_set ?_ _ _ (by simp <;> omega) | refine Below.alloc ?_ (by simp <;> omega) _)
      | true =>
        have HX : Hid (lookN p n i (op, a) = 0) := by simp [lookN, ho, jumpB, hf, h30', h31', Hid]
        go_wp2
        go_ret
        refine ⟨by rw [HE.out 0 HX.out]; rfl, HB _ _ _ ?_⟩
        repeat (first | exact Below.refl _ _ | refine below_set ?_ _ _ (by simp <;> omega) | refine Below.alloc ?_ (by simp <;> omega) _)

end Go.Proofs.YtcaibgbhebldmaaGreat
/-
  DEPTHS: what the search keeps.
-/
namespace Go.Proofs.YtcaibgbhebldmaaGreat
open Go.RowKit Go.Sort

/-- instructions that were looked over -/
def Sane (L : List K) : Prop := ∀ i, i < L.length → isOpB (cd L i).1 = true ∧ (jumpB (cd L i).1 = true → (i : Int) < (cd L i).2 ∧ (cd L i).2 ≤ (L.length : Int))
theorem sane_of {p : Nums} {L : List K} (h : lookAll p L L.length = 0) : Sane L := by
  intro i hi
  have h1 := firstE_zero h i hi
  simp only [lookN] at h1
  cases ho : isOpB (cd L i).1 with
  | false => rw [if_pos ho] at h1; simp at h1
  | true =>
    rw [if_neg (by simp [ho])] at h1
    refine ⟨rfl, fun hj => ?_⟩
    by_cases hc : (cd L i).2 ≤ (i : Int) ∨ (L.length : Int) < (cd L i).2
    · rw [if_pos ⟨hj, hc⟩] at h1; simp at h1
    · omega
theorem next_lt {L : List K} (h : Sane L) {i : Nat} (hi : i < L.length) : ∀ t ∈ nextN i (cd L i).1 (cd L i).2, i < t ∧ t ≤ L.length := by
  obtain ⟨h1, h2⟩ := h i hi
  intro t ht
  unfold nextN at ht
  by_cases c1 : (cd L i).1 = 0 ∨ (cd L i).1 = 36
  · rw [if_pos c1] at ht; simp at ht
  · rw [if_neg c1] at ht
    by_cases c2 : (cd L i).1 = 31
    · have h3 := h2 (by simp [jumpB, c2])
      rw [if_pos c2] at ht
      simp at ht
      omega
    · rw [if_neg c2] at ht
      by_cases c3 : (cd L i).1 = 30
      · have h3 := h2 (by simp [jumpB, c3])
        rw [if_pos c3] at ht
        simp at ht
        omega
      · rw [if_neg c3] at ht
        simp at ht
        omega
theorem onw_next {L : List K} (h : Sane L) {i : Nat} (hi : i < L.length) : (onw i (cd L i).1 (cd L i).2).2.2 = ((nextN i (cd L i).1 (cd L i).2).length : Int) ∧
    (∀ t r, nextN i (cd L i).1 (cd L i).2 = t :: r → (onw i (cd L i).1 (cd L i).2).1 = (t : Int)) ∧ (∀ t u r, nextN i (cd L i).1 (cd L i).2 = t :: u :: r → (onw i (cd L i).1 (cd L i).2).2.1 = (u : Int)) := by
  obtain ⟨h1, h2⟩ := h i hi
  unfold nextN onw
  by_cases c1 : (cd L i).1 = 0 ∨ (cd L i).1 = 36
  · rw [if_pos c1, if_pos c1]; simp
  · rw [if_neg c1, if_neg c1]
    by_cases c2 : (cd L i).1 = 31
    · have h3 := h2 (by simp [jumpB, c2])
      rw [if_pos c2, if_pos c2]
      simp
      intro t u r _ h5 _
      omega
    · rw [if_neg c2, if_neg c2]
      by_cases c3 : (cd L i).1 = 30
      · have h3 := h2 (by simp [jumpB, c3])
        rw [if_pos c3, if_pos c3]
        simp
        omega
      · rw [if_neg c3, if_neg c3]
        simp
theorem next_two (i : Nat) (op a : Int) : (nextN i op a).length ≤ 2 := by
  unfold nextN; repeat (split; simp)
  simp
theorem putD_length {d d' : List Int} {x : Int} {r : List Nat} (h : putD d x r = some d') : d'.length = d.length := by
  induction r generalizing d with
  | nil => simp [putD] at h; rw [h]
  | cons t r ih =>
    unfold putD at h
    split at h
    · simp at h
    · rw [ih h, List.length_set]
theorem stepD_length {d d' : List Int} {k : K} {i : Nat} (h : stepD k i d = some d') : d'.length = d.length := by
  unfold stepD at h
  split at h
  · simp at h; rw [h]
  · split at h
    · simp at h
    · exact putD_length h
theorem runD_length {L : List K} {k : Nat} {d : List Int} (h : runD L k = some d) : d.length = L.length + 1 := by
  induction k generalizing d with
  | zero => simp [runD, startD] at h; rw [← h]; simp
  | succ k ih =>
    unfold runD at h
    cases h1 : runD L k with
    | none => rw [h1] at h; simp at h
    | some d1 => rw [h1] at h; simp at h; rw [stepD_length h, ih h1]
/-- depths are at least -1, at most 32 -/
def Mild (d : List Int) : Prop := ∀ j, j < d.length → -1 ≤ d.getD j 0 ∧ d.getD j 0 ≤ 32
theorem getD_set (d : List Int) (t j : Nat) (x : Int) (h : j < d.length) : (d.set t x).getD j 0 = if t = j then x else d.getD j 0 := by
  simp only [List.getD_eq_getElem?_getD, List.getElem?_set]
  by_cases e : t = j
  · subst e; simp [h]
  · simp [e]
theorem Mild.set {d : List Int} (h : Mild d) (t : Nat) {x : Int} (hx : -1 ≤ x ∧ x ≤ 32) : Mild (d.set t x) := by
  intro j hj
  rw [List.length_set] at hj
  rw [getD_set d t j x hj]
  split
  · exact hx
  · exact h j hj
theorem Mild.put {d d' : List Int} {x : Int} {r : List Nat} (h : Mild d) (hx : -1 ≤ x ∧ x ≤ 32) (hp : putD d x r = some d') : Mild d' := by
  induction r generalizing d with
  | nil => simp [putD] at hp; rw [← hp]; exact h
  | cons t r ih =>
    unfold putD at hp
    split at hp
    · simp at hp
    · exact ih (h.set t hx) hp
theorem Mild.step {d d' : List Int} {k : K} {i : Nat} (h : Mild d) (hk : isOpB k.1 = true) (hp : stepD k i d = some d') : Mild d' := by
  unfold stepD at hp
  split at hp
  · simp at hp; rw [← hp]; exact h
  · split at hp
    · simp at hp
    · have := leaves_bound hk
      exact h.put (by omega) hp
theorem Mild.run {L : List K} (hs : Sane L) {k : Nat} (hk : k ≤ L.length) {d : List Int} (h : runD L k = some d) : Mild d := by
  induction k generalizing d with
  | zero =>
    simp [runD, startD] at h
    rw [← h]
    intro j hj
    cases j with
    | zero => simp
    | succ j => simp at hj; simp [List.getD_eq_getElem?_getD, hj]
  | succ k ih =>
    unfold runD at h
    cases h1 : runD L k with
    | none => rw [h1] at h; simp at h
    | some d1 => rw [h1] at h; simp at h; exact (ih (by omega) h1).step (hs k (by omega)).1 h
theorem runD_stuck {L : List K} {k : Nat} (h : runD L k = none) (n : Nat) (hn : k ≤ n) : runD L n = none := by
  induction n with
  | zero => obtain rfl : k = 0 := by omega
            exact h
  | succ n ih =>
    by_cases e : k = n + 1
    · rw [← e]; exact h
    · unfold runD; rw [ih (by omega)]; rfl

end Go.Proofs.YtcaibgbhebldmaaGreat
