/-
  THE VALUE OF DIGITS, AND Number.
-/
import Derived.Test.YtnjgaibcpcpmcaaDoorPMath2
namespace Go.Proofs.YtnjgaibcpcpmcaaDoor

def val (A : List UInt8) : Nat := A.foldl (fun n c => 10 * n + (c.toNat - 48)) 0
theorem val_snoc (A : List UInt8) (c : UInt8) : val (A ++ [c]) = 10 * val A + (c.toNat - 48) := by simp [val]
theorem val_dd (u : Nat) : val (Lib.decDigits u) = u := by
  induction u using Nat.strongRecOn with
  | ind u ih =>
    by_cases h : u < 10
    · rw [Lib.decDigits_one h]
      have h1 := Dec.digit_toNat u h
      show 10 * 0 + ((UInt8.ofNat (48 + u)).toNat - 48) = u
      omega
    · rw [Dec.decDigits_rec u h, val_snoc, ih (u / 10) (by omega), Dec.digit_toNat (u % 10) (by omega)]
      omega
/-- digits with no 0 ahead are those of their value -/
theorem dd_val (A : List UInt8) (hA : ∀ c ∈ A, isD c = true) (hne : A ≠ []) (hz : A[0]? = some 48 → A.length = 1) : Lib.decDigits (val A) = A := by
  suffices H : ∀ n, ∀ A : List UInt8, A.length = n → (∀ c ∈ A, isD c = true) → A ≠ [] → (A[0]? = some 48 → A.length = 1) → Lib.decDigits (val A) = A from H _ A rfl hA hne hz
  intro n
  induction n with
  | zero => intro A hl _ hne _; exact absurd (List.eq_nil_of_length_eq_zero hl) hne
  | succ n ih =>
    intro A hl hA hne hz
    obtain ⟨B, c, rfl⟩ : ∃ B c, A = B ++ [c] := ⟨A.dropLast, A.getLast hne, (List.dropLast_concat_getLast hne).symm⟩
    have hc := hA c (by simp)
    simp only [isD, Bool.and_eq_true, decide_eq_true_eq] at hc
    have hcc : ∀ d, d < 10 → c.toNat = 48 + d → UInt8.ofNat (48 + d) = c := fun d hd h => UInt8.toNat_inj.1 (by rw [Dec.digit_toNat d hd, h])
    by_cases hB : B = []
    · subst hB
      have hv : val ([] ++ [c]) = c.toNat - 48 := by rw [val_snoc]; simp [val]
      rw [hv, Lib.decDigits_one (by omega)]
      rw [hcc (c.toNat - 48) (by omega) (by omega)]; rfl
    · have hBl : 0 < B.length := List.length_pos_iff.2 hB
      have hB0 : B[0]? ≠ some 48 := by
        intro h
        rw [List.getElem?_append_left hBl] at hz
        have := hz h
        rw [List.length_append, List.length_singleton] at this; omega
      have hI := ih B (by simp at hl; exact hl) (fun x hx => hA x (by simp [hx])) hB (fun h => absurd h hB0)
      have hvB : val B ≠ 0 := by
        intro h0
        rw [h0, Lib.decDigits_one (by omega)] at hI
        rw [← hI] at hB0
        exact hB0 rfl
      rw [val_snoc]
      rw [Dec.decDigits_rec _ (by omega), show (10 * val B + (c.toNat - 48)) / 10 = val B by omega, hI, show (10 * val B + (c.toNat - 48)) % 10 = c.toNat - 48 by omega, hcc (c.toNat - 48) (by omega) (by omega)]
theorem num1_false {l : List UInt8} (h : (Dec.num1 l).2 = false) : Dec.num1 l = (0, false) := by
  unfold Dec.num1 at *
  split at h
  · rename_i v hv
    split at h
    · cases h
    · rename_i e; rw [if_neg e]
  · rfl
theorem num1_digits (A : List UInt8) (hA : ∀ c ∈ A, isD c = true) (hne : A ≠ []) (hz : A[0]? = some 48 → A.length = 1) :
    Dec.num1 A = if val A ≤ 9223372036854775807 then ((val A : Int), true) else (0, false) := by
  have hd := dd_val A hA hne hz
  split
  · rename_i h
    have := num1_of (val A : Int) ⟨by omega, by omega⟩
    rw [itoa_pos _ (by omega), show ((val A : Int)).toNat = val A by omega, hd] at this
    exact this
  · rename_i h
    by_cases hb : (Dec.num1 A).2 = true
    · obtain ⟨e, i1, i2⟩ := num1_true hb
      exfalso
      by_cases hx : (Dec.num1 A).1 < 0
      · rw [itoa_neg _ hx] at e
        have := hA 45 (by rw [← e]; simp)
        exact absurd this (by decide)
      · rw [itoa_pos _ (by omega)] at e
        have := val_dd (Dec.num1 A).1.toNat
        rw [e] at this
        omega
    · exact num1_false (by simpa using hb)
theorem num1_minus (A : List UInt8) (hA : ∀ c ∈ A, isD c = true) (hne : A ≠ []) (hz : A[0]? ≠ some 48) :
    Dec.num1 (45 :: A) = if val A ≤ 9223372036854775808 then (-(val A : Int), true) else (0, false) := by
  have hd := dd_val A hA hne (fun h => absurd h hz)
  have hv : val A ≠ 0 := by
    intro h0
    rw [h0, Lib.decDigits_one (by omega)] at hd
    rw [← hd] at hz
    exact hz rfl
  split
  · rename_i h
    have := num1_of (-(val A : Int)) ⟨by omega, by omega⟩
    rw [itoa_neg _ (by omega), show (-(val A : Int)).natAbs = val A by omega, hd] at this
    exact this
  · rename_i h
    by_cases hb : (Dec.num1 (45 :: A)).2 = true
    · obtain ⟨e, i1, i2⟩ := num1_true hb
      exfalso
      by_cases hx : (Dec.num1 (45 :: A)).1 < 0
      · rw [itoa_neg _ hx] at e
        have e2 := (List.cons.inj e).2
        have := val_dd (Dec.num1 (45 :: A)).1.natAbs
        rw [e2] at this
        omega
      · rw [itoa_pos _ (by omega)] at e
        have := dd_isD (Dec.num1 (45 :: A)).1.toNat 45 (by rw [e]; simp)
        exact absurd this (by decide)
    · exact num1_false (by simpa using hb)

/-- the piece of the digits that stand at a place -/
def piece (l : List UInt8) (g : Nat) : List UInt8 := (l.take (g + run l g)).drop g
theorem piece_len (l : List UInt8) (g : Nat) : (piece l g).length = run l g := by
  have := run_le l g
  unfold piece
  by_cases h : g ≤ l.length
  · simp; omega
  · simp; omega
theorem piece_at (l : List UInt8) (g j : Nat) (hj : j < run l g) : (piece l g)[j]? = l[g + j]? := by
  unfold piece
  rw [List.getElem?_drop, List.getElem?_take_of_lt (by omega)]
theorem piece_isD (l : List UInt8) (g : Nat) : ∀ c ∈ piece l g, isD c = true := by
  intro c hc
  obtain ⟨j, hj⟩ := List.getElem?_of_mem hc
  have hjl : j < run l g := by rw [← piece_len]; exact (List.getElem?_eq_some_iff.1 hj).1
  rw [piece_at l g j hjl] at hj
  obtain ⟨d, hd, hdd⟩ := run_all l g j hjl
  rw [hj] at hd
  rw [Option.some.inj hd]; exact hdd
theorem digs_ok {l : List UInt8} {g : Nat} (h0 : run l g ≠ 0) (h1 : ¬ (l[g]? = some 48 ∧ 1 < run l g)) : digs l g = (g + run l g, 0) := by
  unfold digs; rw [if_neg h0, if_neg h1]
theorem num1_piece {l : List UInt8} {g : Nat} (h0 : run l g ≠ 0) (h1 : ¬ (l[g]? = some 48 ∧ 1 < run l g)) :
    Dec.num1 (piece l g) = if val (piece l g) ≤ 9223372036854775807 then ((val (piece l g) : Int), true) else (0, false) := by
  refine num1_digits _ (piece_isD l g) (fun h => h0 (by rw [← piece_len, h]; rfl)) fun h => ?_
  rw [piece_len]
  rw [piece_at l g 0 (by omega)] at h
  have : ¬ 1 < run l g := fun h2 => h1 ⟨h, h2⟩
  omega
theorem tab_ref {l : List UInt8} (h0 : run l 0 ≠ 0) (h1 : ¬ (l[0]? = some 48 ∧ 1 < run l 0)) : tab l = if val (piece l 0) ≤ 65535 then ((val (piece l 0) : Int), run l 0, 0) else (0, 0, 41) := by
  have hd := digs_ok h0 h1
  have hn := num1_piece h0 h1
  have hp : l.take (run l 0) = piece l 0 := by unfold piece; simp
  unfold tab
  rw [hd]
  simp only [Nat.zero_add, if_true, hp, hn]
  by_cases h2 : val (piece l 0) ≤ 65535
  · rw [if_pos (by omega : val (piece l 0) ≤ 9223372036854775807), if_pos ⟨rfl, by simp; omega⟩, if_pos h2]
  · rw [if_neg h2]
    by_cases h3 : val (piece l 0) ≤ 9223372036854775807
    · rw [if_pos h3, if_neg]
      rintro ⟨_, h4⟩
      simp only at h4
      omega
    · rw [if_neg h3, if_neg (by simp)]
theorem rest_ref {l : List UInt8} {f : Nat} (h0 : run l f ≠ 0) (h1 : ¬ (l[f]? = some 48 ∧ 1 < run l f)) : rest l f f = if val (piece l f) ≤ 9223372036854775807 then ((val (piece l f) : Int), f + run l f, 0) else (0, f, 41) := by
  have hd := digs_ok h0 h1
  have hn := num1_piece h0 h1
  unfold rest
  rw [hd]
  simp only [if_true]
  rw [show (l.take (f + run l f)).drop f = piece l f from rfl, hn]
  by_cases h2 : val (piece l f) ≤ 9223372036854775807
  · rw [if_pos h2, if_pos rfl, if_pos h2]
  · rw [if_neg h2, if_neg (by simp), if_neg h2]
theorem rest_minus {l : List UInt8} {f : Nat} (hm : l[f]? = some 45) (h0 : run l (f + 1) ≠ 0) (h1 : l[f + 1]? ≠ some 48) : rest l f (f + 1) = if val (piece l (f + 1)) ≤ 9223372036854775808 then (-(val (piece l (f + 1)) : Int), f + 1 + run l (f + 1), 0) else (0, f, 41) := by
  have hd := digs_ok h0 (fun h => h1 h.1)
  have hlt : f < l.length := (List.getElem?_eq_some_iff.1 hm).1
  have hp : (l.take (f + 1 + run l (f + 1))).drop f = 45 :: piece l (f + 1) := by
    unfold piece
    have hl2 : f < (l.take (f + 1 + run l (f + 1))).length := by simp; omega
    rw [List.drop_eq_getElem_cons hl2]
    congr 1
    have : (l.take (f + 1 + run l (f + 1)))[f]? = some 45 := by rw [List.getElem?_take_of_lt (by omega)]; exact hm
    exact (List.getElem?_eq_some_iff.1 this).2
  have hn := num1_minus (piece l (f + 1)) (piece_isD l (f + 1)) (fun h => h0 (by rw [← piece_len, h]; rfl)) (by rw [piece_at l (f + 1) 0 (by omega)]; exact h1)
  unfold rest
  rw [hd]
  simp only [if_true]
  rw [hp, hn]
  by_cases h2 : val (piece l (f + 1)) ≤ 9223372036854775808
  · rw [if_pos h2, if_pos rfl, if_pos h2]
  · rw [if_neg h2, if_neg (by simp), if_neg h2]
theorem rest_40 {l : List UInt8} {f g : Nat} (h0 : run l g = 0) : rest l f g = (0, g, 40) := by
  have hd : digs l g = (g, 40) := by unfold digs; rw [if_pos h0]
  unfold rest; rw [hd]; rfl
theorem rest_41 {l : List UInt8} {f g : Nat} (h1 : l[g]? = some 48) (h2 : 1 < run l g) : rest l f g = (0, g + 1, 40) := by
  have hd : digs l g = (g + 1, 40) := by unfold digs; rw [if_neg (by omega), if_pos ⟨h1, h2⟩]
  unfold rest; rw [hd]; rfl
theorem val_mono (A : List UInt8) (k : Nat) : val (A.take k) ≤ val A := by
  suffices H : ∀ B : List UInt8, ∀ A, val A ≤ val (A ++ B) by
    have := H (A.drop k) (A.take k)
    rwa [List.take_append_drop] at this
  intro B
  induction B with
  | nil => intro A; simp
  | cons c B ih =>
    intro A
    have h1 := ih (A ++ [c])
    rw [List.append_assoc] at h1
    have h2 := val_snoc A c
    exact Nat.le_trans (by omega) h1

end Go.Proofs.YtnjgaibcpcpmcaaDoor
