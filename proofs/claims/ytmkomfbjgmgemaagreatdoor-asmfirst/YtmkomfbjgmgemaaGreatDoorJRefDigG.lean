import Derived.Test.YtmkomfbjgmgemaaGreatDoorJLawNames
import Derived.Test.YtmkomfbjgmgemaaGreatDoorJBytes
import Derived.Test.YtmkomfbjgmgemaaGreatDoorJAMath
import Derived.Lib.ItoaMem
import Derived.Test.YtmkomfbjgmgemaaGreatDoorJLFits
/-
  THE WALK OF preluderef01.Digits.
-/
namespace Go.Proofs.YtmkomfbjgmgemaaGreatDoor
open Go.RowKit Go.Sort

def str (l : List UInt8) : Value := .string ⟨l.toArray⟩
/-- what the loop holds: the digits that are still to come, and those that are there -/
def Tail (u r : Nat) (l : List UInt8) : Prop := if r = 0 then l = Lib.decDigits u else Lib.decDigits r ++ l = Lib.decDigits u
theorem Tail.step {u r : Nat} {l : List UInt8} (h : Tail u r l) (hr : r ≠ 0) : Tail u (r / 10) (UInt8.ofNat (48 + r % 10) :: l) := by
  unfold Tail at *
  rw [if_neg hr] at h
  by_cases h10 : r < 10
  · rw [if_pos (by omega), ← h, Lib.decDigits_one h10, show r % 10 = r by omega]; rfl
  · rw [if_neg (by omega), ← h, Dec.decDigits_rec r h10, List.append_assoc]; rfl

theorem Tail.le {u r : Nat} {l : List UInt8} (h : Tail u r l) (hu : u ≤ 9223372036854775808) : l.length ≤ 19 := by
  have hl := Dec.len_digits u hu
  unfold Tail at h
  split at h
  · rw [h]; exact hl
  · rw [← h, List.length_append] at hl; omega

theorem one_string (w : World) (q : Nat) : (convert 71 9 (.slice (some ⟨w.heap.size, 0, none⟩) 1 1)).run Tryz.prog (w.alloc (.cells #[.int .u8 (48 + (q : Int) % 10)] 5)) =
    .ok (.string ⟨[UInt8.ofNat (48 + q % 10)].toArray⟩) (w.alloc (.cells #[.int .u8 (48 + (q : Int) % 10)] 5)) := by
  refine run_convert_bytes_back (P := Tryz.prog) _ 71 9 5 ⟨w.heap.size, 0, none⟩ 1 [UInt8.ofNat (48 + q % 10)] Tryz.underlying71 Tryz.underlying5 Tryz.underlying9 ?_
  intro j hj
  obtain rfl : j = 0 := by simp at hj; omega
  have e : (⟨w.heap.size, 0, none⟩ : Addr).add 0 = ⟨w.heap.size, 0, none⟩ := rfl
  rw [e, World.cell?_alloc_at _ _ _ _ rfl]
  simp only [List.getElem_cons_zero, Dec.digit_toNat (q % 10) (by omega)]
  simp

/-- the loop, from a number above nought on -/
theorem cat (c : UInt8) (l : List UInt8) : (ByteArray.mk #[c] ++ ByteArray.mk l.toArray) = ByteArray.mk (c :: l).toArray := by
  have := ByteArray.mk_append_mk [c] l
  simpa using this
theorem d48 (x : Nat) : (48 : UInt8) + UInt8.ofNat x = UInt8.ofNat (48 + x) := by rw [UInt8.ofNat_add]; rfl
theorem size_mk (l : List UInt8) : (ByteArray.mk l.toArray).size = l.length := by simp [ByteArray.size]

end Go.Proofs.YtmkomfbjgmgemaaGreatDoor
/-
  A LISTING'S TEXTS: the walks of Digits, labelOf, isJump, instruction.
-/
namespace Go.Proofs.YtmkomfbjgmgemaaGreatDoor
open Go.RowKit Go.Sort Go.Shelf

/-- signs as a text -/
def S (l : List UInt8) : ByteArray := ⟨l.toArray⟩
theorem S_app (a b : List UInt8) : S a ++ S b = S (a ++ b) := ByteArray.mk_append_mk a b
theorem S_size (l : List UInt8) : (S l).size = l.length := by simp [S, ByteArray.size]
theorem S_of (s : ByteArray) : S s.data.toList = s := by simp [S]
theorem S_fit (a b : List UInt8) (h : a.length + b.length ≤ 9223372036854775807) : ¬ ((S a).size + (S b).size > 9223372036854775807) := by rw [S_size, S_size]; omega
/-- a number's digits -/
def dg (n : Int) : List UInt8 := Lib.itoa n
theorem dg_len {n : Int} (h : In64 n) : (dg n).length ≤ 20 := by
  unfold dg
  by_cases hn : n < 0
  · obtain ⟨u, hu⟩ : ∃ u : Nat, n = -(u : Int) := ⟨n.natAbs, by omega⟩
    subst hu
    have := Dec.len_digits u (by have := h.1; omega)
    rw [Lib.itoa_neg u (by omega)]; simp; omega
  · obtain ⟨u, rfl⟩ := Int.eq_ofNat_of_zero_le (show 0 ≤ n by omega)
    have := Dec.len_digits u (by have := h.2; omega)
    rw [Lib.itoa_nonneg]; omega
theorem digits_any (w : World) (n : Int) (h : In64 n) (hv : DigVars w) : Calls Tryz.prog 18 #[.int .i64 n] w fun e w' => e = .returned (.string (S (dg n))) ∧ Grew w w' := by
  go_enter Tryz.func18, Tryz.ntmps18
  go_wp2_with fail
  refine (show Calls Tryz.prog 30 #[.int .i64 n, .int .i64 10] w _ from Any.strconv_FormatInt_10 laysM173 n h.1 h.2 w hv).mono ?_
  rintro e w' ⟨rfl, k, os, rfl⟩
  have HG : Hid (Grew w (Sort.grow (w.drewN k) os)) := ⟨k, os, rfl⟩
  go_wp2
  go_ret
  exact ⟨rfl, HG.out⟩
def labelL (n : Int) : List UInt8 := 76 :: dg n
theorem labelL_len {n : Int} (h : In64 n) : (labelL n).length ≤ 21 := by have := dg_len h; simp [labelL]; omega
theorem labelOf_any (w : World) (n : Int) (h : In64 n) (hv : DigVars w) : Calls Tryz.prog 36 #[.int .i64 n] w fun e w' => e = .returned (.string (S (labelL n))) ∧ Grew w w' := by
  have hl := dg_len h
  go_enter Tryz.func36, Tryz.ntmps36
  go_wp2_with fail
  refine (digits_any w n h hv).mono ?_
  rintro e w' ⟨rfl, hg⟩
  have HG : Hid (Grew w w') := hg
  have hs : ¬ ((ByteArray.mk #[76]).size + (S (dg n)).size > 9223372036854775807) := S_fit [76] (dg n) (by simp; omega)
  clear hg
  go_wp2
  go_ret
  exact ⟨by rw [show ByteArray.mk #[76] = S [76] from rfl, S_app]; rfl, HG.out⟩
theorem isJump_any (w : World) (op : Int) : Calls Tryz.prog 62 #[.int .i64 op] w fun e w' => e = .returned (.bool (jumpB op)) ∧ w' = w := by
  go_enter Tryz.func62, Tryz.ntmps62
  by_cases h1 : op = 30
  · subst h1
    go_wp2
    go_ret
    exact ⟨rfl, rfl⟩
  · by_cases h2 : op = 31
    · subst h2
      go_wp2
      go_ret
      exact ⟨rfl, rfl⟩
    · have h1' : (op == 30) = false := by simpa using h1
      have h2' : (op == 31) = false := by simpa using h2
      have HE : Hid (jumpB op = false) := by simp [Hid, jumpB, h1, h2]
      clear h1 h2
      go_wp2
      go_ret
      exact ⟨by rw [HE.out]; rfl, rfl⟩
/-- an instruction's name -/
def sp (op : Int) : List UInt8 := (spellS op).data.toList
theorem sp_len (op : Int) : (sp op).length ≤ 8 := by
  unfold sp
  cases ho : isOpB op with
  | false => rw [spellS_no ho]; simp
  | true =>
    rw [spellS_op ho]
    have ho' := ho
    simp only [isOpB, Bool.and_eq_true, decide_eq_true_eq] at ho'
    obtain ⟨i, rfl⟩ := Int.eq_ofNat_of_zero_le ho'.1
    have hi : i < 37 := by omega
    have : ∀ j : Nat, j < 37 → (nmOf (j : Int)).data.toList.length ≤ 8 := by decide +kernel
    exact this i hi
/-- an instruction, and its argument -/
def instrL (k : K) : List UInt8 := if jumpB k.1 = true then sp k.1 ++ 32 :: labelL k.2 else if wantsB k.1 = true then sp k.1 ++ 32 :: dg k.2 else sp k.1
theorem instrL_len {k : K} (h : KIn k) : (instrL k).length ≤ 40 := by
  have h1 := sp_len k.1
  have h2 := dg_len h.2
  unfold instrL
  split
  · simp [labelL]; omega
  · split
    · simp; omega
    · omega
end Go.Proofs.YtmkomfbjgmgemaaGreatDoor
/-
  split: LINES AND WORDS IN MEMORY.
-/
namespace Go.Proofs.YtmkomfbjgmgemaaGreatDoor
open Go.RowKit Go.Sort

def wcs : List Wd → List Value
  | [] => []
  | x :: ws => .string (S x.1) :: .int .i64 (x.2 : Int) :: wcs ws
theorem wcs_len (ws : List Wd) : (wcs ws).length = ws.length * 2 := by
  induction ws with
  | nil => rfl
  | cons x ws ih => simp only [wcs, List.length_cons, ih]; omega
theorem wcs_app (a b : List Wd) : wcs (a ++ b) = wcs a ++ wcs b := by
  induction a with
  | nil => rfl
  | cons x a ih => simp [wcs, ih]
theorem wcs_one (ws : List Wd) : ∀ v ∈ wcs ws, v.oneCell' = true := by
  induction ws with
  | nil => simp [wcs]
  | cons x ws ih =>
    intro v hv
    simp only [wcs, List.mem_cons] at hv
    rcases hv with rfl | rfl | h
    · rfl
    · rfl
    · exact ih v h
/-- a line's words, in a row between M and N -/
def LnAt (W : World) (M N : Nat) (v : Value) (ws : List Wd) : Prop := W.ownsRow M 76 2 v ws.length (wcs ws) ∧ ∀ g, v.ownBlock = some g → g < N
def LnsAt (W : World) (M N : Nat) (vals : List Value) (ls : List (List Wd)) : Prop := vals.length = ls.length ∧ ∀ (i : Nat) (v : Value) (ws : List Wd), vals[i]? = some v → ls[i]? = some ws → LnAt W M N v ws
theorem LnAt.same {W W' : World} {M N : Nat} {v : Value} {ws : List Wd} (h : LnAt W M N v ws) (hs : ∀ g, v.ownBlock = some g → W'.heap[g]? = W.heap[g]?) : LnAt W' M N v ws := ⟨ownsRow_same h.1 hs, h.2⟩
theorem LnsAt.same {W W' : World} {M N : Nat} {vals : List Value} {ls : List (List Wd)} (h : LnsAt W M N vals ls) (hs : ∀ g v ws, LnAt W M N v ws → v.ownBlock = some g → W'.heap[g]? = W.heap[g]?) : LnsAt W' M N vals ls :=
  ⟨h.1, fun i v ws h1 h2 => (h.2 i v ws h1 h2).same (fun g hg => hs g v ws (h.2 i v ws h1 h2) hg)⟩
/-- the state of split -/
structure SpI (w W : World) (sb : ByteArray) (k N : Nat) (x : Sc) (vl vw : Value) : Prop where
  it : W.heap[w.heap.size]? = some (.stringIter sb k)
  bel : Go.RowKit.Below w.heap.size w W
  lo : w.heap.size + 1 ≤ N
  hi : N ≤ W.heap.size
  ln : ∃ vals, W.ownsRow (w.heap.size + 1) 56 1 vl x.lines.length vals ∧ LnsAt W (w.heap.size + 1) N vals x.lines ∧ ∀ v ∈ vals, v.oneCell' = true
  wd : W.ownsRow N 76 2 vw x.words.length (wcs x.words)
section
variable {w W W' : World} {sb : ByteArray} {k N : Nat} {x : Sc} {vl vw v' : Value}
theorem SpI.kept (h : SpI w W sb k N x vl vw) (hb : Go.RowKit.Below W.heap.size W W') : SpI w W' sb k N x vl vw := by
  obtain ⟨vals, h1, h2, h3⟩ := h.ln
  have hlt : w.heap.size < W.heap.size := by have := h.lo; have := h.hi; omega
  exact ⟨(hb.block _ hlt).trans h.it, h.bel.trans (hb.mono h.bel.size), h.lo, Nat.le_trans h.hi hb.size, ⟨vals, ownsRow_same h1 (fun g hg => hb.block g (World.ownsRow.lt h1 g hg).2), h2.same (fun g v ws hl hg => hb.block g (World.ownsRow.lt hl.1 g hg).2), h3⟩, ownsRow_same h.wd (fun g hg => hb.block g (World.ownsRow.lt h.wd g hg).2)⟩
theorem SpI.move (h : SpI w W sb k N x vl vw) (k' : Nat) : SpI w (W.iterAt w.heap.size sb k') sb k' N x vl vw := by
  obtain ⟨vals, h1, h2, h3⟩ := h.ln
  have hlo := h.lo
  have ho : ∀ g, w.heap.size + 1 ≤ g → (W.iterAt w.heap.size sb k').heap[g]? = W.heap[g]? := fun g hg => Lib.iterAt_other W w.heap.size g sb k' (by omega)
  exact ⟨Lib.iterAt_heap W w.heap.size sb k k' h.it, Lib.below_iterAt h.bel (Nat.le_refl _) sb k', h.lo, by rw [Lib.iterAt_size]; exact h.hi, ⟨vals, ownsRow_same h1 (fun g hg => ho g (World.ownsRow.lt h1 g hg).1), h2.same (fun g v ws hl hg => ho g (World.ownsRow.lt hl.1 g hg).1), h3⟩, ownsRow_same h.wd (fun g hg => ho g (by have := (World.ownsRow.lt h.wd g hg).1; omega))⟩
/-- other fields of the state -/
theorem SpI.turn (h : SpI w W sb k N x vl vw) (y : Sc) (h1 : y.lines = x.lines) (h2 : y.words = x.words) : SpI w W sb k N y vl vw := ⟨h.it, h.bel, h.lo, h.hi, by rw [h1]; exact h.ln, by rw [h2]; exact h.wd⟩
/-- a word more -/
theorem SpI.word (h : SpI w W sb k N x vl vw) {z : Wd} (h1 : W'.ownsRow N 76 2 v' (x.words.length + 1) (wcs x.words ++ wcs [z])) (h2 : W.grownBy W' vw.ownBlock) (y : Sc) (e1 : y.lines = x.lines) (e2 : y.words = x.words ++ [z]) : SpI w W' sb k N y vl v' := by
  obtain ⟨vals, l1, l2, l3⟩ := h.ln
  have hlo := h.lo; have hhi := h.hi
  have hb : ∀ b, b < W.heap.size → b < N → W'.heap[b]? = W.heap[b]? := fun b hb hn => h2.block b hb (fun e => by have := (World.ownsRow.lt h.wd b e.symm).1; omega)
  refine ⟨(hb _ (by omega) (by omega)).trans h.it, h.bel.trans ⟨h2.os, h2.tape, h2.output, h2.size, fun b hb' => hb b (by omega) (by omega)⟩, h.lo, Nat.le_trans h.hi h2.size, ⟨vals, ?_, ?_, l3⟩, ?_⟩
  · rw [e1]; exact ownsRow_same l1 (fun g hg => h2.block g (World.ownsRow.lt l1 g hg).2 (fun e => own_apart l1 h.wd (by decide) hg e.symm))
  · rw [e1]; exact l2.same (fun g v ws hl hg => hb g (World.ownsRow.lt hl.1 g hg).2 (hl.2 g hg))
  · rw [e2, List.length_append, wcs_app]; exact h1
/-- a line more -/
theorem SpI.line (h : SpI w W sb k N x vl vw) {vals : List Value} (l1 : W.ownsRow (w.heap.size + 1) 56 1 vl x.lines.length vals) (l2 : LnsAt W (w.heap.size + 1) N vals x.lines) (l3 : ∀ v ∈ vals, v.oneCell' = true) (hv : vw.oneCell' = true) (h1 : W'.ownsRow (w.heap.size + 1) 56 1 v' (x.lines.length + 1) (vals ++ [vw])) (h2 : W.grownBy W' vl.ownBlock) (y : Sc) (e1 : y.lines = x.lines ++ [x.words]) (e2 : y.words = []) : SpI w W' sb k W'.heap.size y v' (.slice none 0 0) := by
  have hlo := h.lo; have hhi := h.hi; have hs := h2.size
  have hb : ∀ b, b < W.heap.size → (∀ g, vl.ownBlock = some g → g ≠ b) → W'.heap[b]? = W.heap[b]? := fun b hb hn => h2.block b hb (fun e => hn b e.symm rfl)
  have hw : ∀ {v : Value} {ws : List Wd} {M : Nat}, W.ownsRow M 76 2 v ws.length (wcs ws) → W'.ownsRow M 76 2 v ws.length (wcs ws) := fun hl => ownsRow_same hl (fun g hg => h2.block g (World.ownsRow.lt hl g hg).2 (fun e => own_apart hl l1 (by decide) hg e.symm))
  refine ⟨(hb _ (by omega) (fun g hg => by have := (World.ownsRow.lt l1 g hg).1; omega)).trans h.it, h.bel.trans ⟨h2.os, h2.tape, h2.output, h2.size, fun b hb' => hb b (by omega) (fun g hg => by have := (World.ownsRow.lt l1 g hg).1; omega)⟩, by omega, Nat.le_refl _, ⟨vals ++ [vw], ?_, ⟨?_, ?_⟩, ?_⟩, ?_⟩
  · rw [e1, List.length_append]; exact h1
  · rw [e1, List.length_append, List.length_append, l2.1]; rfl
  · intro i v ws hi hj
    rw [e1] at hj
    by_cases hlt : i < x.lines.length
    · rw [List.getElem?_append_left (by rw [l2.1]; exact hlt)] at hi
      rw [List.getElem?_append_left hlt] at hj
      have hl := l2.2 i v ws hi hj
      exact ⟨hw hl.1, fun g hg => by have := hl.2 g hg; omega⟩
    · rw [List.getElem?_append_right (by omega)] at hj
      rw [List.getElem?_append_right (by rw [l2.1]; omega), l2.1] at hi
      have hi0 : i - x.lines.length = 0 := by
        rcases Nat.eq_zero_or_pos (i - x.lines.length) with h0 | h0
        · exact h0
        · rw [List.getElem?_eq_none (by simp; omega)] at hj; cases hj
      rw [hi0] at hi hj
      simp only [List.getElem?_cons_zero, Option.some.injEq] at hi hj
      subst hi hj
      exact ⟨ownsRow_mono (hw h.wd) (by omega), fun g hg => by have := (World.ownsRow.lt h.wd g hg).2; omega⟩
  · intro v hv'
    rcases List.mem_append.1 hv' with h' | h'
    · exact l3 v h'
    · simp only [List.mem_singleton] at h'; subst h'; exact hv
  · rw [e2]; exact World.ownsRow_nil _ _ _ _
end
theorem SpI.start (w : World) (sb : ByteArray) : SpI w (w.iter sb 0) sb 0 (w.heap.size + 1) ⟨[], [], 0, none, false⟩ (.slice none 0 0) (.slice none 0 0) :=
  ⟨World.iter_heap w sb 0, (Below.refl _ _).alloc (Nat.le_refl _) _, Nat.le_refl _, by simp [World.iter], ⟨[], World.ownsRow_nil _ _ _ _, ⟨rfl, fun i v ws h => by simp at h⟩, by simp⟩, World.ownsRow_nil _ _ _ _⟩
theorem S_piece (l : List UInt8) (f t : Nat) : (S l).extract f t = S (pieceL l f t) := by
  have h : ((S l).extract f t).data.toList = pieceL l f t := by
    unfold pieceL
    rw [ByteArray.data_extract, Array.toList_extract, List.extract_eq_take_drop, List.drop_take]
    rfl
  rw [← h]
  exact (S_of _).symm
end Go.Proofs.YtmkomfbjgmgemaaGreatDoor
