import Derived.Test.YtmkomfbjgmgemaaGreatDoorJLRound
import Derived.Test.YtmkomfbjgmgemaaGreatDoorJScan
import Derived.Test.YtmkomfbjgmgemaaGreatDoorJALLine
/-
  A PROGRAM IS READ BACK OF ITS BYTES.
-/
namespace Go.Proofs.YtmkomfbjgmgemaaGreatDoor
open Go.RowKit Go.Sort

theorem fold_zero {a : Int} (h : unfold (fold a) = a) (ha : a ≠ 0) : unfold (fold a) ≠ 0 := by rw [h]; exact ha
theorem drop_at {b X R : List Nat} {p : Nat} (h : b.drop p = X ++ R) : b.drop (p + X.length) = R := by
  rw [← List.drop_drop, h, List.drop_left]
theorem getI_at (b : List Nat) (p : Nat) (k : K) (R : List Nat) (ho : isOpB k.1 = true) (hk : KIn k) (h : b.drop p = instrB k ++ R) : getI b p 0 = (k, p + (instrB k).length, 0) := by
  obtain ⟨op, a⟩ := k
  have ho' := ho
  simp only [isOpB, Bool.and_eq_true, decide_eq_true_eq] at ho'
  obtain ⟨o, rfl⟩ := Int.eq_ofNat_of_zero_le ho'.1
  have ho1 : o < 37 := by omega
  have hu := unfold_fold a hk.2.1 hk.2.2
  by_cases h0 : a = 0
  · subst h0
    have e1 : instrB ((o : Int), 0) = [o] := by simp [instrB]
    rw [e1] at h ⊢
    have hb := rdByte_at b p o R h
    have e2 : (o : Int) % 64 = o := by omega
    unfold getI
    rw [hb]
    simp only [getE2, e2]
    rw [if_neg (by rw [ho]; simp; omega)]
    unfold getT
    rw [if_neg (by omega), e2]
    rfl
  · have e1 : instrB ((o : Int), a) = (o + 64) :: uint 10 (fold a) := by simp [instrB, h0]
    rw [e1] at h ⊢
    have hb := rdByte_at b p (o + 64) (uint 10 (fold a) ++ R) h
    have hd : b.drop (p + 1) = uint 10 (fold a) ++ R := drop_at (X := [o + 64]) h
    have hr := rdUpto_at b (p + 1) (fold a) 18446744073709551615 R (fold_lt a hk.2.1 hk.2.2) (by have := fold_lt a hk.2.1 hk.2.2; omega) hd
    have e2 : ((o + 64 : Nat) : Int) % 64 = o := by omega
    unfold getI
    rw [hb]
    simp only [getE2, e2]
    rw [if_neg (by rw [ho]; simp; omega)]
    unfold getT
    rw [if_pos (by omega), hr, e2]
    simp only [hu]
    rw [if_neg h0]
    simp
    omega
theorem getL_at (b : List Nat) (p : Nat) (L : List K) (R : List Nat) (ho : opsB L = true) (hk : ∀ k ∈ L, KIn k) (h : b.drop p = codeB L ++ R) : ∀ k, k ≤ L.length → getL b p 0 k = (L.take k, p + (codeB (L.take k)).length, 0)
  | 0, _ => by simp [getL, codeB]
  | k + 1, hkl => by
    have ih := getL_at b p L R ho hk h k (by omega)
    have hlt : k < L.length := by omega
    have hc := codeB_take L k hlt
    have hsp : codeB L = codeB (L.take (k + 1)) ++ codeB (L.drop (k + 1)) := by rw [← codeB_append, List.take_append_drop]
    have hd : b.drop (p + (codeB (L.take k)).length) = instrB (cd L k) ++ (codeB (L.drop (k + 1)) ++ R) := by
      refine drop_at (X := codeB (L.take k)) ?_
      rw [h, hsp, hc]; simp
    have hi := getI_at b _ (cd L k) _ (opsB_cd ho hlt) (hk _ (cd_mem hlt)) hd
    simp only [getL, ih, hi]
    have ht : L.take (k + 1) = L.take k ++ [cd L k] := by
      rw [List.take_succ_eq_append_getElem hlt]; simp [cd, List.getD_eq_getElem?_getD, List.getElem?_eq_getElem hlt]
    rw [hc, ht, List.length_append, Nat.add_assoc]
theorem getP_at (b : List Nat) (p : Nat) (q : Nums) (L : List K) (R : List Nat) (hl : limB q L.length = true) (ho : opsB L = true) (hk : ∀ k ∈ L, KIn k) (h : b.drop p = progB q L ++ R) : getP b p 0 = (q, L, p + (progB q L).length, 0) := by
  obtain ⟨⟨a0, a1⟩, ⟨r0, r1⟩, ⟨w0, w1⟩, ⟨l0, l1⟩, hn⟩ := (limB_iff q L.length).1 hl
  have hH : headB q L.length 5 = uint 10 q.args.toNat ++ (uint 10 q.reads.toNat ++ (uint 10 q.writes.toNat ++ (uint 10 q.locals.toNat ++ (uint 10 L.length ++ [])))) := rfl
  have h0 : b.drop p = uint 10 q.args.toNat ++ (uint 10 q.reads.toNat ++ (uint 10 q.writes.toNat ++ (uint 10 q.locals.toNat ++ (uint 10 L.length ++ (codeB L ++ R))))) := by
    rw [h]; unfold progB; rw [hH]; simp
  have x0 := rdUpto_at b p q.args.toNat 16 _ (by omega) (by omega) h0
  have d1 := drop_at h0
  have x1 := rdUpto_at b _ q.reads.toNat 16 _ (by omega) (by omega) d1
  have d2 := drop_at d1
  have x2 := rdUpto_at b _ q.writes.toNat 16 _ (by omega) (by omega) d2
  have d3 := drop_at d2
  have x3 := rdUpto_at b _ q.locals.toNat 16 _ (by omega) (by omega) d3
  have d4 := drop_at d3
  have x4 := rdUpto_at b _ L.length 256 _ (by omega) (by omega) d4
  have d5 := drop_at d4
  have hg := getL_at b _ L R ho hk d5 L.length (Nat.le_refl _)
  rw [List.take_length] at hg
  have hh : getH b p 0 = (⟨(q.args.toNat : Int), (q.reads.toNat : Int), (q.writes.toNat : Int), (q.locals.toNat : Int)⟩, L.length, p + (uint 10 q.args.toNat).length + (uint 10 q.reads.toNat).length + (uint 10 q.writes.toNat).length + (uint 10 q.locals.toNat).length + (uint 10 L.length).length, 0) := by
    simp only [getH, x0, x1, x2, x3, x4]
  have hq : (⟨(q.args.toNat : Int), (q.reads.toNat : Int), (q.writes.toNat : Int), (q.locals.toNat : Int)⟩ : Nums) = q := by
    obtain ⟨y0, y1, y2, y3⟩ := q
    simp only at a0 r0 w0 l0
    simp only [Nums.mk.injEq]; omega
  rw [hq] at hh
  simp only [getP, hh, hg]
  rw [if_pos trivial]
  unfold progB
  rw [hH]
  simp only [List.length_append, List.length_nil, Prod.mk.injEq, true_and, and_true]
  omega
end Go.Proofs.YtmkomfbjgmgemaaGreatDoor
/-
  THE WALKS OF codec.Reader's METHODS: End; codec.Read.
-/
namespace Go.Proofs.YtmkomfbjgmgemaaGreatDoor
open Go.RowKit

def rdEnd (b : List Nat) (p : Nat) (e : Int) : Int := if e = 0 ∧ p < b.length then 11 else e


end Go.Proofs.YtmkomfbjgmgemaaGreatDoor
