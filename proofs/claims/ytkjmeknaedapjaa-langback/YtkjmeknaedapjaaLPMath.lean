/-
  A PROGRAM'S BYTES.
-/
import Derived.Test.YtkjmeknaedapjaaLMath
import Derived.Test.YtkjmeknaedapjaaWriter
namespace Go.Proofs.Ytkjmeknaedapjaa
open Go.RowKit

/-- an instruction's bytes -/
def instrB (k : K) : List Nat := if k.2 = 0 then [k.1.toNat] else (k.1.toNat + 64) :: uint 10 (fold k.2)
def codeB : List K → List Nat
  | [] => []
  | k :: L => instrB k ++ codeB L
theorem codeB_append (A B : List K) : codeB (A ++ B) = codeB A ++ codeB B := by
  induction A with
  | nil => rfl
  | cons k A ih => simp [codeB, ih]
def headN (p : Nums) (n : Nat) : List Nat := [p.args.toNat, p.reads.toNat, p.writes.toNat, p.locals.toNat, n]
def uints : List Nat → List Nat
  | [] => []
  | x :: r => uint 10 x ++ uints r
theorem uints_append (A B : List Nat) : uints (A ++ B) = uints A ++ uints B := by
  induction A with
  | nil => rfl
  | cons k A ih => simp [uints, ih]
def headB (p : Nums) (n k : Nat) : List Nat := uints ((headN p n).take k)
def opsB (L : List K) : Bool := L.all fun k => isOpB k.1
def progB (p : Nums) (L : List K) : List Nat := headB p L.length 5 ++ codeB L
/-- the bytes, and the error -/
def writtenN (p : Nums) (L : List K) : List Nat × Int :=
  if limB p L.length = false then ([], 30) else if opsB L = false then ([], 31) else (progB p L, 0)

theorem instrB_length (k : K) : (instrB k).length ≤ 12 := by
  unfold instrB
  split
  · simp
  · have := uint_length 10 (fold k.2); simp; omega
theorem codeB_length : ∀ L : List K, (codeB L).length ≤ 12 * L.length
  | [] => by simp [codeB]
  | k :: L => by
    have := codeB_length L
    have := instrB_length k
    simp [codeB]; omega
theorem uints_length : ∀ L : List Nat, (uints L).length ≤ 11 * L.length
  | [] => by simp [uints]
  | k :: L => by
    have := uints_length L
    have := uint_length 10 k
    simp [uints]; omega
theorem headB_length (p : Nums) (n k : Nat) : (headB p n k).length ≤ 55 := by
  have := uints_length ((headN p n).take k)
  have : ((headN p n).take k).length ≤ 5 := by simp [headN]; omega
  unfold headB; omega
theorem codeB_take (L : List K) (k : Nat) (h : k < L.length) : codeB (L.take (k + 1)) = codeB (L.take k) ++ instrB (cd L k) := by
  rw [List.take_succ_eq_append_getElem h, codeB_append]
  simp [codeB, cd, List.getD_eq_getElem?_getD, List.getElem?_eq_getElem h]
theorem codeB_take_length (L : List K) (k : Nat) : (codeB (L.take k)).length ≤ 12 * L.length := by
  have := codeB_length (L.take k)
  have : (L.take k).length ≤ L.length := by simp; omega
  omega
theorem headB_succ (p : Nums) (n k : Nat) (h : k < 5) : headB p n (k + 1) = headB p n k ++ uint 10 ((headN p n).getD k 0) := by
  have hl : k < (headN p n).length := by simpa [headN] using h
  unfold headB
  rw [List.take_succ_eq_append_getElem hl, uints_append]
  simp [uints, List.getD_eq_getElem?_getD, List.getElem?_eq_getElem hl]
theorem uints_lt : ∀ L : List Nat, ∀ z ∈ uints L, z < 256
  | [], z, hz => by simp [uints] at hz
  | k :: L, z, hz => by
    rcases List.mem_append.1 hz with h | h
    · exact uint_lt _ _ z h
    · exact uints_lt L z h
theorem instrB_lt (k : K) (h : isOpB k.1 = true) : ∀ z ∈ instrB k, z < 256 := by
  simp only [isOpB, Bool.and_eq_true, decide_eq_true_eq] at h
  intro z hz
  unfold instrB at hz
  split at hz
  · simp at hz; omega
  · rcases List.mem_cons.1 hz with h1 | h1
    · omega
    · exact uint_lt _ _ z h1
theorem codeB_lt : ∀ L : List K, (∀ k ∈ L, isOpB k.1 = true) → ∀ z ∈ codeB L, z < 256
  | [], _, z, hz => by simp [codeB] at hz
  | k :: L, h, z, hz => by
    rcases List.mem_append.1 hz with h1 | h1
    · exact instrB_lt k (h k (by simp)) z h1
    · exact codeB_lt L (fun x hx => h x (by simp [hx])) z h1
theorem opsB_mem {L : List K} (h : opsB L = true) : ∀ k ∈ L, isOpB k.1 = true := List.all_eq_true.1 h
theorem cd_mem {L : List K} {j : Nat} (h : j < L.length) : cd L j ∈ L := by
  simp [cd, List.getD_eq_getElem?_getD, List.getElem?_eq_getElem h]
theorem opsB_cd {L : List K} (h : opsB L = true) {j : Nat} (hj : j < L.length) : isOpB (cd L j).1 = true := opsB_mem h _ (cd_mem hj)
theorem opsB_take {L : List K} (k : Nat) (h : k < L.length) : opsB (L.take (k + 1)) = (opsB (L.take k) && isOpB (cd L k).1) := by
  unfold opsB
  rw [List.take_succ_eq_append_getElem h, List.all_append]
  simp [cd, List.getD_eq_getElem?_getD, List.getElem?_eq_getElem h]
theorem opsB_false {L : List K} {j : Nat} (hj : j < L.length) (h : isOpB (cd L j).1 = false) : opsB L = false := by
  cases ho : opsB L with
  | false => rfl
  | true => rw [opsB_cd ho hj] at h; cases h
theorem written_lim {p : Nums} {L : List K} (h : limB p L.length = false) : writtenN p L = ([], 30) := by unfold writtenN; rw [if_pos h]
theorem written_op {p : Nums} {L : List K} (h : limB p L.length = true) (ho : opsB L = false) : writtenN p L = ([], 31) := by unfold writtenN; rw [if_neg (by rw [h]; simp), if_pos ho]
theorem written_ok {p : Nums} {L : List K} (h : limB p L.length = true) (ho : opsB L = true) : writtenN p L = (progB p L, 0) := by unfold writtenN; rw [if_neg (by rw [h]; simp), if_neg (by rw [ho]; simp)]
theorem written_length (p : Nums) (L : List K) : (writtenN p L).1.length ≤ 3127 := by
  cases hl : limB p L.length with
  | false => rw [written_lim hl]; simp
  | true =>
    cases ho : opsB L with
    | false => rw [written_op hl ho]; simp
    | true =>
      rw [written_ok hl ho]
      have h1 := ((limB_iff p L.length).1 hl).2.2.2.2
      have h2 := headB_length p L.length 5
      have h3 := codeB_length L
      simp only [progB, List.length_append]; omega
theorem written_lt (p : Nums) (L : List K) : ∀ z ∈ (writtenN p L).1, z < 256 := by
  cases hl : limB p L.length with
  | false => rw [written_lim hl]; simp
  | true =>
    cases ho : opsB L with
    | false => rw [written_op hl ho]; simp
    | true =>
      rw [written_ok hl ho]
      intro z hz
      rcases List.mem_append.1 hz with h1 | h1
      · exact uints_lt _ z h1
      · exact codeB_lt L (opsB_mem ho) z h1

theorem or64 : ∀ o : Nat, o < 37 → bits .or .u8 (o : Int) 64 = ((o + 64 : Nat) : Int) := by decide
theorem wrote_alloc (w : World) (o : Obj) (r : Nat) (v : Value) : Wrote w (w.alloc o) r v v := ⟨rfl, rfl, rfl, by simp, fun k hk _ _ => Below.heap_alloc w o k hk, fun _ h => .inl h⟩
theorem IsWriter.alloc {w : World} {base r : Nat} {v : Value} {L : List Nat} (h : IsWriter w base r v L) (o : Obj) : IsWriter (w.alloc o) base r v L := h.kept ((Below.refl _ _).alloc (Nat.le_refl _) _)
theorem Wrote.kept {w w1 w2 : World} {r : Nat} {v v1 : Value} (h : Wrote w w1 r v v1) (hb : Below w1.heap.size w1 w2) : Wrote w w2 r v v1 :=
  ⟨hb.os.trans h.os, hb.tape.trans h.tape, hb.output.trans h.output, Nat.le_trans h.size hb.size, fun k hk hr hv => (hb.block k (Nat.lt_of_lt_of_le hk h.size)).trans (h.block k hk hr hv), h.lies⟩
end Go.Proofs.Ytkjmeknaedapjaa
