import Derived.Test.YtmkomfbjgmgemaaGreatDoorJALLine
import Derived.Deep.QuietTactic
import Derived.Test.YtmkomfbjgmgemaaGreatDoorJAMath
import Derived.Test.YtmkomfbjgmgemaaGreatDoorJLDepths
import Derived.Test.YtmkomfbjgmgemaaGreatDoorJLProc
import Derived.Laws.IdiomStrings
import Derived.Lib.SlBytesConst
import Derived.Lib.AppendStr
/-
  THE WALK OF codec.scan.
-/
namespace Go.Proofs.YtmkomfbjgmgemaaGreatDoor
open Go.RowKit

theorem u8_and127 (c : Nat) (hc : c < 256) : bits .and .u8 (c : Int) 127 = ((c % 128 : Nat) : Int) := by
  have h := u8_and_nat c 127 hc (by omega)
  rw [show (127 : Nat) = 2 ^ 7 - 1 from rfl, Nat.and_two_pow_sub_one_eq_mod] at h
  exact h
theorem or_low (acc c i : Nat) (ha : acc < 2 ^ (7 * i)) (hi : i ≤ 9) (h9 : i = 9 → c % 128 ≤ 1) : bits .or .u64 (acc : Int) (IntKind.u64.wrap ((c : Int) % 128 * 2 ^ (7 * i))) = ((acc + c % 128 * 2 ^ (7 * i) : Nat) : Int) := by
  have hl : c % 128 * 2 ^ (7 * i) < 18446744073709551616 := by
    by_cases e : i = 9
    · subst e
      have := h9 rfl
      have : c % 128 * 2 ^ (7 * 9) ≤ 1 * 2 ^ (7 * 9) := Nat.mul_le_mul_right _ this
      omega
    · have h1 : 2 ^ (7 * i) ≤ 2 ^ 56 := Nat.pow_le_pow_right (by omega) (by omega)
      have h2 : c % 128 * 2 ^ (7 * i) ≤ 127 * 2 ^ 56 := Nat.mul_le_mul (by omega) h1
      omega
  have ha' : acc < 18446744073709551616 := by
    have : 2 ^ (7 * i) ≤ 2 ^ 63 := Nat.pow_le_pow_right (by omega) (by omega)
    omega
  have e1 : ((c : Int) % 128 * 2 ^ (7 * i)) = ((c % 128 * 2 ^ (7 * i) : Nat) : Int) := by simp
  rw [e1, IntKind.wrap_u64]
  generalize hx : c % 128 * 2 ^ (7 * i) = x at *
  rw [show ((x : Int) % 18446744073709551616) = (x : Int) by omega, u64_or_nat acc x ha' hl, ← hx, Nat.mul_comm (c % 128), Rec.or_add acc (c % 128) (7 * i) ha]



end Go.Proofs.YtmkomfbjgmgemaaGreatDoor
/-
  THE WALKS OF codec.Reader's METHODS.
-/
namespace Go.Proofs.YtmkomfbjgmgemaaGreatDoor
open Go.RowKit

theorem BytesAt.cut {w : World} {b off : Nat} {zs : List Nat} (h : BytesAt w (some ⟨b, off, none⟩) zs) (i n : Nat) : BytesAt w (some ⟨b, off + i, none⟩) ((zs.drop i).take n) := by
  obtain ⟨hz, rfl | ⟨b', off', e, hc⟩⟩ := h
  · exact ⟨by simp, .inl (by simp)⟩
  · cases e
    refine ⟨fun z hz' => hz z (List.mem_of_mem_drop (List.mem_of_mem_take hz')), .inr ⟨b, off + i, rfl, fun j hj => ?_⟩⟩
    simp at hj
    rw [Nat.add_assoc, hc (i + j) (by omega)]
    congr 3
    simp [List.getD_eq_getElem?_getD, show j < n by omega]
theorem BytesAt.drop {w : World} {b off : Nat} {zs : List Nat} (h : BytesAt w (some ⟨b, off, none⟩) zs) (i : Nat) : BytesAt w (some ⟨b, off + i, none⟩) (zs.drop i) := by
  have := h.cut i (zs.drop i).length
  rwa [List.take_length] at this

section
variable {w w1 : World} {r : Nat} {a : Option Addr} {c : Nat} {b : List Nat} {p : Nat} {e : Int}
theorem grown_setCell (w : World) (x : Addr) (v : Value) : w.grownBy (w.setCell x v) (some x.block) :=
  ⟨rfl, rfl, rfl, by simp, fun k _ hk => heap_setCell_other w x k v (fun e => hk (by rw [e]))⟩
theorem grown_drewN (w : World) (n : Nat) (row : Option Nat) : w.grownBy (w.drewN n) row := ⟨rfl, rfl, rfl, Nat.le_refl _, fun _ _ _ => rfl⟩
theorem grown_trans' {x y z : World} {row : Option Nat} (h : x.grownBy y row) (k : y.grownBy z row) : x.grownBy z row :=
  ⟨k.os.trans h.os, k.tape.trans h.tape, k.output.trans h.output, Nat.le_trans h.size k.size, fun i hi hne => (k.block i (Nat.lt_of_lt_of_le hi h.size) hne).trans (h.block i hi hne)⟩
theorem grown_below {x y : World} {row : Option Nat} (h : Below x.heap.size x y) : x.grownBy y row := ⟨h.os, h.tape, h.output, h.size, fun k hk _ => h.block k hk⟩
end

def rdByte (b : List Nat) (p : Nat) (e : Int) : Nat × Nat × Int := if e ≠ 0 then (0, p, e) else if p = b.length then (0, p, 10) else (b.getD p 0, p + 1, 0)


def rdUpto (b : List Nat) (p : Nat) (e : Int) (most : Nat) : Nat × Nat × Int :=
  if e ≠ 0 then (0, p, e) else if (scan (b.drop p)).2.2 ≠ 0 then (0, p, (((scan (b.drop p)).2.2 : Nat) : Int)) else if most < (scan (b.drop p)).1 then (0, p, 12) else ((scan (b.drop p)).1, p + (scan (b.drop p)).2.1, 0)


end Go.Proofs.YtmkomfbjgmgemaaGreatDoor
/-
  A PROGRAM'S BYTES.
-/
namespace Go.Proofs.YtmkomfbjgmgemaaGreatDoor
open Go.RowKit

/-- an instruction's bytes -/
def instrB (k : K) : List Nat := if k.2 = 0 then [k.1.toNat] else (k.1.toNat + 64) :: uint 10 (fold k.2)
def codeB : List K → List Nat
  | [] => []
  | k :: L => instrB k ++ codeB L
theorem codeB_append (A B : List K) : codeB (A ++ B) = codeB A ++ codeB B := by
  induction A with
  | nil => rfl
  | cons k A ih => simp [codeB, ih]
def headN (p : Nums) (n : Nat) : List Nat := [p.args.toNat, p.reads.toNat, p.writes.toNat, p.locals.toNat, n]
def uints : List Nat → List Nat
  | [] => []
  | x :: r => uint 10 x ++ uints r
theorem uints_append (A B : List Nat) : uints (A ++ B) = uints A ++ uints B := by
  induction A with
  | nil => rfl
  | cons k A ih => simp [uints, ih]
def headB (p : Nums) (n k : Nat) : List Nat := uints ((headN p n).take k)
def opsB (L : List K) : Bool := L.all fun k => isOpB k.1
def progB (p : Nums) (L : List K) : List Nat := headB p L.length 5 ++ codeB L
/-- the bytes, and the error -/
def writtenN (p : Nums) (L : List K) : List Nat × Int :=
  if limB p L.length = false then ([], 30) else if opsB L = false then ([], 31) else (progB p L, 0)

theorem instrB_length (k : K) : (instrB k).length ≤ 12 := by
  unfold instrB
  split
  · simp
  · have := uint_length 10 (fold k.2); simp; omega
theorem codeB_length : ∀ L : List K, (codeB L).length ≤ 12 * L.length
  | [] => by simp [codeB]
  | k :: L => by
    have := codeB_length L
    have := instrB_length k
    simp [codeB]; omega
theorem uints_length : ∀ L : List Nat, (uints L).length ≤ 11 * L.length
  | [] => by simp [uints]
  | k :: L => by
    have := uints_length L
    have := uint_length 10 k
    simp [uints]; omega
theorem headB_length (p : Nums) (n k : Nat) : (headB p n k).length ≤ 55 := by
  have := uints_length ((headN p n).take k)
  have : ((headN p n).take k).length ≤ 5 := by simp [headN]; omega
  unfold headB; omega
theorem codeB_take (L : List K) (k : Nat) (h : k < L.length) : codeB (L.take (k + 1)) = codeB (L.take k) ++ instrB (cd L k) := by
  rw [List.take_succ_eq_append_getElem h, codeB_append]
  simp [codeB, cd, List.getD_eq_getElem?_getD, List.getElem?_eq_getElem h]
theorem codeB_take_length (L : List K) (k : Nat) : (codeB (L.take k)).length ≤ 12 * L.length := by
  have := codeB_length (L.take k)
  have : (L.take k).length ≤ L.length := by simp; omega
  omega
theorem headB_succ (p : Nums) (n k : Nat) (h : k < 5) : headB p n (k + 1) = headB p n k ++ uint 10 ((headN p n).getD k 0) := by
  have hl : k < (headN p n).length := by simpa [headN] using h
  unfold headB
  rw [List.take_succ_eq_append_getElem hl, uints_append]
  simp [uints, List.getD_eq_getElem?_getD, List.getElem?_eq_getElem hl]
theorem uints_lt : ∀ L : List Nat, ∀ z ∈ uints L, z < 256
  | [], z, hz => by simp [uints] at hz
  | k :: L, z, hz => by
    rcases List.mem_append.1 hz with h | h
    · exact uint_lt _ _ z h
    · exact uints_lt L z h
theorem instrB_lt (k : K) (h : isOpB k.1 = true) : ∀ z ∈ instrB k, z < 256 := by
  simp only [isOpB, Bool.and_eq_true, decide_eq_true_eq] at h
  intro z hz
  unfold instrB at hz
  split at hz
  · simp at hz; omega
  · rcases List.mem_cons.1 hz with h1 | h1
    · omega
    · exact uint_lt _ _ z h1
theorem codeB_lt : ∀ L : List K, (∀ k ∈ L, isOpB k.1 = true) → ∀ z ∈ codeB L, z < 256
  | [], _, z, hz => by simp [codeB] at hz
  | k :: L, h, z, hz => by
    rcases List.mem_append.1 hz with h1 | h1
    · exact instrB_lt k (h k (by simp)) z h1
    · exact codeB_lt L (fun x hx => h x (by simp [hx])) z h1
theorem opsB_mem {L : List K} (h : opsB L = true) : ∀ k ∈ L, isOpB k.1 = true := List.all_eq_true.1 h
theorem cd_mem {L : List K} {j : Nat} (h : j < L.length) : cd L j ∈ L := by
  simp [cd, List.getD_eq_getElem?_getD, List.getElem?_eq_getElem h]
theorem opsB_cd {L : List K} (h : opsB L = true) {j : Nat} (hj : j < L.length) : isOpB (cd L j).1 = true := opsB_mem h _ (cd_mem hj)
theorem opsB_take {L : List K} (k : Nat) (h : k < L.length) : opsB (L.take (k + 1)) = (opsB (L.take k) && isOpB (cd L k).1) := by
  unfold opsB
  rw [List.take_succ_eq_append_getElem h, List.all_append]
  simp [cd, List.getD_eq_getElem?_getD, List.getElem?_eq_getElem h]
theorem opsB_false {L : List K} {j : Nat} (hj : j < L.length) (h : isOpB (cd L j).1 = false) : opsB L = false := by
  cases ho : opsB L with
  | false => rfl
  | true => rw [opsB_cd ho hj] at h; cases h
theorem written_lim {p : Nums} {L : List K} (h : limB p L.length = false) : writtenN p L = ([], 30) := by unfold writtenN; rw [if_pos h]
theorem written_op {p : Nums} {L : List K} (h : limB p L.length = true) (ho : opsB L = false) : writtenN p L = ([], 31) := by unfold writtenN; rw [if_neg (by rw [h]; simp), if_pos ho]
theorem written_ok {p : Nums} {L : List K} (h : limB p L.length = true) (ho : opsB L = true) : writtenN p L = (progB p L, 0) := by unfold writtenN; rw [if_neg (by rw [h]; simp), if_neg (by rw [ho]; simp)]
theorem written_length (p : Nums) (L : List K) : (writtenN p L).1.length ≤ 3127 := by
  cases hl : limB p L.length with
  | false => rw [written_lim hl]; simp
  | true =>
    cases ho : opsB L with
    | false => rw [written_op hl ho]; simp
    | true =>
      rw [written_ok hl ho]
      have h1 := ((limB_iff p L.length).1 hl).2.2.2.2
      have h2 := headB_length p L.length 5
      have h3 := codeB_length L
      simp only [progB, List.length_append]; omega
theorem written_lt (p : Nums) (L : List K) : ∀ z ∈ (writtenN p L).1, z < 256 := by
  cases hl : limB p L.length with
  | false => rw [written_lim hl]; simp
  | true =>
    cases ho : opsB L with
    | false => rw [written_op hl ho]; simp
    | true =>
      rw [written_ok hl ho]
      intro z hz
      rcases List.mem_append.1 hz with h1 | h1
      · exact uints_lt _ z h1
      · exact codeB_lt L (opsB_mem ho) z h1

theorem or64 : ∀ o : Nat, o < 37 → bits .or .u8 (o : Int) 64 = ((o + 64 : Nat) : Int) := by decide
theorem wrote_alloc (w : World) (o : Obj) (r : Nat) (v : Value) : Wrote w (w.alloc o) r v v := ⟨rfl, rfl, rfl, by simp, fun k hk _ _ => Below.heap_alloc w o k hk, fun _ h => .inl h⟩
theorem Wrote.kept {w w1 w2 : World} {r : Nat} {v v1 : Value} (h : Wrote w w1 r v v1) (hb : Below w1.heap.size w1 w2) : Wrote w w2 r v v1 :=
  ⟨hb.os.trans h.os, hb.tape.trans h.tape, hb.output.trans h.output, Nat.le_trans h.size hb.size, fun k hk hr hv => (hb.block k (Nat.lt_of_lt_of_le hk h.size)).trans (h.block k hk hr hv), h.lies⟩
end Go.Proofs.YtmkomfbjgmgemaaGreatDoor
/-
  THE WALKS OF putInstr, Put.
-/
namespace Go.Proofs.YtmkomfbjgmgemaaGreatDoor
open Go.RowKit Go.Sort

end Go.Proofs.YtmkomfbjgmgemaaGreatDoor
/-
  THE WALK OF Encode.
-/
namespace Go.Proofs.YtmkomfbjgmgemaaGreatDoor
open Go.RowKit Go.Sort

/-- a text's bytes -/
def nmB (s : ByteArray) : List Nat := s.data.toList.map (·.toNat)
theorem nmB_length (s : ByteArray) : (nmB s).length = s.size := by simp [nmB]
theorem nmB_lt (s : ByteArray) : ∀ z ∈ nmB s, z < 256 := by
  intro z hz
  obtain ⟨b, _, rfl⟩ := List.mem_map.1 hz
  exact b.toNat_lt
/-- '[]byte(s)' -/
theorem conv_bytes (w : World) (s : ByteArray) : ∃ cap W', (convert 9 71 (.string s)).run Tryz.prog w = .ok (.slice (some ⟨w.heap.size, 0, none⟩) s.size cap) W' ∧
    BytesAt W' (some ⟨w.heap.size, 0, none⟩) (nmB s) ∧ Below w.heap.size w W' ∧ W'.heap.size = w.heap.size + 1 := by
  refine ⟨_, _, run_bytes_of_string w 9 71 5 s Tryz.underlying9 Tryz.underlying71 Tryz.underlying5, ?_, ?_, ?_⟩
  · refine ⟨nmB_lt s, .inr ⟨_, 0, rfl, fun j hj => ?_⟩⟩
    have hj' : j < s.data.size := by rw [nmB_length] at hj; exact hj
    have e := bytesRow_at s (grownCap w s.size 0 5) j hj'
    have hg : (nmB s).getD j 0 = s.data[j].toNat := by
      rw [List.getD_eq_getElem?_getD]; simp [nmB, Array.getElem?_eq_getElem hj']
    rw [hg, Nat.zero_add]
    show (World.alloc w.drew _).cell? ⟨w.drew.heap.size, j, none⟩ = _
    rw [World.cell?_alloc_mark]
    exact e
  · exact ⟨rfl, rfl, rfl, by show w.heap.size ≤ (w.heap.push _).size; rw [Array.size_push]; omega, fun k hk => by show ((w.heap.push _)[k]?) = _; rw [Array.getElem?_push_lt hk]; exact (Array.getElem?_eq_getElem hk).symm⟩
  · show (w.heap.push _).size = _; rw [Array.size_push]
/-- '[]byte("PRL1")' -/
theorem conv_head (w : World) : ∃ W', (convert 71 71 (.slice (some ⟨w.heap.size, 0, none⟩) 4 4)).run Tryz.prog (w.alloc (.cells #[.int .u8 80, .int .u8 82, .int .u8 76, .int .u8 49] 5)) = .ok (.slice (some ⟨w.heap.size, 0, none⟩) 4 4) W' ∧
    BytesAt W' (some ⟨w.heap.size, 0, none⟩) [80, 82, 76, 49] ∧ Below w.heap.size w W' := by
  refine ⟨_, Lib.run_convert_bytes_const (P := Tryz.prog) w 71 5 _ 4 4 Tryz.underlying71 Tryz.underlying5, ⟨by decide, .inr ⟨_, 0, rfl, fun j hj => ?_⟩⟩, ?_⟩
  · rw [Nat.zero_add, World.cell?_alloc_mark]
    have hj' : j < 4 := by simpa using hj
    obtain rfl | rfl | rfl | rfl : j = 0 ∨ j = 1 ∨ j = 2 ∨ j = 3 := by omega
    all_goals rfl
  · exact (Below.refl _ _).alloc (Nat.le_refl _) _
/-- a procedure's bytes -/
def procB (x : Pr) : List Nat := uint 10 x.name.size ++ nmB x.name ++ (writtenN x.p x.L).1
def procsB : List Pr → List Nat
  | [] => []
  | x :: Ps => procB x ++ procsB Ps
theorem procsB_append (A B : List Pr) : procsB (A ++ B) = procsB A ++ procsB B := by
  induction A with
  | nil => rfl
  | cons k A ih => simp [procsB, ih]
theorem procsB_take (Ps : List Pr) (k : Nat) (h : k < Ps.length) : procsB (Ps.take (k + 1)) = procsB (Ps.take k) ++ procB (pd Ps k) := by
  rw [pd_take Ps k h, procsB_append]; simp [procsB]
theorem procB_length (x : Pr) (h : x.name.size ≤ 31) : (procB x).length ≤ 3200 := by
  have h1 := uint_length 10 x.name.size
  have h2 := nmB_length x.name
  have h3 := written_length x.p x.L
  simp only [procB, List.length_append]; omega
theorem procsB_length : ∀ Ps : List Pr, (∀ x ∈ Ps, x.name.size ≤ 31) → (procsB Ps).length ≤ 3200 * Ps.length
  | [], _ => by simp [procsB]
  | x :: Ps, h => by
    have h1 := procB_length x (h x (by simp))
    have h2 := procsB_length Ps (fun y hy => h y (by simp [hy]))
    simp only [procsB, List.length_append, List.length_cons]; omega
def headL (n : Nat) : List Nat := [80, 82, 76, 49] ++ uint 10 n
/-- a sound library's bytes -/
def encN (Ps : List Pr) : List Nat := headL Ps.length ++ procsB Ps
theorem check_name {Ps : List Pr} (h : (checkN Ps).2 = 0) : Ps.length ≤ 64 ∧ ∀ i, i < Ps.length → chkOne Ps i = 0 := by
  by_cases hl : 64 < Ps.length
  · unfold checkN at h; rw [if_pos hl] at h; cases h
  · refine ⟨by omega, fun i => ?_⟩
    induction i using Nat.strongRecOn with
    | ind i ih =>
      intro hi
      by_cases h0 : chkOne Ps i = 0
      · exact h0
      · have := checkN_stop (by omega) (fun j hj => ih j hj (by omega)) h0 hi
        rw [this] at h; exact absurd h h0
theorem chk_zero {Ps : List Pr} {i : Nat} (h : chkOne Ps i = 0) : nameB (pd Ps i).name = true ∧ hasB (Ps.take i) (pd Ps i).name = false ∧ verifyN (pd Ps i).p (pd Ps i).L = 0 := by
  unfold chkOne at h
  split at h
  · cases h
  · rename_i hn
    refine ⟨?_, ?_, h⟩
    · cases e : nameB (pd Ps i).name with
      | true => rfl
      | false => exact absurd (.inl e) hn
    · cases e : hasB (Ps.take i) (pd Ps i).name with
      | false => rfl
      | true => exact absurd (.inr e) hn
theorem name_size {s : ByteArray} (h : nameB s = true) : 0 < s.size ∧ s.size ≤ 31 := by
  simp only [nameB, Bool.and_eq_true, decide_eq_true_eq] at h; exact ⟨h.1.1, h.1.2⟩
theorem check_small {Ps : List Pr} (h : (checkN Ps).2 = 0) : ∀ x ∈ Ps, x.name.size ≤ 31 := by
  intro x hx
  obtain ⟨i, hi, rfl⟩ := List.mem_iff_getElem.1 hx
  have := (chk_zero ((check_name h).2 i hi)).1
  have e : pd Ps i = Ps[i] := by simp [pd, List.getD_eq_getElem?_getD, List.getElem?_eq_getElem hi]
  rw [e] at this
  exact (name_size this).2
def EPost (Ps : List Pr) (B : Nat) (e : Ending) (w' : World) : Prop :=
  ((checkN Ps).2 ≠ 0 ∧ e = .returned (.tuple #[.slice none 0 0, .int .i64 (checkN Ps).2])) ∨
  ((checkN Ps).2 = 0 ∧ ∃ g, e = .returned (.tuple #[.slice (some ⟨g, 0, none⟩) (encN Ps).length (encN Ps).length, .int .i64 0]) ∧ RowAt w' g (encN Ps) ∧ B ≤ g)
/-- a block that is none of the Writer's -/
theorem Wrote.rbox {W W' : World} {r B : Nat} {v v' : Value} {x : Pr} (ht : Wrote W W' r v v') (h : RBox W B x) (h1 : B ≠ r) (h2 : v.ownBlock ≠ some B) : RBox W' B x := (ht.block B h.lt h1 h2).trans h

end Go.Proofs.YtmkomfbjgmgemaaGreatDoor
/-
  append OF A TEXT TO BYTES OF THE CALL'S OWN.
-/
namespace Go.Proofs.YtmkomfbjgmgemaaGreatDoor
open Go.RowKit

theorem strCells_nm (s : ByteArray) : Lib.strCells s = (nmB s).map b8 := by
  simp [Lib.strCells, nmB, b8, List.map_map]
theorem run_append_str {w : World} (ty : TypeId) (base : Nat) (v : Value) (L : List Nat) (hown : OwnB w base v L) (s : ByteArray) (hlen : L.length + s.size ≤ 140737488355328) (hbase : base ≤ w.heap.size) :
    ∃ v' w', (Builtin.append_ #[71, 9] ty #[v, .string s]).run Tryz.prog w = .ok v' w' ∧ OwnB w' base v' (L ++ nmB s) ∧ w.grownBy w' v.ownBlock := by
  obtain ⟨i0, hi, hz0, hz1, hz2⟩ := info_parts info8
  obtain ⟨v', w', hr, h2, h3, _⟩ := Lib.run_append_own_string (P := Tryz.prog) w base 71 9 ty 5 i0 Tryz.underlying71 Tryz.underlying9 hi hz0 hz1 hz2 v L.length (L.map b8) hown.2 s (by unfold maxLen; omega) hlen hbase
  refine ⟨v', w', hr, ⟨fun z hz => ?_, ?_⟩, h3⟩
  · rcases List.mem_append.1 hz with h1 | h1
    · exact hown.1 z h1
    · exact nmB_lt s z h1
  · rw [List.length_append, nmB_length, List.map_append, ← strCells_nm]; exact h2
theorem wpList_append_str {w : World} {ops : Array Oper} {rest : List Oper} {o : Oper} {a : Act} {Q : Exit → Act → World → Prop} (hgd : o.guard = none) (sl x : Operand)
    (ho : o.op = .call { callee := .builtin .append, args := #[sl, x], argTypes := #[71, 9] }) (base : Nat) (v : Value) (L : List Nat) (hs : a.eval sl = v) (hown : OwnB w base v L) (s : ByteArray) (hx : a.eval x = .string s)
    (hlen : L.length + s.size ≤ 140737488355328) (hbase : base ≤ w.heap.size)
    (h : ∀ v' w', OwnB w' base v' (L ++ nmB s) → w.grownBy w' v.ownBlock → wpList Tryz.prog ops Q rest (a.put o.dst v') w') : wpList Tryz.prog ops Q (o :: rest) a w := by
  obtain ⟨v', w', hr, h2, h3⟩ := run_append_str o.type base v L hown s hlen hbase
  refine wpList_plain hgd fun K hK' => ?_
  unfold Oper.wp
  simp [execOp, ho, resolve, invoke, builtin, hs, hx, hr, Result.andThen]
  exact hK' _ _ (h v' w' h2 h3)
end Go.Proofs.YtmkomfbjgmgemaaGreatDoor
/-
  THE WALKS OF preluderef01.Uint, Fold, Int.
-/
namespace Go.Proofs.YtmkomfbjgmgemaaGreatDoor
open Go.RowKit

/-- append at a slice of bytes of the call's own, as one equation -/
theorem run_append_bytes {w : World} (ty : TypeId) (base : Nat) (v : Value) (L : List Nat) (hown : OwnB w base v L)
    (ao : Option Addr) (m c : Nat) (zs : List Nat) (hm : m = zs.length) (hsrc : BytesAt w ao zs) (hnil : ao = none → c = 0) (hlen : L.length + zs.length ≤ 140737488355328) (hbase : base ≤ w.heap.size) :
    ∃ v' w', (Builtin.append_ #[71, 71] ty #[v, .slice ao m c]).run Tryz.prog w = .ok v' w' ∧ OwnB w' base v' (L ++ zs) ∧ w.grownBy w' v.ownBlock ∧ (v'.ownBlock = v.ownBlock ∨ v'.ownBlock = some w.heap.size) := by
  obtain ⟨i0, hi, hz0, hz1, hz2⟩ := info_parts info8
  subst hm
  have hzz : ∀ z ∈ L ++ zs, z < 256 := by
    intro z hz
    rcases List.mem_append.1 hz with h1 | h1
    · exact hown.1 z h1
    · exact hsrc.1 z h1
  cases ao with
  | none =>
    have h0 : zs = [] := by
      obtain ⟨_, h1 | ⟨b, off, h1, _⟩⟩ := hsrc
      · exact h1
      · cases h1
    subst h0
    obtain rfl := hnil rfl
    exact ⟨v, w, run_append_owned_none (P := Tryz.prog) (w := w) base 71 ty 5 i0 1 Tryz.underlying71 hi v L.length (L.map b8) hown.2, by simpa using hown, World.grownBy.refl _ _, .inl rfl⟩
  | some ad =>
    obtain ⟨v', w', hr, h2, h3, _, h5⟩ := run_append_own_at (P := Tryz.prog) w base 71 ty 5 i0 (.int .u8 0) 1 1 Tryz.underlying71 hi hz0 hz1 hz2 rfl (by decide) v L.length (L.map b8) hown.2 ad zs.length c (zs.map b8) (by simp)
      (by
        intro j u hu
        by_cases h0 : zs = []
        · subst h0; simp at hu
        · obtain ⟨ad', e, hc⟩ := bytes_src hsrc h0
          cases e
          exact hc j u hu) (oneCells zs) (by unfold maxLen; omega) (by omega) hbase
    exact ⟨v', w', hr, ⟨hzz, by rw [List.length_append, List.map_append]; exact h2⟩, h3, h5⟩
/-- at a step of a region that draws -/
theorem step_append_bytes {w : World} {ops : Array Oper} {o : Oper} {a : Act} {K : Act → World → Prop} {Q : Exit → Act → World → Prop} {E : Prop} (hgd : o.guard = none) (s x : Operand)
    (ho : o.op = .call { callee := .builtin .append, args := #[s, x], argTypes := #[71, 71] }) (base : Nat) (v : Value) (L : List Nat) (hs : a.eval s = v) (hown : OwnB w base v L)
    (ao : Option Addr) (m c : Nat) (zs : List Nat) (hx : a.eval x = .slice ao m c) (hm : m = zs.length) (hsrc : BytesAt w ao zs) (hnil : ao = none → c = 0) (hlen : L.length + zs.length ≤ 140737488355328) (hbase : base ≤ w.heap.size)
    (h : ∀ v' w', OwnB w' base v' (L ++ zs) → w.grownBy w' v.ownBlock → (v'.ownBlock = v.ownBlock ∨ v'.ownBlock = some w.heap.size) → K (a.put o.dst v') w') :
    if Region.wanted o (yielded ops a.tmps) = true then Oper.wp Tryz.prog o a w K Q else E := by
  have hw : Region.wanted o (yielded ops a.tmps) = true := by simp [Region.wanted, hgd]
  rw [if_pos hw]
  obtain ⟨v', w', hr, h2, h3, h4⟩ := run_append_bytes o.type base v L hown ao m c zs hm hsrc hnil hlen hbase
  unfold Oper.wp execOp
  simp only [ho, resolve, invoke, builtin, Sem.run_bind, Sem.run_pure, Result.andThen_ok, List.map_toArray, List.map_cons, List.map_nil, hs, hx, hr]
  exact h v' w' h2 h3 h4

theorem below_grown {w w1 : World} {row : Option Nat} {B : Nat} (h : w.grownBy w1 row) (hr : ∀ k, row = some k → B ≤ k) (hB : B ≤ w.heap.size) : Below B w w1 :=
  ⟨h.os, h.tape, h.output, h.size, fun k hk => h.block k (by omega) (fun e => by have := hr k e.symm; omega)⟩



end Go.Proofs.YtmkomfbjgmgemaaGreatDoor
