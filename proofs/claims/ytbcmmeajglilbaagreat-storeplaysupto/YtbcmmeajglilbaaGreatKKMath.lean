import Derived.Test.YtbcmmeajglilbaaGreatRows
import Derived.WalkKit
import Derived.WalkLawsBesides
import Derived.ProofKit
import Derived.OpenShut
import Derived.BigQuiet
import Derived.Deep.QuietTactic
import Derived.Laws.BitsAllLaws
import Derived.Laws.StructEq
import Derived.Shelf.SlSortCmp.QuietGrown
import Derived.Shelf.SlicesE.Kit
import Derived.Laws.AppendOwnNone
import Derived.Maps.AppendAt
import Derived.DeepKeys4
import Derived.Maps.Keyed
import Derived.Maps.OwnSet
/-
  KEYS AS PAIRS OF NUMBERS: order, bytes, hash.
-/
namespace Go.Proofs.YtbcmmeajglilbaaGreat

/-- a key: its Table, its Row -/
abbrev K := Int × Int
def isKey (k : K) : Bool := decide (0 ≤ k.1) && decide (k.1 ≤ 65535)
def In64 (x : Int) : Prop := -9223372036854775808 ≤ x ∧ x ≤ 9223372036854775807
def KIn (k : K) : Prop := In64 k.1 ∧ In64 k.2
/-- the order -/
def lt (a b : K) : Bool := decide (a.1 < b.1) || (decide (a.1 = b.1) && decide (a.2 < b.2))
def cmp (a b : K) : Int := if lt a b then -1 else if lt b a then 1 else 0

theorem lt_iff (a b : K) : lt a b = true ↔ a.1 < b.1 ∨ (a.1 = b.1 ∧ a.2 < b.2) := by simp [lt]
theorem lt_false (a b : K) : lt a b = false ↔ b.1 < a.1 ∨ (a.1 = b.1 ∧ b.2 ≤ a.2) := by
  rw [← Bool.not_eq_true, lt_iff]; omega
theorem lt_irrefl (a : K) : lt a a = false := by rw [lt_false]; omega
theorem lt_trans {a b c : K} (h1 : lt a b = true) (h2 : lt b c = true) : lt a c = true := by rw [lt_iff] at *; omega
theorem lt_asymm {a b : K} (h1 : lt a b = true) : lt b a = false := by rw [lt_iff] at h1; rw [lt_false]; omega
theorem eq_of_not_lt {a b : K} (h1 : lt a b = false) (h2 : lt b a = false) : a = b := by
  rw [lt_false] at *
  obtain ⟨a1, a2⟩ := a; obtain ⟨b1, b2⟩ := b
  simp only at *
  have e1 : a1 = b1 := by omega
  have e2 : a2 = b2 := by omega
  rw [e1, e2]
theorem ne_of_lt {a b : K} (h : lt a b = true) : a ≠ b := by rintro rfl; rw [lt_irrefl] at h; cases h
theorem cmp_self (a : K) : cmp a a = 0 := by simp [cmp, lt_irrefl]
theorem cmp_lt {a b : K} (h : lt a b = true) : cmp a b = -1 := by simp [cmp, h]
theorem cmp_gt {a b : K} (h : lt b a = true) : cmp a b = 1 := by simp [cmp, h, lt_asymm h]
theorem cmp_neg (a b : K) : (cmp a b < 0) ↔ lt a b = true := by
  unfold cmp; cases lt a b <;> cases lt b a <;> simp
theorem cmp_zero (a b : K) : cmp a b = 0 ↔ a = b := by
  constructor
  · intro h
    unfold cmp at h
    by_cases h1 : lt a b = true
    · simp [h1] at h
    · by_cases h2 : lt b a = true
      · simp [h1, h2] at h
      · exact eq_of_not_lt (by simpa using h1) (by simpa using h2)
  · rintro rfl; exact cmp_self a

/-- a number's n bytes, the highest first -/
def be : Nat → Nat → List Nat
  | 0, _ => []
  | n + 1, u => be n (u / 256) ++ [u % 256]
theorem be_length (n u : Nat) : (be n u).length = n := by
  induction n generalizing u with
  | zero => rfl
  | succ n ih => simp [be, ih]
theorem be_lt (n u : Nat) : ∀ z ∈ be n u, z < 256 := by
  induction n generalizing u with
  | zero => simp [be]
  | succ n ih =>
    intro z hz
    rcases List.mem_append.1 hz with h | h
    · exact ih _ z h
    · simp at h; omega
/-- the number of bytes -/
def num (L : List Nat) : Nat := L.foldl (fun u c => u * 256 + c) 0
theorem num_snoc (L : List Nat) (c : Nat) : num (L ++ [c]) = num L * 256 + c := by simp [num]
theorem num_lt (L : List Nat) (h : ∀ z ∈ L, z < 256) : num L < 256 ^ L.length := by
  suffices H : ∀ n, ∀ L : List Nat, L.length = n → (∀ z ∈ L, z < 256) → num L < 256 ^ n from H _ L rfl h
  intro n
  induction n with
  | zero => intro L hl _; cases L with | nil => simp [num] | cons => simp at hl
  | succ n ih =>
    intro L hl h
    have hne : L ≠ [] := by rintro rfl; simp at hl
    rw [← List.dropLast_concat_getLast hne] at h ⊢
    rw [num_snoc]
    have h1 := ih L.dropLast (by simp; omega) (fun z hz => h z (by simp [hz]))
    have h2 := h (L.getLast hne) (by simp)
    rw [Nat.pow_succ]; omega
theorem num_be (n u : Nat) (h : u < 256 ^ n) : num (be n u) = u := by
  induction n generalizing u with
  | zero => simp at h; subst h; rfl
  | succ n ih =>
    rw [be, num_snoc, ih (u / 256) (by rw [Nat.pow_succ] at h; omega)]
    omega
theorem be_num (L : List Nat) (h : ∀ z ∈ L, z < 256) : be L.length (num L) = L := by
  suffices H : ∀ n, ∀ L : List Nat, L.length = n → (∀ z ∈ L, z < 256) → be n (num L) = L from H _ L rfl h
  intro n
  induction n with
  | zero => intro L hl _; cases L with | nil => rfl | cons => simp at hl
  | succ n ih =>
    intro L hl h
    have hne : L ≠ [] := by rintro rfl; simp at hl
    have e := List.dropLast_concat_getLast hne
    have h2 := h (L.getLast hne) (by simp)
    have h1 := ih L.dropLast (by simp; omega) (fun z hz => h z (List.dropLast_subset L hz))
    rw [← e, num_snoc, be, show (num L.dropLast * 256 + L.getLast hne) / 256 = num L.dropLast by omega, show (num L.dropLast * 256 + L.getLast hne) % 256 = L.getLast hne by omega, h1]

theorem be_cons (n u : Nat) : be (n + 1) u = (u / 256 ^ n % 256) :: be n u := by
  induction n generalizing u with
  | zero => simp [be]
  | succ n ih =>
    rw [be, ih (u / 256), be, Nat.div_div_eq_div_mul, ← Nat.pow_succ']
    rfl

/-- a Row's 64 bits, the highest turned -/
def turn (r : Int) : Nat := (r + 9223372036854775808).toNat
theorem turn_lt {r : Int} (h : In64 r) : turn r < 18446744073709551616 := by obtain ⟨h1, h2⟩ := h; unfold turn; omega
theorem turn_int {r : Int} (h : In64 r) : (turn r : Int) = r + 9223372036854775808 := by obtain ⟨h1, h2⟩ := h; unfold turn; omega
def keyBytes (k : K) : List Nat := [k.1.toNat / 256, k.1.toNat % 256] ++ be 8 (turn k.2)
theorem keyBytes_length (k : K) : (keyBytes k).length = 10 := by simp [keyBytes, be_length]
theorem keyBytes_lt {k : K} (h : isKey k = true) : ∀ z ∈ keyBytes k, z < 256 := by
  intro z hz
  simp [isKey] at h
  rcases List.mem_append.1 hz with h1 | h1
  · simp at h1; omega
  · exact be_lt _ _ z h1

/-- FNV-1a -/
def fnvStep (h c : Nat) : Nat := ((h ^^^ c) * 1099511628211) % 18446744073709551616
def fnv (L : List Nat) : Nat := L.foldl fnvStep 14695981039346656037
theorem fnv_snoc (L : List Nat) (c : Nat) : fnv (L ++ [c]) = fnvStep (fnv L) c := by unfold fnv; rw [List.foldl_append, List.foldl_cons, List.foldl_nil]
theorem fnv_lt (L : List Nat) : fnv L < 18446744073709551616 := by
  rcases List.eq_nil_or_concat L with rfl | ⟨L', c, rfl⟩
  · unfold fnv; rw [List.foldl_nil]; omega
  · rw [List.concat_eq_append, fnv_snoc]; unfold fnvStep; exact Nat.mod_lt _ (by omega)
def hash (k : K) : Nat := if isKey k then fnv (keyBytes k) else 0
theorem hash_lt (k : K) : hash k < 18446744073709551616 := by unfold hash; split; exact fnv_lt _; omega

theorem xor_top (x : Nat) (h : x < 18446744073709551616) : x ^^^ 9223372036854775808 = (x + 9223372036854775808) % 18446744073709551616 := by
  have e : (9223372036854775808 : Nat) = 2 ^ 63 := by decide
  have e2 : (18446744073709551616 : Nat) = 2 ^ 64 := by decide
  rw [e2] at h
  rw [e, e2]
  apply Nat.eq_of_testBit_eq
  intro i
  rw [Nat.testBit_xor, Nat.testBit_two_pow]
  by_cases hi : i < 64
  · rw [Nat.testBit_mod_two_pow]
    simp only [hi, decide_true, Bool.true_and]
    by_cases h63 : i = 63
    · subst h63
      rw [Nat.add_comm, Nat.testBit_two_pow_add_eq]; simp
    · rw [Nat.add_comm, Nat.testBit_two_pow_add_gt (by omega)]
      have : decide (63 = i) = false := by simp; omega
      rw [this]; simp
  · rw [Nat.testBit_lt_two_pow (Nat.lt_of_lt_of_le h (Nat.pow_le_pow_right (by omega) (by omega))), Nat.testBit_lt_two_pow (Nat.lt_of_lt_of_le (Nat.mod_lt _ (by decide)) (Nat.pow_le_pow_right (by omega) (by omega)))]
    simp; omega

end Go.Proofs.YtbcmmeajglilbaaGreat
/-
  A WORLD THAT HAS GROWN; '==' OF KEYS.
-/
namespace Go.Proofs.YtbcmmeajglilbaaGreat
open Go.RowKit Go.Sort

theorem mixed : Tryz.prog.follows .mixedOrders = true := by kernel_rfl
/-- A WORLD THAT HAS GROWN: draws, new blocks behind. -/
def Grew (w w' : World) : Prop := ∃ q os, w' = grow (w.drewN q) os
theorem Grew.refl (w : World) : Grew w w := ⟨0, #[], by rw [grow_empty]; rfl⟩
theorem Grew.trans {a b c : World} (h1 : Grew a b) (h2 : Grew b c) : Grew a c := by
  obtain ⟨q, os, rfl⟩ := h1
  obtain ⟨q', os', rfl⟩ := h2
  exact ⟨q + q', os ++ os', by show grow (grow ((a.drewN q).drewN q') os) os' = _; rw [grow_grow, World.drewN_drewN]⟩
theorem Grew.alloc {a b : World} (h : Grew a b) (o : Obj) : Grew a (b.alloc o) := h.trans ⟨0, #[o], alloc_eq_grow _ _⟩
theorem Grew.drewN {a b : World} (h : Grew a b) (n : Nat) : Grew a (b.drewN n) := h.trans ⟨n, #[], by rw [grow_empty]⟩
theorem Grew.drew {a b : World} (h : Grew a b) : Grew a b.drew := h.drewN 1
theorem Grew.grow {a b : World} (h : Grew a b) (n : Nat) (os : Array Obj) : Grew a (grow (b.drewN n) os) := h.trans ⟨n, os, rfl⟩
theorem Grew.size {a b : World} (h : Grew a b) : a.heap.size ≤ b.heap.size := by obtain ⟨q, os, rfl⟩ := h; simp [Sort.grow]
theorem Grew.heap {a b : World} (h : Grew a b) {k : Nat} (hk : k < a.heap.size) : b.heap[k]? = a.heap[k]? := by
  obtain ⟨q, os, rfl⟩ := h; exact Sort.heap_grow_old (a.drewN q) os hk
theorem Grew.below {a b : World} (h : Grew a b) : Below a.heap.size a b := by
  refine ⟨?_, ?_, ?_, h.size, fun k hk => h.heap hk⟩ <;> obtain ⟨q, os, rfl⟩ := h <;> rfl
theorem cell_lt {w : World} {p : Addr} {v : Value} (hc : w.cell? p = some v) : p.block < w.heap.size := by
  by_cases hlt : p.block < w.heap.size
  · exact hlt
  · have hn : w.heap[p.block]? = none := Array.getElem?_eq_none_iff.2 (by omega)
    simp [World.cell?, hn] at hc
theorem Grew.cell {a b : World} (h : Grew a b) {p : Addr} {v : Value} (hc : a.cell? p = some v) : b.cell? p = some v := by
  obtain ⟨q, os, rfl⟩ := h
  exact cell_grown (cell_lt hc) hc q os

theorem heap_alloc_new {w : World} (o : Obj) (k : Nat) (h : k = w.heap.size) : (w.alloc o).heap[k]? = some o := by
  subst h; show (w.heap.push _)[w.heap.size]? = _; simp
theorem heap_alloc_old {w : World} (o : Obj) (k : Nat) (h : k < w.heap.size) : (w.alloc o).heap[k]? = w.heap[k]? := by
  show (w.heap.push _)[k]? = _; rw [Array.getElem?_push_lt h]; exact (Array.getElem?_eq_getElem h).symm
/-- a key's two cells -/
def ck (k : K) : List Value := [.int .i64 k.1, .int .i64 k.2]
/-- a key as a value -/
abbrev kv (k : K) : Value := .agg #[.int .i64 k.1, .int .i64 k.2]

/-- A BOX: a block's first two cells hold a key -/
def Box (w : World) (b : Nat) (x y : Int) : Prop := w.cell? ⟨b, 0, none⟩ = some (.int .i64 x) ∧ w.cell? ⟨b, 1, none⟩ = some (.int .i64 y)
theorem Box.new {w : World} {b : Nat} {x y : Int} (hb : b = w.heap.size) : Box (w.alloc (.cells #[.int .i64 x, .int .i64 y] 41)) b x y := by
  have h := heap_alloc_new (w := w) (.cells #[.int .i64 x, .int .i64 y] 41) b hb
  constructor <;> simp [World.cell?, h]
theorem Box.alloc {w : World} {b : Nat} {x y : Int} (h : Box w b x y) (o : Obj) : Box (w.alloc o) b x y := by
  have hg : Grew w (w.alloc o) := (Grew.refl w).alloc o
  exact ⟨hg.cell h.1, hg.cell h.2⟩
theorem Box.grew {w w1 : World} {b : Nat} {x y : Int} (h : Box w b x y) (hg : Grew w w1) : Box w1 b x y := ⟨hg.cell h.1, hg.cell h.2⟩

/-- '==' of two keys -/
theorem eqKey : EqlAt Tryz.prog 41 (fun x : K => .agg (ck x).toArray) (fun x y => decide (x = y)) := by
  refine ⟨fun x y w => ?_, GuardAt.agg _ (by kernel_rfl)⟩
  have u3 := Tryz.underlying3
  have a3 := Tryz.isAgg3
  have z3 := Tryz.sizeOf3
  have u2 := Tryz.underlying2
  have a2 := Tryz.isAgg2
  have z2 := Tryz.sizeOf2
  have hS : Tryz.prog.underlying 41 = some (.struct (Tryz.prog.fieldsOf 41)) := by kernel_rfl
  have hp : Tryz.prog.stoodInHeld 41 = false := by kernel_rfl
  simp only [ck]
  rw [run_eql_struct, show (10000 : Nat) = 9999 + 1 from rfl, run_equalIn_agg w 9999 41 _ _ hS hp]
  simp only [Program.fieldsOf, Tryz.underlying41]
  go_simp
  obtain ⟨x1, x2⟩ := x
  obtain ⟨y1, y2⟩ := y
  by_cases h1 : x1 = y1 <;> by_cases h2 : x2 = y2 <;> simp [h1, h2]
theorem run_eqKey (x1 x2 y1 y2 : Int) (w : World) : Sem.run Tryz.prog (binOp .eql 41 (.agg #[.int .i64 x1, .int .i64 x2]) (.agg #[.int .i64 y1, .int .i64 y2])) w = .ok (.bool (decide ((x1, x2) = (y1, y2)))) w := eqKey.1 (x1, x2) (y1, y2) w
theorem run_eqGuard (op : BinOp) (a b : Operand) (x1 x2 y1 y2 : Int) (w : World) : Sem.run Tryz.prog (eqGuard op 41 a b (.agg #[.int .i64 x1, .int .i64 x2]) (.agg #[.int .i64 y1, .int .i64 y2])) w = .ok () w := eqKey.2 op a b (x1, x2) (y1, y2) w


end Go.Proofs.YtbcmmeajglilbaaGreat
/-
  THE WALKS OF Check, num.
-/
namespace Go.Proofs.YtbcmmeajglilbaaGreat
open Go.RowKit Go.Sort

def errOf (b : Bool) (e : Int) : Int := if b then 0 else e

theorem check_any (w : World) (k1 k2 : Int) :
    Calls Tryz.prog 43 #[.agg #[.int .i64 k1, .int .i64 k2]] w fun e w' => e = .returned (.int .i64 (errOf (isKey (k1, k2)) 20)) ∧ ∃ q os, w' = grow (w.drewN q) os := by
  have HE : Hid (∀ b : Bool, isKey (k1, k2) = b → errOf (isKey (k1, k2)) 20 = if b then 0 else 20) := fun b h => by rw [h]; rfl
  go_enter Tryz.func43, Tryz.ntmps43
  by_cases h0 : k1 < 0
  · go_wp2
    go_ret
    refine ⟨by rw [HE.out false (by simp [isKey]; omega)]; rfl, Grew.alloc (Grew.refl _) _⟩
  · have h0' : decide (k1 < 0) = false := by simpa using h0
    by_cases h1 : 65535 < k1
    · go_wp2
      go_ret
      refine ⟨by rw [HE.out false (by simp [isKey]; omega)]; rfl, Grew.alloc (Grew.refl _) _⟩
    · have h1' : decide (65535 < k1) = false := by simpa using h1
      go_wp2
      go_ret
      refine ⟨by rw [HE.out true (by simp [isKey]; omega)]; rfl, Grew.alloc (Grew.refl _) _⟩


end Go.Proofs.YtbcmmeajglilbaaGreat
/-
  LISTS OF KEYS IN MEMORY; append.
-/
namespace Go.Proofs.YtbcmmeajglilbaaGreat
open Go.RowKit Go.Sort

/-- the cells of keys -/
def cks : List K → List Value
  | [] => []
  | k :: L => .int .i64 k.1 :: .int .i64 k.2 :: cks L
theorem cks_length (L : List K) : (cks L).length = L.length * 2 := by
  induction L with
  | nil => rfl
  | cons k L ih => simp only [cks, List.length_cons, ih]; omega
theorem cks_append (A B : List K) : cks (A ++ B) = cks A ++ cks B := by
  induction A with
  | nil => rfl
  | cons k A ih => simp [cks, ih]
/-- the j-th key -/
def kd (L : List K) (j : Nat) : K := L.getD j (0, 0)
theorem kd_cons_succ (k : K) (L : List K) (j : Nat) : kd (k :: L) (j + 1) = kd L j := by simp [kd]
theorem kd_get {L : List K} {j : Nat} (h : j < L.length) : L[j]? = some (kd L j) := by
  simp [kd, List.getD_eq_getElem?_getD, List.getElem?_eq_getElem h]
theorem kd_mem {L : List K} {j : Nat} (h : j < L.length) : kd L j ∈ L := List.mem_of_getElem? (kd_get h)
theorem kd_left (A B : List K) (j : Nat) (h : j < A.length) : kd (A ++ B) j = kd A j := by
  have h1 := kd_get (L := A ++ B) (j := j) (by simp; omega)
  rw [List.getElem?_append_left h, kd_get h] at h1
  exact (Option.some.inj h1).symm
theorem kd_right (A B : List K) (j : Nat) (h : j < B.length) : kd (A ++ B) (A.length + j) = kd B j := by
  have h1 := kd_get (L := A ++ B) (j := A.length + j) (by simp; omega)
  rw [List.getElem?_append_right (by omega), show A.length + j - A.length = j by omega, kd_get h] at h1
  exact (Option.some.inj h1).symm
theorem take_kd (L : List K) (j : Nat) (h : j < L.length) : L.take (j + 1) = L.take j ++ [kd L j] := by
  rw [List.take_succ_eq_append_getElem h]
  have := kd_get h
  rw [List.getElem?_eq_getElem h] at this
  rw [Option.some.inj this]
theorem cks_at (L : List K) (j : Nat) (h : j < L.length) : (cks L)[j * 2]? = some (.int .i64 (kd L j).1) ∧ (cks L)[j * 2 + 1]? = some (.int .i64 (kd L j).2) := by
  induction L generalizing j with
  | nil => simp at h
  | cons k L ih =>
    cases j with
    | zero => simp [cks, kd]
    | succ j =>
      have := ih j (by simp at h; omega)
      rw [kd_cons_succ, show (j + 1) * 2 = j * 2 + 1 + 1 by omega]
      simpa [cks] using this
theorem cks_one (L : List K) : ∀ v ∈ cks L, v.oneCell' = true := by
  induction L with
  | nil => simp [cks]
  | cons k L ih =>
    intro v hv
    simp only [cks, List.mem_cons] at hv
    rcases hv with rfl | rfl | h
    · rfl
    · rfl
    · exact ih v h

/-- A SLICE OF KEYS: the address and what its cells hold -/
def KeysAt (w : World) (ao : Option Addr) (L : List K) : Prop :=
  L = [] ∨ ∃ b off, ao = some ⟨b, off, none⟩ ∧ ∀ j u, (cks L)[j]? = some u → w.cell? ⟨b, off + j, none⟩ = some u
theorem KeysAt.at {w : World} {b off : Nat} {L : List K} (h : ∀ j u, (cks L)[j]? = some u → w.cell? ⟨b, off + j, none⟩ = some u) (j : Nat) (hj : j < L.length) :
    w.cell? ⟨b, off + j * 2, none⟩ = some (.int .i64 (kd L j).1) ∧ w.cell? ⟨b, off + j * 2 + 1, none⟩ = some (.int .i64 (kd L j).2) := by
  obtain ⟨h1, h2⟩ := cks_at L j hj
  exact ⟨h _ _ h1, by rw [Nat.add_assoc]; exact h _ _ h2⟩
theorem KeysAt.lt {w : World} {ao : Option Addr} {L : List K} (h : KeysAt w ao L) : ∀ a, L ≠ [] → ao = some a → a.block < w.heap.size := by
  intro a hne he
  rcases h with rfl | ⟨b, off, rfl, hc⟩
  · exact absurd rfl hne
  · cases he
    cases L with
    | nil => exact absurd rfl hne
    | cons k L => exact cell_lt (hc 0 _ (by simp [cks]; rfl))
theorem KeysAt.below {w w1 : World} {ao : Option Addr} {L : List K} (h : KeysAt w ao L) {B : Nat} (hb : Below B w w1) (hlt : ∀ a, L ≠ [] → ao = some a → a.block < B) : KeysAt w1 ao L := by
  rcases h with rfl | ⟨b, off, rfl, hc⟩
  · exact .inl rfl
  · by_cases hne : L = []
    · exact .inl hne
    · exact .inr ⟨b, off, rfl, fun j u hu => (hb.cell (p := ⟨b, off + j, none⟩) (hlt ⟨b, off, none⟩ hne rfl)).trans (hc j u hu)⟩
theorem KeysAt.kept {w w1 : World} {ao : Option Addr} {L : List K} (h : KeysAt w ao L) (hb : Below w.heap.size w w1) : KeysAt w1 ao L := h.below hb h.lt
theorem KeysAt.grew {w w1 : World} {ao : Option Addr} {L : List K} (h : KeysAt w ao L) (hg : Grew w w1) : KeysAt w1 ao L := h.kept hg.below
theorem addr_add (b off j : Nat) : (⟨b, off, none⟩ : Addr).add j = ⟨b, off + j, none⟩ := by unfold Addr.add; split <;> simp_all

/-- a slice of keys of the call's own -/
def OwnK (w : World) (base : Nat) (v : Value) (L : List K) : Prop := w.ownsRow base 41 2 v L.length (cks L)
theorem OwnK.nil (w : World) (base : Nat) : OwnK w base (.slice none 0 0) [] := World.ownsRow_nil _ _ _ _
theorem OwnK.shape {w : World} {base : Nat} {v : Value} {L : List K} (h : OwnK w base v L) :
    (v = .slice none 0 0 ∧ L = []) ∨ ∃ g cap, v = .slice (some ⟨g, 0, none⟩) L.length cap ∧ base ≤ g ∧ g < w.heap.size ∧ L.length ≤ cap ∧ cap ≤ maxLen ∧ KeysAt w (some ⟨g, 0, none⟩) L := by
  obtain ⟨hl, h⟩ := h
  rcases h with ⟨rfl, h0⟩ | ⟨g, cap, cur, rfl, hb, hg, hn, hm, hs, ht⟩
  · exact .inl ⟨rfl, List.eq_nil_of_length_eq_zero h0⟩
  · refine .inr ⟨g, cap, rfl, hb, (Array.getElem?_eq_some_iff.1 hg).1, hn, hm, .inr ⟨g, 0, rfl, fun j u hu => ?_⟩⟩
    have hj : j < L.length * 2 := by rw [← cks_length]; exact (List.getElem?_eq_some_iff.1 hu).1
    have e := World.ownsRow.cellAt (w := w) (base := base) (e := 41) (size := 2) (g := g) (cap := cap) ⟨hl, .inr ⟨g, cap, cur, rfl, hb, hg, hn, hm, hs, ht⟩⟩ j hj
    rw [Nat.zero_add, e, hu]
theorem OwnK.slice {w : World} {base : Nat} {v : Value} {L : List K} (h : OwnK w base v L) : ∃ ao cap, v = .slice ao L.length cap ∧ KeysAt w ao L ∧ (ao = none → cap = 0) ∧ L.length ≤ cap := by
  rcases h.shape with ⟨rfl, rfl⟩ | ⟨g, cap, rfl, _, _, hc, _, hb⟩
  · exact ⟨none, 0, rfl, .inl rfl, fun _ => rfl, by simp⟩
  · exact ⟨_, cap, rfl, hb, by simp, hc⟩
theorem OwnK.alloc {w : World} {base : Nat} {v : Value} {L : List K} (h : OwnK w base v L) (o : Obj) : OwnK (w.alloc o) base v L := World.ownsRow.alloc h o
theorem OwnK.drewN {w : World} {base : Nat} {v : Value} {L : List K} (h : OwnK w base v L) (n : Nat) : OwnK (w.drewN n) base v L := h
theorem OwnK.mono {w : World} {base base' : Nat} {v : Value} {L : List K} (h : OwnK w base v L) (hb : base' ≤ base) : OwnK w base' v L := by
  obtain ⟨hl, h⟩ := h
  refine ⟨hl, ?_⟩
  rcases h with h | ⟨g, cap, cur, e, hg, r⟩
  · exact .inl h
  · exact .inr ⟨g, cap, cur, e, by omega, r⟩
theorem OwnK.lt {w : World} {base : Nat} {v : Value} {L : List K} (h : OwnK w base v L) : ∀ k, v.ownBlock = some k → base ≤ k ∧ k < w.heap.size := World.ownsRow.lt h
theorem OwnK.same {w w1 : World} {base : Nat} {v : Value} {L : List K} (h : OwnK w base v L) (hs : ∀ g, v.ownBlock = some g → w1.heap[g]? = w.heap[g]?) : OwnK w1 base v L := by
  obtain ⟨hl, h⟩ := h
  refine ⟨hl, ?_⟩
  rcases h with h | ⟨g, cap, cur, rfl, hg, hh, r⟩
  · exact .inl h
  · exact .inr ⟨g, cap, cur, rfl, hg, (hs g rfl).trans hh, r⟩
theorem OwnK.kept {w w1 : World} {base : Nat} {v : Value} {L : List K} (h : OwnK w base v L) (hb : Below w.heap.size w w1) : OwnK w1 base v L :=
  h.same fun g hg => hb.block g (h.lt g hg).2

theorem infoK : (Tryz.prog.info? 41).map (fun i => (i.zero, i.size, i.bytes)) = some (some (.agg #[.int .i64 0, .int .i64 0]), 2, 16) := by kernel_rfl
/-- append at a slice of keys of the call's own, whatever slice of keys is appended: one equation -/
theorem run_append_keys {w : World} (ty : TypeId) (base : Nat) (v : Value) (L : List K) (hown : OwnK w base v L)
    (ao : Option Addr) (m c : Nat) (M : List K) (hm : m = M.length) (hsrc : KeysAt w ao M) (hnil : ao = none → c = 0) (hlen : (L.length + M.length) * 16 ≤ 140737488355328) (hbase : base ≤ w.heap.size) :
    ∃ v' w', (Builtin.append_ #[85, 85] ty #[v, .slice ao m c]).run Tryz.prog w = .ok v' w' ∧ OwnK w' base v' (L ++ M) ∧ w.grownBy w' v.ownBlock ∧ (v'.ownBlock = v.ownBlock ∨ v'.ownBlock = some w.heap.size) := by
  obtain ⟨i0, hi, hz0, hz1, hz2⟩ := info_parts infoK
  subst hm
  cases ao with
  | none =>
    have h0 : M = [] := by
      rcases hsrc with h1 | ⟨b, off, h1, _⟩
      · exact h1
      · cases h1
    subst h0
    obtain rfl := hnil rfl
    exact ⟨v, w, run_append_owned_none (P := Tryz.prog) (w := w) base 85 ty 41 i0 2 Tryz.underlying85 hi v L.length (cks L) hown, by simpa using hown, World.grownBy.refl _ _, .inl rfl⟩
  | some ad =>
    obtain ⟨v', w', hr, h2, h3, _, h5⟩ := run_append_own_at (P := Tryz.prog) w base 85 ty 41 i0 (.agg #[.int .i64 0, .int .i64 0]) 2 16 Tryz.underlying85 hi hz0 hz1 hz2 rfl (by decide) v L.length (cks L) hown ad M.length c (cks M) (cks_length M)
      (by
        intro j u hu
        rcases hsrc with h0 | ⟨b, off, e, hc⟩
        · subst h0; simp [cks] at hu
        · cases e
          rw [addr_add]; exact hc j u hu) (cks_one M) (by unfold maxLen; omega) hlen hbase
    exact ⟨v', w', hr, by unfold OwnK; rw [List.length_append, cks_append]; exact h2, h3, h5⟩
theorem wpList_append_keys {w : World} {ops : Array Oper} {rest : List Oper} {o : Oper} {a : Act} {Q : Exit → Act → World → Prop} (hgd : o.guard = none) (s x : Operand)
    (ho : o.op = .call { callee := .builtin .append, args := #[s, x], argTypes := #[85, 85] }) (base : Nat) (v : Value) (L : List K) (hs : a.eval s = v) (hown : OwnK w base v L)
    (ao : Option Addr) (m c : Nat) (M : List K) (hx : a.eval x = .slice ao m c) (hm : m = M.length) (hsrc : KeysAt w ao M) (hnil : ao = none → c = 0) (hlen : (L.length + M.length) * 16 ≤ 140737488355328) (hbase : base ≤ w.heap.size)
    (h : ∀ v' w', OwnK w' base v' (L ++ M) → w.grownBy w' v.ownBlock → (v'.ownBlock = v.ownBlock ∨ v'.ownBlock = some w.heap.size) → wpList Tryz.prog ops Q rest (a.put o.dst v') w') : wpList Tryz.prog ops Q (o :: rest) a w := by
  obtain ⟨v', w', hr, h2, h3, h4⟩ := run_append_keys o.type base v L hown ao m c M hm hsrc hnil hlen hbase
  refine wpList_plain hgd fun K hK' => ?_
  unfold Oper.wp
  simp [execOp, ho, resolve, invoke, builtin, hs, hx, hr, Result.andThen]
  exact hK' _ _ (h v' w' h2 h3 h4)
theorem step_append_keys {w : World} {ops : Array Oper} {o : Oper} {a : Act} {K' : Act → World → Prop} {Q : Exit → Act → World → Prop} {E : Prop} (hgd : o.guard = none) (s x : Operand)
    (ho : o.op = .call { callee := .builtin .append, args := #[s, x], argTypes := #[85, 85] }) (base : Nat) (v : Value) (L : List K) (hs : a.eval s = v) (hown : OwnK w base v L)
    (ao : Option Addr) (m c : Nat) (M : List K) (hx : a.eval x = .slice ao m c) (hm : m = M.length) (hsrc : KeysAt w ao M) (hnil : ao = none → c = 0) (hlen : (L.length + M.length) * 16 ≤ 140737488355328) (hbase : base ≤ w.heap.size)
    (h : ∀ v' w', OwnK w' base v' (L ++ M) → w.grownBy w' v.ownBlock → (v'.ownBlock = v.ownBlock ∨ v'.ownBlock = some w.heap.size) → K' (a.put o.dst v') w') :
    if Region.wanted o (yielded ops a.tmps) = true then Oper.wp Tryz.prog o a w K' Q else E := by
  have hw : Region.wanted o (yielded ops a.tmps) = true := by simp [Region.wanted, hgd]
  rw [if_pos hw]
  obtain ⟨v', w', hr, h2, h3, h4⟩ := run_append_keys o.type base v L hown ao m c M hm hsrc hnil hlen hbase
  unfold Oper.wp execOp
  simp only [ho, resolve, invoke, builtin, Sem.run_bind, Sem.run_pure, Result.andThen_ok, List.map_toArray, List.map_cons, List.map_nil, hs, hx, hr]
  exact h v' w' h2 h3 h4
/-- one key, laid for an append -/
theorem key_src (w : World) (B : Nat) (x y : Int) (hB : B = w.heap.size) : KeysAt (w.alloc (.cells #[.int .i64 x, .int .i64 y] 41)) (some ⟨B, 0, none⟩) [(x, y)] := by
  have hb := Box.new (w := w) (b := B) (x := x) (y := y) hB
  refine .inr ⟨B, 0, rfl, fun j u hu => ?_⟩
  match j, hu with
  | 0, hu => simp [cks] at hu; rw [← hu]; exact hb.1
  | 1, hu => simp [cks] at hu; rw [← hu]; exact hb.2
  | j + 2, hu => simp [cks] at hu

theorem grown_below {w w1 : World} {row : Option Nat} {B : Nat} (h : w.grownBy w1 row) (hr : ∀ k, row = some k → B ≤ k) (hB : B ≤ w.heap.size) : Below B w w1 :=
  ⟨h.os, h.tape, h.output, h.size, fun k hk => h.block k (by omega) (fun e => by have := hr k e.symm; omega)⟩

end Go.Proofs.YtbcmmeajglilbaaGreat
/-
  A Dict IN MEMORY.
-/
namespace Go.Proofs.YtbcmmeajglilbaaGreat
open Go.RowKit Go.Sort

/-- an entry: its block, its key, its value, its partition -/
structure En where
  b : Nat
  k : K
  v : Nat
  p : Nat
abbrev ptr (b : Nat) : Value := .pointer (some ⟨b, 0, none⟩)
/-- the first one, the last one -/
def hp : List En → Value
  | [] => .pointer none
  | e :: _ => ptr e.b
def lp (l : List En) : Value := match l.getLast? with | none => .pointer none | some e => ptr e.b
theorem lp_nil : lp [] = .pointer none := rfl
theorem lp_snoc (l : List En) (e : En) : lp (l ++ [e]) = ptr e.b := by simp [lp]
theorem hp_cons (e : En) (l : List En) : hp (e :: l) = ptr e.b := rfl
/-- a partition's -/
def pt (p : Nat) (l : List En) : List En := l.filter (fun e => e.p == p)
theorem pt_append (p : Nat) (A B : List En) : pt p (A ++ B) = pt p A ++ pt p B := by simp [pt]
theorem pt_cons_same {p : Nat} {e : En} (h : e.p = p) (l : List En) : pt p (e :: l) = e :: pt p l := by simp [pt, h]
theorem pt_cons_other {p : Nat} {e : En} (h : e.p ≠ p) (l : List En) : pt p (e :: l) = pt p l := by simp [pt, h]
theorem pt_nil (p : Nat) : pt p [] = [] := rfl
theorem pt_mem {p : Nat} {e : En} {l : List En} : e ∈ pt p l ↔ e ∈ l ∧ e.p = p := by simp [pt]
def cellsE (e : En) (x y : Value) : Array Value := #[.int .i64 e.k.1, .int .i64 e.k.2, ptr e.v, .int .i64 (e.p : Int), x, y]
/-- the Dict in block D -/
structure DA (w : World) (D M L : Nat) (hf : Value) (P : Nat) (es : List En) : Prop where
  dc : w.heap[D]? = some (.cells #[hf, .map (some M), .slice (some ⟨L, 0, none⟩) P P] 95 (0, 0))
  mp : ∃ ms clock, w.heap[M]? = some (.map ms clock) ∧ ms.toList.map (fun x => (x.key, x.val)) = es.map (fun e => (kv e.k, ptr e.b))
  ln : ∃ C, w.heap[L]? = some (.cells C 135 (0, 0)) ∧ C.size = 3 * P ∧ ∀ p, p < P → C[3 * p]? = some (hp (pt p es)) ∧ C[3 * p + 1]? = some (lp (pt p es)) ∧ C[3 * p + 2]? = some (.int .i64 ((pt p es).length : Int))
  en : ∀ A e C, es = A ++ e :: C → w.heap[e.b]? = some (.cells (cellsE e (lp (pt e.p A)) (hp (pt e.p C))) 133 (0, 0))
  kn : (es.map En.k).Nodup
  bn : (es.map En.b).Nodup
  pp : ∀ e ∈ es, e.p < P ∧ KIn e.k ∧ True
  P0 : 1 ≤ P ∧ P ≤ 256
theorem blk_lt {w : World} {k : Nat} {o : Obj} (h : w.heap[k]? = some o) : k < w.heap.size := (Array.getElem?_eq_some_iff.1 h).1
theorem DA.entry {w : World} {D M L P : Nat} {hf : Value} {es : List En} (h : DA w D M L hf P es) {e : En} (he : e ∈ es) : ∃ x y, w.heap[e.b]? = some (.cells (cellsE e x y) 133 (0, 0)) := by
  obtain ⟨A, C, rfl⟩ := List.append_of_mem he
  exact ⟨_, _, h.en A e C rfl⟩
/-- what may turn -/
def Ft (M L : Nat) (es : List En) (k : Nat) : Prop := k = M ∨ k = L ∨ ∃ e ∈ es, e.b = k
theorem DA.lt {w : World} {D M L P : Nat} {hf : Value} {es : List En} (h : DA w D M L hf P es) {k : Nat} (hk : k = D ∨ Ft M L es k) : k < w.heap.size := by
  rcases hk with rfl | rfl | rfl | ⟨e, he, rfl⟩
  · exact blk_lt h.dc
  · obtain ⟨_, _, h1, _⟩ := h.mp; exact blk_lt h1
  · obtain ⟨_, h1, _⟩ := h.ln; exact blk_lt h1
  · obtain ⟨_, _, h1⟩ := h.entry he; exact blk_lt h1
theorem DA.same {w w' : World} {D M L P : Nat} {hf : Value} {es : List En} (h : DA w D M L hf P es) (hs : ∀ k, (k = D ∨ Ft M L es k) → w'.heap[k]? = w.heap[k]?) : DA w' D M L hf P es := by
  refine ⟨(hs D (.inl rfl)).trans h.dc, ?_, ?_, fun A e C he => (hs _ (.inr (.inr (.inr ⟨e, by rw [he]; simp, rfl⟩)))).trans (h.en A e C he), h.kn, h.bn, h.pp, h.P0⟩
  · obtain ⟨ms, c, h1, h2⟩ := h.mp
    exact ⟨ms, c, (hs M (.inr (.inl rfl))).trans h1, h2⟩
  · obtain ⟨C, h1, h2⟩ := h.ln
    exact ⟨C, (hs L (.inr (.inr (.inl rfl)))).trans h1, h2⟩
theorem DA.kept {w w' : World} {D M L P : Nat} {hf : Value} {es : List En} (h : DA w D M L hf P es) (hb : Below w.heap.size w w') : DA w' D M L hf P es := h.same (fun _ hk => hb.block _ (h.lt hk))
/-- blocks in S may turn, new ones may come -/
structure Fr (S : Nat → Prop) (w w' : World) : Prop where
  os : w'.os = w.os
  tape : w'.tape = w.tape
  output : w'.output = w.output
  size : w.heap.size ≤ w'.heap.size
  block : ∀ k, k < w.heap.size → ¬ S k → w'.heap[k]? = w.heap[k]?
theorem Fr.refl (S : Nat → Prop) (w : World) : Fr S w w := ⟨rfl, rfl, rfl, Nat.le_refl _, fun _ _ _ => rfl⟩
theorem Fr.ofBelow {S : Nat → Prop} {w w' : World} (h : Below w.heap.size w w') : Fr S w w' := ⟨h.os, h.tape, h.output, h.size, fun k hk _ => h.block k hk⟩
theorem Fr.trans {S T : Nat → Prop} {a b c : World} (h : Fr S a b) (h2 : Fr T b c) (hT : ∀ k, k < a.heap.size → T k → S k) : Fr S a c :=
  ⟨h2.os.trans h.os, h2.tape.trans h.tape, h2.output.trans h.output, Nat.le_trans h.size h2.size, fun k hk hS => (h2.block k (Nat.lt_of_lt_of_le hk h.size) (fun t => hS (hT k hk t))).trans (h.block k hk hS)⟩
theorem Fr.below {S : Nat → Prop} {a b : World} (h : Fr S a b) {n : Nat} (hn : n ≤ a.heap.size) (hS : ∀ k, S k → n ≤ k) : Below n a b :=
  ⟨h.os, h.tape, h.output, h.size, fun k hk => h.block k (by omega) (fun s => by have := hS k s; omega)⟩
theorem Fr.set {S : Nat → Prop} {a b : World} (h : Fr S a b) (p : Addr) (v : Value) (hp : a.heap.size ≤ p.block ∨ S p.block) : Fr S a (b.setCell p v) :=
  ⟨h.os, h.tape, h.output, by simpa using h.size, fun k hk hS => (heap_setCell_other b p k v (fun e => by rcases hp with hp | hp; · omega
                                                                                                          · exact hS (by rw [e]; exact hp))).trans (h.block k hk hS)⟩

/-- keys of maps -/
theorem keyed : Maps.Keyed Tryz.prog 41 := Maps.Keyed.of_law (deep_law_laid (by kernel_rfl) (m := 200) (by decide) (by decide +kernel) (by kernel_rfl) (by kernel_rfl))
theorem key_lit {k : K} (h : KIn k) : ∃ l, keyOf Tryz.prog 41 (kv k) = some l := by
  have hw1 : (Lit.int .i64 k.1).wf = true := WalkArith.wf_i64 h.1
  have hw2 : (Lit.int .i64 k.2).wf = true := WalkArith.wf_i64 h.2
  have ht : Tryz.prog.keyType 41 = true := by kernel_rfl
  have hc : Tryz.prog.cellsOf 41 = 2 := by kernel_rfl
  have hc3 : Tryz.prog.cellsOf 3 = 1 := by kernel_rfl
  have hc2 : Tryz.prog.cellsOf 2 = 1 := by kernel_rfl
  have hf : (kv k).formed Tryz.prog 41 = true := by simp [Value.formed, Tryz.underlying41, hc]
  have hu : Tryz.prog.underlying 41 = some (.struct (Tryz.prog.fieldsOf 41)) := by kernel_rfl
  have k3 : ∀ d x, (Lit.int .i64 x).wf = true → Tryz.prog.keyLits (d + 1) 3 [.int .i64 x] = some [.int .i64 x] := fun d x hx => by
    unfold Program.keyLits; rw [Tryz.underlying3]; simp [hx]
  have k2 : ∀ d x, (Lit.int .i64 x).wf = true → Tryz.prog.keyLits (d + 1) 2 [.int .i64 x] = some [.int .i64 x] := fun d x hx => by
    unfold Program.keyLits; rw [Tryz.underlying2]; simp [hx]
  have hl : ∃ ls, Tryz.prog.keyLits (Tryz.prog.types.size + 1) 41 [.int .i64 k.1, .int .i64 k.2] = some ls := by
    have hz : Tryz.prog.types.size = 191 + 1 := by kernel_rfl
    rw [hz]
    unfold Program.keyLits
    rw [hu]
    simp [Program.fieldsOf, Tryz.underlying41, hc, hc2, hc3, k2 191 _ hw2, k3 191 _ hw1]
  obtain ⟨ls, hl⟩ := hl
  refine ⟨.string (Go.keyBytes ls), ?_⟩
  unfold keyOf
  rw [hu]
  simp only [ht, hf, Bool.and_self, if_true]
  rw [show (kv k).cells.toList = [.int .i64 k.1, .int .i64 k.2] from rfl, hl]
  rfl
end Go.Proofs.YtbcmmeajglilbaaGreat
/-
  isKey.
-/
namespace Go.Proofs.YtbcmmeajglilbaaGreat
open Go.RowKit Go.Sort

set_option maxRecDepth 100000 in
set_option maxHeartbeats 1000000 in
/-- the deferred closure, where nothing is to be recovered -/
theorem isKey_idle (p1 : Addr) (w : World) :
    CallsD Tryz.prog 89 #[.pointer (some p1)] .returning w fun e u' w' => e = .returned (.tuple #[]) ∧ u' = .returning ∧ w' = w := by
  refine callsD_of_wpS Tryz.func89 rfl fun c₀ cs hu => ?_
  apply wpS_seq
  apply wpS_region
  simp [wpOpsS, go_sem, recoverD, hu, Tryz.ntmps89, Exit.thenS]
  refine wpS_cond (t := false) (by simp [Act.eval, Array.replicate]) ?_
  simp only [Bool.false_eq_true, if_false]
  refine wpS_of_wp (wp_skip ?_)
  cases c₀
  simp_all [bodyPostS, results, Tryz.results89]

set_option maxRecDepth 100000 in
set_option maxHeartbeats 1000000 in
theorem isKey_any (w : World) (k : K) :
    Calls Tryz.prog 69 #[kv k] w fun e w' => e = .returned (.bool true) ∧ Below w.heap.size w w' := by
  have hmf : ∀ (fn : Fn) (first cap : Array Value) (w : World), (Instr.makeFunc fn first cap).run Tryz.prog w = .ok (.func fn first cap) w := fun _ _ _ _ => rfl
  obtain ⟨k1, k2⟩ := k
  go_enter_defers Tryz.func69, Tryz.ntmps69
  have hq := run_eqKey k1 k2 k1 k2
  have hg := run_eqGuard
  have HB : Hid (Below w.heap.size w ((w.alloc (.cells #[.int .i64 k1, .int .i64 k2] 41)).alloc (.cells #[.bool true] 4))) := ((Below.refl _ _).alloc (Nat.le_refl _) _).alloc (by simp) _
  have g1 : ((w.alloc (.cells #[.int .i64 k1, .int .i64 k2] 41)).alloc (.cells #[.bool true] 4)).cell? ⟨w.heap.size + 1, 0, none⟩ = some (.bool true) := by
    have h := heap_alloc_new (w := w.alloc (.cells #[.int .i64 k1, .int .i64 k2] 41)) (.cells #[.bool true] 4) (w.heap.size + 1) (by simp)
    rw [World.cell?, h]; rfl
  go_wp2
  refine leaves_cons (f := 89) (args := #[.pointer (some ⟨w.heap.size + 1, 0, none⟩)]) (by simp) (by simp [go_sem]) ?_
  refine (isKey_idle _ _).mono ?_
  rintro e3 u' w6 ⟨rfl, rfl, hw6⟩
  subst hw6
  simp [Leaves, settle, results, Tryz.results69, go_sem, g1]
  exact HB.out
end Go.Proofs.YtbcmmeajglilbaaGreat
/-
  A Dict's MAP; find, Get, line, Len, Part.
-/
namespace Go.Proofs.YtbcmmeajglilbaaGreat
open Go.RowKit Go.Sort

/-- what is found -/
def fd (es : List En) (k : K) : Option En := es.find? (fun e => decide (e.k = k))
def fp : Option En → Value
  | none => .pointer none
  | some e => ptr e.b
theorem fd_none {es : List En} {k : K} (h : fd es k = none) : ∀ e ∈ es, e.k ≠ k := by
  intro e he
  have := List.find?_eq_none.1 h e he
  simpa using this
theorem fd_some {es : List En} {k : K} {e : En} (h : fd es k = some e) : e ∈ es ∧ e.k = k := ⟨List.mem_of_find?_eq_some h, by have := List.find?_some h; simpa using this⟩
theorem nodup_split {α β : Type} {f : α → β} {A C : List α} {e : α} (h : ((A ++ e :: C).map f).Nodup) : (∀ x ∈ A, f x ≠ f e) ∧ (∀ x ∈ C, f x ≠ f e) := by
  rw [List.map_append, List.map_cons, List.nodup_append] at h
  obtain ⟨_, h2, h3⟩ := h
  rw [List.nodup_cons] at h2
  refine ⟨fun x hx e' => h3 (f x) (List.mem_map.2 ⟨x, hx, rfl⟩) (f e) (by simp) e', fun x hx e' => h2.1 (List.mem_map.2 ⟨x, hx, e'⟩)⟩
theorem fd_of {es : List En} {e : En} (hk : (es.map En.k).Nodup) (he : e ∈ es) : fd es e.k = some e := by
  obtain ⟨A, C, rfl⟩ := List.append_of_mem he
  have h := (nodup_split hk).1
  unfold fd
  rw [List.find?_append, List.find?_eq_none.2 (fun x hx => by simpa using h x hx)]
  simp
theorem kv_inj {a b : K} (h : kv a = kv b) : a = b := by
  obtain ⟨a1, a2⟩ := a
  obtain ⟨b1, b2⟩ := b
  simp only [kv, Value.agg.injEq] at h
  have := congrArg Array.toList h
  simp only [List.cons.injEq, Value.int.injEq, true_and, and_true] at this
  rw [this.1, this.2]
section
variable {w : World} {M : Nat} {es : List En} {ms : Array MapEntry} {clock : Nat}
theorem map_find (hp : ∀ e ∈ es, KIn e.k) (hms : ms.toList.map (fun x => (x.key, x.val)) = es.map (fun e => (kv e.k, ptr e.b))) (hk : (es.map En.k).Nodup) {k : K} (hkk : KIn k) (w : World) :
    (fd es k = none ∧ (Instr.findKey 41 (kv k) ms.toList).run Tryz.prog w = .ok none w) ∨ (∃ j A e C, es = A ++ e :: C ∧ A.length = j ∧ e.k = k ∧ fd es k = some e ∧ (Instr.findKey 41 (kv k) ms.toList).run Tryz.prog w = .ok (some (j, ptr e.b)) w) := by
  obtain ⟨l, hl⟩ := key_lit hkk
  have hall : ∀ x ∈ ms.toList, ∃ l, keyOf Tryz.prog 41 x.key = some l := fun x hx => by
    have h1 : (x.key, x.val) ∈ es.map (fun e => (kv e.k, ptr e.b)) := by rw [← hms]; exact List.mem_map.2 ⟨x, hx, rfl⟩
    obtain ⟨e, he, h2⟩ := List.mem_map.1 h1
    obtain ⟨l, h3⟩ := key_lit (hp e he)
    exact ⟨l, by rw [← (Prod.mk.inj h2).1]; exact h3⟩
  rcases keyed.find w hl ms.toList hall with ⟨h1, h2⟩ | ⟨j, x, h1, h2, h3⟩
  · refine .inl ⟨?_, h1⟩
    refine List.find?_eq_none.2 fun e he => ?_
    have h4 : (kv e.k, ptr e.b) ∈ ms.toList.map (fun x => (x.key, x.val)) := by rw [hms]; exact List.mem_map.2 ⟨e, he, rfl⟩
    obtain ⟨x, hx, h5⟩ := List.mem_map.1 h4
    have h6 := h2 x hx
    simp only [decide_eq_true_eq]
    intro e'
    exact h6 (by rw [(Prod.mk.inj h5).1, e'])
  · have h4 : (ms.toList.map (fun x => (x.key, x.val)))[j]? = some (x.key, x.val) := by rw [List.getElem?_map, h2]; rfl
    rw [hms, List.getElem?_map] at h4
    obtain ⟨e, he, h5⟩ := Option.map_eq_some_iff.1 h4
    obtain ⟨h6, h7⟩ := Prod.mk.inj h5
    have hek : e.k = k := kv_inj (h6.trans h3)
    obtain ⟨hj, hje⟩ := List.getElem?_eq_some_iff.1 he
    refine .inr ⟨j, es.take j, e, es.drop (j + 1), ?_, by rw [List.length_take]; omega, hek, ?_, ?_⟩
    · rw [← hje, ← List.drop_eq_getElem_cons hj, List.take_append_drop]
    · rw [← hek]; exact fd_of hk (List.mem_of_getElem? he)
    · rw [h1, h7]
theorem run_zeroE (w : World) : (zeroValue 131).run Tryz.prog w = .ok (.pointer none) w := by kernel_rfl
theorem map_look (hb : w.heap[M]? = some (.map ms clock)) (hp : ∀ e ∈ es, KIn e.k) (hms : ms.toList.map (fun x => (x.key, x.val)) = es.map (fun e => (kv e.k, ptr e.b))) (hk : (es.map En.k).Nodup) {k : K} (hkk : KIn k) :
    (Instr.lookup 92 (.map (some M)) (kv k) false).run Tryz.prog w = .ok (fp (fd es k)) w := by
  obtain ⟨l, hl⟩ := key_lit hkk
  rcases map_find hp hms hk hkk w with ⟨h1, h2⟩ | ⟨j, A, e, C, _, _, _, h1, h2⟩
  · rw [h1]
    simp [Instr.lookup, run_underlying Tryz.underlying92, MapKept.run_getObj_map hb, keyed.check w _ hl, h2, Result.andThen, fp]
  · rw [h1]
    simp [Instr.lookup, run_underlying Tryz.underlying92, MapKept.run_getObj_map hb, keyed.check w _ hl, h2, Result.andThen, fp]
theorem map_put (hb : w.heap[M]? = some (.map ms clock)) (hp : ∀ e ∈ es, KIn e.k) (hms : ms.toList.map (fun x => (x.key, x.val)) = es.map (fun e => (kv e.k, ptr e.b))) (hk : (es.map En.k).Nodup) {k : K} (hkk : KIn k) (hn : fd es k = none) (b : Nat) :
    (Instr.mapUpdate 92 (.map (some M)) (kv k) (ptr b)).run Tryz.prog w = .ok () (ChangeMaps.setBlock w M (.map (ms.push ⟨kv k, ptr b, clock⟩) (clock + 1))) := by
  obtain ⟨l, hl⟩ := key_lit hkk
  rcases map_find hp hms hk hkk w with ⟨h1, h2⟩ | ⟨j, A, e, C, _, _, _, h1, h2⟩
  · simp [Instr.mapUpdate, run_underlying Tryz.underlying92, MapKept.run_getObj_map hb, keyed.check w false hl, h2, MapKept.run_setObj_map _ hb, Result.andThen, ChangeMaps.setBlock]
  · rw [hn] at h1; cases h1
theorem map_del (hb : w.heap[M]? = some (.map ms clock)) (hp : ∀ e ∈ es, KIn e.k) (hms : ms.toList.map (fun x => (x.key, x.val)) = es.map (fun e => (kv e.k, ptr e.b))) (hk : (es.map En.k).Nodup) {e : En} (he : e ∈ es) (ty : TypeId) :
    ∃ A C ms', es = A ++ e :: C ∧ (Builtin.delete_ #[92, 41] ty #[.map (some M), kv e.k]).run Tryz.prog w = .ok (.tuple #[]) (ChangeMaps.setBlock w M (.map ms' clock)) ∧ ms'.toList.map (fun x => (x.key, x.val)) = (A ++ C).map (fun e => (kv e.k, ptr e.b)) := by
  obtain ⟨l, hl⟩ := key_lit (hp e he)
  rcases map_find hp hms hk (hp e he) w with ⟨h1, h2⟩ | ⟨j, A, e', C, h0, hj, _, h1, h2⟩
  · rw [fd_of hk he] at h1; cases h1
  · rw [fd_of hk he] at h1
    cases h1
    have hsub : (ms.eraseIdxIfInBounds j).toList = ms.toList.eraseIdx j := by
      unfold Array.eraseIdxIfInBounds
      split
      · simp
      · rename_i hh
        rw [List.eraseIdx_of_length_le (by simpa using hh)]
    refine ⟨A, C, ms.eraseIdxIfInBounds j, h0, ?_, ?_⟩
    · simp [Builtin.delete_, run_underlying Tryz.underlying92, MapKept.run_getObj_map hb, keyed.check w _ hl, h2, MapKept.run_setObj_map _ hb, Result.andThen, ChangeMaps.setBlock]
    · rw [hsub, ChangeMaps.map_eraseIdx, hms, ← ChangeMaps.map_eraseIdx, h0, ← hj]
      simp [List.eraseIdx_append_of_length_le]
end

theorem DA.cells {w : World} {D M L P : Nat} {hf : Value} {es : List En} (h : DA w D M L hf P es) : w.cell? ⟨D, 0, none⟩ = some hf ∧ w.cell? ⟨D, 1, none⟩ = some (.map (some M)) ∧ w.cell? ⟨D, 2, none⟩ = some (.slice (some ⟨L, 0, none⟩) P P) := by
  refine ⟨?_, ?_, ?_⟩ <;> rw [World.cell?, h.dc] <;> rfl
theorem DA.look {w : World} {D M L P : Nat} {hf : Value} {es : List En} (h : DA w D M L hf P es) {k : K} (hk : KIn k) : (Instr.lookup 92 (.map (some M)) (kv k) false).run Tryz.prog w = .ok (fp (fd es k)) w := by
  obtain ⟨ms, c, h1, h2⟩ := h.mp
  exact map_look h1 (fun e he => (h.pp e he).2.1) h2 h.kn hk

theorem DA.lookN {w : World} {D M L P : Nat} {hf : Value} {es : List En} (h : DA w D M L hf P es) {k1 k2 : Int} (hk : KIn (k1, k2)) (n : Nat) : Sem.run Tryz.prog (Instr.lookup 92 (.map (some M)) (.agg #[.int .i64 k1, .int .i64 k2]) false) (w.drewN n) = Result.ok (fp (fd es (k1, k2))) (w.drewN n) :=
  DA.look (k := (k1, k2)) (h.same (w' := w.drewN n) (fun _ _ => rfl)) hk

set_option maxRecDepth 100000 in
set_option maxHeartbeats 1000000 in
theorem find_any (w : World) (D M L P : Nat) (hf : Value) (es : List En) (k : K) (h : DA w D M L hf P es) (hk : KIn k) :
    Calls Tryz.prog 74 #[ptr D, kv k] w fun e w' => e = .returned (fp (fd es k)) ∧ Below w.heap.size w w' := by
  have HD : Hid (DA w D M L hf P es ∧ KIn k) := ⟨h, hk⟩
  clear h hk
  obtain ⟨k1, k2⟩ := k
  go_enter Tryz.func74, Tryz.ntmps74
  go_wp2_with fail
  have HB1 : Hid (Below w.heap.size w (w.alloc (.cells #[.int .i64 k1, .int .i64 k2] 41))) := (Below.refl _ _).alloc (Nat.le_refl _) _
  have HX1 : Hid ((w.alloc (.cells #[.int .i64 k1, .int .i64 k2] 41)).heap[w.heap.size]? = some (.cells #[.int .i64 k1, .int .i64 k2] 41 (0, 0))) := heap_alloc_new _ _ rfl
  generalize w.alloc (.cells #[.int .i64 k1, .int .i64 k2] 41) = W1 at *
  refine (isKey_any W1 (k1, k2)).mono ?_
  rintro e w2 ⟨rfl, hb2⟩
  have HB2 : Hid (Below w.heap.size w w2) := HB1.out.trans (hb2.mono HB1.out.size)
  have HX2 : Hid (w2.heap[w.heap.size]? = some (.cells #[.int .i64 k1, .int .i64 k2] 41 (0, 0))) := (hb2.block _ (blk_lt HX1.out)).trans HX1.out
  have HD2 : Hid (DA w2 D M L hf P es) := HD.out.1.kept HB2.out
  clear hb2 HB1 HX1
  obtain ⟨_, c1, _⟩ := HD2.out.cells
  have b0 : w2.cell? ⟨w.heap.size, 0, none⟩ = some (.int .i64 k1) := by rw [World.cell?, HX2.out]; rfl
  have b1 : w2.cell? ⟨w.heap.size, 1, none⟩ = some (.int .i64 k2) := by rw [World.cell?, HX2.out]; rfl
  have hl := HD2.out.lookN HD.out.2
  go_wp2_with fail
  go_quiet (fail)
  go_wp2
  go_ret
  exact ⟨rfl, HB2.out.trans (((Grew.refl w2).drewN _).below.mono HB2.out.size)⟩
end Go.Proofs.YtbcmmeajglilbaaGreat
