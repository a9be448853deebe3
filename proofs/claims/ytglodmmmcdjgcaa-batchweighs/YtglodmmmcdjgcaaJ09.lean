import Derived.Test.YtglodmmmcdjgcaaJ08
import Derived.Deep.QuietTactic
import Derived.Test.YtglodmmmcdjgcaaJ07
import Derived.Deep.RegionHeld
import Derived.Test.YtglodmmmcdjgcaaJ04
import Derived.Test.YtglodmmmcdjgcaaJ05
/-
  THE WALKS OF codec.Reader's METHODS.
-/
namespace Go.Proofs.Ytglodmmmcdjgcaa
open Go.RowKit

theorem BytesAt.cut {w : World} {b off : Nat} {zs : List Nat} (h : BytesAt w (some ⟨b, off, none⟩) zs) (i n : Nat) : BytesAt w (some ⟨b, off + i, none⟩) ((zs.drop i).take n) := by
  obtain ⟨hz, rfl | ⟨b', off', e, hc⟩⟩ := h
  · exact ⟨by simp, .inl (by simp)⟩
  · cases e
    refine ⟨fun z hz' => hz z (List.mem_of_mem_drop (List.mem_of_mem_take hz')), .inr ⟨b, off + i, rfl, fun j hj => ?_⟩⟩
    simp at hj
    rw [Nat.add_assoc, hc (i + j) (by omega)]
    congr 3
    simp [List.getD_eq_getElem?_getD, show j < n by omega]
theorem BytesAt.drop {w : World} {b off : Nat} {zs : List Nat} (h : BytesAt w (some ⟨b, off, none⟩) zs) (i : Nat) : BytesAt w (some ⟨b, off + i, none⟩) (zs.drop i) := by
  have := h.cut i (zs.drop i).length
  rwa [List.take_length] at this

section
variable {w w1 : World} {r : Nat} {a : Option Addr} {c : Nat} {b : List Nat} {p : Nat} {e : Int}
theorem grown_setCell (w : World) (x : Addr) (v : Value) : w.grownBy (w.setCell x v) (some x.block) :=
  ⟨rfl, rfl, rfl, by simp, fun k _ hk => heap_setCell_other w x k v (fun e => hk (by rw [e]))⟩
theorem grown_drewN (w : World) (n : Nat) (row : Option Nat) : w.grownBy (w.drewN n) row := ⟨rfl, rfl, rfl, Nat.le_refl _, fun _ _ _ => rfl⟩
theorem grown_trans' {x y z : World} {row : Option Nat} (h : x.grownBy y row) (k : y.grownBy z row) : x.grownBy z row :=
  ⟨k.os.trans h.os, k.tape.trans h.tape, k.output.trans h.output, Nat.le_trans h.size k.size, fun i hi hne => (k.block i (Nat.lt_of_lt_of_le hi h.size) hne).trans (h.block i hi hne)⟩
theorem grown_below {x y : World} {row : Option Nat} (h : Below x.heap.size x y) : x.grownBy y row := ⟨h.os, h.tape, h.output, h.size, fun k hk _ => h.block k hk⟩
end

def rdByte (b : List Nat) (p : Nat) (e : Int) : Nat × Nat × Int := if e ≠ 0 then (0, p, e) else if p = b.length then (0, p, 10) else (b.getD p 0, p + 1, 0)


def rdUpto (b : List Nat) (p : Nat) (e : Int) (most : Nat) : Nat × Nat × Int :=
  if e ≠ 0 then (0, p, e) else if (scan (b.drop p)).2.2 ≠ 0 then (0, p, (((scan (b.drop p)).2.2 : Nat) : Int)) else if most < (scan (b.drop p)).1 then (0, p, 12) else ((scan (b.drop p)).1, p + (scan (b.drop p)).2.1, 0)


end Go.Proofs.Ytglodmmmcdjgcaa
/-
  THE WALKS OF codec.Reader's METHODS: Uint, Int, Raw.
-/
namespace Go.Proofs.Ytglodmmmcdjgcaa
open Go.RowKit


/-- a number without sign as one with -/
def unfold (n : Nat) : Int := if n % 2 = 1 then -1 - ((n / 2 : Nat) : Int) else ((n / 2 : Nat) : Int)

theorem rdUpto_lt (b : List Nat) (hz : ∀ z ∈ b, z < 256) (p : Nat) (e : Int) (most : Nat) : (rdUpto b p e most).1 < 18446744073709551616 := by
  unfold rdUpto
  split
  · simp
  · split
    · simp
    · split
      · simp
      · rename_i _ h _
        have h3 := scan_one (b.drop p) (scan (b.drop p)).1 (scan (b.drop p)).2.1 (fun z hz' => hz z (List.mem_of_mem_drop hz')) (by rw [← Decidable.not_not.1 h])
        exact h3.1


def rdRaw (b : List Nat) (p : Nat) (e : Int) (n : Int) : List Nat × Nat × Int :=
  if e ≠ 0 then ([], p, e) else if n < 0 then ([], p, 11) else if ((b.length - p : Nat) : Int) < n then ([], p, 10) else ((b.drop p).take n.toNat, p + n.toNat, 0)


end Go.Proofs.Ytglodmmmcdjgcaa
/-
  TRANSACTIONS AS DATA: what is sound, their bytes, their reading.
-/
namespace Go.Proofs.Ytglodmmmcdjgcaa.Kk
open Go.RowKit Go.Sort

/-- a transaction -/
structure Tp where
  proc : Int
  args : List Int
  reads : List K
  writes : List K
/-- what is wrong with it first, whatever the library -/
noncomputable def formN (t : Tp) : Int :=
  if t.proc < 0 ∨ 64 ≤ t.proc then 61 else if 16 < t.args.length then 62 else if 16 < t.reads.length then 63 else if 16 < t.writes.length then 64 else if Rise t.reads ∧ Rise t.writes then 0 else 65
/-- likewise for a list of procedures -/
noncomputable def soundN (Ps : List Pr) (t : Tp) : Int :=
  if t.proc < 0 ∨ (Ps.length : Int) ≤ t.proc then 61 else
  if (t.args.length : Int) ≠ (pd Ps t.proc.toNat).p.args then 62 else if (t.reads.length : Int) ≠ (pd Ps t.proc.toNat).p.reads then 63 else if (t.writes.length : Int) ≠ (pd Ps t.proc.toNat).p.writes then 64 else formN t
def td (Ts : List Tp) (i : Nat) : Tp := Ts.getD i ⟨0, [], [], []⟩
theorem td_mem {Ts : List Tp} {i : Nat} (h : i < Ts.length) : td Ts i ∈ Ts := by
  simp [td, List.getD_eq_getElem?_getD, List.getElem?_eq_getElem h]
theorem td_get {Ts : List Tp} {i : Nat} (h : i < Ts.length) : Ts[i]? = some (td Ts i) := by
  simp [td, List.getD_eq_getElem?_getD, List.getElem?_eq_getElem h]
/-- a batch: the first that is wrong -/
def eachN (f : Tp → Int) (Ts : List Tp) : Nat × Int := if 64 < Ts.length then (0, 60) else firstP (fun i => f (td Ts i)) Ts.length
theorem eachN_stop {f : Tp → Int} {Ts : List Tp} {k : Nat} (hl : Ts.length ≤ 64) (h : ∀ i, i < k → f (td Ts i) = 0) (hk : f (td Ts k) ≠ 0) (hn : k < Ts.length) : eachN f Ts = (k, f (td Ts k)) := by
  unfold eachN
  rw [if_neg (by omega), firstP_stop (f := fun i => f (td Ts i)) h hk hn]
theorem eachN_zero {f : Tp → Int} {Ts : List Tp} (hl : Ts.length ≤ 64) (h : ∀ i, i < Ts.length → f (td Ts i) = 0) : eachN f Ts = (0, 0) := by
  unfold eachN
  rw [if_neg (by omega), firstP_zero (f := fun i => f (td Ts i)) h]
theorem eachN_big {f : Tp → Int} {Ts : List Tp} (hl : 64 < Ts.length) : eachN f Ts = (0, 60) := by unfold eachN; rw [if_pos hl]
theorem eachN_ok {f : Tp → Int} {Ts : List Tp} (h : (eachN f Ts).2 = 0) : Ts.length ≤ 64 ∧ ∀ i, i < Ts.length → f (td Ts i) = 0 := by
  by_cases hl : 64 < Ts.length
  · rw [eachN_big hl] at h; cases h
  · refine ⟨by omega, ?_⟩
    suffices ∀ k, k ≤ Ts.length → ∀ i, i < k → f (td Ts i) = 0 from this _ (Nat.le_refl _)
    intro k
    induction k with
    | zero => intro _ i hi; omega
    | succ k ih =>
      intro hk i hi
      by_cases e : i = k
      · subst e
        by_cases h0 : f (td Ts i) = 0
        · exact h0
        · rw [eachN_stop (by omega) (ih (by omega)) h0 (by omega)] at h
          exact absurd h h0
      · exact ih (by omega) i (by omega)

/-- bytes -/
def setN (L : List K) : List Nat := uint 10 L.length ++ L.flatMap keyBytes
def argsN (A : List Int) : List Nat := uint 10 A.length ++ A.flatMap fun x => uint 10 (fold x)
def txN (t : Tp) : List Nat := uint 10 t.proc.toNat ++ argsN t.args ++ setN t.reads ++ setN t.writes
def batN (Ts : List Tp) : List Nat := uint 10 Ts.length ++ Ts.flatMap txN

/-- reading: an answer and the place behind it, or the place and the error -/
abbrev Rd (α : Type) := Except (Nat × Int) (α × Nat)
def upR (b : List Nat) (most p : Nat) : Rd Nat := if (rdUpto b p 0 most).2.2 = 0 then .ok ((rdUpto b p 0 most).1, (rdUpto b p 0 most).2.1) else .error ((rdUpto b p 0 most).2.1, (rdUpto b p 0 most).2.2)
def intR (b : List Nat) (p : Nat) : Rd Int := match upR b 18446744073709551615 p with | .ok (n, q) => .ok (unfold n, q) | .error x => .error x
/-- n args more -/
def argsR (b : List Nat) : Nat → List Int → Nat → Rd (List Int)
  | 0, A, p => .ok (A, p)
  | n + 1, A, p => match intR b p with | .ok (x, q) => argsR b n (A ++ [x]) q | .error x => .error x
def keyR (b : List Nat) (p : Nat) : Rd K := if p + 10 ≤ b.length then .ok (fromK ((b.drop p).take 10), p + 10) else .error (p, 10)
/-- n keys more -/
def keysR (b : List Nat) : Nat → List K → Nat → Rd (List K)
  | 0, L, p => .ok (L, p)
  | n + 1, L, p => match keyR b p with
    | .error x => .error x
    | .ok (k, q) => if L ≠ [] ∧ lt (kd L (L.length - 1)) k = false then .error (p, 65) else keysR b n (L ++ [k]) q
def setR (b : List Nat) (most p : Nat) : Rd (List K) := match upR b most p with | .ok (n, q) => keysR b n [] q | .error x => .error x
def argR (b : List Nat) (p : Nat) : Rd (List Int) := match upR b 16 p with | .ok (n, q) => argsR b n [] q | .error x => .error x
def txR (b : List Nat) (p : Nat) : Rd Tp := match upR b 63 p with
  | .error x => .error x
  | .ok (n, p1) => match argR b p1 with
    | .error x => .error x
    | .ok (A, p2) => match setR b 16 p2 with
      | .error x => .error x
      | .ok (R, p3) => match setR b 16 p3 with
        | .error x => .error x
        | .ok (V, p4) => .ok (⟨n, A, R, V⟩, p4)
def txsR (b : List Nat) : Nat → List Tp → Nat → Rd (List Tp)
  | 0, T, p => .ok (T, p)
  | n + 1, T, p => match txR b p with | .ok (x, q) => txsR b n (T ++ [x]) q | .error x => .error x
def batR (b : List Nat) (p : Nat) : Rd (List Tp) := match upR b 64 p with | .ok (n, q) => txsR b n [] q | .error x => .error x
/-- the batch of some bytes, or the place and the error -/
def decR (b : List Nat) : Except (Nat × Int) (List Tp) := match batR b 0 with
  | .error x => .error x
  | .ok (T, p) => if p = b.length then .ok T else .error (p, 11)
end Go.Proofs.Ytglodmmmcdjgcaa.Kk
