import Derived.RangeFuncNested
import Derived.RangeFuncBound
import Derived.RangeFuncCalls
import Derived.RangeFuncLeaves
import Derived.RangeFuncBox
import Derived.Shelf.Abstract
import Derived.Shelf.RegionOpen
import Derived.WalkKit
import Derived.OwnWalkIn
import Derived.TacticsInMore
import Derived.LoopNIn
import Derived.LoopIn
import Derived.RegionIn
import Derived.Test.YtmkomfbjgmgemaaGreatDoorJLDepths
import Derived.Test.YtmkomfbjgmgemaaGreatDoorJScan
import Derived.Test.YtmkomfbjgmgemaaGreatDoorJALLine
import Derived.Deep.RegionHeld
import Derived.Deep.DeepCutAuto
import Derived.Deep.MidRow
import Derived.Deep.RegionLaw
/-
  A REGION THAT DRAWS ITS ORDER AND ONLY READS, IN THE ROUND OF A LOOP OVER A FUNCTION: as outside a round, where no operation is a defer.
-/
namespace Go.Proofs.YtmkomfbjgmgemaaGreatDoor
open Go.RowKit Go.Sort

def noDefer (o : Oper) : Bool := match o.op with
  | .defer _ => false
  | _ => true
theorem noDefer_ne {o : Oper} (h : noDefer o = true) : ∀ c, o.op ≠ .defer c := by
  intro c e
  unfold noDefer at h
  rw [e] at h
  simp at h
theorem wpIn_round {F : Fence} {n l : Nat} {P : Program} {o : Oper} {a : Act} {w : World} {K : Act → World → Prop} {Q : Exit → Act → World → Prop} (hro : F.round = none) (hd : noDefer o = true) (h : o.wpIn F n P a w K Q) : o.wpIn (F.inRound l) n P a w K Q := by
  obtain ⟨h1, h2⟩ := h
  refine ⟨h1, ?_⟩
  rw [hro, Oper.semAt_none] at h2
  rw [Fence.inRound_round, Oper.semAt_some l _ _ (noDefer_ne hd)]
  generalize (execOp a.eval o).run P w = r at *
  cases r with
  | ok x w' => cases x <;> exact h2
  | halt x w' => cases x <;> exact h2
theorem wpAny_round {F : Fence} {n l : Nat} {P : Program} {md : Region.Mode} {ops : Array Oper} {Q : Exit → Act → World → Prop} (hro : F.round = none) (hd : ops.all noDefer = true) :
    ∀ (fuel : Nat) (listed : Array Bool) (a : Act) (w : World), wpAnyIn F n P md ops Q fuel listed a w → wpAnyIn (F.inRound l) n P md ops Q fuel listed a w
  | 0, _, _, _, h => h
  | fuel + 1, listed, a, w, h => ⟨h.1, fun i hi => by
    have h2 := h.2 i hi
    unfold wpOpIn at h2 ⊢
    cases ho : ops[i]? with
    | none => rw [ho] at h2; exact wpAny_round hro hd fuel _ _ _ h2
    | some o =>
      rw [ho] at h2
      have hn : noDefer o = true := by
        have h3 := Array.all_eq_true.1 hd
        obtain ⟨hlt, he⟩ := Array.getElem?_eq_some_iff.1 ho
        rw [← he]; exact h3 i hlt
      simp only at h2 ⊢
      split
      · rename_i hw
        rw [if_pos hw] at h2
        exact wpIn_round hro hn (Oper.wpIn_mono (fun a w hk => wpAny_round hro hd fuel _ a w hk) h2)
      · rename_i hw
        rw [if_neg hw] at h2
        exact ⟨h2.1, wpAny_round hro hd fuel _ _ _ h2.2⟩⟩
theorem region_round {F : Fence} {n l : Nat} {P : Program} {id : Nat} {Q : Exit → Act → World → Prop} {a : Act} {w : World} {ops : List Oper} (hro : F.round = none) (hm : P.follows .mixedOrders = true) (hB : Region.lexB .any ops.toArray = true) (hd : ops.toArray.all noDefer = true)
    (h : wpQuietIn F n P ops.toArray (fun w' => ∃ n, w' = w.drewN n) (fun a' => ∀ w', (∃ n, w' = w.drewN n) → Q .normal a' w') ops a) : (Code.region id ops.toArray true).wpIn (F.inRound l) n P Q a w := by
  simp only [Region.lexB, Bool.and_eq_true] at hB
  refine wpIn_region_any hm (wpAny_round hro hd _ _ _ _ (wpAnyIn_of_quiet (Q := fun a' => ∀ w', (∃ n, w' = w.drewN n) → Q .normal a' w') hro (fun _ w' hw' h => h w' hw') _ _ _ _ ⟨1, rfl⟩ ?_))
  have := wpAnyQIn_lex (F := F) (n := n) (C := fun w' => ∃ n, w' = w.drewN n) (md := .any) hB.1 ops 0 (Array.replicate ops.toArray.size false) a (by simp) (by simpa using hB.2) h
  simpa using this

/-- a loop over a function, whichever way it ends: what holds behind it -/
theorem loop_cut {F : Fence} {n : Nat} {P : Program} {c : Code} {Q : Exit → Act → World → Prop} {a : Act} {w : World} (id : Nat) (Post : World → Prop) (hex : ∀ a w, Q .normal a w → Q (.exit id) a w)
    (h : c.wpIn F n P (fun e a' w' => (e = .normal ∨ e = .exit id) ∧ ∃ D, w.heap.size ≤ D ∧ a' = { a with defers := { target := .collected D, args := #[] } :: a.defers } ∧ Post w' ∧ w'.heap[D]? = some (.deferred (some []))) a w)
    (hk : ∀ D W, w.heap.size ≤ D → Post W → W.heap[D]? = some (.deferred (some [])) → Q .normal { a with defers := { target := .collected D, args := #[] } :: a.defers } W) : c.wpIn F n P Q a w := by
  refine Code.wpIn_mono ?_ h
  rintro e a' w' ⟨he, D, hD, rfl, hp, hd⟩
  rcases he with rfl | rfl
  · exact hk D w' hD hp hd
  · exact hex _ _ (hk D w' hD hp hd)
end Go.Proofs.YtmkomfbjgmgemaaGreatDoor
/-
  slices.Backward: THE ITERATOR FROM THE BACK.
-/
namespace Go.Proofs.YtmkomfbjgmgemaaGreatDoor
open Go.RowKit Go.Sort Go.Shelf

attribute [local go_sem] Oper.semAt_some

/-- a place within m -/
def cl (m i : Nat) : Nat := min i (m - 1)
theorem cl_lt {m i : Nat} (h : 0 < m) : cl m i < m := by unfold cl; omega
theorem cl_of {m i : Nat} (h : i < m) : cl m i = i := by unfold cl; omega
/-- the last k places, from the back -/
def dn (m k : Nat) : List Nat := (List.range k).map (fun j => m - 1 - j)
theorem dn_succ (m k : Nat) : dn m (k + 1) = dn m k ++ [m - 1 - k] := by simp [dn, List.range_succ]
theorem dn_length (m k : Nat) : (dn m k).length = k := by simp [dn]
/-- what is handed on at a place -/
abbrev encP (m : Nat) (L : List K) (i : Nat) : Array Value := #[.int .i64 ((cl m i : Nat) : Int), .agg #[.int .i64 (cd L (cl m i)).1, .int .i64 (cd L (cl m i)).2]]

/-- what a round leaves: all below n₀, and the box -/
def KB (n₀ Bs : Nat) (A B : World) : Prop := Below n₀ A B ∧ B.heap[Bs]? = A.heap[Bs]?
theorem KB.refl (n₀ Bs : Nat) (A : World) : KB n₀ Bs A A := ⟨Below.refl _ _, rfl⟩
theorem KB.trans {n₀ Bs : Nat} {A B C : World} (h : KB n₀ Bs A B) (k : KB n₀ Bs B C) : KB n₀ Bs A C := ⟨h.1.trans k.1, k.2.trans h.2⟩
theorem KB.cell {n₀ Bs : Nat} {A B : World} (h : KB n₀ Bs A B) (i : Nat) : B.cell? ⟨Bs, i, none⟩ = A.cell? ⟨Bs, i, none⟩ := by simp only [World.cell?, h.2]

end Go.Proofs.YtmkomfbjgmgemaaGreatDoor
/-
  THE LONGEST WAYS: what the loop keeps.
-/
namespace Go.Proofs.YtmkomfbjgmgemaaGreatDoor
open Go.RowKit Go.Sort Go.Shelf

attribute [local go_sem] Oper.semAt_some

/-- the walk over one instruction: from what stands at its own place on -/
def mostW (m : List Int) (k : K) (i : Nat) : Int := (nextN i k.1 k.2).foldl (fun a t => max a (m.getD t 0)) (m.getD i 0) + 1
def stepM (L : List K) (m : List Int) (i : Nat) : List Int := m.set i (mostW m (cd L i) i)

theorem most_length (L : List K) (k : Nat) : (mostN L k).length = L.length + 1 := by
  induction k with
  | zero => simp [mostN]
  | succ k ih => rw [mostN, List.length_set, ih]
theorem most_zero (L : List K) (k i : Nat) (h : i + k < L.length) : (mostN L k).getD i 0 = 0 := by
  induction k with
  | zero => simp [mostN, List.getD_eq_getElem?_getD, List.getElem?_replicate]; split <;> rfl
  | succ k ih =>
    rw [mostN, getD_set _ _ _ _ (by rw [most_length]; omega), if_neg (by omega)]
    exact ih (by omega)
theorem most_step (L : List K) (k : Nat) (h : k < L.length) : mostN L (k + 1) = stepM L (mostN L k) (L.length - 1 - k) := by
  rw [mostN, stepM, mostW, most_zero L k _ (by omega), mostV]
def foldM (m : List Int) (nx : List Nat) (a : Int) : Int := nx.foldl (fun a t => max a (m.getD t 0)) a
theorem foldM_cons (m : List Int) (t : Nat) (nx : List Nat) (a : Int) : foldM m (t :: nx) a = foldM m nx (max a (m.getD t 0)) := rfl
/-- from 0 to b -/
def Few (m : List Int) (b : Int) : Prop := ∀ j, j < m.length → 0 ≤ m.getD j 0 ∧ m.getD j 0 ≤ b
theorem Few.mono {m : List Int} {b c : Int} (h : Few m b) (hc : b ≤ c) : Few m c := fun j hj => ⟨(h j hj).1, Int.le_trans (h j hj).2 hc⟩
theorem Few.set {m : List Int} {b x : Int} (h : Few m b) (i : Nat) (hx : 0 ≤ x ∧ x ≤ b) : Few (m.set i x) b := by
  intro j hj
  rw [List.length_set] at hj
  rw [getD_set m i j x hj]
  split
  · exact hx
  · exact h j hj
theorem foldM_few {m : List Int} {b : Int} (h : Few m b) (nx : List Nat) (hn : ∀ t ∈ nx, t < m.length) (a : Int) (ha : 0 ≤ a ∧ a ≤ b) : 0 ≤ foldM m nx a ∧ foldM m nx a ≤ b := by
  induction nx generalizing a with
  | nil => exact ha
  | cons t nx ih =>
    rw [foldM_cons]
    have h1 := h t (hn t (by simp))
    exact ih (fun t' ht => hn t' (by simp [ht])) _ (by omega)
/-- what stands while the loop runs -/
structure LI (W5 W : World) (g Bm Bs n cap : Nat) (ao : Option Addr) (m : List Int) : Prop where
  row : RowI W g m
  bm : Boxed W Bm 140 (.slice (some ⟨g, 0, none⟩) (n + 1) (n + 1))
  bs : Boxed W Bs 34 (.slice ao n cap)
  bel : Below g W5 W
theorem LI.keep {W5 W W' : World} {g Bm Bs n cap : Nat} {ao : Option Addr} {m : List Int} (h : LI W5 W g Bm Bs n cap ao m) (hk : ∀ k, k = g ∨ k = Bm ∨ k = Bs → W'.heap[k]? = W.heap[k]?) (hb : Below g W W') : LI W5 W' g Bm Bs n cap ao m :=
  ⟨(hk g (.inl rfl)).trans h.row, (hk Bm (.inr (.inl rfl))).trans h.bm, (hk Bs (.inr (.inr rfl))).trans h.bs, h.bel.trans hb⟩
theorem LI.kept {W5 W W' : World} {g Bm Bs n cap : Nat} {ao : Option Addr} {m : List Int} (h : LI W5 W g Bm Bs n cap ao m) (hb : Below W.heap.size W W') : LI W5 W' g Bm Bs n cap ao m :=
  h.keep (fun k hk => hb.block k (by rcases hk with rfl | rfl | rfl; exact h.row.lt; exact h.bm.lt; exact h.bs.lt)) (hb.mono (Nat.le_of_lt h.row.lt))
theorem LI.set {W5 W : World} {g Bm Bs n cap : Nat} {ao : Option Addr} {m : List Int} (h : LI W5 W g Bm Bs n cap ao m) (i : Nat) (z : Int) (h1 : Bm ≠ g) (h2 : Bs ≠ g) : LI W5 (W.setCell ⟨g, i, none⟩ (.int .i64 z)) g Bm Bs n cap ao (m.set i z) :=
  ⟨h.row.set i z, (heap_setCell_other W ⟨g, i, none⟩ Bm _ h1).trans h.bm, (heap_setCell_other W ⟨g, i, none⟩ Bs _ h2).trans h.bs, below_set h.bel _ _ (Nat.le_refl _)⟩
theorem LI.drewN {W5 W : World} {g Bm Bs n cap : Nat} {ao : Option Addr} {m : List Int} (h : LI W5 W g Bm Bs n cap ao m) (q : Nat) : LI W5 (W.drewN q) g Bm Bs n cap ao m := h.kept ⟨rfl, rfl, rfl, Nat.le_refl _, fun _ _ => rfl⟩
theorem keeps_below {W W' : World} (hb : Below W.heap.size W W') : KeepsOthers W W' := ⟨hb.size, fun _ _ h _ => (hb.block _ (Array.getElem?_eq_some_iff.1 h).1).trans h⟩
theorem KB.ofBelow {n₀ Bs : Nat} {A B : World} (h : Below A.heap.size A B) (h1 : n₀ ≤ A.heap.size) (h2 : Bs < A.heap.size) : KB n₀ Bs A B := ⟨h.mono h1, h.block Bs h2⟩
theorem KB.set {n₀ Bs g i : Nat} {A : World} (v : Value) (h1 : n₀ ≤ g) (h2 : Bs ≠ g) : KB n₀ Bs A (A.setCell ⟨g, i, none⟩ v) := ⟨below_set (Below.refl _ _) _ _ h1, heap_setCell_other A ⟨g, i, none⟩ Bs v h2⟩
theorem KB.put {n₀ Bs B : Nat} (h1 : n₀ ≤ B) (h2 : Bs < B) (W : World) (l : Nat) (o o' : Obj) (hl : B ≤ l) (_ : W.heap[l]? = some o) (_ : o.isCells = false) (_ : o.isWalk = false) : KB n₀ Bs W (W.putObj l o') :=
  ⟨⟨rfl, rfl, rfl, (grownBy_putObj' W l o').size, fun k hk => by by_cases hlt : k < W.heap.size
                                                                 · exact (grownBy_putObj' W l o').block k hlt (by simp; omega)
                                                                 · have := (grownBy_putObj' W l o').size; simp [World.putObj, Array.getElem?_eq_none_iff.2 (Nat.le_of_not_lt hlt)]; omega⟩,
   by by_cases hlt : Bs < W.heap.size
      · exact (grownBy_putObj' W l o').block Bs hlt (by simp; omega)
      · simp [World.putObj, Array.getElem?_eq_none_iff.2 (Nat.le_of_not_lt hlt)]; omega⟩
/-- the beginnings of the loop -/
def Chn (n : Nat) (pre : List Nat) : Prop := pre = dn n pre.length
theorem chn_snoc {n x : Nat} {pre : List Nat} (h : Chn n (pre ++ [x])) : Chn n pre ∧ x = n - 1 - pre.length := by
  unfold Chn at *
  rw [List.length_append, List.length_singleton, dn_succ] at h
  have h1 := List.append_inj' h rfl
  exact ⟨h1.1, by simpa using h1.2⟩
theorem chn_dn (n k : Nat) : Chn n (dn n k) := by unfold Chn; rw [dn_length]
def LInv (W5 : World) (g Bm Bs n cap : Nat) (ao : Option Addr) (L : List K) (pre : List Nat) (W : World) : Prop :=
  ∃ m, LI W5 W g Bm Bs n cap ao m ∧ m.length = n + 1 ∧ Few m (pre.length : Int) ∧ (Chn n pre → m = mostN L pre.length)

theorem set_self (m : List Int) (i : Nat) : m.set i (m.getD i 0) = m := by
  apply List.ext_getElem?
  intro j
  rw [List.getElem?_set]
  by_cases h : i = j
  · subst h
    by_cases hl : i < m.length
    · simp [hl, List.getD_eq_getElem?_getD]
    · simp [hl]
  · simp [h]
theorem verify_ok {p : Nums} {L : List K} (h : verifyN p L = 0) : limB p L.length = true ∧ lookAll p L L.length = 0 ∧ ∃ d, runD L L.length = some d ∧ depthsN p L = (d, 0) := by
  unfold verifyN depthsN at h
  unfold depthsN
  cases hl : limB p L.length with
  | false => rw [hl] at h; simp at h
  | true =>
    rw [hl, if_neg (by simp)] at h
    rw [if_neg (by simp)]
    by_cases h0 : lookAll p L L.length ≠ 0
    · rw [if_pos h0] at h; exact absurd h h0
    · rw [if_neg h0] at h ⊢
      cases hr : runD L L.length with
      | none => rw [hr] at h; simp at h
      | some d => exact ⟨rfl, by simpa using h0, d, rfl, rfl⟩

end Go.Proofs.YtmkomfbjgmgemaaGreatDoor
/-
  THE WALKS OF codec.Reader's METHODS: Uint, Int, Raw.
-/
namespace Go.Proofs.YtmkomfbjgmgemaaGreatDoor
open Go.RowKit


/-- a number without sign as one with -/
def unfold (n : Nat) : Int := if n % 2 = 1 then -1 - ((n / 2 : Nat) : Int) else ((n / 2 : Nat) : Int)

theorem rdUpto_lt (b : List Nat) (hz : ∀ z ∈ b, z < 256) (p : Nat) (e : Int) (most : Nat) : (rdUpto b p e most).1 < 18446744073709551616 := by
  unfold rdUpto
  split
  · simp
  · split
    · simp
    · split
      · simp
      · rename_i _ h _
        have h3 := scan_one (b.drop p) (scan (b.drop p)).1 (scan (b.drop p)).2.1 (fun z hz' => hz z (List.mem_of_mem_drop hz')) (by rw [← Decidable.not_not.1 h])
        exact h3.1


def rdRaw (b : List Nat) (p : Nat) (e : Int) (n : Int) : List Nat × Nat × Int :=
  if e ≠ 0 then ([], p, e) else if n < 0 then ([], p, 11) else if ((b.length - p : Nat) : Int) < n then ([], p, 10) else ((b.drop p).take n.toNat, p + n.toNat, 0)


end Go.Proofs.YtmkomfbjgmgemaaGreatDoor
/-
  THE WALKS OF codec.Reader's METHODS: Bytes, End; codec.Read.
-/
namespace Go.Proofs.YtmkomfbjgmgemaaGreatDoor
open Go.RowKit

def rdBytes (b : List Nat) (p : Nat) (e : Int) (most : Int) : List Nat × Nat × Int :=
  if e ≠ 0 then ([], p, e) else if (scan (b.drop p)).2.2 ≠ 0 then ([], p, (((scan (b.drop p)).2.2 : Nat) : Int)) else if most < 0 ∨ most < (((scan (b.drop p)).1 : Nat) : Int) then ([], p, 12)
  else if b.length - p - (scan (b.drop p)).2.1 < (scan (b.drop p)).1 then ([], p, 10) else rdRaw b (p + (scan (b.drop p)).2.1) 0 (((scan (b.drop p)).1 : Nat) : Int)


end Go.Proofs.YtmkomfbjgmgemaaGreatDoor
/-
  WHAT IS READ BACK OF WHAT WAS WRITTEN.
-/
namespace Go.Proofs.YtmkomfbjgmgemaaGreatDoor
open Go.RowKit

theorem unfold_fold (z : Int) (h0 : -9223372036854775808 ≤ z) (h1 : z ≤ 9223372036854775807) : unfold (fold z) = z := by
  unfold unfold fold
  split <;> split <;> omega
theorem rdRaw_ok (b : List Nat) (p n : Nat) (h : n ≤ b.length - p) : rdRaw b p 0 (n : Int) = ((b.drop p).take n, p + n, 0) := by
  unfold rdRaw
  rw [if_neg (by simp), if_neg (by omega), if_neg (by omega)]
  rfl
theorem rdByte_at (b : List Nat) (p z : Nat) (R : List Nat) (h : b.drop p = z :: R) : rdByte b p 0 = (z, p + 1, 0) := by
  have hl : p < b.length := by
    have := congrArg List.length h
    rw [List.length_drop, List.length_cons] at this
    omega
  have hg : b.getD p 0 = z := by
    rw [List.drop_eq_getElem_cons hl] at h
    rw [List.getD_eq_getElem?_getD, List.getElem?_eq_getElem hl]
    exact (List.cons.inj h).1
  unfold rdByte
  rw [if_neg (by simp), if_neg (by omega), hg]
theorem scan_at (n : Nat) (hn : n < 18446744073709551616) (R : List Nat) : scan (uint 10 n ++ R) = (n, (uint 10 n).length, 0) := by
  have h := scan_uint R 9 0 0 n (by omega) (by simpa using hn) (by omega)
  simpa [scan] using h
theorem rdUpto_at (b : List Nat) (p n most : Nat) (R : List Nat) (hn : n < 18446744073709551616) (hm : n ≤ most) (h : b.drop p = uint 10 n ++ R) : rdUpto b p 0 most = (n, p + (uint 10 n).length, 0) := by
  unfold rdUpto
  rw [h, scan_at n hn R]
  simp only [ne_eq, not_true, if_false]
  rw [if_neg (by omega)]
theorem rdRaw_at (b : List Nat) (p : Nat) (bs R : List Nat) (h : b.drop p = bs ++ R) : rdRaw b p 0 (bs.length : Int) = (bs, p + bs.length, 0) := by
  have hl := congrArg List.length h
  rw [List.length_drop, List.length_append] at hl
  rw [rdRaw_ok b p bs.length (by omega), h, List.take_left]
theorem rdBytes_at (b : List Nat) (p : Nat) (bs R : List Nat) (hn : bs.length < 18446744073709551616) (h : b.drop p = uint 10 bs.length ++ bs ++ R) : rdBytes b p 0 (bs.length : Int) = (bs, p + (uint 10 bs.length ++ bs).length, 0) := by
  have hl := congrArg List.length h
  rw [List.length_drop, List.length_append, List.length_append] at hl
  have h2 : b.drop (p + (uint 10 bs.length).length) = bs ++ R := by
    rw [← List.drop_drop, h, List.append_assoc, List.drop_left]
  unfold rdBytes
  rw [h, List.append_assoc, scan_at bs.length hn]
  simp only [ne_eq, not_true, if_false]
  rw [if_neg (by omega), if_neg (by omega), rdRaw_at b _ bs R h2, List.length_append]
  congr 2
  omega
end Go.Proofs.YtmkomfbjgmgemaaGreatDoor
/-
  THE WALKS OF Fail, Err.
-/
namespace Go.Proofs.YtmkomfbjgmgemaaGreatDoor
open Go.RowKit

end Go.Proofs.YtmkomfbjgmgemaaGreatDoor
/-
  WHAT A Reader's CALLS KEEP.
-/
namespace Go.Proofs.YtmkomfbjgmgemaaGreatDoor
open Go.RowKit

end Go.Proofs.YtmkomfbjgmgemaaGreatDoor
/-
  THE WALKS OF getInstr, Get.
-/
namespace Go.Proofs.YtmkomfbjgmgemaaGreatDoor
open Go.RowKit Go.Sort

theorem and63 : ∀ z : Nat, z < 256 → bits .and .u8 (z : Int) 63 = (z : Int) % 64 := by decide +kernel
theorem and128 : ∀ z : Nat, z < 256 → (bits .and .u8 (z : Int) 128 != 0) = decide (128 ≤ z) := by decide +kernel
theorem and64 : ∀ z : Nat, z < 256 → (bits .and .u8 (z : Int) 64 != 0) = decide (z / 64 % 2 = 1) := by decide +kernel
/-- what Fail leaves -/
def failE (e x : Int) : Int := if e = 0 then x else e
/-- the error behind an instruction's byte -/
def getE2 (z : Nat) (e : Int) : Int := if isOpB ((z : Int) % 64) = false ∨ 128 ≤ z then failE e 31 else e
/-- what follows its byte -/
def getT (b : List Nat) (z p : Nat) (e : Int) : K × Nat × Int :=
  if z / 64 % 2 = 1 then (((z : Int) % 64, unfold (rdUpto b p e 18446744073709551615).1), (rdUpto b p e 18446744073709551615).2.1, if unfold (rdUpto b p e 18446744073709551615).1 = 0 then failE (rdUpto b p e 18446744073709551615).2.2 11 else (rdUpto b p e 18446744073709551615).2.2)
  else (((z : Int) % 64, 0), p, e)
/-- an instruction, the place behind it, the error -/
def getI (b : List Nat) (p : Nat) (e : Int) : K × Nat × Int := getT b (rdByte b p e).1 (rdByte b p e).2.1 (getE2 (rdByte b p e).1 (rdByte b p e).2.2)
theorem rdByte_lt {b : List Nat} (hz : ∀ z ∈ b, z < 256) (p : Nat) (e : Int) : (rdByte b p e).1 < 256 := by
  unfold rdByte
  split
  · simp
  · split
    · simp
    · exact getD_lt hz p
end Go.Proofs.YtmkomfbjgmgemaaGreatDoor
/-
  THE WALK OF Get.
-/
namespace Go.Proofs.YtmkomfbjgmgemaaGreatDoor
open Go.RowKit Go.Sort

/-- k instructions one behind the other -/
def getL (b : List Nat) (p : Nat) (e : Int) : Nat → List K × Nat × Int
  | 0 => ([], p, e)
  | k + 1 => ((getL b p e k).1 ++ [(getI b (getL b p e k).2.1 (getL b p e k).2.2).1], (getI b (getL b p e k).2.1 (getL b p e k).2.2).2.1, (getI b (getL b p e k).2.1 (getL b p e k).2.2).2.2)
theorem getL_length (b : List Nat) (p : Nat) (e : Int) : ∀ k, (getL b p e k).1.length = k
  | 0 => rfl
  | k + 1 => by simp [getL, getL_length b p e k]
/-- the five numbers ahead -/
def getH (b : List Nat) (p : Nat) (e : Int) : Nums × Nat × Nat × Int :=
  let x0 := rdUpto b p e 16
  let x1 := rdUpto b x0.2.1 x0.2.2 16
  let x2 := rdUpto b x1.2.1 x1.2.2 16
  let x3 := rdUpto b x2.2.1 x2.2.2 16
  let x4 := rdUpto b x3.2.1 x3.2.2 256
  (⟨x0.1, x1.1, x2.1, x3.1⟩, x4.1, x4.2.1, x4.2.2)
/-- a program, the place behind it, the error -/
def getP (b : List Nat) (p : Nat) (e : Int) : Nums × List K × Nat × Int :=
  let h := getH b p e
  let l := getL b h.2.2.1 h.2.2.2 h.2.1
  if l.2.2 = 0 then (h.1, l.1, l.2.1, l.2.2) else (⟨0, 0, 0, 0⟩, [], l.2.1, l.2.2)
theorem rdUpto_most (b : List Nat) (p : Nat) (e : Int) (most : Nat) : (rdUpto b p e most).1 ≤ most := by
  unfold rdUpto
  repeat' split
  all_goals (try simp)
  all_goals omega
end Go.Proofs.YtmkomfbjgmgemaaGreatDoor
