import Derived.Test.YtcaibgbhebldmaaGreatJ01
import Derived.Test.YtcaibgbhebldmaaGreatJ10
import Derived.Test.YtcaibgbhebldmaaGreatJ09
import Derived.Laws.OwnMore
/-
  '!=' OF KEYS; num.
-/
namespace Go.Proofs.YtcaibgbhebldmaaGreat.Kk
open Go.RowKit Go.Sort

theorem run_neKey (x1 x2 y1 y2 : Int) (w : World) : Sem.run Tryz.prog (binOp .neq 89 (.agg #[.int .i64 x1, .int .i64 x2]) (.agg #[.int .i64 y1, .int .i64 y2])) w = .ok (.bool (!decide ((x1, x2) = (y1, y2)))) w := by
  have u3 := Tryz.underlying3
  have a3 := Tryz.isAgg3
  have z3 := Tryz.sizeOf3
  have u2 := Tryz.underlying2
  have a2 := Tryz.isAgg2
  have z2 := Tryz.sizeOf2
  have hS : Tryz.prog.underlying 89 = some (.struct (Tryz.prog.fieldsOf 89)) := by kernel_rfl
  have hp : Tryz.prog.stoodInHeld 89 = false := by kernel_rfl
  rw [run_neq_struct, show (10000 : Nat) = 9999 + 1 from rfl, run_equalIn_agg w 9999 89 _ _ hS hp]
  simp only [Program.fieldsOf, Tryz.underlying89]
  go_simp
  by_cases h1 : x1 = y1 <;> by_cases h2 : x2 = y2 <;> simp [h1, h2]

end Go.Proofs.YtcaibgbhebldmaaGreat.Kk
/-
  LISTS OF KEYS AS ARGUMENTS; stands, sameKeys.
-/
namespace Go.Proofs.YtcaibgbhebldmaaGreat.Kk
open Go.RowKit Go.Sort

/-- A LIST OF KEYS: a slice, its length, its cells -/
structure Lst (w : World) (ao : Option Addr) (n cap : Nat) (L : List K) : Prop where
  len : n = L.length
  at_ : KeysAt w ao L
  nil : ao = none → cap = 0
  cap : n ≤ cap
theorem Lst.kept {w w1 : World} {ao : Option Addr} {n cap : Nat} {L : List K} (h : Lst w ao n cap L) (hb : Below w.heap.size w w1) : Lst w1 ao n cap L := ⟨h.len, h.at_.kept hb, h.nil, h.cap⟩
theorem Lst.far {w w1 : World} {ao : Option Addr} {n cap B : Nat} {L : List K} (h : Lst w ao n cap L) (hb : Below B w w1) (hB : ∀ a, L ≠ [] → ao = some a → a.block < B) : Lst w1 ao n cap L := ⟨h.len, h.at_.below hb hB, h.nil, h.cap⟩
def Flat (ao : Option Addr) : Prop := ∀ a, ao = some a → a.spot = none
theorem OwnK.lst {w : World} {base : Nat} {v : Value} {L : List K} (h : OwnK w base v L) : ∃ ao n cap, v = .slice ao n cap ∧ Lst w ao n cap L ∧ Flat ao := by
  rcases h.shape with ⟨rfl, rfl⟩ | ⟨g, cap, rfl, _, _, hc, _, hk⟩
  · exact ⟨none, 0, 0, rfl, ⟨rfl, .inl rfl, fun _ => rfl, Nat.le_refl _⟩, fun _ e => by cases e⟩
  · exact ⟨_, _, cap, rfl, ⟨rfl, hk, by simp, hc⟩, fun a e => by cases e; rfl⟩
theorem Lst.at {w : World} {ao : Option Addr} {n cap : Nat} {L : List K} (h : Lst w ao n cap L) (k : Nat) (hk : k < n) : ∃ b off, ao = some ⟨b, off, none⟩ ∧ w.cell? ⟨b, off + k * 2, none⟩ = some (.int .i64 (kd L k).1) ∧ w.cell? ⟨b, off + k * 2 + 1, none⟩ = some (.int .i64 (kd L k).2) := by
  have hl : k < L.length := by have := h.len; omega
  rcases h.at_ with h0 | ⟨b, off, rfl, hc⟩
  · rw [h0] at hl; simp at hl
  · exact ⟨b, off, rfl, KeysAt.at hc k hl⟩

theorem eq_of_takes {A B : List K} (hl : A.length = B.length) (k : Nat) (hk : k < A.length) : (A.take (k + 1) = B.take (k + 1)) ↔ (A.take k = B.take k ∧ kd A k = kd B k) := by
  rw [take_kd A k hk, take_kd B k (by omega)]
  constructor
  · intro h
    have := List.append_inj h (by simp; omega)
    exact ⟨this.1, by simpa using this.2⟩
  · rintro ⟨h1, h2⟩; rw [h1, h2]


end Go.Proofs.YtcaibgbhebldmaaGreat.Kk
/-
  A BATCH IN MEMORY.
-/
namespace Go.Proofs.YtcaibgbhebldmaaGreat.Kk
open Go.RowKit Go.Sort

abbrev iv (z : Int) : Value := .int .i64 z
def cellsI (L : List Int) : Array Value := (L.map iv).toArray
theorem size_cellsI (L : List Int) : (cellsI L).size = L.length := by simp [cellsI]
theorem get_cellsI (L : List Int) (j : Nat) (h : j < L.length) : (cellsI L)[j]? = some (.int .i64 (L.getD j 0)) := by
  simp [cellsI, List.getD_eq_getElem?_getD, List.getElem?_eq_getElem h]
theorem set_cellsI (L : List Int) (i : Nat) (z : Int) : (cellsI L).setIfInBounds i (.int .i64 z) = cellsI (L.set i z) := by
  apply Array.ext'
  simp [cellsI, List.map_set]
theorem made_cellsI (n : Nat) : madeCells #[.int .i64 0] n = cellsI (List.replicate n 0) := by
  apply Array.ext'
  rw [toList_madeCells_one]
  simp [cellsI]
theorem oneI (L : List Int) : ∀ v ∈ L.map iv, v.oneCell' = true := by
  intro v hv
  obtain ⟨z, _, rfl⟩ := List.mem_map.1 hv
  rfl

/-- WHERE CELLS LIE -/
def CellsAt (w : World) (ao : Option Addr) (xs : List Value) : Prop := xs = [] ∨ ∃ b off, ao = some ⟨b, off, none⟩ ∧ ∀ j u, xs[j]? = some u → w.cell? ⟨b, off + j, none⟩ = some u
theorem CellsAt.lt {w : World} {ao : Option Addr} {xs : List Value} (h : CellsAt w ao xs) : ∀ a, xs ≠ [] → ao = some a → a.block < w.heap.size := by
  intro a hne he
  rcases h with rfl | ⟨b, off, rfl, hc⟩
  · exact absurd rfl hne
  · cases he
    cases xs with
    | nil => exact absurd rfl hne
    | cons k L => exact cell_lt (hc 0 _ rfl)
theorem CellsAt.same {w w1 : World} {ao : Option Addr} {xs : List Value} (h : CellsAt w ao xs) (hs : ∀ a, xs ≠ [] → ao = some a → w1.heap[a.block]? = w.heap[a.block]?) : CellsAt w1 ao xs := by
  rcases h with rfl | ⟨b, off, rfl, hc⟩
  · exact .inl rfl
  · by_cases hne : xs = []
    · exact .inl hne
    · refine .inr ⟨b, off, rfl, fun j u hu => ?_⟩
      have h1 := hc j u hu
      simp only [World.cell?] at h1 ⊢
      rw [hs ⟨b, off, none⟩ hne rfl]; exact h1
theorem CellsAt.below {w w1 : World} {ao : Option Addr} {xs : List Value} (h : CellsAt w ao xs) {B : Nat} (hb : Below B w w1) (hlt : ∀ a, xs ≠ [] → ao = some a → a.block < B) : CellsAt w1 ao xs :=
  h.same fun a hne he => hb.block _ (hlt a hne he)
theorem CellsAt.kept {w w1 : World} {ao : Option Addr} {xs : List Value} (h : CellsAt w ao xs) (hb : Below w.heap.size w w1) : CellsAt w1 ao xs := h.below hb h.lt
theorem CellsAt.nil {w : World} {xs : List Value} (h : CellsAt w none xs) : xs = [] := by
  rcases h with h | ⟨_, _, e, _⟩
  · exact h
  · cases e
theorem KeysAt.same {w w1 : World} {ao : Option Addr} {L : List K} (h : KeysAt w ao L) (hs : ∀ a, L ≠ [] → ao = some a → w1.heap[a.block]? = w.heap[a.block]?) : KeysAt w1 ao L := by
  rcases h with rfl | ⟨b, off, rfl, hc⟩
  · exact .inl rfl
  · by_cases hne : L = []
    · exact .inl hne
    · refine .inr ⟨b, off, rfl, fun j u hu => ?_⟩
      have h1 := hc j u hu
      simp only [World.cell?] at h1 ⊢
      rw [hs ⟨b, off, none⟩ hne rfl]; exact h1
theorem KeysAt.nil {w : World} {L : List K} (h : KeysAt w none L) : L = [] := by
  rcases h with h | ⟨_, _, e, _⟩
  · exact h
  · cases e
/-- numbers -/
abbrev NumsAt (w : World) (ao : Option Addr) (A : List Int) : Prop := CellsAt w ao (A.map iv)
def ad (A : List Int) (j : Nat) : Int := A.getD j 0
theorem ad_get {A : List Int} {j : Nat} (h : j < A.length) : A[j]? = some (ad A j) := by
  simp [ad, List.getD_eq_getElem?_getD, List.getElem?_eq_getElem h]
theorem ad_mem {A : List Int} {j : Nat} (h : j < A.length) : ad A j ∈ A := List.mem_of_getElem? (ad_get h)
theorem take_ad (A : List Int) (j : Nat) (h : j < A.length) : A.take (j + 1) = A.take j ++ [ad A j] := by
  rw [List.take_succ_eq_append_getElem h]
  simp [ad, List.getD_eq_getElem?_getD, List.getElem?_eq_getElem h]
theorem NumsAt.get {w : World} {ao : Option Addr} {A : List Int} (h : NumsAt w ao A) (j : Nat) (hj : j < A.length) : ∃ b off, ao = some ⟨b, off, none⟩ ∧ w.cell? ⟨b, off + j, none⟩ = some (.int .i64 (ad A j)) := by
  rcases h with h | ⟨b, off, rfl, hc⟩
  · simp at h; rw [h] at hj; simp at hj
  · exact ⟨b, off, rfl, hc j _ (by rw [List.getElem?_map, ad_get hj]; rfl)⟩
theorem KeysAt.get {w : World} {ao : Option Addr} {L : List K} (h : KeysAt w ao L) (j : Nat) (hj : j < L.length) : ∃ b off, ao = some ⟨b, off, none⟩ ∧ w.cell? ⟨b, off + j * 2, none⟩ = some (.int .i64 (kd L j).1) ∧ w.cell? ⟨b, off + j * 2 + 1, none⟩ = some (.int .i64 (kd L j).2) := by
  rcases h with h | ⟨b, off, rfl, hc⟩
  · rw [h] at hj; simp at hj
  · exact ⟨b, off, rfl, KeysAt.at hc j hj⟩

/-- a transaction as it lies -/
structure Bx where
  t : Tp
  aA : Option Addr
  cA : Nat
  aR : Option Addr
  cR : Nat
  aW : Option Addr
  cW : Nat
def bxc (x : Bx) : List Value := [.int .i64 x.t.proc, .slice x.aA x.t.args.length x.cA, .slice x.aR x.t.reads.length x.cR, .slice x.aW x.t.writes.length x.cW]
abbrev bxv (x : Bx) : Value := .agg #[.int .i64 x.t.proc, .slice x.aA x.t.args.length x.cA, .slice x.aR x.t.reads.length x.cR, .slice x.aW x.t.writes.length x.cW]
def bxcs : List Bx → List Value
  | [] => []
  | x :: Bs => bxc x ++ bxcs Bs
theorem bxcs_length : ∀ Bs : List Bx, (bxcs Bs).length = Bs.length * 4
  | [] => rfl
  | x :: Bs => by simp [bxcs, bxc, bxcs_length Bs]; omega
def bxD : Bx := ⟨⟨0, [], [], []⟩, none, 0, none, 0, none, 0⟩
def bd (Bs : List Bx) (j : Nat) : Bx := Bs.getD j bxD
theorem bd_mem {Bs : List Bx} {j : Nat} (h : j < Bs.length) : bd Bs j ∈ Bs := by
  simp [bd, List.getD_eq_getElem?_getD, List.getElem?_eq_getElem h]
theorem bd_get {Bs : List Bx} {j : Nat} (h : j < Bs.length) : Bs[j]? = some (bd Bs j) := by
  simp [bd, List.getD_eq_getElem?_getD, List.getElem?_eq_getElem h]
theorem bd_take (Bs : List Bx) (j : Nat) (h : j < Bs.length) : Bs.take (j + 1) = Bs.take j ++ [bd Bs j] := by
  rw [List.take_succ_eq_append_getElem h]
  simp [bd, List.getD_eq_getElem?_getD, List.getElem?_eq_getElem h]
theorem bd_tk {Bs : List Bx} {n i : Nat} (h : i < n) : bd (Bs.take n) i = bd Bs i := by
  simp [bd, List.getD_eq_getElem?_getD, h]
theorem bd_set_ne (Bs : List Bx) (k i : Nat) (y : Bx) (h : i ≠ k) : bd (Bs.set k y) i = bd Bs i := by
  simp only [bd, List.getD_eq_getElem?_getD, List.getElem?_set]; rw [if_neg (fun e => h e.symm)]
theorem bd_set_eq (Bs : List Bx) (k : Nat) (y : Bx) (h : k < Bs.length) : bd (Bs.set k y) k = y := by
  simp [bd, List.getD_eq_getElem?_getD, h]
theorem td_map {Bs : List Bx} {j : Nat} (h : j < Bs.length) : td (Bs.map Bx.t) j = (bd Bs j).t := by
  simp [td, bd, List.getD_eq_getElem?_getD, List.getElem?_eq_getElem h]
theorem bxcs_append (A B : List Bx) : bxcs (A ++ B) = bxcs A ++ bxcs B := by
  induction A with
  | nil => rfl
  | cons x A ih => simp only [List.cons_append, bxcs, ih, List.append_assoc]
theorem bxcs_at : ∀ (Bs : List Bx) (j i : Nat), j < Bs.length → i < 4 → (bxcs Bs)[j * 4 + i]? = (bxc (bd Bs j))[i]?
  | [], j, i, h, _ => by simp at h
  | x :: Bs, 0, i, _, hi => by
    have hl : (bxc x).length = 4 := rfl
    simp only [bxcs, bd, Nat.zero_mul, Nat.zero_add]
    rw [List.getElem?_append_left (by rw [hl]; exact hi)]; rfl
  | x :: Bs, j + 1, i, h, hi => by
    have hl : (bxc x).length = 4 := rfl
    have ih := bxcs_at Bs j i (by simp at h; omega) hi
    simp only [bxcs]
    rw [List.getElem?_append_right (by rw [hl]; omega), hl, show (j + 1) * 4 + i - 4 = j * 4 + i by omega, ih]
    simp [bd]
theorem bxcs_set : ∀ (Qs : List Bx) (i : Nat) (y : Bx), i < Qs.length → ((((bxcs Qs).set (i * 4) (.int .i64 y.t.proc)).set (i * 4 + 1) (.slice y.aA y.t.args.length y.cA)).set (i * 4 + 2) (.slice y.aR y.t.reads.length y.cR)).set (i * 4 + 3) (.slice y.aW y.t.writes.length y.cW) = bxcs (Qs.set i y)
  | [], i, _, h => by simp at h
  | x :: Qs, 0, y, _ => by
    simp only [List.set_cons_zero, bxcs, bxc, List.cons_append, List.nil_append, Nat.zero_mul, Nat.zero_add, List.set_cons_succ]
  | x :: Qs, i + 1, y, h => by
    have ih := bxcs_set Qs i y (by simp at h; omega)
    rw [show (i + 1) * 4 = i * 4 + 1 + 1 + 1 + 1 by omega, show i * 4 + 1 + 1 + 1 + 1 + 1 = (i * 4 + 1) + 1 + 1 + 1 + 1 by omega, show i * 4 + 1 + 1 + 1 + 1 + 2 = (i * 4 + 2) + 1 + 1 + 1 + 1 by omega, show i * 4 + 1 + 1 + 1 + 1 + 3 = (i * 4 + 3) + 1 + 1 + 1 + 1 by omega]
    simp only [List.set_cons_succ, bxcs, bxc, List.cons_append, List.nil_append, ih]
abbrev TxsAt (w : World) (ao : Option Addr) (Bs : List Bx) : Prop := CellsAt w ao (bxcs Bs)
theorem bxcs_nil {Bs : List Bx} (h : bxcs Bs = []) : Bs = [] := by
  cases Bs with
  | nil => rfl
  | cons x B => simp [bxcs, bxc] at h
theorem TxsAt.get {w : World} {ao : Option Addr} {Bs : List Bx} (h : TxsAt w ao Bs) (j : Nat) (hj : j < Bs.length) : ∃ b off, ao = some ⟨b, off, none⟩ ∧ w.cell? ⟨b, off + j * 4, none⟩ = some (.int .i64 (bd Bs j).t.proc) ∧
    w.cell? ⟨b, off + j * 4 + 1, none⟩ = some (.slice (bd Bs j).aA (bd Bs j).t.args.length (bd Bs j).cA) ∧ w.cell? ⟨b, off + j * 4 + 2, none⟩ = some (.slice (bd Bs j).aR (bd Bs j).t.reads.length (bd Bs j).cR) ∧ w.cell? ⟨b, off + j * 4 + 3, none⟩ = some (.slice (bd Bs j).aW (bd Bs j).t.writes.length (bd Bs j).cW) := by
  rcases h with h | ⟨b, off, rfl, hc⟩
  · rw [bxcs_nil h] at hj; simp at hj
  · refine ⟨b, off, rfl, ?_, ?_, ?_, ?_⟩
    · exact hc (j * 4) _ (bxcs_at Bs j 0 hj (by omega))
    · exact hc (j * 4 + 1) _ (bxcs_at Bs j 1 hj (by omega))
    · exact hc (j * 4 + 2) _ (bxcs_at Bs j 2 hj (by omega))
    · exact hc (j * 4 + 3) _ (bxcs_at Bs j 3 hj (by omega))
/-- its lists, and its numbers -/
structure BxOK (W : World) (x : Bx) : Prop where
  args : NumsAt W x.aA x.t.args
  reads : KeysAt W x.aR x.t.reads
  writes : KeysAt W x.aW x.t.writes
  pin : In64 x.t.proc
  ain : ∀ z ∈ x.t.args, In64 z
  rin : ∀ k ∈ x.t.reads, KIn k
  win : ∀ k ∈ x.t.writes, KIn k
  nilA : x.aA = none → x.cA = 0
  nilR : x.aR = none → x.cR = 0
  nilW : x.aW = none → x.cW = 0
  capA : x.t.args.length ≤ x.cA
  capR : x.t.reads.length ≤ x.cR
  capW : x.t.writes.length ≤ x.cW
  bigA : x.t.args.length * 8 ≤ 140737488355328
  bigR : x.t.reads.length * 16 ≤ 140737488355328
  bigW : x.t.writes.length * 16 ≤ 140737488355328
theorem BxOK.same {W W' : World} {x : Bx} (h : BxOK W x) (hA : ∀ a, x.t.args.map iv ≠ [] → x.aA = some a → W'.heap[a.block]? = W.heap[a.block]?) (hR : ∀ a, x.t.reads ≠ [] → x.aR = some a → W'.heap[a.block]? = W.heap[a.block]?) (hW : ∀ a, x.t.writes ≠ [] → x.aW = some a → W'.heap[a.block]? = W.heap[a.block]?) : BxOK W' x :=
  ⟨h.args.same hA, h.reads.same hR, h.writes.same hW, h.pin, h.ain, h.rin, h.win, h.nilA, h.nilR, h.nilW, h.capA, h.capR, h.capW, h.bigA, h.bigR, h.bigW⟩
theorem BxOK.kept {W W' : World} {x : Bx} (h : BxOK W x) (hb : Below W.heap.size W W') : BxOK W' x :=
  h.same (fun a h1 h2 => hb.block _ (h.args.lt a h1 h2)) (fun a h1 h2 => hb.block _ (h.reads.lt a h1 h2)) (fun a h1 h2 => hb.block _ (h.writes.lt a h1 h2))
/-- A BATCH: where it lies -/
structure BatAt (W : World) (ao : Option Addr) (Bs : List Bx) : Prop where
  at_ : TxsAt W ao Bs
  ok : ∀ x ∈ Bs, BxOK W x
theorem BatAt.kept {W W' : World} {ao : Option Addr} {Bs : List Bx} (h : BatAt W ao Bs) (hb : Below W.heap.size W W') : BatAt W' ao Bs := ⟨h.at_.kept hb, fun x hx => (h.ok x hx).kept hb⟩
theorem BatAt.lst {W : World} {ao : Option Addr} {Bs : List Bx} (h : BatAt W ao Bs) (j : Nat) (hj : j < Bs.length) : BxOK W (bd Bs j) := h.ok _ (bd_mem hj)
end Go.Proofs.YtcaibgbhebldmaaGreat.Kk
