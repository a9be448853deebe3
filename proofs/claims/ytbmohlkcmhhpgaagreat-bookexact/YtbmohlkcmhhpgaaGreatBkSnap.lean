/-
  A SNAPSHOT: ITS MEMORY, AND WHAT CAN BE RESTORED.
-/
import Derived.Test.YtbmohlkcmhhpgaaGreatBkThinH
namespace Go.Proofs.YtbmohlkcmhhpgaaGreat
open Go.RowKit Go.Sort

/-- the cells of a slice, in blocks below N -/
def CsAt (N : Nat) (w : World) (ao : Option Addr) (xs : List Value) : Prop := ∀ (j : Nat) (u : Value), xs[j]? = some u → ∃ b off, ao = some ⟨b, off, none⟩ ∧ b < N ∧ w.cell? ⟨b, off + j, none⟩ = some u
theorem CsAt.below {N : Nat} {w w' : World} {ao : Option Addr} {xs : List Value} (h : CsAt N w ao xs) (hb : Below N w w') : CsAt N w' ao xs := fun j u hu => by
  obtain ⟨b, off, h1, h2, h3⟩ := h j u hu
  exact ⟨b, off, h1, h2, (hb.cell (p := ⟨b, off + j, none⟩) h2).trans h3⟩
theorem CsAt.up {N M : Nat} {w : World} {ao : Option Addr} {xs : List Value} (h : CsAt N w ao xs) (hM : N ≤ M) : CsAt M w ao xs := fun j u hu => by
  obtain ⟨b, off, h1, h2, h3⟩ := h j u hu
  exact ⟨b, off, h1, by omega, h3⟩
/-- a version in a snapshot -/
structure Stp where
  b : Int
  i : Int
  s : Bool
  v : Int
def scs : List Stp → List Value
  | [] => []
  | x :: l => .int .i64 x.b :: .int .i64 x.i :: .bool x.s :: .int .i64 x.v :: scs l
theorem scs_length : ∀ l : List Stp, (scs l).length = l.length * 4
  | [] => rfl
  | x :: l => by simp only [scs, List.length_cons, scs_length l]; omega
theorem scs_append : ∀ A C : List Stp, scs (A ++ C) = scs A ++ scs C
  | [], _ => rfl
  | x :: A, C => by simp only [List.cons_append, scs, scs_append A C]
theorem scs_at : ∀ (l : List Stp) (j : Nat) (h : j < l.length), (scs l)[j * 4]? = some (.int .i64 l[j].b) ∧ (scs l)[j * 4 + 1]? = some (.int .i64 l[j].i) ∧ (scs l)[j * 4 + 2]? = some (.bool l[j].s) ∧ (scs l)[j * 4 + 3]? = some (.int .i64 l[j].v)
  | [], j, h => by simp at h
  | x :: l, 0, _ => by simp [scs]
  | x :: l, j + 1, h => by
    have := scs_at l j (by simp at h; omega)
    rw [show (j + 1) * 4 = j * 4 + 1 + 1 + 1 + 1 by omega]
    simpa [scs] using this
theorem scs_one : ∀ (l : List Stp), ∀ v ∈ scs l, v.oneCell' = true
  | [] => by simp [scs]
  | x :: l => by
    intro v hv
    simp only [scs, List.mem_cons] at hv
    rcases hv with rfl | rfl | rfl | rfl | h
    · rfl
    · rfl
    · rfl
    · rfl
    · exact scs_one l v h
/-- a chain in a snapshot -/
structure Ch where
  k : K
  a : Option Addr
  c : Nat
  l : List Stp
def ccs : List Ch → List Value
  | [] => []
  | x :: l => .int .i64 x.k.1 :: .int .i64 x.k.2 :: .slice x.a x.l.length x.c :: ccs l
theorem ccs_length : ∀ l : List Ch, (ccs l).length = l.length * 3
  | [] => rfl
  | x :: l => by simp only [ccs, List.length_cons, ccs_length l]; omega
theorem ccs_append : ∀ A C : List Ch, ccs (A ++ C) = ccs A ++ ccs C
  | [], _ => rfl
  | x :: A, C => by simp only [List.cons_append, ccs, ccs_append A C]
theorem ccs_at : ∀ (l : List Ch) (j : Nat) (h : j < l.length), (ccs l)[j * 3]? = some (.int .i64 l[j].k.1) ∧ (ccs l)[j * 3 + 1]? = some (.int .i64 l[j].k.2) ∧ (ccs l)[j * 3 + 2]? = some (.slice l[j].a l[j].l.length l[j].c)
  | [], j, h => by simp at h
  | x :: l, 0, _ => by simp [ccs]
  | x :: l, j + 1, h => by
    have := ccs_at l j (by simp at h; omega)
    rw [show (j + 1) * 3 = j * 3 + 1 + 1 + 1 by omega]
    simpa [ccs] using this
theorem ccs_one : ∀ (l : List Ch), ∀ v ∈ ccs l, v.oneCell' = true
  | [] => by simp [ccs]
  | x :: l => by
    intro v hv
    simp only [ccs, List.mem_cons] at hv
    rcases hv with rfl | rfl | rfl | h
    · rfl
    · rfl
    · rfl
    · exact ccs_one l v h
def pns : List (Int × Int) → List Value
  | [] => []
  | p :: l => .int .i64 p.1 :: .int .i64 p.2 :: pns l
theorem pns_length : ∀ l : List (Int × Int), (pns l).length = l.length * 2
  | [] => rfl
  | x :: l => by simp only [pns, List.length_cons, pns_length l]; omega
theorem pns_append : ∀ A C : List (Int × Int), pns (A ++ C) = pns A ++ pns C
  | [], _ => rfl
  | x :: A, C => by simp only [List.cons_append, pns, pns_append A C]
theorem pns_at : ∀ (l : List (Int × Int)) (j : Nat) (h : j < l.length), (pns l)[j * 2]? = some (.int .i64 l[j].1) ∧ (pns l)[j * 2 + 1]? = some (.int .i64 l[j].2)
  | [], j, h => by simp at h
  | x :: l, 0, _ => by simp [pns]
  | x :: l, j + 1, h => by
    have := pns_at l j (by simp at h; omega)
    rw [show (j + 1) * 2 = j * 2 + 1 + 1 by omega]
    simpa [pns] using this
theorem pns_one : ∀ (l : List (Int × Int)), ∀ v ∈ pns l, v.oneCell' = true
  | [] => by simp [pns]
  | x :: l => by
    intro v hv
    simp only [pns, List.mem_cons] at hv
    rcases hv with rfl | rfl | h
    · rfl
    · rfl
    · exact pns_one l v h
/-- a snapshot -/
structure Sn where
  la : Int
  pa : Option Addr
  pc : Nat
  pins : List (Int × Int)
  ca : Option Addr
  cc : Nat
  chs : List Ch
structure SnAt (N : Nat) (w : World) (s : Sn) : Prop where
  ps : CsAt N w s.pa (pns s.pins)
  cs : CsAt N w s.ca (ccs s.chs)
  vs : ∀ c ∈ s.chs, CsAt N w c.a (scs c.l)
  p0 : s.pa = none → s.pc = 0
  v0 : ∀ c ∈ s.chs, c.a = none → c.c = 0
theorem SnAt.below {N : Nat} {w w' : World} {s : Sn} (h : SnAt N w s) (hb : Below N w w') : SnAt N w' s := ⟨h.ps.below hb, h.cs.below hb, fun c hc => (h.vs c hc).below hb, h.p0, h.v0⟩
theorem SnAt.up {N M : Nat} {w : World} {s : Sn} (h : SnAt N w s) (hM : N ≤ M) : SnAt M w s := ⟨h.ps.up hM, h.cs.up hM, fun c hc => (h.vs c hc).up hM, h.p0, h.v0⟩
structure SnOK (s : Sn) : Prop where
  np : s.pins.length ≤ 100000
  nc : s.chs.length ≤ 100000
  nv : ∀ c ∈ s.chs, c.l.length ≤ 100000
  ip : ∀ p ∈ s.pins, In64 p.1 ∧ In64 p.2
  ic : ∀ c ∈ s.chs, KIn c.k ∧ ∀ v ∈ c.l, In64 v.b ∧ In64 v.i
  il : In64 s.la
def snv (s : Sn) : Value := .agg #[.int .i64 s.la, .slice s.pa s.pins.length s.pc, .slice s.ca s.chs.length s.cc]
theorem SnAt.pin {N : Nat} {w : World} {s : Sn} (h : SnAt N w s) {i : Nat} (hi : i < s.pins.length) : ∃ b off, s.pa = some ⟨b, off, none⟩ ∧ w.cell? ⟨b, off + i * 2, none⟩ = some (.int .i64 s.pins[i].1) ∧ w.cell? ⟨b, off + i * 2 + 1, none⟩ = some (.int .i64 s.pins[i].2) := by
  obtain ⟨h1, h2⟩ := pns_at s.pins i hi
  obtain ⟨b, off, e1, _, e2⟩ := h.ps _ _ h1
  obtain ⟨b', off', e1', _, e2'⟩ := h.ps _ _ h2
  rw [e1] at e1'
  cases e1'
  exact ⟨b, off, e1, e2, by rw [Nat.add_assoc]; exact e2'⟩
theorem SnAt.chain {N : Nat} {w : World} {s : Sn} (h : SnAt N w s) {i : Nat} (hi : i < s.chs.length) : ∃ b off, s.ca = some ⟨b, off, none⟩ ∧ w.cell? ⟨b, off + i * 3, none⟩ = some (.int .i64 s.chs[i].k.1) ∧ w.cell? ⟨b, off + i * 3 + 1, none⟩ = some (.int .i64 s.chs[i].k.2) ∧ w.cell? ⟨b, off + i * 3 + 2, none⟩ = some (.slice s.chs[i].a s.chs[i].l.length s.chs[i].c) := by
  obtain ⟨h1, h2, h3⟩ := ccs_at s.chs i hi
  obtain ⟨b, off, e1, _, e2⟩ := h.cs _ _ h1
  obtain ⟨b', off', e1', _, e2'⟩ := h.cs _ _ h2
  obtain ⟨b'', off'', e1'', _, e2''⟩ := h.cs _ _ h3
  rw [e1] at e1' e1''
  cases e1'
  cases e1''
  exact ⟨b, off, e1, e2, by rw [Nat.add_assoc]; exact e2', by rw [Nat.add_assoc]; exact e2''⟩
theorem CsAt.stamp {N : Nat} {w : World} {ao : Option Addr} {l : List Stp} (h : CsAt N w ao (scs l)) {i : Nat} (hi : i < l.length) : ∃ b off, ao = some ⟨b, off, none⟩ ∧ w.cell? ⟨b, off + i * 4, none⟩ = some (.int .i64 l[i].b) ∧ w.cell? ⟨b, off + i * 4 + 1, none⟩ = some (.int .i64 l[i].i) ∧ w.cell? ⟨b, off + i * 4 + 2, none⟩ = some (.bool l[i].s) ∧ w.cell? ⟨b, off + i * 4 + 3, none⟩ = some (.int .i64 l[i].v) := by
  obtain ⟨h1, h2, h3, h4⟩ := scs_at l i hi
  obtain ⟨b, off, e1, _, e2⟩ := h _ _ h1
  obtain ⟨b', off', e1', _, e2'⟩ := h _ _ h2
  obtain ⟨b'', off'', e1'', _, e2''⟩ := h _ _ h3
  obtain ⟨b3, off3, e13, _, e23⟩ := h _ _ h4
  rw [e1] at e1' e1'' e13
  cases e1'
  cases e1''
  cases e13
  exact ⟨b, off, e1, e2, by rw [Nat.add_assoc]; exact e2', by rw [Nat.add_assoc]; exact e2'', by rw [Nat.add_assoc]; exact e23⟩
/-- the lowest batch that the i-th pin may have -/
def loP (l : List (Int × Int)) (i : Nat) : Int := match i with
  | 0 => 0
  | j + 1 => (l.getD j (0, 0)).1 + 1
def PnAt (la : Int) (l : List (Int × Int)) (i : Nat) : Prop := ∀ h : i < l.length, loP l i ≤ l[i].1 ∧ l[i].1 ≤ la ∧ 1 ≤ l[i].2 ∧ l[i].2 ≤ 1099511627776
def PnOK (la : Int) (l : List (Int × Int)) : Prop := l.length ≤ 32 ∧ ∀ i, PnAt la l i
def loC (l : List Stp) (i : Nat) : Int := match i with
  | 0 => 1
  | j + 1 => (l.getD j ⟨0, 0, false, 0⟩).b + 1
def ChAt (la : Int) (d : List Int) (l : List Stp) (i : Nat) : Prop := ∀ h : i < l.length, (loC l i ≤ l[i].b ∧ l[i].b ≤ la ∧ 0 ≤ l[i].i ∧ l[i].i < 64) ∧ ∀ j, i = j + 1 → seenN d (loC l i - 1) l[i].b = true
def ChOK (la : Int) (d : List Int) (l : List Stp) : Prop := 0 < l.length ∧ ∀ i, ChAt la d l i
def CanR (s : Sn) : Prop := (0 ≤ s.la ∧ s.la ≤ 1099511627776) ∧ PnOK s.la s.pins ∧ (∀ c ∈ s.chs, ChOK s.la (s.pins.map Prod.fst) c.l) ∧ Rise (s.chs.map Ch.k)
/-- the batches of pins that fit rise -/
theorem PnOK.rise {la : Int} {l : List (Int × Int)} (h : PnOK la l) : (l.map Prod.fst).Pairwise (· < ·) := by
  have key : ∀ n i, (hn : i + n + 1 < l.length) → l[i].1 < l[i + n + 1].1 := by
    intro n
    induction n with
    | zero =>
      intro i hn
      have h1 := (h.2 (i + 1) hn).1
      simp only [loP, List.getD_eq_getElem?_getD, List.getElem?_eq_getElem (show i < l.length by omega), Option.getD_some] at h1
      simp only [Nat.add_zero]
      omega
    | succ n ih =>
      intro i hn
      have h0 := ih i (by omega)
      have h1 := (h.2 (i + n + 1 + 1) (by omega)).1
      simp only [loP, List.getD_eq_getElem?_getD, List.getElem?_eq_getElem (show i + n + 1 < l.length by omega), Option.getD_some] at h1
      have e : i + (n + 1) + 1 = i + n + 1 + 1 := by omega
      simp only [e]
      omega
  rw [List.pairwise_iff_getElem]
  intro i j hi hj hij
  simp only [List.length_map] at hi hj
  simp only [List.getElem_map]
  obtain ⟨n, rfl⟩ : ∃ n, j = i + n + 1 := ⟨j - i - 1, by omega⟩
  exact key n i hj
theorem ChOK.lt {la : Int} {d : List Int} {l : List Stp} (h : ∀ i, ChAt la d l i) : ∀ n i, (hn : i + n + 1 < l.length) → l[i].b < l[i + n + 1].b := by
  intro n
  induction n with
  | zero =>
    intro i hn
    have h1 := (h (i + 1) hn).1.1
    simp only [loC, List.getD_eq_getElem?_getD, List.getElem?_eq_getElem (show i < l.length by omega), Option.getD_some] at h1
    simp only [Nat.add_zero]
    omega
  | succ n ih =>
    intro i hn
    have h0 := ih i (by omega)
    have h1 := (h (i + n + 1 + 1) (by omega)).1.1
    simp only [loC, List.getD_eq_getElem?_getD, List.getElem?_eq_getElem (show i + n + 1 < l.length by omega), Option.getD_some] at h1
    have e : i + (n + 1) + 1 = i + n + 1 + 1 := by omega
    simp only [e]
    omega
theorem ChOK.one {la : Int} {d : List Int} {l : List Stp} (h : ∀ i, ChAt la d l i) (i : Nat) (hi : i < l.length) : 1 ≤ l[i].b := by
  have h0 := (h 0 (by omega)).1.1
  simp only [loC] at h0
  cases i with
  | zero => exact h0
  | succ n =>
    have h1 := ChOK.lt h n 0 (by omega)
    simp only [Nat.zero_add] at h1
    omega
/-- the versions of a snapshot, in order -/
def chV (c : Ch) : List V4 := c.l.map (fun v => (c.k, (v.b, v.i)))
def snV (l : List Ch) : List V4 := l.flatMap chV
theorem snV_append (A C : List Ch) : snV (A ++ C) = snV A ++ snV C := by simp [snV]
def snSize (l : List Ch) : Nat := (l.map (fun c => c.l.length)).sum
theorem snV_length (l : List Ch) : (snV l).length = snSize l := by
  induction l with
  | nil => rfl
  | cons c l ih => simp only [snV, List.flatMap_cons, List.length_append] at ih ⊢; rw [ih]; simp [snSize, chV]
noncomputable def restE (cap : Int) (s : Sn) : Int := by
  classical
  exact if cap < 1 ∨ 65536 < cap then 91 else if ¬ CanR s then 105 else if cap < (snSize s.chs : Int) then 100 else 0
end Go.Proofs.YtbmohlkcmhhpgaaGreat
