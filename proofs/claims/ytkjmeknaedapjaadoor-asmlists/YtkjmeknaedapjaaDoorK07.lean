import Derived.Test.YtkjmeknaedapjaaDoorK06
import Derived.Test.YtkjmeknaedapjaaDoorK02
/-
  THE WALKS OF Depths, Verify.
-/
namespace Go.Proofs.YtkjmeknaedapjaaDoor
open Go.RowKit Go.Sort

/-- A PROGRAM IN A BOX -/
def PBox (W : World) (B : Nat) (p : Nums) (ao : Option Addr) (n cap : Nat) : Prop := W.heap[B]? = some (.cells #[.int .i64 p.args, .int .i64 p.reads, .int .i64 p.writes, .int .i64 p.locals, .slice ao n cap] 41 (0, 0))
theorem PBox.new (w : World) (p : Nums) (ao : Option Addr) (n cap : Nat) : PBox (w.alloc (.cells #[.int .i64 p.args, .int .i64 p.reads, .int .i64 p.writes, .int .i64 p.locals, .slice ao n cap] 41)) w.heap.size p ao n cap := heap_alloc_new _ _ rfl
theorem PBox.lt {W : World} {B : Nat} {p : Nums} {ao : Option Addr} {n cap : Nat} (h : PBox W B p ao n cap) : B < W.heap.size := (Array.getElem?_eq_some_iff.1 h).1
theorem PBox.below {W W' : World} {B C : Nat} {p : Nums} {ao : Option Addr} {n cap : Nat} (h : PBox W B p ao n cap) (hb : Below C W W') (hc : B < C) : PBox W' B p ao n cap := (hb.block B hc).trans h
theorem PBox.kept {W W' : World} {B : Nat} {p : Nums} {ao : Option Addr} {n cap : Nat} (h : PBox W B p ao n cap) (hb : Below W.heap.size W W') : PBox W' B p ao n cap := h.below hb h.lt
theorem PBox.cells {W : World} {B : Nat} {p : Nums} {ao : Option Addr} {n cap : Nat} (h : PBox W B p ao n cap) :
    W.cell? ⟨B, 0, none⟩ = some (.int .i64 p.args) ∧ W.cell? ⟨B, 1, none⟩ = some (.int .i64 p.reads) ∧ W.cell? ⟨B, 2, none⟩ = some (.int .i64 p.writes) ∧ W.cell? ⟨B, 3, none⟩ = some (.int .i64 p.locals) ∧ W.cell? ⟨B, 4, none⟩ = some (.slice ao n cap) := by
  refine ⟨?_, ?_, ?_, ?_, ?_⟩ <;> simp [World.cell?, show W.heap[B]? = _ from h]

def DPost (p : Nums) (L : List K) (B : Nat) (e : Ending) (w' : World) : Prop :=
  (verifyN p L ≠ 0 ∧ e = .returned (.tuple #[.slice none 0 0, .int .i64 (verifyN p L)])) ∨
  (verifyN p L = 0 ∧ ∃ g, e = .returned (.tuple #[.slice (some ⟨g, 0, none⟩) (L.length + 1) (L.length + 1), .int .i64 0]) ∧ RowI w' g (depthsN p L).1 ∧ B ≤ g)
theorem look_bound (p : Nums) (n i : Nat) (k : K) : 0 ≤ lookN p n i k ∧ lookN p n i k ≤ 33 := by
  unfold lookN; split; omega; split; omega; split <;> omega

set_option maxRecDepth 100000 in
set_option maxHeartbeats 1000000 in
theorem depths_any (w : World) (p : Nums) (ao : Option Addr) (n cap : Nat) (L : List K) (hp : NIn p) (h : KeysAt w ao L) (hn : n = L.length) :
    Calls Tryd.prog 80 #[pv p ao n cap] w fun e w' => DPost p L w.heap.size e w' ∧ Below w.heap.size w w' := by
  have HL : Hid (KeysAt w ao L) := h
  have HN : Hid (n = L.length) := hn
  have HP : Hid (NIn p) := hp
  clear h hn hp
  go_enter Tryd.func80, Tryd.ntmps80
  go_wp2_with fail
  refine (withinLimits_any _ p ao n cap).mono ?_
  rintro e w1 ⟨rfl, g1⟩
  have HB1 : Hid (PBox w1 w.heap.size p ao n cap) := (PBox.new w p ao n cap).kept (Grew.below g1)
  have HW1 : Hid (Below w.heap.size w w1) := ((Below.refl _ _).alloc (Nat.le_refl _) _).trans ((Grew.below g1).mono (by simp))
  clear g1
  obtain ⟨x0, x1, x2, x3, x4⟩ := HB1.out.cells
  cases hl : limB p n with
  | false =>
    have HV : Hid (verifyN p L = 30) := by unfold verifyN depthsN; rw [← HN.out, hl]; rfl
    go_wp2
    go_ret2
    exact ⟨.inl ⟨by rw [HV.out]; decide, by rw [HV.out]; rfl⟩, HW1.out⟩
  | true =>
    have hm : n ≤ 256 := ((limB_iff p n).1 hl).2.2.2.2
    have HLim : Hid (limB p L.length = true) := by rw [← HN.out]; exact hl
    clear hl
    go_wp2_with fail
    clear x0 x1 x2 x3 x4
    go_loopw [12] (fun x wr => ∃ k : Nat, k ≤ n ∧ x = .int .i64 (k : Int) ∧ Hid (lookAll p L k = 0) ∧ Hid (PBox wr w.heap.size p ao n cap) ∧ Hid (Below w.heap.size w wr)) (fun x _ => n - (intOf x).toNat)
    case atStart => exact ⟨0, by omega, rfl, rfl, HB1, HW1⟩
    case round =>
      clear HB1 HW1
      obtain ⟨k, hk, rfl, HA, HB, HW⟩ := hrel
      obtain ⟨x0, x1, x2, x3, x4⟩ := HB.out.cells
      by_cases hlt : k < n
      · go_wp2_with fail
        refine (look_any wr p ao n cap k L HP.out (HL.out.kept HW.out) HN.out hlt).mono ?_
        rintro e w2 ⟨rfl, hb2⟩
        have HB2 : Hid (PBox w2 w.heap.size p ao n cap) := HB.out.kept hb2
        have HW2 : Hid (Below w.heap.size w w2) := HW.out.trans (hb2.mono HW.out.size)
        have HLk : Hid (lookN p n k (cd L k) = 0 → lookAll p L (k + 1) = 0) := fun h => by
          unfold lookAll firstE
          rw [show firstE _ k = 0 from HA.out, if_neg (by simp), ← HN.out]; exact h
        have HLe : Hid (lookN p n k (cd L k) ≠ 0 → verifyN p L = lookN p n k (cd L k)) := fun h => by
          have e : lookAll p L L.length = lookN p n k (cd L k) := by
            have := firstE_stop (n := L.length) (f := fun i => lookN p L.length i (cd L i)) HA.out (by rw [← HN.out]; exact h) (by rw [← HN.out]; exact hlt)
            unfold lookAll; rw [this, ← HN.out]
          unfold verifyN depthsN
          rw [HLim.out, if_neg (by simp), if_pos (by rw [e]; exact h)]; exact e
        obtain ⟨lb0, lb1⟩ := look_bound p n k (cd L k)
        generalize lookN p n k (cd L k) = le at *
        clear hb2 x0 x1 x2 x3 x4
        by_cases h0 : le = 0
        · subst h0
          have HN2 : Hid (lookAll p L (k + 1) = 0) := HLk.out rfl
          go_wp2
          go_roundw
          case rel => exact ⟨k + 1, by omega, by go_num, HN2, HB2, HW2⟩
          case measure => simp [intOf]; omega
        · have h0' : (le != 0) = true := by simpa using h0
          have HV : Hid (verifyN p L = le) := HLe.out h0
          go_wp2
          go_ret2
          exact ⟨.inl ⟨by rw [HV.out]; exact h0, by rw [HV.out]; rfl⟩, HW2.out⟩
      · obtain rfl : k = n := by omega
        have HS : Hid (lookAll p L L.length = 0) := by rw [← HN.out]; exact HA.out
        go_wp2_with fail
        refine (search_any wr ao k cap L (HL.out.kept HW.out) HN.out hm (sane_of HS.out)).mono ?_
        rintro e w2 ⟨hs, hb2⟩
        have HW2 : Hid (Below w.heap.size w w2) := HW.out.trans (hb2.mono HW.out.size)
        rcases hs with ⟨h1, rfl⟩ | ⟨d, g, h1, rfl, h2, h3⟩
        · have HV : Hid (verifyN p L = 34) := by unfold verifyN depthsN; rw [HLim.out, if_neg (by simp), HS.out, if_neg (by simp), h1]; rfl
          go_wp2
          go_ret2
          exact ⟨.inl ⟨by rw [HV.out]; decide, by rw [HV.out]; rfl⟩, HW2.out⟩
        · have HV : Hid (depthsN p L = (d, 0)) := by unfold depthsN; rw [HLim.out, if_neg (by simp), HS.out, if_neg (by simp), h1]; rfl
          have HR : Hid (RowI w2 g d ∧ wr.heap.size ≤ g) := ⟨h2, h3⟩
          clear h1 h2 h3
          go_wp2
          go_ret2
          refine ⟨.inr ⟨by unfold verifyN; rw [HV.out], g, rfl, by rw [HV.out]; exact HR.out.1, Nat.le_trans HW.out.size HR.out.2⟩, HW2.out⟩

theorem verify_any (w : World) (p : Nums) (ao : Option Addr) (n cap : Nat) (L : List K) (hp : NIn p) (h : KeysAt w ao L) (hn : n = L.length) :
    Calls Tryd.prog 53 #[pv p ao n cap] w fun e w' => e = .returned (.int .i64 (verifyN p L)) ∧ Below w.heap.size w w' := by
  go_enter Tryd.func53, Tryd.ntmps53
  have hb0 : Below w.heap.size w (w.alloc (.cells #[.int .i64 p.args, .int .i64 p.reads, .int .i64 p.writes, .int .i64 p.locals, .slice ao n cap] 41)) := (Below.refl _ _).alloc (Nat.le_refl _) _
  have HC := depths_any (w.alloc (.cells #[.int .i64 p.args, .int .i64 p.reads, .int .i64 p.writes, .int .i64 p.locals, .slice ao n cap] 41)) p ao n cap L hp (h.kept hb0) hn
  have HB0 : Hid (Below w.heap.size w (w.alloc (.cells #[.int .i64 p.args, .int .i64 p.reads, .int .i64 p.writes, .int .i64 p.locals, .slice ao n cap] 41))) := hb0
  clear h hn hp hb0
  go_wp2_with fail
  refine HC.mono ?_
  rintro e w1 ⟨hd, hb1⟩
  have HB : Hid (Below w.heap.size w w1) := HB0.out.trans (hb1.mono HB0.out.size)
  rcases hd with ⟨h1, rfl⟩ | ⟨h1, g, rfl, h2, h3⟩
  · have HV : Hid (verifyN p L ≠ 0) := h1
    clear h1
    go_wp2
    go_ret
    exact ⟨rfl, HB.out⟩
  · have HV : Hid (verifyN p L = 0) := h1
    clear h1 h2 h3
    go_wp2
    go_ret
    exact ⟨by rw [HV.out]; rfl, HB.out⟩

end Go.Proofs.YtkjmeknaedapjaaDoor
/-
  PROCEDURES IN MEMORY; hasProc, Check.
-/
namespace Go.Proofs.YtkjmeknaedapjaaDoor
open Go.RowKit Go.Sort

/-- a procedure: its name, its program -/
structure Pr where
  name : ByteArray
  p : Nums
  ao : Option Addr
  n : Nat
  cap : Nat
  L : List K
def prc (x : Pr) : List Value := [.string x.name, .int .i64 x.p.args, .int .i64 x.p.reads, .int .i64 x.p.writes, .int .i64 x.p.locals, .slice x.ao x.n x.cap]
abbrev prv (x : Pr) : Value := .agg #[.string x.name, .int .i64 x.p.args, .int .i64 x.p.reads, .int .i64 x.p.writes, .int .i64 x.p.locals, .slice x.ao x.n x.cap]
def prcs : List Pr → List Value
  | [] => []
  | x :: Ps => prc x ++ prcs Ps
theorem prcs_length : ∀ Ps : List Pr, (prcs Ps).length = Ps.length * 6
  | [] => rfl
  | x :: Ps => by simp [prcs, prc, prcs_length Ps]; omega
def prD : Pr := ⟨⟨#[]⟩, ⟨0, 0, 0, 0⟩, none, 0, 0, []⟩
def pd (Ps : List Pr) (j : Nat) : Pr := Ps.getD j prD
theorem pd_mem {Ps : List Pr} {j : Nat} (h : j < Ps.length) : pd Ps j ∈ Ps := by
  simp [pd, List.getD_eq_getElem?_getD, List.getElem?_eq_getElem h]
theorem pd_take (Ps : List Pr) (j : Nat) (h : j < Ps.length) : Ps.take (j + 1) = Ps.take j ++ [pd Ps j] := by
  rw [List.take_succ_eq_append_getElem h]
  simp [pd, List.getD_eq_getElem?_getD, List.getElem?_eq_getElem h]
theorem pd_takeD (Ps : List Pr) (j k : Nat) (h : j < k) : pd (Ps.take k) j = pd Ps j := by
  simp [pd, List.getD_eq_getElem?_getD, h]
theorem prcs_at : ∀ (Ps : List Pr) (j i : Nat), j < Ps.length → i < 6 → (prcs Ps)[j * 6 + i]? = (prc (pd Ps j))[i]?
  | [], j, i, h, _ => by simp at h
  | x :: Ps, 0, i, _, hi => by
    have hl : (prc x).length = 6 := rfl
    simp only [prcs, pd, Nat.zero_mul, Nat.zero_add]
    rw [List.getElem?_append_left (by rw [hl]; exact hi)]; rfl
  | x :: Ps, j + 1, i, h, hi => by
    have hl : (prc x).length = 6 := rfl
    have ih := prcs_at Ps j i (by simp at h; omega) hi
    simp only [prcs]
    rw [List.getElem?_append_right (by rw [hl]; omega), hl, show (j + 1) * 6 + i - 6 = j * 6 + i by omega, ih]
    simp [pd]
/-- WHERE PROCEDURES LIE -/
def ProcsAt (W : World) (ao : Option Addr) (Ps : List Pr) : Prop :=
  Ps = [] ∨ ∃ b off, ao = some ⟨b, off, none⟩ ∧ ∀ j u, (prcs Ps)[j]? = some u → W.cell? ⟨b, off + j, none⟩ = some u
theorem ProcsAt.get {W : World} {ao : Option Addr} {Ps : List Pr} (h : ProcsAt W ao Ps) (j : Nat) (hj : j < Ps.length) : ∃ b off, ao = some ⟨b, off, none⟩ ∧ W.cell? ⟨b, off + j * 6, none⟩ = some (.string (pd Ps j).name) ∧
    W.cell? ⟨b, off + j * 6 + 1, none⟩ = some (.int .i64 (pd Ps j).p.args) ∧ W.cell? ⟨b, off + j * 6 + 2, none⟩ = some (.int .i64 (pd Ps j).p.reads) ∧ W.cell? ⟨b, off + j * 6 + 3, none⟩ = some (.int .i64 (pd Ps j).p.writes) ∧
    W.cell? ⟨b, off + j * 6 + 4, none⟩ = some (.int .i64 (pd Ps j).p.locals) ∧ W.cell? ⟨b, off + j * 6 + 5, none⟩ = some (.slice (pd Ps j).ao (pd Ps j).n (pd Ps j).cap) := by
  rcases h with rfl | ⟨b, off, rfl, hc⟩
  · simp at hj
  · refine ⟨b, off, rfl, ?_, ?_, ?_, ?_, ?_, ?_⟩
    · exact hc (j * 6) _ (prcs_at Ps j 0 hj (by omega))
    · exact hc (j * 6 + 1) _ (prcs_at Ps j 1 hj (by omega))
    · exact hc (j * 6 + 2) _ (prcs_at Ps j 2 hj (by omega))
    · exact hc (j * 6 + 3) _ (prcs_at Ps j 3 hj (by omega))
    · exact hc (j * 6 + 4) _ (prcs_at Ps j 4 hj (by omega))
    · exact hc (j * 6 + 5) _ (prcs_at Ps j 5 hj (by omega))
theorem ProcsAt.lt {W : World} {ao : Option Addr} {Ps : List Pr} (h : ProcsAt W ao Ps) : ∀ a, Ps ≠ [] → ao = some a → a.block < W.heap.size := by
  intro a hne e
  have h0 : 0 < Ps.length := by cases Ps with | nil => exact absurd rfl hne | cons _ _ => simp
  obtain ⟨b, off, e1, hc, _⟩ := h.get 0 h0
  rw [e1] at e
  cases e
  exact cell_lt hc
theorem ProcsAt.below {W W' : World} {ao : Option Addr} {Ps : List Pr} {B : Nat} (h : ProcsAt W ao Ps) (hb : Below B W W') (hlt : ∀ a, Ps ≠ [] → ao = some a → a.block < B) : ProcsAt W' ao Ps := by
  rcases h with rfl | ⟨b, off, rfl, hc⟩
  · exact .inl rfl
  · refine .inr ⟨b, off, rfl, fun j u hu => ?_⟩
    have hne : Ps ≠ [] := by intro e; rw [e] at hu; simp [prcs] at hu
    have h1 := hc j u hu
    simp only [World.cell?] at h1 ⊢
    rw [hb.block b (hlt _ hne rfl)]; exact h1
theorem ProcsAt.kept {W W' : World} {ao : Option Addr} {Ps : List Pr} (h : ProcsAt W ao Ps) (hb : Below W.heap.size W W') : ProcsAt W' ao Ps := h.below hb h.lt
theorem ProcsAt.grew {W W' : World} {ao : Option Addr} {Ps : List Pr} (h : ProcsAt W ao Ps) (hg : Grew W W') : ProcsAt W' ao Ps := h.kept hg.below
theorem prcs_append (A B : List Pr) : prcs (A ++ B) = prcs A ++ prcs B := by
  induction A with
  | nil => rfl
  | cons k A ih => simp [prcs, ih]
theorem ProcsAt.take {W : World} {ao : Option Addr} {Ps : List Pr} (h : ProcsAt W ao Ps) (k : Nat) : ProcsAt W ao (Ps.take k) := by
  rcases h with rfl | ⟨b, off, rfl, hc⟩
  · left; simp
  · right
    refine ⟨b, off, rfl, fun j u hu => hc j u ?_⟩
    have e : prcs Ps = prcs (Ps.take k) ++ prcs (Ps.drop k) := by rw [← prcs_append, List.take_append_drop]
    rw [e, List.getElem?_append_left (List.getElem?_eq_some_iff.1 hu).1]; exact hu
/-- what a procedure holds -/
structure PrOK (W : World) (x : Pr) : Prop where
  len : x.n = x.L.length
  ks : KeysAt W x.ao x.L
  nin : NIn x.p
  kin : ∀ k ∈ x.L, KIn k
  nil : x.ao = none → x.cap = 0
  str : x.name.size ≤ 140737488351232
  big : x.n * 16 ≤ 140737488351232
theorem PrOK.kept {W W' : World} {x : Pr} (h : PrOK W x) (hb : Below W.heap.size W W') : PrOK W' x := ⟨h.len, h.ks.kept hb, h.nin, h.kin, h.nil, h.str, h.big⟩
/-- A LIBRARY -/
structure LibAt (W : World) (ao : Option Addr) (Ps : List Pr) : Prop where
  at_ : ProcsAt W ao Ps
  ok : ∀ x ∈ Ps, PrOK W x
theorem LibAt.kept {W W' : World} {ao : Option Addr} {Ps : List Pr} (h : LibAt W ao Ps) (hb : Below W.heap.size W W') : LibAt W' ao Ps := ⟨h.at_.kept hb, fun x hx => (h.ok x hx).kept hb⟩

def hasB (Ps : List Pr) (nm : ByteArray) : Bool := Ps.any fun x => x.name.toList == nm.toList
theorem hasB_take {Ps : List Pr} {nm : ByteArray} {k : Nat} (h : k < Ps.length) : hasB (Ps.take (k + 1)) nm = (hasB (Ps.take k) nm || ((pd Ps k).name.toList == nm.toList)) := by
  unfold hasB; rw [pd_take Ps k h, List.any_append]; simp
theorem hasB_at {Ps : List Pr} {nm : ByteArray} {k : Nat} (h : k < Ps.length) (e : ((pd Ps k).name.toList == nm.toList) = true) : hasB Ps nm = true := by
  unfold hasB; rw [List.any_eq_true]; exact ⟨pd Ps k, pd_mem h, e⟩
/-- the first that is not 0, and its place -/
def firstP (f : Nat → Int) : Nat → Nat × Int
  | 0 => (0, 0)
  | k + 1 => if (firstP f k).2 ≠ 0 then firstP f k else if f k ≠ 0 then (k, f k) else (0, 0)
def chkOne (Ps : List Pr) (i : Nat) : Int := if nameB (pd Ps i).name = false ∨ hasB (Ps.take i) (pd Ps i).name = true then 35 else verifyN (pd Ps i).p (pd Ps i).L
/-- Check: the place, and the error -/
def checkN (Ps : List Pr) : Nat × Int := if 64 < Ps.length then (0, 36) else firstP (chkOne Ps) Ps.length
theorem firstP_zero {f : Nat → Int} {k : Nat} (h : ∀ i, i < k → f i = 0) : firstP f k = (0, 0) := by
  induction k with
  | zero => rfl
  | succ k ih =>
    have e := ih (fun i hi => h i (by omega))
    simp only [firstP, e, h k (by omega)]; rfl
theorem firstP_stop {f : Nat → Int} {k n : Nat} (h : ∀ i, i < k → f i = 0) (hk : f k ≠ 0) (hn : k < n) : firstP f n = (k, f k) := by
  induction n with
  | zero => omega
  | succ n ih =>
    by_cases e : k = n
    · subst e; simp only [firstP, firstP_zero h]; rw [if_neg (by simp), if_pos hk]
    · have := ih (by omega)
      simp only [firstP, this]; rw [if_pos hk]
theorem checkN_stop {Ps : List Pr} {k : Nat} (hl : Ps.length ≤ 64) (h : ∀ i, i < k → chkOne Ps i = 0) (hk : chkOne Ps k ≠ 0) (hn : k < Ps.length) : checkN Ps = (k, chkOne Ps k) := by
  unfold checkN; rw [if_neg (by omega)]; exact firstP_stop h hk hn
theorem checkN_zero {Ps : List Pr} (hl : Ps.length ≤ 64) (h : ∀ i, i < Ps.length → chkOne Ps i = 0) : checkN Ps = (0, 0) := by
  unfold checkN; rw [if_neg (by omega)]; exact firstP_zero h
theorem chkOne_bad {Ps : List Pr} {i : Nat} (h : nameB (pd Ps i).name = false ∨ hasB (Ps.take i) (pd Ps i).name = true) : chkOne Ps i = 35 := if_pos h
theorem chkOne_good {Ps : List Pr} {i : Nat} (h1 : nameB (pd Ps i).name = true) (h2 : hasB (Ps.take i) (pd Ps i).name = false) : chkOne Ps i = verifyN (pd Ps i).p (pd Ps i).L := if_neg (by rw [h1, h2]; simp)

set_option maxHeartbeats 1000000 in
theorem hasProc_any (w : World) (ao : Option Addr) (n cap : Nat) (Ps : List Pr) (nm : ByteArray) (h : ProcsAt w ao Ps) (hn : n = Ps.length) (hm : n ≤ 1000000) :
    Calls Tryd.prog 52 #[.slice ao n cap, .string nm] w fun e w' => e = .returned (.bool (hasB Ps nm)) ∧ ∃ q os, w' = grow (w.drewN q) os := by
  have H : Hid (ProcsAt w ao Ps) := h
  have HN : Hid (n = Ps.length) := hn
  clear h hn
  go_enter Tryd.func52, Tryd.ntmps52
  go_wp2
  go_loopw [9] (fun x wr => ∃ k : Nat, k ≤ n ∧ x = .int .i64 (k : Int) ∧ Hid (hasB (Ps.take k) nm = false) ∧ Hid (Grew w wr)) (fun x _ => n - (intOf x).toNat)
  case atStart => exact ⟨0, Nat.zero_le _, rfl, rfl, Grew.refl _⟩
  case round =>
    obtain ⟨k, hk, rfl, HA, HG⟩ := hrel
    by_cases hlt : k < n
    · have hlt' : k < Ps.length := by have := HN.out; omega
      obtain ⟨b, off, rfl, c0, c1, c2, c3, c4, c5⟩ := (H.out.grew HG.out).get k hlt'
      have HT : Hid (hasB (Ps.take (k + 1)) nm = (hasB (Ps.take k) nm || ((pd Ps k).name.toList == nm.toList))) := hasB_take hlt'
      have HS : Hid (((pd Ps k).name.toList == nm.toList) = true → hasB Ps nm = true) := hasB_at hlt'
      generalize pd Ps k = x at *
      obtain ⟨xn, ⟨y1, y2, y3, y4⟩, xa, xl, xc, xL⟩ := x
      simp only at c0 c1 c2 c3 c4 c5
      have HG2 : Hid (Grew w (wr.alloc (.cells #[.string xn, .int .i64 y1, .int .i64 y2, .int .i64 y3, .int .i64 y4, .slice xa xl xc] 43))) := HG.out.alloc _
      cases hq : xn.toList == nm.toList with
      | true =>
        have HV : Hid (hasB Ps nm = true) := HS.out hq
        go_wp2
        go_ret
        exact ⟨by rw [HV.out]; rfl, HG2.out⟩
      | false =>
        have HV : Hid (hasB (Ps.take (k + 1)) nm = false) := by rw [HT.out, HA.out, hq]; rfl
        go_wp2
        go_roundw
        case rel => exact ⟨k + 1, by omega, by go_num, HV, HG2⟩
        case measure => simp [intOf]; omega
    · obtain rfl : k = n := by omega
      have HV : Hid (hasB Ps nm = false) := by have := HA.out; rw [HN.out, List.take_length] at this; exact this
      go_wp2
      go_ret
      exact ⟨by rw [HV.out]; rfl, HG.out⟩
end Go.Proofs.YtkjmeknaedapjaaDoor
/-
  THE WALK OF Check.
-/
namespace Go.Proofs.YtkjmeknaedapjaaDoor
open Go.RowKit Go.Sort

/-- a procedure in a box -/
def RBox (W : World) (B : Nat) (x : Pr) : Prop := W.heap[B]? = some (.cells #[.string x.name, .int .i64 x.p.args, .int .i64 x.p.reads, .int .i64 x.p.writes, .int .i64 x.p.locals, .slice x.ao x.n x.cap] 43 (0, 0))
theorem RBox.new (w : World) (x : Pr) : RBox (w.alloc (.cells #[.string x.name, .int .i64 x.p.args, .int .i64 x.p.reads, .int .i64 x.p.writes, .int .i64 x.p.locals, .slice x.ao x.n x.cap] 43)) w.heap.size x := heap_alloc_new _ _ rfl
theorem RBox.lt {W : World} {B : Nat} {x : Pr} (h : RBox W B x) : B < W.heap.size := (Array.getElem?_eq_some_iff.1 h).1
theorem RBox.below {W W' : World} {B C : Nat} {x : Pr} (h : RBox W B x) (hb : Below C W W') (hc : B < C) : RBox W' B x := (hb.block B hc).trans h
theorem RBox.kept {W W' : World} {B : Nat} {x : Pr} (h : RBox W B x) (hb : Below W.heap.size W W') : RBox W' B x := h.below hb h.lt
theorem RBox.cells {W : World} {B : Nat} {x : Pr} (h : RBox W B x) :
    W.cell? ⟨B, 0, none⟩ = some (.string x.name) ∧ W.cell? ⟨B, 1, none⟩ = some (.int .i64 x.p.args) ∧ W.cell? ⟨B, 2, none⟩ = some (.int .i64 x.p.reads) ∧ W.cell? ⟨B, 3, none⟩ = some (.int .i64 x.p.writes) ∧ W.cell? ⟨B, 4, none⟩ = some (.int .i64 x.p.locals) ∧ W.cell? ⟨B, 5, none⟩ = some (.slice x.ao x.n x.cap) := by
  refine ⟨?_, ?_, ?_, ?_, ?_, ?_⟩ <;> simp [World.cell?, show W.heap[B]? = _ from h]

set_option maxRecDepth 100000 in
set_option maxHeartbeats 2000000 in
theorem check_any (w : World) (ao : Option Addr) (n cap : Nat) (Ps : List Pr) (h : LibAt w ao Ps) (hn : n = Ps.length) (hc : n ≤ cap) (hm : n ≤ 140737488351232) :
    Calls Tryd.prog 23 #[.slice ao n cap] w fun e w' => e = .returned (.tuple #[.int .i64 ((checkN Ps).1 : Int), .int .i64 (checkN Ps).2]) ∧ Below w.heap.size w w' := by
  have H : Hid (LibAt w ao Ps) := h
  have HN : Hid (n = Ps.length) := hn
  clear h hn
  by_cases h64 : 64 < n
  · have HV : Hid (checkN Ps = (0, 36)) := by show checkN Ps = (0, 36); unfold checkN; rw [if_pos (by have := HN.out; omega)]
    go_enter Tryd.func23, Tryd.ntmps23
    go_wp2
    go_ret2
    exact ⟨by rw [HV.out]; rfl, Below.refl _ _⟩
  · go_enter Tryd.func23, Tryd.ntmps23
    go_wp2
    go_loopw [12] (fun x wr => ∃ k : Nat, k ≤ n ∧ x = .int .i64 (k : Int) ∧ Hid (∀ i, i < k → chkOne Ps i = 0) ∧ Hid (Below w.heap.size w wr)) (fun x _ => n - (intOf x).toNat)
    case atStart => exact ⟨0, Nat.zero_le _, rfl, fun i hi => absurd hi (Nat.not_lt_zero i), Below.refl _ _⟩
    case round =>
      obtain ⟨k, hk, rfl, HA, HB⟩ := hrel
      by_cases hlt : k < n
      · have hlt' : k < Ps.length := by have := HN.out; omega
        obtain ⟨b, off, rfl, c0, c1, c2, c3, c4, c5⟩ := (H.out.at_.kept HB.out).get k hlt'
        have HS : Hid (chkOne Ps k ≠ 0 → checkN Ps = (k, chkOne Ps k)) := fun h => checkN_stop (by have := HN.out; omega) HA.out h hlt'
        have HF : Hid ((nameB (pd Ps k).name = false ∨ hasB (Ps.take k) (pd Ps k).name = true) → chkOne Ps k = 35) := chkOne_bad
        have HT : Hid (nameB (pd Ps k).name = true → hasB (Ps.take k) (pd Ps k).name = false → chkOne Ps k = verifyN (pd Ps k).p (pd Ps k).L) := chkOne_good
        have HO : Hid (PrOK wr (pd Ps k)) := (H.out.ok _ (pd_mem hlt')).kept HB.out
        generalize pd Ps k = x at *
        have HR : Hid (RBox (wr.alloc (.cells #[.string x.name, .int .i64 x.p.args, .int .i64 x.p.reads, .int .i64 x.p.writes, .int .i64 x.p.locals, .slice x.ao x.n x.cap] 43)) wr.heap.size x) := RBox.new wr x
        have HB2 : Hid (Below w.heap.size w (wr.alloc (.cells #[.string x.name, .int .i64 x.p.args, .int .i64 x.p.reads, .int .i64 x.p.writes, .int .i64 x.p.locals, .slice x.ao x.n x.cap] 43))) := HB.out.alloc HB.out.size _
        have HO2 : Hid (PrOK (wr.alloc (.cells #[.string x.name, .int .i64 x.p.args, .int .i64 x.p.reads, .int .i64 x.p.writes, .int .i64 x.p.locals, .slice x.ao x.n x.cap] 43)) x) := HO.out.kept ((Below.refl _ _).alloc (Nat.le_refl _) _)
        go_wp2_with fail
        generalize wr.alloc (.cells #[.string x.name, .int .i64 x.p.args, .int .i64 x.p.reads, .int .i64 x.p.writes, .int .i64 x.p.locals, .slice x.ao x.n x.cap] 43) = W2 at *
        generalize wr.heap.size = B at *
        clear c0 c1 c2 c3 c4 c5 HO HB
        have mx := mixed
        have g0 : ∀ n os, (grow (W2.drewN n) os).cell? ⟨B, 0, none⟩ = some (.string x.name) := fun n os => Grew.cell ⟨n, os, rfl⟩ HR.out.cells.1
        have HC1 : Hid (∀ n os, Calls Tryd.prog 51 #[.string x.name] (grow (W2.drewN n) os) fun e w' => e = .returned (.bool (nameB x.name)) ∧ ∃ q os', w' = grow ((grow (W2.drewN n) os).drewN q) os') := fun n os =>
          (isName_any _ x.name (by have := HO2.out.str; omega)).mono fun e w' ⟨h1, h2⟩ => ⟨h1, 0, #[], by rw [h2, grow_empty]; rfl⟩
        have HC2 : Hid (∀ m os, Calls Tryd.prog 52 #[.slice (some ⟨b, off, none⟩) k cap, .string x.name] (grow (W2.drewN m) os) fun e w' => e = .returned (.bool (hasB (Ps.take k) x.name)) ∧ ∃ q os', w' = grow ((grow (W2.drewN m) os).drewN q) os') := fun m os =>
          hasProc_any _ _ k cap (Ps.take k) x.name (((H.out.at_.kept HB2.out).take k).grew ⟨m, os, rfl⟩) (by rw [List.length_take]; have := HN.out; omega) (by omega)
        have hle : (k : Int) ≤ (cap : Int) := by omega
        cases hnm : nameB x.name with
        | false =>
          have HV : Hid (checkN Ps = (k, 35)) := by
            have e := HF.out (.inl hnm)
            have := HS.out (by rw [e]; decide)
            rw [e] at this; exact this
          rw [hnm] at HC1
          refine wp_region_quiet_grown mx (by kernel_rfl) ?_
          repeat (go_big_quiet_step (first | (go_at_call 51; exact Calls.grown_of (HC1.out _ _)) | (go_at_call 52; exact Calls.grown_of (HC2.out _ _))))
          refine wpQuiet_nil ?_
          intro _ hw'
          obtain ⟨⟨nq, osq⟩, hw''⟩ := hw'
          subst hw''
          have HB3 : Hid (Below w.heap.size w (grow (W2.drewN nq) osq)) := HB2.out.trans ((Grew.below ⟨nq, osq, rfl⟩).mono HB2.out.size)
          go_wp2
          go_ret2
          exact ⟨by rw [HV.out]; rfl, HB3.out⟩
        | true =>
          rw [hnm] at HC1
          cases hhs : hasB (Ps.take k) x.name with
          | true =>
            have HV : Hid (checkN Ps = (k, 35)) := by
              have e := HF.out (.inr hhs)
              have := HS.out (by rw [e]; decide)
              rw [e] at this; exact this
            rw [hhs] at HC2
            refine wp_region_quiet_grown mx (by kernel_rfl) ?_
            repeat (go_big_quiet_step (first | (go_at_call 51; exact Calls.grown_of (HC1.out _ _)) | (go_at_call 52; exact Calls.grown_of (HC2.out _ _))))
            refine wpQuiet_nil ?_
            intro _ hw'
            obtain ⟨⟨nq, osq⟩, hw''⟩ := hw'
            subst hw''
            have HB3 : Hid (Below w.heap.size w (grow (W2.drewN nq) osq)) := HB2.out.trans ((Grew.below ⟨nq, osq, rfl⟩).mono HB2.out.size)
            go_wp2
            go_ret2
            exact ⟨by rw [HV.out]; rfl, HB3.out⟩
          | false =>
            have HV : Hid (chkOne Ps k = verifyN x.p x.L) := HT.out hnm hhs
            rw [hhs] at HC2
            refine wp_region_quiet_grown mx (by kernel_rfl) ?_
            repeat (go_big_quiet_step (first | (go_at_call 51; exact Calls.grown_of (HC1.out _ _)) | (go_at_call 52; exact Calls.grown_of (HC2.out _ _))))
            refine wpQuiet_nil ?_
            intro _ hw'
            obtain ⟨⟨nq, osq⟩, hw''⟩ := hw'
            subst hw''
            have HB3 : Hid (Below w.heap.size w (grow (W2.drewN nq) osq)) := HB2.out.trans ((Grew.below ⟨nq, osq, rfl⟩).mono HB2.out.size)
            have HR3 : Hid (RBox (grow (W2.drewN nq) osq) B x) := HR.out.kept (Grew.below ⟨nq, osq, rfl⟩)
            have HO3 : Hid (PrOK (grow (W2.drewN nq) osq) x) := HO2.out.kept (Grew.below ⟨nq, osq, rfl⟩)
            clear g0 HC1 HC2 HF HT HR HO2 HB2
            generalize grow (W2.drewN nq) osq = W3 at *
            obtain ⟨x0, x1, x2, x3, x4, x5⟩ := HR3.out.cells
            go_wp2_with fail
            refine (verify_any W3 x.p x.ao x.n x.cap x.L HO3.out.nin HO3.out.ks HO3.out.len).mono ?_
            rintro e W4 ⟨rfl, hb4⟩
            have HB4 : Hid (Below w.heap.size w W4) := HB3.out.trans (hb4.mono HB3.out.size)
            rw [← HV.out]
            clear hb4 HV x0 x1 x2 x3 x4 x5
            generalize hce : chkOne Ps k = ce at *
            by_cases h0 : ce = 0
            · have HA2 : Hid (∀ i, i < k + 1 → chkOne Ps i = 0) := fun i hi => by
                by_cases e : i = k
                · rw [e, hce]; exact h0
                · exact HA.out i (by omega)
              clear hce
              subst h0
              go_wp2
              go_roundw
              case rel => exact ⟨k + 1, by omega, by go_num, HA2, HB4⟩
              case measure => simp [intOf]; omega
            · have h0' : (ce != 0) = true := by simpa using h0
              have HV : Hid (checkN Ps = (k, ce)) := HS.out h0
              clear hce
              go_wp2
              go_ret2
              exact ⟨by rw [HV.out]; rfl, HB4.out⟩
      · obtain rfl : k = n := by omega
        have HV : Hid (checkN Ps = (0, 0)) := checkN_zero (by have := HN.out; omega) (by rw [← HN.out]; exact HA.out)
        go_wp2
        go_ret2
        exact ⟨by rw [HV.out]; rfl, HB.out⟩
end Go.Proofs.YtkjmeknaedapjaaDoor
