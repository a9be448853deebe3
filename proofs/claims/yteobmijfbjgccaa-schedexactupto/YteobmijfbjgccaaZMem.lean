/-
  CHORES AND A LINE IN MEMORY.
-/
import Derived.Test.YteobmijfbjgccaaZMath
import Derived.Test.YteobmijfbjgccaaWRow
import Derived.Deep.DeepCutAuto
import Derived.Deep.RegionHeld3
namespace Go.Proofs.Yteobmijfbjgccaa
open Go.RowKit Go.Sort

abbrev ptZ (b : Nat) : Value := .pointer (some ⟨b, 0, none⟩)
/-- a chore by its number (below 0: none) -/
def pvZ (cb : Nat → Nat) (z : Int) : Value := if z < 0 then .pointer none else ptZ (cb z.toNat)
/-- a task -/
def tvZ (cb : Nat → Nat) (z : Int) : Value := if z < 0 then .nilIface else .iface 44 (ptZ (cb z.toNat))
theorem pvZ_nat (cb : Nat → Nat) (i : Nat) : pvZ cb (i : Int) = ptZ (cb i) := by simp [pvZ]
theorem pvZ_one (cb : Nat → Nat) (l : List Int) : ∀ v ∈ l.map (pvZ cb), v.oneCell' = true := fun v hv => by
  obtain ⟨z, _, rfl⟩ := List.mem_map.1 hv
  unfold pvZ; split <;> rfl
theorem tvZ_one (cb : Nat → Nat) (l : List Int) : ∀ v ∈ l.map (tvZ cb), v.oneCell' = true := fun v hv => by
  obtain ⟨z, _, rfl⟩ := List.mem_map.1 hv
  unfold tvZ; split <;> rfl
/-- blocks in S may turn, new ones may come -/
structure FrZ (S : Nat → Prop) (w w' : World) : Prop where
  os : w'.os = w.os
  tape : w'.tape = w.tape
  output : w'.output = w.output
  size : w.heap.size ≤ w'.heap.size
  block : ∀ k, k < w.heap.size → ¬ S k → w'.heap[k]? = w.heap[k]?
theorem FrZ.refl (S : Nat → Prop) (w : World) : FrZ S w w := ⟨rfl, rfl, rfl, Nat.le_refl _, fun _ _ _ => rfl⟩
theorem FrZ.ofBelow {S : Nat → Prop} {w w' : World} (h : Below w.heap.size w w') : FrZ S w w' := ⟨h.os, h.tape, h.output, h.size, fun k hk _ => h.block k hk⟩
theorem FrZ.trans {S : Nat → Prop} {a b c : World} (h : FrZ S a b) (h2 : FrZ S b c) : FrZ S a c :=
  ⟨h2.os.trans h.os, h2.tape.trans h.tape, h2.output.trans h.output, Nat.le_trans h.size h2.size, fun k hk hS => (h2.block k (Nat.lt_of_lt_of_le hk h.size) hS).trans (h.block k hk hS)⟩
theorem FrZ.mono {S T : Nat → Prop} {a b : World} (h : FrZ S a b) (hT : ∀ k, k < a.heap.size → S k → T k) : FrZ T a b := ⟨h.os, h.tape, h.output, h.size, fun k hk hS => h.block k hk (fun s => hS (hT k hk s))⟩
theorem FrZ.below {S : Nat → Prop} {a b : World} (h : FrZ S a b) {n : Nat} (hn : n ≤ a.heap.size) (hS : ∀ k, S k → n ≤ k) : Below n a b :=
  ⟨h.os, h.tape, h.output, h.size, fun k hk => h.block k (by omega) (fun s => by have := hS k s; omega)⟩
theorem FrZ.drewN {S : Nat → Prop} {a b : World} (h : FrZ S a b) (q : Nat) : FrZ S a (b.drewN q) := ⟨h.os, h.tape, h.output, h.size, h.block⟩
theorem FrZ.set {S : Nat → Prop} {a b : World} (h : FrZ S a b) (p : Addr) (v : Value) (hp : a.heap.size ≤ p.block ∨ S p.block) : FrZ S a (b.setCell p v) :=
  ⟨h.os, h.tape, h.output, by simpa using h.size, fun k hk hS => (heap_setCell_other b p k v (fun e => by rcases hp with hp | hp; · omega
                                                                                                          · exact hS (by rw [e]; exact hp))).trans (h.block k hk hS)⟩
theorem below_drewN {n : Nat} {a b : World} (h : Below n a b) (q : Nat) : Below n a (b.drewN q) := ⟨h.os, h.tape, h.output, h.size, h.block⟩
theorem WAt.sameZ {w w' : World} {ao : Option Addr} {xs : List Value} (h : WAt w ao xs) (hs : ∀ g, ao = some g → w'.heap[g.block]? = w.heap[g.block]?) : WAt w' ao xs := fun j u hu => by
  obtain ⟨b, off, h1, h2⟩ := h j u hu
  refine ⟨b, off, h1, ?_⟩
  have := hs _ h1
  simp only [World.cell?] at h2 ⊢
  rw [this]
  exact h2
/-- a chore's cells -/
abbrev chZ (l : Nat) (a : Option Addr) (m c : Nat) : Obj := .cells #[.int .i64 (l : Int), .slice a m c] 77 (0, 0)
/-- ALL CHORES: the i-th one lies in block cb i; X: their blocks, and those of their rows -/
structure CI (w : World) (n : Nat) (cb ls : Nat → Nat) (B : Nat → List Int) (X : Nat → Prop) : Prop where
  ch : ∀ i, i < n → ∃ (a : Option Addr) (c : Nat) (R : List Int), w.heap[cb i]? = some (chZ (ls i) a R.length c) ∧ WAt w a (R.map (pvZ cb)) ∧ (∀ g, a = some g → X g.block ∧ ∃ C, w.heap[g.block]? = some (.cells C 44 (0, 0))) ∧
    (∀ z ∈ R, z ∈ B i) ∧ (ls i ≠ 0 → ∀ z ∈ B i, edZ ls z = false → z ∈ R) ∧ R.length ≤ 1000000
  xc : ∀ i, i < n → X (cb i)
  nd : ∀ i j, i < n → j < n → cb i = cb j → i = j
  bi : ∀ i, i < n → ∀ z ∈ B i, z < (i : Int)
  xt : ∀ k, X k → ∃ C T, w.heap[k]? = some (.cells C T (0, 0)) ∧ (T = 77 ∨ T = 44)
  le : ∀ i, i < n → ls i ≤ 65536
theorem blk_ltZ {w : World} {k : Nat} {o : Obj} (h : w.heap[k]? = some o) : k < w.heap.size := (Array.getElem?_eq_some_iff.1 h).1
theorem CI.lt {w : World} {n : Nat} {cb ls : Nat → Nat} {B : Nat → List Int} {X : Nat → Prop} (h : CI w n cb ls B X) {k : Nat} (hk : X k) : k < w.heap.size := by
  obtain ⟨C, T, h1, _⟩ := h.xt k hk
  exact blk_ltZ h1
theorem CI.same {w w' : World} {n : Nat} {cb ls : Nat → Nat} {B : Nat → List Int} {X : Nat → Prop} (h : CI w n cb ls B X) (hs : ∀ k, X k → w'.heap[k]? = w.heap[k]?) : CI w' n cb ls B X := by
  refine ⟨fun i hi => ?_, h.xc, h.nd, h.bi, fun k hk => ?_, h.le⟩
  · obtain ⟨a, c, R, h1, h2, h3, h4⟩ := h.ch i hi
    refine ⟨a, c, R, (hs _ (h.xc i hi)).trans h1, h2.sameZ (fun g hg => hs _ (h3 g hg).1), fun g hg => ⟨(h3 g hg).1, ?_⟩, h4⟩
    obtain ⟨hx, C, hC⟩ := h3 g hg
    exact ⟨C, (hs _ hx).trans hC⟩
  · obtain ⟨C, T, h1, h2⟩ := h.xt k hk
    exact ⟨C, T, (hs k hk).trans h1, h2⟩
theorem CI.kept {w w' : World} {n : Nat} {cb ls : Nat → Nat} {B : Nat → List Int} {X : Nat → Prop} (h : CI w n cb ls B X) (hb : Below w.heap.size w w') : CI w' n cb ls B X := h.same (fun _ hk => hb.block _ (h.lt hk))
theorem CI.drewN {w : World} {n : Nat} {cb ls : Nat → Nat} {B : Nat → List Int} {X : Nat → Prop} (h : CI w n cb ls B X) (q : Nat) : CI (w.drewN q) n cb ls B X := h.same (fun _ _ => rfl)
theorem CI.frame {S : Nat → Prop} {w w' : World} {n : Nat} {cb ls : Nat → Nat} {B : Nat → List Int} {X : Nat → Prop} (h : CI w n cb ls B X) (hf : FrZ S w w') (hS : ∀ k, X k → ¬ S k) : CI w' n cb ls B X := h.same (fun k hk => hf.block k (h.lt hk) (hS k hk))
theorem WAt.getZ {w : World} {ao : Option Addr} {l : List Int} {f : Int → Value} (h : WAt w ao (l.map f)) (i : Nat) (hi : i < l.length) : ∃ b off, ao = some ⟨b, off, none⟩ ∧ w.cell? ⟨b, off + i, none⟩ = some (f l[i]) := h i _ (by simp [hi])
/-- what is ready by a chore's own row is ready -/
theorem rdR_eq {ls : Nat → Nat} {B : Nat → List Int} {i : Nat} {R : List Int} (h1 : ∀ z ∈ R, z ∈ B i) (h2 : ls i ≠ 0 → ∀ z ∈ B i, edZ ls z = false → z ∈ R) (h0 : ls i ≠ 0) : rdZ ls B i = R.all (edZ ls) := by
  rw [Bool.eq_iff_iff]
  simp only [rdZ, Bool.and_eq_true, Bool.not_eq_true', decide_eq_false_iff_not, List.all_eq_true]
  constructor
  · rintro ⟨_, h⟩ z hz
    exact h z (h1 z hz)
  · intro h
    refine ⟨h0, fun z hz => ?_⟩
    cases e : edZ ls z with
    | true => rfl
    | false => rw [h z (h2 h0 z hz e)] at e; cases e
/-- a step -/
theorem CI.step {w : World} {n : Nat} {cb ls : Nat → Nat} {B : Nat → List Int} {X : Nat → Prop} (h : CI w n cb ls B X) {i : Nat} (hi : i < n) (hr : rdZ ls B i = true) (x : Int) (hx : x = (ls i : Int) - 1) :
    CI ((w.setCell ⟨cb i, 0, none⟩ (.int .i64 x)).setCell ⟨cb i, 1, none⟩ (.slice none 0 0)) n cb (decZ ls i) B X ∧ FrZ (fun k => k = cb i) w ((w.setCell ⟨cb i, 0, none⟩ (.int .i64 x)).setCell ⟨cb i, 1, none⟩ (.slice none 0 0)) := by
  obtain ⟨h0, hall⟩ := rdZ_pos hr
  have hF : FrZ (fun k => k = cb i) w ((w.setCell ⟨cb i, 0, none⟩ (.int .i64 x)).setCell ⟨cb i, 1, none⟩ (.slice none 0 0)) := ((FrZ.refl (fun k => k = cb i) w).set ⟨cb i, 0, none⟩ (.int .i64 x) (.inr rfl)).set ⟨cb i, 1, none⟩ (.slice none 0 0) (.inr rfl)
  refine ⟨?_, hF⟩
  obtain ⟨a0, c0, R0, e0, _⟩ := h.ch i hi
  have e1 := heap_setCell_same w (cb i) 0 _ _ (.int .i64 x) e0
  have e2 := heap_setCell_same _ (cb i) 1 _ _ (.slice none 0 0) e1
  have hx' : x = ((decZ ls i i : Nat) : Int) := by unfold decZ; rw [updZ_same]; omega
  have hne : ∀ k, k < w.heap.size → k ≠ cb i → ((w.setCell ⟨cb i, 0, none⟩ (.int .i64 x)).setCell ⟨cb i, 1, none⟩ (.slice none 0 0)).heap[k]? = w.heap[k]? := fun k hk hk2 => hF.block k hk hk2
  have e2' : ((w.setCell ⟨cb i, 0, none⟩ (.int .i64 x)).setCell ⟨cb i, 1, none⟩ (.slice none 0 0)).heap[cb i]? = some (chZ (decZ ls i i) none 0 0) := by
    rw [e2, hx']
    rfl
  generalize (w.setCell ⟨cb i, 0, none⟩ (.int .i64 x)).setCell ⟨cb i, 1, none⟩ (.slice none 0 0) = w' at *
  clear e1 e2
  refine ⟨fun j hj => ?_, h.xc, h.nd, h.bi, fun k hk => ?_, fun j hj => ?_⟩
  · by_cases e : j = i
    · subst e
      refine ⟨none, 0, [], e2', fun j u hu => by simp at hu, fun g hg => (by cases hg), by simp, fun _ z hz hz2 => ?_, by simp⟩
      have := edZ_dec (i := j) (hall z hz)
      rw [hz2] at this; cases this
    · obtain ⟨a, c, R, h1, h2, h3, h4, h5, h6⟩ := h.ch j hj
      have hls : decZ ls i j = ls j := by unfold decZ; exact updZ_ne e
      have hg2 : ∀ g, a = some g → w'.heap[g.block]? = w.heap[g.block]? := fun g hg => by
        obtain ⟨_, C, hC⟩ := h3 g hg
        refine hne _ (blk_ltZ hC) (fun e => ?_)
        rw [e, e0] at hC
        cases hC
      refine ⟨a, c, R, ?_, h2.sameZ hg2, fun g hg => ⟨(h3 g hg).1, ?_⟩, h4, fun hl z hz hz2 => h5 (by rw [← hls]; exact hl) z hz (edZ_back hz2), h6⟩
      · rw [hls, hne _ (blk_ltZ h1) (fun e2 => e (h.nd j i hj hi e2)), h1]
      · obtain ⟨_, C, hC⟩ := h3 g hg
        exact ⟨C, (hg2 g hg).trans hC⟩
  · by_cases e : k = cb i
    · rw [e, e2']; exact ⟨_, _, rfl, .inl rfl⟩
    · obtain ⟨C, T, h1, h2⟩ := h.xt k hk
      exact ⟨C, T, (hne k (blk_ltZ h1) e).trans h1, h2⟩
  · unfold decZ updZ
    split
    · have := h.le i hi; omega
    · exact h.le j hj
end Go.Proofs.Yteobmijfbjgccaa
