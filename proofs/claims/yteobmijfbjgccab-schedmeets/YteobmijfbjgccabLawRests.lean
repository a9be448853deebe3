/-
  SchedRests: THE LAW.
-/
import Derived.Test.YteobmijfbjgccabZWorks
namespace Go.Proofs.Yteobmijfbjgccab
open Go.RowKit Go.Sort

/-- chores of which all stand in the line -/
structure AllZ (n : Nat) (B : Nat → List Int) (nt : Nat) (ts : Nat → Int) : Prop where
  bi : ∀ i, i < n → ∀ z ∈ B i, z < (i : Int)
  on : ∀ c, c < n → ∃ p, p < nt ∧ ts p = (c : Int)
  tz : ∀ p, p < nt → ts p < (n : Int)
theorem AllZ.rest {n nt : Nat} {B : Nat → List Int} {ts : Nat → Int} (h : AllZ n B nt ts) (ls : Nat → Nat) : plcZ ls B nt ts = [] ↔ totZ n ls = 0 := by
  constructor
  · intro h0
    by_cases e : totZ n ls = 0
    · exact e
    · obtain ⟨i, hi, hr⟩ := rdZ_first h.bi e
      obtain ⟨p, hp, hpt⟩ := h.on i hi
      have : p ∈ plcZ ls B nt ts := plcZ_mem.2 ⟨hp, by simp [rtZ, hpt, hr]⟩
      rw [h0] at this
      simp at this
  · intro h0
    rw [List.eq_nil_iff_forall_not_mem]
    intro p hp
    obtain ⟨h1, h2⟩ := plcZ_mem.1 hp
    obtain ⟨h3, h4⟩ := rtZ_pos h2
    have h5 := (rdZ_pos h4).1
    exact h5 (totZ_zero h0 _ (by have := h.tz p h1; omega))
theorem AllZ.took {n nt : Nat} {B : Nat → List Int} {ts : Nat → Int} (h : AllZ n B nt ts) {ls : Nat → Nat} {x : Int} {p : Nat} (hp : tkP ls B nt ts x = some p) : totZ n (decZ ls (ts p).toNat) + 1 = totZ n ls := by
  obtain ⟨h1, h2⟩ := tkP_some hp
  obtain ⟨h3, h4⟩ := rtZ_pos h2
  exact totZ_dec (by have := h.tz p h1; omega) (rdZ_pos h4).1
theorem AllZ.drains {n nt : Nat} {B : Nat → List Int} {ts : Nat → Int} (h : AllZ n B nt ts) (m : Nat) (ls : Nat → Nat) : drK B nt ts m ls = min m (totZ n ls) ∧ totZ n (drL B nt ts m ls) + drK B nt ts m ls = totZ n ls := by
  induction m generalizing ls with
  | zero => simp [drK, drL]
  | succ m ih =>
    cases hp : tkP ls B nt ts 0 with
    | none =>
      obtain ⟨h1, h2⟩ := drL_none (B := B) (nt := nt) (ts := ts) (m + 1) hp
      have h0 := (h.rest ls).1 (tkP_none.1 hp)
      rw [h1, h2, h0]
      simp
    | some p =>
      obtain ⟨h1, h2⟩ := drL_some (B := B) (nt := nt) (ts := ts) m hp
      have h0 := h.took hp
      obtain ⟨h3, h4⟩ := ih (decZ ls (ts p).toNat)
      rw [h1, h2]
      omega
theorem AllZ.ofL {L : List Mk} {turn : Int} : AllZ L.length (blM L) L.length (tsM L.length turn) := by
  refine ⟨fun i hi z hz => ?_, fun c hc => tsM_onto turn hc, fun p hp => (tsM_range (by omega)).2⟩
  unfold blM at hz
  by_cases h0 : i = 0
  · rw [if_pos h0] at hz; simp at hz
  · rw [if_neg h0] at hz
    obtain ⟨y, _, rfl⟩ := List.mem_map.1 hz
    exact (wiZ_range (by omega)).2
/-- what stays of what line hands out -/
structure RS (w : World) (n : Nat) (B : Nat → List Int) (ts : Nat → Int) (lo : Option Addr) (lc : Nat) (cb : Nat → Nat) (X : Nat → Prop) (lb : Nat) (ao : Option Addr) (tc : Nat) (wr : World) (lr : Nat → Nat) (k : Nat) : Prop where
  sl : SL wr n cb lr B X lb ao n tc ts k
  ow : OwZ w.heap.size 35 wr lo n lc ((List.range n).map (fun (j : Nat) => ptZ (cb j)))
  bl : RowKit.Below w.heap.size w wr
  xn : ∀ j, X j ∨ j = lb → w.heap.size ≤ j
  nx : ∀ g, lo = some g → ¬ (X g.block ∨ g.block = lb)
section
variable {w wr w' : World} {n : Nat} {B : Nat → List Int} {ts : Nat → Int} {lo : Option Addr} {lc : Nat} {cb : Nat → Nat} {X : Nat → Prop} {lb : Nat} {ao : Option Addr} {tc : Nat} {lr lr' : Nat → Nat} {k k' : Nat}
theorem RS.go (h : RS w n B ts lo lc cb X lb ao tc wr lr k) (hs : SL w' n cb lr' B X lb ao n tc ts k') (hf : FrZ (fun j => X j ∨ j = lb) wr w') : RS w n B ts lo lc cb X lb ao tc w' lr' k' :=
  ⟨hs, h.ow.kept (fun g hg => hf.block _ (h.ow.lt g hg).2 (h.nx g hg)), h.bl.trans (hf.below h.bl.size h.xn), h.xn, h.nx⟩
theorem RS.kept (h : RS w n B ts lo lc cb X lb ao tc wr lr k) (hb : RowKit.Below wr.heap.size wr w') : RS w n B ts lo lc cb X lb ao tc w' lr k := h.go (h.sl.kept hb) (FrZ.ofBelow hb)
end
theorem LinP.rs {w w' : World} {L : List Mk} {turn : Int} {e : Ending} (h : LinP w L turn e w') : ∃ lo lc cb X lb ao tc, e = .returned (.tuple #[.slice lo L.length lc, ptZ lb]) ∧ RS w L.length (blM L) (tsM L.length turn) lo lc cb X lb ao tc w' (lsM L) 0 := by
  obtain ⟨lo, lc, cb, X, lb, ao, tc, rfl, h1, h2, h3, _⟩ := h
  refine ⟨lo, lc, cb, X, lb, ao, tc, rfl, h2, h1.ow, h1.bl, fun j hj => ?_, fun g hg hx => ?_⟩
  · rcases hj with hj | rfl
    · exact h1.xn j hj
    · exact h3
  · rcases hx with hx | hx
    · exact h1.nx g hg hx
    · obtain ⟨C, hC⟩ := h1.ow.ty g hg
      rw [hx, h2.ln.ln] at hC
      cases hC
end Go.Proofs.Yteobmijfbjgccab
