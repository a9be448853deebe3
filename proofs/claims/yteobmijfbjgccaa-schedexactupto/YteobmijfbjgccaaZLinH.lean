/-
  line: what it makes.
-/
import Derived.Test.YteobmijfbjgccaaZArgs
namespace Go.Proofs.Yteobmijfbjgccaa
open Go.RowKit Go.Sort

theorem edZ_congr {n : Nat} {ls ls' : Nat → Nat} (h : ∀ i, i < n → ls i = ls' i) {z : Int} (hz : z < (n : Int)) : edZ ls z = edZ ls' z := by
  unfold edZ
  by_cases h0 : z < 0
  · simp [h0]
  · rw [h z.toNat (by omega)]
theorem CI.congr {w : World} {n : Nat} {cb ls ls' : Nat → Nat} {B B' : Nat → List Int} {X : Nat → Prop} (h : CI w n cb ls B X) (h1 : ∀ i, i < n → ls i = ls' i) (h2 : ∀ i, i < n → B i = B' i) : CI w n cb ls' B' X := by
  refine ⟨fun i hi => ?_, h.xc, h.nd, fun i hi => by rw [← h2 i hi]; exact h.bi i hi, h.xt, fun i hi => by rw [← h1 i hi]; exact h.le i hi⟩
  obtain ⟨a, c, R, g1, g2, g3, g4, g5, g6⟩ := h.ch i hi
  refine ⟨a, c, R, by rw [← h1 i hi]; exact g1, g2, g3, by rw [← h2 i hi]; exact g4, ?_, g6⟩
  rw [← h1 i hi, ← h2 i hi]
  intro hl z hz he
  rw [← edZ_congr h1 (by have := h.bi i hi z hz; omega)] at he
  exact g5 hl z hz he
theorem CI.none (w : World) (cb ls : Nat → Nat) (B : Nat → List Int) : CI w 0 cb ls B (fun _ => False) := ⟨fun i hi => by omega, fun i hi => by omega, fun i j hi => by omega, fun i hi => by omega, fun k hk => hk.elim, fun i hi => by omega⟩
instance : Inhabited Mk := ⟨⟨0, none, 0, []⟩⟩
/-- the steps of each -/
def lsM (L : List Mk) (i : Nat) : Nat := limZ (L.getD i default).s
/-- behind which each is made -/
def blM (L : List Mk) (i : Nat) : List Int := if i = 0 then [] else (L.getD i default).zs.map (fun z => wiZ z i)
theorem getM {L : List Mk} {i : Nat} (hi : i < L.length) : L.getD i default = L[i] := by simp [List.getD, hi]
theorem totM (L : List Mk) : totZ L.length (lsM L) = ttM L := by
  have h : ∀ i, i ≤ L.length → totZ i (lsM L) = ttM (L.take i) := fun i => by
    induction i with
    | zero => intro _; rfl
    | succ i ih =>
      intro hi
      have hi' : i < L.length := by omega
      rw [totZ_succ, ih (by omega), ttM_take hi', lsM, getM hi']
  have := h L.length (Nat.le_refl _)
  rwa [List.take_length] at this
/-- which chore stands at a place of the line -/
def tsM (n : Nat) (turn : Int) (i : Nat) : Int := wiZ ((i : Int) + wiZ turn n) n
theorem tsM_range {n : Nat} {turn : Int} {i : Nat} (h : 0 < n) : 0 ≤ tsM n turn i ∧ tsM n turn i < (n : Int) := wiZ_range h
/-- each chore stands at one place -/
theorem tsM_onto {n : Nat} (turn : Int) {c : Nat} (h : c < n) : ∃ i, i < n ∧ tsM n turn i = (c : Int) := by
  have h0 : 0 < n := by omega
  obtain ⟨t1, t2⟩ := wiZ_range (x := turn) h0
  refine ⟨(((c : Int) - wiZ turn n) % (n : Int)).toNat, ?_, ?_⟩
  · have := Int.emod_lt_of_pos ((c : Int) - wiZ turn n) (b := (n : Int)) (by omega)
    have := Int.emod_nonneg ((c : Int) - wiZ turn n) (b := (n : Int)) (by omega)
    omega
  · have h1 := Int.emod_nonneg ((c : Int) - wiZ turn n) (b := (n : Int)) (by omega)
    unfold tsM
    rw [Int.toNat_of_nonneg h1]
    generalize wiZ turn n = t at *
    unfold wiZ
    rw [if_neg (by omega), Int.emod_add_emod, Int.sub_add_cancel, Int.emod_eq_of_lt (by omega) (by omega)]
/-- chores that are made one after the other, and the list of them -/
structure LM (w : World) (L : List Mk) (wr : World) (i : Nat) (cb : Nat → Nat) (X : Nat → Prop) (lo : Option Addr) (lc : Nat) : Prop where
  ci : CI wr i cb (lsM L) (blM L) X
  ow : OwZ w.heap.size 44 wr lo i lc ((List.range i).map (fun (j : Nat) => ptZ (cb j)))
  bl : RowKit.Below w.heap.size w wr
  xn : ∀ k, X k → w.heap.size ≤ k
  nx : ∀ g, lo = some g → ¬ X g.block
theorem LM.start (w : World) (L : List Mk) : LM w L w 0 (fun _ => 0) (fun _ => False) none 0 := ⟨CI.none _ _ _ _, OwZ.nil _ _ _, Below.refl _ _, fun _ h => h.elim, fun _ _ h => h⟩
theorem LM.keptZ {w wr w1 : World} {L : List Mk} {i : Nat} {cb : Nat → Nat} {X : Nat → Prop} {lo : Option Addr} {lc : Nat} (h : LM w L wr i cb X lo lc) (hb : RowKit.Below wr.heap.size wr w1) : LM w L w1 i cb X lo lc :=
  ⟨h.ci.kept hb, h.ow.kept (fun g hg => hb.block _ (h.ow.lt g hg).2), h.bl.trans (hb.mono h.bl.size), h.xn, h.nx⟩
theorem ptZs_upd {cb : Nat → Nat} {n b : Nat} : (List.range (n + 1)).map (fun (j : Nat) => ptZ (updZ cb n b j)) = (List.range n).map (fun (j : Nat) => ptZ (cb j)) ++ [ptZ b] := by
  rw [List.range_succ, List.map_append]
  congr 1
  · exact List.map_congr_left (fun j hj => by rw [updZ_lt (List.mem_range.1 hj)])
  · simp [updZ_same]
/-- a chore is made, and goes into the list -/
theorem LM.next {w wr : World} {L : List Mk} {i : Nat} {cb : Nat → Nat} {X : Nat → Prop} {lo : Option Addr} {lc : Nat} (h : LM w L wr i cb X lo lc) (hi : i < L.length) (hb : L.length ≤ 1000000) {e : Ending} {w1 : World} (hn : NCP wr i cb (lsM L) (blM L) X L[i].s (blM L i) e w1) :
    ∃ b0, e = .returned (ptZ b0) ∧ ∀ ty, ∃ v' w', (Builtin.append_ #[35, 35] ty #[.slice lo i lc, .slice (some ⟨w1.heap.size, 0, none⟩) 1 1]).run Try.prog (w1.alloc (.cells #[ptZ b0] 44)) = .ok v' w' ∧ ∃ cb' X' lo' lc', v' = .slice lo' (i + 1) lc' ∧ LM w L w' (i + 1) cb' X' lo' lc' := by
  obtain ⟨b0, X', rfl, hc, hx1, hx2, hb0, hbl⟩ := hn
  refine ⟨b0, rfl, fun ty => ?_⟩
  have ho1 := h.ow.kept (fun g hg => hbl.block _ (h.ow.lt g hg).2)
  obtain ⟨v', w', hr, lo', lc', rfl, ho, hf, hp⟩ := appZ (TS := 35) (TE := 44) Try.underlying35 infoZP rfl ho1 (Nat.le_trans h.bl.size hbl.size) (ptZ b0) rfl (by unfold maxLen; omega) (by omega) ty
  have hnx : ∀ g, lo = some g → ¬ X' g.block := fun g hg hx => by
    rcases hx2 _ hx with hx | hx
    · exact h.nx g hg hx
    · have := (h.ow.lt g hg).2; omega
  refine ⟨_, w', hr, updZ cb i b0, X', lo', lc', rfl, ⟨?_, ?_, ?_, fun k hk => ?_, fun g hg hx => ?_⟩⟩
  · refine (hc.frame hf (fun k hk hS => ?_)).congr (fun j hj => ?_) (fun j hj => ?_)
    · obtain ⟨g, hg, rfl⟩ := hS
      exact hnx g hg hk
    · by_cases e : j = i
      · subst e; rw [updZ_same, lsM, getM hi]
      · rw [updZ_ne e]
    · by_cases e : j = i
      · subst e; rw [updZ_same]
      · rw [updZ_ne e]
  · rw [ptZs_upd]; exact ho
  · exact (h.bl.trans (hbl.mono h.bl.size)).trans (hf.below (Nat.le_trans h.bl.size hbl.size) (fun k hk => by obtain ⟨g, hg, rfl⟩ := hk; exact (h.ow.lt g hg).1))
  · rcases hx2 _ hk with hx | hx
    · exact h.xn k hx
    · have := h.bl.size; omega
  · rcases hp g hg with h1 | h1
    · have := hc.lt hx; omega
    · exact hnx g (h1 ▸ hg) hx
/-- what line hands out -/
def LinP (w : World) (L : List Mk) (turn : Int) (e : Ending) (w' : World) : Prop :=
  ∃ (lo : Option Addr) (lc : Nat) (cb : Nat → Nat) (X : Nat → Prop) (lb : Nat) (ao : Option Addr) (tc : Nat), e = .returned (.tuple #[.slice lo L.length lc, ptZ lb]) ∧
    LM w L w' L.length cb X lo lc ∧ SL w' L.length cb (lsM L) (blM L) X lb ao L.length tc (tsM L.length turn) 0 ∧ w.heap.size ≤ lb ∧ ∀ g, ao = some g → w.heap.size ≤ g.block
end Go.Proofs.Yteobmijfbjgccaa
