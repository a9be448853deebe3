/-
  SchedMeets: two lines side by side.
-/
import Derived.Test.YteobmijfbjgccabLawRests
namespace Go.Proofs.Yteobmijfbjgccab
open Go.RowKit Go.Sort

/-- all that belongs to a line -/
def OfZ (lo : Option Addr) (X : Nat → Prop) (lb : Nat) (ao : Option Addr) (j : Nat) : Prop := X j ∨ j = lb ∨ (∃ g, ao = some g ∧ g.block = j) ∨ ∃ g, lo = some g ∧ g.block = j
section
variable {w wr w' : World} {n : Nat} {B : Nat → List Int} {ts : Nat → Int} {lo : Option Addr} {lc : Nat} {cb : Nat → Nat} {X : Nat → Prop} {lb : Nat} {ao : Option Addr} {tc : Nat} {lr : Nat → Nat} {k : Nat}
theorem RS.other (h : RS w n B ts lo lc cb X lb ao tc wr lr k) {S : Nat → Prop} (hf : FrZ S wr w') (hS : ∀ j, OfZ lo X lb ao j → ¬ S j) (hw : ∀ j, S j → w.heap.size ≤ j) : RS w n B ts lo lc cb X lb ao tc w' lr k :=
  ⟨h.sl.frame hf (fun j hj => hS j (.inl hj)) (hS _ (.inr (.inl rfl))) (fun g hg => hS _ (.inr (.inr (.inl ⟨g, hg, rfl⟩)))), h.ow.kept (fun g hg => hf.block _ (h.ow.lt g hg).2 (hS _ (.inr (.inr (.inr ⟨g, hg, rfl⟩))))), h.bl.trans (hf.below h.bl.size hw), h.xn, h.nx⟩
theorem OwZ.mono {N N' TE : Nat} {w : World} {ao : Option Addr} {n c : Nat} {ys : List Value} (h : OwZ N TE w ao n c ys) (hN : N' ≤ N) : OwZ N' TE w ao n c ys := by
  obtain ⟨hl, h⟩ := h
  refine ⟨hl, ?_⟩
  rcases h with h | ⟨g, cap, cur, e, hb, r⟩
  · exact .inl h
  · exact .inr ⟨g, cap, cur, e, Nat.le_trans hN hb, r⟩
theorem RS.rebase {w0 : World} (h : RS w n B ts lo lc cb X lb ao tc wr lr k) (hb : RowKit.Below w0.heap.size w0 w) : RS w0 n B ts lo lc cb X lb ao tc wr lr k :=
  ⟨h.sl, h.ow.mono hb.size, hb.trans (h.bl.mono hb.size), fun j hj => Nat.le_trans hb.size (h.xn j hj), h.nx⟩
theorem RS.ofLt (h : RS w n B ts lo lc cb X lb ao tc wr lr k) (j : Nat) (hj : OfZ lo X lb ao j) : j < wr.heap.size := by
  rcases hj with hj | rfl | ⟨g, hg, rfl⟩ | ⟨g, hg, rfl⟩
  · exact h.sl.ci.lt hj
  · exact blk_ltZ h.sl.ln.ln
  · obtain ⟨C, hC⟩ := h.sl.ln.rt g hg
    exact blk_ltZ hC
  · exact (h.ow.lt g hg).2
end
theorem LinP.rs2 {w w' : World} {L : List Mk} {turn : Int} {e : Ending} (h : LinP w L turn e w') : ∃ lo lc cb X lb ao tc, e = .returned (.tuple #[.slice lo L.length lc, ptZ lb]) ∧ RS w L.length (blM L) (tsM L.length turn) lo lc cb X lb ao tc w' (lsM L) 0 ∧ ∀ j, OfZ lo X lb ao j → w.heap.size ≤ j := by
  obtain ⟨lo, lc, cb, X, lb, ao, tc, he, h1, h2, h3, h4⟩ := h
  refine ⟨lo, lc, cb, X, lb, ao, tc, he, ⟨h2, h1.ow, h1.bl, fun j hj => ?_, fun g hg hx => ?_⟩, fun j hj => ?_⟩
  · rcases hj with hj | rfl
    · exact h1.xn j hj
    · exact h3
  · rcases hx with hx | hx
    · exact h1.nx g hg hx
    · obtain ⟨C, hC⟩ := h1.ow.ty g hg
      rw [hx, h2.ln.ln] at hC
      cases hC
  · rcases hj with hj | rfl | ⟨g, hg, rfl⟩ | ⟨g, hg, rfl⟩
    · exact h1.xn j hj
    · exact h3
    · exact h4 g hg
    · exact (h1.ow.lt g hg).1
set_option maxHeartbeats 1000000 in
theorem sameIntsZ (w : World) (ao bo : Option Addr) (n ca cb : Nat) (L : List Int) (h1 : WAt w ao (i64s L)) (h2 : WAt w bo (i64s L)) (hn : n = L.length) (hm : n ≤ 140737488355328) :
    Calls Try.prog 11 #[.slice ao n ca, .slice bo n cb] w fun e w' => e = .returned (.bool true) ∧ ∃ q, w' = w.drewN q := by
  have H1 := hidW h1
  have H2 := hidW h2
  have HN := hidW hn
  clear h1 h2 hn
  go_enter Try.func11, Try.ntmps11
  go_wp2_with fail
  go_loopw [5] (fun x wr => ∃ k q : Nat, k ≤ n ∧ x = .int .i64 (k : Int) ∧ wr = w.drewN q) (fun x _ => n - (intOf x).toNat)
  case atStart => exact ⟨0, 0, Nat.zero_le _, rfl, rfl⟩
  case round =>
    obtain ⟨k, q, hk, rfl, rfl⟩ := hrel
    by_cases hlt : k < n
    · have hlt' : k < L.length := by have := HN.out; omega
      obtain ⟨b, off, rfl, e1⟩ := H1.out.int k hlt'
      obtain ⟨d, doff, rfl, e2⟩ := H2.out.int k hlt'
      generalize L[k] = y at *
      go_wp2_with fail
      go_quiet (fail)
      go_wp2_with fail
      go_roundw
      case rel => exact ⟨k + 1, q + nq, by omega, by go_num, rfl⟩
      case measure => simp [intOf]; omega
    · obtain rfl : k = n := by omega
      go_wp2
      go_ret
      exact ⟨rfl, q, rfl⟩
end Go.Proofs.Yteobmijfbjgccab
