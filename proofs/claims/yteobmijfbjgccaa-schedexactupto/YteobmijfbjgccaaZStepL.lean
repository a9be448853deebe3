/-
  A pair's lists.
-/
import Derived.Test.YteobmijfbjgccaaZStepH
namespace Go.Proofs.Yteobmijfbjgccaa
open Go.RowKit Go.Sort

/-- a pair whose rows of lists are of unlike lengths -/
structure PI (N : Nat) (w : World) (pb n : Nat) (cb : Nat → Nat) (B : Nat → List Int) (X : Nat → Prop) (lb : Nat) (ao : Option Addr) (nt tc : Nat) (ts : Nat → Int) (lo : Option Addr) (lc : Nat) (rb : Nat) (ra : Option Addr) (rk : Nat) (ba : Nat → Option Addr) (bc : Nat → Nat) (db : Nat) (no : Option Addr) (nc : Nat) (lio : Option Addr) (lic t1 : Nat) (wo : Option Addr) (wc t2 : Nat) (vs1 vs2 : List Value) (l1 : Nat → Nat) (k1 : Nat) (l2 : Nat → Nat) (k2 : Nat) : Prop where
  pq : PQ N w pb n cb B X lb ao nt tc ts lo lc rb ra rk ba bc (ptZ db) (.slice lio t1 lic) (.slice wo t2 wc) l1 k1 l2
  dl : DL w N rb ra rk n l2 B ba bc db no nt nc ts k2
  li : OwZ N 23 w lio t1 lic vs1
  wa : OwZ N 23 w wo t2 wc vs2
  ne : ∀ g g', lio = some g → wo = some g' → g.block ≠ g'.block
  dn : N ≤ db
section
variable {N : Nat} {w w' : World} {pb n : Nat} {cb : Nat → Nat} {B : Nat → List Int} {X : Nat → Prop} {lb : Nat} {ao : Option Addr} {nt tc : Nat} {ts : Nat → Int} {lo : Option Addr} {lc : Nat} {rb : Nat} {ra : Option Addr} {rk : Nat} {ba : Nat → Option Addr} {bc : Nat → Nat} {db : Nat} {no : Option Addr} {nc : Nat} {lio : Option Addr} {lic : Nat} {wo : Option Addr} {wc t1 t2 : Nat} {vs1 vs2 : List Value} {l1 : Nat → Nat} {k1 : Nat} {l2 : Nat → Nat} {k2 : Nat}
/-- what an append to a row of lists leaves: all but that row, and new memory -/
theorem PI.core (h : PI N w pb n cb B X lb ao nt tc ts lo lc rb ra rk ba bc db no nc lio lic t1 wo wc t2 vs1 vs2 l1 k1 l2 k2) {S : Nat → Prop} (hf : FrZ S w w') (hS : ∀ k, S k → ∃ C, w.heap[k]? = some (.cells C 23 (0, 0))) :
    PQ N w' pb n cb B X lb ao nt tc ts lo lc rb ra rk ba bc (ptZ db) (.slice lio t1 lic) (.slice wo t2 wc) l1 k1 l2 ∧ DL w' N rb ra rk n l2 B ba bc db no nt nc ts k2 ∧ TyF (fun T => T ≠ 23) w w' := by
  have hT : TyF (fun T => T ≠ 23) w w' := TyF.ofFr hf (fun k C T hk hT hs => by
    obtain ⟨C', hC⟩ := hS k hs
    rw [hk] at hC; cases hC
    exact hT rfl)
  refine ⟨h.pq.keptT (fun k C T hk hp => hT k C T hk (by rcases hp with rfl | rfl | rfl | rfl | rfl | rfl | rfl | rfl <;> decide)) (fun g hg => ?_), h.dl.keptT (fun k C T hk hp => hT k C T hk (by rcases hp with rfl | rfl | rfl | rfl <;> decide)), hT⟩
  obtain ⟨C, hC⟩ := h.pq.sl.ln.rt g hg
  exact hT _ _ _ hC (by decide)
theorem PI.app1 (h : PI N w pb n cb B X lb ao nt tc ts lo lc rb ra rk ba bc db no nc lio lic t1 wo wc t2 vs1 vs2 l1 k1 l2 k2) (hN : N ≤ w.heap.size) (ht : t1 ≤ 1000000) (ro : Option Addr) (m c : Nat) (ty : TypeId) :
    ∃ v' w1, (Builtin.append_ #[53, 53] ty #[.slice lio t1 lic, .slice (some ⟨w.heap.size, 0, none⟩) 1 1]).run Try.prog (w.alloc (.cells #[.slice ro m c] 23)) = .ok v' w1 ∧ ∃ lio' lic', v' = .slice lio' (t1 + 1) lic' ∧ Hid (w1.cell? ⟨pb, 4, none⟩ = some (.slice lio t1 lic) ∧ w1.frozen? ⟨pb, 4, none⟩ = false ∧ PI N (w1.setCell ⟨pb, 4, none⟩ (.slice lio' (t1 + 1) lic')) pb n cb B X lb ao nt tc ts lo lc rb ra rk ba bc db no nc lio' lic' (t1 + 1) wo wc t2 (vs1 ++ [.slice ro m c]) vs2 l1 k1 l2 k2 ∧ RowKit.Below N w (w1.setCell ⟨pb, 4, none⟩ (.slice lio' (t1 + 1) lic')) ∧ TyF (fun T => T ≠ 23 ∧ T ≠ 55) w (w1.setCell ⟨pb, 4, none⟩ (.slice lio' (t1 + 1) lic'))) := by
  obtain ⟨v', w1, hr, lio', lic', rfl, ho, hf, hp⟩ := appZ (TS := 53) (TE := 23) Try.underlying53 infoZS rfl h.li hN (.slice ro m c) rfl (by unfold maxLen; omega) (by omega) ty
  obtain ⟨hq, hd, hT⟩ := h.core hf (fun k hk => by obtain ⟨g, hg, rfl⟩ := hk; exact h.li.ty g hg)
  have hp2 := hq.put 4 (.slice lio' (t1 + 1) lic') (ptZ db) (.slice lio' (t1 + 1) lic') (.slice wo t2 wc) rfl
  have hf2 : FrZ (fun j => j = pb) w1 (w1.setCell ⟨pb, 4, none⟩ (.slice lio' (t1 + 1) lic')) := (FrZ.refl (fun j => j = pb) w1).set ⟨pb, 4, none⟩ (.slice lio' (t1 + 1) lic') (.inr rfl)
  have hne : ∀ (k : Nat) (C : Array Value) (T : TypeId), w1.heap[k]? = some (Obj.cells C T (0, 0)) → T ≠ 55 → (w1.setCell ⟨pb, 4, none⟩ (.slice lio' (t1 + 1) lic')).heap[k]? = w1.heap[k]? := fun k C T hk hT => hf2.block k (blk_ltZ hk) (fun e => by rw [e, hq.pc] at hk; cases hk; exact hT rfl)
  have hb1 : RowKit.Below N w w1 := hf.below hN (fun k hk => by obtain ⟨g, hg, rfl⟩ := hk; exact (h.li.lt g hg).1)
  have hwa1 : OwZ N 23 w1 wo t2 wc vs2 := h.wa.kept (fun g hg => hf.block _ (h.wa.lt g hg).2 (fun hS => by obtain ⟨g', hg', e⟩ := hS; exact h.ne g' g hg' hg e))
  refine ⟨_, w1, hr, lio', lic', rfl, hq.cell.2.2.2.2.1, hq.cell.2.2.2.2.2.2 4, ⟨hp2, hd.keptT (fun k C T hk hT => hne k C T hk (by rcases hT with rfl | rfl | rfl | rfl <;> decide)), ho.kept (fun g hg => ?_), hwa1.kept (fun g hg => ?_), fun g g' hg hg' e => ?_, h.dn⟩, hb1.trans (hf2.below (Nat.le_trans hN hb1.size) (fun k e => by rw [e]; exact h.pq.pn)), fun k C T hk hT2 => ?_⟩
  · obtain ⟨C, hC⟩ := ho.ty g hg
    exact hne _ _ _ hC (by decide)
  · obtain ⟨C, hC⟩ := hwa1.ty g hg
    exact hne _ _ _ hC (by decide)
  · rcases hp g hg with h1 | h1
    · have := (h.wa.lt g' hg').2; omega
    · exact h.ne g g' (h1 ▸ hg) hg' e
  · have e1 := hT k C T hk hT2.1
    rw [hne k C T (e1.trans hk) hT2.2, e1]
theorem PI.app2 (h : PI N w pb n cb B X lb ao nt tc ts lo lc rb ra rk ba bc db no nc lio lic t1 wo wc t2 vs1 vs2 l1 k1 l2 k2) (hN : N ≤ w.heap.size) (ht : t2 ≤ 1000000) (ro : Option Addr) (m c : Nat) (ty : TypeId) :
    ∃ v' w1, (Builtin.append_ #[53, 53] ty #[.slice wo t2 wc, .slice (some ⟨w.heap.size, 0, none⟩) 1 1]).run Try.prog (w.alloc (.cells #[.slice ro m c] 23)) = .ok v' w1 ∧ ∃ wo' wc', v' = .slice wo' (t2 + 1) wc' ∧ Hid (w1.cell? ⟨pb, 5, none⟩ = some (.slice wo t2 wc) ∧ w1.frozen? ⟨pb, 5, none⟩ = false ∧ PI N (w1.setCell ⟨pb, 5, none⟩ (.slice wo' (t2 + 1) wc')) pb n cb B X lb ao nt tc ts lo lc rb ra rk ba bc db no nc lio lic t1 wo' wc' (t2 + 1) vs1 (vs2 ++ [.slice ro m c]) l1 k1 l2 k2 ∧ RowKit.Below N w (w1.setCell ⟨pb, 5, none⟩ (.slice wo' (t2 + 1) wc')) ∧ TyF (fun T => T ≠ 23 ∧ T ≠ 55) w (w1.setCell ⟨pb, 5, none⟩ (.slice wo' (t2 + 1) wc'))) := by
  obtain ⟨v', w1, hr, wo', wc', rfl, ho, hf, hp⟩ := appZ (TS := 53) (TE := 23) Try.underlying53 infoZS rfl h.wa hN (.slice ro m c) rfl (by unfold maxLen; omega) (by omega) ty
  obtain ⟨hq, hd, hT⟩ := h.core hf (fun k hk => by obtain ⟨g, hg, rfl⟩ := hk; exact h.wa.ty g hg)
  have hp2 := hq.put 5 (.slice wo' (t2 + 1) wc') (ptZ db) (.slice lio t1 lic) (.slice wo' (t2 + 1) wc') rfl
  have hf2 : FrZ (fun j => j = pb) w1 (w1.setCell ⟨pb, 5, none⟩ (.slice wo' (t2 + 1) wc')) := (FrZ.refl (fun j => j = pb) w1).set ⟨pb, 5, none⟩ (.slice wo' (t2 + 1) wc') (.inr rfl)
  have hne : ∀ (k : Nat) (C : Array Value) (T : TypeId), w1.heap[k]? = some (Obj.cells C T (0, 0)) → T ≠ 55 → (w1.setCell ⟨pb, 5, none⟩ (.slice wo' (t2 + 1) wc')).heap[k]? = w1.heap[k]? := fun k C T hk hT => hf2.block k (blk_ltZ hk) (fun e => by rw [e, hq.pc] at hk; cases hk; exact hT rfl)
  have hb1 : RowKit.Below N w w1 := hf.below hN (fun k hk => by obtain ⟨g, hg, rfl⟩ := hk; exact (h.wa.lt g hg).1)
  have hli1 : OwZ N 23 w1 lio t1 lic vs1 := h.li.kept (fun g hg => hf.block _ (h.li.lt g hg).2 (fun hS => by obtain ⟨g', hg', e⟩ := hS; exact h.ne g g' hg hg' e.symm))
  refine ⟨_, w1, hr, wo', wc', rfl, hq.cell.2.2.2.2.2.1, hq.cell.2.2.2.2.2.2 5, ⟨hp2, hd.keptT (fun k C T hk hT => hne k C T hk (by rcases hT with rfl | rfl | rfl | rfl <;> decide)), hli1.kept (fun g hg => ?_), ho.kept (fun g hg => ?_), fun g g' hg hg' e => ?_, h.dn⟩, hb1.trans (hf2.below (Nat.le_trans hN hb1.size) (fun k e => by rw [e]; exact h.pq.pn)), fun k C T hk hT2 => ?_⟩
  · obtain ⟨C, hC⟩ := hli1.ty g hg
    exact hne _ _ _ hC (by decide)
  · obtain ⟨C, hC⟩ := ho.ty g hg
    exact hne _ _ _ hC (by decide)
  · rcases hp g' hg' with h1 | h1
    · have := (h.li.lt g hg).2; omega
    · exact h.ne g g' hg (h1 ▸ hg') e
  · have e1 := hT k C T hk hT2.1
    rw [hne k C T (e1.trans hk) hT2.2, e1]
end
set_option maxHeartbeats 1000000 in
theorem sameIntsZ2 (w : World) (ao bo : Option Addr) (n ca cb : Nat) (L : List Int) (h1 : WAt w ao (i64s L)) (h2 : WAt w bo (i64s L)) (hn : n = L.length) (hm : n ≤ 140737488355328) :
    Calls Try.prog 29 #[.slice ao n ca, .slice bo n cb] w fun e w' => e = .returned (.bool true) ∧ ∃ q, w' = w.drewN q := by
  have H1 := hidW h1
  have H2 := hidW h2
  have HN := hidW hn
  clear h1 h2 hn
  go_enter Try.func29, Try.ntmps29
  go_wp2_with fail
  go_loopw [5] (fun x wr => ∃ k q : Nat, k ≤ n ∧ x = .int .i64 (k : Int) ∧ wr = w.drewN q) (fun x _ => n - (intOf x).toNat)
  case atStart => exact ⟨0, 0, Nat.zero_le _, rfl, rfl⟩
  case round =>
    obtain ⟨k, q, hk, rfl, rfl⟩ := hrel
    by_cases hlt : k < n
    · have hlt' : k < L.length := by have := HN.out; omega
      obtain ⟨b, off, rfl, e1⟩ := H1.out.int k hlt'
      obtain ⟨d, doff, rfl, e2⟩ := H2.out.int k hlt'
      generalize L[k] = y at *
      go_wp2_with fail
      go_quiet (fail)
      go_wp2_with fail
      go_roundw
      case rel => exact ⟨k + 1, q + nq, by omega, by go_num, rfl⟩
      case measure => simp [intOf]; omega
    · obtain rfl : k = n := by omega
      go_wp2
      go_ret
      exact ⟨rfl, q, rfl⟩
end Go.Proofs.Yteobmijfbjgccaa
