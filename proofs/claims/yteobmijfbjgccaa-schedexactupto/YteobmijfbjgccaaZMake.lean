/-
  THE DOCUMENT's Make.
-/
import Derived.Test.YteobmijfbjgccaaZRef
namespace Go.Proofs.Yteobmijfbjgccaa
open Go.RowKit Go.Sort

theorem infoRC : (Try.prog.info? 68).map (fun i => (i.zero, i.size, i.bytes)) = some (some (.agg #[.int .i64 0, .slice none 0 0]), 2, 32) := by kernel_rfl
section
variable {w w' : World} {N rb : Nat} {ra : Option Addr} {rk n : Nat} {ls : Nat → Nat} {B : Nat → List Int} {ba : Nat → Option Addr} {bc : Nat → Nat}
/-- what Make leaves -/
def MkP (w : World) (N rb : Nat) (ra : Option Addr) (n : Nat) (ls : Nat → Nat) (B : Nat → List Int) (ba : Nat → Option Addr) (bc : Nat → Nat) (s : Int) (zs : List Int) (bo : Option Addr) (bk : Nat) (e : Ending) (w' : World) : Prop :=
  ∃ ra' rk', e = .returned (.int .i64 (n : Int)) ∧ RD w' N rb ra' rk' (n + 1) (updZ ls n (limZ s)) (updZ B n zs) (updZ ba n bo) (updZ bc n bk) ∧ FrZ (fun j => j = rb ∨ ∃ g, ra = some g ∧ g.block = j) w w'
set_option maxHeartbeats 2000000 in
theorem rmake_any (h : RD w N rb ra rk n ls B ba bc) (hN : N ≤ w.heap.size) (s : Int) (zs : List Int) (bo : Option Addr) (bk : Nat) (hz : WAt w bo (i64s zs)) (hzt : ∀ g, bo = some g → ∃ C, w.heap[g.block]? = some (.cells C 3 (0, 0))) (hzn : ∀ z ∈ zs, z < (n : Int)) (hzl : zs.length ≤ 1000000) (hn : n ≤ 1000000) :
    Calls Try.prog 26 #[ptZ rb, .int .i64 s, .slice bo zs.length bk] w fun e w' => MkP w N rb ra n ls B ba bc s zs bo bk e w' := by
  have hl := limZ_int s
  have hle := limZ_le s
  have HA : Hid (∀ ty, ∃ v' w1, (Builtin.append_ #[49, 49] ty #[.slice ra n rk, .slice (some ⟨w.heap.size, 0, none⟩) 1 1]).run Try.prog (w.alloc (.cells #[.int .i64 (limZ s : Int), .slice bo zs.length bk] 68)) = .ok v' w1 ∧ ∃ ra' rk', v' = .slice ra' (n + 1) rk' ∧ Hid (w1.cell? ⟨rb, 0, none⟩ = some (.slice ra n rk) ∧ w1.frozen? ⟨rb, 0, none⟩ = false ∧ (w1.setCell ⟨rb, 0, none⟩ (.slice ra' (n + 1) rk')).cell? ⟨rb, 0, none⟩ = some (.slice ra' (n + 1) rk') ∧ MkP w N rb ra n ls B ba bc s zs bo bk (.returned (.int .i64 (n : Int))) (w1.setCell ⟨rb, 0, none⟩ (.slice ra' (n + 1) rk')))) := fun ty => by
    have hb0 : RowKit.Below w.heap.size w (w.alloc (.cells #[.int .i64 (limZ s : Int), .slice bo zs.length bk] 68)) := (Below.refl _ _).alloc (Nat.le_refl _) _
    have hsrc : WAt (w.alloc (.cells #[.int .i64 (limZ s : Int), .slice bo zs.length bk] 68)) (some ⟨w.heap.size, 0, none⟩) [.int .i64 (limZ s : Int), .slice bo zs.length bk] := fun j u hu => by
      refine ⟨w.heap.size, 0, rfl, ?_⟩
      rw [World.cell?, heap_alloc_new _ _ rfl, Nat.zero_add]
      simpa using hu
    obtain ⟨v', w1, hr, h2, h3, h4, _⟩ := app_at (TS := 49) (TE := 68) Try.underlying49 infoRC rfl (by omega) (w := w.alloc (.cells #[.int .i64 (limZ s : Int), .slice bo zs.length bk] 68)) ty N (.slice ra n rk) n (rcsZ n ls B ba bc) (World.ownsRow.alloc h.row _) (some ⟨w.heap.size, 0, none⟩) 1 1 _ rfl hsrc (by simp) (by intro u hu; simp at hu; rcases hu with rfl | rfl <;> rfl) (by unfold maxLen; omega) (by omega) (Nat.le_trans hN hb0.size)
    obtain ⟨ra', rk', e⟩ : ∃ ra' rk', v' = .slice ra' (n + 1) rk' := by
      obtain ⟨_, ⟨e, e2⟩ | ⟨g, cap, cur, e, _⟩⟩ := h2
      · omega
      · exact ⟨_, _, e⟩
    subst e
    have hF1 : FrZ (fun j => ∃ g, ra = some g ∧ g.block = j) w w1 := ⟨h3.os, h3.tape, h3.output, Nat.le_trans hb0.size h3.size, fun k hk hS => by
      rw [h3.block k (Nat.lt_of_lt_of_le hk hb0.size) (fun e => ?_)]
      · exact hb0.block k hk
      · cases ra with
        | none => simp [Value.ownBlock] at e
        | some a0 => simp [Value.ownBlock] at e; exact hS ⟨a0, rfl, e.symm⟩⟩
    have hrb : w1.heap[rb]? = some (.cells #[.slice ra n rk] 51 (0, 0)) := (hF1.block rb (blk_ltZ h.hd) (fun hS => by
      obtain ⟨g, hg, e⟩ := hS
      obtain ⟨C, hC, _⟩ := h.rt g hg
      rw [e, h.hd] at hC; cases hC)).trans h.hd
    have e3 := heap_setCell_same w1 rb 0 _ _ (.slice ra' (n + 1) rk') hrb
    have e3' : (w1.setCell ⟨rb, 0, none⟩ (.slice ra' (n + 1) rk')).heap[rb]? = some (.cells #[.slice ra' (n + 1) rk'] 51 (0, 0)) := by rw [e3]; rfl
    have hoth : ∀ j, j ≠ rb → (w1.setCell ⟨rb, 0, none⟩ (.slice ra' (n + 1) rk')).heap[j]? = w1.heap[j]? := fun j hj => setW_block w1 ⟨rb, 0, none⟩ _ j hj
    refine ⟨_, w1, hr, ra', rk', rfl, by simp [World.cell?, hrb], frozen_of_row w1 _ _ _ _ hrb, by simp [World.cell?, e3'], ra', rk', rfl, ⟨e3', ?_, fun i hi => ?_, fun i hi z hz => ?_, fun i hi => ?_, h.nb⟩, ?_⟩
    · have hcg : rcsZ n ls B ba bc ++ [.int .i64 (limZ s : Int), .slice bo zs.length bk] = rcsZ (n + 1) (updZ ls n (limZ s)) (updZ B n zs) (updZ ba n bo) (updZ bc n bk) := by
        rw [rcsZ_succ]
        congr 1
        · exact rcsZ_congr (fun i hi => by simp only [rcZ]; rw [updZ_lt hi, updZ_lt hi, updZ_lt hi, updZ_lt hi])
        · simp only [rcZ, updZ_same]
      rw [hcg] at h2
      obtain ⟨hl, h5⟩ := h2
      refine ⟨hl, ?_⟩
      rcases h5 with ⟨h5, _⟩ | ⟨g', cap, cur, e, hb, hh, r⟩
      · cases h5
      · refine .inr ⟨g', cap, cur, e, hb, (hoth g' (fun e' => ?_)).trans hh, r⟩
        rw [e', hrb] at hh; cases hh
    · have hne : ∀ (o : Option Addr), (∀ g, o = some g → ∃ C, w.heap[g.block]? = some (.cells C 3 (0, 0))) → ∀ g, o = some g → (w1.setCell ⟨rb, 0, none⟩ (.slice ra' (n + 1) rk')).heap[g.block]? = w.heap[g.block]? := fun o ho g hg => by
        obtain ⟨C, hC⟩ := ho g hg
        rw [hoth _ (fun e => by rw [e, h.hd] at hC; cases hC)]
        refine hF1.block _ (blk_ltZ hC) (fun hS => ?_)
        obtain ⟨g', hg', e⟩ := hS
        obtain ⟨C', hC', _⟩ := h.rt g' hg'
        rw [e, hC] at hC'; cases hC'
      by_cases e : i = n
      · subst e
        rw [updZ_same, updZ_same]
        refine ⟨hz.sameZ (hne bo hzt), fun g hg => ?_, hzl⟩
        obtain ⟨C, hC⟩ := hzt g hg
        exact ⟨C, (hne bo hzt g hg).trans hC⟩
      · rw [updZ_ne e, updZ_ne e]
        obtain ⟨h5, h6, h7⟩ := h.sub i (by omega)
        refine ⟨h5.sameZ (hne _ h6), fun g hg => ?_, h7⟩
        obtain ⟨C, hC⟩ := h6 g hg
        exact ⟨C, (hne _ h6 g hg).trans hC⟩
    · by_cases e : i = n
      · subst e; rw [updZ_same] at hz; exact hzn z hz
      · rw [updZ_ne e] at hz; exact h.bi i (by omega) z hz
    · by_cases e : i = n
      · subst e; rw [updZ_same]; exact hle
      · rw [updZ_ne e]; exact h.le i (by omega)
    · exact (hF1.mono (fun j _ e => .inr e)).set ⟨rb, 0, none⟩ _ (.inr (.inl rfl))
  have c0 : w.cell? ⟨rb, 0, none⟩ = some (.slice ra n rk) := by simp [World.cell?, h.hd]
  have c1 : ∀ o, (w.alloc o).cell? ⟨rb, 0, none⟩ = some (.slice ra n rk) := fun o => Lib.cell?_alloc_some _ c0
  generalize limZ s = l at *
  generalize zs.length = zl at *
  clear h hz hzt hzn
  have hcs : s < 0 ∨ (¬ s < 0 ∧ 65536 < s) ∨ (¬ s < 0 ∧ ¬ 65536 < s) := by omega
  rcases hcs with h1 | ⟨h1, h2⟩ | ⟨h1, h2⟩
  · have hl0 : (l : Int) = 0 := by omega
    rw [hl0] at HA
    clear hl hl0
    go_enter Try.func26, Try.ntmps26
    go_wp2_with (at_builtin; refine wpL_appZ rfl _ _ 49 rfl (.slice ra n rk) (.slice (some ⟨w.heap.size, 0, none⟩) 1 1) rfl rfl HA.out ?_; rintro v1 w1 ⟨ra', rk', rfl, HQ⟩; have d0 := HQ.out.1; have d1 := HQ.out.2.1; have d2 := HQ.out.2.2.1)
    go_ret
    exact HQ.out.2.2.2
  · have hl0 : (l : Int) = 65536 := by omega
    rw [hl0] at HA
    clear hl hl0
    go_enter Try.func26, Try.ntmps26
    go_wp2_with (at_builtin; refine wpL_appZ rfl _ _ 49 rfl (.slice ra n rk) (.slice (some ⟨w.heap.size, 0, none⟩) 1 1) rfl rfl HA.out ?_; rintro v1 w1 ⟨ra', rk', rfl, HQ⟩; have d0 := HQ.out.1; have d1 := HQ.out.2.1; have d2 := HQ.out.2.2.1)
    go_ret
    exact HQ.out.2.2.2
  · have hl0 : (l : Int) = s := by omega
    rw [hl0] at HA
    clear hl hl0
    go_enter Try.func26, Try.ntmps26
    go_wp2_with (at_builtin; refine wpL_appZ rfl _ _ 49 rfl (.slice ra n rk) (.slice (some ⟨w.heap.size, 0, none⟩) 1 1) rfl rfl HA.out ?_; rintro v1 w1 ⟨ra', rk', rfl, HQ⟩; have d0 := HQ.out.1; have d1 := HQ.out.2.1; have d2 := HQ.out.2.2.1)
    go_ret
    exact HQ.out.2.2.2
end
end Go.Proofs.Yteobmijfbjgccaa
