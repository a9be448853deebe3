/-
  THE DOCUMENT's CHORES AND LINE.
-/
import Derived.Test.YteobmijfbjgccaaZArgs
namespace Go.Proofs.Yteobmijfbjgccaa
open Go.RowKit Go.Sort

/-- the cells of the document's chores -/
def rcZ (ls : Nat → Nat) (B : Nat → List Int) (ba : Nat → Option Addr) (bc : Nat → Nat) (i : Nat) : List Value := [.int .i64 (ls i : Int), .slice (ba i) (B i).length (bc i)]
def rcsZ (n : Nat) (ls : Nat → Nat) (B : Nat → List Int) (ba : Nat → Option Addr) (bc : Nat → Nat) : List Value := (List.range n).flatMap (rcZ ls B ba bc)
theorem rcsZ_len (n : Nat) (ls : Nat → Nat) (B : Nat → List Int) (ba : Nat → Option Addr) (bc : Nat → Nat) : (rcsZ n ls B ba bc).length = n * 2 := by
  induction n with
  | zero => rfl
  | succ n ih => simp only [rcsZ, List.range_succ, List.flatMap_append, List.length_append] at *; rw [ih]; simp [rcZ]; omega
theorem rcsZ_succ (n : Nat) (ls : Nat → Nat) (B : Nat → List Int) (ba : Nat → Option Addr) (bc : Nat → Nat) : rcsZ (n + 1) ls B ba bc = rcsZ n ls B ba bc ++ rcZ ls B ba bc n := by simp [rcsZ, List.range_succ]
theorem rcsZ_at (n : Nat) (ls : Nat → Nat) (B : Nat → List Int) (ba : Nat → Option Addr) (bc : Nat → Nat) (i m : Nat) (hi : i < n) (hm : m < 2) : (rcsZ n ls B ba bc)[i * 2 + m]? = (rcZ ls B ba bc i)[m]? := by
  induction n with
  | zero => omega
  | succ n ih =>
    rw [rcsZ_succ]
    by_cases e : i = n
    · subst e
      rw [List.getElem?_append_right (by rw [rcsZ_len]; omega), rcsZ_len]
      congr 1
      omega
    · rw [List.getElem?_append_left (by rw [rcsZ_len]; omega)]
      exact ih (by omega)
theorem rcsZ_congr {n : Nat} {ls ls' : Nat → Nat} {B B' : Nat → List Int} {ba ba' : Nat → Option Addr} {bc bc' : Nat → Nat} (h : ∀ i, i < n → rcZ ls B ba bc i = rcZ ls' B' ba' bc' i) : rcsZ n ls B ba bc = rcsZ n ls' B' ba' bc' := by
  induction n with
  | zero => rfl
  | succ n ih => rw [rcsZ_succ, rcsZ_succ, ih (fun i hi => h i (by omega)), h n (by omega)]
theorem rcsZ_set {n : Nat} {ls : Nat → Nat} {B : Nat → List Int} {ba : Nat → Option Addr} {bc : Nat → Nat} {i : Nat} (hi : i < n) (x : Nat) : (rcsZ n ls B ba bc).set (i * 2) (.int .i64 (x : Int)) = rcsZ n (updZ ls i x) B ba bc := by
  induction n with
  | zero => omega
  | succ n ih =>
    rw [rcsZ_succ, rcsZ_succ]
    by_cases e : i = n
    · subst e
      rw [List.set_append_right _ _ (by rw [rcsZ_len]; omega), rcsZ_len, Nat.sub_self, rcsZ_congr (ls' := updZ ls i x) (B' := B) (ba' := ba) (bc' := bc) (fun k hk => by simp only [rcZ]; rw [updZ_lt hk])]
      simp [rcZ, updZ_same]
    · rw [List.set_append_left _ _ (by rw [rcsZ_len]; omega), ih (by omega)]
      congr 1
      simp only [rcZ]
      rw [updZ_ne (by omega)]
/-- THE DOCUMENT's CHORES: in block rb, the row at ra -/
structure RD (w : World) (N rb : Nat) (ra : Option Addr) (rk n : Nat) (ls : Nat → Nat) (B : Nat → List Int) (ba : Nat → Option Addr) (bc : Nat → Nat) : Prop where
  hd : w.heap[rb]? = some (.cells #[.slice ra n rk] 51 (0, 0))
  row : w.ownsRow N 68 2 (.slice ra n rk) n (rcsZ n ls B ba bc)
  sub : ∀ i, i < n → WAt w (ba i) (i64s (B i)) ∧ (∀ g, ba i = some g → ∃ C, w.heap[g.block]? = some (.cells C 3 (0, 0))) ∧ (B i).length ≤ 1000000
  bi : ∀ i, i < n → ∀ z ∈ B i, z < (i : Int)
  le : ∀ i, i < n → ls i ≤ 65536
  nb : N ≤ rb
/-- blocks of these kinds stay -/
def TyF (P : TypeId → Prop) (w w' : World) : Prop := ∀ (k : Nat) (C : Array Value) (T : TypeId), w.heap[k]? = some (Obj.cells C T (0, 0)) → P T → w'.heap[k]? = w.heap[k]?
def docT (T : TypeId) : Prop := T = 51 ∨ T = 68 ∨ T = 3 ∨ T = 63
section
variable {w w' : World} {N rb : Nat} {ra : Option Addr} {rk n : Nat} {ls : Nat → Nat} {B : Nat → List Int} {ba : Nat → Option Addr} {bc : Nat → Nat}
theorem RD.rt (h : RD w N rb ra rk n ls B ba bc) (g : Addr) (hg : ra = some g) : ∃ C, w.heap[g.block]? = some (.cells C 68 (0, 0)) ∧ N ≤ g.block := by
  obtain ⟨hl, h1⟩ := h.row
  rcases h1 with ⟨h1, _⟩ | ⟨g', cap, cur, e, hb, hh, r⟩
  · cases h1; cases hg
  · cases e; cases hg; exact ⟨_, hh, hb⟩
theorem RD.keptT (h : RD w N rb ra rk n ls B ba bc) (hf : TyF docT w w') : RD w' N rb ra rk n ls B ba bc := by
  refine ⟨(hf _ _ _ h.hd (.inl rfl)).trans h.hd, ?_, fun i hi => ?_, h.bi, h.le, h.nb⟩
  · obtain ⟨hl, h1⟩ := h.row
    refine ⟨hl, ?_⟩
    rcases h1 with h1 | ⟨g', cap, cur, e, hb, hh, r⟩
    · exact .inl h1
    · exact .inr ⟨g', cap, cur, e, hb, (hf _ _ _ hh (.inr (.inl rfl))).trans hh, r⟩
  · obtain ⟨h1, h2, h3⟩ := h.sub i hi
    refine ⟨h1.sameZ (fun g hg => ?_), fun g hg => ?_, h3⟩
    · obtain ⟨C, hC⟩ := h2 g hg
      exact hf _ _ _ hC (.inr (.inr (.inl rfl)))
    · obtain ⟨C, hC⟩ := h2 g hg
      exact ⟨C, (hf _ _ _ hC (.inr (.inr (.inl rfl)))).trans hC⟩
theorem RD.cells (h : RD w N rb ra rk n ls B ba bc) {i : Nat} (hi : i < n) : ∃ g, ra = some ⟨g, 0, none⟩ ∧ w.cell? ⟨g, i * 2, none⟩ = some (.int .i64 (ls i : Int)) ∧ w.cell? ⟨g, i * 2 + 1, none⟩ = some (.slice (ba i) (B i).length (bc i)) ∧ w.frozen? ⟨g, i * 2, none⟩ = false := by
  have h0 := h.row
  obtain ⟨hl, h1⟩ := h.row
  rcases h1 with ⟨_, h1⟩ | ⟨g', cap, cur, e, hb, hh, r⟩
  · omega
  · cases e
    refine ⟨g', rfl, ?_, ?_, frozen_of_row w _ _ _ _ hh⟩
    · rw [World.ownsRow.cellAt h0 (i * 2) (by omega)]
      have := rcsZ_at n ls B ba bc i 0 hi (by omega)
      rw [Nat.add_zero] at this
      rw [this]; rfl
    · rw [World.ownsRow.cellAt h0 (i * 2 + 1) (by omega)]
      rw [rcsZ_at n ls B ba bc i 1 hi (by omega)]; rfl
theorem TyF.ofFr {S : Nat → Prop} {P : TypeId → Prop} (hf : FrZ S w w') (hS : ∀ (k : Nat) (C : Array Value) (T : TypeId), w.heap[k]? = some (Obj.cells C T (0, 0)) → P T → ¬ S k) : TyF P w w' := fun k C T hk hP => hf.block k (blk_ltZ hk) (hS k C T hk hP)
theorem TyF.ofBelow {P : TypeId → Prop} (hf : RowKit.Below w.heap.size w w') : TyF P w w' := fun k _ _ hk _ => hf.block k (blk_ltZ hk)
/-- a step -/
theorem RD.step (h : RD w N rb ra rk n ls B ba bc) {i : Nat} (hi : i < n) (x : Int) (hx : x = (ls i : Int) - 1) (h1 : 1 ≤ ls i) (g : Nat) (hg : ra = some ⟨g, 0, none⟩) : RD (w.setCell ⟨g, i * 2, none⟩ (.int .i64 x)) N rb ra rk n (decZ ls i) B ba bc ∧ FrZ (fun j => ∃ g, ra = some g ∧ g.block = j) w (w.setCell ⟨g, i * 2, none⟩ (.int .i64 x)) := by
  have hF : FrZ (fun j => ∃ g, ra = some g ∧ g.block = j) w (w.setCell ⟨g, i * 2, none⟩ (.int .i64 x)) := (FrZ.refl (fun j => ∃ g, ra = some g ∧ g.block = j) w).set ⟨g, i * 2, none⟩ (.int .i64 x) (.inr ⟨_, hg, rfl⟩)
  refine ⟨?_, hF⟩
  have hoth : ∀ k, k ≠ g → (w.setCell ⟨g, i * 2, none⟩ (.int .i64 x)).heap[k]? = w.heap[k]? := fun k hk => setW_block w ⟨g, i * 2, none⟩ _ k hk
  obtain ⟨C0, hC0, _⟩ := h.rt _ hg
  have hx' : x = ((ls i - 1 : Nat) : Int) := by omega
  refine ⟨?_, ?_, fun j hj => ?_, h.bi, fun j hj => ?_, h.nb⟩
  · rw [hoth rb (fun e => by have h2 := h.hd; rw [e] at h2; rw [h2] at hC0; cases hC0)]
    exact h.hd
  · obtain ⟨hl, h2⟩ := h.row
    rcases h2 with ⟨_, h2⟩ | ⟨g', cap, cur, e, hb, hh, hn, hc, hs, ht⟩
    · omega
    · cases e
      cases hg
      refine ⟨by rw [rcsZ_len], .inr ⟨g, rk, cur.setIfInBounds (i * 2) (.int .i64 x), rfl, hb, heap_setCell_same w g (i * 2) _ _ _ hh, hn, hc, by simpa using hs, ?_⟩⟩
      rw [Array.toList_setIfInBounds, List.take_set, ht, hx', rcsZ_set hi]
      rfl
  · obtain ⟨h2, h3, h4⟩ := h.sub j hj
    have hne : ∀ g', ba j = some g' → g'.block ≠ g := fun g' hg' e => by
      obtain ⟨C, hC⟩ := h3 g' hg'
      rw [e, hC0] at hC
      cases hC
    refine ⟨h2.sameZ (fun g' hg' => hoth _ (hne g' hg')), fun g' hg' => ?_, h4⟩
    obtain ⟨C, hC⟩ := h3 g' hg'
    exact ⟨C, (hoth _ (hne g' hg')).trans hC⟩
  · unfold decZ updZ
    split
    · have := h.le i hi; omega
    · exact h.le j hj
set_option maxHeartbeats 2000000 in
theorem rready_any (h : RD w N rb ra rk n ls B ba bc) (z : Int) (hz : z < (n : Int)) : Calls Try.prog 35 #[ptZ rb, .int .i64 z] w fun e w' => e = .returned (.bool (rtZ ls B z)) ∧ w' = w := by
  by_cases h0 : z < 0
  · rw [show rtZ ls B z = false by simp [rtZ]; omega]
    clear h hz
    go_enter Try.func35, Try.ntmps35
    go_wp2
    go_ret
    exact ⟨rfl, rfl⟩
  · obtain ⟨i, rfl⟩ : ∃ i : Nat, z = (i : Int) := ⟨z.toNat, by omega⟩
    have hi : i < n := by omega
    rw [show rtZ ls B (i : Int) = rdZ ls B i by simp [rtZ]]
    obtain ⟨g, hra, c1, c2, _⟩ := h.cells hi
    have c0 : w.cell? ⟨rb, 0, none⟩ = some (.slice ra n rk) := by simp [World.cell?, h.hd]
    obtain ⟨hs1, _, hs3⟩ := h.sub i hi
    rw [hra] at c0
    by_cases hl0 : ls i = 0
    · have HR : Hid (rdZ ls B i = false) := by show _ = _; simp [rdZ, hl0]
      rw [hl0, show ((0 : Nat) : Int) = 0 from rfl] at c1
      clear h hs1 hl0
      have hiI : (i : Int) < (n : Int) := by omega
      go_enter Try.func35, Try.ntmps35
      go_wp2
      go_ret
      exact ⟨by rw [HR.out]; rfl, rfl⟩
    · have HR : Hid (rdZ ls B i = (B i).all (edZ ls)) := by show _ = _; simp [rdZ, hl0]
      have hl1 : ((ls i : Int) == 0) = false := by rw [beq_eq_false_iff_ne]; omega
      have hl2 : ¬ (ls i : Int) = 0 := by omega
      have HW := hidW hs1
      have HC : Hid (∀ j, j < n → w.cell? ⟨g, j * 2, none⟩ = some (.int .i64 (ls j : Int))) := fun j hj => by
        obtain ⟨g', h1, h2, _⟩ := h.cells hj
        rw [hra] at h1
        cases h1
        exact h2
      have HB : Hid (∀ z ∈ B i, z < (i : Int)) := h.bi i hi
      have hls := h.le i hi
      obtain ⟨bs, hbs⟩ : ∃ bs, bs = B i := ⟨_, rfl⟩
      rw [← hbs] at HR HW HB c2 hs3
      obtain ⟨m, hm⟩ : ∃ m, m = bs.length := ⟨_, rfl⟩
      rw [← hm] at c2 hs3
      have HM := hidW hm
      generalize ba i = bo at *
      generalize bc i = bk at *
      have hiI : (i : Int) < (n : Int) := by omega
      obtain ⟨l, hl⟩ : ∃ l, l = ls i := ⟨_, rfl⟩
      rw [← hl] at c1 hl1 hl2
      clear h hs1 hl0 hbs hm hl
      go_enter Try.func35, Try.ntmps35
      go_wp2_with fail
      go_loopw [5, 6] (fun x _ wr => ∃ k : Nat, k ≤ m ∧ x = .int .i64 (k : Int) ∧ Hid ((bs.take k).all (edZ ls) = true) ∧ wr = w) (fun x _ _ => m - (intOf x).toNat)
      case atStart => exact ⟨0, Nat.zero_le _, rfl, rfl, rfl⟩
      case round =>
        obtain ⟨k, hk, rfl, HA, hwr⟩ := hrel
        subst hwr
        by_cases hlt : k < m
        · have hkl : k < bs.length := by have := HM.out; omega
          obtain ⟨b2, off2, rfl, e1⟩ := HW.out.int k hkl
          have HS : Hid ((bs.take (k + 1)).all (edZ ls) = ((bs.take k).all (edZ ls) && edZ ls bs[k])) := by
            show _ = _
            rw [List.take_add_one, List.getElem?_eq_getElem hkl]
            simp only [Option.toList_some, List.all_append, List.all_cons, List.all_nil, Bool.and_true]
          have HNo : Hid (edZ ls bs[k] = false → bs.all (edZ ls) = false) := fun hf => by
            rw [List.all_eq_false]
            exact ⟨bs[k], List.getElem_mem hkl, by simp [hf]⟩
          have hzb := HB.out bs[k] (List.getElem_mem hkl)
          generalize bs[k] = z at *
          by_cases hz0 : z < 0
          · have HA2 : Hid ((bs.take (k + 1)).all (edZ ls) = true) := by show _ = _; rw [HS.out, HA.out]; simp [edZ, hz0]
            go_wp2
            go_roundw
            case rel => exact ⟨k + 1, by omega, by go_num, HA2, trivial⟩
            case measure => simp [intOf]; omega
          · obtain ⟨j, rfl⟩ : ∃ j : Nat, z = (j : Int) := ⟨z.toNat, by omega⟩
            have e2 := HC.out j (by omega)
            have hjI : (j : Int) < (n : Int) := by omega
            by_cases hj0 : ls j = 0
            · have HA2 : Hid ((bs.take (k + 1)).all (edZ ls) = true) := by show _ = _; rw [HS.out, HA.out]; simp [edZ, hj0]
              rw [hj0, show ((0 : Nat) : Int) = 0 from rfl] at e2
              clear hj0
              go_wp2
              go_roundw
              case rel => exact ⟨k + 1, by omega, by go_num, HA2, trivial⟩
              case measure => simp [intOf]; omega
            · have HF := hidW (HNo.out (by simp [edZ, hj0]))
              have hj1 : (0 : Int) < (ls j : Int) := by omega
              generalize ls j = lj at *
              go_wp2
              go_ret
              exact ⟨by rw [HR.out, HF.out]; rfl, rfl⟩
        · obtain rfl : k = m := by omega
          have HT : Hid (bs.all (edZ ls) = true) := by
            have := HA.out
            rw [HM.out, List.take_length] at this
            exact this
          go_wp2
          go_ret
          exact ⟨by rw [HR.out, HT.out]; rfl, rfl⟩
theorem rstep_any (h : RD w N rb ra rk n ls B ba bc) (z : Int) (hz : z < (n : Int)) (hr : rtZ ls B z = true) : Calls Try.prog 37 #[ptZ rb, .int .i64 z] w fun e w' => e = .returned (.tuple #[]) ∧ RD w' N rb ra rk n (decZ ls z.toNat) B ba bc ∧ FrZ (fun j => ∃ g, ra = some g ∧ g.block = j) w w' := by
  have HR := hidW (rready_any h z hz)
  rw [hr] at HR
  obtain ⟨h0, hr1⟩ := rtZ_pos hr
  obtain ⟨i, rfl⟩ : ∃ i : Nat, z = (i : Int) := ⟨z.toNat, by omega⟩
  simp only [Int.toNat_natCast] at hr1 ⊢
  have hi : i < n := by omega
  obtain ⟨g, hra, c1, _, f1⟩ := h.cells hi
  have c0 : w.cell? ⟨rb, 0, none⟩ = some (.slice ra n rk) := by simp [World.cell?, h.hd]
  have h1 : 1 ≤ ls i := by have := (rdZ_pos hr1).1; omega
  have HP := hidW (h.step hi ((ls i : Int) - 1) rfl h1 g hra)
  have hle := h.le i hi
  rw [hra] at c0
  have hiI : (i : Int) < (n : Int) := by omega
  clear h hr hr1 h0 hz
  generalize decZ ls i = ls' at *
  generalize ls i = l at *
  go_enter Try.func37, Try.ntmps37
  go_wp2_with fail
  refine HR.out.mono ?_
  rintro e w1 ⟨rfl, hw1⟩
  have hw1' := hw1.symm
  subst hw1'
  clear hw1
  go_wp2
  go_end0
  exact ⟨rfl, HP.out.1, HP.out.2⟩
end
end Go.Proofs.Yteobmijfbjgccaa
