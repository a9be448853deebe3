/-
  WHAT SweepDrops HOLDS: its worlds.
-/
import Derived.Test.YtmelbebjcdkbdaaWLaw0
namespace Go.Proofs.Ytmelbebjcdkbdaa
open Go.RowKit Go.Sort

theorem hx6W {w w6 : World} {ga : Nat} {ds D : List Bool} (hds : ds = D) (h1 : w.drew.heap.size ≤ ga) (h2 : WB w6 ga D) (h3 : Below w.drew.heap.size w.drew w6) : Hid (w.heap.size ≤ ga ∧ WB w6 ga ds ∧ Below w.heap.size w w6) := ⟨h1, by rw [hds]; exact h2, ⟨h3.os, h3.tape, h3.output, h3.size, h3.block⟩⟩
/-- all that is held -/
structure SdW (w : World) (ao po : Option Addr) (L : List V5) (ps : List Int) (ds : List Bool) (g2 g4 gw ga gb : Nat) (va vb : List Bool) (W : World) : Prop where
  a : WB W ga va
  b : WB W gb vb
  ww : WB W gw ds
  c : WAt W (some ⟨g2, 0, none⟩) (v5s L ++ v5c ⟨-9, 0, false, false, 0⟩)
  l : WAt W ao (v5s L)
  p : WAt W (some ⟨g4, 0, none⟩) (i64s ps ++ [.int .i64 (-8)])
  q : WAt W po (i64s ps)
  bel : Below w.heap.size w W
  ab : ga ≠ gb ∧ ga ≠ gw ∧ gb ≠ gw ∧ w.heap.size ≤ ga ∧ w.heap.size ≤ gb ∧ w.heap.size ≤ gw
theorem SdW.drewN {w : World} {ao po : Option Addr} {L : List V5} {ps : List Int} {ds : List Bool} {g2 g4 gw ga gb : Nat} {va vb : List Bool} {W : World} (h : SdW w ao po L ps ds g2 g4 gw ga gb va vb W) (q : Nat) : SdW w ao po L ps ds g2 g4 gw ga gb va vb (W.drewN q) :=
  ⟨h.a, h.b, h.ww, h.c, h.l, h.p, h.q, ⟨h.bel.os, h.bel.tape, h.bel.output, h.bel.size, h.bel.block⟩, h.ab⟩
/-- what stays when the first row is written to -/
structure SeW (w : World) (ds : List Bool) (gw ga gb : Nat) (va : List Bool) (W : World) : Prop where
  a : WB W ga va
  b : WB W gb ds
  ww : WB W gw ds
  bel : Below w.heap.size w W
  ab : ga ≠ gb ∧ ga ≠ gw ∧ gb ≠ gw ∧ w.heap.size ≤ ga ∧ w.heap.size ≤ gb ∧ w.heap.size ≤ gw
theorem SeW.set {w : World} {ds : List Bool} {gw ga gb : Nat} {va : List Bool} {W : World} (h : SeW w ds gw ga gb va W) (i : Nat) (z : Bool) : SeW w ds gw ga gb (va.set i z) (W.setCell ⟨ga, i, none⟩ (.bool z)) :=
  ⟨h.a.set i z, h.b.other i _ h.ab.1, h.ww.other i _ h.ab.2.1, ⟨h.bel.os, h.bel.tape, h.bel.output, by simpa using h.bel.size, fun k hk => (setW_block _ _ _ k (by have := h.ab.2.2.2.1; simp; omega)).trans (h.bel.block k hk)⟩, h.ab⟩
/-- the first i turned -/
def flipW (ds : List Bool) (i : Nat) : List Bool := (ds.take i).map (fun b => !b) ++ ds.drop i
theorem flipW_zero (ds : List Bool) : flipW ds 0 = ds := by simp [flipW]
theorem flipW_all {ds : List Bool} {n : Nat} (h : n = ds.length) : flipW ds n = ds.map (fun b => !b) := by simp [flipW, h]
theorem flipW_get {ds : List Bool} {i : Nat} (hi : i < ds.length) : (flipW ds i)[i]? = some ds[i] := by
  unfold flipW
  have e : ((ds.take i).map (fun b => !b)).length = i := by simp; omega
  rw [List.getElem?_append_right (by omega), e, Nat.sub_self, List.getElem?_drop, Nat.add_zero, List.getElem?_eq_getElem hi]
theorem flipW_set {ds : List Bool} {i : Nat} (hi : i < ds.length) : (flipW ds i).set i (!ds[i]) = flipW ds (i + 1) := by
  unfold flipW
  have e : ((ds.take i).map (fun b => !b)).length = i := by simp; omega
  rw [List.set_append_right _ _ (by omega), e, Nat.sub_self, List.drop_eq_getElem_cons hi, List.set_cons_zero, List.take_add_one, List.getElem?_eq_getElem hi, Option.toList_some, List.map_append, List.append_assoc]
  rfl
/-- two rows that grow -/
structure PW (w : World) (N gb gw : Nat) (ds : List Bool) (W : World) (vx vy : Value) (kx ky : Nat) : Prop where
  x : XW N W vx (ds.map (fun b => !b) ++ List.replicate kx true)
  y : XW N W vy (ds ++ List.replicate ky false)
  ne : ∀ g, vx.ownBlock = some g → vy.ownBlock ≠ some g
  b : WB W gb ds
  ww : WB W gw ds
  lt : gb < N ∧ gw < N
  le : N ≤ W.heap.size ∧ w.heap.size ≤ N
  bel : Below w.heap.size w W
theorem SeW.pw {w : World} {ds : List Bool} {gw ga gb n : Nat} {W : World} (h : SeW w ds gw ga gb (ds.map (fun b => !b)) W) (hn : n = ds.length) : PW w W.heap.size gb gw ds W (.slice (some ⟨ga, 0, none⟩) n n) (.slice (some ⟨gb, 0, none⟩) n n) 0 0 := by
  refine ⟨?_, ?_, fun g h1 h2 => ?_, h.b, h.ww, ⟨h.b.lt, h.ww.lt⟩, ⟨Nat.le_refl _, h.bel.size⟩, h.bel⟩
  · rw [List.replicate_zero, List.append_nil]
    exact .inl ⟨ga, by simp [hn], h.a.lt, h.a⟩
  · rw [List.replicate_zero, List.append_nil]
    exact .inl ⟨gb, by rw [hn], h.b.lt, h.b⟩
  · cases h1; cases h2; exact h.ab.1 rfl
theorem PW.pushX {w : World} {N gb gw : Nat} {ds : List Bool} {W : World} {vx vy : Value} {kx ky : Nat} (h : PW w N gb gw ds W vx vy kx ky) (hL : ds.length + kx + 1 ≤ 100000000000000) (ty : TypeId) :
    ∃ v' w', (Builtin.append_ #[28, 28] ty #[vx, .slice (some ⟨W.heap.size, 0, none⟩) 1 1]).run Try.prog (W.alloc (.cells #[.bool true] 4)) = .ok v' w' ∧ (∃ ao c, v' = .slice ao (ds.length + kx + 1) c) ∧ PW w N gb gw ds w' v' vy (kx + 1) ky := by
  have hal : ∀ k, k < W.heap.size → (W.alloc (.cells #[.bool true] 4)).heap[k]? = W.heap[k]? := fun k hk => heap_alloc_old _ _ hk
  have hx := h.x.kept (W' := W.alloc (.cells #[.bool true] 4)) (fun g hg => hal g (h.x.lt g hg))
  have hy := h.y.kept (W' := W.alloc (.cells #[.bool true] 4)) (fun g hg => hal g (h.y.lt g hg))
  have hsz : (W.alloc (.cells #[.bool true] 4)).heap.size = W.heap.size + 1 := by simp
  obtain ⟨v', w', hr, h1, h2, h3, h4, ao, c, h5⟩ := hx.app (by rw [hsz]; have := h.le.1; omega) (by simp; omega) ty ⟨W.heap.size, 0, none⟩ 1 true (by rw [World.cell?, heap_alloc_new _ _ rfl]; rfl)
  have hoth : ∀ k, k < W.heap.size → (vx.ownBlock = some k → k < N) → w'.heap[k]? = W.heap[k]? := fun k hk hv => (h2 k (by omega) hv).trans (hal k hk)
  refine ⟨v', w', hr, ⟨ao, c, by rw [h5]; simp⟩, ⟨?_, ?_, fun g e1 e2 => ?_, ?_, ?_, h.lt, ⟨?_, h.le.2⟩, ?_⟩⟩
  · rw [List.replicate_succ', ← List.append_assoc]; exact h1
  · exact h.y.kept (fun g hg => hoth g (h.y.lt g hg) (fun e => absurd hg (h.ne g e)))
  · rcases h4 with h4 | h4
    · exact h.ne g (h4 ▸ e1) e2
    · rw [h4, hsz] at e1
      have := h.y.lt g e2
      cases e1
      omega
  · exact (hoth gb h.b.lt (fun _ => h.lt.1)).trans h.b
  · exact (hoth gw h.ww.lt (fun _ => h.lt.2)).trans h.ww
  · have := h3.size; have := h.le.1; omega
  · refine h.bel.trans ⟨h3.os, h3.tape, h3.output, by have := h3.size; have := h.le.1; omega, fun k hk => hoth k (by have := h.le; omega) (fun _ => by have := h.le; omega)⟩
theorem PW.pushY {w : World} {N gb gw : Nat} {ds : List Bool} {W : World} {vx vy : Value} {kx ky : Nat} (h : PW w N gb gw ds W vx vy kx ky) (hL : ds.length + ky + 1 ≤ 100000000000000) (ty : TypeId) :
    ∃ v' w', (Builtin.append_ #[28, 28] ty #[vy, .slice (some ⟨W.heap.size, 0, none⟩) 1 1]).run Try.prog (W.alloc (.cells #[.bool false] 4)) = .ok v' w' ∧ (∃ ao c, v' = .slice ao (ds.length + ky + 1) c) ∧ PW w N gb gw ds w' vx v' kx (ky + 1) := by
  have hal : ∀ k, k < W.heap.size → (W.alloc (.cells #[.bool false] 4)).heap[k]? = W.heap[k]? := fun k hk => heap_alloc_old _ _ hk
  have hy := h.y.kept (W' := W.alloc (.cells #[.bool false] 4)) (fun g hg => hal g (h.y.lt g hg))
  have hsz : (W.alloc (.cells #[.bool false] 4)).heap.size = W.heap.size + 1 := by simp
  obtain ⟨v', w', hr, h1, h2, h3, h4, ao, c, h5⟩ := hy.app (by rw [hsz]; have := h.le.1; omega) (by simp; omega) ty ⟨W.heap.size, 0, none⟩ 1 false (by rw [World.cell?, heap_alloc_new _ _ rfl]; rfl)
  have hoth : ∀ k, k < W.heap.size → (vy.ownBlock = some k → k < N) → w'.heap[k]? = W.heap[k]? := fun k hk hv => (h2 k (by omega) hv).trans (hal k hk)
  refine ⟨v', w', hr, ⟨ao, c, by rw [h5]; simp⟩, ⟨?_, ?_, fun g e1 e2 => ?_, ?_, ?_, h.lt, ⟨?_, h.le.2⟩, ?_⟩⟩
  · exact h.x.kept (fun g hg => hoth g (h.x.lt g hg) (fun e => absurd e (h.ne g hg)))
  · rw [List.replicate_succ', ← List.append_assoc]; exact h1
  · rcases h4 with h4 | h4
    · exact h.ne g e1 (h4 ▸ e2)
    · rw [h4, hsz] at e2
      have := h.x.lt g e1
      cases e2
      omega
  · exact (hoth gb h.b.lt (fun _ => h.lt.1)).trans h.b
  · exact (hoth gw h.ww.lt (fun _ => h.lt.2)).trans h.ww
  · have := h3.size; have := h.le.1; omega
  · refine h.bel.trans ⟨h3.os, h3.tape, h3.output, by have := h3.size; have := h.le.1; omega, fun k hk => hoth k (by have := h.le; omega) (fun _ => by have := h.le; omega)⟩
/-- what stands at a place -/
theorem PW.atX {w : World} {N gb gw : Nat} {ds : List Bool} {W : World} {ax ay : Option Addr} {t cx cy : Nat} (h : PW w N gb gw ds W (.slice ax t cx) (.slice ay t cy) 40 40) (i : Nat) (hi : i < ds.length + 40) : ∃ bx ox by_ oy zx zy, ax = some ⟨bx, ox, none⟩ ∧ ay = some ⟨by_, oy, none⟩ ∧ W.cell? ⟨bx, ox + i, none⟩ = some (.bool zx) ∧ W.cell? ⟨by_, oy + i, none⟩ = some (.bool zy) ∧ (∀ hl : i < ds.length, zx = (!ds[i]) ∧ zy = ds[i]) ∧ (ds.length ≤ i → zx = true ∧ zy = false) := by
  obtain ⟨ax', cx', e1, hx⟩ := h.x.slice
  obtain ⟨ay', cy', e2, hy⟩ := h.y.slice
  simp only [Value.slice.injEq] at e1 e2
  obtain ⟨rfl, _, _⟩ := e1
  obtain ⟨rfl, _, _⟩ := e2
  have gx : ∀ z, (ds.map (fun b => !b) ++ List.replicate 40 true)[i]? = some z → ∃ b o, ax = some ⟨b, o, none⟩ ∧ W.cell? ⟨b, o + i, none⟩ = some (.bool z) := fun z hz => hx i _ (by rw [List.getElem?_map, hz]; rfl)
  have gy : ∀ z, (ds ++ List.replicate 40 false)[i]? = some z → ∃ b o, ay = some ⟨b, o, none⟩ ∧ W.cell? ⟨b, o + i, none⟩ = some (.bool z) := fun z hz => hy i _ (by rw [List.getElem?_map, hz]; rfl)
  by_cases hl : i < ds.length
  · obtain ⟨b1, o1, p1, p2⟩ := gx (!ds[i]) (by rw [List.getElem?_append_left (by simpa using hl)]; simp [hl])
    obtain ⟨b2, o2, p3, p4⟩ := gy ds[i] (by rw [List.getElem?_append_left hl]; simp [hl])
    exact ⟨b1, o1, b2, o2, _, _, p1, p3, p2, p4, fun _ => ⟨rfl, rfl⟩, fun h => by omega⟩
  · obtain ⟨b1, o1, p1, p2⟩ := gx true (by rw [List.getElem?_append_right (by simp; omega), List.getElem?_replicate, if_pos (by simp; omega)])
    obtain ⟨b2, o2, p3, p4⟩ := gy false (by rw [List.getElem?_append_right (by omega), List.getElem?_replicate, if_pos (by omega)])
    exact ⟨b1, o1, b2, o2, _, _, p1, p3, p2, p4, fun h => by omega, fun _ => ⟨rfl, rfl⟩⟩
end Go.Proofs.Ytmelbebjcdkbdaa
