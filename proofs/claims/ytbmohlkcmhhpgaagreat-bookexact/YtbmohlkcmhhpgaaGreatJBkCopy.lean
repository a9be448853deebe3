import Derived.Test.YtbmohlkcmhhpgaaGreatBkSpoil
import Derived.Test.YtbmohlkcmhhpgaaGreatJBkFit
import Derived.BigRegion
/-
  copySnapshot.
-/
namespace Go.Proofs.YtbmohlkcmhhpgaaGreat
open Go.RowKit Go.Sort

def kl (l : List Ch) : List (K × List Stp) := l.map (fun c => (c.k, c.l))
/-- a copy that is being made -/
structure CpB (W : World) (base Ob : Nat) (la : Int) (pv cv : Value) (pins : List (Int × Int)) (chs : List Ch) : Prop where
  ob : W.heap[Ob]? = some (.cells #[.int .i64 la, pv, cv] 25 (0, 0))
  rp : W.ownsRow base 92 2 pv pins.length (pns pins)
  rc : W.ownsRow base 50 3 cv chs.length (ccs chs)
  rv : ∀ c ∈ chs, W.ownsRow base 96 4 (.slice c.a c.l.length c.c) c.l.length (scs c.l)
  le : base ≤ Ob
section
variable {W W' : World} {base Ob : Nat} {la : Int} {pv cv : Value} {pins : List (Int × Int)} {chs : List Ch}
theorem CpB.kept (h : CpB W base Ob la pv cv pins chs) (hb : Below W.heap.size W W') : CpB W' base Ob la pv cv pins chs :=
  ⟨(hb.block _ (blk_lt h.ob)).trans h.ob, rowSame h.rp (fun g hg => hb.block g (World.ownsRow.lt h.rp g hg).2), rowSame h.rc (fun g hg => hb.block g (World.ownsRow.lt h.rc g hg).2), fun c hc => rowSame (h.rv c hc) (fun g hg => hb.block g (World.ownsRow.lt (h.rv c hc) g hg).2), h.le⟩
theorem CpB.cells (h : CpB W base Ob la pv cv pins chs) : W.cell? ⟨Ob, 0, none⟩ = some (.int .i64 la) ∧ W.cell? ⟨Ob, 1, none⟩ = some pv ∧ W.cell? ⟨Ob, 2, none⟩ = some cv := by
  refine ⟨?_, ?_, ?_⟩ <;> simp [World.cell?, h.ob]
theorem CpB.neC (h : CpB W base Ob la pv cv pins chs) : cv.ownBlock ≠ some Ob := fun e => by
  obtain ⟨cur, hc⟩ := rowBlock h.rc e
  rw [h.ob] at hc
  cases hc
/-- one chain more -/
theorem CpB.put (h : CpB W base Ob la pv cv pins chs) {c : Ch} {cv' : Value} (hv : W.ownsRow base 96 4 (.slice c.a c.l.length c.c) c.l.length (scs c.l)) (ho : W'.ownsRow base 50 3 cv' (chs.length + 1) (ccs (chs ++ [c]))) (hg : W.grownBy W' cv.ownBlock) (hat : cv'.ownBlock = cv.ownBlock ∨ cv'.ownBlock = some W.heap.size) :
    (W'.cell? ⟨Ob, 2, none⟩ = some cv ∧ W'.frozen? ⟨Ob, 2, none⟩ = false) ∧ CpB (W'.setCell ⟨Ob, 2, none⟩ cv') base Ob la pv cv' pins (chs ++ [c]) := by
  have hR := blk_lt h.ob
  have hbk : W'.heap[Ob]? = _ := (hg.block Ob hR (fun e => h.neC e.symm)).trans h.ob
  have hs : ∀ k, k ≠ Ob → (W'.setCell ⟨Ob, 2, none⟩ cv').heap[k]? = W'.heap[k]? := fun k hk => heap_setCell_other _ _ _ _ (fun e => hk e)
  have hrow : ∀ {T : TypeId} {sz n : Nat} {v : Value} {xs : List Value}, T ≠ 25 → T ≠ 50 → W.ownsRow base T sz v n xs → (W'.setCell ⟨Ob, 2, none⟩ cv').ownsRow base T sz v n xs := fun h1 h2 hr => rowSame hr (fun g hg' => by
    obtain ⟨cur, hc⟩ := rowBlock hr hg'
    refine (hs g (fun e => ?_)).trans (hg.block g (blk_lt hc) (fun e => ?_))
    · rw [e, h.ob] at hc; cases hc; exact h1 rfl
    · obtain ⟨cur', hc'⟩ := rowBlock h.rc e.symm
      rw [hc] at hc'; cases hc'; exact h2 rfl)
  refine ⟨⟨by simp [World.cell?, hbk], frozen_of_row _ _ _ _ _ hbk⟩, heap_setCell_same W' Ob 2 _ _ cv' hbk, hrow (by decide) (by decide) h.rp, ?_, fun c' hc' => ?_, h.le⟩
  · have e1 : (chs ++ [c]).length = chs.length + 1 := by simp
    rw [e1]
    refine rowSame ho (fun g hg' => hs g (fun e => ?_))
    rcases hat with e1 | e1
    · exact h.neC (by rw [← e1, hg', e])
    · rw [hg'] at e1; cases e1; omega
  · rcases List.mem_append.1 hc' with hc' | hc'
    · exact hrow (by decide) (by decide) (h.rv c' hc')
    · simp at hc'; subst hc'; exact hrow (by decide) (by decide) hv
end
/-- what a row of one's own is to others -/
theorem rowCs {w : World} {base : Nat} {T : TypeId} {sz n : Nat} {a : Option Addr} {m c : Nat} {xs : List Value} (h : w.ownsRow base T sz (.slice a m c) n xs) : m = n ∧ CsAt w.heap.size w a xs ∧ (a = none → c = 0) ∧ Shp base w.heap.size w a n T sz := by
  have h' := h
  obtain ⟨hl, ⟨e, h0⟩ | ⟨g, cap, cur, e, hg, hh, h4, h5, h6, h7⟩⟩ := h'
  · cases e
    refine ⟨h0.symm, fun j u hu => ?_, fun _ => rfl, .inl h0⟩
    have : xs = [] := List.eq_nil_of_length_eq_zero (by rw [hl, h0, Nat.zero_mul])
    rw [this] at hu
    cases hu
  · cases e
    refine ⟨rfl, fun j u hu => ⟨g, 0, rfl, blk_lt hh, ?_⟩, (fun e => by cases e), Or.inr ⟨g, cur, rfl, hh, ?_, hg, blk_lt hh⟩⟩
    · rw [World.cell?, hh, Nat.zero_add]
      rw [← h7, List.getElem?_take] at hu
      split at hu
      · simpa using hu
      · cases hu
    · rw [h6]
      exact Nat.mul_le_mul_right sz h4
/-- what copySnapshot hands out -/
def CpPost (w : World) (s : Sn) (e : Ending) (w' : World) : Prop :=
  ∃ s' : Sn, e = .returned (snv s') ∧ s'.la = s.la ∧ s'.pins = s.pins ∧ kl s'.chs = kl s.chs ∧ SnAt w'.heap.size w' s' ∧ SnSh w.heap.size w'.heap.size w' s' ∧ Rest w' s' 0 ∧ Below w.heap.size w w'
theorem CpB.fin {w W : World} {Ob : Nat} {la : Int} {pa ca : Option Addr} {pn pc cn cc : Nat} {pins : List (Int × Int)} {chs : List Ch} {s : Sn} (h : CpB W w.heap.size Ob la (.slice pa pn pc) (.slice ca cn cc) pins chs) (hla : la = s.la) (hp : pins = s.pins) (hk : kl chs = kl s.chs) (hb : Below w.heap.size w W) : CpPost w s (.returned (.agg #[.int .i64 la, .slice pa pn pc, .slice ca cn cc])) W := by
  obtain ⟨e1, c1, z1, q1⟩ := rowCs h.rp
  obtain ⟨e2, c2, z2, q2⟩ := rowCs h.rc
  subst e1
  subst e2
  refine ⟨⟨la, pa, pc, pins, ca, cc, chs⟩, rfl, hla, hp, hk, ⟨c1, c2, fun c hc => (rowCs (h.rv c hc)).2.1, z1, fun c hc => (rowCs (h.rv c hc)).2.2.1⟩, ⟨q1, q2, fun c hc => (rowCs (h.rv c hc)).2.2.2⟩, fun k hk' _ => ?_, hb⟩
  obtain ⟨_, _, h3⟩ := ccs_at chs k hk'
  obtain ⟨hl, ⟨e, h0⟩ | ⟨g, cap, cur, e, hg, hh, h5, h6, h7, h8⟩⟩ := h.rc
  · have h9 : k < chs.length := hk'
    omega
  · cases e
    refine ⟨g, rfl, ?_⟩
    obtain ⟨b, off, e1, _, e2⟩ := c2 _ _ h3
    cases e1
    rw [Nat.zero_add] at e2
    exact e2
end Go.Proofs.YtbmohlkcmhhpgaaGreat
