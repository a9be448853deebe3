import Derived.Test.YtglodmmmcdjgcaaJ34
import Derived.Deep.RegionLaw
import Derived.Deep.RegionHeld3
/-
  batch: a batch that was handed out is laid on the shelf.
-/
namespace Go.Proofs.Ytglodmmmcdjgcaa.Kk
open Go.RowKit Go.Sort

theorem hdr_app {TS T : TypeId} (E : El TS T (.slice none 0 0) 1 24) {W : World} {B : Nat} {v : Value} {L : List It} (h : OwnS T W (B + 1) v L) (y : It) (hL : L.length ≤ 2000) (hB : B < W.heap.size) (W1 : World) (hW1 : W1 = W.alloc (.cells #[itv y] T) ∨ W1 = (W.alloc (.cells #[itv y] T)).drew) (ty : TypeId) :
    ∃ v' w', (Builtin.append_ #[TS, TS] ty #[v, .slice (some ⟨W.heap.size, 0, none⟩) 1 1]).run Try.prog W1 = .ok v' w' ∧ ∃ a' c', v' = .slice a' (L.length + 1) c' ∧ OwnS T w' (B + 1) (.slice a' (L.length + 1) c') (L ++ [y]) ∧ W.grownBy w' v.ownBlock := by
  have hA : W1.heap = (W.alloc (.cells #[itv y] T)).heap ∧ W1.os = W.os ∧ W1.tape = W.tape ∧ W1.output = W.output := by
    rcases hW1 with rfl | rfl
    · exact ⟨rfl, rfl, rfl, rfl⟩
    · exact ⟨rfl, rfl, rfl, rfl⟩
  have hblk : ∀ k, k < W.heap.size → W1.heap[k]? = W.heap[k]? := fun k hk => by rw [hA.1]; exact heap_alloc_old _ _ hk
  have hnew : W1.heap[W.heap.size]? = some (.cells #[itv y] T (0, 0)) := by rw [hA.1]; exact heap_alloc_new _ _ rfl
  have hsz : W1.heap.size = W.heap.size + 1 := by rw [hA.1]; simp
  obtain ⟨v', w', hr, ho, hg, _⟩ := run_append_E E (w := W1) ty (B + 1) v L.length (L.map itv) (ownsRow_same h fun g e => hblk g (h.lt g e).2) ⟨W.heap.size, 0, none⟩ 1 1 [itv y] rfl
    (by intro j u hu; rw [addr_add, Nat.zero_add, World.cell?, hnew]; simpa using hu) (by intro u hu; simp at hu; subst hu; rfl) (by omega) (by omega)
  have ho2 : OwnS T w' (B + 1) v' (L ++ [y]) := by unfold OwnS; rw [List.length_append, List.map_append]; exact ho
  obtain ⟨a', c', e⟩ := ho2.slice
  rw [List.length_append, List.length_singleton] at e
  subst e
  exact ⟨_, w', hr, a', c', rfl, ho2, hg.os.trans hA.2.1, hg.tape.trans hA.2.2.1, hg.output.trans hA.2.2.2, by have := hg.size; omega, fun k hk hne => (hg.block k (by omega) hne).trans (hblk k hk)⟩
section
variable {w0 W W' : World} {B : Nat} {aB : Option Addr} {cB : Nat} {aK : Option Addr} {cK : Nat} {aI : Option Addr} {cI : Nat} {Bs Ks Is : List It}
theorem mem_snoc {P : It → Prop} {L : List It} {y : It} (h : ∀ x ∈ L, P x) (hy : P y) : ∀ x ∈ L ++ [y], P x := fun x hx => by
  rcases List.mem_append.1 hx with hx | hx
  · exact h x hx
  · simp at hx; subst hx; exact hy
theorem Rw.same2 {T : TypeId} {sz lo hi : Nat} {x : It} (h : Rw W T sz lo hi x) (hs : ∀ k, k < hi → W'.heap[k]? = W.heap[k]?) : Rw W' T sz lo hi x := by
  obtain ⟨o, n⟩ := x
  cases o with
  | none => exact h
  | some g =>
    obtain ⟨h1, h2, cur, h3, h4⟩ := h.at
    exact ⟨h1, h2, cur, (hs g h2).trans h3, h4⟩
theorem SH.addB (h : SH w0 W B aB cB aK cK aI cI Bs Ks Is) {y : It} (hy : Rw W 43 4 w0.heap.size B y) (hl : y.2 ≤ 64) (hr : ∀ x ∈ Bs, ∀ g k, x.1 = some g → y.1 = some k → g < k) (hN : Bs.length + 1 ≤ 64) {aB' : Option Addr} {cB' : Nat} (ho : OwnS 22 W' (B + 1) (.slice aB' (Bs.length + 1) cB') (Bs ++ [y])) (hg : W.grownBy W' (Value.slice aB Bs.length cB).ownBlock) :
    SH w0 (W'.setCell ⟨B, 0, none⟩ (.slice aB' (Bs.length + 1) cB')) B aB' cB' aK cK aI cI (Bs ++ [y]) Ks Is := by
  have hown : ∀ g, (Value.slice aB Bs.length cB).ownBlock = some g → B + 1 ≤ g := fun g e => (h.oB.lt g e).1
  have hB : ∀ k, B + 1 ≤ k → (W'.setCell ⟨B, 0, none⟩ (.slice aB' (Bs.length + 1) cB')).heap[k]? = W'.heap[k]? := fun k hk => heap_setCell_other W' ⟨B, 0, none⟩ k _ (by show k ≠ B; omega)
  have hlow : ∀ k, k < B → (W'.setCell ⟨B, 0, none⟩ (.slice aB' (Bs.length + 1) cB')).heap[k]? = W.heap[k]? := fun k hk => (heap_setCell_other W' ⟨B, 0, none⟩ k _ (by show k ≠ B; omega)).trans (hg.block k (by have := h.lt; omega) (fun e => by have := hown k e.symm; omega))
  have hbx := (hg.block B h.lt (fun e => by have := hown B e.symm; omega)).trans h.bx
  refine ⟨?_, by rw [List.length_append, List.length_singleton]; exact ho.same fun g e => hB g (by have := (ho.lt g e).1; omega), h.oK.same fun g e => (hB g (by have := (h.oK.lt g e).1; omega)).trans (hg.block g (h.oK.lt g e).2 (fun e2 => by obtain ⟨x1, h1⟩ := h.oK.typed e; obtain ⟨x2, h2⟩ := h.oB.typed e2.symm; exact ne_of_type h1 h2 (by decide) rfl)), h.oI.same fun g e => (hB g (by have := (h.oI.lt g e).1; omega)).trans (hg.block g (h.oI.lt g e).2 (fun e2 => by obtain ⟨x1, h1⟩ := h.oI.typed e; obtain ⟨x2, h2⟩ := h.oB.typed e2.symm; exact ne_of_type h1 h2 (by decide) rfl)), mem_snoc (fun x hx => (h.rB x hx).same2 hlow) (hy.same2 hlow), fun x hx => (h.rK x hx).same2 hlow, fun x hx => (h.rI x hx).same2 hlow, h.sB.snoc hr, h.sK, h.sI, mem_snoc h.lB hl, h.lK, h.lI, by have := h.n; simp only [List.length_append, List.length_singleton]; omega, ?_, h.ge⟩
  · rw [heap_setCell_same W' B 0 _ _ _ hbx, List.length_append, List.length_singleton]; rfl
  · have hge := h.ge
    exact bset ⟨hg.os.trans h.bel.os, hg.tape.trans h.bel.tape, hg.output.trans h.bel.output, Nat.le_trans h.bel.size hg.size, fun k hk => (hg.block k (by have := h.bel.size; omega) (fun e => by have := hown k e.symm; omega)).trans (h.bel.block k hk)⟩ _ hge
theorem SH.addK (h : SH w0 W B aB cB aK cK aI cI Bs Ks Is) {y : It} (hy : Rw W 47 2 w0.heap.size B y) (hl : y.2 ≤ 64) (hr : ∀ x ∈ Ks, ∀ g k, x.1 = some g → y.1 = some k → g < k) (hN : Ks.length + 1 ≤ 1000) {aK' : Option Addr} {cK' : Nat} (ho : OwnS 30 W' (B + 1) (.slice aK' (Ks.length + 1) cK') (Ks ++ [y])) (hg : W.grownBy W' (Value.slice aK Ks.length cK).ownBlock) :
    SH w0 (W'.setCell ⟨B, 1, none⟩ (.slice aK' (Ks.length + 1) cK')) B aB cB aK' cK' aI cI Bs (Ks ++ [y]) Is := by
  have hown : ∀ g, (Value.slice aK Ks.length cK).ownBlock = some g → B + 1 ≤ g := fun g e => (h.oK.lt g e).1
  have hB : ∀ k, B + 1 ≤ k → (W'.setCell ⟨B, 1, none⟩ (.slice aK' (Ks.length + 1) cK')).heap[k]? = W'.heap[k]? := fun k hk => heap_setCell_other W' ⟨B, 1, none⟩ k _ (by show k ≠ B; omega)
  have hlow : ∀ k, k < B → (W'.setCell ⟨B, 1, none⟩ (.slice aK' (Ks.length + 1) cK')).heap[k]? = W.heap[k]? := fun k hk => (heap_setCell_other W' ⟨B, 1, none⟩ k _ (by show k ≠ B; omega)).trans (hg.block k (by have := h.lt; omega) (fun e => by have := hown k e.symm; omega))
  have hbx := (hg.block B h.lt (fun e => by have := hown B e.symm; omega)).trans h.bx
  refine ⟨?_, h.oB.same fun g e => (hB g (by have := (h.oB.lt g e).1; omega)).trans (hg.block g (h.oB.lt g e).2 (fun e2 => by obtain ⟨x1, h1⟩ := h.oB.typed e; obtain ⟨x2, h2⟩ := h.oK.typed e2.symm; exact ne_of_type h1 h2 (by decide) rfl)), by rw [List.length_append, List.length_singleton]; exact ho.same fun g e => hB g (by have := (ho.lt g e).1; omega), h.oI.same fun g e => (hB g (by have := (h.oI.lt g e).1; omega)).trans (hg.block g (h.oI.lt g e).2 (fun e2 => by obtain ⟨x1, h1⟩ := h.oI.typed e; obtain ⟨x2, h2⟩ := h.oK.typed e2.symm; exact ne_of_type h1 h2 (by decide) rfl)), fun x hx => (h.rB x hx).same2 hlow, mem_snoc (fun x hx => (h.rK x hx).same2 hlow) (hy.same2 hlow), fun x hx => (h.rI x hx).same2 hlow, h.sB, h.sK.snoc hr, h.sI, h.lB, mem_snoc h.lK hl, h.lI, by have := h.n; simp only [List.length_append, List.length_singleton]; omega, ?_, h.ge⟩
  · rw [heap_setCell_same W' B 1 _ _ _ hbx, List.length_append, List.length_singleton]; rfl
  · have hge := h.ge
    exact bset ⟨hg.os.trans h.bel.os, hg.tape.trans h.bel.tape, hg.output.trans h.bel.output, Nat.le_trans h.bel.size hg.size, fun k hk => (hg.block k (by have := h.bel.size; omega) (fun e => by have := hown k e.symm; omega)).trans (h.bel.block k hk)⟩ _ hge
theorem SH.addI (h : SH w0 W B aB cB aK cK aI cI Bs Ks Is) {y : It} (hy : Rw W 2 1 w0.heap.size B y) (hl : y.2 ≤ 64) (hr : ∀ x ∈ Is, ∀ g k, x.1 = some g → y.1 = some k → g < k) (hN : Is.length + 1 ≤ 1000) {aI' : Option Addr} {cI' : Nat} (ho : OwnS 41 W' (B + 1) (.slice aI' (Is.length + 1) cI') (Is ++ [y])) (hg : W.grownBy W' (Value.slice aI Is.length cI).ownBlock) :
    SH w0 (W'.setCell ⟨B, 2, none⟩ (.slice aI' (Is.length + 1) cI')) B aB cB aK cK aI' cI' Bs Ks (Is ++ [y]) := by
  have hown : ∀ g, (Value.slice aI Is.length cI).ownBlock = some g → B + 1 ≤ g := fun g e => (h.oI.lt g e).1
  have hB : ∀ k, B + 1 ≤ k → (W'.setCell ⟨B, 2, none⟩ (.slice aI' (Is.length + 1) cI')).heap[k]? = W'.heap[k]? := fun k hk => heap_setCell_other W' ⟨B, 2, none⟩ k _ (by show k ≠ B; omega)
  have hlow : ∀ k, k < B → (W'.setCell ⟨B, 2, none⟩ (.slice aI' (Is.length + 1) cI')).heap[k]? = W.heap[k]? := fun k hk => (heap_setCell_other W' ⟨B, 2, none⟩ k _ (by show k ≠ B; omega)).trans (hg.block k (by have := h.lt; omega) (fun e => by have := hown k e.symm; omega))
  have hbx := (hg.block B h.lt (fun e => by have := hown B e.symm; omega)).trans h.bx
  refine ⟨?_, h.oB.same fun g e => (hB g (by have := (h.oB.lt g e).1; omega)).trans (hg.block g (h.oB.lt g e).2 (fun e2 => by obtain ⟨x1, h1⟩ := h.oB.typed e; obtain ⟨x2, h2⟩ := h.oI.typed e2.symm; exact ne_of_type h1 h2 (by decide) rfl)), h.oK.same fun g e => (hB g (by have := (h.oK.lt g e).1; omega)).trans (hg.block g (h.oK.lt g e).2 (fun e2 => by obtain ⟨x1, h1⟩ := h.oK.typed e; obtain ⟨x2, h2⟩ := h.oI.typed e2.symm; exact ne_of_type h1 h2 (by decide) rfl)), by rw [List.length_append, List.length_singleton]; exact ho.same fun g e => hB g (by have := (ho.lt g e).1; omega), fun x hx => (h.rB x hx).same2 hlow, fun x hx => (h.rK x hx).same2 hlow, mem_snoc (fun x hx => (h.rI x hx).same2 hlow) (hy.same2 hlow), h.sB, h.sK, h.sI.snoc hr, h.lB, h.lK, mem_snoc h.lI hl, by have := h.n; simp only [List.length_append, List.length_singleton]; omega, ?_, h.ge⟩
  · rw [heap_setCell_same W' B 2 _ _ _ hbx, List.length_append, List.length_singleton]; rfl
  · have hge := h.ge
    exact bset ⟨hg.os.trans h.bel.os, hg.tape.trans h.bel.tape, hg.output.trans h.bel.output, Nat.le_trans h.bel.size hg.size, fun k hk => (hg.block k (by have := h.bel.size; omega) (fun e => by have := hown k e.symm; omega)).trans (h.bel.block k hk)⟩ _ hge
end
theorem below_hdr {w W W' : World} {B : Nat} {v u : Value} {j : Nat} (hb : Below B w W) (hg : W.grownBy W' v.ownBlock) (hv : ∀ g, v.ownBlock = some g → B + 1 ≤ g) (hw : B ≤ w.heap.size) : Below B w (W'.setCell ⟨B, j, none⟩ u) :=
  bset ⟨hg.os.trans hb.os, hg.tape.trans hb.tape, hg.output.trans hb.output, Nat.le_trans hb.size hg.size, fun k hk => (hg.block k (by have := hb.size; omega) (fun e => by have := hv k e.symm; omega)).trans (hb.block k hk)⟩ _ (Nat.le_refl _)
/-- a batch as it lies, and its lists -/
structure BT (w0 w : World) (B : Nat) (x : It) (A R V : Nat → It) (lo : Nat → Nat) : Prop where
  rx : Rw w 43 4 w0.heap.size B x
  lx : x.2 ≤ 64
  cl : ∀ j, j < x.2 → ∀ g, x.1 = some g → w.cell? ⟨g, j * 4 + 1, none⟩ = some (itv (A j)) ∧ w.cell? ⟨g, j * 4 + 2, none⟩ = some (itv (R j)) ∧ w.cell? ⟨g, j * 4 + 3, none⟩ = some (itv (V j))
  rA : ∀ j, j < x.2 → Rw w 2 1 (lo j) (lo (j + 1)) (A j) ∧ (A j).2 ≤ 64
  rR : ∀ j, j < x.2 → Rw w 47 2 (lo j) (lo (j + 1)) (R j) ∧ (R j).2 ≤ 64
  rV : ∀ j, j < x.2 → Rw w 47 2 (lo j) (lo (j + 1)) (V j) ∧ (V j).2 ≤ 64
  rv : ∀ j, j < x.2 → ∀ g k, (R j).1 = some g → (V j).1 = some k → g < k
  mn : ∀ i, lo i ≤ lo (i + 1)
  l0 : w0.heap.size ≤ lo 0
  ln : lo x.2 ≤ B
theorem BT.mono {w0 w : World} {B : Nat} {x : It} {A R V : Nat → It} {lo : Nat → Nat} (h : BT w0 w B x A R V lo) : ∀ {i j : Nat}, i ≤ j → lo i ≤ lo j := fun {i j} hij => by
  induction j with
  | zero => obtain rfl : i = 0 := by omega
            exact Nat.le_refl _
  | succ j ih =>
    by_cases e : i = j + 1
    · subst e; exact Nat.le_refl _
    · exact Nat.le_trans (ih (by omega)) (h.mn j)
theorem Rw.move {W : World} {T : TypeId} {sz lo hi lo' hi' : Nat} {x : It} (h : Rw W T sz lo hi x) (h1 : lo' ≤ lo) (h2 : hi ≤ hi') : Rw W T sz lo' hi' x := by
  obtain ⟨o, n⟩ := x
  cases o with
  | none => exact h
  | some g =>
    obtain ⟨a, b, c⟩ := h.at
    exact ⟨by omega, by omega, c⟩
theorem Rw.lo {W : World} {T : TypeId} {sz lo hi : Nat} {x : It} (h : Rw W T sz lo hi x) {g : Nat} (e : x.1 = some g) : lo ≤ g ∧ g < hi := by
  obtain ⟨o, n⟩ := x
  simp only at e
  subst e
  exact ⟨h.at.1, h.at.2.1⟩
def ksN (R V : Nat → It) (k : Nat) : List It := (List.range k).flatMap fun j => [R j, V j]
def isN (A : Nat → It) (k : Nat) : List It := (List.range k).map A
theorem ksN_succ (R V : Nat → It) (k : Nat) : ksN R V (k + 1) = ksN R V k ++ [R k] ++ [V k] := by simp [ksN, List.range_succ]
theorem isN_succ (A : Nat → It) (k : Nat) : isN A (k + 1) = isN A k ++ [A k] := by simp [isN, List.range_succ]
theorem ksN_len (R V : Nat → It) (k : Nat) : (ksN R V k).length = 2 * k := by
  induction k with
  | zero => rfl
  | succ k ih => rw [ksN_succ]; simp [ih]; omega
theorem isN_len (A : Nat → It) (k : Nat) : (isN A k).length = k := by simp [isN]
/-- all blocks lie below -/
def Und (L : List It) (u : Nat) : Prop := ∀ x ∈ L, ∀ g, x.1 = some g → g < u
theorem Und.snoc {L : List It} {u u' : Nat} {y : It} (h : Und L u) (hu : u ≤ u') (hy : ∀ g, y.1 = some g → g < u') : Und (L ++ [y]) u' := mem_snoc (fun x hx g e => by have := h x hx g e; omega) hy

theorem BT.kept {w0 w W : World} {B : Nat} {x : It} {A R V : Nat → It} {lo : Nat → Nat} (h : BT w0 w B x A R V lo) (hb : Below B w W) : BT w0 W B x A R V lo := by
  have hl : ∀ j, j < x.2 → lo (j + 1) ≤ B := fun j hj => Nat.le_trans (h.mono (show j + 1 ≤ x.2 by omega)) h.ln
  refine ⟨h.rx.below hb (Nat.le_refl _), h.lx, fun j hj g e => ?_, fun j hj => ⟨(h.rA j hj).1.below hb (hl j hj), (h.rA j hj).2⟩, fun j hj => ⟨(h.rR j hj).1.below hb (hl j hj), (h.rR j hj).2⟩, fun j hj => ⟨(h.rV j hj).1.below hb (hl j hj), (h.rV j hj).2⟩, h.rv, h.mn, h.l0, h.ln⟩
  have hg := (h.rx.lo e).2
  obtain ⟨e1, e2, e3⟩ := h.cl j hj g e
  exact ⟨(hb.cell (p := ⟨g, j * 4 + 1, none⟩) hg).trans e1, (hb.cell (p := ⟨g, j * 4 + 2, none⟩) hg).trans e2, (hb.cell (p := ⟨g, j * 4 + 3, none⟩) hg).trans e3⟩
theorem box_after {W W' : World} {B : Nat} {v : Value} {o : Array Value} {T : TypeId} (h : W.heap[B]? = some (.cells o T (0, 0))) (hg : W.grownBy W' v.ownBlock) (hv : ∀ g, v.ownBlock = some g → B + 1 ≤ g) : W'.heap[B]? = some (.cells o T (0, 0)) := (hg.block B (Array.getElem?_eq_some_iff.1 h).1 (fun e => by have := hv B e.symm; omega)).trans h
theorem itv_open (y : It) : ∃ ao, itv y = .slice ao y.2 y.2 := ⟨_, rfl⟩

end Go.Proofs.Ytglodmmmcdjgcaa.Kk
