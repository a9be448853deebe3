import Derived.Test.YtglodmmmcdjgcaaJ32
import Derived.Test.YtglodmmmcdjgcaaJ35
import Derived.Test.YtglodmmmcdjgcaaJ29
import Derived.Test.YtglodmmmcdjgcaaJ33
import Derived.Test.YtglodmmmcdjgcaaJ05
import Derived.SizedLaws
import Derived.Lib.SmallJoins
import Derived.Deep.Slices
/-
  sets: a list of sets is laid upon the shelf; the document's Writes.
-/
namespace Go.Proofs.Ytglodmmmcdjgcaa.Kk
open Go.RowKit Go.Sort

theorem elSSK : El 34 26 (.slice none 0 0) 1 24 := ⟨Try.underlying34, by kernel_rfl, rfl, by decide, by decide⟩
theorem row_typed {w : World} {base : Nat} {T : TypeId} {sz : Nat} {v : Value} {n : Nat} {xs : List Value} (h : w.ownsRow base T sz v n xs) {g : Nat} (hg : v.ownBlock = some g) : ∃ cur, w.heap[g]? = some (.cells cur T (0, 0)) := by
  rcases h.2 with ⟨rfl, _⟩ | ⟨g', cap, cur, rfl, _, hh, _⟩
  · cases hg
  · cases hg; exact ⟨cur, hh⟩
theorem row_len {w : World} {base : Nat} {T : TypeId} {sz : Nat} {v : Value} {n : Nat} {xs : List Value} (h : w.ownsRow base T sz v n xs) : ∃ ao cap, v = .slice ao n cap := by
  rcases h.2 with ⟨rfl, rfl⟩ | ⟨g', cap, cur, rfl, _⟩
  · exact ⟨_, _, rfl⟩
  · exact ⟨_, _, rfl⟩
theorem mem_snocC {P : Ic → Prop} {L : List Ic} {y : Ic} (h : ∀ x ∈ L, P x) (hy : P y) : ∀ x ∈ L ++ [y], P x := fun x hx => by
  rcases List.mem_append.1 hx with hx | hx
  · exact h x hx
  · simp at hx; subst hx; exact hy
theorem Rc.same2 {W W' : World} {lo hi : Nat} {x : Ic} (h : Rc W lo hi x) (hs : ∀ k, k < hi → W'.heap[k]? = W.heap[k]?) : Rc W' lo hi x := by
  obtain ⟨o, n, c⟩ := x
  cases o with
  | none => exact h
  | some g =>
    obtain ⟨h1, h2, h5, h6, cur, h3, h4⟩ := h.at
    exact ⟨h1, h2, h5, h6, cur, (hs g h2).trans h3, h4⟩
theorem Rc.move {W : World} {lo hi lo' hi' : Nat} {x : Ic} (h : Rc W lo hi x) (h1 : lo' ≤ lo) (h2 : hi ≤ hi') : Rc W lo' hi' x := by
  obtain ⟨o, n, c⟩ := x
  cases o with
  | none => exact h
  | some g =>
    obtain ⟨a, b, r⟩ := h.at
    exact ⟨by omega, by omega, r⟩
/-- a header behind a row of headers -/
theorem hdr_appC {TS T : TypeId} (E : El TS T (.slice none 0 0) 1 24) {W : World} {B n : Nat} {v : Value} {xs : List Value} (h : W.ownsRow (B + 1) T 1 v n xs) (a : Option Addr) (m c : Nat) (hL : n ≤ 300000) (hB : B < W.heap.size) (W1 : World) (hW1 : W1 = W.alloc (.cells #[.slice a m c] T) ∨ W1 = (W.alloc (.cells #[.slice a m c] T)).drew) (ty : TypeId) :
    ∃ v' w', (Builtin.append_ #[TS, TS] ty #[v, .slice (some ⟨W.heap.size, 0, none⟩) 1 1]).run Try.prog W1 = .ok v' w' ∧ ∃ a' c', v' = .slice a' (n + 1) c' ∧ w'.ownsRow (B + 1) T 1 (.slice a' (n + 1) c') (n + 1) (xs ++ [.slice a m c]) ∧ W.grownBy w' v.ownBlock := by
  have hA : W1.heap = (W.alloc (.cells #[.slice a m c] T)).heap ∧ W1.os = W.os ∧ W1.tape = W.tape ∧ W1.output = W.output := by
    rcases hW1 with rfl | rfl
    · exact ⟨rfl, rfl, rfl, rfl⟩
    · exact ⟨rfl, rfl, rfl, rfl⟩
  have hblk : ∀ k, k < W.heap.size → W1.heap[k]? = W.heap[k]? := fun k hk => by rw [hA.1]; exact heap_alloc_old _ _ hk
  have hnew : W1.heap[W.heap.size]? = some (.cells #[.slice a m c] T (0, 0)) := by rw [hA.1]; exact heap_alloc_new _ _ rfl
  have hsz : W1.heap.size = W.heap.size + 1 := by rw [hA.1]; simp
  obtain ⟨v', w', hr, ho, hg, _⟩ := run_append_E E (w := W1) ty (B + 1) v n xs (ownsRow_same h fun g e => hblk g (World.ownsRow.lt h g e).2) ⟨W.heap.size, 0, none⟩ 1 1 [.slice a m c] rfl
    (by intro j u hu; rw [addr_add, Nat.zero_add, World.cell?, hnew]; simpa using hu) (by intro u hu; simp at hu; subst hu; rfl) (by omega) (by omega)
  obtain ⟨a', c', e⟩ := row_len ho
  subst e
  exact ⟨_, w', hr, a', c', rfl, ho, hg.os.trans hA.2.1, hg.tape.trans hA.2.2.1, hg.output.trans hA.2.2.2, by have := hg.size; omega, fun k hk hne => (hg.block k (by omega) hne).trans (hblk k hk)⟩
section
variable {w0 W W' : World} {B : Nat} {aK : Option Addr} {cK : Nat} {aO : Option Addr} {cO : Nat} {Ks : List Ic} {Os : List It}
theorem SW.addK (h : SW w0 W B aK cK aO cO Ks Os) {y : Ic} (hy : Rc W w0.heap.size B y) (hl : y.2.1 ≤ 100000) (hr : ∀ x ∈ Ks, ∀ g k, x.1 = some g → y.1 = some k → g < k) (hN : Ks.length + 1 ≤ 200000) {a' : Option Addr} {c' : Nat} (ho : W'.ownsRow (B + 1) 30 1 (.slice a' (Ks.length + 1) c') (Ks.length + 1) ((Ks ++ [y]).map icv)) (hg : W.grownBy W' (Value.slice aK Ks.length cK).ownBlock) :
    SW w0 (W'.setCell ⟨B, 1, none⟩ (.slice a' (Ks.length + 1) c')) B a' c' aO cO (Ks ++ [y]) Os := by
  have hown : ∀ g, (Value.slice aK Ks.length cK).ownBlock = some g → B + 1 ≤ g := fun g e => (World.ownsRow.lt h.oK g e).1
  have hB : ∀ k, B + 1 ≤ k → (W'.setCell ⟨B, 1, none⟩ (.slice a' (Ks.length + 1) c')).heap[k]? = W'.heap[k]? := fun k hk => heap_setCell_other W' ⟨B, 1, none⟩ k _ (by show k ≠ B; omega)
  have hlow : ∀ k, k < B → (W'.setCell ⟨B, 1, none⟩ (.slice a' (Ks.length + 1) c')).heap[k]? = W.heap[k]? := fun k hk => (heap_setCell_other W' ⟨B, 1, none⟩ k _ (by show k ≠ B; omega)).trans (hg.block k (by have := h.lt; omega) (fun e => by have := hown k e.symm; omega))
  have hbx := (hg.block B h.lt (fun e => by have := hown B e.symm; omega)).trans h.bx
  refine ⟨?_, (by rw [List.length_append, List.length_singleton]; exact ownsRow_same ho fun g e => hB g (by have := (World.ownsRow.lt ho g e).1; omega)), (h.oO.same fun g e => (hB g (by have := (h.oO.lt g e).1; omega)).trans (hg.block g (h.oO.lt g e).2 (fun e2 => by obtain ⟨x1, h1⟩ := h.oO.typed e; obtain ⟨x2, h2⟩ := row_typed h.oK e2.symm; exact ne_of_type h1 h2 (by decide) rfl))), (mem_snocC (fun x hx => (h.rK x hx).same2 hlow) (hy.same2 hlow)), (fun x hx => (h.rO x hx).same2 hlow), (h.sK.snoc hr), h.sO, (mem_snocC h.lK hl), h.lO, ⟨by rw [List.length_append, List.length_singleton]; exact hN, h.n.2⟩, ?_, h.ge⟩
  · rw [heap_setCell_same W' B 1 _ _ _ hbx, List.length_append, List.length_singleton]; rfl
  · have hge := h.ge
    exact bset ⟨hg.os.trans h.bel.os, hg.tape.trans h.bel.tape, hg.output.trans h.bel.output, Nat.le_trans h.bel.size hg.size, fun k hk => (hg.block k (by have := h.bel.size; omega) (fun e => by have := hown k e.symm; omega)).trans (h.bel.block k hk)⟩ _ hge
theorem SW.addO (h : SW w0 W B aK cK aO cO Ks Os) {y : It} (hy : Rw W 30 1 w0.heap.size B y) (hl : y.2 ≤ 100000) (hr : ∀ x ∈ Os, ∀ g k, x.1 = some g → y.1 = some k → g < k) (hN : Os.length + 1 ≤ 2) {a' : Option Addr} {c' : Nat} (ho : OwnS 26 W' (B + 1) (.slice a' (Os.length + 1) c') (Os ++ [y])) (hg : W.grownBy W' (Value.slice aO Os.length cO).ownBlock) :
    SW w0 (W'.setCell ⟨B, 3, none⟩ (.slice a' (Os.length + 1) c')) B aK cK a' c' Ks (Os ++ [y]) := by
  have hown : ∀ g, (Value.slice aO Os.length cO).ownBlock = some g → B + 1 ≤ g := fun g e => (h.oO.lt g e).1
  have hB : ∀ k, B + 1 ≤ k → (W'.setCell ⟨B, 3, none⟩ (.slice a' (Os.length + 1) c')).heap[k]? = W'.heap[k]? := fun k hk => heap_setCell_other W' ⟨B, 3, none⟩ k _ (by show k ≠ B; omega)
  have hlow : ∀ k, k < B → (W'.setCell ⟨B, 3, none⟩ (.slice a' (Os.length + 1) c')).heap[k]? = W.heap[k]? := fun k hk => (heap_setCell_other W' ⟨B, 3, none⟩ k _ (by show k ≠ B; omega)).trans (hg.block k (by have := h.lt; omega) (fun e => by have := hown k e.symm; omega))
  have hbx := (hg.block B h.lt (fun e => by have := hown B e.symm; omega)).trans h.bx
  refine ⟨?_, (ownsRow_same h.oK fun g e => (hB g (by have := (World.ownsRow.lt h.oK g e).1; omega)).trans (hg.block g (World.ownsRow.lt h.oK g e).2 (fun e2 => by obtain ⟨x1, h1⟩ := row_typed h.oK e; obtain ⟨x2, h2⟩ := h.oO.typed e2.symm; exact ne_of_type h1 h2 (by decide) rfl))), (by rw [List.length_append, List.length_singleton]; exact ho.same fun g e => hB g (by have := (ho.lt g e).1; omega)), (fun x hx => (h.rK x hx).same2 hlow), (mem_snoc (fun x hx => (h.rO x hx).same2 hlow) (hy.same2 hlow)), h.sK, (h.sO.snoc hr), h.lK, (mem_snoc h.lO hl), ⟨h.n.1, by rw [List.length_append, List.length_singleton]; exact hN⟩, ?_, h.ge⟩
  · rw [heap_setCell_same W' B 3 _ _ _ hbx, List.length_append, List.length_singleton]; rfl
  · have hge := h.ge
    exact bset ⟨hg.os.trans h.bel.os, hg.tape.trans h.bel.tape, hg.output.trans h.bel.output, Nat.le_trans h.bel.size hg.size, fun k hk => (hg.block k (by have := h.bel.size; omega) (fun e => by have := hown k e.symm; omega)).trans (h.bel.block k hk)⟩ _ hge
end
/-- a list of sets as it lies -/
structure ST (w0 w : World) (B g n : Nat) (C : Nat → Ic) (lo : Nat → Nat) : Prop where
  rx : Rw w 30 1 w0.heap.size B (some g, n)
  lx : n ≤ 100000
  cl : ∀ j, j < n → w.cell? ⟨g, j, none⟩ = some (icv (C j))
  rC : ∀ j, j < n → Rc w (lo j) (lo (j + 1)) (C j) ∧ (C j).2.1 ≤ 100000
  mn : ∀ i, i < n → lo i ≤ lo (i + 1)
  l0 : w0.heap.size ≤ lo 0
  ln : lo n ≤ B
theorem ST.up {w0 w : World} {B g n : Nat} {C : Nat → Ic} {lo : Nat → Nat} (h : ST w0 w B g n C lo) : ∀ {i j : Nat}, i ≤ j → j ≤ n → lo i ≤ lo j := fun {i j} hij hj => by
  induction j with
  | zero => obtain rfl : i = 0 := by omega
            exact Nat.le_refl _
  | succ j ih =>
    by_cases e : i = j + 1
    · subst e; exact Nat.le_refl _
    · exact Nat.le_trans (ih (by omega) (by omega)) (h.mn j (by omega))
theorem ST.kept {w0 w w' : World} {B g n : Nat} {C : Nat → Ic} {lo : Nat → Nat} (h : ST w0 w B g n C lo) (hb : Below B w w') : ST w0 w' B g n C lo := by
  refine ⟨h.rx.same2 (fun k hk => hb.block k hk), h.lx, fun j hj => ?_, fun j hj => ⟨(h.rC j hj).1.same2 (fun k hk => hb.block k ?_), (h.rC j hj).2⟩, h.mn, h.l0, h.ln⟩
  · have := h.cl j hj
    have hg := h.rx.at.2.1
    simp only [World.cell?] at this ⊢
    rw [hb.block g hg]; exact this
  · have h1 := h.up (show j + 1 ≤ n by omega) (Nat.le_refl n)
    have := h.ln
    omega
def csN (C : Nat → Ic) (k : Nat) : List Ic := (List.range k).map C
theorem csN_succ (C : Nat → Ic) (k : Nat) : csN C (k + 1) = csN C k ++ [C k] := by simp [csN, List.range_succ]
theorem csN_len (C : Nat → Ic) (k : Nat) : (csN C k).length = k := by simp [csN]
def UndC (L : List Ic) (b : Nat) : Prop := ∀ y ∈ L, ∀ g, y.1 = some g → g < b
theorem UndC.snoc {L : List Ic} {b b' : Nat} {x : Ic} (h : UndC L b) (hb : b ≤ b') (hx : ∀ g, x.1 = some g → g < b') : UndC (L ++ [x]) b' := fun y hy g e => by
  rcases List.mem_append.1 hy with hy | hy
  · have := h y hy g e; omega
  · simp at hy; subst hy; exact hx g e
theorem icv_open (x : Ic) : ∃ ao, icv x = .slice ao x.2.1 x.2.2 := ⟨_, rfl⟩

set_option maxRecDepth 100000 in
set_option maxHeartbeats 4000000 in
theorem sets_any (w0 w : World) (B : Nat) (aK : Option Addr) (cK : Nat) (aO : Option Addr) (cO : Nat) (Ks : List Ic) (Os : List It) (g m : Nat) (C : Nat → Ic) (lo : Nat → Nat) (h : SW w0 w B aK cK aO cO Ks Os) (hx : ST w0 w B g m C lo) (hOs : ∀ y ∈ Os, ∀ a, y.1 = some a → a < g) (hKs : UndC Ks (lo 0)) (hn : Os.length + 1 ≤ 2 ∧ Ks.length + m ≤ 200000) :
    Calls Try.prog 12 #[.pointer (some ⟨B, 0, none⟩), .slice (some ⟨g, 0, none⟩) m m] w fun e w' => e = .returned (.tuple #[]) ∧ Below B w w' ∧ ∃ aK cK aO cO, SW w0 w' B aK cK aO cO (Ks ++ csN C m) (Os ++ [(some g, m)]) := by
  have HX : Hid (∀ W, Below B w W → ST w0 W B g m C lo) := fun W hW => hx.kept hW
  have HS0 : Hid (SW w0 w B aK cK aO cO Ks Os) := h
  have HN : Hid ((∀ y ∈ Os, ∀ a, y.1 = some a → a < g) ∧ UndC Ks (lo 0) ∧ Os.length + 1 ≤ 2 ∧ Ks.length + m ≤ 200000) := ⟨hOs, hKs, hn⟩
  obtain ⟨nO, hO⟩ : ∃ n, n = Os.length := ⟨_, rfl⟩
  have hm64 := hx.lx
  have c3 : w.cell? ⟨B, 3, none⟩ = some (.slice aO nO cO) := by rw [hO]; exact h.cells.2.2.2.1
  have HOn : Hid (nO = Os.length) := hO
  have HBw : Hid (B ≤ w.heap.size) := Nat.le_of_lt h.lt
  clear h hx hOs hKs hn hO
  go_enter Try.func12, Try.ntmps12
  go_wp2_with (
    at_builtin
    refine wpL_app rfl _ _ 34 rfl (.slice aO nO cO) _ rfl rfl (fun ty => hdr_appC elSSK (HOn.out ▸ HS0.out.oO : w.ownsRow (B + 1) 26 1 (.slice aO nO cO) nO (Os.map itv)) (some ⟨g, 0, none⟩) m m (by have := HS0.out.n; have := HOn.out; omega) HS0.out.lt _ (.inl rfl) ty) ?_
    rintro v1 w1 ⟨a1, c1, rfl, ho1, hg1⟩
    have hbx1 := box_after HS0.out.bx hg1 (fun g e => (HS0.out.oO.lt g (HOn.out ▸ e)).1)
    have d0 : w1.cell? ⟨B, 3, none⟩ = some (.slice aO nO cO) := (by rw [World.cell?, hbx1, HOn.out]; rfl)
    have f0 := frozen_of_row w1 B 3 _ _ hbx1
    have HS1 : Hid (SW w0 (w1.setCell ⟨B, 3, none⟩ (.slice a1 (nO + 1) c1)) B aK cK a1 c1 (Ks ++ csN C 0) (Os ++ [(some g, m)])) := (by
      have ho2 : OwnS 26 w1 (B + 1) (.slice a1 (Os.length + 1) c1) (Os ++ [(some g, m)]) := (by unfold OwnS; rw [List.length_append, List.map_append, List.length_singleton]; exact HOn.out ▸ ho1)
      have hh := HS0.out.addO (y := (some g, m)) (HX.out w (Below.refl _ _)).rx hm64 (fun x hx a b e1 e2 => by cases e2; exact HN.out.1 x hx a e1) HN.out.2.2.1 (a' := a1) (c' := c1) ho2 (HOn.out ▸ hg1)
      rw [← HOn.out] at hh
      have e1 : Ks ++ csN C 0 = Ks := (by simp [csN])
      rw [e1]
      exact hh)
    have HB1 : Hid (Below B w (w1.setCell ⟨B, 3, none⟩ (.slice a1 (nO + 1) c1))) := below_hdr (Below.refl _ _) hg1 (fun g e => (HS0.out.oO.lt g (HOn.out ▸ e)).1) HBw.out
    clear ho1 hg1 hbx1)
  generalize w1.setCell ⟨B, 3, none⟩ (.slice a1 (nO + 1) c1) = W1 at *
  clear c3 d0 f0 HOn
  have HU0 : Hid (UndC (Ks ++ csN C 0) (lo 0)) := by
    have e1 : Ks ++ csN C 0 = Ks := by simp [csN]
    rw [e1]
    exact HN.out.2.1
  go_loopw [4] (fun y wr => ∃ k : Nat, k ≤ m ∧ y = .int .i64 (k : Int) ∧ (∃ aK cK, Hid (SW w0 wr B aK cK a1 c1 (Ks ++ csN C k) (Os ++ [(some g, m)]))) ∧ Hid (Below B w wr) ∧ Hid (UndC (Ks ++ csN C k) (lo k))) (fun y _ => m - (intOf y).toNat)
  case atStart => exact ⟨0, Nat.zero_le _, rfl, ⟨aK, cK, HS1⟩, HB1, HU0⟩
  case round =>
    clear HS1 HB1 HU0
    obtain ⟨k, hk, rfl, ⟨bK, dK, HS⟩, HB, HU⟩ := hrel
    by_cases hlt : k < m
    · have HT := HX.out wr HB.out
      have ct := HT.cl k hlt
      have HLo : Hid (lo (k + 1) ≤ B ∧ w0.heap.size ≤ lo k ∧ lo k ≤ lo (k + 1)) := ⟨Nat.le_trans (HT.up (show k + 1 ≤ m by omega) (Nat.le_refl _)) HT.ln, Nat.le_trans HT.l0 (HT.up (Nat.zero_le k) hk), HT.mn k hlt⟩
      have HLn : Hid ((Ks ++ csN C k).length + 1 ≤ 200000) := by
        have := HN.out.2.2.2
        rw [Hid, List.length_append, csN_len]
        omega
      clear HT
      obtain ⟨nn, hnn⟩ : ∃ n, n = ((Ks ++ csN C k)).length := ⟨_, rfl⟩
      have HNn : Hid (nn = ((Ks ++ csN C k)).length) := hnn
      have cc : wr.cell? ⟨B, 1, none⟩ = some (.slice bK nn dK) := by rw [hnn]; exact HS.out.cells.2.1
      obtain ⟨ay, hay⟩ := icv_open (C k)
      have HAy : Hid (icv (C k) = .slice ay (C k).2.1 (C k).2.2) := hay
      rw [hay] at ct
      generalize (C k).2.1 = ny at *
      generalize (C k).2.2 = cy at *
      have cc2 : (wr.alloc (.cells #[.slice ay ny cy] 30)).cell? ⟨B, 1, none⟩ = some (.slice bK nn dK) := by rw [World.cell?, heap_alloc_old _ _ HS.out.lt]; exact cc
      clear hnn hay
      go_upto_region 4 with fail
      go_region_law (first | (
        refine step_app rfl _ _ 26 rfl (.slice bK nn dK) _ rfl rfl (fun ty => hdr_appC elSK (HNn.out ▸ HS.out.oK : wr.ownsRow (B + 1) 30 1 (.slice bK nn dK) nn ((Ks ++ csN C k).map icv)) ay ny cy (by have := HLn.out; have := HNn.out; omega) HS.out.lt _ (.inr rfl) ty) ?_
        rintro v1 w1 ⟨a9, c9, rfl, ho1, hg1⟩
        have hbx1 := box_after HS.out.bx hg1 (fun g e => (World.ownsRow.lt HS.out.oK g (HNn.out ▸ e)).1)
        have d0 : w1.cell? ⟨B, 1, none⟩ = some (.slice bK nn dK) := (by rw [World.cell?, hbx1, HNn.out]; rfl)
        have f0 := frozen_of_row w1 B 1 _ _ hbx1
        have HS9 : Hid (SW w0 (w1.setCell ⟨B, 1, none⟩ (.slice a9 (nn + 1) c9)) B a9 c9 a1 c1 (Ks ++ csN C (k + 1)) (Os ++ [(some g, m)])) := (by
          have hb := HX.out wr HB.out
          have ho2 : w1.ownsRow (B + 1) 30 1 (.slice a9 ((Ks ++ csN C k).length + 1) c9) ((Ks ++ csN C k).length + 1) (((Ks ++ csN C k) ++ [C k]).map icv) := (by rw [List.map_append, List.map_singleton, HAy.out, ← HNn.out]; exact ho1)
          have hh := HS.out.addK (y := C k) ((hb.rC k hlt).1.move HLo.out.2.1 HLo.out.1) (hb.rC k hlt).2 (fun y hy a b e1 e2 => by have := HU.out y hy a e1; have := ((hb.rC k hlt).1.lo e2).1; omega) HLn.out (a' := a9) (c' := c9) ho2 (HNn.out ▸ hg1)
          rw [← HNn.out] at hh
          rw [csN_succ, ← List.append_assoc]
          exact hh)
        have HB9 : Hid (Below B w (w1.setCell ⟨B, 1, none⟩ (.slice a9 (nn + 1) c9))) := below_hdr HB.out hg1 (fun g e => (World.ownsRow.lt HS.out.oK g (HNn.out ▸ e)).1) HBw.out
        clear ho1 hg1 hbx1))
      all_goals (
        have HU6 : Hid (UndC (Ks ++ csN C (k + 1)) (lo (k + 1))) := (by
          have hb := HX.out _ HB9.out
          rw [csN_succ, ← List.append_assoc]
          exact HU.out.snoc HLo.out.2.2 (fun x e => ((hb.rC k hlt).1.lo e).2))
        go_wp2_with fail
        exact ⟨⟨k + 1, by omega, by go_num, ⟨a9, c9, HS9⟩, HB9, HU6⟩, by simp [intOf]; omega⟩)
    · obtain rfl : k = m := by omega
      go_wp2
      go_end0
      exact ⟨rfl, HB.out, bK, dK, a1, c1, HS.out⟩

def wv (x : Bx) : Value := .slice x.aW x.t.writes.length x.cW
set_option maxRecDepth 100000 in
set_option maxHeartbeats 2000000 in
theorem refWrites_any (w : World) (ao : Option Addr) (n cap : Nat) (Bs : List Bx) (h : BatAt w ao Bs) (hn : n = Bs.length) (hs : Sm n Bs) :
    Calls Try.prog 9 #[.slice ao n cap] w fun e w' => (∃ a c, e = .returned (.slice a n c) ∧ w'.ownsRow w.heap.size 30 1 (.slice a n c) n (Bs.map wv)) ∧ Below w.heap.size w w' := by
  have H : Hid (∀ W, Below w.heap.size w W → BatAt W ao Bs) := fun W hW => h.kept hW
  have HN : Hid (n = Bs.length) := hn
  have hm := hs.1
  clear h hn hs
  go_enter Try.func9, Try.ntmps9
  go_wp2_with fail
  go_loopw [3, 4] (fun v x wr => ∃ k : Nat, k ≤ n ∧ x = .int .i64 (k : Int) ∧ (∃ a c, v = .slice a k c ∧ Hid (wr.ownsRow w.heap.size 30 1 (.slice a k c) k ((Bs.take k).map wv))) ∧ Hid (Below w.heap.size w wr)) (fun _ x _ => n - (intOf x).toNat)
  case atStart => exact ⟨0, Nat.zero_le _, rfl, ⟨none, 0, rfl, World.ownsRow_nil _ _ _ _⟩, Below.refl _ _⟩
  case round =>
    obtain ⟨k, hk, rfl, ⟨a, c, rfl, HO⟩, HB⟩ := hrel
    by_cases hlt : k < n
    · have hlt' : k < Bs.length := by have := HN.out; omega
      obtain ⟨b, off, rfl, c0, c1, c2, c3⟩ := TxsAt.get (H.out wr HB.out).at_ k hlt'
      have HT : Hid ((Bs.take (k + 1)).map wv = (Bs.take k).map wv ++ [wv (bd Bs k)]) := by rw [bd_take Bs k hlt']; simp [Hid]
      have HV : Hid (wv (bd Bs k) = .slice (bd Bs k).aW (bd Bs k).t.writes.length (bd Bs k).cW) := rfl
      generalize (bd Bs k).t.writes.length = nw at *
      generalize (bd Bs k).aW = aW at *
      generalize (bd Bs k).cW = cW at *
      clear c0 c1 c2
      have HA : Hid (Below wr.heap.size wr (wr.alloc (.cells #[.slice aW nw cW] 30))) := (Below.refl _ _).alloc (Nat.le_refl _) _
      have HOa : Hid ((wr.alloc (.cells #[.slice aW nw cW] 30)).ownsRow w.heap.size 30 1 (.slice a k c) k ((Bs.take k).map wv)) := ownsRow_same HO.out fun g e => HA.out.block g (World.ownsRow.lt HO.out g e).2
      go_wp2_with (
        at_builtin
        refine wpL_app rfl _ _ 26 rfl (.slice a k c) _ rfl rfl (post := fun v' w' => w'.ownsRow w.heap.size 30 1 v' (k + 1) ((Bs.take k).map wv ++ [.slice aW nw cW]) ∧ (wr.alloc (.cells #[.slice aW nw cW] 30)).grownBy w' (Value.slice a k c).ownBlock) (fun ty => by
          obtain ⟨v', w', hr, h2, h3, _⟩ := run_append_E elSK ty w.heap.size _ k _ HOa.out ⟨wr.heap.size, 0, none⟩ 1 1 [.slice aW nw cW] rfl new_cells (by intro u hu; simp at hu; subst hu; rfl) (by omega) (by have := HB.out.size; simp; omega)
          exact ⟨v', w', hr, h2, h3⟩) ?_
        rintro v1 w1 ⟨ho1, hg1⟩
        obtain ⟨a9, c9, e9⟩ := row_len ho1
        subst e9
        have HO9 : Hid (w1.ownsRow w.heap.size 30 1 (.slice a9 (k + 1) c9) (k + 1) ((Bs.take (k + 1)).map wv)) := (by rw [HT.out, HV.out]; exact ho1)
        have HB9 : Hid (Below w.heap.size w w1) := (HB.out.trans (HA.out.mono HB.out.size)).trans (grown_below hg1 (fun g e => (World.ownsRow.lt HO.out g e).1) (by have := HB.out.size; simp; omega))
        clear ho1 hg1)
      go_roundw
      case rel => exact ⟨k + 1, by omega, by go_num, ⟨a9, c9, rfl, HO9⟩, HB9⟩
      case measure => simp [intOf]; omega
    · obtain rfl : k = n := by omega
      have HF : Hid (wr.ownsRow w.heap.size 30 1 (.slice a k c) k (Bs.map wv)) := by have := HO.out; rw [HN.out, List.take_length, ← HN.out] at this; exact this
      go_wp2
      go_ret
      exact ⟨⟨a, c, rfl, HF.out⟩, HB.out⟩
end Go.Proofs.Ytglodmmmcdjgcaa.Kk
/-
  BatchWeighs: THE LAW.
-/
namespace Go.Proofs.Ytglodmmmcdjgcaa.Kk
open Go.RowKit Go.Sort

set_option maxHeartbeats 1000000 in
theorem sameKeys_q (w : World) (a1 a2 : Option Addr) (n c1 c2 : Nat) (L : List K) (h1 : KeysAt w a1 L) (h2 : KeysAt w a2 L) (hn : n = L.length) (hm : n ≤ 17592186044416) :
    Calls Try.prog 11 #[.slice a1 n c1, .slice a2 n c2] w fun e w' => e = .returned (.bool true) ∧ ∃ q, w' = w.drewN q := by
  have H1 : Hid (KeysAt w a1 L) := h1
  have H2 : Hid (KeysAt w a2 L) := h2
  have HN : Hid (n = L.length) := hn
  clear h1 h2 hn
  go_enter Try.func11, Try.ntmps11
  go_wp2_with fail
  go_loopw [5] (fun x wr => ∃ k q : Nat, k ≤ n ∧ x = .int .i64 (k : Int) ∧ wr = w.drewN q) (fun x _ => n - (intOf x).toNat)
  case atStart => exact ⟨0, 0, Nat.zero_le _, rfl, rfl⟩
  case round =>
    obtain ⟨k, q, hk, rfl, rfl⟩ := hrel
    by_cases hlt : k < n
    · have hlt' : k < L.length := by have := HN.out; omega
      obtain ⟨b, off, rfl, e1, e2⟩ := KeysAt.get H1.out k hlt'
      obtain ⟨d, doff, rfl, e3, e4⟩ := KeysAt.get H2.out k hlt'
      generalize kd L k = kk at *
      obtain ⟨u, s⟩ := kk
      simp only at e1 e2 e3 e4
      have hq := run_neKey u s u s
      have hgd := fun op x y => run_eqGuard op x y u s u s
      simp only [decide_true, Bool.not_true] at hq
      go_wp2_with fail
      go_quiet (fail)
      go_wp2_with fail
      go_roundw
      case rel => exact ⟨k + 1, q + nq, by omega, by go_num, rfl⟩
      case measure => simp [intOf]; omega
    · obtain rfl : k = n := by omega
      go_wp2
      go_ret
      exact ⟨rfl, q, rfl⟩

theorem Calls.quiet_at {f : FuncId} {args : Array Value} {w : World} {q z : Nat} {v : Value} (h : Calls Try.prog f args (w.drewN (q + z)) fun e w' => e = .returned v ∧ ∃ n, w' = (w.drewN (q + z)).drewN n) : Calls Try.prog f args (w.drewN (q + z)) fun e w' => e = .returned v ∧ ∃ n, w' = w.drewN (q + n) :=
  h.mono fun _ _ ⟨he, n, hn⟩ => ⟨he, z + n, by rw [hn, World.drewN_drewN, Nat.add_assoc]⟩
theorem icv_inj {x y : Ic} (h : icv x = icv y) : x = y := by
  obtain ⟨o, n, c⟩ := x
  obtain ⟨o', n', c'⟩ := y
  simp only [icv, Value.slice.injEq] at h
  obtain ⟨h1, rfl, rfl⟩ := h
  cases o <;> cases o' <;> simp_all
/-- a row of sets, each one's own -/
structure LS (W : World) (g n : Nat) (Bs : List Bx) (C : Nat → Ic) (lo : Nat → Nat) : Prop where
  row : W.heap[g]? = some (.cells ((List.range n).map fun i => icv (C i)).toArray 30 (0, 0))
  own : ∀ i, i < n → OwnK W (lo i) (icv (C i)) (bd Bs i).t.writes ∧ ∀ G, (icv (C i)).ownBlock = some G → G < lo (i + 1)
  l0 : g + 1 ≤ lo 0
  mn : ∀ i, i < n → lo i ≤ lo (i + 1)
theorem WsAt.ls {w W : World} {n : Nat} {Bs : List Bx} {vs : Nat → Value} {lo : Nat → Nat} (h : WsAt w W n n Bs vs lo) : ∃ C, LS W w.heap.size n Bs C lo := by
  have h1 : ∀ i, ∃ x : Ic, i < n → vs i = icv x := fun i => by
    by_cases hi : i < n
    · obtain ⟨x, hx, _⟩ := OwnK.ic (h.own i hi).1
      exact ⟨x, fun _ => hx⟩
    · exact ⟨(none, 0, 0), fun h => absurd h hi⟩
  obtain ⟨C, hC⟩ := Classical.axiomOfChoice h1
  refine ⟨C, ?_, fun i hi => by rw [← hC i hi]; exact h.own i hi, h.lo0, h.mono⟩
  rw [h.row]
  have : ((List.range n).map fun i => if i < n then vs i else .slice none 0 0) = (List.range n).map fun i => icv (C i) := by
    refine List.map_congr_left fun i hi => ?_
    have hi := List.mem_range.1 hi
    rw [if_pos hi, hC i hi]
  rw [this]
section
variable {W W' w0 : World} {g n B hi : Nat} {Bs : List Bx} {C : Nat → Ic} {lo : Nat → Nat}
theorem LS.up (h : LS W g n Bs C lo) : ∀ {i j : Nat}, i ≤ j → j ≤ n → lo i ≤ lo j := fun {i j} hij hj => by
  induction j with
  | zero => obtain rfl : i = 0 := by omega
            exact Nat.le_refl _
  | succ j ih =>
    by_cases e : i = j + 1
    · subst e; exact Nat.le_refl _
    · exact Nat.le_trans (ih (by omega) (by omega)) (h.mn j (by omega))
theorem LS.same (h : LS W g n Bs C lo) (hl : lo n ≤ hi) (hs : ∀ G, g ≤ G → G < hi → W'.heap[G]? = W.heap[G]?) : LS W' g n Bs C lo := by
  have h0 := h.up (Nat.zero_le n) (Nat.le_refl n)
  have h1 := h.l0
  refine ⟨(hs g (Nat.le_refl _) (by omega)).trans h.row, fun i hi' => ⟨(h.own i hi').1.same fun G hG => ?_, (h.own i hi').2⟩, h.l0, h.mn⟩
  have a := ((h.own i hi').1.lt G hG).1
  have b := (h.own i hi').2 G hG
  have c := h.up (Nat.zero_le i) (by omega)
  have d := h.up (show i + 1 ≤ n by omega) (Nat.le_refl n)
  exact hs G (by omega) (by omega)
theorem LS.map {Is : List Bx} (h : LS W g n Is C lo) (hn : n = Is.length) (ht : Is.map Bx.t = Bs.map Bx.t) : LS W g n Bs C lo := by
  have hl : Is.length = Bs.length := by have := congrArg List.length ht; simpa using this
  refine ⟨h.row, fun i hi => ?_, h.l0, h.mn⟩
  have := td_map (Bs := Is) (j := i) (by omega)
  rw [ht, td_map (by omega)] at this
  rw [this]
  exact h.own i hi
theorem LS.cell (h : LS W g n Bs C lo) {i : Nat} (hi : i < n) : W.cell? ⟨g, i, none⟩ = some (icv (C i)) := by
  simp [World.cell?, h.row, hi]
theorem LS.rc (h : LS W g n Bs C lo) {i : Nat} (hi : i < n) : Rc W (lo i) (lo (i + 1)) (C i) ∧ (C i).2.1 = (bd Bs i).t.writes.length := by
  obtain ⟨x, hx, hl, hr⟩ := OwnK.ic (h.own i hi).1
  have e := icv_inj hx
  subst e
  exact ⟨hr _ (h.own i hi).2, hl⟩
theorem LS.get (h : LS W g n Bs C lo) {i : Nat} (hi : i < n) : ∃ a c, icv (C i) = .slice a (bd Bs i).t.writes.length c ∧ KeysAt W a (bd Bs i).t.writes := by
  obtain ⟨a, c, e, hk, _⟩ := (h.own i hi).1.slice
  exact ⟨a, c, e, hk⟩
theorem LS.st (h : LS W g n Bs C lo) (h0 : w0.heap.size ≤ g) (hl : lo n ≤ B) (hn : n ≤ 100000) (hx : ∀ i, i < n → (bd Bs i).t.writes.length ≤ 100000) : ST w0 W B g n C lo := by
  have h1 := h.l0
  have h2 := h.up (Nat.zero_le n) (Nat.le_refl n)
  exact ⟨⟨h0, by omega, _, h.row, by simp⟩, hn, fun j hj => h.cell hj, fun j hj => ⟨(h.rc hj).1, by rw [(h.rc hj).2]; exact hx j hj⟩, h.mn, by omega, hl⟩
end
theorem row_el {W : World} {base n c : Nat} {T : TypeId} {a : Option Addr} {xs : List Value} (h : W.ownsRow base T 1 (.slice a n c) n xs) (i : Nat) (hi : i < n) : ∃ hg, a = some ⟨hg, 0, none⟩ ∧ W.cell? ⟨hg, i, none⟩ = xs[i]? := by
  obtain ⟨hl, h⟩ := h
  rcases h with ⟨h1, h2⟩ | ⟨g, cap, cur, e, hb, hg, hn, hm, hs, ht⟩
  · omega
  · simp only [Value.slice.injEq] at e
    obtain ⟨rfl, _, rfl⟩ := e
    exact ⟨g, rfl, World.ownsRow.cellAt (w := W) (base := base) (e := T) (size := 1) (g := g) (cap := c) (n := n) (xs := xs) ⟨hl, .inr ⟨g, c, cur, rfl, hb, hg, hn, hm, hs, ht⟩⟩ i (by omega)⟩
theorem Sm.map {n : Nat} {Bs Is : List Bx} (h : Sm n Bs) (ht : Is.map Bx.t = Bs.map Bx.t) : Sm n Is := by
  refine ⟨h.1, fun x hx => ?_⟩
  have : x.t ∈ Bs.map Bx.t := by rw [← ht]; exact List.mem_map_of_mem hx
  obtain ⟨y, hy, e⟩ := List.mem_map.1 this
  rw [← e]
  exact h.2 y hy

set_option maxRecDepth 100000 in
set_option maxHeartbeats 4000000 in
theorem lawBWt (w : World) (ao : Option Addr) (m cap : Nat) (Bs : List Bx) (hb : BatAt w ao Bs) (hn' : m = Bs.length) (hm' : m ≤ 140737488351232) :
    Calls Try.prog 3 #[.slice ao m cap] w fun e w' => e = .returned (.bool true) ∧ Below w.heap.size w w' := by
  have HB : Hid (BatAt w ao Bs ∧ m = Bs.length) := ⟨hb, hn'⟩
  obtain ⟨wt, hwt⟩ : ∃ x, x = wtN Bs := ⟨_, rfl⟩
  have HWt : Hid (wt = wtN Bs) := hwt
  clear hb hn' hwt
  go_enter Try.func3, Try.ntmps3
  go_wp2_with fail
  refine (partsB_any w ao m cap Bs 100000 HB.out.1 HB.out.2 hm' (by omega) (by omega)).mono ?_
  rintro e w1 ⟨⟨r', rfl, hr'⟩, q1, hw1⟩
  have HW1 : Hid (Below w.heap.size w w1) := by rw [hw1]; exact ((Grew.refl w).drewN q1).below
  clear hw1
  by_cases h0 : r' < 0
  · go_wp2
    go_ret
    exact ⟨rfl, HW1.out⟩
  have HX : Hid (Sm m Bs) := (hr' (by omega)).2
  have hm6 := HX.out.1
  clear hr'
  go_wp2_with fail
  refine (lent_it w1 ao m cap Bs (HB.out.1.kept HW1.out) HB.out.2 HX.out.1 HX.out.2).mono ?_
  rintro e w2 ⟨ai, ci, Is, rfl, hI, hT, hl, hb2, hk2⟩
  have HI : Hid (∀ W, Below w2.heap.size w2 W → BatAt W ai Is) := fun W hW => hI.kept hW
  have HI2 : Hid (m = Is.length ∧ Sm m Is ∧ Is.map Bx.t = Bs.map Bx.t) := ⟨hl, HX.out.map hT, hT⟩
  have HW2 : Hid (Below w.heap.size w w2) := HW1.out.trans (hb2.mono HW1.out.size)
  have HBk : Hid (∀ W, Below w2.heap.size w2 W → Calls Try.prog 8 #[.slice ai m ci, .slice ao m cap] W fun e W' => e = .returned (.bool true) ∧ Mid w.heap.size w2.heap.size W W') := fun W hW => (hk2 W hW).mono fun e W' ⟨h1, h2⟩ => ⟨h1, h2.wide HW1.out.size (Nat.le_refl _)⟩
  clear hI hT hl hb2 hk2 HW1
  go_wp2_with fail
  refine (weight_any w2 ai m ci Is (HI.out _ (Below.refl _ _)) HI2.out.1 HI2.out.2.1).mono ?_
  rintro e w3 ⟨rfl, hg3⟩
  rw [wtN_map HI2.out.2.2, ← HWt.out]
  have HB3 : Hid (Below w2.heap.size w2 w3) := hg3.below
  clear hg3
  go_wp2_with fail
  refine (writes_any w3 ai m ci Is (HI.out _ HB3.out) HI2.out.1 HI2.out.2.1).mono ?_
  rintro e w4 ⟨rfl, vs4, lo4, hv4⟩
  have HV4 : Hid (WsAt w3 w4 m m Is vs4 lo4) := hv4
  have HB4 : Hid (Below w2.heap.size w2 w4) := HB3.out.trans (hv4.bel.mono HB3.out.size)
  clear hv4
  go_wp2_with fail
  refine (writes_any w4 ai m ci Is (HI.out _ HB4.out) HI2.out.1 HI2.out.2.1).mono ?_
  rintro e w5 ⟨rfl, vs5, lo5, hv5⟩
  have HB5 : Hid (Below w2.heap.size w2 w5) := HB4.out.trans (hv5.bel.mono HB4.out.size)
  obtain ⟨C4, hC4⟩ := HV4.out.ls
  obtain ⟨C5, hC5⟩ := hv5.ls
  have HC4 : Hid (LS w5 w3.heap.size m Bs C4 lo4 ∧ lo4 m ≤ w4.heap.size) := ⟨(hC4.same HV4.out.lok fun G _ h2 => hv5.bel.block G h2).map HI2.out.1 HI2.out.2.2, HV4.out.lok⟩
  have HC5 : Hid (LS w5 w4.heap.size m Bs C5 lo5 ∧ lo5 m ≤ w5.heap.size) := ⟨hC5.map HI2.out.1 HI2.out.2.2, hv5.lok⟩
  have HZ : Hid (w.heap.size ≤ w2.heap.size ∧ w2.heap.size ≤ w3.heap.size ∧ w3.heap.size ≤ w4.heap.size ∧ w4.heap.size ≤ w5.heap.size) := ⟨HW2.out.size, HB3.out.size, HV4.out.bel.size, hv5.bel.size⟩
  clear hv5 hC4 hC5 HV4 HB3 HB4
  obtain ⟨g4, hg4⟩ : ∃ g, g = w3.heap.size := ⟨_, rfl⟩
  obtain ⟨g5, hg5⟩ : ∃ g, g = w4.heap.size := ⟨_, rfl⟩
  rw [← hg4, ← hg5]
  rw [← hg4, ← hg5] at HC4
  rw [← hg5] at HC5
  rw [← hg4, ← hg5] at HZ
  clear hg4 hg5
  go_wp2_with fail
  refine (HBk.out w5 HB5.out).mono ?_
  rintro e w6 ⟨rfl, hm6⟩
  have HS : Hid (∀ G, g4 ≤ G → G < w5.heap.size → w6.heap[G]? = w5.heap[G]?) := fun G h1 h2 => hm6.block G h2 (.inr (by have := HZ.out; omega))
  have HD4 : Hid (LS w6 g4 m Bs C4 lo4 ∧ lo4 m ≤ g5) := ⟨HC4.out.1.same (hi := w5.heap.size) (by have := HZ.out; have := HC4.out.2; omega) HS.out, HC4.out.2⟩
  have HD5 : Hid (LS w6 g5 m Bs C5 lo5 ∧ lo5 m ≤ w6.heap.size) := ⟨HC5.out.1.same HC5.out.2 (fun G h1 h2 => HS.out G (by have := HZ.out; omega) h2), Nat.le_trans HC5.out.2 hm6.size⟩
  have HW6 : Hid (Below w.heap.size w w6) := by
    have h1 := HW2.out.trans (HB5.out.mono HW2.out.size)
    exact h1.trans (hm6.below h1.size)
  have HZ6 : Hid (w.heap.size ≤ g4 ∧ g4 ≤ g5 ∧ g5 ≤ w6.heap.size) := by have := HZ.out; have := hm6.size; exact ⟨by omega, by omega, by omega⟩
  clear hm6 HBk HS HC4 HC5 HZ HB5 HW2 HI HI2
  go_wp2_with fail
  refine (refWrites_any w6 ao m cap Bs (HB.out.1.kept HW6.out) HB.out.2 HX.out).mono ?_
  rintro e w7 ⟨⟨a7, c7, rfl, hr7⟩, hb7⟩
  have HR7 : Hid (w7.ownsRow w6.heap.size 30 1 (.slice a7 m c7) m (Bs.map wv)) := hr7
  have HB7 : Hid (Below w6.heap.size w6 w7) := hb7
  clear hr7 hb7
  go_wp2_with fail
  refine (refWeight_any w7 ao m cap Bs (HB.out.1.kept (HW6.out.trans (HB7.out.mono HW6.out.size))) HB.out.2 HX.out).mono ?_
  rintro e w8 ⟨rfl, hg8⟩
  rw [← HWt.out]
  have HB8 : Hid (Below w6.heap.size w6 w8) := HB7.out.trans (hg8.below.mono HB7.out.size)
  have HR8 : Hid (w8.ownsRow w6.heap.size 30 1 (.slice a7 m c7) m (Bs.map wv)) := ownsRow_same HR7.out (fun g hg => hg8.below.block g (World.ownsRow.lt HR7.out g hg).2)
  have HW8 : Hid (Below w.heap.size w w8) := HW6.out.trans (HB8.out.mono HW6.out.size)
  have HE4 : Hid (LS w8 g4 m Bs C4 lo4 ∧ lo4 m ≤ g5) := ⟨HD4.out.1.same (hi := w6.heap.size) (by have := HZ6.out; have := HD4.out.2; omega) (fun G _ h2 => HB8.out.block G h2), HD4.out.2⟩
  have HE5 : Hid (LS w8 g5 m Bs C5 lo5 ∧ lo5 m ≤ w8.heap.size) := ⟨HD5.out.1.same HD5.out.2 (fun G _ h2 => HB8.out.block G h2), Nat.le_trans HD5.out.2 HB8.out.size⟩
  have HZ8 : Hid (w.heap.size ≤ g4 ∧ g4 ≤ g5 ∧ g5 ≤ w8.heap.size) := by have := HZ6.out; have := HB8.out.size; exact ⟨by omega, by omega, by omega⟩
  have HK8 : Hid (∀ i, i < m → KeysAt w8 (bd Bs i).aW (bd Bs i).t.writes ∧ (bd Bs i).t.writes.length ≤ 100000) := fun i hi => ⟨((HB.out.1.kept HW8.out).lst i (by rw [← HB.out.2]; exact hi)).writes, (HX.out.2 _ (bd_mem (by rw [← HB.out.2]; exact hi))).2.2⟩
  have HM : Hid (∀ i, i < m → (Bs.map wv)[i]? = some (.slice (bd Bs i).aW (bd Bs i).t.writes.length (bd Bs i).cW)) := fun i hi => by
    have h1 : i < Bs.length := by rw [← HB.out.2]; exact hi
    simp [wv, bd, List.getElem?_eq_getElem h1, List.getD_eq_getElem?_getD]
  clear hg8 HR7 HB7 HD4 HD5 HB8 HZ6 HW6 HB HX HWt
  go_wp2_with fail
  go_loopw [9] (fun i wr => ∃ k q : Nat, k ≤ m ∧ i = .int .i64 (k : Int) ∧ wr = w8.drewN q) (fun i _ => m - (intOf i).toNat)
  case atStart => exact ⟨0, 0, Nat.zero_le _, rfl, rfl⟩
  case round =>
    obtain ⟨k, q, hk, rfl, rfl⟩ := hrel
    by_cases hlt : k < m
    · obtain ⟨hg, rfl, e1⟩ := row_el HR8.out k hlt
      rw [HM.out k hlt] at e1
      have e2 := HE4.out.1.cell hlt
      have e3 := HE5.out.1.cell hlt
      obtain ⟨a2, c2, i2, k2⟩ := HE4.out.1.get hlt
      obtain ⟨a3, c3, i3, k3⟩ := HE5.out.1.get hlt
      rw [i2] at e2
      rw [i3] at e3
      obtain ⟨k1, hl1⟩ := HK8.out k hlt
      clear i2 i3
      generalize bd Bs k = x at *
      obtain ⟨⟨proc, args, reads, writes⟩, xA, kA, xR, kR, xW, kW⟩ := x
      simp only at e1 e2 e3 k1 k2 k3 hl1
      have H1 : Hid (∀ z, Calls Try.prog 11 #[.slice a2 writes.length c2, .slice xW writes.length kW] (w8.drewN (q + z)) fun e w' => e = .returned (.bool true) ∧ ∃ n, w' = w8.drewN (q + n)) := fun z => Calls.quiet_at <| sameKeys_q _ a2 xW _ c2 kW writes k2 k1 rfl (by omega)
      have H2 : Hid (∀ z, Calls Try.prog 11 #[.slice a3 writes.length c3, .slice xW writes.length kW] (w8.drewN (q + z)) fun e w' => e = .returned (.bool true) ∧ ∃ n, w' = w8.drewN (q + n)) := fun z => Calls.quiet_at <| sameKeys_q _ a3 xW _ c3 kW writes k3 k1 rfl (by omega)
      clear k1 k2 k3
      generalize writes.length = L at *
      go_wp2_with fail
      go_quiet ((go_at_call 11; first | with_reducible exact H1.out _ | with_reducible exact H2.out _))
      go_wp2_with fail
      go_roundw
      case rel => exact ⟨k + 1, q + nq, by omega, by go_num, rfl⟩
      case measure => simp [intOf]; omega
    · obtain rfl : k = m := by omega
      have HF4 : Hid (LS (w8.drewN q) g4 k Bs C4 lo4 ∧ lo4 k ≤ g5) := ⟨HE4.out.1.same (hi := w8.heap.size) (by have := HZ8.out; have := HE4.out.2; omega) (fun G _ _ => rfl), HE4.out.2⟩
      have HF5 : Hid (LS (w8.drewN q) g5 k Bs C5 lo5 ∧ lo5 k ≤ (w8.drewN q).heap.size) := ⟨HE5.out.1.same HE5.out.2 (fun G _ _ => rfl), HE5.out.2⟩
      have HWf : Hid (Below w.heap.size w (w8.drewN q)) := HW8.out.trans (((Grew.refl w8).drewN q).below.mono HW8.out.size)
      have HZf : Hid (w.heap.size ≤ g4 ∧ g4 ≤ g5 ∧ g5 ≤ (w8.drewN q).heap.size) := HZ8.out
      have HL : Hid (∀ i, i < k → (bd Bs i).t.writes.length ≤ 100000) := fun i hi => (HK8.out i hi).2
      clear HE4 HE5 HW8 HZ8 HR8 HK8 HM hlt hk
      generalize w8.drewN q = u at *
      -- the shelf
      have HB18 : Hid (Below u.heap.size u (u.alloc (.cells #[.slice none 0 0, .slice none 0 0, .slice none 0 0, .slice none 0 0, .slice none 0 0] 37))) := (Below.refl _ _).alloc (Nat.le_refl _) _
      have HS18 : Hid (SW w (u.alloc (.cells #[.slice none 0 0, .slice none 0 0, .slice none 0 0, .slice none 0 0, .slice none 0 0] 37)) u.heap.size none 0 none 0 [] []) :=
        ⟨heap_alloc_new _ _ rfl, World.ownsRow_nil _ _ _ _, OwnS.nil _ _ _, (fun x hx => by cases hx), (fun x hx => by cases hx), List.Pairwise.nil, List.Pairwise.nil, (fun x hx => by cases hx), (fun x hx => by cases hx), by simp, HWf.out.alloc HWf.out.size _, HWf.out.size⟩
      go_upto_region 17 with fail
      generalize u.alloc (.cells #[.slice none 0 0, .slice none 0 0, .slice none 0 0, .slice none 0 0, .slice none 0 0] 37) = W18 at *
      obtain ⟨B, hB⟩ : ∃ B, B = u.heap.size := ⟨_, rfl⟩
      rw [← hB] at HS18 HB18 HF5 HZf ⊢
      have HT4 : Hid (ST w W18 B g4 k C4 lo4) := (HF4.out.1.same (hi := B) (by have := HZf.out; have := HF4.out.2; omega) (fun G _ h2 => HB18.out.block G h2)).st HZf.out.1 (by have := HZf.out; have := HF4.out.2; omega) hm6 HL.out
      have HT5 : Hid (ST w W18 B g5 k C5 lo5) := (HF5.out.1.same HF5.out.2 (fun G _ h2 => HB18.out.block G h2)).st (by have := HZf.out; omega) HF5.out.2 hm6 HL.out
      have HQ : Hid (g4 + 1 ≤ lo4 0 ∧ lo4 0 ≤ lo4 k ∧ lo4 k ≤ g5 ∧ g5 + 1 ≤ lo5 0) := ⟨HF4.out.1.l0, HF4.out.1.up (Nat.zero_le _) (Nat.le_refl _), HF4.out.2, HF5.out.1.l0⟩
      clear hB HF4 HF5 HZf HL HWf HB18
      go_wp2_with fail
      refine (sets_any w W18 B none 0 none 0 [] [] g4 k C4 lo4 HS18.out HT4.out (fun y hy => by cases hy) (fun y hy => by cases hy) (by simp; omega)).mono ?_
      rintro e w19 ⟨rfl, hb19, aK, cK, aO, cO, hs19⟩
      have HS19 : Hid (SW w w19 B aK cK aO cO ([] ++ csN C4 k) ([] ++ [(some g4, k)])) := hs19
      have HT5b : Hid (ST w w19 B g5 k C5 lo5) := HT5.out.kept hb19
      clear hs19 hb19 HS18 HT5
      go_wp2_with fail
      refine (sets_any w w19 B aK cK aO cO ([] ++ csN C4 k) ([] ++ [(some g4, k)]) g5 k C5 lo5 HS19.out HT5b.out ?_ ?_ ?_).mono ?_
      · intro z hz a e
        simp only [List.nil_append, List.mem_singleton] at hz
        subst hz
        cases e
        have := HQ.out
        omega
      · intro z hz a e
        simp only [List.nil_append, csN, List.mem_map, List.mem_range] at hz
        obtain ⟨i, hi, rfl⟩ := hz
        have h1 := ((HT4.out.rC i hi).1.lo e).2
        have h2 := HT4.out.up (show i + 1 ≤ k by omega) (Nat.le_refl k)
        have := HQ.out
        omega
      · simp only [List.nil_append, csN_len, List.length_singleton]
        omega
      · rintro e w20 ⟨rfl, hb20, bK, dK, bO, dO, hs20⟩
        have HS20 : Hid (SW w w20 B bK dK bO dO (([] ++ csN C4 k) ++ csN C5 k) (([] ++ [(some g4, k)]) ++ [(some g5, k)])) := hs20
        clear hs20 hb20 HS19 HT5b HT4
        go_wp2_with fail
        refine (apartV_any w w20 B bK dK bO dO _ _ HS20.out).mono ?_
        rintro e w21 ⟨rfl, hb21⟩
        have HF : Hid (Below w.heap.size w w21) := hb21
        clear hb21 HS20
        go_wp2
        go_ret
        exact ⟨rfl, HF.out⟩
end Go.Proofs.Ytglodmmmcdjgcaa.Kk
/-
  FROM THE READING OF A []api.Key ARGUMENT (OR FIELD) TO ITS KEYS.
-/
namespace Go.Proofs.Ytglodmmmcdjgcaa.Kk
open Go.ChangeShapes Go.WideShapes Go.ChangeAt Go.RowKit

theorem cellsKey : Try.prog.cellsOf 47 = 2 := by kernel_rfl
theorem cellsInt' : Try.prog.cellsOf 3 = 1 := by kernel_rfl
theorem cellsInt64' : Try.prog.cellsOf 2 = 1 := by kernel_rfl
theorem bytesKey : Try.prog.bytesOf 47 = 16 := by kernel_rfl
set_option maxRecDepth 100000 in
/-- one element -/
theorem key_of_trod {H : Type} {enc : TypeId × Value → H} {W : World} {fuel : Nat} {a : Addr} {i : Nat} {cs : List Value} {y : DataW H × List MemPlace} (hc : W.cells? 0 (a.add (i * 2)) 2 = some cs)
    (hf : DataW.trod enc Try.prog W 0 (fun _ => true) true fuel 47 cs = some y) :
    ∃ (b off : Nat) (k : K), a.add (i * 2) = ⟨b, off, none⟩ ∧ W.cell? ⟨b, off, none⟩ = some (.int .i64 k.1) ∧ W.cell? ⟨b, off + 1, none⟩ = some (.int .i64 k.2) ∧ In64 k.1 ∧ In64 k.2 := by
  obtain ⟨_, hlen, hcell⟩ := World.cells?_some hc
  obtain ⟨xs, k, hk, hxy, _, hxl, hf⟩ := DataW.trod_struct Try.underlying47 hf
  match xs, hxl, cs, hlen with
  | [y0, y1], _, [v0, v1], _ =>
    have g0 := hf 0 _ rfl
    have g1 := hf 1 _ rfl
    simp [cellsInt', cellsInt64'] at g0 g1
    have e0 := hcell 0 (by omega)
    have e1 := hcell 1 (by omega)
    generalize a.add (i * 2) = ad at *
    obtain ⟨b, off, spot⟩ := ad
    have hspot : spot = none := by
      have h1 : (⟨b, off, spot⟩ : Addr).add 0 = ⟨b, off, spot⟩ := by simp [Addr.add]
      rw [h1] at e0
      exact World.cell?_spot e0
    subst hspot
    rw [Go.WideShapes.add_plain] at e0 e1
    obtain ⟨x0, h0, _, wx0⟩ := DataW.trod_int Try.underlying3 g0
    obtain ⟨x1, h1, _, wx1⟩ := DataW.trod_int Try.underlying2 g1
    simp only [List.cons.injEq, and_true] at h0 h1
    subst h0 h1
    exact ⟨b, off, (x0, x1), rfl, by simpa using e0, by simpa using e1, bounds_i64 wx0, bounds_i64 wx1⟩
theorem cks_of {w : World} {b off : Nat} : ∀ (L : List K) (d : Nat), (∀ i, i < L.length → w.cell? ⟨b, off + (d + i) * 2, none⟩ = some (.int .i64 (kd L i).1) ∧ w.cell? ⟨b, off + (d + i) * 2 + 1, none⟩ = some (.int .i64 (kd L i).2)) →
    ∀ j u, (cks L)[j]? = some u → w.cell? ⟨b, off + d * 2 + j, none⟩ = some u
  | [], _, _, j, u, hu => by simp [cks] at hu
  | k :: L, d, h, 0, u, hu => by
    have := (h 0 (by simp)).1
    simp [cks] at hu
    simpa [kd, hu] using this
  | k :: L, d, h, 1, u, hu => by
    have := (h 0 (by simp)).2
    simp [cks] at hu
    simpa [kd, hu] using this
  | k :: L, d, h, j + 2, u, hu => by
    have ih := cks_of (w := w) (b := b) (off := off) L (d + 1) (fun i hi => by
      have := h (i + 1) (by simp; omega)
      rw [kd_cons_succ, show d + (i + 1) = d + 1 + i by omega] at this
      exact this) j u (by simpa [cks] using hu)
    rw [show off + (d + 1) * 2 + j = off + d * 2 + (j + 2) by omega] at ih
    exact ih
set_option maxRecDepth 100000 in
/-- what the reading of a slice of keys gives -/
theorem keys_of_trod {H : Type} {enc : TypeId × Value → H} {W : World} {fuel : Nat} {cs : List Value} {y : DataW H × List MemPlace}
    (hf : DataW.trod enc Try.prog W 0 (fun _ => true) true fuel 30 cs = some y) :
    ∃ (a : Option Addr) (len cap : Nat) (ks : List K), cs = [.slice a len cap] ∧ (len = ks.length ∧ KeysAt W a ks ∧ (a = none → cap = 0) ∧ len ≤ cap ∧ cap ≤ maxLen ∧ ∀ k ∈ ks, In64 k.1 ∧ In64 k.2) ∧
      (len = 0 ∨ ∃ elems spare, y.1 = .slice elems spare ∧ len ≤ elems.length + spare.length) := by
  rcases Deep.open_slice Try.underlying30 hf with ⟨rfl, rfl⟩ | ⟨a, len, cap, m, n, D, Pl, rfl, hb, hl, hm, hmm, rfl, hx⟩
  · exact ⟨none, 0, 0, [], rfl, ⟨rfl, .inl rfl, fun _ => rfl, Nat.le_refl _, Nat.zero_le _, by simp⟩, .inl rfl⟩
  · have hle : len ≤ m := by rw [hmm]; simpa using hl
    rw [cellsKey] at hx
    obtain ⟨Z, hZ⟩ := Deep.choose_lt (α := K) (n := len) (p := fun i k => ∃ b off, a.add (i * 2) = ⟨b, off, none⟩ ∧ W.cell? ⟨b, off, none⟩ = some (.int .i64 k.1) ∧ W.cell? ⟨b, off + 1, none⟩ = some (.int .i64 k.2) ∧ In64 k.1 ∧ In64 k.2) (fun i hi => by
      obtain ⟨cs', h1, h2⟩ := hx i (by omega)
      obtain ⟨b, off, k, h3⟩ := key_of_trod h1 h2
      exact ⟨k, b, off, h3⟩)
    refine ⟨some a, len, cap, (List.range len).map Z, rfl, ⟨by simp, ?_, by simp, by simpa using hl, hm, ?_⟩, .inr ⟨_, _, rfl, ?_⟩⟩
    · by_cases h0 : len = 0
      · left; subst h0; rfl
      · right
        obtain ⟨b, off, h1, _⟩ := hZ 0 (by omega)
        have h1' : a = ⟨b, off, none⟩ := by simpa [Addr.add] using h1
        subst h1'
        refine ⟨b, off, rfl, fun j u hu => ?_⟩
        have := cks_of (w := W) (b := b) (off := off) ((List.range len).map Z) 0 (fun i hi => by
          have hi' : i < len := by simpa using hi
          obtain ⟨b', off', h2, h3, h4, _⟩ := hZ i hi'
          rw [Go.WideShapes.add_plain] at h2
          simp only [Addr.mk.injEq, and_true] at h2
          obtain ⟨rfl, rfl⟩ := h2
          have e : kd ((List.range len).map Z) i = Z i := by simp [kd, List.getD_eq_getElem?_getD, hi']
          rw [e, Nat.zero_add]
          exact ⟨h3, h4⟩) j u hu
        simpa using this
    · intro k hk
      obtain ⟨i, hi, rfl⟩ := List.mem_map.1 hk
      obtain ⟨_, _, _, _, _, h5⟩ := hZ i (by simpa using hi)
      exact h5
    · simp
theorem keys_of_sized {H : Type} {ts : List TypeId} {ds : List (DataW H)} {j len : Nat} {d : DataW H} (h : (DataW.weightsEach Try.prog ts ds).all (· ≤ reachBytes) = true) (ht : ts[j]? = some 30) (hd : ds[j]? = some d)
    (hx : len = 0 ∨ ∃ elems spare, d = .slice elems spare ∧ len ≤ elems.length + spare.length) : len * 16 ≤ 140737488351232 := by
  rcases hx with h0 | ⟨elems, spare, rfl, hl⟩
  · omega
  · have h1 := sized_slice h ht hd Try.underlying30
    rw [bytesKey] at h1
    simp only [reachBytes] at h1
    omega

end Go.Proofs.Ytglodmmmcdjgcaa.Kk
