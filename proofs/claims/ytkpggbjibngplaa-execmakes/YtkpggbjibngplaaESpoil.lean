/-
  layer 12's spoilLib: ITS HOLDER WRITES A COPY OVER.
-/
import Derived.Test.YtkpggbjibngplaaECopy
namespace Go.Proofs.Ytkpggbjibngplaa
open Go.RowKit Go.Sort

/-- a code that can be written over -/
def CodX (n0 g : Nat) (W : World) (x : Pr) : Prop := x.n = 0 ∨ ∃ G, x.ao = some ⟨G, 0, none⟩ ∧ n0 ≤ G ∧ G ≠ g ∧ ∃ cur, W.heap[G]? = some (.cells cur 93 (0, 0)) ∧ x.n * 2 ≤ cur.size
structure SpI (n0 g n : Nat) (Qs : List Pr) (W0 W : World) (i : Nat) : Prop where
  bel : Below n0 W0 W
  ge : n0 ≤ g
  row : ∃ cur, W.heap[g]? = some (.cells cur 34 (0, 0))
  cls : ∀ j, i ≤ j → j < n → ∀ m u, (prc (pd Qs j))[m]? = some u → W.cell? ⟨g, j * 6 + m, none⟩ = some u
  cod : ∀ j, j < n → CodX n0 g W (pd Qs j)
theorem cell_setO (W : World) (a : Addr) (v : Value) (b o : Nat) (h : b ≠ a.block) : (W.setCell a v).cell? ⟨b, o, none⟩ = W.cell? ⟨b, o, none⟩ := by
  simp only [World.cell?, heap_setCell_other W a b v h]
theorem cell_setN {W : World} {g i o : Nat} {v : Value} {cur : Array Value} {ty : TypeId} (h : W.heap[g]? = some (.cells cur ty (0, 0))) (hne : o ≠ i) : (W.setCell ⟨g, i, none⟩ v).cell? ⟨g, o, none⟩ = W.cell? ⟨g, o, none⟩ := by
  have := heap_setCell_same W g i _ _ v h
  simp only [World.cell?, this, h]
  simp [Ne.symm hne]
theorem SpI.up {n0 g n : Nat} {Qs : List Pr} {W0 W : World} {i : Nat} (h : SpI n0 g n Qs W0 W i) : SpI n0 g n Qs W0 W (i + 1) := ⟨h.bel, h.ge, h.row, fun j hj => h.cls j (by omega), h.cod⟩
/-- a cell of a code is written -/
theorem SpI.code {n0 g n : Nat} {Qs : List Pr} {W0 W : World} {i : Nat} (h : SpI n0 g n Qs W0 W i) (G m : Nat) (v : Value) (hG : n0 ≤ G) (hne : G ≠ g) : SpI n0 g n Qs W0 (W.setCell ⟨G, m, none⟩ v) i := by
  obtain ⟨cur, hr⟩ := h.row
  refine ⟨below_set h.bel _ _ hG, h.ge, ⟨cur, (heap_setCell_other W ⟨G, m, none⟩ g v (fun e => hne e.symm)).trans hr⟩, fun j h1 h2 k u hu => ?_, fun j hj => ?_⟩
  · rw [cell_setO W ⟨G, m, none⟩ v g _ (fun e => hne e.symm)]; exact h.cls j h1 h2 k u hu
  · rcases h.cod j hj with h0 | ⟨G', e, h1, h2, cur', h3, h4⟩
    · exact .inl h0
    · refine .inr ⟨G', e, h1, h2, ?_⟩
      by_cases he : G' = G
      · subst he
        exact ⟨_, heap_setCell_same W G' m _ _ v h3, by simpa using h4⟩
      · exact ⟨cur', (heap_setCell_other W ⟨G, m, none⟩ G' v he).trans h3, h4⟩
/-- a cell of the row is written, behind which nobody looks -/
theorem SpI.proc {n0 g n : Nat} {Qs : List Pr} {W0 W : World} {i : Nat} (h : SpI n0 g n Qs W0 W (i + 1)) (m : Nat) (v : Value) (hm : m < i * 6 + 6) : SpI n0 g n Qs W0 (W.setCell ⟨g, m, none⟩ v) (i + 1) := by
  obtain ⟨cur, hr⟩ := h.row
  refine ⟨below_set h.bel _ _ h.ge, h.ge, ⟨_, heap_setCell_same W g m _ _ v hr⟩, fun j h1 h2 k u hu => ?_, fun j hj => ?_⟩
  · rw [cell_setN hr (by omega)]; exact h.cls j h1 h2 k u hu
  · rcases h.cod j hj with h0 | ⟨G', e, h1, h2, cur', h3, h4⟩
    · exact .inl h0
    · exact .inr ⟨G', e, h1, h2, cur', (heap_setCell_other W ⟨g, m, none⟩ G' v h2).trans h3, h4⟩
theorem SpI.start {n0 : Nat} {w W : World} {g n cap : Nat} {Ps Qs : List Pr} {k : Nat} (h : CLs n0 w W (.slice (some ⟨g, 0, none⟩) n cap) Ps Qs k) : SpI n0 g n Qs W W 0 := by
  have hn := h.lib.2.1
  rcases h.own.shape with ⟨e, _⟩ | ⟨g', cap', e, hb, _, _, _, hp⟩
  · cases e
  · simp only [Value.slice.injEq, Option.some.injEq, Addr.mk.injEq] at e
    obtain ⟨⟨rfl, -, -⟩, -, rfl⟩ := e
    refine ⟨Below.refl _ _, hb, ?_, fun j _ hj m u hu => ?_, fun j hj => ?_⟩
    · obtain ⟨_, h0 | ⟨g2, cap2, cur, e2, _, hg, _⟩⟩ := h.own
      · cases h0.1
      · cases e2; exact ⟨cur, hg⟩
    · have hm : m < 6 := by have := (List.getElem?_eq_some_iff.1 hu).1; simpa [prc] using this
      rcases hp with h0 | ⟨b, off, e, hc⟩
      · rw [h0] at hn; simp at hn; omega
      · simp only [Option.some.injEq, Addr.mk.injEq] at e
        obtain ⟨rfl, rfl, -⟩ := e
        have := hc (j * 6 + m) u (by rw [prcs_at Qs j m (by omega) hm]; exact hu)
        rw [Nat.zero_add] at this; exact this
    · have hx := h.ok (pd Qs j) (pd_mem (by omega))
      have hap := h.ap (pd Qs j) (pd_mem (by omega))
      obtain ⟨_, h0 | ⟨g2, cap2, cur, e2, hb2, hg2, hn2, _, hs2, _⟩⟩ := hx.own
      · left; have := h0.2; rw [hx.len]; exact this
      · right
        simp only [Value.slice.injEq] at e2
        obtain ⟨e3, e4, e5⟩ := e2
        refine ⟨g2, e3, hb2, fun e => ?_, cur, hg2, ?_⟩
        · subst e
          exact hap g2 (by unfold cbX; rw [e3]; rfl) rfl
        · rw [hs2, hx.len]; omega
set_option maxRecDepth 100000 in
set_option maxHeartbeats 2000000 in
theorem spoilLib_any (n0 : Nat) (w W : World) (v : Value) (n : Nat) (Ps Qs : List Pr) (h : CLs n0 w W v Ps Qs n) (hm : n ≤ 100000) (hx : ∀ x ∈ Qs, x.n ≤ 100000) :
    Calls Try.prog 13 #[v] W fun e w' => e = .returned (.tuple #[]) ∧ Below n0 W w' := by
  obtain ⟨ao, cap, hv, _, hnil, hcap⟩ := h.own.slice
  rw [h.len] at hv
  subst hv
  cases ao with
  | none =>
    obtain ⟨hl, h0 | ⟨_, _, _, e, _⟩⟩ := h.own
    · have : n = 0 := by rw [← h.len]; exact h0.2
      subst this
      clear h hnil hcap hl h0
      go_enter Try.func13, Try.ntmps13
      go_wp2_with fail
      go_loopw [2] (fun x wr => x = .int .i64 0 ∧ wr = W) (fun _ _ => 0)
      case atStart => exact ⟨rfl, rfl⟩
      case round =>
        obtain ⟨rfl, rfl⟩ := hrel
        go_wp2
        go_end0
        exact ⟨rfl, Below.refl _ _⟩
    · cases e
  | some a =>
    obtain ⟨g, rfl⟩ : ∃ g, a = ⟨g, 0, none⟩ := by
      rcases h.own.shape with ⟨e, _⟩ | ⟨g', cap', e, _⟩
      · cases e
      · simp only [Value.slice.injEq, Option.some.injEq] at e; exact ⟨g', e.1⟩
    have H0 : Hid (SpI n0 g n Qs W W 0) := SpI.start h
    have HM : Hid (∀ j, j < n → (pd Qs j).n ≤ 100000) := fun j hj => hx _ (pd_mem (by rw [h.len]; exact hj))
    clear h hnil hcap hx
    go_enter Try.func13, Try.ntmps13
    go_wp2_with fail
    go_loopw [2] (fun x wr => ∃ i : Nat, i ≤ n ∧ x = .int .i64 (i : Int) ∧ Hid (SpI n0 g n Qs W wr i)) (fun x _ => n - (intOf x).toNat)
    case atStart => exact ⟨0, Nat.zero_le _, rfl, H0⟩
    case round =>
      clear H0
      obtain ⟨i, hi, rfl, HI⟩ := hrel
      by_cases hlt : i < n
      · have hlti : (i : Int) < (n : Int) := by omega
        have hxn := HM.out i hlt
        have HCl : Hid (∀ U, SpI n0 g n Qs W U i → U.cell? ⟨g, i * 6, none⟩ = some (.string (pd Qs i).name) ∧ U.cell? ⟨g, i * 6 + 1, none⟩ = some (.int .i64 (pd Qs i).p.args) ∧ U.cell? ⟨g, i * 6 + 2, none⟩ = some (.int .i64 (pd Qs i).p.reads) ∧ U.cell? ⟨g, i * 6 + 3, none⟩ = some (.int .i64 (pd Qs i).p.writes) ∧ U.cell? ⟨g, i * 6 + 4, none⟩ = some (.int .i64 (pd Qs i).p.locals) ∧ U.cell? ⟨g, i * 6 + 5, none⟩ = some (.slice (pd Qs i).ao (pd Qs i).n (pd Qs i).cap)) := fun U hU =>
          ⟨hU.cls i (Nat.le_refl _) hlt 0 _ rfl, hU.cls i (Nat.le_refl _) hlt 1 _ rfl, hU.cls i (Nat.le_refl _) hlt 2 _ rfl, hU.cls i (Nat.le_refl _) hlt 3 _ rfl, hU.cls i (Nat.le_refl _) hlt 4 _ rfl, hU.cls i (Nat.le_refl _) hlt 5 _ rfl⟩
        have HCd : Hid (∀ U, SpI n0 g n Qs W U i → CodX n0 g U (pd Qs i)) := fun U hU => hU.cod i hlt
        have HFz : Hid (∀ U, SpI n0 g n Qs W U i → ∀ o, U.frozen? ⟨g, o, none⟩ = false) := fun U hU o => by
          obtain ⟨cur, hr⟩ := hU.row
          exact frozen_of_row U g o _ _ hr
        generalize pd Qs i = x at *
        obtain ⟨nm, ⟨y1, y2, y3, y4⟩, xa, xn, xc, xL⟩ := x
        simp only at hxn HCl
        go_wp2_with fail
        rename_i wo
        go_loopw [3] (fun x wr => ∃ k : Nat, k ≤ xn ∧ x = .int .i64 (k : Int) ∧ Hid (SpI n0 g n Qs W wr i)) (fun x _ => xn - (intOf x).toNat)
        case atStart => exact ⟨0, Nat.zero_le _, rfl, HI⟩
        case round =>
          clear HI
          obtain ⟨k, hk, rfl, HI⟩ := hrel
          obtain ⟨c0, c1, c2, c3, c4, c5⟩ := HCl.out _ HI.out
          by_cases hkl : k < xn
          · have hkli : (k : Int) < (xn : Int) := by omega
            rcases HCd.out _ HI.out with h0 | ⟨G, e, h1, h2, cur, h3, h4⟩
            · simp only at h0; omega
            · simp only at e h4
              subst e
              have g0 : ∃ u, wr.cell? ⟨G, k * 2, none⟩ = some u := ⟨cur[k * 2]'(by omega), by simp [World.cell?, h3, Array.getElem?_eq_getElem (show k * 2 < cur.size by omega)]⟩
              have g1 : ∃ u, wr.cell? ⟨G, k * 2 + 1, none⟩ = some u := ⟨cur[k * 2 + 1]'(by omega), by simp [World.cell?, h3, Array.getElem?_eq_getElem (show k * 2 + 1 < cur.size by omega)]⟩
              obtain ⟨u0, g0⟩ := g0
              obtain ⟨u1, g1⟩ := g1
              have f0 := frozen_of_row wr G (k * 2) _ _ h3
              have f1 := frozen_of_row wr G (k * 2 + 1) _ _ h3
              have HI2 : Hid (SpI n0 g n Qs W ((wr.setCell ⟨G, k * 2, none⟩ (.int .i64 36)).setCell ⟨G, k * 2 + 1, none⟩ (.int .i64 0)) i) := (HI.out.code G _ _ h1 h2).code G _ _ h1 h2
              clear HI h1 h2 h3 h4
              go_wp2
              go_roundw
              case rel => exact ⟨k + 1, by omega, by go_num, HI2⟩
              case measure => simp [intOf]; omega
          · obtain rfl : k = xn := by omega
            have f0 := HFz.out _ HI.out (i * 6)
            have f1 := HFz.out _ HI.out (i * 6 + 1)
            have f2 := HFz.out _ HI.out (i * 6 + 2)
            have f3 := HFz.out _ HI.out (i * 6 + 3)
            have f4 := HFz.out _ HI.out (i * 6 + 4)
            have f5 := HFz.out _ HI.out (i * 6 + 5)
            have HI2 : Hid (SpI n0 g n Qs W ((((((wr.setCell ⟨g, i * 6, none⟩ (.string ⟨#[]⟩)).setCell ⟨g, i * 6 + 1, none⟩ (.int .i64 0)).setCell ⟨g, i * 6 + 2, none⟩ (.int .i64 0)).setCell ⟨g, i * 6 + 3, none⟩ (.int .i64 0)).setCell ⟨g, i * 6 + 4, none⟩ (.int .i64 0)).setCell ⟨g, i * 6 + 5, none⟩ (.slice none 0 0)) (i + 1)) :=
              (((((HI.out.up.proc _ _ (by omega)).proc _ _ (by omega)).proc _ _ (by omega)).proc _ _ (by omega)).proc _ _ (by omega)).proc _ _ (by omega)
            clear HI
            go_wp2
            go_roundw
            case rel => exact ⟨i + 1, by omega, by go_num, HI2⟩
            case measure => simp [intOf]; omega
      · obtain rfl : i = n := by omega
        go_wp2
        go_end0
        exact ⟨rfl, HI.out.bel⟩
end Go.Proofs.Ytkpggbjibngplaa
