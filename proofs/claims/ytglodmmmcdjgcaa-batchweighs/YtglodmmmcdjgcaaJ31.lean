import Derived.Test.YtglodmmmcdjgcaaJ30
/-
  fill: each set, and each list of sets, is written full with its mark.
-/
namespace Go.Proofs.Ytglodmmmcdjgcaa.Kk
open Go.RowKit Go.Sort

section
variable {w0 W W' : World} {B : Nat} {aK : Option Addr} {cK : Nat} {aO : Option Addr} {cO : Nat} {Ks : List Ic} {Os : List It}
theorem SW.setCells (h : SW w0 W B aK cK aO cO Ks Os) (g : Nat) (h1 : w0.heap.size ≤ g) (h2 : g < B) : ∀ (vs : List Value) (o : Nat), SW w0 (W.setCells g o vs) B aK cK aO cO Ks Os := by
  intro vs
  induction vs generalizing W with
  | nil => intro o; exact h
  | cons v r ih => intro o; exact ih (h.set g o v h1 h2) (o + 1)
theorem OUp.zero (W : World) (H : Nat) (L : List It) : OUp W H L 0 := fun i' _ h => by omega
theorem OUp.step {H : Nat} {L : List It} {i : Nat} (h : OUp W H L i) (hi : i < L.length) (hm : ∀ g, L[i].1 = some g → OMk W H g L[i].2 i) : OUp W H L (i + 1) := fun i' hl hi' g e => by
  by_cases e2 : i' = i
  · subst e2; exact hm g e
  · exact h i' hl (by omega) g e
theorem OUp.same {H : Nat} {L : List It} {i : Nat} (h : OUp W H L i) (hs : ∀ i' (h : i' < L.length), i' < i → ∀ g, L[i'].1 = some g → W'.heap[g]? = W.heap[g]?) (hH : ∀ G, H ≤ G → G < W.heap.size → W'.heap[G]? = W.heap[G]?) : OUp W' H L i := fun i' hl hi g e => (h i' hl hi g e).same (hs i' hl hi g e) hH
theorem it_at {W : World} {T : TypeId} {sz lo hi : Nat} {x : It} {g : Nat} (h : Rw W T sz lo hi x) (e : x.1 = some g) : lo ≤ g ∧ g < hi ∧ ∃ cur, W.heap[g]? = some (.cells cur T (0, 0)) ∧ cur.size = x.2 * sz := by
  obtain ⟨o, n⟩ := x
  simp only at e
  subst e
  exact h.at
theorem ic_at {W : World} {lo hi : Nat} {x : Ic} {g : Nat} (h : Rc W lo hi x) (e : x.1 = some g) : lo ≤ g ∧ g < hi ∧ ∃ cur, W.heap[g]? = some (.cells cur 47 (0, 0)) := by
  obtain ⟨o, n, c⟩ := x
  simp only at e
  subst e
  obtain ⟨h1, h2, _, _, cur, h3, _⟩ := h.at
  exact ⟨h1, h2, cur, h3⟩
/-- a new block beside the shelf, and a store of its address into the i-th list of sets -/
theorem outer_put {i k g m : Nat} (h : SW w0 W B aK cK aO cO Ks Os) (hu : UpC W Ks Ks.length) (ho : OUp W (B + 1) Os i) (hil : i < Os.length) (e : Os[i] = (some g, m)) (hk : k < m) (hm : OMk W (B + 1) g k i) (hW : W' = (W.alloc (.cells #[.int .i64 (-50 - (i : Int)), .int .i64 0] 47)).setCell ⟨g, k, none⟩ (.slice (some ⟨W.heap.size, 0, none⟩) 1 1)) :
    SW w0 W' B aK cK aO cO Ks Os ∧ UpC W' Ks Ks.length ∧ OUp W' (B + 1) Os i ∧ OMk W' (B + 1) g (k + 1) i := by
  have hr := h.rO _ (List.getElem_mem hil)
  rw [e] at hr
  obtain ⟨g1, g2, cur, hc, hcs⟩ := hr.at
  have hB := h.lt
  obtain ⟨W1, hW1⟩ : ∃ W1, W1 = W.alloc (.cells #[.int .i64 (-50 - (i : Int)), .int .i64 0] 47) := ⟨_, rfl⟩
  have hb1 : Below W.heap.size W W1 := by rw [hW1]; exact (Below.refl _ _).alloc (Nat.le_refl _) _
  have hn1 : W1.heap[W.heap.size]? = some (.cells #[.int .i64 (-50 - (i : Int)), .int .i64 0] 47 (0, 0)) := by rw [hW1]; exact heap_alloc_new _ _ rfl
  rw [← hW1] at hW
  have hoth : ∀ G, G ≠ g → W'.heap[G]? = W1.heap[G]? := fun G hG => by rw [hW]; exact heap_setCell_other W1 ⟨g, k, none⟩ G _ hG
  have hc1 : W1.heap[g]? = some (.cells cur 30 (0, 0)) := (hb1.block g (by omega)).trans hc
  have hold : ∀ G, G < W.heap.size → G ≠ g → W'.heap[G]? = W.heap[G]? := fun G h1 h2 => (hoth G h2).trans (hb1.block G h1)
  refine ⟨by rw [hW]; exact (h.kept hb1).set g k _ g1 g2, hu.other (fun i' hl _ x ex => ?_), ho.same (fun i' hl hi' x ex => ?_) (fun G h1 h2 => hold G h2 (by omega)), fun j hj => ?_⟩
  · obtain ⟨x1, x2, cx, hx⟩ := ic_at (h.rK _ (List.getElem_mem hl)) ex
    exact hold x (by omega) (ne_of_type hx hc (by decide))
  · have h1 := it_at (h.rO _ (List.getElem_mem hl)) ex
    exact hold x (by omega) (h.sO.ne hl hil (by omega) ex (by rw [e]))
  · by_cases ej : j = k
    · subst ej
      refine ⟨W.heap.size, ?_, by omega, (hoth _ (by omega)).trans hn1⟩
      have h3 : W'.heap[g]? = some (.cells (cur.setIfInBounds j (.slice (some ⟨W.heap.size, 0, none⟩) 1 1)) 30 (0, 0)) := by rw [hW]; exact heap_setCell_same W1 g j _ _ _ hc1
      simp only [World.cell?, h3]
      have : j < cur.size := by rw [hcs]; simpa using hk
      simp [this]
    · obtain ⟨x, h1, h2, h3⟩ := hm j (by omega)
      have hx := (Array.getElem?_eq_some_iff.1 h3).1
      refine ⟨x, ?_, h2, (hold x hx (by omega)).trans h3⟩
      have h4 : W'.heap[g]? = some (.cells (cur.setIfInBounds k (.slice (some ⟨W.heap.size, 0, none⟩) 1 1)) 30 (0, 0)) := by rw [hW]; exact heap_setCell_same W1 g k _ _ _ hc1
      simp only [World.cell?, h4]
      simp only [World.cell?, hc] at h1
      simp only [Array.getElem?_setIfInBounds, if_neg (Ne.symm ej)]
      exact h1
end

set_option maxRecDepth 100000 in
set_option maxHeartbeats 4000000 in
theorem fillV_any (w0 w : World) (B : Nat) (aK : Option Addr) (cK : Nat) (aO : Option Addr) (cO : Nat) (Ks : List Ic) (Os : List It) (nK nO : Nat) (hK : nK = Ks.length) (hO : nO = Os.length) (h : SW w0 w B aK cK aO cO Ks Os) :
    Calls Try.prog 20 #[.pointer (some ⟨B, 0, none⟩)] w fun e w' => e = .returned (.tuple #[]) ∧ SW w0 w' B aK cK aO cO Ks Os ∧ UpC w' Ks Ks.length ∧ OUp w' (B + 1) Os Os.length := by
  have HS0 : Hid (SW w0 w B aK cK aO cO Ks Os) := h
  have HL : Hid (nK = Ks.length ∧ nO = Os.length) := ⟨hK, hO⟩
  have hn : nK ≤ 200000 ∧ nO ≤ 2 := by have := h.n; omega
  have HC : Hid (∀ W, SW w0 W B aK cK aO cO Ks Os → W.cell? ⟨B, 0, none⟩ = some (.slice none 0 0) ∧ W.cell? ⟨B, 1, none⟩ = some (.slice aK nK cK) ∧ W.cell? ⟨B, 2, none⟩ = some (.slice none 0 0) ∧ W.cell? ⟨B, 3, none⟩ = some (.slice aO nO cO) ∧ W.cell? ⟨B, 4, none⟩ = some (.slice none 0 0)) := fun W hW => by rw [hK, hO]; exact hW.cells
  clear h hK hO
  go_enter Try.func20, Try.ntmps20
  go_wp2_with fail
  go_loopw [2] (fun x wr => ∃ i : Nat, i ≤ nK ∧ x = .int .i64 (i : Int) ∧ Hid (SW w0 wr B aK cK aO cO Ks Os) ∧ Hid (UpC wr Ks i)) (fun x _ => nK - (intOf x).toNat)
  case atStart => exact ⟨0, Nat.zero_le _, rfl, HS0, UpC.zero _ _⟩
  case round =>
    clear HS0
    obtain ⟨i, hi, rfl, HS, HU⟩ := hrel
    obtain ⟨c0, c1, c2, c3, c4⟩ := HC.out wr HS.out
    by_cases hlt : i < nK
    · have hil : i < Ks.length := by have := HL.out.1; omega
      have HEl : Hid (∀ W, SW w0 W B aK cK aO cO Ks Os → ∃ hg, aK = some ⟨hg, 0, none⟩ ∧ W.cell? ⟨hg, i, none⟩ = some (icv Ks[i])) := fun W hW => hW.elK i hil
      obtain ⟨hg, ha, ce⟩ := HEl.out wr HS.out
      have HRw : Hid (∀ W, SW w0 W B aK cK aO cO Ks Os → Rc W w0.heap.size B Ks[i]) := fun W hW => hW.rK _ (List.getElem_mem hil)
      have HNe : Hid (∀ g, Ks[i].1 = some g → ∀ i' (h : i' < Ks.length), i' < i → ∀ x, Ks[i'].1 = some x → x ≠ g) := fun g eg i' hl' hi' x ex => HS.out.sK.ne hl' hil (by omega) ex eg
      have hm64 : Ks[i].2.1 ≤ 100000 := HS.out.lK _ (List.getElem_mem hil)
      have HSt2 : Hid (∀ W, UpC W Ks i → (∀ g, Ks[i].1 = some g → Mrk W g 2 Ks[i].2.1 (patK i)) → UpC W Ks (i + 1)) := fun W hu hm => hu.step hil hm
      have HM0 : Hid (∀ g, Ks[i].1 = some g → Mrk wr g 2 0 (patK i)) := fun g _ => Mrk.zero _ _ _ _
      generalize Ks[i] = it at *
      have HA : Hid (aK = some ⟨hg, 0, none⟩) := ha
      rw [ha] at c1
      clear hil ha
      obtain ⟨og, m, mc⟩ := it
      simp only at hm64 HSt2 HM0 HNe
      obtain ⟨ao, hao⟩ : ∃ ao, icv (og, m, mc) = .slice ao m mc := ⟨_, rfl⟩
      have HAo : Hid (∀ g, og = some g → ao = some ⟨g, 0, none⟩) := fun g e => by subst e; simp [icv] at hao; exact hao.symm
      rw [hao] at ce
      have HCe : Hid (∀ W, SW w0 W B aK cK aO cO Ks Os → W.cell? ⟨hg, i, none⟩ = some (.slice ao m mc)) := fun W hW => by
        obtain ⟨hg', e, c⟩ := HEl.out W hW
        rw [HA.out] at e
        simp only [Option.some.injEq, Addr.mk.injEq, and_true] at e
        rw [← e, hao] at c
        exact c
      clear hao HEl
      go_wp2_with fail
      clear c0 c1 c2 c3 c4 ce
      go_loopw [3] (fun x wi => ∃ k : Nat, k ≤ m ∧ x = .int .i64 (k : Int) ∧ Hid (SW w0 wi B aK cK aO cO Ks Os) ∧ Hid (UpC wi Ks i ∧ ∀ g, og = some g → Mrk wi g 2 k (patK i))) (fun x _ => m - (intOf x).toNat)
      case atStart => exact ⟨0, Nat.zero_le _, rfl, HS, HU.out, HM0.out⟩
      case round =>
        clear HS HU HM0
        generalize wr = wi at *
        obtain ⟨k, hk, rfl, HS1, HU⟩ := hrel
        have HS2 : Hid (SW w0 wi B aK cK aO cO Ks Os ∧ True) := ⟨HS1.out, trivial⟩
        obtain ⟨c0, c1, c2, c3, c4⟩ := HC.out wi HS2.out.1
        rw [HA.out] at c1
        have ce := HCe.out wi HS2.out.1
        by_cases hlt : k < m
        · cases og with
          | none => have := (HRw.out wi HS2.out.1).nat0; omega
          | some g =>
            have hao := HAo.out g rfl
            subst hao
            obtain ⟨hg1, hg2, hmc, _, cur, hc, hcs⟩ := (HRw.out wi HS2.out.1).at
            have hltc : k < mc := by omega
            obtain ⟨u0, e0⟩ := row_cells hc hcs hltc (show 0 < 2 by omega)
            obtain ⟨u1, e1⟩ := row_cells hc hcs hltc (show 1 < 2 by omega)
            rw [Nat.add_zero] at e0
            have f0 := frozen_of_row wi g (k * 2) _ _ hc
            have f1 := frozen_of_row wi g (k * 2 + 1) _ _ hc
            have HS3 : Hid (SW w0 ((wi.setCell ⟨g, k * 2, none⟩ (.int .i64 (-50 - (i : Int)))).setCell ⟨g, k * 2 + 1, none⟩ (.int .i64 0)) B aK cK aO cO Ks Os) := by
              have hw : wi.setCells g (k * 2) (patK i) = (wi.setCell ⟨g, k * 2, none⟩ (.int .i64 (-50 - (i : Int)))).setCell ⟨g, k * 2 + 1, none⟩ (.int .i64 0) := rfl
              rw [← hw]
              exact HS2.out.1.setCells g hg1 hg2 _ _
            have HU3 : Hid (UpC ((wi.setCell ⟨g, k * 2, none⟩ (.int .i64 (-50 - (i : Int)))).setCell ⟨g, k * 2 + 1, none⟩ (.int .i64 0)) Ks i ∧ ∀ g', some g = some g' → Mrk ((wi.setCell ⟨g, k * 2, none⟩ (.int .i64 (-50 - (i : Int)))).setCell ⟨g, k * 2 + 1, none⟩ (.int .i64 0)) g' 2 (k + 1) (patK i)) := by
              have hw : wi.setCells g (k * 2) (patK i) = (wi.setCell ⟨g, k * 2, none⟩ (.int .i64 (-50 - (i : Int)))).setCell ⟨g, k * 2 + 1, none⟩ (.int .i64 0) := rfl
              rw [← hw]
              refine ⟨HU.out.1.other (fun i' hl hi' x ex => setCells_oth g _ _ wi x (HNe.out g rfl i' hl hi' x ex)), fun g' e => ?_⟩
              cases e
              exact (HU.out.2 g rfl).more rfl (fun t ht => by obtain ⟨u, hu⟩ := row_cells hc hcs hltc ht; rw [hu]; rfl)
            clear HS1 HS2 HU hc hcs hg1 hg2 hmc hltc
            go_wp2_with fail
            exact ⟨⟨k + 1, by omega, by go_num, HS3, HU3⟩, by simp [intOf]; omega⟩
        · obtain rfl : k = m := by omega
          have HUn : Hid (UpC wi Ks (i + 1)) := HSt2.out wi HU.out.1 HU.out.2
          clear HU HS2
          go_wp2_with fail
          exact ⟨⟨i + 1, by omega, by go_num, HS1, HUn⟩, by simp [intOf]; omega⟩
    · obtain rfl : i = nK := by omega
      have HQ : Hid (SW w0 wr B aK cK aO cO Ks Os ∧ UpC wr Ks Ks.length) := by have h1 := HS.out; have h2 := HU.out; rw [HL.out.1] at h2; exact ⟨h1, h2⟩
      clear HS HU hlt
      go_wp2_with fail
      clear c0 c1 c2 c3 c4
      generalize wr = wy at *
      go_loopw [4] (fun x wr => x = .int .i64 0 ∧ Hid (SW w0 wr B aK cK aO cO Ks Os ∧ UpC wr Ks Ks.length)) (fun _ _ => 0)
      case atStart => exact ⟨rfl, HQ⟩
      case round =>
        clear HQ
        obtain ⟨rfl, HQ⟩ := hrel
        obtain ⟨c0, c1, c2, c3, c4⟩ := HC.out wr HQ.out.1
        go_wp2_with fail
        clear c0 c1 c2 c3 c4
        generalize wr = wy at *
        go_loopw [6] (fun x wr => x = .int .i64 0 ∧ Hid (SW w0 wr B aK cK aO cO Ks Os ∧ UpC wr Ks Ks.length)) (fun _ _ => 0)
        case atStart => exact ⟨rfl, HQ⟩
        case round =>
          clear HQ
          obtain ⟨rfl, HQ⟩ := hrel
          obtain ⟨c0, c1, c2, c3, c4⟩ := HC.out wr HQ.out.1
          go_wp2_with fail
          clear c0 c1 c2 c3 c4
          generalize wr = wy at *
          go_loopw [8] (fun x wr => x = .int .i64 0 ∧ Hid (SW w0 wr B aK cK aO cO Ks Os ∧ UpC wr Ks Ks.length)) (fun _ _ => 0)
          case atStart => exact ⟨rfl, HQ⟩
          case round =>
            clear HQ
            obtain ⟨rfl, HQ⟩ := hrel
            obtain ⟨c0, c1, c2, c3, c4⟩ := HC.out wr HQ.out.1
            go_wp2_with fail
            clear c0 c1 c2 c3 c4
            generalize wr = wy at *
            go_loopw [10] (fun x wr => ∃ i : Nat, i ≤ nO ∧ x = .int .i64 (i : Int) ∧ Hid (SW w0 wr B aK cK aO cO Ks Os ∧ UpC wr Ks Ks.length) ∧ Hid (OUp wr (B + 1) Os i)) (fun x _ => nO - (intOf x).toNat)
            case atStart => exact ⟨0, Nat.zero_le _, rfl, HQ, OUp.zero _ _ _⟩
            case round =>
              clear HQ
              obtain ⟨i, hi, rfl, HQ, HU⟩ := hrel
              obtain ⟨c0, c1, c2, c3, c4⟩ := HC.out wr HQ.out.1
              by_cases hlt : i < nO
              · have hil : i < Os.length := by have := HL.out.2; omega
                have HEl : Hid (∀ W, SW w0 W B aK cK aO cO Ks Os → ∃ hg, aO = some ⟨hg, 0, none⟩ ∧ W.cell? ⟨hg, i, none⟩ = some (itv Os[i])) := fun W hW => hW.oO.el i hil
                obtain ⟨hg, ha, ce⟩ := HEl.out wr HQ.out.1
                have HRw : Hid (∀ W, SW w0 W B aK cK aO cO Ks Os → Rw W 30 1 w0.heap.size B Os[i]) := fun W hW => hW.rO _ (List.getElem_mem hil)
                have hm64 : Os[i].2 ≤ 100000 := HQ.out.1.lO _ (List.getElem_mem hil)
                have HSt2 : Hid (∀ W, OUp W (B + 1) Os i → (∀ g, Os[i].1 = some g → OMk W (B + 1) g Os[i].2 i) → OUp W (B + 1) Os (i + 1)) := fun W hu hm => hu.step hil hm
                have HM0 : Hid (∀ g, Os[i].1 = some g → OMk wr (B + 1) g 0 i) := fun g _ j hj => by omega
                have HPut : Hid (∀ g m k W W', Os[i] = (some g, m) → k < m → SW w0 W B aK cK aO cO Ks Os → UpC W Ks Ks.length → OUp W (B + 1) Os i → OMk W (B + 1) g k i → W' = (W.alloc (.cells #[.int .i64 (-50 - (i : Int)), .int .i64 0] 47)).setCell ⟨g, k, none⟩ (.slice (some ⟨W.heap.size, 0, none⟩) 1 1) → SW w0 W' B aK cK aO cO Ks Os ∧ UpC W' Ks Ks.length ∧ OUp W' (B + 1) Os i ∧ OMk W' (B + 1) g (k + 1) i) := fun g m k W W' e hk h1 h2 h3 h4 h5 => outer_put h1 h2 h3 hil e hk h4 h5
                generalize Os[i] = it at *
                have HA : Hid (aO = some ⟨hg, 0, none⟩) := ha
                rw [ha] at c3
                clear hil ha
                obtain ⟨og, m⟩ := it
                simp only at hm64 HSt2 HM0
                obtain ⟨ao, hao⟩ : ∃ ao, itv (og, m) = .slice ao m m := ⟨_, rfl⟩
                have HAo : Hid (∀ g, og = some g → ao = some ⟨g, 0, none⟩) := fun g e => by subst e; rw [itv_some] at hao; simp at hao; exact hao.symm
                rw [hao] at ce
                have HCe : Hid (∀ W, SW w0 W B aK cK aO cO Ks Os → W.cell? ⟨hg, i, none⟩ = some (.slice ao m m)) := fun W hW => by
                  obtain ⟨hg', e, c⟩ := HEl.out W hW
                  rw [HA.out] at e
                  simp only [Option.some.injEq, Addr.mk.injEq, and_true] at e
                  rw [← e, hao] at c
                  exact c
                clear hao HEl
                go_wp2_with fail
                clear c0 c1 c2 c3 c4 ce
                go_loopw [11] (fun x wi => ∃ k : Nat, k ≤ m ∧ x = .int .i64 (k : Int) ∧ Hid (SW w0 wi B aK cK aO cO Ks Os ∧ UpC wi Ks Ks.length) ∧ Hid (OUp wi (B + 1) Os i ∧ ∀ g, og = some g → OMk wi (B + 1) g k i)) (fun x _ => m - (intOf x).toNat)
                case atStart => exact ⟨0, Nat.zero_le _, rfl, HQ, HU.out, HM0.out⟩
                case round =>
                  clear HQ HU HM0
                  generalize wr = wi at *
                  obtain ⟨k, hk, rfl, HQ, HU⟩ := hrel
                  obtain ⟨c0, c1, c2, c3, c4⟩ := HC.out wi HQ.out.1
                  rw [HA.out] at c3
                  have ce := HCe.out wi HQ.out.1
                  by_cases hlt : k < m
                  · cases og with
                    | none => have := nat0 (HRw.out wi HQ.out.1); omega
                    | some g =>
                      have hao := HAo.out g rfl
                      subst hao
                      obtain ⟨hg1, hg2, cur, hc, hcs⟩ := (HRw.out wi HQ.out.1).at
                      have hgl : g < wi.heap.size := by have := HQ.out.1.lt; omega
                      have hca : (wi.alloc (.cells #[.int .i64 (-50 - (i : Int)), .int .i64 0] 47)).heap[g]? = some (.cells cur 30 (0, 0)) := (heap_alloc_old _ _ hgl).trans hc
                      obtain ⟨u0, e0⟩ := row_cells hca hcs hlt (show 0 < 1 by omega)
                      rw [Nat.add_zero, Nat.mul_one] at e0
                      have f0 := frozen_of_row (wi.alloc (.cells #[.int .i64 (-50 - (i : Int)), .int .i64 0] 47)) g k _ _ hca
                      have HP := HPut.out g m k wi _ rfl hlt HQ.out.1 HQ.out.2 HU.out.1 (HU.out.2 g rfl) rfl
                      have HQ3 : Hid (SW w0 ((wi.alloc (.cells #[.int .i64 (-50 - (i : Int)), .int .i64 0] 47)).setCell ⟨g, k, none⟩ (.slice (some ⟨wi.heap.size, 0, none⟩) 1 1)) B aK cK aO cO Ks Os ∧ UpC ((wi.alloc (.cells #[.int .i64 (-50 - (i : Int)), .int .i64 0] 47)).setCell ⟨g, k, none⟩ (.slice (some ⟨wi.heap.size, 0, none⟩) 1 1)) Ks Ks.length) := ⟨HP.1, HP.2.1⟩
                      have HU3 : Hid (OUp ((wi.alloc (.cells #[.int .i64 (-50 - (i : Int)), .int .i64 0] 47)).setCell ⟨g, k, none⟩ (.slice (some ⟨wi.heap.size, 0, none⟩) 1 1)) (B + 1) Os i ∧ ∀ g', some g = some g' → OMk ((wi.alloc (.cells #[.int .i64 (-50 - (i : Int)), .int .i64 0] 47)).setCell ⟨g, k, none⟩ (.slice (some ⟨wi.heap.size, 0, none⟩) 1 1)) (B + 1) g' (k + 1) i) := ⟨HP.2.2.1, fun g' e => by cases e; exact HP.2.2.2⟩
                      clear HQ HU hc hcs hg1 hg2 HP hca hgl
                      go_wp2_with fail
                      exact ⟨⟨k + 1, by omega, by go_num, HQ3, HU3⟩, by simp [intOf]; omega⟩
                  · obtain rfl : k = m := by omega
                    have HUn : Hid (OUp wi (B + 1) Os (i + 1)) := HSt2.out wi HU.out.1 HU.out.2
                    clear HU
                    go_wp2_with fail
                    exact ⟨⟨i + 1, by omega, by go_num, HQ, HUn⟩, by simp [intOf]; omega⟩
              · obtain rfl : i = nO := by omega
                have HF : Hid (OUp wr (B + 1) Os Os.length) := by have h2 := HU.out; rw [HL.out.2] at h2; exact h2
                clear HU hlt
                go_wp2
                go_end0
                exact ⟨rfl, HQ.out.1, HQ.out.2, HF.out⟩
end Go.Proofs.Ytglodmmmcdjgcaa.Kk
