import Derived.Test.YtglodmmmcdjgcaaJ22
import Derived.Laws.IdiomCopy
/-
  fill: each list is written full with its mark.
-/
namespace Go.Proofs.Ytglodmmmcdjgcaa.Kk
open Go.RowKit Go.Sort

/-- the first k elements of a row are 'pat' -/
def Mrk (W : World) (g sz k : Nat) (pat : List Value) : Prop := ∀ j, j < k → ∀ t u, pat[t]? = some u → W.cell? ⟨g, j * sz + t, none⟩ = some u
def patK (i : Nat) : List Value := [.int .i64 (-50 - (i : Int)), .int .i64 0]
def patI (i : Nat) : List Value := [.int .i64 (-50 - (i : Int))]
def patT (i : Nat) : List Value := [.int .i64 (-50 - (i : Int)), .slice none 0 0, .slice none 0 0, .slice none 0 0]
/-- the first i lists are marked -/
def Up (W : World) (sz : Nat) (pat : Nat → List Value) (L : List It) (i : Nat) : Prop := ∀ i' (h : i' < L.length), i' < i → ∀ g, L[i'].1 = some g → Mrk W g sz L[i'].2 (pat i')
theorem Mrk.zero (W : World) (g sz : Nat) (pat : List Value) : Mrk W g sz 0 pat := fun j hj => by omega
theorem Mrk.other {W W' : World} {g sz k : Nat} {pat : List Value} (h : Mrk W g sz k pat) (hs : W'.heap[g]? = W.heap[g]?) : Mrk W' g sz k pat := fun j hj t u hu => by
  have := h j hj t u hu
  simp only [World.cell?] at this ⊢
  rw [hs]; exact this
theorem Mrk.more {W : World} {g sz k : Nat} {pat : List Value} (h : Mrk W g sz k pat) (hl : pat.length = sz) (hs : ∀ j, j < sz → (W.cell? ⟨g, k * sz + j, none⟩).isSome = true) : Mrk (W.setCells g (k * sz) pat) g sz (k + 1) pat := fun j hj t u hu => by
  have ht : t < pat.length := (List.getElem?_eq_some_iff.1 hu).1
  by_cases e : j = k
  · subst e
    rw [World.cell?_setCells_in g pat (j * sz) W (fun t h => hs t (by omega)) t ht, ← hu, List.getElem?_eq_getElem ht]
  · have h1 : j * sz + sz ≤ k * sz := by
      have : (j + 1) * sz ≤ k * sz := Nat.mul_le_mul_right _ (by omega)
      rw [Nat.add_mul, Nat.one_mul] at this
      exact this
    rw [World.cell?_setCells_out g pat (k * sz) W _ (fun _ _ => .inl (by show j * sz + t < k * sz; omega))]
    exact h j (by omega) t u hu
theorem setCells_oth (g : Nat) : ∀ (vs : List Value) (o : Nat) (W : World) (k : Nat), k ≠ g → (W.setCells g o vs).heap[k]? = W.heap[k]?
  | [], _, _, _, _ => rfl
  | v :: r, o, W, k, h => by
    rw [World.setCells, setCells_oth g r (o + 1) _ k h]
    exact heap_setCell_other W ⟨g, o, none⟩ k v h
theorem Up.other {W W' : World} {sz : Nat} {pat : Nat → List Value} {L : List It} {i : Nat} (h : Up W sz pat L i) (hs : ∀ i' (h : i' < L.length), i' < i → ∀ g, L[i'].1 = some g → W'.heap[g]? = W.heap[g]?) : Up W' sz pat L i := fun i' hl hi g e => (h i' hl hi g e).other (hs i' hl hi g e)
theorem Up.step {W : World} {sz : Nat} {pat : Nat → List Value} {L : List It} {i : Nat} (h : Up W sz pat L i) (hi : i < L.length) (hm : ∀ g, L[i].1 = some g → Mrk W g sz L[i].2 (pat i)) : Up W sz pat L (i + 1) := fun i' hl hi' g e => by
  by_cases e2 : i' = i
  · subst e2; exact hm g e
  · exact h i' hl (by omega) g e
theorem Up.zero (W : World) (sz : Nat) (pat : Nat → List Value) (L : List It) : Up W sz pat L 0 := fun i' _ h => by omega
section
variable {w0 W W' : World} {B : Nat} {aB : Option Addr} {cB : Nat} {aK : Option Addr} {cK : Nat} {aI : Option Addr} {cI : Nat} {Bs Ks Is : List It}
theorem SH.setCells (h : SH w0 W B aB cB aK cK aI cI Bs Ks Is) (g : Nat) (h1 : w0.heap.size ≤ g) (h2 : g < B) : ∀ (vs : List Value) (o : Nat), SH w0 (W.setCells g o vs) B aB cB aK cK aI cI Bs Ks Is := by
  intro vs
  induction vs generalizing W with
  | nil => intro o; exact h
  | cons v r ih => intro o; exact ih (h.set g o v h1 h2) (o + 1)
end
theorem row_cells {W : World} {g n sz : Nat} {cur : Array Value} {T : TypeId} (h : W.heap[g]? = some (.cells cur T (0, 0))) (hs : cur.size = n * sz) {k t : Nat} (hk : k < n) (ht : t < sz) : ∃ u, W.cell? ⟨g, k * sz + t, none⟩ = some u := by
  have h1 : k * sz + sz ≤ n * sz := by
    have : (k + 1) * sz ≤ n * sz := Nat.mul_le_mul_right _ (by omega)
    rw [Nat.add_mul, Nat.one_mul] at this
    exact this
  refine ⟨cur[k * sz + t]'(by omega), ?_⟩
  simp only [World.cell?, h]
  simp [show k * sz + t < cur.size by omega]
theorem itv_none {n : Nat} : itv (none, n) = .slice none n n := rfl
theorem itv_some {g n : Nat} : itv (some g, n) = .slice (some ⟨g, 0, none⟩) n n := rfl
theorem nat0 {n : Nat} {W : World} {T : TypeId} {sz lo hi : Nat} (h : Rw W T sz lo hi (none, n)) : n = 0 := h

set_option maxRecDepth 100000 in
set_option maxHeartbeats 4000000 in
theorem fill_any (w0 w : World) (B : Nat) (aB : Option Addr) (cB : Nat) (aK : Option Addr) (cK : Nat) (aI : Option Addr) (cI : Nat) (Bs Ks Is : List It) (nB nK nI : Nat) (hB : nB = Bs.length) (hK : nK = Ks.length) (hI : nI = Is.length) (h : SH w0 w B aB cB aK cK aI cI Bs Ks Is) :
    Calls Try.prog 20 #[.pointer (some ⟨B, 0, none⟩)] w fun e w' => e = .returned (.tuple #[]) ∧ SH w0 w' B aB cB aK cK aI cI Bs Ks Is ∧ Up w' 2 patK Ks Ks.length ∧ Up w' 1 patI Is Is.length ∧ Up w' 4 patT Bs Bs.length := by
  have HS0 : Hid (SH w0 w B aB cB aK cK aI cI Bs Ks Is) := h
  have HL : Hid (nB = Bs.length ∧ nK = Ks.length ∧ nI = Is.length) := ⟨hB, hK, hI⟩
  have hn : nB ≤ 64 ∧ nK ≤ 1000 ∧ nI ≤ 1000 := by have := h.n; omega
  have HC : Hid (∀ W, SH w0 W B aB cB aK cK aI cI Bs Ks Is → W.cell? ⟨B, 0, none⟩ = some (.slice aB nB cB) ∧ W.cell? ⟨B, 1, none⟩ = some (.slice aK nK cK) ∧ W.cell? ⟨B, 2, none⟩ = some (.slice aI nI cI) ∧ W.cell? ⟨B, 3, none⟩ = some (.slice none 0 0) ∧ W.cell? ⟨B, 4, none⟩ = some (.slice none 0 0)) := fun W hW => by rw [hB, hK, hI]; exact hW.cells
  clear h hB hK hI
  go_enter Try.func20, Try.ntmps20
  go_wp2_with fail
  go_loopw [2] (fun x wr => ∃ i : Nat, i ≤ nK ∧ x = .int .i64 (i : Int) ∧ Hid (SH w0 wr B aB cB aK cK aI cI Bs Ks Is) ∧ Hid (Up wr 2 patK Ks i)) (fun x _ => nK - (intOf x).toNat)
  case atStart => exact ⟨0, Nat.zero_le _, rfl, HS0, Up.zero _ _ _ _⟩
  case round =>
    clear HS0
    obtain ⟨i, hi, rfl, HS, HU⟩ := hrel
    obtain ⟨c0, c1, c2, c3, c4⟩ := HC.out wr HS.out
    by_cases hlt : i < nK
    · have hil : i < Ks.length := by have := HL.out.2.1; omega
      have HEl : Hid (∀ W, SH w0 W B aB cB aK cK aI cI Bs Ks Is → ∃ hg, aK = some ⟨hg, 0, none⟩ ∧ W.cell? ⟨hg, i, none⟩ = some (itv Ks[i])) := fun W hW => hW.oK.el i hil
      obtain ⟨hg, ha, ce⟩ := HEl.out wr HS.out
      have HRw : Hid (∀ W, SH w0 W B aB cB aK cK aI cI Bs Ks Is → Rw W 47 2 w0.heap.size B Ks[i]) := fun W hW => hW.rK _ (List.getElem_mem hil)
      have HNe : Hid (∀ g, Ks[i].1 = some g → ∀ i' (h : i' < Ks.length), i' < i → ∀ x, Ks[i'].1 = some x → x ≠ g) := fun g eg i' hl' hi' x ex => HS.out.sK.ne hl' hil (by omega) ex eg
      have hm64 : Ks[i].2 ≤ 64 := HS.out.lK _ (List.getElem_mem hil)
      have HSt2 : Hid (∀ W, Up W 2 patK Ks i → (∀ g, Ks[i].1 = some g → Mrk W g 2 Ks[i].2 (patK i)) → Up W 2 patK Ks (i + 1)) := fun W hu hm => hu.step hil hm
      have HM0 : Hid (∀ g, Ks[i].1 = some g → Mrk wr g 2 0 (patK i)) := fun g _ => Mrk.zero _ _ _ _
      generalize Ks[i] = it at *
      have HA : Hid (aK = some ⟨hg, 0, none⟩) := ha
      rw [ha] at c1
      clear hil ha
      obtain ⟨og, m⟩ := it
      simp only at hm64 HSt2 HM0 HNe
      obtain ⟨ao, hao⟩ : ∃ ao, itv (og, m) = .slice ao m m := ⟨_, rfl⟩
      have HAo : Hid (∀ g, og = some g → ao = some ⟨g, 0, none⟩) := fun g e => by subst e; rw [itv_some] at hao; simp at hao; exact hao.symm
      rw [hao] at ce
      have HCe : Hid (∀ W, SH w0 W B aB cB aK cK aI cI Bs Ks Is → W.cell? ⟨hg, i, none⟩ = some (.slice ao m m)) := fun W hW => by
        obtain ⟨hg', e, c⟩ := HEl.out W hW
        rw [HA.out] at e
        simp only [Option.some.injEq, Addr.mk.injEq, and_true] at e
        rw [← e, hao] at c
        exact c
      clear hao HEl
      go_wp2_with fail
      clear c0 c1 c2 c3 c4 ce
      go_loopw [3] (fun x wi => ∃ k : Nat, k ≤ m ∧ x = .int .i64 (k : Int) ∧ Hid (SH w0 wi B aB cB aK cK aI cI Bs Ks Is) ∧ Hid (Up wi 2 patK Ks i ∧ ∀ g, og = some g → Mrk wi g 2 k (patK i))) (fun x _ => m - (intOf x).toNat)
      case atStart => exact ⟨0, Nat.zero_le _, rfl, HS, HU.out, HM0.out⟩
      case round =>
        clear HS HU HM0
        generalize wr = wi at *
        obtain ⟨k, hk, rfl, HS1, HU⟩ := hrel
        have HS2 : Hid (SH w0 wi B aB cB aK cK aI cI Bs Ks Is ∧ True) := ⟨HS1.out, trivial⟩
        obtain ⟨c0, c1, c2, c3, c4⟩ := HC.out wi HS2.out.1
        rw [HA.out] at c1
        have ce := HCe.out wi HS2.out.1
        by_cases hlt : k < m
        · cases og with
          | none => have := nat0 (HRw.out wi HS2.out.1); omega
          | some g =>
            have hao := HAo.out g rfl
            subst hao
            obtain ⟨hg1, hg2, cur, hc, hcs⟩ := (HRw.out wi HS2.out.1).at
            obtain ⟨u0, e0⟩ := row_cells hc hcs hlt (show 0 < 2 by omega)
            obtain ⟨u1, e1⟩ := row_cells hc hcs hlt (show 1 < 2 by omega)
            rw [Nat.add_zero] at e0
            have f0 := frozen_of_row wi g (k * 2) _ _ hc
            have f1 := frozen_of_row wi g (k * 2 + 1) _ _ hc
            have HS3 : Hid (SH w0 ((wi.setCell ⟨g, k * 2, none⟩ (.int .i64 (-50 - (i : Int)))).setCell ⟨g, k * 2 + 1, none⟩ (.int .i64 0)) B aB cB aK cK aI cI Bs Ks Is) := by
              have hw : wi.setCells g (k * 2) (patK i) = (wi.setCell ⟨g, k * 2, none⟩ (.int .i64 (-50 - (i : Int)))).setCell ⟨g, k * 2 + 1, none⟩ (.int .i64 0) := rfl
              rw [← hw]
              exact HS2.out.1.setCells g hg1 hg2 _ _
            have HU3 : Hid (Up ((wi.setCell ⟨g, k * 2, none⟩ (.int .i64 (-50 - (i : Int)))).setCell ⟨g, k * 2 + 1, none⟩ (.int .i64 0)) 2 patK Ks i ∧ ∀ g', some g = some g' → Mrk ((wi.setCell ⟨g, k * 2, none⟩ (.int .i64 (-50 - (i : Int)))).setCell ⟨g, k * 2 + 1, none⟩ (.int .i64 0)) g' 2 (k + 1) (patK i)) := by
              have hw : wi.setCells g (k * 2) (patK i) = (wi.setCell ⟨g, k * 2, none⟩ (.int .i64 (-50 - (i : Int)))).setCell ⟨g, k * 2 + 1, none⟩ (.int .i64 0) := rfl
              rw [← hw]
              refine ⟨HU.out.1.other (fun i' hl hi' x ex => setCells_oth g _ _ wi x (HNe.out g rfl i' hl hi' x ex)), fun g' e => ?_⟩
              cases e
              exact (HU.out.2 g rfl).more rfl (fun t ht => by obtain ⟨u, hu⟩ := row_cells hc hcs hlt ht; rw [hu]; rfl)
            clear HS1 HS2 HU hc hcs hg1 hg2
            go_wp2_with fail
            exact ⟨⟨k + 1, by omega, by go_num, HS3, HU3⟩, by simp [intOf]; omega⟩
        · obtain rfl : k = m := by omega
          have HUn : Hid (Up wi 2 patK Ks (i + 1)) := HSt2.out wi HU.out.1 HU.out.2
          clear HU HS2
          go_wp2_with fail
          exact ⟨⟨i + 1, by omega, by go_num, HS1, HUn⟩, by simp [intOf]; omega⟩
    · obtain rfl : i = nK := by omega
      have HSt : Hid (SH w0 wr B aB cB aK cK aI cI Bs Ks Is ∧ Up wr 2 patK Ks Ks.length) := by have h1 := HS.out; have h2 := HU.out; rw [HL.out.2.1] at h2; exact ⟨h1, h2⟩
      clear HS HU hlt
      go_wp2_with fail
      clear c0 c1 c2 c3 c4
      generalize wr = wy at *
      go_loopw [4] (fun x wr => ∃ i : Nat, i ≤ nI ∧ x = .int .i64 (i : Int) ∧ Hid (SH w0 wr B aB cB aK cK aI cI Bs Ks Is ∧ Up wr 2 patK Ks Ks.length) ∧ Hid (Up wr 1 patI Is i)) (fun x _ => nI - (intOf x).toNat)
      case atStart => exact ⟨0, Nat.zero_le _, rfl, HSt, Up.zero _ _ _ _⟩
      case round =>
        clear HSt
        obtain ⟨i, hi, rfl, HS, HU⟩ := hrel
        obtain ⟨c0, c1, c2, c3, c4⟩ := HC.out wr HS.out.1
        by_cases hlt : i < nI
        · have hil : i < Is.length := by have := HL.out.2.2; omega
          have HEl : Hid (∀ W, SH w0 W B aB cB aK cK aI cI Bs Ks Is → ∃ hg, aI = some ⟨hg, 0, none⟩ ∧ W.cell? ⟨hg, i, none⟩ = some (itv Is[i])) := fun W hW => hW.oI.el i hil
          obtain ⟨hg, ha, ce⟩ := HEl.out wr HS.out.1
          have HRw : Hid (∀ W, SH w0 W B aB cB aK cK aI cI Bs Ks Is → Rw W 2 1 w0.heap.size B Is[i]) := fun W hW => hW.rI _ (List.getElem_mem hil)
          have HNe : Hid (∀ g, Is[i].1 = some g → ∀ i' (h : i' < Is.length), i' < i → ∀ x, Is[i'].1 = some x → x ≠ g) := fun g eg i' hl' hi' x ex => HS.out.1.sI.ne hl' hil (by omega) ex eg
          have hm64 : Is[i].2 ≤ 64 := HS.out.1.lI _ (List.getElem_mem hil)
          have HSt2 : Hid (∀ W, Up W 1 patI Is i → (∀ g, Is[i].1 = some g → Mrk W g 1 Is[i].2 (patI i)) → Up W 1 patI Is (i + 1)) := fun W hu hm => hu.step hil hm
          have HM0 : Hid (∀ g, Is[i].1 = some g → Mrk wr g 1 0 (patI i)) := fun g _ => Mrk.zero _ _ _ _
          generalize Is[i] = it at *
          have HA : Hid (aI = some ⟨hg, 0, none⟩) := ha
          rw [ha] at c2
          clear hil ha
          obtain ⟨og, m⟩ := it
          simp only at hm64 HSt2 HM0 HNe
          obtain ⟨ao, hao⟩ : ∃ ao, itv (og, m) = .slice ao m m := ⟨_, rfl⟩
          have HAo : Hid (∀ g, og = some g → ao = some ⟨g, 0, none⟩) := fun g e => by subst e; rw [itv_some] at hao; simp at hao; exact hao.symm
          rw [hao] at ce
          have HCe : Hid (∀ W, SH w0 W B aB cB aK cK aI cI Bs Ks Is → W.cell? ⟨hg, i, none⟩ = some (.slice ao m m)) := fun W hW => by
            obtain ⟨hg', e, c⟩ := HEl.out W hW
            rw [HA.out] at e
            simp only [Option.some.injEq, Addr.mk.injEq, and_true] at e
            rw [← e, hao] at c
            exact c
          clear hao HEl
          go_wp2_with fail
          clear c0 c1 c2 c3 c4 ce
          go_loopw [5] (fun x wi => ∃ k : Nat, k ≤ m ∧ x = .int .i64 (k : Int) ∧ Hid (SH w0 wi B aB cB aK cK aI cI Bs Ks Is ∧ Up wi 2 patK Ks Ks.length) ∧ Hid (Up wi 1 patI Is i ∧ ∀ g, og = some g → Mrk wi g 1 k (patI i))) (fun x _ => m - (intOf x).toNat)
          case atStart => exact ⟨0, Nat.zero_le _, rfl, HS, HU.out, HM0.out⟩
          case round =>
            clear HS HU HM0
            generalize wr = wi at *
            obtain ⟨k, hk, rfl, HS1, HU⟩ := hrel
            have HS2 : Hid (SH w0 wi B aB cB aK cK aI cI Bs Ks Is ∧ True) := ⟨HS1.out.1, trivial⟩
            obtain ⟨c0, c1, c2, c3, c4⟩ := HC.out wi HS2.out.1
            rw [HA.out] at c2
            have ce := HCe.out wi HS2.out.1
            by_cases hlt : k < m
            · cases og with
              | none => have := nat0 (HRw.out wi HS2.out.1); omega
              | some g =>
                have hao := HAo.out g rfl
                subst hao
                obtain ⟨hg1, hg2, cur, hc, hcs⟩ := (HRw.out wi HS2.out.1).at
                obtain ⟨u0, e0⟩ := row_cells hc hcs hlt (show 0 < 1 by omega)
                rw [Nat.add_zero, Nat.mul_one] at e0
                have f0 := frozen_of_row wi g k _ _ hc
                have HS3 : Hid (SH w0 (wi.setCell ⟨g, k, none⟩ (.int .i64 (-50 - (i : Int)))) B aB cB aK cK aI cI Bs Ks Is ∧ Up (wi.setCell ⟨g, k, none⟩ (.int .i64 (-50 - (i : Int)))) 2 patK Ks Ks.length) := by
                  have hw : wi.setCells g (k * 1) (patI i) = wi.setCell ⟨g, k, none⟩ (.int .i64 (-50 - (i : Int))) := by rw [Nat.mul_one]; rfl
                  rw [← hw]
                  have hK : ∀ i' (h : i' < Ks.length), i' < Ks.length → ∀ x, Ks[i'].1 = some x → (wi.setCells g (k * 1) (patI i)).heap[x]? = wi.heap[x]? := fun i' hl _ x e => setCells_oth g _ _ wi x (by
                    have hr := HS2.out.1.rK _ (List.getElem_mem hl)
                    obtain ⟨_, m⟩ : ∃ m, Ks[i'] = (some x, m) := ⟨_, Prod.ext e rfl⟩
                    rw [m] at hr
                    obtain ⟨_, _, cx, hx, _⟩ := hr.at
                    exact ne_of_type hx hc (by decide))
                  exact ⟨HS2.out.1.setCells g hg1 hg2 _ _, HS1.out.2.other hK⟩
                have HU3 : Hid (Up (wi.setCell ⟨g, k, none⟩ (.int .i64 (-50 - (i : Int)))) 1 patI Is i ∧ ∀ g', some g = some g' → Mrk (wi.setCell ⟨g, k, none⟩ (.int .i64 (-50 - (i : Int)))) g' 1 (k + 1) (patI i)) := by
                  have hw : wi.setCells g (k * 1) (patI i) = wi.setCell ⟨g, k, none⟩ (.int .i64 (-50 - (i : Int))) := by rw [Nat.mul_one]; rfl
                  rw [← hw]
                  refine ⟨HU.out.1.other (fun i' hl hi' x ex => setCells_oth g _ _ wi x (HNe.out g rfl i' hl hi' x ex)), fun g' e => ?_⟩
                  cases e
                  exact (HU.out.2 g rfl).more rfl (fun t ht => by obtain ⟨u, hu⟩ := row_cells hc hcs hlt ht; rw [hu]; rfl)
                clear HS1 HS2 HU hc hcs hg1 hg2
                go_wp2_with fail
                exact ⟨⟨k + 1, by omega, by go_num, HS3, HU3⟩, by simp [intOf]; omega⟩
            · obtain rfl : k = m := by omega
              have HUn : Hid (Up wi 1 patI Is (i + 1)) := HSt2.out wi HU.out.1 HU.out.2
              clear HU HS2
              go_wp2_with fail
              exact ⟨⟨i + 1, by omega, by go_num, HS1, HUn⟩, by simp [intOf]; omega⟩
        · obtain rfl : i = nI := by omega
          have HSt : Hid (SH w0 wr B aB cB aK cK aI cI Bs Ks Is ∧ Up wr 2 patK Ks Ks.length ∧ Up wr 1 patI Is Is.length) := by have h1 := HS.out; have h2 := HU.out; rw [HL.out.2.2] at h2; exact ⟨h1.1, h1.2, h2⟩
          clear HS HU hlt
          go_wp2_with fail
          clear c0 c1 c2 c3 c4
          generalize wr = wy at *
          go_loopw [6] (fun x wr => x = .int .i64 0 ∧ wr = wy) (fun _ _ => 0)
          case atStart => exact ⟨rfl, rfl⟩
          case round =>
            obtain ⟨rfl, rfl⟩ := hrel
            obtain ⟨c0, c1, c2, c3, c4⟩ := HC.out wr HSt.out.1
            go_wp2_with fail
            clear c0 c1 c2 c3 c4
            generalize wr = wy at *
            go_loopw [8] (fun x wr => ∃ i : Nat, i ≤ nB ∧ x = .int .i64 (i : Int) ∧ Hid (SH w0 wr B aB cB aK cK aI cI Bs Ks Is ∧ Up wr 2 patK Ks Ks.length ∧ Up wr 1 patI Is Is.length) ∧ Hid (Up wr 4 patT Bs i)) (fun x _ => nB - (intOf x).toNat)
            case atStart => exact ⟨0, Nat.zero_le _, rfl, HSt, Up.zero _ _ _ _⟩
            case round =>
              clear HSt
              obtain ⟨i, hi, rfl, HS, HU⟩ := hrel
              obtain ⟨c0, c1, c2, c3, c4⟩ := HC.out wr HS.out.1
              by_cases hlt : i < nB
              · have hil : i < Bs.length := by have := HL.out.1; omega
                have HEl : Hid (∀ W, SH w0 W B aB cB aK cK aI cI Bs Ks Is → ∃ hg, aB = some ⟨hg, 0, none⟩ ∧ W.cell? ⟨hg, i, none⟩ = some (itv Bs[i])) := fun W hW => hW.oB.el i hil
                obtain ⟨hg, ha, ce⟩ := HEl.out wr HS.out.1
                have HRw : Hid (∀ W, SH w0 W B aB cB aK cK aI cI Bs Ks Is → Rw W 43 4 w0.heap.size B Bs[i]) := fun W hW => hW.rB _ (List.getElem_mem hil)
                have HNe : Hid (∀ g, Bs[i].1 = some g → ∀ i' (h : i' < Bs.length), i' < i → ∀ x, Bs[i'].1 = some x → x ≠ g) := fun g eg i' hl' hi' x ex => HS.out.1.sB.ne hl' hil (by omega) ex eg
                have hm64 : Bs[i].2 ≤ 64 := HS.out.1.lB _ (List.getElem_mem hil)
                have HSt2 : Hid (∀ W, Up W 4 patT Bs i → (∀ g, Bs[i].1 = some g → Mrk W g 4 Bs[i].2 (patT i)) → Up W 4 patT Bs (i + 1)) := fun W hu hm => hu.step hil hm
                have HM0 : Hid (∀ g, Bs[i].1 = some g → Mrk wr g 4 0 (patT i)) := fun g _ => Mrk.zero _ _ _ _
                generalize Bs[i] = it at *
                have HA : Hid (aB = some ⟨hg, 0, none⟩) := ha
                rw [ha] at c0
                clear hil ha
                obtain ⟨og, m⟩ := it
                simp only at hm64 HSt2 HM0 HNe
                obtain ⟨ao, hao⟩ : ∃ ao, itv (og, m) = .slice ao m m := ⟨_, rfl⟩
                have HAo : Hid (∀ g, og = some g → ao = some ⟨g, 0, none⟩) := fun g e => by subst e; rw [itv_some] at hao; simp at hao; exact hao.symm
                rw [hao] at ce
                have HCe : Hid (∀ W, SH w0 W B aB cB aK cK aI cI Bs Ks Is → W.cell? ⟨hg, i, none⟩ = some (.slice ao m m)) := fun W hW => by
                  obtain ⟨hg', e, c⟩ := HEl.out W hW
                  rw [HA.out] at e
                  simp only [Option.some.injEq, Addr.mk.injEq, and_true] at e
                  rw [← e, hao] at c
                  exact c
                clear hao HEl
                go_wp2_with fail
                clear c0 c1 c2 c3 c4 ce
                go_loopw [9] (fun x wi => ∃ k : Nat, k ≤ m ∧ x = .int .i64 (k : Int) ∧ Hid (SH w0 wi B aB cB aK cK aI cI Bs Ks Is ∧ Up wi 2 patK Ks Ks.length ∧ Up wi 1 patI Is Is.length) ∧ Hid (Up wi 4 patT Bs i ∧ ∀ g, og = some g → Mrk wi g 4 k (patT i))) (fun x _ => m - (intOf x).toNat)
                case atStart => exact ⟨0, Nat.zero_le _, rfl, HS, HU.out, HM0.out⟩
                case round =>
                  clear HS HU HM0
                  generalize wr = wi at *
                  obtain ⟨k, hk, rfl, HS1, HU⟩ := hrel
                  have HS2 : Hid (SH w0 wi B aB cB aK cK aI cI Bs Ks Is ∧ True) := ⟨HS1.out.1, trivial⟩
                  obtain ⟨c0, c1, c2, c3, c4⟩ := HC.out wi HS2.out.1
                  rw [HA.out] at c0
                  have ce := HCe.out wi HS2.out.1
                  by_cases hlt : k < m
                  · cases og with
                    | none => have := nat0 (HRw.out wi HS2.out.1); omega
                    | some g =>
                      have hao := HAo.out g rfl
                      subst hao
                      obtain ⟨hg1, hg2, cur, hc, hcs⟩ := (HRw.out wi HS2.out.1).at
                      obtain ⟨u0, e0⟩ := row_cells hc hcs hlt (show 0 < 4 by omega)
                      obtain ⟨u1, e1⟩ := row_cells hc hcs hlt (show 1 < 4 by omega)
                      obtain ⟨u2, e2⟩ := row_cells hc hcs hlt (show 2 < 4 by omega)
                      obtain ⟨u3, e3⟩ := row_cells hc hcs hlt (show 3 < 4 by omega)
                      rw [Nat.add_zero] at e0
                      have f0 := frozen_of_row wi g (k * 4) _ _ hc
                      have f1 := frozen_of_row wi g (k * 4 + 1) _ _ hc
                      have f2 := frozen_of_row wi g (k * 4 + 2) _ _ hc
                      have f3 := frozen_of_row wi g (k * 4 + 3) _ _ hc
                      have HS3 : Hid (SH w0 ((((wi.setCell ⟨g, k * 4, none⟩ (.int .i64 (-50 - (i : Int)))).setCell ⟨g, k * 4 + 1, none⟩ (.slice none 0 0)).setCell ⟨g, k * 4 + 2, none⟩ (.slice none 0 0)).setCell ⟨g, k * 4 + 3, none⟩ (.slice none 0 0)) B aB cB aK cK aI cI Bs Ks Is ∧ Up ((((wi.setCell ⟨g, k * 4, none⟩ (.int .i64 (-50 - (i : Int)))).setCell ⟨g, k * 4 + 1, none⟩ (.slice none 0 0)).setCell ⟨g, k * 4 + 2, none⟩ (.slice none 0 0)).setCell ⟨g, k * 4 + 3, none⟩ (.slice none 0 0)) 2 patK Ks Ks.length ∧ Up ((((wi.setCell ⟨g, k * 4, none⟩ (.int .i64 (-50 - (i : Int)))).setCell ⟨g, k * 4 + 1, none⟩ (.slice none 0 0)).setCell ⟨g, k * 4 + 2, none⟩ (.slice none 0 0)).setCell ⟨g, k * 4 + 3, none⟩ (.slice none 0 0)) 1 patI Is Is.length) := by
                        have hw : wi.setCells g (k * 4) (patT i) = (((wi.setCell ⟨g, k * 4, none⟩ (.int .i64 (-50 - (i : Int)))).setCell ⟨g, k * 4 + 1, none⟩ (.slice none 0 0)).setCell ⟨g, k * 4 + 2, none⟩ (.slice none 0 0)).setCell ⟨g, k * 4 + 3, none⟩ (.slice none 0 0) := rfl
                        rw [← hw]
                        have hK : ∀ i' (h : i' < Ks.length), i' < Ks.length → ∀ x, Ks[i'].1 = some x → (wi.setCells g (k * 4) (patT i)).heap[x]? = wi.heap[x]? := fun i' hl _ x e => setCells_oth g _ _ wi x (by
                          have hr := HS2.out.1.rK _ (List.getElem_mem hl)
                          obtain ⟨_, m⟩ : ∃ m, Ks[i'] = (some x, m) := ⟨_, Prod.ext e rfl⟩
                          rw [m] at hr
                          obtain ⟨_, _, cx, hx, _⟩ := hr.at
                          exact ne_of_type hx hc (by decide))
                        have hI : ∀ i' (h : i' < Is.length), i' < Is.length → ∀ x, Is[i'].1 = some x → (wi.setCells g (k * 4) (patT i)).heap[x]? = wi.heap[x]? := fun i' hl _ x e => setCells_oth g _ _ wi x (by
                          have hr := HS2.out.1.rI _ (List.getElem_mem hl)
                          obtain ⟨_, m⟩ : ∃ m, Is[i'] = (some x, m) := ⟨_, Prod.ext e rfl⟩
                          rw [m] at hr
                          obtain ⟨_, _, cx, hx, _⟩ := hr.at
                          exact ne_of_type hx hc (by decide))
                        exact ⟨HS2.out.1.setCells g hg1 hg2 _ _, HS1.out.2.1.other hK, HS1.out.2.2.other hI⟩
                      have HU3 : Hid (Up ((((wi.setCell ⟨g, k * 4, none⟩ (.int .i64 (-50 - (i : Int)))).setCell ⟨g, k * 4 + 1, none⟩ (.slice none 0 0)).setCell ⟨g, k * 4 + 2, none⟩ (.slice none 0 0)).setCell ⟨g, k * 4 + 3, none⟩ (.slice none 0 0)) 4 patT Bs i ∧ ∀ g', some g = some g' → Mrk ((((wi.setCell ⟨g, k * 4, none⟩ (.int .i64 (-50 - (i : Int)))).setCell ⟨g, k * 4 + 1, none⟩ (.slice none 0 0)).setCell ⟨g, k * 4 + 2, none⟩ (.slice none 0 0)).setCell ⟨g, k * 4 + 3, none⟩ (.slice none 0 0)) g' 4 (k + 1) (patT i)) := by
                        have hw : wi.setCells g (k * 4) (patT i) = (((wi.setCell ⟨g, k * 4, none⟩ (.int .i64 (-50 - (i : Int)))).setCell ⟨g, k * 4 + 1, none⟩ (.slice none 0 0)).setCell ⟨g, k * 4 + 2, none⟩ (.slice none 0 0)).setCell ⟨g, k * 4 + 3, none⟩ (.slice none 0 0) := rfl
                        rw [← hw]
                        refine ⟨HU.out.1.other (fun i' hl hi' x ex => setCells_oth g _ _ wi x (HNe.out g rfl i' hl hi' x ex)), fun g' e => ?_⟩
                        cases e
                        exact (HU.out.2 g rfl).more rfl (fun t ht => by obtain ⟨u, hu⟩ := row_cells hc hcs hlt ht; rw [hu]; rfl)
                      clear HS1 HS2 HU hc hcs hg1 hg2
                      go_wp2_with fail
                      exact ⟨⟨k + 1, by omega, by go_num, HS3, HU3⟩, by simp [intOf]; omega⟩
                  · obtain rfl : k = m := by omega
                    have HUn : Hid (Up wi 4 patT Bs (i + 1)) := HSt2.out wi HU.out.1 HU.out.2
                    clear HU HS2
                    go_wp2_with fail
                    exact ⟨⟨i + 1, by omega, by go_num, HS1, HUn⟩, by simp [intOf]; omega⟩
              · obtain rfl : i = nB := by omega
                have HSt : Hid (SH w0 wr B aB cB aK cK aI cI Bs Ks Is ∧ Up wr 2 patK Ks Ks.length ∧ Up wr 1 patI Is Is.length ∧ Up wr 4 patT Bs Bs.length) := by have h1 := HS.out; have h2 := HU.out; rw [HL.out.1] at h2; exact ⟨h1.1, h1.2.1, h1.2.2, h2⟩
                clear HS HU hlt
                go_wp2_with fail
                clear c0 c1 c2 c3 c4
                generalize wr = wy at *
                go_loopw [10] (fun x wr => x = .int .i64 0 ∧ wr = wy) (fun _ _ => 0)
                case atStart => exact ⟨rfl, rfl⟩
                case round =>
                  obtain ⟨rfl, rfl⟩ := hrel
                  obtain ⟨c0, c1, c2, c3, c4⟩ := HC.out wr HSt.out.1
                  go_wp2
                  go_end0
                  exact ⟨rfl, HSt.out.1, HSt.out.2.1, HSt.out.2.2.1, HSt.out.2.2.2⟩
end Go.Proofs.Ytglodmmmcdjgcaa.Kk
