import Derived.Test.YtbmohlkcmhhpgaaGreatJBkWgt
import Derived.Test.YtbmohlkcmhhpgaaGreatJBkVers
import Derived.BigQuiet
import Derived.Test.YtbmohlkcmhhpgaaGreatBkSt
/-
  lent: ALL THAT IT LAYS.
-/
namespace Go.Proofs.YtbmohlkcmhhpgaaGreat
open Go.RowKit Go.Sort

/-- lists that are lent: those from lo up to hi -/
structure LG (W : World) (g n : Nat) (L : List (List K)) (nn : Nat → Bool) (qs : Nat → Nat) (lo hi : Nat) (vs : Nat → Value) : Prop where
  row : W.heap[g]? = some (.cells ((List.range (n + 3)).map vs).toArray 51 (0, 0))
  sets : ∀ i (h : i < L.length), lo ≤ i → i < hi → (nn i = true ∧ vs i = .slice none 0 0 ∧ L[i] = []) ∨ (nn i = false ∧ vs i = .slice (some ⟨qs i, 0, none⟩) L[i].length (L[i].length + 3) ∧ OwnK W (g + 1) (own (qs i) (L[i].length + 3) (L[i].length + 3)) (L[i] ++ List.replicate 3 (-41, 0)))
  inc : ∀ i j, lo ≤ i → i < j → j < hi → nn i = false → nn j = false → qs i < qs j
/-- .. and what stands behind their end -/
def TG (W : World) (g n t : Nat) (qs : Nat → Nat) (vs : Nat → Value) : Prop := ∀ i, n ≤ i → i < t → vs i = .slice (some ⟨qs i, 0, none⟩) 1 1 ∧ OwnK W (g + 1) (own (qs i) 1 1) [(-42, 0)]
section
variable {W W' : World} {g n : Nat} {L : List (List K)} {nn : Nat → Bool} {qs : Nat → Nat} {lo hi : Nat} {vs : Nat → Value}
theorem LG.lt (h : LG W g n L nn qs lo hi vs) : g < W.heap.size := blk_lt h.row
theorem LG.same (h : LG W g n L nn qs lo hi vs) (hs : ∀ k, g ≤ k → k < W.heap.size → W'.heap[k]? = W.heap[k]?) : LG W' g n L nn qs lo hi vs := by
  refine ⟨(hs g (Nat.le_refl _) h.lt).trans h.row, fun i hi h1 h2 => ?_, h.inc⟩
  rcases h.sets i hi h1 h2 with h3 | ⟨h3, h4, h5⟩
  · exact .inl h3
  · refine .inr ⟨h3, h4, h5.same (fun k hk => ?_)⟩
    have h6 := h5.lt k hk
    exact hs k (by omega) h6.2
theorem LG.kept (h : LG W g n L nn qs lo hi vs) (hb : Below W.heap.size W W') : LG W' g n L nn qs lo hi vs := h.same (fun k _ hk => hb.block k hk)
theorem TG.same {t : Nat} (h : TG W g n t qs vs) (hs : ∀ k, g ≤ k → k < W.heap.size → W'.heap[k]? = W.heap[k]?) : TG W' g n t qs vs := fun i h1 h2 => by
  obtain ⟨h3, h4⟩ := h i h1 h2
  refine ⟨h3, h4.same (fun k hk => ?_)⟩
  have h6 := h4.lt k hk
  exact hs k (by omega) h6.2
theorem LG.cell (h : LG W g n L nn qs lo hi vs) {i : Nat} (hi' : i < n + 3) : W.cell? ⟨g, i, none⟩ = some (vs i) ∧ W.frozen? ⟨g, i, none⟩ = false := by
  have h1 := h.row
  refine ⟨?_, frozen_of_row W g i _ _ h1⟩
  simp [World.cell?, h1, hi']
theorem row_set {W : World} {g N i : Nat} {vs : Nat → Value} {v : Value} (h : W.heap[g]? = some (.cells ((List.range N).map vs).toArray 51 (0, 0))) : (W.setCell ⟨g, i, none⟩ v).heap[g]? = some (.cells ((List.range N).map (fun j => if j = i then v else vs j)).toArray 51 (0, 0)) := by
  rw [heap_setCell_same W g i _ _ v h]
  congr 2
  apply Array.ext'
  apply List.ext_getElem?
  intro j
  by_cases hj : j < N
  · by_cases hji : j = i
    · subst hji; simp [hj]
    · simp only [Array.toList_setIfInBounds, List.getElem?_set_ne (Ne.symm hji), List.getElem?_map, List.getElem?_range hj, Option.map_some, if_neg hji]
  · simp [hj]
/-- the row's i-th cell is stored; what is asked of the others stays -/
theorem LG.store (h : LG W g n L nn qs lo hi vs) (i : Nat) (v : Value) {lo' : Nat} (hlo : lo ≤ lo') (hne : ∀ j, lo' ≤ j → j < hi → j < L.length → j ≠ i) : LG (W.setCell ⟨g, i, none⟩ v) g n L nn qs lo' hi (fun j => if j = i then v else vs j) := by
  have ho : ∀ G, G ≠ g → (W.setCell ⟨g, i, none⟩ v).heap[G]? = W.heap[G]? := fun G hG => heap_setCell_other W ⟨g, i, none⟩ G v hG
  refine ⟨row_set h.row, fun j hj h1 h2 => ?_, fun a b h1 h2 h3 => h.inc a b (by omega) h2 h3⟩
  have hji := hne j h1 h2 hj
  simp only [if_neg hji]
  rcases h.sets j hj (by omega) h2 with h3 | ⟨h3, h4, h5⟩
  · exact .inl h3
  · refine .inr ⟨h3, h4, h5.same (fun k hk => ho k (fun e => ?_))⟩
    have := h5.lt k hk
    omega
/-- one list more -/
theorem LG.put (h : LG W g n L nn qs 0 hi vs) (hil : hi < L.length) (q : Nat) (hq : OwnK W (g + 1) (own q (L[hi].length + 3) (L[hi].length + 3)) (L[hi] ++ List.replicate 3 (-41, 0))) (hm : ∀ j, j < hi → nn j = false → qs j < q) :
    LG (W.setCell ⟨g, hi, none⟩ (.slice (some ⟨q, 0, none⟩) L[hi].length (L[hi].length + 3))) g n L (fun j => if j = hi then false else nn j) (fun j => if j = hi then q else qs j) 0 (hi + 1) (fun j => if j = hi then (.slice (some ⟨q, 0, none⟩) L[hi].length (L[hi].length + 3)) else vs j) := by
  have ho : ∀ G, G ≠ g → (W.setCell ⟨g, hi, none⟩ (.slice (some ⟨q, 0, none⟩) L[hi].length (L[hi].length + 3))).heap[G]? = W.heap[G]? := fun G hG => heap_setCell_other W ⟨g, hi, none⟩ G _ hG
  have key : ∀ {b : Nat} {v : Value} {M : List K}, OwnK W (g + 1) v M → OwnK (W.setCell ⟨g, hi, none⟩ (.slice (some ⟨q, 0, none⟩) L[hi].length (L[hi].length + 3))) (g + 1) v M := fun {b v M} h5 => h5.same (fun k hk => ho k (fun e => by have := h5.lt k hk; omega))
  refine ⟨row_set h.row, fun j hj h1 h2 => ?_, fun a b h1 h2 h3 h4 h5 => ?_⟩
  · by_cases hji : j = hi
    · subst hji
      exact .inr ⟨by simp, by simp, by simpa using key (b := 0) hq⟩
    · simp only [if_neg hji]
      rcases h.sets j hj (by omega) (by omega) with h3 | ⟨h3, h4, h5⟩
      · exact .inl h3
      · exact .inr ⟨h3, h4, key (b := 0) h5⟩
  · have ha : a ≠ hi := by omega
    simp only [if_neg ha] at h4 ⊢
    by_cases hb : b = hi
    · rw [if_pos hb]
      exact hm a (by omega) h4
    · simp only [if_neg hb] at h5 ⊢
      exact h.inc a b h1 h2 (by omega) h4 h5
theorem LG.none (h : LG W g n L nn qs 0 hi vs) (hil : hi < L.length) (he : L[hi] = []) (hv : vs hi = .slice Option.none 0 0) : LG W g n L (fun j => if j = hi then true else nn j) qs 0 (hi + 1) vs := by
  refine ⟨h.row, fun j hj h1 h2 => ?_, fun a b h1 h2 h3 h4 h5 => ?_⟩
  · by_cases hji : j = hi
    · subst hji
      exact .inl ⟨by simp, hv, he⟩
    · simp only [if_neg hji]
      exact h.sets j hj (by omega) (by omega)
  · have ha : a ≠ hi := by omega
    have hb : b ≠ hi := fun e => by rw [if_pos e] at h5; cases h5
    simp only [if_neg ha, if_neg hb] at h4 h5
    exact h.inc a b h1 h2 (by omega) h4 h5
end
/-- what tells the lists that are nil -/
def Nils (w : World) (ao : Option Addr) (L : List (List K)) (nn : Nat → Bool) (k : Nat) : Prop := ∀ i (h : i < L.length), i < k → ∀ b off sa sc, ao = some ⟨b, off, none⟩ → w.cell? ⟨b, off + i, none⟩ = some (.slice sa L[i].length sc) → nn i = sa.isNone
def padB (t : Nat) : List K := (List.range 3).map fun j => if j < t then (-41, 0) else (0, 0)
theorem padB_set : ∀ k, k < 3 → (padB k).set k (-41, 0) = padB (k + 1) := by decide
theorem padB_zero : List.replicate 3 ((0, 0) : K) = padB 0 := by decide
theorem padB_three : padB 3 = List.replicate 3 (-41, 0) := by decide
theorem padB_step (s : List K) (k : Nat) (hk : k < 3) : (s ++ padB k).set (s.length + k) (-41, 0) = s ++ padB (k + 1) := by
  rw [List.set_append_right _ _ (by omega), show s.length + k - s.length = k by omega, padB_set k hk]
/-- what lent hands out, where it is given a list -/
structure LF (w : World) (ao : Option Addr) (g n hi : Nat) (L : List (List K)) (nn : Nat → Bool) (qs : Nat → Nat) (vs : Nat → Value) (W : World) : Prop where
  lg : LG W g n L nn qs 0 hi vs
  nl : Nils w ao L nn hi
  bel : Below w.heap.size w W
  ge : w.heap.size ≤ g
def LentPost (w : World) (ao : Option Addr) (n : Nat) (L : List (List K)) (e : Ending) (w' : World) : Prop :=
  (ao = none ∧ e = .returned (.slice none 0 0) ∧ w' = w) ∨
  (∃ g nn qs vs, ao ≠ none ∧ e = .returned (.slice (some ⟨g, 0, none⟩) n (n + 3)) ∧ LF w ao g n n L nn qs vs w' ∧ TG w' g n (n + 3) qs vs)
set_option maxHeartbeats 4000000 in
set_option maxRecDepth 100000 in
theorem lentF_any (G : Nat → Prop) (w : World) (ao : Option Addr) (n c : Nat) (L : List (List K)) (hn : n = L.length) (h : RWs G w ao L) (hnb : n ≤ 100000) (hb : ∀ s ∈ L, s.length ≤ 100000) :
    Calls Tryz.prog 16 #[.slice ao n c] w fun e w' => LentPost w ao n L e w' := by
  have HN : Hid (n = L.length ∧ ∀ s ∈ L, s.length ≤ 100000) := ⟨hn, hb⟩
  cases ao with
  | none =>
    have hL : L = [] := by
      rcases L with _ | ⟨s, L⟩
      · rfl
      · obtain ⟨_, _, _, _, e, _⟩ := h 0 (by simp); cases e
    subst hL
    have hn0 : n = 0 := hn
    clear h hn hb
    subst hn0
    have hnil := run_eqNilL none 0 c
    simp only [Option.isNone_none] at hnil
    go_enter Tryz.func16, Tryz.ntmps16
    go_wp2
    go_ret
    exact .inl ⟨rfl, rfl, rfl⟩
  | some a =>
    have hnil := run_eqNilL (some a) n c
    simp only [Option.isNone_some] at hnil
    have hmk := make_lsB (n + 3) ((n : Int) + 3) (by omega) (by omega) w
    have HR : Hid (∀ W, Below w.heap.size w W → RWs G W (some a) L) := fun W hW => h.fr (Fr.ofBelow hW)
    have HR0 := hidC h
    have HL0 : Hid (LF w (some a) w.heap.size n 0 L (fun _ => false) (fun _ => 0) (fun _ => .slice none 0 0) (w.alloc (.cells ((List.range (n + 3)).map fun _ => Value.slice none 0 0).toArray 51))) :=
      ⟨⟨heap_alloc_new _ _ rfl, fun i _ _ h => absurd h (by omega), fun i j _ _ h => absurd h (by omega)⟩, fun i _ h => absurd h (by omega), (Below.refl _ _).alloc (Nat.le_refl _) _, Nat.le_refl _⟩
    clear h hn hb
    obtain ⟨g, hg⟩ : ∃ g, g = w.heap.size := ⟨_, rfl⟩
    generalize (w.alloc (.cells ((List.range (n + 3)).map fun _ => Value.slice none 0 0).toArray 51)) = W1 at *
    have HL1 : Hid (LF w (some a) g n 0 L (fun _ => false) (fun _ => 0) (fun _ => .slice none 0 0) W1) := by rw [hg]; exact HL0
    rw [← hg] at hmk
    clear hg HL0
    go_enter Tryz.func16, Tryz.ntmps16
    go_wp2_with fail
    clear hmk
    go_loopw [4, 5, 6] (fun x _ _ wr => ∃ i : Nat, i ≤ n ∧ x = .int .i64 (i : Int) ∧ Hid (∃ nn qs vs, LF w (some a) g n i L nn qs vs wr ∧ ∀ j, i ≤ j → vs j = .slice none 0 0)) (fun x _ _ _ => n - (intOf x).toNat)
    case atStart => exact ⟨0, Nat.zero_le _, rfl, _, _, _, HL1.out, fun _ _ => rfl⟩
    case round =>
      clear HL1
      obtain ⟨i, hi, rfl, HI⟩ := hrel
      by_cases hlt : i < n
      · have hil : i < L.length := by have := HN.out.1; omega
        obtain ⟨nn, qs, vs, HV⟩ := HI.out
        replace HV := hidC HV
        obtain ⟨b, off, sa, sc, e, _, hrow⟩ := (HR.out wr HV.out.1.bel).at hil
        cases e
        have HRow : Hid (∀ W, Below wr.heap.size wr W → W.cell? ⟨b, off + i, none⟩ = some (.slice sa L[i].length sc) ∧ KeysAt W sa L[i]) := fun W hW => hrow W (Fr.ofBelow hW)
        have HNl : Hid (∀ nb : Bool, nb = sa.isNone → Nils w (some ⟨b, off, none⟩) L (fun j => if j = i then nb else nn j) (i + 1)) := fun nb hnb j hj hji b' off' sa' sc' e' hc' => by
          by_cases hje : j = i
          · subst hje
            show (if j = j then nb else nn j) = _
            rw [if_pos rfl, hnb]
            cases e'
            obtain ⟨b2, o2, sa2, sc2, e2, _, hrow2⟩ := HR0.out.at hil
            cases e2
            have h1 := (hrow2 w (Fr.refl _ _)).1
            have h2 := (hrow2 wr (Fr.ofBelow HV.out.1.bel)).1
            have h3 := (HRow.out wr (Below.refl _ _)).1
            rw [h1] at hc'
            rw [h2] at h3
            simp only [Option.some.injEq, Value.slice.injEq] at hc' h3
            rw [← hc'.1, ← h3.1]
          · simp only [if_neg hje]
            exact HV.out.1.nl j hj (by omega) b' off' sa' sc' e' hc'
        have hsb : L[i].length ≤ 100000 := HN.out.2 _ (List.getElem_mem hil)
        obtain ⟨s, hs⟩ : ∃ s, s = L[i] := ⟨_, rfl⟩
        have HE : Hid (∃ hi : i < L.length, L[i]'hi = s) := ⟨hil, hs.symm⟩
        clear hrow HI
        rw [← hs] at HRow hsb
        clear hs
        obtain ⟨m, hm⟩ : ∃ m, m = s.length := ⟨_, rfl⟩
        have HM := hidC hm
        rw [← hm] at HRow hsb
        clear hm
        have c1 := (HRow.out wr (Below.refl _ _)).1
        have hii : (i : Int) < (n : Int) := by omega
        cases sa with
        | none =>
          have hnk := run_eqNil none m sc
          simp only [Option.isNone_none] at hnk
          have HX : Hid (∃ nn qs vs, LF w (some ⟨b, off, none⟩) g n (i + 1) L nn qs vs wr ∧ ∀ j, i + 1 ≤ j → vs j = .slice none 0 0) := by
            obtain ⟨hil, he⟩ := HE.out
            have hs : s = [] := by
              rcases (HRow.out wr (Below.refl _ _)).2 with h0 | ⟨_, _, e, _⟩
              · exact h0
              · cases e
            exact ⟨_, qs, vs, ⟨HV.out.1.lg.none hil (by rw [he, hs]) (HV.out.2 i (Nat.le_refl _)), HNl.out true rfl, HV.out.1.bel, HV.out.1.ge⟩, fun j hj => HV.out.2 j (by omega)⟩
          clear HV HRow HE HNl
          go_wp2_with fail
          exact ⟨⟨i + 1, by omega, by go_num, HX.out⟩, by simp [intOf]; omega⟩
        | some sa =>
          have hnk := run_eqNil (some sa) m sc
          simp only [Option.isNone_some] at hnk
          have hmk := make_keys (m + 3) ((m : Int) + 3) (by omega) (by omega) wr
          have HB2 : Hid (Below wr.heap.size wr (wr.alloc (.cells (cks (List.replicate (m + 3) (0, 0))).toArray 43))) := (Below.refl _ _).alloc (Nat.le_refl _) _
          have hcp := fun ty => run_copy_keys (wr.alloc (.cells (cks (List.replicate (m + 3) (0, 0))).toArray 43)) ty wr.heap.size (m + 3) (m + 3) sa m sc s (List.replicate (m + 3) (0, 0)) HM.out (by simp) (by omega) (heap_alloc_new _ _ rfl) (HRow.out _ HB2.out).2 (s ++ padB 0) (by rw [List.drop_replicate, show m + 3 - m = 3 by omega, padB_zero])
          have HB3 : Hid (Below wr.heap.size wr ((wr.alloc (.cells (cks (List.replicate (m + 3) (0, 0))).toArray 43)).setRow wr.heap.size (cks (s ++ padB 0)).toArray)) := setRow_below (Nat.le_refl _) (Nat.le_refl _)
          have HO : Hid (OwnK ((wr.alloc (.cells (cks (List.replicate (m + 3) (0, 0))).toArray 43)).setRow wr.heap.size (cks (s ++ padB 0)).toArray) wr.heap.size (own wr.heap.size (m + 3) (m + 3)) (s ++ padB 0)) := by
            have hpl : (s ++ padB 0).length = m + 3 := by rw [List.length_append, ← HM.out]; rfl
            have h1 := OwnK.of_row (w := (wr.alloc (.cells (cks (List.replicate (m + 3) (0, 0))).toArray 43)).setRow wr.heap.size (cks (s ++ padB 0)).toArray) (base := wr.heap.size) (Nat.le_refl _) (setRow_heap _ wr.heap.size _ _ _ _ (heap_alloc_new _ _ rfl)) (Z := s ++ padB 0) (by rw [hpl]; unfold maxLen; omega)
            rw [hpl] at h1
            exact h1
          generalize ((wr.alloc (.cells (cks (List.replicate (m + 3) (0, 0))).toArray 43)).setRow wr.heap.size (cks (s ++ padB 0)).toArray) = W3 at *
          generalize (wr.alloc (.cells (cks (List.replicate (m + 3) (0, 0))).toArray 43)) = W2 at *
          obtain ⟨q, hq⟩ : ∃ q, q = wr.heap.size := ⟨_, rfl⟩
          have HQ := hidC hq
          have HO3 : Hid (OwnK W3 q (own q (m + 3) (m + 3)) (s ++ padB 0)) := by rw [hq]; exact HO
          rw [← hq] at hmk hcp
          clear hq HO
          have c2 := (HRow.out W2 HB2.out).1
          have c3 := (HRow.out W3 HB3.out).1
          go_wp2_with fail
          clear hmk hcp c1 c2 c3 hnk
          generalize wr = u at *
          go_loopw [6] (fun x wr => ∃ j : Nat, m ≤ j ∧ j ≤ m + 3 ∧ x = .int .i64 (j : Int) ∧ Hid (Below u.heap.size u wr ∧ OwnK wr q (own q (m + 3) (m + 3)) (s ++ padB (j - m)))) (fun x _ => m + 3 - (intOf x).toNat)
          case atStart => exact ⟨m, Nat.le_refl _, by omega, rfl, HB3.out, by rw [Nat.sub_self]; exact HO3.out⟩
          case round =>
            clear HB2 HB3 HO3
            obtain ⟨j, hj1, hj2, rfl, HJ⟩ := hrel
            have HMm := hidC HJ.out.2
            have HBq := hidC HJ.out.1
            clear HJ
            by_cases hjlt : j < m + 3
            · have hjlt2 : (j : Int) < (m : Int) + 3 := by omega
              obtain ⟨e1, e2⟩ := HMm.out.at j hjlt
              have f1 := HMm.out.frozen (j * 2)
              have f2 := HMm.out.frozen (j * 2 + 1)
              generalize kd (s ++ padB (j - m)) j = ok at *
              obtain ⟨o1, o2⟩ := ok
              simp only at e1 e2
              have HO2 : Hid (Below u.heap.size u ((wr.setCell ⟨q, j * 2, none⟩ (.int .i64 (-41))).setCell ⟨q, j * 2 + 1, none⟩ (.int .i64 0)) ∧ OwnK ((wr.setCell ⟨q, j * 2, none⟩ (.int .i64 (-41))).setCell ⟨q, j * 2 + 1, none⟩ (.int .i64 0)) q (own q (m + 3) (m + 3)) (s ++ padB (j + 1 - m))) := by
                obtain ⟨h1, h2⟩ := HMm.out.set j hjlt (-41) 0
                refine ⟨HBq.out.trans (grown_below h2 (fun b e => by cases e; exact Nat.le_of_eq HQ.out.symm) HBq.out.size), ?_⟩
                have h3 := padB_step s (j - m) (by omega)
                rw [show s.length + (j - m) = j by have := HM.out; omega] at h3
                rw [show j + 1 - m = j - m + 1 by omega, ← h3]
                exact h1
              clear HMm HBq
              go_wp2_with fail
              exact ⟨⟨j + 1, by omega, by omega, by go_num, HO2.out⟩, by simp [intOf]; omega⟩
            · have hje : j = m + 3 := by omega
              subst hje
              have HLq : Hid (LG wr g n L nn qs 0 i vs) := HV.out.1.lg.kept HBq.out
              obtain ⟨g1, g2⟩ := HLq.out.cell (i := i) (by omega)
              have hvi := HV.out.2 i (Nat.le_refl _)
              rw [hvi] at g1
              have c4 := (HRow.out wr HBq.out).1
              have HX : Hid (∃ nn qs vs, LF w (some ⟨b, off, none⟩) g n (i + 1) L nn qs vs (wr.setCell ⟨g, i, none⟩ (.slice (some ⟨q, 0, none⟩) m (m + 3))) ∧ ∀ j, i + 1 ≤ j → vs j = .slice none 0 0) := by
                obtain ⟨hil, he⟩ := HE.out
                have hq1 := HMm.out
                have hq2 := HV.out.1.lg.lt
                have hq3 := HQ.out
                rw [show m + 3 - m = 3 by omega, padB_three] at hq1
                have hq4 : OwnK wr (g + 1) (own q (m + 3) (m + 3)) (s ++ List.replicate 3 (-41, 0)) := hq1.mono (by omega)
                have hput := HLq.out.put hil q (by rw [he, ← HM.out]; exact hq4) (fun j hj hf => by
                  rcases HV.out.1.lg.sets j (by omega) (Nat.zero_le _) hj with ⟨h3, _⟩ | ⟨_, _, h5⟩
                  · rw [h3] at hf; cases hf
                  · have h6 : qs j < u.heap.size := (h5.lt (qs j) rfl).2
                    omega)
                rw [he, ← HM.out] at hput
                refine ⟨_, _, _, ⟨hput, HNl.out false rfl, ?_, HV.out.1.ge⟩, fun j hj => by rw [if_neg (by omega)]; exact HV.out.2 j (by omega)⟩
                have h9 := HV.out.1.bel.trans (HBq.out.mono HV.out.1.bel.size)
                exact h9.setCell (p := ⟨g, i, none⟩) HV.out.1.ge _
              clear HLq HMm HBq HV hvi HNl
              go_wp2_with fail
              exact ⟨⟨i + 1, by omega, by go_num, HX.out⟩, by simp [intOf]; omega⟩
      · have hie : i = n := by omega
        subst hie
        obtain ⟨nn, qs, vs, HV⟩ := HI.out
        replace HV := hidC HV.1
        clear HI
        go_wp2_with fail
        go_loopw [7] (fun x wr => ∃ j : Nat, i ≤ j ∧ j ≤ i + 3 ∧ x = .int .i64 (j : Int) ∧ Hid (∃ qs vs, LF w (some a) g i i L nn qs vs wr ∧ TG wr g i j qs vs)) (fun x _ => i + 3 - (intOf x).toNat)
        case atStart => exact ⟨i, Nat.le_refl _, by omega, rfl, qs, vs, HV.out, fun j h1 h2 => by omega⟩
        case round =>
          clear HV
          obtain ⟨j, hj1, hj2, rfl, HJ⟩ := hrel
          obtain ⟨qs, vs, HV⟩ := HJ.out
          replace HV := hidC HV
          clear HJ
          by_cases hjlt : j < i + 3
          · have hjlt2 : (j : Int) < (i : Int) + 3 := by omega
            obtain ⟨U, hU⟩ : ∃ U, U = wr.alloc (.cells #[.int .i64 (-42), .int .i64 0] 43) := ⟨_, rfl⟩
            have HBU : Hid (Below wr.heap.size wr U) := by rw [hU]; exact (Below.refl _ _).alloc (Nat.le_refl _) _
            have HLU := hidC (HV.out.1.lg.kept HBU.out)
            have g1 := (HLU.out.cell (i := j) hjlt).1
            have g2 := (HLU.out.cell (i := j) hjlt).2
            obtain ⟨q, hq⟩ : ∃ q, q = wr.heap.size := ⟨_, rfl⟩
            have HOU : Hid (OwnK U (g + 1) (own q 1 1) [(-42, 0)]) := by
              rw [hU, hq]
              exact OwnK.of_row (Z := [(-42, 0)]) (by have := HV.out.1.lg.lt; omega) (heap_alloc_new _ _ rfl) (by unfold maxLen; simp)
            have HX : Hid (∃ qs vs, LF w (some a) g i i L nn qs vs (U.setCell ⟨g, j, none⟩ (.slice (some ⟨q, 0, none⟩) 1 1)) ∧ TG (U.setCell ⟨g, j, none⟩ (.slice (some ⟨q, 0, none⟩) 1 1)) g i (j + 1) qs vs) := by
              have ho : ∀ G, G ≠ g → (U.setCell ⟨g, j, none⟩ (.slice (some ⟨q, 0, none⟩) 1 1)).heap[G]? = U.heap[G]? := fun G hG => heap_setCell_other U ⟨g, j, none⟩ G _ hG
              have hst := HLU.out.store j (.slice (some ⟨q, 0, none⟩) 1 1) (Nat.le_refl 0) (fun k _ h2 h3 => by omega)
              have hTU := HV.out.2.same (W' := U) (fun k _ hk => HBU.out.block k hk)
              refine ⟨fun k => if k = j then q else qs k, _, ⟨⟨hst.row, fun k hk h1 h2 => ?_, fun x y h1 h2 h3 h4 h5 => ?_⟩, HV.out.1.nl, ?_, HV.out.1.ge⟩, fun k h1 h2 => ?_⟩
              · have hkj : k ≠ j := by omega
                simp only [if_neg hkj]
                have h3 := hst.sets k hk h1 h2
                simp only [if_neg hkj] at h3
                exact h3
              · simp only [if_neg (show x ≠ j by omega), if_neg (show y ≠ j by omega)]
                exact hst.inc x y h1 h2 h3 h4 h5
              · have h9 := HV.out.1.bel.trans (HBU.out.mono HV.out.1.bel.size)
                exact h9.setCell (p := ⟨g, j, none⟩) HV.out.1.ge _
              · by_cases hkj : k = j
                · simp only [if_pos hkj]
                  exact ⟨trivial, HOU.out.same (fun b hb => ho b (fun e => by have := HOU.out.lt b hb; omega))⟩
                · simp only [if_neg hkj]
                  obtain ⟨h3, h4⟩ := hTU k h1 (by omega)
                  exact ⟨h3, h4.same (fun b hb => ho b (fun e => by have := h4.lt b hb; omega))⟩
            clear HV HLU HOU HBU
            rw [hU] at g1 g2 HX
            rw [hq] at HX
            clear hU hq
            go_wp2_with fail
            exact ⟨⟨j + 1, by omega, by omega, by go_num, HX.out⟩, by simp [intOf]; omega⟩
          · have hje : j = i + 3 := by omega
            subst hje
            have HX : Hid (LentPost w (some a) i L (.returned (.slice (some ⟨g, 0, none⟩) i (i + 3))) wr) := .inr ⟨g, nn, qs, vs, by simp, rfl, HV.out.1, HV.out.2⟩
            clear HV
            go_wp2
            go_ret
            exact HX.out
end Go.Proofs.YtbmohlkcmhhpgaaGreat
/-
  back: WHAT WAS LENT IS AS IT WAS.
-/
namespace Go.Proofs.YtbmohlkcmhhpgaaGreat
open Go.RowKit Go.Sort

/-- marks written over the first j -/
def wipK (M : List K) (j : Nat) : List K := List.replicate j (-43, 0) ++ M.drop j
theorem wipK_step {M : List K} {j : Nat} (hj : j < M.length) : (wipK M j).set j (-43, 0) = wipK M (j + 1) := by
  unfold wipK
  rw [List.set_append_right _ _ (by simp), List.length_replicate, Nat.sub_self, List.drop_eq_getElem_cons hj, List.set_cons_zero, List.replicate_succ', List.append_assoc]
  rfl
theorem wipK_len {M : List K} {j : Nat} (hj : j ≤ M.length) : (wipK M j).length = M.length := by unfold wipK; simp; omega
theorem kd_pad {s : List K} {m j : Nat} (hm : m = s.length) (h1 : m ≤ j) (h2 : j < m + 3) : kd (s ++ List.replicate 3 (-41, 0)) j = (-41, 0) := by
  unfold kd
  rw [List.getD_eq_getElem?_getD, List.getElem?_append_right (by omega), List.getElem?_replicate, if_pos (by omega)]
  rfl
def BwPost (W : World) (b0 : Nat) (e : Ending) (w' : World) : Prop := e = .returned (.bool true) ∧ Below b0 W w'
set_option maxHeartbeats 4000000 in
set_option maxRecDepth 100000 in
theorem backW_any (W : World) (b0 : Nat) (ao : Option Addr) (n c : Nat) (L : List (List K)) (hn : n = L.length) (h : RWs (fun k => b0 ≤ k) W ao L) (hao : ao ≠ none) (hnb : n ≤ 100000) (hb : ∀ s ∈ L, s.length ≤ 100000) (g : Nat) (nn : Nat → Bool) (qs : Nat → Nat) (vs : Nat → Value) (hlg : LG W g n L nn qs 0 n vs) (htg : TG W g n (n + 3) qs vs) (hnl : Nils W ao L nn n) (hbg : b0 ≤ g) :
    Calls Tryz.prog 18 #[.slice (some ⟨g, 0, none⟩) n (n + 3), .slice ao n c] W fun e w' => BwPost W b0 e w' := by
  have HN : Hid (n = L.length ∧ ∀ s ∈ L, s.length ≤ 100000) := ⟨hn, hb⟩
  have HG := hidC (And.intro hlg (And.intro htg hbg))
  have HR : Hid (∀ X, Below b0 W X → RWs (fun k => b0 ≤ k) X ao L) := fun X hX => h.fr ⟨hX.os, hX.tape, hX.output, hX.size, fun k hk hS => hX.block k (by omega)⟩
  have HR0 := hidC h
  have HNl := hidC hnl
  have hnil := run_eqNilL ao n c
  have hnn : ao.isNone = false := by cases ao with | none => exact absurd rfl hao | some _ => rfl
  rw [hnn] at hnil
  have hi0 : (n : Int) + 3 ≤ (n : Int) + 3 := Int.le_refl _
  clear h hn hb hlg htg hnl hbg hao hnn
  go_enter Tryz.func18, Tryz.ntmps18
  go_wp2_with fail
  go_loopw [5, 7] (fun x y wr => ∃ i : Nat, n ≤ i ∧ i ≤ n + 3 ∧ x = .bool true ∧ y = .int .i64 (i : Int) ∧ wr = W) (fun _ y _ => n + 3 - (intOf y).toNat)
  case atStart => exact ⟨n, Nat.le_refl _, by omega, rfl, rfl, rfl⟩
  case round =>
    obtain ⟨i, hi1, hi2, rfl, rfl, hw⟩ := hrel
    subst hw
    by_cases hlt : i < n + 3
    · have hltI : (i : Int) < (n : Int) + 3 := by omega
      have c1 := (HG.out.1.cell hlt).1
      obtain ⟨hv, ho⟩ := HG.out.2.1 i hi1 hlt
      rw [hv] at c1
      obtain ⟨e1, e2⟩ := ho.at 0 (by omega)
      simp only [kd, List.getD_cons_zero, Nat.zero_mul, Nat.zero_add] at e1 e2
      have hgd := fun op x y => run_eqGuard op x y (-42) 0 (-42) 0
      have hq := run_eqKey (-42) 0 (-42) 0
      simp only [decide_true] at hq
      clear hv ho
      go_wp2
      exact ⟨⟨i + 1, by omega, by omega, rfl, by go_num, by first | rfl | trivial⟩, by simp [intOf]; omega⟩
    · have hie : i = n + 3 := by omega
      subst hie
      have HLv : Hid (∃ vs, LG wr g n L nn qs 0 n vs ∧ Below b0 wr wr) := ⟨vs, HG.out.1, Below.refl _ _⟩
      have hwW : ∃ W0, W0 = wr := ⟨_, rfl⟩
      obtain ⟨W0, hW0⟩ := hwW
      subst hW0
      go_wp2_with fail
      go_loopw [5, 8, 9, 10, 11, 12] (fun x y _ _ _ _ wr => ∃ i : Nat, i ≤ n ∧ x = .bool true ∧ y = .int .i64 (i : Int) ∧ Hid (∃ vs, LG wr g n L nn qs i n vs ∧ Below b0 W0 wr)) (fun _ y _ _ _ _ _ => n - (intOf y).toNat)
      case atStart => exact ⟨0, Nat.zero_le _, rfl, rfl, HLv.out⟩
      case round =>
        clear HLv
        obtain ⟨i, hi, rfl, rfl, HI⟩ := hrel
        by_cases hlt : i < n
        · have hil : i < L.length := by have := HN.out.1; omega
          have hii : (i : Int) < (n : Int) := by omega
          have hii3 : (i : Int) < (n : Int) + 3 := by omega
          obtain ⟨vs', HV⟩ := HI.out
          replace HV := hidC HV
          obtain ⟨b, off, sa, sc, e, _, hrow⟩ := (HR.out wr HV.out.2).at hil
          subst e
          have c1 := (hrow wr (Fr.refl _ _)).1
          have hka := (hrow wr (Fr.refl _ _)).2
          have hsn : nn i = sa.isNone := by
            obtain ⟨b2, o2, sa2, sc2, e2, _, hrow2⟩ := HR0.out.at hil
            cases e2
            have h1 := (hrow2 W0 (Fr.refl _ _)).1
            have h2 := (hrow2 wr ⟨HV.out.2.os, HV.out.2.tape, HV.out.2.output, HV.out.2.size, fun k hk hS => HV.out.2.block k (by omega)⟩).1
            rw [h2] at c1
            simp only [Option.some.injEq, Value.slice.injEq] at c1
            rw [← c1.1]
            exact HNl.out i hil hlt _ _ _ _ rfl h1
          obtain ⟨g1, g2⟩ := HV.out.1.cell (i := i) (by omega)
          have HWc : Hid (∀ X, Below b0 wr X → X.cell? ⟨b, off + i, none⟩ = some (.slice sa L[i].length sc)) := fun X hX => (hrow X ⟨hX.os, hX.tape, hX.output, hX.size, fun k hk hS => hX.block k (by omega)⟩).1
          have hsb : L[i].length ≤ 100000 := HN.out.2 _ (List.getElem_mem hil)
          rcases HV.out.1.sets i hil (Nat.le_refl _) hlt with ⟨hnt, hvi, hLi⟩ | ⟨hnf, hvi, hOw⟩
          · rw [hnt] at hsn
            have hsa : sa = none := by cases sa with | none => rfl | some _ => cases hsn
            subst hsa
            rw [hvi] at g1
            rw [hLi] at c1 hka hsb
            simp only [List.length_nil] at c1
            have HSm : Hid (∀ q, Calls Tryz.prog 30 #[.slice none 0 0, .slice none 0 sc] (wr.drewN q) fun e w' => e = .returned (.bool true) ∧ ∃ q', w' = wr.drewN q') := fun q => (sameKeys_eq (wr.drewN q) none none 0 0 sc [] (.inl rfl) (.inl rfl) rfl (by omega)).mono (fun e w' hx => ⟨hx.1, by obtain ⟨_, q', h2⟩ := hx; exact ⟨q + q', by rw [h2, World.drewN_drewN]⟩⟩)
            have hnk := run_eqNil none 0 sc
            simp only [Option.isNone_none] at hnk
            have HX : Hid (∀ q, ∃ vs, LG (wr.drewN q) g n L nn qs (i + 1) n vs ∧ Below b0 W0 (wr.drewN q)) := fun q => by
              have h1 := HV.out.1.kept (drew_below wr q)
              exact ⟨vs', ⟨h1.row, fun j hj h2 h3 => h1.sets j hj (by omega) h3, fun x y h2 => h1.inc x y (by omega)⟩, HV.out.2.trans ((drew_below wr q).mono (by have := HG.out.2.2; have := HV.out.1.lt; omega))⟩
            have HC2 : Hid (∀ q, (wr.drewN q).cell? ⟨b, off + i, none⟩ = some (.slice none 0 sc)) := fun q => by
              have := c1
              exact this
            clear HV HWc hrow hka hvi hLi hsn hnt
            go_upto_region 14 with fail
            go_quiet (first | (go_at_call 30; exact HSm.out _))
            have HXq := hidC (HX.out nq)
            have c2 := HC2.out nq
            clear HX HSm HC2 g1 g2 c1
            generalize wr.drewN nq = W2 at *
            go_wp2
            exact ⟨⟨i + 1, by omega, rfl, by go_num, HXq.out⟩, by simp [intOf]; omega⟩
          · rw [hnf] at hsn
            obtain ⟨sad, hsa⟩ : ∃ x, sa = some x := by cases sa with | none => cases hsn | some x => exact ⟨x, rfl⟩
            subst hsa
            rw [hvi] at g1
            obtain ⟨s, hs⟩ : ∃ s, s = L[i] := ⟨_, rfl⟩
            have HS : Hid (∃ hi : i < L.length, L[i]'hi = s) := ⟨hil, hs.symm⟩
            rw [← hs] at g1 hOw c1 hka hsb HWc
            obtain ⟨m, hm⟩ : ∃ m, m = s.length := ⟨_, rfl⟩
            have HM := hidC hm
            rw [← hm] at g1 hOw c1 hsb HWc
            obtain ⟨q0, hq0⟩ : ∃ q0, q0 = qs i := ⟨_, rfl⟩
            have HQ := hidC hq0
            rw [← hq0] at g1 hOw
            have HOw := hidC hOw
            have hkl : KeysAt wr (some ⟨q0, 0, none⟩) s := by
              have hp := hOw.prefix m (by omega)
              rw [hm, List.take_left] at hp
              obtain ⟨ao', cap', e', hk', _⟩ := hp.slice
              simp only [own, Value.slice.injEq] at e'
              rw [e'.1]
              exact hk'
            have HNf := hidC hnf
            have HSm : Hid (∀ q, Calls Tryz.prog 30 #[.slice (some ⟨q0, 0, none⟩) m (m + 3), .slice (some sad) m sc] (wr.drewN q) fun e w' => e = .returned (.bool true) ∧ ∃ q', w' = wr.drewN q') := fun q => (sameKeys_eq (wr.drewN q) _ _ m (m + 3) sc s (hkl.kept (drew_below wr q)) (hka.kept (drew_below wr q)) hm (by omega)).mono (fun e w' hx => ⟨hx.1, by obtain ⟨_, q', h2⟩ := hx; exact ⟨q + q', by rw [h2, World.drewN_drewN]⟩⟩)
            have hnk := run_eqNil (some sad) m sc
            simp only [Option.isNone_some] at hnk
            have hm3 : (m : Int) + 3 ≤ (m : Int) + 3 := Int.le_refl _
            have HLq : Hid (∀ q, LG (wr.drewN q) g n L nn qs i n vs' ∧ Below b0 W0 (wr.drewN q) ∧ Below b0 wr (wr.drewN q) ∧ OwnK (wr.drewN q) (g + 1) (own q0 (m + 3) (m + 3)) (s ++ List.replicate 3 (-41, 0))) := fun q => by
              have hbq : Below b0 wr (wr.drewN q) := (drew_below wr q).mono (by have := HG.out.2.2; have := HV.out.1.lt; omega)
              exact ⟨HV.out.1.kept (drew_below wr q), HV.out.2.trans hbq, hbq, HOw.out.kept (drew_below wr q)⟩
            clear hrow hka hvi hsn hnf hkl hOw hs hm hq0 HI
            go_upto_region 14 with fail
            go_quiet (first | (go_at_call 30; exact HSm.out _))
            have H2 := hidC (HLq.out nq)
            have d1 := HWc.out _ H2.out.2.2.1
            obtain ⟨d2, _⟩ := H2.out.1.cell (i := i) (by omega)
            have hvi2 : vs' i = .slice (some ⟨q0, 0, none⟩) m (m + 3) := by
              have h3 := g1
              rw [(HV.out.1.cell (i := i) (by omega)).1] at h3
              exact Option.some.inj h3
            rw [hvi2] at d2
            clear HSm HLq g1 g2 c1 HOw
            generalize hW2 : wr.drewN nq = W2 at *
            have HWb := hidC H2.out.2.2.1
            clear hW2
            go_upto_region 17 with fail
            go_quiet (fail)
            have H3 : Hid (LG (W2.drewN nq) g n L nn qs i n vs' ∧ Below b0 W0 (W2.drewN nq) ∧ Below b0 wr (W2.drewN nq) ∧ OwnK (W2.drewN nq) (g + 1) (own q0 (m + 3) (m + 3)) (s ++ List.replicate 3 (-41, 0))) := by
              have hbq : Below b0 W2 (W2.drewN nq) := (drew_below W2 nq).mono (by have := HG.out.2.2; have := H2.out.1.lt; omega)
              exact ⟨H2.out.1.kept (drew_below W2 nq), H2.out.2.1.trans hbq, H2.out.2.2.1.trans hbq, H2.out.2.2.2.kept (drew_below W2 nq)⟩
            clear H2 HWb d1 d2 HV
            generalize W2.drewN nq = W3 at *
            have d1 := HWc.out _ H3.out.2.2.1
            generalize wr = wo at *
            go_wp2_with fail
            clear d1
            go_loopw [5, 11] (fun x y wr => ∃ j : Nat, m ≤ j ∧ j ≤ m + 3 ∧ x = .bool true ∧ y = .int .i64 (j : Int) ∧ wr = W3) (fun _ y _ => m + 3 - (intOf y).toNat)
            case atStart => exact ⟨m, Nat.le_refl _, by omega, rfl, rfl, rfl⟩
            case round =>
              obtain ⟨j, hj1, hj2, rfl, rfl, hw⟩ := hrel
              subst hw
              by_cases hjlt : j < m + 3
              · have hjltI : (j : Int) < (m : Int) + 3 := by omega
                obtain ⟨e1, e2⟩ := H3.out.2.2.2.at j hjlt
                rw [kd_pad HM.out hj1 hjlt] at e1 e2
                simp only at e1 e2
                have hgd := fun op x y => run_eqGuard op x y (-41) 0 (-41) 0
                have hq := run_eqKey (-41) 0 (-41) 0
                simp only [decide_true] at hq
                go_wp2
                exact ⟨⟨j + 1, by omega, by omega, rfl, by go_num, by first | rfl | trivial⟩, by simp [intOf]; omega⟩
              · have hje : j = m + 3 := by omega
                subst hje
                obtain ⟨W4, hW4⟩ : ∃ W4, W4 = wr := ⟨_, rfl⟩
                subst hW4
                have HW0 : Hid (OwnK W4 (g + 1) (own q0 (m + 3) (m + 3)) (wipK (s ++ List.replicate 3 (-41, 0)) 0) ∧ W4.grownBy W4 (some q0)) := ⟨H3.out.2.2.2, World.grownBy.refl _ _⟩
                have HMl : Hid ((s ++ List.replicate 3 ((-41, 0) : K)).length = m + 3) := by show _ = _; rw [List.length_append, ← HM.out]; rfl
                go_wp2_with fail
                go_loopw [12] (fun y wr => ∃ j : Nat, j ≤ m + 3 ∧ y = .int .i64 (j : Int) ∧ Hid (OwnK wr (g + 1) (own q0 (m + 3) (m + 3)) (wipK (s ++ List.replicate 3 (-41, 0)) j) ∧ W4.grownBy wr (some q0))) (fun y _ => m + 3 - (intOf y).toNat)
                case atStart => exact ⟨0, Nat.zero_le _, rfl, HW0.out⟩
                case round =>
                  clear HW0
                  obtain ⟨j, hj, rfl, HJ⟩ := hrel
                  by_cases hjlt : j < m + 3
                  · have hjltI : (j : Int) < (m : Int) + 3 := by omega
                    obtain ⟨e1, e2⟩ := HJ.out.1.at j hjlt
                    have f1 := HJ.out.1.frozen (j * 2)
                    have f2 := HJ.out.1.frozen (j * 2 + 1)
                    generalize kd (wipK (s ++ List.replicate 3 (-41, 0)) j) j = ok at *
                    obtain ⟨o1, o2⟩ := ok
                    simp only at e1 e2
                    have HZ : Hid (OwnK ((wr.setCell ⟨q0, j * 2, none⟩ (.int .i64 (-43))).setCell ⟨q0, j * 2 + 1, none⟩ (.int .i64 0)) (g + 1) (own q0 (m + 3) (m + 3)) (wipK (s ++ List.replicate 3 (-41, 0)) (j + 1)) ∧ W4.grownBy ((wr.setCell ⟨q0, j * 2, none⟩ (.int .i64 (-43))).setCell ⟨q0, j * 2 + 1, none⟩ (.int .i64 0)) (some q0)) := by
                      obtain ⟨h1, h2⟩ := HJ.out.1.set j hjlt (-43) 0
                      rw [wipK_step (by rw [HMl.out]; exact hjlt)] at h1
                      have h3 := HJ.out.2
                      exact ⟨h1, h2.os.trans h3.os, h2.tape.trans h3.tape, h2.output.trans h3.output, Nat.le_trans h3.size h2.size, fun k hk hne => (h2.block k (Nat.lt_of_lt_of_le hk h3.size) hne).trans (h3.block k hk hne)⟩
                    clear HJ
                    go_wp2
                    exact ⟨⟨j + 1, by omega, by go_num, HZ.out⟩, by simp [intOf]; omega⟩
                  · have hq1 := (HJ.out.1.lt q0 rfl).1
                    have HLg : Hid (LG wr g n L nn qs (i + 1) n vs') := by
                      have h3 := HJ.out.2
                      have h4 : ∀ k, k ≠ qs i → wr.heap[k]? = W4.heap[k]? ∨ W4.heap.size ≤ k := fun k hk => by
                        by_cases hks : k < W4.heap.size
                        · exact .inl (h3.block k hks (fun e => by cases e; exact hk HQ.out))
                        · exact .inr (by omega)
                      have h5 := H3.out.1
                      refine ⟨(h3.block g h5.lt (fun e => by cases e; omega)).trans h5.row, fun j hj h1 h2 => ?_, fun a b h1 => h5.inc a b (by omega)⟩
                      rcases h5.sets j hj (by omega) h2 with h6 | ⟨h6, h7, h8⟩
                      · exact .inl h6
                      · refine .inr ⟨h6, h7, h8.same (fun k hk => ?_)⟩
                        have h9 := h8.lt k hk
                        have hkj : k = qs j := by cases hk; rfl
                        have h10 := h5.inc i j (Nat.le_refl _) (by omega) h2 HNf.out h6
                        have h11 := HQ.out
                        exact h3.block k h9.2 (fun e => by
                          have e2 : k = q0 := by cases e; rfl
                          omega)
                    obtain ⟨g1, g2⟩ := HLg.out.cell (i := i) (by omega)
                    have HX : Hid (∃ vs, LG (wr.setCell ⟨g, i, none⟩ (.slice none 0 0)) g n L nn qs (i + 1) n vs ∧ Below b0 W0 (wr.setCell ⟨g, i, none⟩ (.slice none 0 0))) := by
                      refine ⟨_, HLg.out.store i (.slice none 0 0) (Nat.le_refl _) (fun k h1 _ _ => by omega), ?_⟩
                      have h3 := HJ.out.2
                      have h4 : Below b0 W0 wr := H3.out.2.1.grown h3 (by have := HG.out.2.2; have := H3.out.1.lt; omega) (fun k e => by cases e; have := HG.out.2.2; omega)
                      exact h4.setCell (p := ⟨g, i, none⟩) HG.out.2.2 _
                    have hcv : ∃ cv, vs' i = cv := ⟨_, rfl⟩
                    obtain ⟨cv, hcv⟩ := hcv
                    rw [hcv] at g1
                    clear HJ HLg hcv H3
                    go_wp2
                    exact ⟨⟨i + 1, by omega, rfl, by go_num, HX.out⟩, by simp [intOf]; omega⟩
        · have HX : Hid (BwPost W0 b0 (.returned (.bool true)) wr) := by
            obtain ⟨_, _, h2⟩ := HI.out
            exact ⟨rfl, h2⟩
          clear HI
          go_wp2
          go_ret
          exact HX.out
end Go.Proofs.YtbmohlkcmhhpgaaGreat
/-
  Floor, Capacity.
-/
namespace Go.Proofs.YtbmohlkcmhhpgaaGreat
open Go.RowKit Go.Sort

set_option maxHeartbeats 1000000 in
theorem floor_any (w : World) (B Mp Mc Mn : Nat) (cap latest floor : Int) (pins : List (Int × Int)) (all : List V4) (nw : List K) (h : BA w B Mp Mc Mn cap latest floor pins all nw) :
    Calls Tryz.prog 55 #[ptr B] w fun e w' => e = .returned (.int .i64 floor) ∧ w' = w := by
  obtain ⟨_, _, c2, _⟩ := h.cells
  clear h
  go_enter Tryz.func55, Tryz.ntmps55
  go_wp2
  go_ret
  exact ⟨rfl, rfl⟩
set_option maxHeartbeats 1000000 in
theorem capacity_any (w : World) (B Mp Mc Mn : Nat) (cap latest floor : Int) (pins : List (Int × Int)) (all : List V4) (nw : List K) (h : BA w B Mp Mc Mn cap latest floor pins all nw) :
    Calls Tryz.prog 53 #[ptr B] w fun e w' => e = .returned (.int .i64 cap) ∧ w' = w := by
  obtain ⟨c0, _⟩ := h.cells
  clear h
  go_enter Tryz.func53, Tryz.ntmps53
  go_wp2
  go_ret
  exact ⟨rfl, rfl⟩
end Go.Proofs.YtbmohlkcmhhpgaaGreat
