/-
  lent: A BATCH's SETS OF WRITES IN MEMORY OF THEIR OWN.
-/
import Derived.Test.YtgejibjmmfklcabBkParts
import Derived.Test.YtgejibjmmfklcabKLent
namespace Go.Proofs.Ytgejibjmmfklcab
open Go.RowKit Go.Sort

theorem infoLsB : (Try.prog.info? 60).map (fun i => (i.zero, i.size, i.bytes)) = some (some (.slice none 0 0), 1, 24) := by kernel_rfl
theorem make_lsB (c : Nat) (C : Int) (hC : C = c) (hc : c ≤ 200000) (u : World) : (Instr.makeSlice 36 (.int .i64 C) (.int .i64 C)).run Try.prog u =
    .ok (.slice (some ⟨u.heap.size, 0, none⟩) c c) (u.alloc (.cells ((List.range c).map fun _ => Value.slice none 0 0).toArray 60)) := by
  subst hC
  obtain ⟨i0, hi, hz0, hz1, hz2⟩ := info_parts infoLsB
  have h := run_make (P := Try.prog) u 36 60 i0 (.slice none 0 0) Try.underlying36 hi hz0 .i64 .i64 (c : Int) (c : Int) (by omega) (Int.le_refl _) (by rw [hz2]; omega) (by omega)
  have e : madeCells #[.slice none 0 0] c = ((List.range c).map fun _ => Value.slice none 0 0).toArray := by
    apply Array.ext'
    apply List.ext_getElem?
    intro j
    by_cases hj : j < c
    · simp [madeCells, hj, Nat.mod_one]
    · simp [madeCells, hj]
  rw [← e]
  simpa [hz1, Value.cells] using h
theorem run_eqNilL (ao : Option Addr) (n c : Nat) (w : World) : (binOp .eql 36 (.slice ao n c) (.slice none 0 0)).run Try.prog w = .ok (.bool ao.isNone) w := by
  simp only [binOp]
  simp [run_equal_slice_nil w 36 60 ao n c Try.underlying36]
/-- a row of lists in block g, the first k of L's -/
structure LR (w W : World) (g N k : Nat) (L : List (List K)) (vs : Nat → Value) : Prop where
  row : W.heap[g]? = some (.cells ((List.range N).map vs).toArray 60 (0, 0))
  sets : ∀ i (hi : i < L.length), i < k → ∃ sa sc, vs i = .slice sa L[i].length sc ∧ KeysAt W sa L[i] ∧ ∀ a, L[i] ≠ [] → sa = some a → g < a.block ∧ a.block < W.heap.size
  bel : Below w.heap.size w W
  ge : w.heap.size ≤ g
theorem KeysAt.to {W W' : World} {sa : Option Addr} {s : List K} (h : KeysAt W sa s) (hb : ∀ a, s ≠ [] → sa = some a → W'.heap[a.block]? = W.heap[a.block]?) : KeysAt W' sa s := by
  rcases h with h0 | ⟨b, off, e, hc⟩
  · exact .inl h0
  · by_cases hne : s = []
    · exact .inl hne
    · refine .inr ⟨b, off, e, fun j u hu => ?_⟩
      have h7 := hc j u hu
      have he := hb _ hne e
      simp only at he
      unfold World.cell? at h7 ⊢
      simp only at h7 ⊢
      rw [he]
      exact h7
theorem LR.lt {w W : World} {g N k : Nat} {L : List (List K)} {vs : Nat → Value} (h : LR w W g N k L vs) : g < W.heap.size := blk_lt h.row
theorem LR.kept {w W W' : World} {g N k : Nat} {L : List (List K)} {vs : Nat → Value} (h : LR w W g N k L vs) (hb : Below W.heap.size W W') : LR w W' g N k L vs :=
  ⟨(hb.block _ h.lt).trans h.row, fun i hi hk => by
    obtain ⟨sa, sc, h1, h2, h3⟩ := h.sets i hi hk
    exact ⟨sa, sc, h1, h2.to (fun a ha hs => hb.block _ (h3 a ha hs).2), fun a ha hs => ⟨(h3 a ha hs).1, Nat.lt_of_lt_of_le (h3 a ha hs).2 hb.size⟩⟩, h.bel.trans (hb.mono h.bel.size), h.ge⟩
theorem LR.cell {w W : World} {g N k : Nat} {L : List (List K)} {vs : Nat → Value} (h : LR w W g N k L vs) {i : Nat} (hi : i < N) : W.cell? ⟨g, i, none⟩ = some (vs i) ∧ W.frozen? ⟨g, i, none⟩ = false := by
  have h1 := h.row
  refine ⟨?_, frozen_of_row W g i _ _ h1⟩
  simp [World.cell?, h1, hi]
theorem LR.set {w W : World} {g N k : Nat} {L : List (List K)} {vs : Nat → Value} (h : LR w W g N k L vs) (i : Nat) (v : Value) (k' : Nat)
    (hs : ∀ j, j < L.length → j < k' → j ≠ i → j < k) (hv : ∀ (hi : i < L.length), i < k' → ∃ sa sc, v = .slice sa L[i].length sc ∧ KeysAt W sa L[i] ∧ ∀ a, L[i] ≠ [] → sa = some a → g < a.block ∧ a.block < W.heap.size) :
    LR w (W.setCell ⟨g, i, none⟩ v) g N k' L (fun j => if j = i then v else vs j) := by
  have ho : ∀ G, G ≠ g → (W.setCell ⟨g, i, none⟩ v).heap[G]? = W.heap[G]? := fun G hG => heap_setCell_other W ⟨g, i, none⟩ G v hG
  have hz : (W.setCell ⟨g, i, none⟩ v).heap.size = W.heap.size := by simp
  refine ⟨?_, fun j hj hk => ?_, ?_, h.ge⟩
  · rw [heap_setCell_same W g i _ _ v h.row]
    congr 2
    apply Array.ext'
    apply List.ext_getElem?
    intro j
    by_cases hj : j < N
    · by_cases hji : j = i
      · subst hji; simp [hj]
      · simp only [Array.toList_setIfInBounds, List.getElem?_set_ne (Ne.symm hji), List.getElem?_map, List.getElem?_range hj, Option.map_some, if_neg hji]
    · simp [hj]
  · have key : ∀ {sa : Option Addr}, KeysAt W sa L[j] → (∀ a, L[j] ≠ [] → sa = some a → g < a.block ∧ a.block < W.heap.size) → KeysAt (W.setCell ⟨g, i, none⟩ v) sa L[j] := fun h2 h3 => h2.to (fun a ha hs => ho _ (by have := (h3 a ha hs).1; omega))
    by_cases hji : j = i
    · subst hji
      obtain ⟨sa, sc, h1, h2, h3⟩ := hv hj hk
      exact ⟨sa, sc, by rw [if_pos rfl, h1], key h2 h3, fun a ha hs => by rw [hz]; exact h3 a ha hs⟩
    · obtain ⟨sa, sc, h1, h2, h3⟩ := h.sets j hj (hs j hj hk hji)
      exact ⟨sa, sc, by rw [if_neg hji, h1], key h2 h3, fun a ha hs => by rw [hz]; exact h3 a ha hs⟩
  · refine h.bel.trans ⟨rfl, rfl, rfl, by simp, fun k hk => ho k (by have := h.ge; omega)⟩
theorem LR.rws {w W : World} {g N : Nat} {L : List (List K)} {vs : Nat → Value} (h : LR w W g N L.length L vs) (hN : L.length ≤ N) : RWs (fun k => k < w.heap.size) W (some ⟨g, 0, none⟩) L := fun i hi => by
  obtain ⟨sa, sc, h1, h2, h3⟩ := h.sets i hi hi
  have := h.ge
  refine ⟨g, 0, sa, sc, rfl, by omega, h.lt, ?_, h2, fun a ha hs => ⟨by have := (h3 a ha hs).1; omega, (h3 a ha hs).2⟩⟩
  rw [Nat.zero_add, (h.cell (by omega)).1, h1]
set_option maxHeartbeats 2000000 in
set_option maxRecDepth 100000 in
theorem lentW_any (G : Nat → Prop) (w : World) (ao : Option Addr) (n c : Nat) (L : List (List K)) (hn : n = L.length) (h : RWs G w ao L) (hnb : n ≤ 100000) (hb : ∀ s ∈ L, s.length ≤ 100000) :
    Calls Try.prog 14 #[.slice ao n c] w fun e w' => ∃ a c', e = .returned (.slice a n c') ∧ RWs (fun k => k < w.heap.size) w' a L ∧ Below w.heap.size w w' := by
  have HN : Hid (n = L.length ∧ ∀ s ∈ L, s.length ≤ 100000) := ⟨hn, hb⟩
  cases ao with
  | none =>
    have hL : L = [] := by
      rcases L with _ | ⟨s, L⟩
      · rfl
      · obtain ⟨_, _, _, _, e, _⟩ := h 0 (by simp); cases e
    subst hL
    have hn0 : n = 0 := hn
    clear h hn hb
    subst hn0
    have hnil := run_eqNilL none 0 c
    simp only [Option.isNone_none] at hnil
    go_enter Try.func14, Try.ntmps14
    go_wp2
    go_ret
    exact ⟨none, 0, rfl, fun i hi => by simp at hi, Below.refl _ _⟩
  | some a =>
    have hnil := run_eqNilL (some a) n c
    simp only [Option.isNone_some] at hnil
    have hmk := make_lsB (n + 3) ((n : Int) + 3) (by omega) (by omega) w
    have HR : Hid (∀ W, Below w.heap.size w W → RWs G W (some a) L) := fun W hW => h.fr (Fr.ofBelow hW)
    have HL0 : Hid (LR w (w.alloc (.cells ((List.range (n + 3)).map fun _ => Value.slice none 0 0).toArray 60)) w.heap.size (n + 3) 0 L (fun _ => .slice none 0 0)) :=
      ⟨heap_alloc_new _ _ rfl, fun i _ h => absurd h (by omega), (Below.refl _ _).alloc (Nat.le_refl _) _, Nat.le_refl _⟩
    clear h hn hb
    obtain ⟨g, hg⟩ : ∃ g, g = w.heap.size := ⟨_, rfl⟩
    generalize (w.alloc (.cells ((List.range (n + 3)).map fun _ => Value.slice none 0 0).toArray 60)) = W1 at *
    have HL1 : Hid (LR w W1 g (n + 3) 0 L (fun _ => .slice none 0 0)) := by rw [hg]; exact HL0
    rw [← hg] at hmk
    clear hg HL0
    go_enter Try.func14, Try.ntmps14
    go_wp2_with fail
    clear hmk
    go_loopw [4, 5, 6] (fun x _ _ wr => ∃ i : Nat, i ≤ n ∧ x = .int .i64 (i : Int) ∧ Hid (∃ vs, LR w wr g (n + 3) i L vs ∧ ∀ j, i ≤ j → vs j = .slice none 0 0)) (fun x _ _ _ => n - (intOf x).toNat)
    case atStart => exact ⟨0, Nat.zero_le _, rfl, _, HL1.out, fun _ _ => rfl⟩
    case round =>
      clear HL1
      obtain ⟨i, hi, rfl, HI⟩ := hrel
      by_cases hlt : i < n
      · have hil : i < L.length := by have := HN.out.1; omega
        obtain ⟨vs, HV⟩ := HI.out
        replace HV := hidC HV
        obtain ⟨b, off, sa, sc, e, _, hrow⟩ := (HR.out wr HV.out.1.bel).at hil
        cases e
        have HRow : Hid (∀ W, Below wr.heap.size wr W → W.cell? ⟨b, off + i, none⟩ = some (.slice sa L[i].length sc) ∧ KeysAt W sa L[i]) := fun W hW => hrow W (Fr.ofBelow hW)
        have hsb : L[i].length ≤ 100000 := HN.out.2 _ (List.getElem_mem hil)
        obtain ⟨s, hs⟩ : ∃ s, s = L[i] := ⟨_, rfl⟩
        have HE : Hid (∃ hi : i < L.length, L[i]'hi = s) := ⟨hil, hs.symm⟩
        clear hrow HI
        rw [← hs] at HRow hsb
        clear hs
        obtain ⟨m, hm⟩ : ∃ m, m = s.length := ⟨_, rfl⟩
        have HM := hidC hm
        rw [← hm] at HRow hsb
        clear hm
        have c1 := (HRow.out wr (Below.refl _ _)).1
        have hii : (i : Int) < (n : Int) := by omega
        cases sa with
        | none =>
          have hnk := run_eqNil none m sc
          simp only [Option.isNone_none] at hnk
          have HX : Hid (∃ vs, LR w wr g (n + 3) (i + 1) L vs ∧ ∀ j, i + 1 ≤ j → vs j = .slice none 0 0) := by
            refine ⟨vs, ⟨HV.out.1.row, fun j hj hk => ?_, HV.out.1.bel, HV.out.1.ge⟩, fun j hj => HV.out.2 j (by omega)⟩
            by_cases hji : j = i
            · subst hji
              obtain ⟨_, he⟩ := HE.out
              have hs : s = [] := by
                rcases (HRow.out wr (Below.refl _ _)).2 with h0 | ⟨_, _, e, _⟩
                · exact h0
                · cases e
              rw [hs] at he
              exact ⟨none, 0, by rw [HV.out.2 j (Nat.le_refl _), he]; rfl, .inl he, fun a h => absurd he h⟩
            · exact HV.out.1.sets j hj (by omega)
          clear HV HRow HE
          go_wp2_with fail
          exact ⟨⟨i + 1, by omega, by go_num, HX.out⟩, by simp [intOf]; omega⟩
        | some sa =>
          have hnk := run_eqNil (some sa) m sc
          simp only [Option.isNone_some] at hnk
          have hmk := make_keys (m + 3) ((m : Int) + 3) (by omega) (by omega) wr
          have HB2 : Hid (Below wr.heap.size wr (wr.alloc (.cells (cks (List.replicate (m + 3) (0, 0))).toArray 38))) := (Below.refl _ _).alloc (Nat.le_refl _) _
          have hcp := fun ty => run_copy_keys (wr.alloc (.cells (cks (List.replicate (m + 3) (0, 0))).toArray 38)) ty wr.heap.size (m + 3) (m + 3) sa m sc s (List.replicate (m + 3) (0, 0)) HM.out (by simp) (by omega) (heap_alloc_new _ _ rfl) (HRow.out _ HB2.out).2 (s ++ List.replicate 3 (0, 0)) (by rw [List.drop_replicate, show m + 3 - m = 3 by omega])
          have HB3 : Hid (Below wr.heap.size wr ((wr.alloc (.cells (cks (List.replicate (m + 3) (0, 0))).toArray 38)).setRow wr.heap.size (cks (s ++ List.replicate 3 (0, 0))).toArray)) := setRow_below (Nat.le_refl _) (Nat.le_refl _)
          have HO : Hid (OwnK ((wr.alloc (.cells (cks (List.replicate (m + 3) (0, 0))).toArray 38)).setRow wr.heap.size (cks (s ++ List.replicate 3 (0, 0))).toArray) wr.heap.size (own wr.heap.size (m + 3) (m + 3)) (s ++ List.replicate 3 (0, 0))) := by
            have h1 := OwnK.of_row (w := (wr.alloc (.cells (cks (List.replicate (m + 3) (0, 0))).toArray 38)).setRow wr.heap.size (cks (s ++ List.replicate 3 (0, 0))).toArray) (base := wr.heap.size) (Nat.le_refl _) (setRow_heap _ wr.heap.size _ _ _ _ (heap_alloc_new _ _ rfl)) (Z := s ++ List.replicate 3 (0, 0)) (by rw [List.length_append, List.length_replicate, ← HM.out]; unfold maxLen; omega)
            rw [List.length_append, List.length_replicate, ← HM.out] at h1
            exact h1
          generalize ((wr.alloc (.cells (cks (List.replicate (m + 3) (0, 0))).toArray 38)).setRow wr.heap.size (cks (s ++ List.replicate 3 (0, 0))).toArray) = W3 at *
          generalize (wr.alloc (.cells (cks (List.replicate (m + 3) (0, 0))).toArray 38)) = W2 at *
          obtain ⟨q, hq⟩ : ∃ q, q = wr.heap.size := ⟨_, rfl⟩
          have HQ := hidC hq
          have HO3 : Hid (OwnK W3 q (own q (m + 3) (m + 3)) (s ++ List.replicate 3 (0, 0))) := by rw [hq]; exact HO
          rw [← hq] at hmk hcp
          clear hq HO
          have c2 := (HRow.out W2 HB2.out).1
          have c3 := (HRow.out W3 HB3.out).1
          go_wp2_with fail
          clear hmk hcp c1 c2 c3 hnk
          generalize wr = u at *
          go_loopw [6] (fun x wr => ∃ j : Nat, m ≤ j ∧ j ≤ m + 3 ∧ x = .int .i64 (j : Int) ∧ Hid (Below u.heap.size u wr ∧ ∃ M, OwnK wr q (own q (m + 3) (m + 3)) M ∧ M.take m = s)) (fun x _ => m + 3 - (intOf x).toNat)
          case atStart => exact ⟨m, Nat.le_refl _, by omega, rfl, HB3.out, _, HO3.out, by rw [HM.out, List.take_left]⟩
          case round =>
            clear HB2 HB3 HO3
            obtain ⟨j, hj1, hj2, rfl, HJ⟩ := hrel
            obtain ⟨M, HMm⟩ := HJ.out.2
            replace HMm := hidC HMm
            have HBq := hidC HJ.out.1
            clear HJ
            by_cases hjlt : j < m + 3
            · have hjlt2 : (j : Int) < (m : Int) + 3 := by omega
              obtain ⟨e1, e2⟩ := HMm.out.1.at j hjlt
              have f1 := HMm.out.1.frozen (j * 2)
              have f2 := HMm.out.1.frozen (j * 2 + 1)
              generalize kd M j = ok at *
              obtain ⟨o1, o2⟩ := ok
              simp only at e1 e2
              have HO2 : Hid (Below u.heap.size u ((wr.setCell ⟨q, j * 2, none⟩ (.int .i64 (-41))).setCell ⟨q, j * 2 + 1, none⟩ (.int .i64 0)) ∧ ∃ M, OwnK ((wr.setCell ⟨q, j * 2, none⟩ (.int .i64 (-41))).setCell ⟨q, j * 2 + 1, none⟩ (.int .i64 0)) q (own q (m + 3) (m + 3)) M ∧ M.take m = s) := by
                obtain ⟨h1, h2⟩ := HMm.out.1.set j hjlt (-41) 0
                refine ⟨HBq.out.trans (grown_below h2 (fun b e => by cases e; exact Nat.le_of_eq HQ.out.symm) HBq.out.size), _, h1, ?_⟩
                rw [← HMm.out.2]
                apply List.ext_getElem?
                intro t
                by_cases ht : t < m
                · rw [List.getElem?_take_of_lt ht, List.getElem?_take_of_lt ht, List.getElem?_set_ne (by omega)]
                · rw [List.getElem?_eq_none (by rw [List.length_take]; omega), List.getElem?_eq_none (by rw [List.length_take]; omega)]
              clear HMm HBq
              go_wp2_with fail
              exact ⟨⟨j + 1, by omega, by omega, by go_num, HO2.out⟩, by simp [intOf]; omega⟩
            · have hje : j = m + 3 := by omega
              subst hje
              have HLq : Hid (LR w wr g (n + 3) i L vs) := HV.out.1.kept HBq.out
              obtain ⟨g1, g2⟩ := HLq.out.cell (i := i) (by omega)
              have hvi := HV.out.2 i (Nat.le_refl _)
              rw [hvi] at g1
              have c4 := (HRow.out wr HBq.out).1
              have HX : Hid (∃ vs, LR w (wr.setCell ⟨g, i, none⟩ (.slice (some ⟨q, 0, none⟩) m (m + 3))) g (n + 3) (i + 1) L vs ∧ ∀ j, i + 1 ≤ j → vs j = .slice none 0 0) := by
                refine ⟨_, HLq.out.set i _ (i + 1) (fun j _ h1 h2 => by omega) (fun hi _ => ?_), fun j hj => by rw [if_neg (by omega)]; exact HV.out.2 j (by omega)⟩
                obtain ⟨_, he⟩ := HE.out
                have hp := HMm.out.1.prefix m (by omega)
                rw [HMm.out.2] at hp
                have hq1 := HMm.out.1.lt q rfl
                have hq2 := HV.out.1.lt
                have hq3 := HQ.out
                refine ⟨some ⟨q, 0, none⟩, m + 3, by rw [he, ← HM.out], by rw [he]; exact hp.lst_at, fun a _ e => ?_⟩
                cases e
                exact ⟨by show g < q; omega, hq1.2⟩
              clear HLq HMm HBq HV hvi
              go_wp2_with fail
              exact ⟨⟨i + 1, by omega, by go_num, HX.out⟩, by simp [intOf]; omega⟩
      · have hie : i = n := by omega
        subst hie
        obtain ⟨vs, HV⟩ := HI.out
        replace HV := hidC HV.1
        clear HI
        go_wp2_with fail
        go_loopw [7] (fun x wr => ∃ j : Nat, i ≤ j ∧ j ≤ i + 3 ∧ x = .int .i64 (j : Int) ∧ Hid (∃ vs, LR w wr g (i + 3) i L vs)) (fun x _ => i + 3 - (intOf x).toNat)
        case atStart => exact ⟨i, Nat.le_refl _, by omega, rfl, vs, HV.out⟩
        case round =>
          clear HV
          obtain ⟨j, hj1, hj2, rfl, HJ⟩ := hrel
          obtain ⟨vs, HV⟩ := HJ.out
          replace HV := hidC HV
          clear HJ
          by_cases hjlt : j < i + 3
          · have hjlt2 : (j : Int) < (i : Int) + 3 := by omega
            have HLa : Hid (∀ o, LR w (wr.alloc o) g (i + 3) i L vs) := fun o => HV.out.kept ((Below.refl _ _).alloc (Nat.le_refl _) o)
            have g1 := fun o => ((HLa.out o).cell (i := j) hjlt).1
            have g2 := fun o => ((HLa.out o).cell (i := j) hjlt).2
            have HX : Hid (∀ o v, ∃ vs, LR w ((wr.alloc o).setCell ⟨g, j, none⟩ v) g (i + 3) i L vs) := fun o v => ⟨_, (HLa.out o).set j v i (fun _ _ h _ => h) (fun _ h => absurd h (by omega))⟩
            clear HV HLa
            go_wp2_with fail
            exact ⟨⟨j + 1, by omega, by omega, by go_num, HX.out _ _⟩, by simp [intOf]; omega⟩
          · have hje : j = i + 3 := by omega
            subst hje
            have HX : Hid (RWs (fun k => k < w.heap.size) wr (some ⟨g, 0, none⟩) L ∧ Below w.heap.size w wr) := by
              have h1 := HV.out
              have h2 := HN.out.1
              refine ⟨LR.rws (N := i + 3) (vs := vs) ?_ (by omega), h1.bel⟩
              rw [← h2]
              exact h1
            clear HV
            go_wp2
            go_ret
            exact ⟨_, _, rfl, HX.out.1, HX.out.2⟩
end Go.Proofs.Ytgejibjmmfklcab
