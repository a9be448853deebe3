import Derived.Test.YtibdogniiglcjabJBkWgt
import Derived.Test.YtibdogniiglcjabKLent
import Derived.Test.YtibdogniiglcjabBkColl
import Derived.Test.YtibdogniiglcjabBkPin
import Derived.Test.YtibdogniiglcjabBkAdmit
/-
  lent: A BATCH's SETS OF WRITES IN MEMORY OF THEIR OWN.
-/
namespace Go.Proofs.Ytibdogniiglcjab
open Go.RowKit Go.Sort

theorem infoLsB : (Try.prog.info? 60).map (fun i => (i.zero, i.size, i.bytes)) = some (some (.slice none 0 0), 1, 24) := by kernel_rfl
theorem make_lsB (c : Nat) (C : Int) (hC : C = c) (hc : c ≤ 200000) (u : World) : (Instr.makeSlice 36 (.int .i64 C) (.int .i64 C)).run Try.prog u =
    .ok (.slice (some ⟨u.heap.size, 0, none⟩) c c) (u.alloc (.cells ((List.range c).map fun _ => Value.slice none 0 0).toArray 60)) := by
  subst hC
  obtain ⟨i0, hi, hz0, hz1, hz2⟩ := info_parts infoLsB
  have h := run_make (P := Try.prog) u 36 60 i0 (.slice none 0 0) Try.underlying36 hi hz0 .i64 .i64 (c : Int) (c : Int) (by omega) (Int.le_refl _) (by rw [hz2]; omega) (by omega)
  have e : madeCells #[.slice none 0 0] c = ((List.range c).map fun _ => Value.slice none 0 0).toArray := by
    apply Array.ext'
    apply List.ext_getElem?
    intro j
    by_cases hj : j < c
    · simp [madeCells, hj, Nat.mod_one]
    · simp [madeCells, hj]
  rw [← e]
  simpa [hz1, Value.cells] using h
theorem run_eqNilL (ao : Option Addr) (n c : Nat) (w : World) : (binOp .eql 36 (.slice ao n c) (.slice none 0 0)).run Try.prog w = .ok (.bool ao.isNone) w := by
  simp only [binOp]
  simp [run_equal_slice_nil w 36 60 ao n c Try.underlying36]
/-- a row of lists in block g, the first k of L's -/
structure LR (w W : World) (g N k : Nat) (L : List (List K)) (vs : Nat → Value) : Prop where
  row : W.heap[g]? = some (.cells ((List.range N).map vs).toArray 60 (0, 0))
  sets : ∀ i (hi : i < L.length), i < k → ∃ sa sc, vs i = .slice sa L[i].length sc ∧ KeysAt W sa L[i] ∧ ∀ a, L[i] ≠ [] → sa = some a → g < a.block ∧ a.block < W.heap.size
  bel : Below w.heap.size w W
  ge : w.heap.size ≤ g
theorem KeysAt.to {W W' : World} {sa : Option Addr} {s : List K} (h : KeysAt W sa s) (hb : ∀ a, s ≠ [] → sa = some a → W'.heap[a.block]? = W.heap[a.block]?) : KeysAt W' sa s := by
  rcases h with h0 | ⟨b, off, e, hc⟩
  · exact .inl h0
  · by_cases hne : s = []
    · exact .inl hne
    · refine .inr ⟨b, off, e, fun j u hu => ?_⟩
      have h7 := hc j u hu
      have he := hb _ hne e
      simp only at he
      unfold World.cell? at h7 ⊢
      simp only at h7 ⊢
      rw [he]
      exact h7
theorem LR.lt {w W : World} {g N k : Nat} {L : List (List K)} {vs : Nat → Value} (h : LR w W g N k L vs) : g < W.heap.size := blk_lt h.row
theorem LR.kept {w W W' : World} {g N k : Nat} {L : List (List K)} {vs : Nat → Value} (h : LR w W g N k L vs) (hb : Below W.heap.size W W') : LR w W' g N k L vs :=
  ⟨(hb.block _ h.lt).trans h.row, fun i hi hk => by
    obtain ⟨sa, sc, h1, h2, h3⟩ := h.sets i hi hk
    exact ⟨sa, sc, h1, h2.to (fun a ha hs => hb.block _ (h3 a ha hs).2), fun a ha hs => ⟨(h3 a ha hs).1, Nat.lt_of_lt_of_le (h3 a ha hs).2 hb.size⟩⟩, h.bel.trans (hb.mono h.bel.size), h.ge⟩
theorem LR.cell {w W : World} {g N k : Nat} {L : List (List K)} {vs : Nat → Value} (h : LR w W g N k L vs) {i : Nat} (hi : i < N) : W.cell? ⟨g, i, none⟩ = some (vs i) ∧ W.frozen? ⟨g, i, none⟩ = false := by
  have h1 := h.row
  refine ⟨?_, frozen_of_row W g i _ _ h1⟩
  simp [World.cell?, h1, hi]
theorem LR.set {w W : World} {g N k : Nat} {L : List (List K)} {vs : Nat → Value} (h : LR w W g N k L vs) (i : Nat) (v : Value) (k' : Nat)
    (hs : ∀ j, j < L.length → j < k' → j ≠ i → j < k) (hv : ∀ (hi : i < L.length), i < k' → ∃ sa sc, v = .slice sa L[i].length sc ∧ KeysAt W sa L[i] ∧ ∀ a, L[i] ≠ [] → sa = some a → g < a.block ∧ a.block < W.heap.size) :
    LR w (W.setCell ⟨g, i, none⟩ v) g N k' L (fun j => if j = i then v else vs j) := by
  have ho : ∀ G, G ≠ g → (W.setCell ⟨g, i, none⟩ v).heap[G]? = W.heap[G]? := fun G hG => heap_setCell_other W ⟨g, i, none⟩ G v hG
  have hz : (W.setCell ⟨g, i, none⟩ v).heap.size = W.heap.size := by simp
  refine ⟨?_, fun j hj hk => ?_, ?_, h.ge⟩
  · rw [heap_setCell_same W g i _ _ v h.row]
    congr 2
    apply Array.ext'
    apply List.ext_getElem?
    intro j
    by_cases hj : j < N
    · by_cases hji : j = i
      · subst hji; simp [hj]
      · simp only [Array.toList_setIfInBounds, List.getElem?_set_ne (Ne.symm hji), List.getElem?_map, List.getElem?_range hj, Option.map_some, if_neg hji]
    · simp [hj]
  · have key : ∀ {sa : Option Addr}, KeysAt W sa L[j] → (∀ a, L[j] ≠ [] → sa = some a → g < a.block ∧ a.block < W.heap.size) → KeysAt (W.setCell ⟨g, i, none⟩ v) sa L[j] := fun h2 h3 => h2.to (fun a ha hs => ho _ (by have := (h3 a ha hs).1; omega))
    by_cases hji : j = i
    · subst hji
      obtain ⟨sa, sc, h1, h2, h3⟩ := hv hj hk
      exact ⟨sa, sc, by rw [if_pos rfl, h1], key h2 h3, fun a ha hs => by rw [hz]; exact h3 a ha hs⟩
    · obtain ⟨sa, sc, h1, h2, h3⟩ := h.sets j hj (hs j hj hk hji)
      exact ⟨sa, sc, by rw [if_neg hji, h1], key h2 h3, fun a ha hs => by rw [hz]; exact h3 a ha hs⟩
  · refine h.bel.trans ⟨rfl, rfl, rfl, by simp, fun k hk => ho k (by have := h.ge; omega)⟩
theorem LR.rws {w W : World} {g N : Nat} {L : List (List K)} {vs : Nat → Value} (h : LR w W g N L.length L vs) (hN : L.length ≤ N) : RWs (fun k => k < w.heap.size) W (some ⟨g, 0, none⟩) L := fun i hi => by
  obtain ⟨sa, sc, h1, h2, h3⟩ := h.sets i hi hi
  have := h.ge
  refine ⟨g, 0, sa, sc, rfl, by omega, h.lt, ?_, h2, fun a ha hs => ⟨by have := (h3 a ha hs).1; omega, (h3 a ha hs).2⟩⟩
  rw [Nat.zero_add, (h.cell (by omega)).1, h1]
set_option maxHeartbeats 2000000 in
set_option maxRecDepth 100000 in
theorem lentW_any (G : Nat → Prop) (w : World) (ao : Option Addr) (n c : Nat) (L : List (List K)) (hn : n = L.length) (h : RWs G w ao L) (hnb : n ≤ 100000) (hb : ∀ s ∈ L, s.length ≤ 100000) :
    Calls Try.prog 14 #[.slice ao n c] w fun e w' => ∃ a c', e = .returned (.slice a n c') ∧ RWs (fun k => k < w.heap.size) w' a L ∧ Below w.heap.size w w' := by
  have HN : Hid (n = L.length ∧ ∀ s ∈ L, s.length ≤ 100000) := ⟨hn, hb⟩
  cases ao with
  | none =>
    have hL : L = [] := by
      rcases L with _ | ⟨s, L⟩
      · rfl
      · obtain ⟨_, _, _, _, e, _⟩ := h 0 (by simp); cases e
    subst hL
    have hn0 : n = 0 := hn
    clear h hn hb
    subst hn0
    have hnil := run_eqNilL none 0 c
    simp only [Option.isNone_none] at hnil
    go_enter Try.func14, Try.ntmps14
    go_wp2
    go_ret
    exact ⟨none, 0, rfl, fun i hi => by simp at hi, Below.refl _ _⟩
  | some a =>
    have hnil := run_eqNilL (some a) n c
    simp only [Option.isNone_some] at hnil
    have hmk := make_lsB (n + 3) ((n : Int) + 3) (by omega) (by omega) w
    have HR : Hid (∀ W, Below w.heap.size w W → RWs G W (some a) L) := fun W hW => h.fr (Fr.ofBelow hW)
    have HL0 : Hid (LR w (w.alloc (.cells ((List.range (n + 3)).map fun _ => Value.slice none 0 0).toArray 60)) w.heap.size (n + 3) 0 L (fun _ => .slice none 0 0)) :=
      ⟨heap_alloc_new _ _ rfl, fun i _ h => absurd h (by omega), (Below.refl _ _).alloc (Nat.le_refl _) _, Nat.le_refl _⟩
    clear h hn hb
    obtain ⟨g, hg⟩ : ∃ g, g = w.heap.size := ⟨_, rfl⟩
    generalize (w.alloc (.cells ((List.range (n + 3)).map fun _ => Value.slice none 0 0).toArray 60)) = W1 at *
    have HL1 : Hid (LR w W1 g (n + 3) 0 L (fun _ => .slice none 0 0)) := by rw [hg]; exact HL0
    rw [← hg] at hmk
    clear hg HL0
    go_enter Try.func14, Try.ntmps14
    go_wp2_with fail
    clear hmk
    go_loopw [4, 5, 6] (fun x _ _ wr => ∃ i : Nat, i ≤ n ∧ x = .int .i64 (i : Int) ∧ Hid (∃ vs, LR w wr g (n + 3) i L vs ∧ ∀ j, i ≤ j → vs j = .slice none 0 0)) (fun x _ _ _ => n - (intOf x).toNat)
    case atStart => exact ⟨0, Nat.zero_le _, rfl, _, HL1.out, fun _ _ => rfl⟩
    case round =>
      clear HL1
      obtain ⟨i, hi, rfl, HI⟩ := hrel
      by_cases hlt : i < n
      · have hil : i < L.length := by have := HN.out.1; omega
        obtain ⟨vs, HV⟩ := HI.out
        replace HV := hidC HV
        obtain ⟨b, off, sa, sc, e, _, hrow⟩ := (HR.out wr HV.out.1.bel).at hil
        cases e
        have HRow : Hid (∀ W, Below wr.heap.size wr W → W.cell? ⟨b, off + i, none⟩ = some (.slice sa L[i].length sc) ∧ KeysAt W sa L[i]) := fun W hW => hrow W (Fr.ofBelow hW)
        have hsb : L[i].length ≤ 100000 := HN.out.2 _ (List.getElem_mem hil)
        obtain ⟨s, hs⟩ : ∃ s, s = L[i] := ⟨_, rfl⟩
        have HE : Hid (∃ hi : i < L.length, L[i]'hi = s) := ⟨hil, hs.symm⟩
        clear hrow HI
        rw [← hs] at HRow hsb
        clear hs
        obtain ⟨m, hm⟩ : ∃ m, m = s.length := ⟨_, rfl⟩
        have HM := hidC hm
        rw [← hm] at HRow hsb
        clear hm
        have c1 := (HRow.out wr (Below.refl _ _)).1
        have hii : (i : Int) < (n : Int) := by omega
        cases sa with
        | none =>
          have hnk := run_eqNil none m sc
          simp only [Option.isNone_none] at hnk
          have HX : Hid (∃ vs, LR w wr g (n + 3) (i + 1) L vs ∧ ∀ j, i + 1 ≤ j → vs j = .slice none 0 0) := by
            refine ⟨vs, ⟨HV.out.1.row, fun j hj hk => ?_, HV.out.1.bel, HV.out.1.ge⟩, fun j hj => HV.out.2 j (by omega)⟩
            by_cases hji : j = i
            · subst hji
              obtain ⟨_, he⟩ := HE.out
              have hs : s = [] := by
                rcases (HRow.out wr (Below.refl _ _)).2 with h0 | ⟨_, _, e, _⟩
                · exact h0
                · cases e
              rw [hs] at he
              exact ⟨none, 0, by rw [HV.out.2 j (Nat.le_refl _), he]; rfl, .inl he, fun a h => absurd he h⟩
            · exact HV.out.1.sets j hj (by omega)
          clear HV HRow HE
          go_wp2_with fail
          exact ⟨⟨i + 1, by omega, by go_num, HX.out⟩, by simp [intOf]; omega⟩
        | some sa =>
          have hnk := run_eqNil (some sa) m sc
          simp only [Option.isNone_some] at hnk
          have hmk := make_keys (m + 3) ((m : Int) + 3) (by omega) (by omega) wr
          have HB2 : Hid (Below wr.heap.size wr (wr.alloc (.cells (cks (List.replicate (m + 3) (0, 0))).toArray 38))) := (Below.refl _ _).alloc (Nat.le_refl _) _
          have hcp := fun ty => run_copy_keys (wr.alloc (.cells (cks (List.replicate (m + 3) (0, 0))).toArray 38)) ty wr.heap.size (m + 3) (m + 3) sa m sc s (List.replicate (m + 3) (0, 0)) HM.out (by simp) (by omega) (heap_alloc_new _ _ rfl) (HRow.out _ HB2.out).2 (s ++ List.replicate 3 (0, 0)) (by rw [List.drop_replicate, show m + 3 - m = 3 by omega])
          have HB3 : Hid (Below wr.heap.size wr ((wr.alloc (.cells (cks (List.replicate (m + 3) (0, 0))).toArray 38)).setRow wr.heap.size (cks (s ++ List.replicate 3 (0, 0))).toArray)) := setRow_below (Nat.le_refl _) (Nat.le_refl _)
          have HO : Hid (OwnK ((wr.alloc (.cells (cks (List.replicate (m + 3) (0, 0))).toArray 38)).setRow wr.heap.size (cks (s ++ List.replicate 3 (0, 0))).toArray) wr.heap.size (own wr.heap.size (m + 3) (m + 3)) (s ++ List.replicate 3 (0, 0))) := by
            have h1 := OwnK.of_row (w := (wr.alloc (.cells (cks (List.replicate (m + 3) (0, 0))).toArray 38)).setRow wr.heap.size (cks (s ++ List.replicate 3 (0, 0))).toArray) (base := wr.heap.size) (Nat.le_refl _) (setRow_heap _ wr.heap.size _ _ _ _ (heap_alloc_new _ _ rfl)) (Z := s ++ List.replicate 3 (0, 0)) (by rw [List.length_append, List.length_replicate, ← HM.out]; unfold maxLen; omega)
            rw [List.length_append, List.length_replicate, ← HM.out] at h1
            exact h1
          generalize ((wr.alloc (.cells (cks (List.replicate (m + 3) (0, 0))).toArray 38)).setRow wr.heap.size (cks (s ++ List.replicate 3 (0, 0))).toArray) = W3 at *
          generalize (wr.alloc (.cells (cks (List.replicate (m + 3) (0, 0))).toArray 38)) = W2 at *
          obtain ⟨q, hq⟩ : ∃ q, q = wr.heap.size := ⟨_, rfl⟩
          have HQ := hidC hq
          have HO3 : Hid (OwnK W3 q (own q (m + 3) (m + 3)) (s ++ List.replicate 3 (0, 0))) := by rw [hq]; exact HO
          rw [← hq] at hmk hcp
          clear hq HO
          have c2 := (HRow.out W2 HB2.out).1
          have c3 := (HRow.out W3 HB3.out).1
          go_wp2_with fail
          clear hmk hcp c1 c2 c3 hnk
          generalize wr = u at *
          go_loopw [6] (fun x wr => ∃ j : Nat, m ≤ j ∧ j ≤ m + 3 ∧ x = .int .i64 (j : Int) ∧ Hid (Below u.heap.size u wr ∧ ∃ M, OwnK wr q (own q (m + 3) (m + 3)) M ∧ M.take m = s)) (fun x _ => m + 3 - (intOf x).toNat)
          case atStart => exact ⟨m, Nat.le_refl _, by omega, rfl, HB3.out, _, HO3.out, by rw [HM.out, List.take_left]⟩
          case round =>
            clear HB2 HB3 HO3
            obtain ⟨j, hj1, hj2, rfl, HJ⟩ := hrel
            obtain ⟨M, HMm⟩ := HJ.out.2
            replace HMm := hidC HMm
            have HBq := hidC HJ.out.1
            clear HJ
            by_cases hjlt : j < m + 3
            · have hjlt2 : (j : Int) < (m : Int) + 3 := by omega
              obtain ⟨e1, e2⟩ := HMm.out.1.at j hjlt
              have f1 := HMm.out.1.frozen (j * 2)
              have f2 := HMm.out.1.frozen (j * 2 + 1)
              generalize kd M j = ok at *
              obtain ⟨o1, o2⟩ := ok
              simp only at e1 e2
              have HO2 : Hid (Below u.heap.size u ((wr.setCell ⟨q, j * 2, none⟩ (.int .i64 (-41))).setCell ⟨q, j * 2 + 1, none⟩ (.int .i64 0)) ∧ ∃ M, OwnK ((wr.setCell ⟨q, j * 2, none⟩ (.int .i64 (-41))).setCell ⟨q, j * 2 + 1, none⟩ (.int .i64 0)) q (own q (m + 3) (m + 3)) M ∧ M.take m = s) := by
                obtain ⟨h1, h2⟩ := HMm.out.1.set j hjlt (-41) 0
                refine ⟨HBq.out.trans (grown_below h2 (fun b e => by cases e; exact Nat.le_of_eq HQ.out.symm) HBq.out.size), _, h1, ?_⟩
                rw [← HMm.out.2]
                apply List.ext_getElem?
                intro t
                by_cases ht : t < m
                · rw [List.getElem?_take_of_lt ht, List.getElem?_take_of_lt ht, List.getElem?_set_ne (by omega)]
                · rw [List.getElem?_eq_none (by rw [List.length_take]; omega), List.getElem?_eq_none (by rw [List.length_take]; omega)]
              clear HMm HBq
              go_wp2_with fail
              exact ⟨⟨j + 1, by omega, by omega, by go_num, HO2.out⟩, by simp [intOf]; omega⟩
            · have hje : j = m + 3 := by omega
              subst hje
              have HLq : Hid (LR w wr g (n + 3) i L vs) := HV.out.1.kept HBq.out
              obtain ⟨g1, g2⟩ := HLq.out.cell (i := i) (by omega)
              have hvi := HV.out.2 i (Nat.le_refl _)
              rw [hvi] at g1
              have c4 := (HRow.out wr HBq.out).1
              have HX : Hid (∃ vs, LR w (wr.setCell ⟨g, i, none⟩ (.slice (some ⟨q, 0, none⟩) m (m + 3))) g (n + 3) (i + 1) L vs ∧ ∀ j, i + 1 ≤ j → vs j = .slice none 0 0) := by
                refine ⟨_, HLq.out.set i _ (i + 1) (fun j _ h1 h2 => by omega) (fun hi _ => ?_), fun j hj => by rw [if_neg (by omega)]; exact HV.out.2 j (by omega)⟩
                obtain ⟨_, he⟩ := HE.out
                have hp := HMm.out.1.prefix m (by omega)
                rw [HMm.out.2] at hp
                have hq1 := HMm.out.1.lt q rfl
                have hq2 := HV.out.1.lt
                have hq3 := HQ.out
                refine ⟨some ⟨q, 0, none⟩, m + 3, by rw [he, ← HM.out], by rw [he]; exact hp.lst_at, fun a _ e => ?_⟩
                cases e
                exact ⟨by show g < q; omega, hq1.2⟩
              clear HLq HMm HBq HV hvi
              go_wp2_with fail
              exact ⟨⟨i + 1, by omega, by go_num, HX.out⟩, by simp [intOf]; omega⟩
      · have hie : i = n := by omega
        subst hie
        obtain ⟨vs, HV⟩ := HI.out
        replace HV := hidC HV.1
        clear HI
        go_wp2_with fail
        go_loopw [7] (fun x wr => ∃ j : Nat, i ≤ j ∧ j ≤ i + 3 ∧ x = .int .i64 (j : Int) ∧ Hid (∃ vs, LR w wr g (i + 3) i L vs)) (fun x _ => i + 3 - (intOf x).toNat)
        case atStart => exact ⟨i, Nat.le_refl _, by omega, rfl, vs, HV.out⟩
        case round =>
          clear HV
          obtain ⟨j, hj1, hj2, rfl, HJ⟩ := hrel
          obtain ⟨vs, HV⟩ := HJ.out
          replace HV := hidC HV
          clear HJ
          by_cases hjlt : j < i + 3
          · have hjlt2 : (j : Int) < (i : Int) + 3 := by omega
            have HLa : Hid (∀ o, LR w (wr.alloc o) g (i + 3) i L vs) := fun o => HV.out.kept ((Below.refl _ _).alloc (Nat.le_refl _) o)
            have g1 := fun o => ((HLa.out o).cell (i := j) hjlt).1
            have g2 := fun o => ((HLa.out o).cell (i := j) hjlt).2
            have HX : Hid (∀ o v, ∃ vs, LR w ((wr.alloc o).setCell ⟨g, j, none⟩ v) g (i + 3) i L vs) := fun o v => ⟨_, (HLa.out o).set j v i (fun _ _ h _ => h) (fun _ h => absurd h (by omega))⟩
            clear HV HLa
            go_wp2_with fail
            exact ⟨⟨j + 1, by omega, by omega, by go_num, HX.out _ _⟩, by simp [intOf]; omega⟩
          · have hje : j = i + 3 := by omega
            subst hje
            have HX : Hid (RWs (fun k => k < w.heap.size) wr (some ⟨g, 0, none⟩) L ∧ Below w.heap.size w wr) := by
              have h1 := HV.out
              have h2 := HN.out.1
              refine ⟨LR.rws (N := i + 3) (vs := vs) ?_ (by omega), h1.bel⟩
              rw [← h2]
              exact h1
            clear HV
            go_wp2
            go_ret
            exact ⟨_, _, rfl, HX.out.1, HX.out.2⟩
end Go.Proofs.Ytibdogniiglcjab
/-
  do: ONE CALL THAT CHANGES A BOOK.
-/
namespace Go.Proofs.Ytibdogniiglcjab
open Go.RowKit Go.Sort

/-- what a book holds -/
structure Bs where
  la : Int
  fl : Int
  pins : List (Int × Int)
  all : List V4
/-- one call: what it leaves, and whether it was refused -/
inductive DoR (cap : Int) (o : Oc) (s : Bs) : Bs → Bool → Prop
  | admNo : o.kind = 0 → admE cap s.la s.all o.L ≠ 0 → DoR cap o s s true
  | admYes : o.kind = 0 → admE cap s.la s.all o.L = 0 → DoR cap o s ⟨s.la + 1, s.fl, s.pins, s.all ++ newFrom (s.la + 1) 0 o.L⟩ false
  | pinNo : o.kind = 1 → pinE s.la s.fl s.pins o.m ≠ 0 → DoR cap o s s true
  | pinYes (p' : List (Int × Int)) : o.kind = 1 → pinE s.la s.fl s.pins o.m = 0 → Pinned s.pins p' o.m → DoR cap o s ⟨s.la, s.fl, p', s.all⟩ false
  | unpNo : o.kind = 2 → fpn s.pins o.m = none → DoR cap o s s true
  | unpYes (p' : List (Int × Int)) : o.kind = 2 → (fpn s.pins o.m).isSome = true → Unpinned s.pins p' o.m → DoR cap o s ⟨s.la, s.fl, p', s.all⟩ false
  | coll (d : List Int) (all' : List V4) : o.kind = 3 → d.Pairwise (· < ·) → d.Perm (s.pins.map Prod.fst) → CollN d s.all all' → DoR cap o s ⟨s.la, s.la, s.pins, all'⟩ false
  | oth : o.kind ≠ 0 → o.kind ≠ 1 → o.kind ≠ 2 → o.kind ≠ 3 → DoR cap o s s false
theorem RWs.weak {G G' : Nat → Prop} {w : World} {ao : Option Addr} {L : List (List K)} (h : RWs G w ao L) (hg : ∀ k, G' k → G k) : RWs G' w ao L := fun i hi => by
  obtain ⟨b, off, sa, sc, h1, h2, h3, h4, h5, h6⟩ := h i hi
  exact ⟨b, off, sa, sc, h1, fun h => h2 (hg _ h), h3, h4, h5, fun a ha hs => ⟨fun h => (h6 a ha hs).1 (hg _ h), (h6 a ha hs).2⟩⟩
/-- a call that is sound: its sets hold ints, and no more than parts lets through -/
structure OcOK (o : Oc) : Prop where
  len : o.L.length ≤ 100000
  each : ∀ s ∈ o.L, s.length ≤ 100000
  ik : ∀ s ∈ o.L, ∀ k ∈ s, KIn k
  im : In64 o.m
def opv (o : Oc) : Value := .agg #[.int .i64 o.kind, .slice o.a o.L.length o.c, .int .i64 o.m, .int .i64 o.k.1, .int .i64 o.k.2]
def DoPost (w : World) (B Mp Mc Mn : Nat) (cap : Int) (o : Oc) (s : Bs) (e : Ending) (w' : World) : Prop :=
  ∃ r s' nw', e = .returned (.bool r) ∧ DoR cap o s s' r ∧ BA w' B Mp Mc Mn cap s'.la s'.fl s'.pins s'.all nw' ∧ Fr (SB B Mp Mc Mn) w w'
set_option maxHeartbeats 2000000 in
set_option maxRecDepth 100000 in
theorem do_any (G : Nat → Prop) (w : World) (B Mp Mc Mn : Nat) (cap : Int) (s : Bs) (nw : List K) (h : BA w B Mp Mc Mn cap s.la s.fl s.pins s.all nw) (o : Oc) (ho : OcOK o) (hw : RWs G w o.a o.L) :
    Calls Try.prog 16 #[ptr B, opv o] w fun e w' => DoPost w B Mp Mc Mn cap o s e w' := by
  obtain ⟨kind, oa, oc, L, m, k1, k2⟩ := o
  unfold opv
  simp only
  simp only at hw
  obtain ⟨ln, hln⟩ : ∃ ln, ln = L.length := ⟨_, rfl⟩
  have HLn := hidC hln
  rw [← hln]
  have HO := hidC ho
  obtain ⟨W1, hW1⟩ : ∃ W1, W1 = w.alloc (.cells #[.int .i64 kind, .slice oa ln oc, .int .i64 m, .int .i64 k1, .int .i64 k2] 40) := ⟨_, rfl⟩
  obtain ⟨Kb, hKb⟩ : ∃ Kb, Kb = w.heap.size := ⟨_, rfl⟩
  have HB1 : Hid (Below w.heap.size w W1 ∧ W1.heap[Kb]? = some (.cells #[.int .i64 kind, .slice oa ln oc, .int .i64 m, .int .i64 k1, .int .i64 k2] 40 (0, 0))) := by
    rw [hW1, hKb]
    exact ⟨(Below.refl _ _).alloc (Nat.le_refl _) _, heap_alloc_new _ _ rfl⟩
  have HR1 : Hid (RWs G W1 oa L) := hw.fr (Fr.ofBelow HB1.out.1)
  have HA1 : Hid (BA W1 B Mp Mc Mn cap s.la s.fl s.pins s.all nw) := h.kept HB1.out.1
  have HF1 : Hid (Fr (SB B Mp Mc Mn) w W1) := Fr.ofBelow HB1.out.1
  have q0 : W1.cell? ⟨Kb, 0, none⟩ = some (.int .i64 kind) := by have h1 := HB1.out.2; simp [World.cell?, h1]
  have q1 : W1.cell? ⟨Kb, 1, none⟩ = some (.slice oa ln oc) := by have h1 := HB1.out.2; simp [World.cell?, h1]
  have q2 : W1.cell? ⟨Kb, 2, none⟩ = some (.int .i64 m) := by have h1 := HB1.out.2; simp [World.cell?, h1]
  clear ho hw h hln
  go_enter Try.func16, Try.ntmps16
  by_cases h0 : kind = 0
  · subst h0
    go_wp2_with fail
    rw [← hW1, ← hKb]
    clear hW1 hKb q0 q1 q2
    refine (lentW_any G W1 oa ln oc L HLn.out HR1.out (by rw [HLn.out]; exact HO.out.len) HO.out.each).mono ?_
    rintro e W2 ⟨a, c', rfl, hr2, hb2⟩
    have HA2 : Hid (BA W2 B Mp Mc Mn cap s.la s.fl s.pins s.all nw) := HA1.out.kept hb2
    have HR2 : Hid (RWs (SB B Mp Mc Mn) W2 a L) := hr2.weak (fun k hk => HA1.out.lt hk)
    have HF2 : Hid (Fr (SB B Mp Mc Mn) w W2) := HF1.out.trans (Fr.ofBelow hb2)
    clear hr2 hb2
    go_wp2_with fail
    refine (admit_any W2 B Mp Mc Mn cap s.la s.fl s.pins s.all nw HA2.out a ln c' L HLn.out HR2.out HO.out.ik (fun s hs => Nat.le_trans (HO.out.each s hs) (by omega)) (by have h1 := HO.out.len; simp only at h1; have := HLn.out; omega)).mono ?_
    rintro e W3 (⟨hne, rfl, hb3⟩ | ⟨heq, rfl, ⟨nw', hba⟩, hf3⟩)
    · have HX : Hid (DoPost w B Mp Mc Mn cap ⟨0, oa, oc, L, m, (k1, k2)⟩ s (.returned (.bool true)) W3) := ⟨true, s, nw, rfl, .admNo rfl hne, HA2.out.kept hb3, HF2.out.trans (Fr.ofBelow hb3)⟩
      generalize admE cap s.la s.all L = E at *
      clear hb3
      go_wp2_with fail
      refine (numB_any W3 E).mono ?_
      rintro e W4 ⟨rfl, hw4⟩
      subst hw4
      go_wp2
      go_ret
      have hb : (E != 0) = true := by simpa using hne
      first | exact HX.out | (rw [hb]; exact HX.out)
    · have HX : Hid (DoPost w B Mp Mc Mn cap ⟨0, oa, oc, L, m, (k1, k2)⟩ s (.returned (.bool false)) W3) := ⟨false, _, nw', rfl, .admYes rfl heq, hba, HF2.out.trans hf3⟩
      clear hba hf3 heq
      go_wp2_with fail
      refine (numB_any W3 0).mono ?_
      rintro e W4 ⟨rfl, hw4⟩
      subst hw4
      go_wp2
      go_ret
      exact HX.out
  · have h0b : (kind == 0) = false := by simpa using h0
    by_cases h1 : kind = 1
    · subst h1
      go_wp2_with fail
      rw [← hW1, ← hKb]
      clear hW1 hKb q0 q1 q2
      refine (pin_any W1 B Mp Mc Mn cap s.la s.fl s.pins s.all nw HA1.out m HO.out.im).mono ?_
      rintro e W3 (⟨hne, rfl, hb3⟩ | ⟨heq, rfl, p', hp, hba, hf3⟩)
      · subst hb3
        have HX : Hid (DoPost w B Mp Mc Mn cap ⟨1, oa, oc, L, m, (k1, k2)⟩ s (.returned (.bool true)) W3) := ⟨true, s, nw, rfl, .pinNo rfl hne, HA1.out, HF1.out⟩
        generalize pinE s.la s.fl s.pins m = E at *
        go_wp2_with fail
        refine (numB_any W3 E).mono ?_
        rintro e W4 ⟨rfl, hw4⟩
        subst hw4
        go_wp2
        go_ret
        have hb : (E != 0) = true := by simpa using hne
        first | exact HX.out | (rw [hb]; exact HX.out)
      · have HX : Hid (DoPost w B Mp Mc Mn cap ⟨1, oa, oc, L, m, (k1, k2)⟩ s (.returned (.bool false)) W3) := ⟨false, _, nw, rfl, .pinYes p' rfl heq hp, hba, HF1.out.trans hf3⟩
        clear hba hf3 heq hp
        go_wp2_with fail
        refine (numB_any W3 0).mono ?_
        rintro e W4 ⟨rfl, hw4⟩
        subst hw4
        go_wp2
        go_ret
        exact HX.out
    · have h1b : (kind == 1) = false := by simpa using h1
      by_cases h2 : kind = 2
      · subst h2
        go_wp2_with fail
        rw [← hW1, ← hKb]
        clear hW1 hKb q0 q1 q2
        refine (unpin_any W1 B Mp Mc Mn cap s.la s.fl s.pins s.all nw HA1.out m HO.out.im).mono ?_
        rintro e W3 (⟨hne, rfl, hb3⟩ | ⟨heq, rfl, p', hp, hba, hf3⟩)
        · subst hb3
          have HX : Hid (DoPost w B Mp Mc Mn cap ⟨2, oa, oc, L, m, (k1, k2)⟩ s (.returned (.bool true)) W3) := ⟨true, s, nw, rfl, .unpNo rfl hne, HA1.out, HF1.out⟩
          clear hne
          go_wp2_with fail
          refine (numB_any W3 102).mono ?_
          rintro e W4 ⟨rfl, hw4⟩
          subst hw4
          go_wp2
          go_ret
          exact HX.out
        · have HX : Hid (DoPost w B Mp Mc Mn cap ⟨2, oa, oc, L, m, (k1, k2)⟩ s (.returned (.bool false)) W3) := ⟨false, _, nw, rfl, .unpYes p' rfl heq hp, hba, HF1.out.trans hf3⟩
          clear hba hf3 heq hp
          go_wp2_with fail
          refine (numB_any W3 0).mono ?_
          rintro e W4 ⟨rfl, hw4⟩
          subst hw4
          go_wp2
          go_ret
          exact HX.out
      · have h2b : (kind == 2) = false := by simpa using h2
        by_cases h3 : kind = 3
        · subst h3
          go_wp2_with fail
          rw [← hW1, ← hKb]
          clear hW1 hKb q0 q1 q2
          refine (collect_any W1 B Mp Mc Mn cap s.la s.fl s.pins s.all nw HA1.out).mono ?_
          rintro e W3 ⟨d, all', hd1, hd2, hcn, rfl, hba, hf3⟩
          have HX : Hid (DoPost w B Mp Mc Mn cap ⟨3, oa, oc, L, m, (k1, k2)⟩ s (.returned (.bool false)) W3) := ⟨false, _, nw, rfl, .coll d all' rfl hd1 hd2 hcn, hba, HF1.out.trans hf3⟩
          clear hba hf3 hd1 hd2 hcn
          go_wp2
          go_ret
          exact HX.out
        · have h3b : (kind == 3) = false := by simpa using h3
          have HX : Hid (DoPost w B Mp Mc Mn cap ⟨kind, oa, oc, L, m, (k1, k2)⟩ s (.returned (.bool false)) W1) := ⟨false, s, nw, rfl, .oth h0 h1 h2 h3, HA1.out, HF1.out⟩
          rw [hW1] at HX
          go_wp2
          go_ret
          exact HX.out
end Go.Proofs.Ytibdogniiglcjab
/-
  works: A BOOK OF ROOM FOR THREE.
-/
namespace Go.Proofs.Ytibdogniiglcjab
open Go.RowKit Go.Sort

def wL : List (List K) := [[(0, 1)], [(0, 1)]]
def a1L : List V4 := [((0, 1), (1, 0)), ((0, 1), (1, 1))]
theorem rise_one : Rise [((0 : Int), (1 : Int))] := ⟨fun k hk => by simp at hk; subst hk; rfl, List.pairwise_singleton _ _⟩
theorem wL_form : formN wL = 0 := by
  unfold formN wL
  rw [if_neg (by decide)]
  show formL [[(0, 1)], [(0, 1)]] = 0
  simp only [formL]
  rw [if_neg (by decide), if_pos rise_one, if_neg (by decide), if_pos rise_one]
theorem works_adm1 : admE 3 0 [] wL = 0 := by unfold admE; rw [wL_form]; decide
theorem works_new1 : [] ++ newFrom (0 + 1) 0 wL = a1L := by decide
theorem works_adm2 : admE 3 1 a1L wL = 100 := by unfold admE; rw [wL_form]; decide
theorem works_coll {d : List Int} {all' : List V4} (hd : d.Perm (([] : List (Int × Int)).map Prod.fst)) (h : CollN d a1L all') : all'.length = 1 := by
  have hd0 : d = [] := List.Perm.eq_nil hd
  subst hd0
  have h1 := h.2 (0, 1)
  have h2 : ofV (0, 1) all' = all' := by
    unfold ofV
    rw [List.filter_eq_self]
    intro v hv
    have := h.1.subset hv
    simp [a1L] at this
    rcases this with rfl | rfl <;> simp
  rw [h2] at h1
  rw [h1]
  decide
theorem works_adm3 {all' : List V4} (h : all'.length = 1) : admE 3 1 all' wL = 0 := by unfold admE; rw [wL_form, h]; decide
theorem works_pin0 : pinE 2 1 [] 0 = 103 := by decide
theorem works_pin1 : pinE 2 1 [] 1 = 0 := by decide
theorem wL_in : ∀ s ∈ wL, ∀ k ∈ s, KIn k := by
  intro s hs k hk
  simp [wL] at hs
  subst hs
  simp at hk
  subst hk
  exact ⟨⟨by decide, by decide⟩, ⟨by decide, by decide⟩⟩
theorem wL_big : ∀ s ∈ wL, s.length ≤ 8796093022208 := by
  intro s hs
  simp [wL] at hs
  subst hs
  decide
section
variable {w : World} {B Mp Mc Mn : Nat} {nw : List K} {ao : Option Addr}
theorem wk1 (h : BA w B Mp Mc Mn 3 0 0 [] [] nw) (hw : RWs (SB B Mp Mc Mn) w ao wL) : Calls Try.prog 13 #[ptr B, .slice ao 2 2] w fun e w' => e = .returned (.tuple #[.int .i64 1, .int .i64 0]) ∧ (∃ nw', BA w' B Mp Mc Mn 3 1 0 [] a1L nw') ∧ Fr (SB B Mp Mc Mn) w w' := by
  refine (admit_any w B Mp Mc Mn 3 0 0 [] [] nw h ao 2 2 wL rfl hw wL_in wL_big (by omega)).mono ?_
  rintro e w' (⟨hne, _⟩ | ⟨_, he, ⟨nw', hba⟩, hf⟩)
  · exact absurd works_adm1 hne
  · rw [works_new1] at hba
    exact ⟨he, ⟨nw', hba⟩, hf⟩
theorem wk2 (h : BA w B Mp Mc Mn 3 1 0 [] a1L nw) (hw : RWs (SB B Mp Mc Mn) w ao wL) : Calls Try.prog 13 #[ptr B, .slice ao 2 2] w fun e w' => e = .returned (.tuple #[.int .i64 0, .int .i64 100]) ∧ Below w.heap.size w w' := by
  refine (admit_any w B Mp Mc Mn 3 1 0 [] a1L nw h ao 2 2 wL rfl hw wL_in wL_big (by omega)).mono ?_
  rintro e w' (⟨_, he, hb⟩ | ⟨hne, _⟩)
  · rw [works_adm2] at he
    exact ⟨he, hb⟩
  · rw [works_adm2] at hne
    cases hne
theorem wk3 (h : BA w B Mp Mc Mn 3 1 0 [] a1L nw) : Calls Try.prog 15 #[ptr B] w fun e w' => e = .returned (.int .i64 1) ∧ (∃ all' nw', all'.length = 1 ∧ BA w' B Mp Mc Mn 3 1 1 [] all' nw') ∧ Fr (SB B Mp Mc Mn) w w' := by
  refine (collect_any w B Mp Mc Mn 3 1 0 [] a1L nw h).mono ?_
  rintro e w' ⟨d, all', _, hd, hc, he, hba, hf⟩
  have h1 := works_coll hd hc
  rw [h1] at he
  exact ⟨he, ⟨all', nw, h1, hba⟩, hf⟩
theorem wk4 {all' : List V4} (h1 : all'.length = 1) (h : BA w B Mp Mc Mn 3 1 1 [] all' nw) (hw : RWs (SB B Mp Mc Mn) w ao wL) : Calls Try.prog 13 #[ptr B, .slice ao 2 2] w fun e w' => e = .returned (.tuple #[.int .i64 2, .int .i64 0]) ∧ (∃ all'' nw', all''.length = 3 ∧ BA w' B Mp Mc Mn 3 2 1 [] all'' nw') ∧ Fr (SB B Mp Mc Mn) w w' := by
  refine (admit_any w B Mp Mc Mn 3 1 1 [] all' nw h ao 2 2 wL rfl hw wL_in wL_big (by omega)).mono ?_
  rintro e w' (⟨hne, _⟩ | ⟨_, he, ⟨nw', hba⟩, hf⟩)
  · exact absurd (works_adm3 h1) hne
  · exact ⟨he, ⟨_, nw', by rw [List.length_append, newFrom_len, h1]; rfl, hba⟩, hf⟩
theorem wk5 {all' : List V4} (h : BA w B Mp Mc Mn 3 2 1 [] all' nw) : Calls Try.prog 31 #[ptr B, .int .i64 0] w fun e w' => e = .returned (.int .i64 103) ∧ w' = w := by
  refine (pin_any w B Mp Mc Mn 3 2 1 [] all' nw h 0 ⟨by decide, by decide⟩).mono ?_
  rintro e w' (⟨_, he, hb⟩ | ⟨hne, _⟩)
  · rw [works_pin0] at he
    exact ⟨he, hb⟩
  · rw [works_pin0] at hne
    cases hne
theorem wk6 {all' : List V4} (h : BA w B Mp Mc Mn 3 2 1 [] all' nw) : Calls Try.prog 31 #[ptr B, .int .i64 1] w fun e w' => e = .returned (.int .i64 0) ∧ Fr (SB B Mp Mc Mn) w w' := by
  refine (pin_any w B Mp Mc Mn 3 2 1 [] all' nw h 1 ⟨by decide, by decide⟩).mono ?_
  rintro e w' (⟨hne, _⟩ | ⟨_, he, _, _, _, hf⟩)
  · exact absurd works_pin1 hne
  · exact ⟨he, hf⟩
end
/-- the two sets, laid -/
def wW (u : World) : World := ((u.alloc (.cells #[.int .i64 0, .int .i64 1] 38)).alloc (.cells #[.int .i64 0, .int .i64 1] 38)).alloc (.cells #[.slice (some ⟨u.heap.size, 0, none⟩) 1 1, .slice (some ⟨u.heap.size + 1, 0, none⟩) 1 1] 60)
theorem wW_below (u : World) : Below u.heap.size u (wW u) := (((Below.refl _ _).alloc (Nat.le_refl _) _).alloc (by simp) _).alloc (by simp; omega) _
theorem wW_at (u : World) (G : Nat → Prop) (hG : ∀ k, G k → k < u.heap.size) : RWs G (wW u) (some ⟨u.heap.size + 1 + 1, 0, none⟩) wL := by
  have z : (wW u).heap.size = u.heap.size + 1 + 1 + 1 := by simp [wW]
  have k2 : (wW u).heap[u.heap.size + 1 + 1]? = some (.cells #[.slice (some ⟨u.heap.size, 0, none⟩) 1 1, .slice (some ⟨u.heap.size + 1, 0, none⟩) 1 1] 60 (0, 0)) := by
    unfold wW
    rw [show u.heap.size + 1 + 1 = ((u.alloc (.cells #[.int .i64 0, .int .i64 1] 38)).alloc (.cells #[.int .i64 0, .int .i64 1] 38)).heap.size by simp]
    exact heap_alloc_new _ _ rfl
  have k1 : (wW u).heap[u.heap.size + 1]? = some (.cells #[.int .i64 0, .int .i64 1] 38 (0, 0)) := by
    unfold wW
    rw [heap_alloc_old _ _ (by simp), show u.heap.size + 1 = (u.alloc (.cells #[.int .i64 0, .int .i64 1] 38)).heap.size by simp]
    exact heap_alloc_new _ _ rfl
  have k0 : (wW u).heap[u.heap.size]? = some (.cells #[.int .i64 0, .int .i64 1] 38 (0, 0)) := by
    unfold wW
    rw [heap_alloc_old _ _ (by simp; omega), heap_alloc_old _ _ (by simp)]
    exact heap_alloc_new _ _ rfl
  have ka : ∀ b, (wW u).heap[b]? = some (.cells #[.int .i64 0, .int .i64 1] 38 (0, 0)) → KeysAt (wW u) (some ⟨b, 0, none⟩) [(0, 1)] := fun b hb => .inr ⟨b, 0, rfl, fun j x hx => by
    rcases j with _ | _ | j
    · simp [cks] at hx; subst hx; simp [World.cell?, hb]
    · simp [cks] at hx; subst hx; simp [World.cell?, hb]
    · simp [cks] at hx⟩
  intro i hi
  have hg : ∀ b, u.heap.size ≤ b → ¬ G b := fun b hb h => by have := hG b h; omega
  rcases i with _ | _ | i
  · exact ⟨_, 0, some ⟨u.heap.size, 0, none⟩, 1, rfl, hg _ (by omega), by omega, by simp [World.cell?, k2, wL], ka _ k0, fun a _ e => by cases e; exact ⟨hg _ (by simp), by simp only; omega⟩⟩
  · exact ⟨_, 0, some ⟨u.heap.size + 1, 0, none⟩, 1, rfl, hg _ (by omega), by omega, by simp [World.cell?, k2, wL], ka _ k1, fun a _ e => by cases e; exact ⟨hg _ (by simp), by simp only; omega⟩⟩
  · simp [wL] at hi; omega
set_option maxHeartbeats 2000000 in
set_option maxRecDepth 100000 in
theorem works_any (w : World) : Calls Try.prog 9 #[] w fun e w' => e = .returned (.bool true) ∧ Below w.heap.size w w' := by
  go_enter Try.func9, Try.ntmps9
  go_wp2_with fail
  refine (new_any w 3).mono ?_
  rintro e W1 (⟨h, _⟩ | ⟨_, B, Mp, Mc, Mn, rfl, hba, hsb, hb1⟩)
  · omega
  have HA1 := hidC hba
  have HS := hidC hsb
  have HB1 := hidC hb1
  clear hba hsb hb1
  go_wp2_with fail
  refine (numB_any W1 0).mono ?_
  rintro e W4 ⟨rfl, hw4⟩
  subst hw4
  go_wp2_with fail
  have HB5 := hidC (wW_below W4)
  have HR5 := hidC (wW_at W4 (SB B Mp Mc Mn) (fun k hk => HA1.out.lt hk))
  have HA5 := hidC (HA1.out.kept HB5.out)
  have hW5 : wW W4 = ((W4.alloc (.cells #[.int .i64 0, .int .i64 1] 38)).alloc (.cells #[.int .i64 0, .int .i64 1] 38)).alloc (.cells #[.slice (some ⟨W4.heap.size, 0, none⟩) 1 1, .slice (some ⟨W4.heap.size + 1, 0, none⟩) 1 1] 60) := rfl
  rw [← hW5]
  have HF5 : Hid (Below w.heap.size w (wW W4)) := HB1.out.trans (HB5.out.mono HB1.out.size)
  clear hW5
  generalize wW W4 = W5 at *
  generalize (some (⟨W4.heap.size + 1 + 1, 0, none⟩ : Addr)) = ao at *
  clear HB5 HA1 HB1
  refine (wk1 HA5.out HR5.out).mono ?_
  rintro e W6 ⟨rfl, ⟨nw6, hba6⟩, hf6⟩
  have HA6 := hidC hba6
  have HR6 := hidC (HR5.out.fr hf6)
  have HF6 : Hid (Below w.heap.size w W6) := HF5.out.trans (hf6.below HF5.out.size HS.out)
  clear hba6 hf6
  go_wp2_with fail
  refine (numB_any W6 0).mono ?_
  rintro e W7 ⟨rfl, hw7⟩
  subst hw7
  go_wp2_with fail
  refine (charge_any _ B Mp Mc Mn 3 1 0 [] a1L nw6 HA6.out).mono ?_
  rintro e W8 ⟨rfl, hw8⟩
  subst hw8
  go_wp2_with fail
  refine (wk2 HA6.out HR6.out).mono ?_
  rintro e W9 ⟨rfl, hb9⟩
  have HA9 := hidC (HA6.out.kept hb9)
  have HR9 := hidC (HR6.out.fr (Fr.ofBelow hb9))
  have HF9 : Hid (Below w.heap.size w W9) := HF6.out.trans (hb9.mono HF6.out.size)
  clear hb9
  go_wp2_with fail
  refine (numB_any W9 100).mono ?_
  rintro e W10 ⟨rfl, hw10⟩
  subst hw10
  go_wp2_with fail
  refine (wk3 HA9.out).mono ?_
  rintro e W11 ⟨rfl, ⟨all', nw11, hl11, hba11⟩, hf11⟩
  have HA11 := hidC (And.intro hl11 hba11)
  have HR11 := hidC (HR9.out.fr hf11)
  have HF11 : Hid (Below w.heap.size w W11) := HF9.out.trans (hf11.below HF9.out.size HS.out)
  clear hba11 hf11 hl11
  go_wp2_with fail
  refine (wk4 HA11.out.1 HA11.out.2 HR11.out).mono ?_
  rintro e W12 ⟨rfl, ⟨all'', nw12, hl12, hba12⟩, hf12⟩
  have HA12 := hidC hba12
  have HF12 : Hid (Below w.heap.size w W12) := HF11.out.trans (hf12.below HF11.out.size HS.out)
  have HC12 := hidC (charge_any W12 B Mp Mc Mn 3 2 1 [] all'' nw12 hba12)
  rw [hl12] at HC12
  clear hba12 hf12 hl12
  go_wp2_with fail
  refine (numB_any W12 0).mono ?_
  rintro e W13 ⟨rfl, hw13⟩
  subst hw13
  go_wp2_with fail
  refine HC12.out.mono ?_
  rintro e W14 ⟨rfl, hw14⟩
  subst hw14
  go_wp2_with fail
  refine (wk5 HA12.out).mono ?_
  rintro e W15 ⟨rfl, hw15⟩
  subst hw15
  go_wp2_with fail
  refine (numB_any _ 103).mono ?_
  rintro e W16 ⟨rfl, hw16⟩
  subst hw16
  go_wp2_with fail
  refine (wk6 HA12.out).mono ?_
  rintro e W17 ⟨rfl, hf17⟩
  have HF17 : Hid (Below w.heap.size w W17) := HF12.out.trans (hf17.below HF12.out.size HS.out)
  clear hf17
  go_wp2_with fail
  refine (numB_any _ 0).mono ?_
  rintro e W18 ⟨rfl, hw18⟩
  subst hw18
  go_wp2
  go_ret
  exact ⟨rfl, HF17.out⟩
end Go.Proofs.Ytibdogniiglcjab
/-
  BookDoor: THE LAW.
-/
namespace Go.Proofs.Ytibdogniiglcjab
open Go.RowKit Go.Sort

/-- a script that is sound -/
def OpsIn (os : List Oc) : Prop := ∀ o ∈ os, (∀ s ∈ o.L, ∀ k ∈ s, KIn k) ∧ In64 o.m ∧ In64 o.kind ∧ KIn o.k
theorem formN_some (L : List (List K)) : formN L = 0 ∨ formN L = 60 ∨ formN L = 64 ∨ formN L = 65 := by
  have h : ∀ L : List (List K), formL L = 0 ∨ formL L = 64 ∨ formL L = 65 := by
    intro L
    induction L with
    | nil => exact .inl rfl
    | cons s l ih =>
      rw [show formL (s :: l) = if 16 < s.length then 64 else if Rise s then formL l else 65 from rfl]
      split
      · exact .inr (.inl rfl)
      · split
        · exact ih
        · exact .inr (.inr rfl)
  unfold formN
  split
  · exact .inr (.inl rfl)
  · rcases h L with h | h | h
    · exact .inl h
    · exact .inr (.inr (.inl h))
    · exact .inr (.inr (.inr h))
/-- the three ways of an Admit at the door -/
theorem adm_cases (cap la : Int) (all : List V4) (L : List (List K)) (hla : la ≤ 100000) :
    (wgtE L = -1 ∧ admE cap la all L ≠ 0 ∧ admE cap la all L ≠ 100) ∨
    (∃ g : Nat, g ≤ 1024 ∧ wgtE L = (g : Int) ∧ wgt L = g ∧ ((cap < (all.length : Int) + g ∧ admE cap la all L = 100) ∨ ((all.length : Int) + g ≤ cap ∧ admE cap la all L = 0))) := by
  by_cases hf : formN L = 0
  · have hk := formN_ok hf
    refine .inr ⟨wgt L, wgt_le hk.1 (fun s hs => (hk.2 s hs).1), wgtE_ok hf, rfl, ?_⟩
    have e : admE cap la all L = if cap < (all.length : Int) + (wgt L : Int) then 100 else 0 := by
      unfold admE
      rw [if_neg (by simp [hf]), if_neg (by omega)]
    by_cases h : cap < (all.length : Int) + (wgt L : Int)
    · exact .inl ⟨h, by rw [e, if_pos h]⟩
    · exact .inr ⟨by omega, by rw [e, if_neg h]⟩
  · have e : admE cap la all L = formN L := by unfold admE; rw [if_pos hf]
    refine .inl ⟨wgtE_bad rfl hf, by rw [e]; exact hf, ?_⟩
    rw [e]
    rcases formN_some L with h | h | h | h <;> rw [h] <;> decide
theorem tail_ch {W : World} {B Mp Mc Mn : Nat} {cap la fl x : Int} {pins : List (Int × Int)} {all : List V4} {nw : List K} (h : BA W B Mp Mc Mn cap la fl pins all nw) (e : (all.length : Int) = x) : Calls Try.prog 17 #[ptr B] W fun e w' => e = .returned (.int .i64 x) ∧ w' = W := by
  subst e
  exact charge_any W B Mp Mc Mn cap la fl pins all nw h
theorem tail_la {W : World} {B Mp Mc Mn : Nat} {cap la fl y : Int} {pins : List (Int × Int)} {all : List V4} {nw : List K} (h : BA W B Mp Mc Mn cap la fl pins all nw) (e : la = y) : Calls Try.prog 18 #[ptr B] W fun e w' => e = .returned (.int .i64 y) ∧ w' = W := by
  subst e
  exact latest_any W B Mp Mc Mn cap la fl pins all nw h
set_option maxHeartbeats 4000000 in
set_option maxRecDepth 100000 in
theorem lawBkDoor (w : World) (cap : Int) (ao : Option Addr) (n c : Nat) (os : List Oc) (hn : n = os.length) (hops : OpsAt (fun k => w.heap.size ≤ k) w ao os) (hin : OpsIn os) (hnb : n ≤ 140737488351232) :
    Calls Try.prog 3 #[.int .i64 cap, .slice ao n c] w fun e w' => e = .returned (.bool true) ∧ Below w.heap.size w w' := by
  have HN := hidC hn
  have HI := hidC hin
  have HO : Hid (∀ W, Below w.heap.size w W → OpsAt (fun k => w.heap.size ≤ k) W ao os) := fun W hW => hops.fr ⟨hW.os, hW.tape, hW.output, hW.size, fun k hk _ => hW.block k hk⟩
  have HP := hidC (partsO_any (fun k => w.heap.size ≤ k) w 0 false 0 none 0 0 none 0 0 [] ao n c os rfl hn (fun i hi => by simp at hi) hops (by omega) (by omega) hnb)
  clear hn hops hin
  go_enter Try.func3, Try.ntmps3
  go_wp2_with fail
  refine HP.out.mono ?_
  rintro e W1 ⟨r, rfl, hr, hb1⟩
  clear HP
  by_cases hr0 : r < 0
  · go_wp2
    go_ret
    exact ⟨rfl, hb1⟩
  · have hr1 : decide (r < 0) = false := decide_eq_false hr0
    have HPo := hidC (hr (by omega))
    have HB1 := hidC hb1
    have hn5 : n ≤ 100000 := by rw [HN.out]; exact HPo.out.2.2.2.1
    clear hr hb1
    go_wp2_with fail
    refine (works_any W1).mono ?_
    rintro e W2 ⟨rfl, hb2⟩
    have HB2 : Hid (Below w.heap.size w W2) := HB1.out.trans (hb2.mono HB1.out.size)
    clear hb2 HB1
    go_wp2_with fail
    refine (new_any W2 cap).mono ?_
    rintro e W3 (⟨hc, rfl, hw3⟩ | ⟨hc, B, Mp, Mc, Mn, rfl, hba, hsb, hb3⟩)
    · subst hw3
      go_wp2_with fail
      refine (numB_any _ 91).mono ?_
      rintro e W4 ⟨rfl, hw4⟩
      subst hw4
      rcases hc with hc | hc
      · go_wp2
        go_ret
        exact ⟨by first | rfl | simp, HB2.out⟩
      · have hc1 : ¬ cap < 1 := by omega
        go_wp2
        go_ret
        exact ⟨by first | rfl | simp, HB2.out⟩
    · have HA3 := hidC hba
      have HB3 : Hid (Below w.heap.size w W3) := HB2.out.trans (hb3.mono HB2.out.size)
      have HS : Hid (∀ k, SB B Mp Mc Mn k → w.heap.size ≤ k) := fun k hk => Nat.le_trans HB2.out.size (hsb k hk)
      clear hba hsb hb3 HB2
      go_wp2_with fail
      go_loopw [7, 8, 9, 10, 11, 12, 13, 14, 15] (fun xc xl xi _ _ _ _ _ _ wr => ∃ (i ch : Nat) (la : Int), i ≤ n ∧ xi = .int .i64 (i : Int) ∧ xc = .int .i64 (ch : Int) ∧ xl = .int .i64 la ∧ 0 ≤ la ∧ la ≤ i ∧ (ch : Int) ≤ cap ∧ Hid (∃ (s : Bs) (nw : List K), s.la = la ∧ s.all.length = ch ∧ BA wr B Mp Mc Mn cap s.la s.fl s.pins s.all nw ∧ Below w.heap.size w wr)) (fun _ _ xi _ _ _ _ _ _ _ => n - (intOf xi).toNat)
      case atStart => exact ⟨0, 0, 0, Nat.zero_le _, rfl, rfl, rfl, by omega, by omega, by omega, ⟨0, 0, [], []⟩, [], rfl, rfl, HA3.out, HB3.out⟩
      case round =>
        clear HA3 HB3
        obtain ⟨i, ch, la, hi, rfl, rfl, rfl, hl0, hl1, hcc, HR⟩ := hrel
        by_cases hlt : i < n
        · obtain ⟨s, nw, HX⟩ := HR.out
          replace HX := hidC HX
          clear HR
          have hil : i < os.length := by have := HN.out; omega
          obtain ⟨b, off, rfl, hoc⟩ := HO.out wr HX.out.2.2.2 i hil
          have HIo := hidC (HI.out _ (List.getElem_mem hil))
          have HPi := hidC (HPo.out.2.2.2.2 _ (List.getElem_mem hil))
          have HOc := hidC hoc
          obtain ⟨_, _, c0, c1, c2, c3, c4, _⟩ := hoc
          generalize os[i] = o at *
          obtain ⟨kind, oa, occ, L, m, k1, k2⟩ := o
          simp only at c0 c1 c2 c3 c4
          obtain ⟨ln, hln⟩ : ∃ ln, ln = L.length := ⟨_, rfl⟩
          have HLn := hidC hln
          rw [← hln] at c1
          clear hln
          obtain ⟨U, hU⟩ : ∃ U, U = wr.alloc (.cells #[.int .i64 kind, .slice oa ln occ, .int .i64 m, .int .i64 k1, .int .i64 k2] 40) := ⟨_, rfl⟩
          obtain ⟨g, hg⟩ : ∃ g, g = wr.heap.size := ⟨_, rfl⟩
          have HU : Hid (Below wr.heap.size wr U ∧ U.heap[g]? = some (.cells #[.int .i64 kind, .slice oa ln occ, .int .i64 m, .int .i64 k1, .int .i64 k2] 40 (0, 0))) := by
            rw [hU, hg]
            exact ⟨(Below.refl _ _).alloc (Nat.le_refl _) _, heap_alloc_new _ _ rfl⟩
          have HUB : Hid (Below w.heap.size w U) := HX.out.2.2.2.trans (HU.out.1.mono HX.out.2.2.2.size)
          have HUA := hidC (HX.out.2.2.1.kept HU.out.1)
          have HUR : Hid (RWs (fun k => w.heap.size ≤ k) U oa L) := HOc.out.ws.fr (Fr.ofBelow HU.out.1)
          have HOK : Hid (OcOK ⟨kind, oa, occ, L, m, (k1, k2)⟩) := ⟨HPi.out.1, HPi.out.2, HIo.out.1, HIo.out.2.1⟩
          have HSn : Hid (s.la = la ∧ s.all.length = ch) := ⟨HX.out.1, HX.out.2.1⟩
          have HCell : Hid (∀ W, Below U.heap.size U W → W.cell? ⟨g, 1, none⟩ = some (.slice oa ln occ)) := fun W hW => by
            have h1 : W.heap[g]? = _ := (hW.block _ (blk_lt HU.out.2)).trans HU.out.2
            simp [World.cell?, h1]
          clear HX HOc HPi HIo HU
          by_cases h0 : kind = 0
          · subst h0
            go_wp2_with fail
            rw [← hU, ← hg]
            clear hU hg c0 c1 c2 c3 c4
            refine (weightL_any _ U oa ln occ L HLn.out HUR.out (fun s hs => Nat.le_trans (HOK.out.each s hs) (by omega)) (by have h1 := HOK.out.len; have := HLn.out; simp only at h1; omega)).mono ?_
            rintro e U2 ⟨rfl, hb2⟩
            have HA2 := hidC (HUA.out.kept hb2)
            have HR2 := hidC (HUR.out.fr (Fr.ofBelow hb2))
            have HB2 : Hid (Below w.heap.size w U2) := HUB.out.trans (hb2.mono HUB.out.size)
            have q1 := HCell.out U2 hb2
            clear hb2
            obtain ⟨we, hwe⟩ : ∃ we, we = wgtE L := ⟨_, rfl⟩
            rw [← hwe]
            have HWe := hidC hwe
            clear hwe
            go_wp2_with fail
            refine (lentW_any _ U2 oa ln occ L HLn.out HR2.out (by have h1 := HOK.out.len; have := HLn.out; simp only at h1; omega) HOK.out.each).mono ?_
            rintro e U3 ⟨a, c', rfl, hr3, hb3⟩
            have HR3 : Hid (RWs (SB B Mp Mc Mn) U3 a L) := hr3.weak (fun k hk => HA2.out.lt hk)
            have HA3 := hidC (HA2.out.kept hb3)
            have HB3 : Hid (Below w.heap.size w U3) := HB2.out.trans (hb3.mono HB2.out.size)
            clear hr3 hb3 q1
            have HAd := hidC (admit_any U3 B Mp Mc Mn cap s.la s.fl s.pins s.all nw HA3.out a ln c' L HLn.out HR3.out HOK.out.ik (fun s hs => Nat.le_trans (HOK.out.each s hs) (by omega)) (by have h1 := HOK.out.len; have := HLn.out; simp only at h1; omega))
            have hcs := adm_cases cap s.la s.all L (by have := HSn.out.1; omega)
            rw [HSn.out.2, ← HWe.out] at hcs
            go_wp2_with fail
            refine HAd.out.mono ?_
            rintro e U4 (⟨hne, rfl, hb4⟩ | ⟨heq, rfl, ⟨nw4, hba4⟩, hf4⟩)
            · have HZ : Hid (∃ (s : Bs) (nw : List K), s.la = la ∧ s.all.length = ch ∧ BA U4 B Mp Mc Mn cap s.la s.fl s.pins s.all nw ∧ Below w.heap.size w U4) := ⟨s, nw, HSn.out.1, HSn.out.2, HA3.out.kept hb4, HB3.out.trans (hb4.mono HB3.out.size)⟩
              clear hb4 HAd HWe
              generalize admE cap s.la s.all L = E at *
              rcases hcs with ⟨rfl, hE0, hE1⟩ | ⟨gg, hg1, rfl, hg3, ⟨hg4, rfl⟩ | ⟨_, hz⟩⟩
              · have e0 : (E == 0) = false := by simpa using hE0
                have e1 : (E == 100) = false := by simpa using hE1
                go_wp2_with fail
                refine (numB_any U4 E).mono ?_
                rintro e U5 ⟨rfl, hw5⟩
                subst hw5
                go_wp2_with fail
                refine (numB_any _ E).mono ?_
                rintro e U6 ⟨rfl, hw6⟩
                subst hw6
                obtain ⟨s', nw', z1, z2, z3, z4⟩ := HZ.out
                have HCh := hidC (tail_ch (x := (ch : Int)) z3 (by omega))
                have HLa := hidC (tail_la (y := la) z3 z1)
                clear z1 z2 z3 z4
                go_wp2_with fail
                refine HCh.out.mono ?_
                rintro e Wt ⟨rfl, hwt⟩
                subst hwt
                clear HCh
                go_wp2_with fail
                refine HLa.out.mono ?_
                rintro e Wt ⟨rfl, hwt⟩
                subst hwt
                clear HLa
                go_wp2_with fail
                exact ⟨⟨i + 1, ch, la, by omega, by go_num, by first | rfl | go_num | (simp; done), rfl, by omega, by omega, by omega, HZ.out⟩, by simp [intOf]; omega⟩
              · have hgn : (0 : Int) ≤ (gg : Int) := by omega
                have hgc : ¬ ((ch : Int) + (gg : Int) ≤ cap) := by omega
                go_wp2_with fail
                refine (numB_any U4 100).mono ?_
                rintro e U5 ⟨rfl, hw5⟩
                subst hw5
                go_wp2_with fail
                refine (numB_any _ 100).mono ?_
                rintro e U6 ⟨rfl, hw6⟩
                subst hw6
                obtain ⟨s', nw', z1, z2, z3, z4⟩ := HZ.out
                have HCh := hidC (tail_ch (x := (ch : Int)) z3 (by omega))
                have HLa := hidC (tail_la (y := la) z3 z1)
                clear z1 z2 z3 z4
                go_wp2_with fail
                refine HCh.out.mono ?_
                rintro e Wt ⟨rfl, hwt⟩
                subst hwt
                clear HCh
                go_wp2_with fail
                refine HLa.out.mono ?_
                rintro e Wt ⟨rfl, hwt⟩
                subst hwt
                clear HLa
                go_wp2_with fail
                exact ⟨⟨i + 1, ch, la, by omega, by go_num, by first | rfl | go_num | (simp; done), rfl, by omega, by omega, by omega, HZ.out⟩, by simp [intOf]; omega⟩
              · exact absurd hz hne
            · rcases hcs with ⟨_, hE0, _⟩ | ⟨gg, hg1, hwg, hg3, ⟨_, hE⟩ | ⟨hg4, _⟩⟩
              · exact absurd heq hE0
              · rw [heq] at hE
                cases hE
              · have HZ : Hid (∃ (s : Bs) (nw : List K), s.la = la + 1 ∧ s.all.length = ch + gg ∧ BA U4 B Mp Mc Mn cap s.la s.fl s.pins s.all nw ∧ Below w.heap.size w U4) := by
                  refine ⟨⟨s.la + 1, s.fl, s.pins, s.all ++ newFrom (s.la + 1) 0 L⟩, nw4, by show s.la + 1 = la + 1; rw [HSn.out.1], ?_, hba4, HB3.out.trans (hf4.below HB3.out.size HS.out)⟩
                  show (s.all ++ newFrom (s.la + 1) 0 L).length = ch + gg
                  rw [List.length_append, newFrom_len, HSn.out.2, hg3]
                clear hba4 hf4 HAd HWe heq hg3
                subst hwg
                rw [HSn.out.1]
                have hgn : (0 : Int) ≤ (gg : Int) := by omega
                go_wp2_with fail
                refine (numB_any U4 0).mono ?_
                rintro e U5 ⟨rfl, hw5⟩
                subst hw5
                go_wp2_with fail
                refine (numB_any _ 0).mono ?_
                rintro e U6 ⟨rfl, hw6⟩
                subst hw6
                obtain ⟨s', nw', z1, z2, z3, z4⟩ := HZ.out
                have HCh := hidC (tail_ch (x := (ch : Int) + (gg : Int)) z3 (by omega))
                have HLa := hidC (tail_la (y := la + 1) z3 z1)
                clear z1 z2 z3 z4
                go_wp2_with fail
                refine HCh.out.mono ?_
                rintro e Wt ⟨rfl, hwt⟩
                subst hwt
                clear HCh
                go_wp2_with fail
                refine HLa.out.mono ?_
                rintro e Wt ⟨rfl, hwt⟩
                subst hwt
                clear HLa
                go_wp2_with fail
                exact ⟨⟨i + 1, ch + gg, la + 1, by omega, by go_num, by first | rfl | go_num | (simp; done), rfl, by omega, by omega, by omega, HZ.out⟩, by simp [intOf]; omega⟩
          · have h0b : (kind == 0) = false := by simpa using h0
            by_cases h3 : kind = 3
            · subst h3
              go_wp2_with fail
              rw [← hU, ← hg]
              clear hU hg c0 c1 c2 c3 c4
              refine (collect_any U B Mp Mc Mn cap s.la s.fl s.pins s.all nw HUA.out).mono ?_
              rintro e U3 ⟨d, all', hd1, hd2, hcn, rfl, hba, hf3⟩
              have hle := hcn.1.length_le
              obtain ⟨ch', hch'⟩ : ∃ ch', ch' = all'.length := ⟨_, rfl⟩
              rw [HSn.out.2, ← hch'] at hle
              rw [HSn.out.2, ← hch']
              have HZ : Hid (∃ (s : Bs) (nw : List K), s.la = la ∧ s.all.length = ch' ∧ BA U3 B Mp Mc Mn cap s.la s.fl s.pins s.all nw ∧ Below w.heap.size w U3) := ⟨⟨s.la, s.la, s.pins, all'⟩, nw, HSn.out.1, hch'.symm, hba, HUB.out.trans (hf3.below HUB.out.size HS.out)⟩
              clear hba hf3 hd1 hd2 hcn hch'
              have hn0 : ¬ ((ch : Int) - (ch' : Int) < 0) := by omega
              have hn1 : ¬ ((ch : Int) < (ch : Int) - (ch' : Int)) := by omega
              have hn2 : (ch : Int) - ((ch : Int) - (ch' : Int)) = (ch' : Int) := by omega
              obtain ⟨s', nw', z1, z2, z3, z4⟩ := HZ.out
              have HCh := hidC (tail_ch (x := (ch : Int) - ((ch : Int) - (ch' : Int))) z3 (by omega))
              have HLa := hidC (tail_la (y := la) z3 z1)
              clear z1 z2 z3 z4
              go_wp2_with fail
              refine HCh.out.mono ?_
              rintro e Wt ⟨rfl, hwt⟩
              subst hwt
              clear HCh
              go_wp2_with fail
              refine HLa.out.mono ?_
              rintro e Wt ⟨rfl, hwt⟩
              subst hwt
              clear HLa
              go_wp2_with fail
              exact ⟨⟨i + 1, ch', la, by omega, by go_num, by first | rfl | go_num | (simp; done), rfl, by omega, by omega, by omega, HZ.out⟩, by simp [intOf]; omega⟩
            · have h3b : (kind == 3) = false := by simpa using h3
              go_wp2_with fail
              rw [← hU, ← hg]
              clear hU hg c0 c1 c2 c3 c4
              have HD := hidC (do_any _ U B Mp Mc Mn cap s nw HUA.out ⟨kind, oa, occ, L, m, (k1, k2)⟩ HOK.out HUR.out)
              unfold opv at HD
              simp only at HD
              rw [← HLn.out] at HD
              refine HD.out.mono ?_
              rintro e U3 ⟨rr, s3, nw3, rfl, hdo, hba, hf3⟩
              have HZ : Hid (∃ (s : Bs) (nw : List K), s.la = la ∧ s.all.length = ch ∧ BA U3 B Mp Mc Mn cap s.la s.fl s.pins s.all nw ∧ Below w.heap.size w U3) := by
                refine ⟨s3, nw3, ?_, ?_, hba, HUB.out.trans (hf3.below HUB.out.size HS.out)⟩
                · have := HSn.out.1
                  cases hdo <;> first | exact this | (rename_i hk _; exact absurd hk h0) | (rename_i hk _ _ _; exact absurd hk h3)
                · have := HSn.out.2
                  cases hdo <;> first | exact this | (rename_i hk _; exact absurd hk h0) | (rename_i hk _ _ _; exact absurd hk h3)
              clear hba hf3 hdo HD
              obtain ⟨s', nw', z1, z2, z3, z4⟩ := HZ.out
              have HCh := hidC (tail_ch (x := (ch : Int)) z3 (by omega))
              have HLa := hidC (tail_la (y := la) z3 z1)
              clear z1 z2 z3 z4
              go_wp2_with fail
              refine HCh.out.mono ?_
              rintro e Wt ⟨rfl, hwt⟩
              subst hwt
              clear HCh
              go_wp2_with fail
              refine HLa.out.mono ?_
              rintro e Wt ⟨rfl, hwt⟩
              subst hwt
              clear HLa
              go_wp2_with fail
              exact ⟨⟨i + 1, ch, la, by omega, by go_num, by first | rfl | go_num | (simp; done), rfl, by omega, by omega, by omega, HZ.out⟩, by simp [intOf]; omega⟩
        · have HBz : Hid (Below w.heap.size w wr) := by
            obtain ⟨_, _, _, _, _, h⟩ := HR.out
            exact h
          clear HR
          go_wp2
          go_ret
          exact ⟨rfl, HBz.out⟩
end Go.Proofs.Ytibdogniiglcjab
