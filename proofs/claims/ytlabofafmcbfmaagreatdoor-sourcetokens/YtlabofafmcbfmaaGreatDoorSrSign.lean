/-
  SOURCE: signAhead.
-/
import Derived.Test.YtlabofafmcbfmaaGreatDoorSrRune
import Derived.Test.YtlabofafmcbfmaaGreatDoorSrGap
import Derived.Lib.ItoaMem
namespace Go.Proofs.YtlabofafmcbfmaaGreatDoor
open Go.RowKit Go.Sort Go.Shelf

def TabsOK (w : World) : Prop := Lib.Utf8Tabs 2 3 w
theorem TabsOK.kept {w w' : World} (h : TabsOK w) (hb : Below w.heap.size w w') : TabsOK w' :=
  ⟨fun c hc => (hb.cell (cell_lt (h.1 c hc))).trans (h.1 c hc), fun i hi => ⟨(hb.cell (cell_lt (h.2 i hi).1)).trans (h.2 i hi).1, (hb.cell (cell_lt (h.2 i hi).2)).trans (h.2 i hi).2⟩⟩
/-- the first rune of a text -/
def dcR (l : List UInt8) : Nat := (Lib.decodeGo (S l)).1
theorem dcR_le (l : List UInt8) : dcR l ≤ 2147483647 := by
  unfold dcR Lib.decodeGo
  split
  · decide
  · exact decode_le _ _
theorem dcR_lo {c : UInt8} {r : List UInt8} (h : c.toNat < 128) : dcR (c :: r) = c.toNat := by
  unfold dcR Lib.decodeGo
  rw [if_neg (by rw [S_size]; simp)]
  rcases sgn_at (c :: r) 0 (by simp) with h1 | h1
  · rw [h1.2]; rfl
  · have := h1.1; simp only [List.getElem_cons_zero] at this; omega
theorem dcR_hi {c : UInt8} {r : List UInt8} (h : 128 ≤ c.toNat) : 128 ≤ dcR (c :: r) := by
  unfold dcR Lib.decodeGo
  rw [if_neg (by rw [S_size]; simp)]
  rcases sgn_at (c :: r) 0 (by simp) with h1 | h1
  · have := h1.1; simp only [List.getElem_cons_zero] at this; omega
  · exact h1.2.1
theorem decode_any (w : World) (l : List UInt8) (hT : TabsOK w) : Calls Tryz.prog 28 #[.string (S l)] w fun e w' => e = .returned (.tuple #[.int .i32 (dcR l : Nat), .int .i64 ((Lib.decodeGo (S l)).2 : Nat)]) ∧ Below w.heap.size w w' := Any.utf8_DecodeRuneInString lays197 (S l) w hT
theorem idx_contains : ∀ (l : List UInt8) (c : UInt8), decide (0 ≤ Lib.indexByte l c) = l.contains c
  | [], _ => rfl
  | b :: l, c => by
    have ih := idx_contains l c
    have h1 := Lib.indexByte_ge l c
    unfold Lib.indexByte
    rw [List.contains_cons]
    by_cases hb : b = c
    · subst hb; simp
    · have e1 : (b == c) = false := beq_eq_false_iff_ne.2 hb
      have e2 : (c == b) = false := beq_eq_false_iff_ne.2 (fun e => hb e.symm)
      rw [e1, e2, ← ih]
      simp only [Bool.false_eq_true, if_false, Bool.false_or, beq_iff_eq]
      split
      · rename_i h3; rw [h3]
      · exact decide_eq_decide.2 (by omega)
set_option maxRecDepth 100000 in
set_option maxHeartbeats 1000000 in
theorem containsRune_any (w : World) (l : List UInt8) (hl : l ≠ []) : Calls Tryz.prog 50 #[.string (S shortL), .int .i32 (dcR l : Nat)] w fun e w' => e = .returned (.bool (decide (shN l = 1))) ∧ Grew w w' := by
  obtain ⟨c, r, rfl⟩ := List.exists_cons_of_ne_nil hl
  obtain ⟨d, hd⟩ : ∃ d, d = dcR (c :: r) := ⟨_, rfl⟩
  rw [← hd]
  have HI : Hid (∃ x : Int, decide (0 ≤ x) = decide (shN (c :: r) = 1) ∧ Calls Tryz.prog 61 #[.string (S shortL), .int .i32 (d : Int)] w fun e w' => e = .returned (.int .i64 x) ∧ Grew w w') := by
    by_cases h : c.toNat < 128
    · refine ⟨Lib.indexByte shortL (UInt8.ofNat d), ?_, (indexRune_lo w shortL d (by rw [hd, dcR_lo h]; exact h)).mono fun e w' ⟨a1, a2⟩ => ⟨a1, by rw [a2]; exact Grew.refl w⟩⟩
      rw [idx_contains, hd, dcR_lo h]
      have e : UInt8.ofNat c.toNat = c := by simp
      rw [e]
      rw [show shN (c :: r) = if shortL.contains c = true then 1 else 0 from rfl]
      cases shortL.contains c <;> rfl
    · refine ⟨-1, ?_, indexRune_hi w shortL (by decide) (by decide) d (by rw [hd]; exact dcR_hi (by omega)) (by rw [hd]; exact dcR_le _)⟩
      have e : shN (c :: r) = 0 := by
        unfold shN
        have h1 : shortL.contains c = false := by
          cases hc : shortL.contains c with
          | false => rfl
          | true =>
            exfalso
            have h2 : ∀ b ∈ shortL, b.toNat < 128 := by decide
            exact h (h2 c (List.contains_iff_mem.1 hc))
        simp only [h1, Bool.false_eq_true, if_false]
      rw [e]
      rfl
  generalize decide (shN (c :: r) = 1) = b at *
  obtain ⟨x, hx, HC⟩ := HI.out
  clear HI hd hl
  have HC2 := hidS HC
  clear HC
  have hx2 : decide (x ≥ 0) = b := hx
  clear hx
  go_enter Tryz.func50, Tryz.ntmps50
  go_wp2_with fail
  refine HC2.out.mono ?_
  rintro e w2 ⟨rfl, hg⟩
  have HG := hidS hg
  clear hg
  by_cases h0 : 0 ≤ x
  · have hb : b = true := by rw [← hx2]; exact decide_eq_true h0
    subst hb
    clear hx2
    go_wp2
    go_ret
    exact ⟨rfl, HG.out⟩
  · have hb : b = false := by rw [← hx2]; exact decide_eq_false h0
    subst hb
    clear hx2
    go_wp2
    go_ret
    refine ⟨?_, HG.out⟩
    show Ending.returned (.bool (decide (0 ≤ x))) = _
    rw [decide_eq_false (by omega)]
def pairC : List Value := [.string ⟨#[61, 61]⟩, .string ⟨#[33, 61]⟩, .string ⟨#[60, 61]⟩, .string ⟨#[62, 61]⟩, .string ⟨#[60, 60]⟩, .string ⟨#[62, 62]⟩, .string ⟨#[38, 38]⟩, .string ⟨#[124, 124]⟩]
def PairVar (w : World) : Prop := ∀ i, i < 8 → w.cell? ⟨1, i, none⟩ = pairC[i]?
theorem PairVar.kept {w w' : World} (h : PairVar w) (hb : Below w.heap.size w w') : PairVar w' := fun i hi => by
  have h1 := h i hi
  have h2 : pairC[i]? = some (pairC[i]'(by simpa [pairC] using hi)) := List.getElem?_eq_getElem _
  rw [h2] at h1 ⊢
  exact (hb.cell (cell_lt h1)).trans h1
theorem pairs_index (i : Nat) (hi : i < 8) (W : World) : (Instr.index 93 (.agg #[.string ⟨#[61, 61]⟩, .string ⟨#[33, 61]⟩, .string ⟨#[60, 61]⟩, .string ⟨#[62, 61]⟩, .string ⟨#[60, 60]⟩, .string ⟨#[62, 62]⟩, .string ⟨#[38, 38]⟩, .string ⟨#[124, 124]⟩]) (.int .i64 (i : Int))).run Tryz.prog W = .ok (.string (S pairL[i]!)) W := by
  obtain rfl | rfl | rfl | rfl | rfl | rfl | rfl | rfl : i = 0 ∨ i = 1 ∨ i = 2 ∨ i = 3 ∨ i = 4 ∨ i = 5 ∨ i = 6 ∨ i = 7 := by omega
  all_goals kernel_rfl
theorem sgN_hit {l : List UInt8} {i : Nat} (hi : i < 8) (h : pairL[i]!.isPrefixOf l = true) : sgN l = 2 ∧ l.take 2 = pairL[i]! := by
  have hm : pairL[i]! ∈ pairL := by
    have hl : i < pairL.length := hi
    rw [getElem!_pos pairL i hl]
    exact List.getElem_mem hl
  have h2 : pairL[i]!.length = 2 := by
    have : ∀ p ∈ pairL, p.length = 2 := by decide
    exact this _ hm
  constructor
  · unfold sgN
    rw [if_pos (List.any_eq_true.2 ⟨_, hm, h⟩)]
  · obtain ⟨r, hr⟩ := List.isPrefixOf_iff_prefix.1 h
    rw [← hr, ← h2, List.take_left]
theorem sgN_miss {l : List UInt8} (h : ∀ i, i < 8 → pairL[i]!.isPrefixOf l = false) : sgN l = shN l := by
  unfold sgN
  rw [if_neg]
  intro he
  obtain ⟨p, hp, h2⟩ := List.any_eq_true.1 he
  obtain ⟨i, hi, rfl⟩ := List.getElem_of_mem hp
  have := h i hi
  rw [getElem!_pos pairL i hi] at this
  rw [this] at h2
  cases h2
/-- the sign that a text begins with -/
def sgT (l : List UInt8) : List UInt8 := if [47, 42].isPrefixOf l then [] else l.take (sgN l)
set_option maxRecDepth 100000 in
set_option maxHeartbeats 2000000 in
theorem signAhead_any (w : World) (l : List UInt8) (hl : l ≠ []) (hl9 : l.length ≤ 65536) (hv : PairVar w) : Calls Tryz.prog 35 #[.string (S l), .int .i32 (dcR l : Nat)] w fun e w' => e = .returned (.string (S (sgT l))) ∧ Grew w w' := by
  have HP : Hid (∀ W p, Calls Tryz.prog 42 #[.string (S l), .string (S p)] W fun e w' => e = .returned (.bool (p.isPrefixOf l)) ∧ w' = W) := fun W p => hasPre_any W l p
  have HP0 : Hid (Calls Tryz.prog 42 #[.string (S l), .string ⟨#[47, 42]⟩] w fun e w' => e = .returned (.bool ([47, 42].isPrefixOf l)) ∧ w' = w) := hasPre_any w l [47, 42]
  have HC : Hid (Calls Tryz.prog 50 #[.string ⟨#[61, 60, 62, 43, 45, 42, 47, 37, 38, 124, 94, 33, 63, 58, 59, 44, 40, 41, 123, 125, 91, 93]⟩, .int .i32 (dcR l : Nat)] w fun e w' => e = .returned (.bool (decide (shN l = 1))) ∧ Grew w w') := containsRune_any w l hl
  have HS : Hid (sgT l = if [47, 42].isPrefixOf l then [] else l.take (sgN l)) := rfl
  have HG : Hid (Grew w w) := Grew.refl w
  have v0 := hv 0 (by omega)
  have v1 := hv 1 (by omega)
  have v2 := hv 2 (by omega)
  have v3 := hv 3 (by omega)
  have v4 := hv 4 (by omega)
  have v5 := hv 5 (by omega)
  have v6 := hv 6 (by omega)
  have v7 := hv 7 (by omega)
  simp only [pairC, List.getElem?_cons_zero, List.getElem?_cons_succ] at v0 v1 v2 v3 v4 v5 v6 v7
  have HN : Hid (0 < l.length) := by
    show 0 < l.length
    exact List.length_pos_iff.2 hl
  obtain ⟨n, hn⟩ : ∃ n, n = l.length := ⟨_, rfl⟩
  have hsz : (S l).size = n := by rw [S_size, hn]
  have hn1 : (1 : Int) ≤ (n : Int) := by have := HN.out; omega
  have hn2 : n ≤ 65536 := by omega
  have x1 : (S l).extract 0 1 = S (l.take 1) := by rw [S_cut, List.drop_zero]
  clear hv hl hl9 hn HN
  generalize hb0 : [47, 42].isPrefixOf l = b0 at *
  generalize hd : dcR l = d at *
  clear hb0 hd
  cases b0 with
  | true =>
    have e : sgT l = [] := by have h := HS.out; simpa using h
    rw [e]
    clear HS e HC
    go_enter Tryz.func35, Tryz.ntmps35
    go_wp2_with (first | (go_at_call 42; refine HP0.out.mono ?_; rintro e wE ⟨rfl, hwE⟩; have hwE' := hwE.symm; subst hwE'; clear hwE))
    go_ret
    exact ⟨rfl, HG.out⟩
  | false =>
    have HS2 : Hid (sgT l = l.take (sgN l)) := by have h := HS.out; show _ = _; simpa using h
    clear HS
    go_enter Tryz.func35, Tryz.ntmps35
    go_wp2_with (first | (go_at_call 42; refine HP0.out.mono ?_; rintro e wE ⟨rfl, hwE⟩; have hwE' := hwE.symm; subst hwE'; clear hwE))
    clear v0 v1 v2 v3 v4 v5 v6 v7 HP0
    go_loopw [10] (fun x wr => ∃ (i : Nat), i ≤ 8 ∧ x = .int .i64 (i : Int) ∧ wr = w ∧ Hid (∀ j, j < i → pairL[j]!.isPrefixOf l = false)) (fun x _ => 8 - (intOf x).toNat)
    case atStart => exact ⟨0, by omega, rfl, rfl, fun j hj => by omega⟩
    case round =>
      obtain ⟨i, hi, rfl, hwe, HI⟩ := hrel
      subst hwe
      by_cases hlt : i < 8
      · have hiI : (i : Int) < 8 := by omega
        have hix := pairs_index i hlt
        have HP1 := hidS (HP.out wr pairL[i]!)
        have HI2 : Hid (pairL[i]!.isPrefixOf l = true → sgN l = 2 ∧ l.take 2 = pairL[i]!) := fun h => sgN_hit hlt h
        generalize hp : pairL[i]! = p at *
        generalize hb : p.isPrefixOf l = b at *
        cases b with
        | true =>
          have HF : Hid (sgT l = p) := by
            have h := HI2.out rfl
            show _ = _
            rw [HS2.out, h.1, h.2]
          clear HI2 HI HS2 hb hp
          go_wp2_with (first | (go_at_call 42; refine HP1.out.mono ?_; rintro e wE ⟨rfl, hwE⟩; have hwE' := hwE.symm; subst hwE'; clear hwE))
          go_ret
          exact ⟨by rw [HF.out]; rfl, HG.out⟩
        | false =>
          have HI3 : Hid (∀ j, j < i + 1 → pairL[j]!.isPrefixOf l = false) := fun j hj => by
            by_cases hj2 : j < i
            · exact HI.out j hj2
            · obtain rfl : j = i := by omega
              rw [hp]; exact hb
          clear HI2 HI hb hp
          go_wp2_with (first | (go_at_call 42; refine HP1.out.mono ?_; rintro e wE ⟨rfl, hwE⟩; have hwE' := hwE.symm; subst hwE'; clear hwE))
          go_roundw
          case rel => exact ⟨i + 1, by omega, by go_num, trivial, HI3⟩
          case measure => simp [intOf]; omega
      · have hiI : ¬ (i : Int) < 8 := by omega
        have HF : Hid (sgT l = l.take (shN l)) := by
          show _ = _
          rw [HS2.out, sgN_miss (fun j hj => HI.out j (by omega))]
        have h01 : shN l = 0 ∨ shN l = 1 := by
          unfold shN
          cases l with
          | nil => exact .inl rfl
          | cons c r => simp only; split <;> simp
        clear HI HS2
        generalize shN l = z at *
        rcases h01 with rfl | rfl
        · have HC2 : Hid (Calls Tryz.prog 50 #[.string ⟨#[61, 60, 62, 43, 45, 42, 47, 37, 38, 124, 94, 33, 63, 58, 59, 44, 40, 41, 123, 125, 91, 93]⟩, .int .i32 (d : Nat)] wr fun e w' => e = .returned (.bool false) ∧ Grew wr w') := HC.out
          clear HC
          go_wp2_with fail
          refine HC2.out.mono ?_
          rintro e w2 ⟨rfl, hg⟩
          have HG2 := hidS hg
          clear hg
          go_wp2_with fail
          go_ret
          exact ⟨by rw [HF.out]; rfl, HG2.out⟩
        · have HC2 : Hid (Calls Tryz.prog 50 #[.string ⟨#[61, 60, 62, 43, 45, 42, 47, 37, 38, 124, 94, 33, 63, 58, 59, 44, 40, 41, 123, 125, 91, 93]⟩, .int .i32 (d : Nat)] wr fun e w' => e = .returned (.bool true) ∧ Grew wr w') := HC.out
          clear HC
          go_wp2_with fail
          refine HC2.out.mono ?_
          rintro e w2 ⟨rfl, hg⟩
          have HG2 := hidS hg
          clear hg
          go_wp2_with fail
          go_ret
          exact ⟨by rw [HF.out]; rfl, HG2.out⟩
end Go.Proofs.YtlabofafmcbfmaaGreatDoor
