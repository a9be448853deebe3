/-
  SOURCE: bitsOf, numberOf, numberToken.
-/
import Derived.Test.YtlabofafmcbfmaaGreatDoorSrSign
import Derived.Test.YtlabofafmcbfmaaGreatDoorANum
import Derived.Laws.BitsAllLaws
namespace Go.Proofs.YtlabofafmcbfmaaGreatDoor
open Go.RowKit Go.Sort Go.Shelf

def digL : List UInt8 := [48, 49, 50, 51, 52, 53, 54, 55, 56, 57, 97, 98, 99, 100, 101, 102]
set_option maxRecDepth 20000 in
theorem hexD_idx (c : UInt8) (hc : c.toNat < 128) : Lib.indexByte digL c = (match hexD c with | none => -1 | some d => (d : Int)) ∧ ∀ d, hexD c = some d → d < 16 := by
  have key : ∀ i : Fin 128, Lib.indexByte digL (UInt8.ofNat i.val) = (match hexD (UInt8.ofNat i.val) with | none => -1 | some d => (d : Int)) ∧ ((hexD (UInt8.ofNat i.val)).all (fun d => decide (d < 16))) = true := by decide
  have h := key ⟨c.toNat, hc⟩
  have e : UInt8.ofNat c.toNat = c := by simp
  simp only [e] at h
  refine ⟨h.1, fun d hd => ?_⟩
  have h2 := h.2
  rw [hd] at h2
  simpa using h2
def optV (o : Option Nat) : Value := match o with
  | none => .tuple #[.int .i64 0, .bool false]
  | some u => .tuple #[.int .i64 (i64N u), .bool true]
theorem i64N_wrap (u : Nat) (h : u < 18446744073709551616) : IntKind.i64.wrap (u : Int) = i64N u := by
  unfold i64N
  rw [IntKind.wrap_i64]
  split <;> omega
theorem shl_or (u d : Nat) (hd : d < 16) : (16 * u) ||| d = 16 * u + d := by
  have h := Nat.shiftLeft_add_eq_or_of_lt (b := d) (i := 4) (by omega) u
  rw [Nat.shiftLeft_eq] at h
  rw [show 16 * u = u * 2 ^ 4 by omega, h]
theorem bits_step (u d : Nat) (hu : u < 1152921504606846976) (hd : d < 16) : bits .or .u64 ((u : Int) * 16) (d : Int) = ((16 * u + d : Nat) : Int) := by
  rw [show (u : Int) * 16 = ((16 * u : Nat) : Int) by omega, u64_or_nat _ _ (by omega) (by omega), shl_or u d hd]
set_option maxRecDepth 100000 in
set_option maxHeartbeats 2000000 in
theorem bitsOf_any (w : World) (l : List UInt8) (hl : l.length ≤ 65536) (ha : ∀ b ∈ l, b.toNat < 128) : Calls Tryz.prog 59 #[.string (S l)] w fun e w' => e = .returned (if l.length = 0 ∨ 16 < l.length then .tuple #[.int .i64 0, .bool false] else optV (bitsL l 0)) ∧ Grew w w' := by
  have HG : Hid (Grew w w) := Grew.refl w
  have HG2 : Hid (∀ k, Grew w (w.iter (S l) k)) := fun k => (Grew.refl w).alloc _
  have HA := hidS ha
  obtain ⟨n, hn⟩ : ∃ n, n = l.length := ⟨_, rfl⟩
  have HN := hidS hn
  have hsz : (S l).size = n := by rw [S_size, hn]
  have HSz := hidS hsz
  have hts := S_toList l
  have hn9 : n ≤ 65536 := by omega
  rw [← hn]
  clear hn hl ha
  by_cases h0 : n = 0
  · have hb : ((S l).toList == []) = true := by
      have : l = [] := List.eq_nil_of_length_eq_zero (by rw [← HN.out]; exact h0)
      rw [hts, this]; rfl
    rw [if_pos (.inl h0)]
    clear h0 hts
    go_enter Tryz.func59, Tryz.ntmps59
    go_wp2_with fail
    go_ret2
    exact ⟨rfl, HG.out⟩
  · have hb : ((S l).toList == []) = false := by
      rw [hts]
      cases l with
      | nil => exact absurd HN.out h0
      | cons _ _ => rfl
    by_cases h16 : 16 < n
    · rw [if_pos (.inr h16)]
      have hI : (n : Int) > 16 := by omega
      clear h0 h16 hts
      go_enter Tryz.func59, Tryz.ntmps59
      go_wp2_with fail
      go_ret2
      exact ⟨rfl, HG.out⟩
    · rw [if_neg (by omega)]
      have hI : ¬ (n : Int) > 16 := by omega
      have hn16 : n ≤ 16 := by omega
      clear h0 h16 hts
      go_enter Tryz.func59, Tryz.ntmps59
      go_wp2_with fail
      go_loopw [4] (fun x wr => ∃ (k u : Nat), k ≤ n ∧ x = .int .u64 (u : Int) ∧ wr = w.iter (S l) k ∧ Hid (bitsL (l.take k) 0 = some u)) (fun _ wr => n - wr.iterPos w.heap.size)
      case atStart => exact ⟨0, 0, Nat.zero_le _, rfl, rfl, rfl⟩
      case round =>
        obtain ⟨k, u, hk, rfl, rfl, HI⟩ := hrel
        by_cases hlt : k < n
        · have hkl : k < l.length := by rw [← HN.out]; exact hlt
          have hnx := fun ty => run_next_any (P := Tryz.prog) w (S l) k ty (by rw [HSz.out]; exact hlt)
          have h128 : l[k].toNat < 128 := HA.out _ (List.getElem_mem hkl)
          have hd : Utf8.decode (S l) k = (l[k].toNat, 1) := by
            rcases sgn_at l k hkl with h1 | h1
            · exact h1.2
            · omega
          rw [hd] at hnx
          have HS1 : Hid (l.take (k + 1) = l.take k ++ [l[k]]) := List.take_succ_eq_append_getElem hkl
          have HS2 : Hid (l = l.take k ++ l[k] :: l.drop (k + 1)) := by show _ = _; rw [← List.drop_eq_getElem_cons hkl, List.take_append_drop]
          have hu : u < 16 ^ k := by
            have := bitsL_lt _ _ _ HI.out
            rw [List.length_take, Nat.min_eq_left (by omega)] at this
            simpa using this
          have hu15 : u < 1152921504606846976 := Nat.lt_of_lt_of_le hu (by
            have : 16 ^ k ≤ 16 ^ 15 := Nat.pow_le_pow_right (by omega) (by omega)
            exact this)
          have HX := hexD_idx l[k] h128
          obtain ⟨c, hc⟩ : ∃ c, c = l[k] := ⟨_, rfl⟩
          rw [← hc] at hnx h128 HX HS1 HS2
          simp only at hnx
          obtain ⟨cn, hcn⟩ : ∃ cn, cn = c.toNat := ⟨_, rfl⟩
          rw [← hcn] at hnx h128
          have HC : Hid (∀ W, Calls Tryz.prog 61 #[.string ⟨#[48, 49, 50, 51, 52, 53, 54, 55, 56, 57, 97, 98, 99, 100, 101, 102]⟩, .int .i32 (cn : Int)] W fun e w' => e = .returned (.int .i64 (Lib.indexByte digL c)) ∧ w' = W) := fun W => by
            have h1 := indexRune_lo W digL cn h128
            have e : UInt8.ofNat cn = c := by rw [hcn]; simp
            rw [e] at h1
            exact h1
          have HG3 := hidS (HG2.out (k + 1))
          obtain ⟨HX1, HX2⟩ := HX
          rw [HX1] at HC
          cases hh : hexD c with
          | none =>
            rw [hh] at HC
            simp only at HC
            have HF : Hid (bitsL l 0 = none) := by
              show _ = _
              rw [HS2.out, bitsL_app, HI.out]
              simp [bitsL, hh]
            clear HX1 HX2 hh hc hcn hd HI HS1 HS2 hu hu15
            go_wp2_with (first | (go_at_call 61; refine (HC.out _).mono ?_; rintro e wE ⟨rfl, hwE⟩; have hwE' := hwE.symm; subst hwE'; clear hwE))
            go_ret2
            exact ⟨by rw [HF.out]; rfl, HG3.out⟩
          | some d =>
            rw [hh] at HC
            simp only at HC
            have hd16 := HX2 d hh
            have HB : Hid (bits .or .u64 ((u : Int) * 16) (d : Int) = ((16 * u + d : Nat) : Int)) := bits_step u d hu15 hd16
            have HF : Hid (bitsL (l.take (k + 1)) 0 = some (16 * u + d)) := by
              show _ = _
              rw [HS1.out, bitsL_app, HI.out]
              simp [bitsL, hh]
            clear HX1 HX2 hh hc hcn hd HI HS1 HS2 hu
            go_wp2_with (first | (go_at_call 61; refine (HC.out _).mono ?_; rintro e wE ⟨rfl, hwE⟩; have hwE' := hwE.symm; subst hwE'; clear hwE))
            go_roundw
            case rel => exact ⟨k + 1, 16 * u + d, by omega, by rw [HB.out], rfl, HF⟩
            case measure => simp only [World.iterPos_iter]; omega
        · have hke : k = n := by omega
          subst hke
          have hnx := fun ty => run_next_end (P := Tryz.prog) w (S l) k ty (by rw [HSz.out]; omega)
          have hu : u < 18446744073709551616 := by
            have := bitsL_lt _ _ _ HI.out
            rw [List.length_take, Nat.min_eq_left (by rw [← HN.out]; exact Nat.le_refl _)] at this
            have h2 : 16 ^ k ≤ 16 ^ 16 := Nat.pow_le_pow_right (by omega) (by omega)
            have h3 : 16 ^ 16 = 18446744073709551616 := by decide
            omega
          have HF : Hid (bitsL l 0 = some u) := by
            have h := HI.out
            rw [List.take_of_length_le (by rw [← HN.out]; exact Nat.le_refl _)] at h
            exact h
          have hw := i64N_wrap u hu
          have HG3 := hidS (HG2.out k)
          clear HI
          go_wp2
          go_ret2
          exact ⟨by rw [HF.out]; rfl, HG3.out⟩
theorem numO_x {t : List UInt8} (h : [48, 120].isPrefixOf t = true) : Value.tuple #[.int .i64 (numO t).1, .bool (numO t).2] = (if (t.drop 2).length = 0 ∨ 16 < (t.drop 2).length then Value.tuple #[.int .i64 0, .bool false] else optV (bitsL (t.drop 2) 0)) := by
  have hl := (List.isPrefixOf_iff_prefix.1 h).length_le
  simp only [List.length_cons, List.length_nil] at hl
  unfold numO
  rw [if_pos h]
  by_cases h1 : t.length = 2 ∨ 18 < t.length
  · rw [if_pos h1, if_pos (by rw [List.length_drop]; omega)]
  · rw [if_neg h1, if_neg (by rw [List.length_drop]; omega)]
    cases bitsL (t.drop 2) 0 <;> rfl
set_option maxRecDepth 100000 in
set_option maxHeartbeats 1000000 in
theorem numberOf_any (w : World) (t : List UInt8) (hl : t.length ≤ 65536) (ha : ∀ b ∈ t, b.toNat < 128) (hv : NumVars w) : Calls Tryz.prog 49 #[.string (S t)] w fun e w' => e = .returned (.tuple #[.int .i64 (numO t).1, .bool (numO t).2]) ∧ Below w.heap.size w w' := by
  have HP : Hid (Calls Tryz.prog 44 #[.string (S t), .string ⟨#[48, 120]⟩] w fun e w' => e = .returned (.tuple #[.string (S (if [48, 120].isPrefixOf t then t.drop 2 else t)), .bool ([48, 120].isPrefixOf t)]) ∧ w' = w) := cutPre_any w t [48, 120]
  cases hb : [48, 120].isPrefixOf t with
  | true =>
    rw [hb] at HP
    simp only [if_true] at HP
    have HB := hidS (bitsOf_any w (t.drop 2) (by rw [List.length_drop]; omega) (fun b h => ha b (List.mem_of_mem_drop h)))
    have HE := hidS (numO_x hb)
    obtain ⟨V, hV⟩ : ∃ V, V = (if (t.drop 2).length = 0 ∨ 16 < (t.drop 2).length then Value.tuple #[.int .i64 0, .bool false] else optV (bitsL (t.drop 2) 0)) := ⟨_, rfl⟩
    rw [← hV] at HB HE
    obtain ⟨x, b, hxb⟩ : ∃ x b, V = .tuple #[.int .i64 x, .bool b] := ⟨_, _, HE.out.symm⟩
    subst hxb
    rw [show Value.tuple #[.int .i64 (numO t).1, .bool (numO t).2] = Value.tuple #[.int .i64 x, .bool b] from HE.out]
    clear hV HE hb ha hv hl
    go_enter Tryz.func49, Tryz.ntmps49
    go_wp2_with (first | (go_at_call 44; refine HP.out.mono ?_; rintro e wE ⟨rfl, hwE⟩; have hwE' := hwE.symm; subst hwE'; clear hwE) | fail)
    refine HB.out.mono ?_
    rintro e w2 ⟨rfl, hg⟩
    have HG2 := hidS hg.below
    clear hg
    go_wp2_with fail
    go_ret2
    exact ⟨rfl, HG2.out⟩
  | false =>
    rw [hb] at HP
    simp only [Bool.false_eq_true, if_false] at HP
    have HN := hidS (number_any w (S t) (by rw [S_size]; omega) hv)
    rw [S_list] at HN
    have e : numO t = Dec.num1 t := by unfold numO; rw [hb]; simp
    rw [e]
    obtain ⟨⟨x, b⟩, hxb⟩ : ∃ q, q = Dec.num1 t := ⟨_, rfl⟩
    rw [← hxb] at HN ⊢
    simp only at HN ⊢
    clear e hxb hb ha hv hl
    go_enter Tryz.func49, Tryz.ntmps49
    go_wp2_with (first | (go_at_call 44; refine HP.out.mono ?_; rintro e wE ⟨rfl, hwE⟩; have hwE' := hwE.symm; subst hwE'; clear hwE) | fail)
    refine HN.out.mono ?_
    rintro e w2 ⟨rfl, hg⟩
    have HG2 := hidS hg
    clear hg
    go_wp2_with fail
    go_ret2
    exact ⟨rfl, HG2.out⟩
/-- a token beside an error's number -/
def tkP : TK → Value
  | .ok k t n => .tuple #[tkV k t n (0, 0), .int .i64 0]
  | .er e => .tuple #[tkV 0 [] 0 (0, 0), .int .i64 (e : Int)]
abbrev put5 (W : World) (R : Nat) (v0 v1 v2 v3 v4 : Value) : World := ((((W.setCell ⟨R, 0, none⟩ v0).setCell ⟨R, 1, none⟩ v1).setCell ⟨R, 2, none⟩ v2).setCell ⟨R, 3, none⟩ v3).setCell ⟨R, 4, none⟩ v4
def Row5 (W : World) (R : Nat) (v0 v1 v2 v3 v4 : Value) : Prop := W.heap[R]? = some (.cells #[v0, v1, v2, v3, v4] 36 (0, 0))
theorem Row5.cells {W : World} {R : Nat} {v0 v1 v2 v3 v4 : Value} (h : Row5 W R v0 v1 v2 v3 v4) : (W.cell? ⟨R, 0, none⟩ = some v0 ∧ W.cell? ⟨R, 1, none⟩ = some v1 ∧ W.cell? ⟨R, 2, none⟩ = some v2 ∧ W.cell? ⟨R, 3, none⟩ = some v3 ∧ W.cell? ⟨R, 4, none⟩ = some v4) ∧ (W.frozen? ⟨R, 0, none⟩ = false ∧ W.frozen? ⟨R, 1, none⟩ = false ∧ W.frozen? ⟨R, 2, none⟩ = false ∧ W.frozen? ⟨R, 3, none⟩ = false ∧ W.frozen? ⟨R, 4, none⟩ = false) := by
  unfold Row5 at h
  exact ⟨⟨by simp [World.cell?, h], by simp [World.cell?, h], by simp [World.cell?, h], by simp [World.cell?, h], by simp [World.cell?, h]⟩, frozen_of_row W R 0 _ _ h, frozen_of_row W R 1 _ _ h, frozen_of_row W R 2 _ _ h, frozen_of_row W R 3 _ _ h, frozen_of_row W R 4 _ _ h⟩
theorem Row5.put {W : World} {R : Nat} {a0 a1 a2 a3 a4 : Value} (h : Row5 W R a0 a1 a2 a3 a4) (v0 v1 v2 v3 v4 : Value) : Row5 (put5 W R v0 v1 v2 v3 v4) R v0 v1 v2 v3 v4 :=
  heap_setCell_same _ R 4 _ _ _ (heap_setCell_same _ R 3 _ _ _ (heap_setCell_same _ R 2 _ _ _ (heap_setCell_same _ R 1 _ _ _ (heap_setCell_same W R 0 _ _ _ h))))
theorem Row5.new (w : World) (v0 v1 v2 v3 v4 : Value) : Row5 (w.alloc (.cells #[v0, v1, v2, v3, v4] 36)) w.heap.size v0 v1 v2 v3 v4 := heap_alloc_new _ _ rfl
theorem Row5.kept {w w' : World} {R : Nat} {v0 v1 v2 v3 v4 : Value} (h : Row5 w R v0 v1 v2 v3 v4) (hb : Below w.heap.size w w') : Row5 w' R v0 v1 v2 v3 v4 := (hb.block _ (blk_lt h)).trans h
theorem put5_below {C : Nat} {W0 W : World} (hb : Below C W0 W) {R : Nat} (hR : C ≤ R) (v0 v1 v2 v3 v4 : Value) : Below C W0 (put5 W R v0 v1 v2 v3 v4) := ((((hb.setCell (p := ⟨R, 0, none⟩) hR v0).setCell (p := ⟨R, 1, none⟩) hR v1).setCell (p := ⟨R, 2, none⟩) hR v2).setCell (p := ⟨R, 3, none⟩) hR v3).setCell (p := ⟨R, 4, none⟩) hR v4
set_option maxRecDepth 100000 in
set_option maxHeartbeats 1000000 in
theorem numberToken_any (w : World) (t : List UInt8) (hl : t.length ≤ 65536) (ha : ∀ b ∈ t, b.toNat < 128) (hv : NumVars w) : Calls Tryz.prog 34 #[.string (S t)] w fun e w' => e = .returned (tkP (if (numO t).2 then .ok 3 t (numO t).1 else .er 41)) ∧ Below w.heap.size w w' := by
  obtain ⟨W1, hW1⟩ : ∃ W1, W1 = w.alloc (.cells #[.int .i64 0, .string ⟨#[]⟩, .int .i64 0, .int .i64 0, .int .i64 0] 36) := ⟨_, rfl⟩
  have hb1 : Below w.heap.size w W1 := by rw [hW1]; exact (Below.refl _ _).alloc (Nat.le_refl _) _
  have HB1 := hidS hb1
  have HN := hidS (numberOf_any W1 t hl ha (hv.kept hb1))
  obtain ⟨R, hR⟩ : ∃ R, R = w.heap.size := ⟨_, rfl⟩
  have HR : Hid (Row5 W1 R (.int .i64 0) (.string ⟨#[]⟩) (.int .i64 0) (.int .i64 0) (.int .i64 0)) := by show Row5 _ _ _ _ _ _ _; rw [hW1, hR]; exact Row5.new _ _ _ _ _ _
  have HRl : Hid (w.heap.size ≤ R) := by show w.heap.size ≤ R; omega
  obtain ⟨⟨x, b⟩, hxb⟩ : ∃ q, q = numO t := ⟨_, rfl⟩
  rw [← hxb] at HN ⊢
  simp only at HN ⊢
  clear hxb ha hv hl hb1
  cases b with
  | false =>
    go_enter Tryz.func34, Tryz.ntmps34
    go_wp2_with fail
    rw [← hW1, ← hR]
    clear hW1 hR
    refine HN.out.mono ?_
    rintro e w2 ⟨rfl, hg⟩
    have HG2 : Hid (Below w.heap.size w w2) := HB1.out.trans (hg.mono HB1.out.size)
    have HR2 := hidS (HR.out.kept hg)
    obtain ⟨⟨c0, c1, c2, c3, c4⟩, f0, f1, f2, f3, f4⟩ := HR2.out.cells
    have HP : Hid (∀ v0 v1 v2 v3 v4, Row5 (put5 w2 R v0 v1 v2 v3 v4) R v0 v1 v2 v3 v4 ∧ Below w.heap.size w (put5 w2 R v0 v1 v2 v3 v4)) := fun v0 v1 v2 v3 v4 => ⟨HR2.out.put v0 v1 v2 v3 v4, put5_below HG2.out HRl.out v0 v1 v2 v3 v4⟩
    clear hg HR2 HN
    go_wp2_with fail
    obtain ⟨hr, hb⟩ := HP.out (.int .i64 0) (.string ⟨#[]⟩) (.int .i64 0) (.int .i64 0) (.int .i64 0)
    obtain ⟨⟨d0, d1, d2, d3, d4⟩, _⟩ := hr.cells
    exact bodyPost_ret (v := .tuple #[.agg #[.int .i64 0, .string ⟨#[]⟩, .int .i64 0, .int .i64 0, .int .i64 0], .int .i64 41]) (by simp [results, Tryz.results34, go_sem, d0, d1, d2, d3, d4]) rfl ⟨rfl, hb⟩
  | true =>
    go_enter Tryz.func34, Tryz.ntmps34
    go_wp2_with fail
    rw [← hW1, ← hR]
    clear hW1 hR
    refine HN.out.mono ?_
    rintro e w2 ⟨rfl, hg⟩
    have HG2 : Hid (Below w.heap.size w w2) := HB1.out.trans (hg.mono HB1.out.size)
    have HR2 := hidS (HR.out.kept hg)
    obtain ⟨⟨c0, c1, c2, c3, c4⟩, f0, f1, f2, f3, f4⟩ := HR2.out.cells
    have HP : Hid (∀ v0 v1 v2 v3 v4, Row5 (put5 w2 R v0 v1 v2 v3 v4) R v0 v1 v2 v3 v4 ∧ Below w.heap.size w (put5 w2 R v0 v1 v2 v3 v4)) := fun v0 v1 v2 v3 v4 => ⟨HR2.out.put v0 v1 v2 v3 v4, put5_below HG2.out HRl.out v0 v1 v2 v3 v4⟩
    clear hg HR2 HN
    go_wp2_with fail
    obtain ⟨hr, hb⟩ := HP.out (.int .i64 3) (.string (S t)) (.int .i64 x) (.int .i64 0) (.int .i64 0)
    obtain ⟨⟨d0, d1, d2, d3, d4⟩, _⟩ := hr.cells
    exact bodyPost_ret (v := .tuple #[.agg #[.int .i64 3, .string (S t), .int .i64 x, .int .i64 0, .int .i64 0], .int .i64 0]) (by simp [results, Tryz.results34, go_sem, d0, d1, d2, d3, d4]) rfl ⟨rfl, hb⟩
end Go.Proofs.YtlabofafmcbfmaaGreatDoor
