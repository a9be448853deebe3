import Derived.Test.YtiiplikmoodfnaaGreatDoorKARlabA
import Derived.Test.YtiiplikmoodfnaaGreatDoorKBytes
/-
  THE DOCUMENT's READER: what its lines do, pure.
-/
namespace Go.Proofs.YtiiplikmoodfnaaGreatDoor
open Go.RowKit Go.Sort

/-- the column behind the first i words -/
def bhN (ws : List Wd) : Nat → Nat
  | 0 => 0
  | i + 1 => match ws[i]? with
    | none => bhN ws i
    | some x => x.2 + x.1.length
/-- the fixed words of a procedure's first line -/
def fxN : Nat → List UInt8
  | 0 => procL
  | 2 => kwN 0
  | 4 => kwN 1
  | 6 => kwN 2
  | 8 => kwN 3
  | _ => []
/-- the first i words of a procedure's first line: their numbers, or what is wrong -/
def headE (ws : List Wd) : Nat → Except Er (List Int)
  | 0 => .ok []
  | i + 1 =>
    match headE ws i with
    | .error e => .error e
    | .ok ns =>
      match ws[i]? with
      | none => .error (bhN ws i, 40)
      | some x =>
        if fxN i ≠ [] then (if x.1 = fxN i then .ok ns else .error (x.2, 40))
        else if 1 < i then (if (Dec.num1 x.1).2 = true then .ok (ns ++ [(Dec.num1 x.1).1]) else .error (x.2, 41))
        else .ok ns
theorem bhN_succ (ws : List Wd) (i : Nat) : bhN ws (i + 1) = match ws[i]? with
    | none => bhN ws i
    | some x => x.2 + x.1.length := rfl
theorem next_at (ws : List Wd) (i : Nat) : rNext (ws.drop i, bhN ws i) = match ws[i]? with
    | none => .error (bhN ws i, 40)
    | some x => .ok (x, (ws.drop (i + 1), bhN ws (i + 1))) := by
  rw [bhN_succ]
  cases h : ws[i]? with
  | none =>
    have h1 : ws.drop i = [] := List.drop_eq_nil_of_le (by simpa using h)
    rw [h1]
    rfl
  | some x =>
    obtain ⟨hi, hx⟩ := List.getElem?_eq_some_iff.1 h
    have h1 : ws.drop i = x :: ws.drop (i + 1) := by rw [List.drop_eq_getElem_cons hi, hx]
    rw [h1]
    rfl
theorem headE_step (ws : List Wd) (i : Nat) : headE ws (i + 1) = match headE ws i with
    | .error e => .error e
    | .ok ns =>
      match ws[i]? with
      | none => .error (bhN ws i, 40)
      | some x =>
        if fxN i ≠ [] then (if x.1 = fxN i then .ok ns else .error (x.2, 40))
        else if 1 < i then (if (Dec.num1 x.1).2 = true then .ok (ns ++ [(Dec.num1 x.1).1]) else .error (x.2, 41))
        else .ok ns := rfl
theorem headE_one {ws : List Wd} {ns : List Int} (h : headE ws 1 = .ok ns) : ns = [] := by
  rw [show (1 : Nat) = 0 + 1 from rfl, headE_step, show headE ws 0 = .ok [] from rfl] at h
  cases h0 : ws[0]? with
  | none => simp only [h0] at h; cases h
  | some x =>
    simp only [h0] at h
    rw [if_pos (by decide)] at h
    split at h
    · cases h; rfl
    · cases h
theorem headE_two {ws : List Wd} {ns : List Int} (h : headE ws 2 = .ok ns) : ns = [] := by
  rw [show (2 : Nat) = 1 + 1 from rfl, headE_step] at h
  cases h1 : headE ws 1 with
  | error e => simp only [h1] at h; cases h
  | ok ns1 =>
    simp only [h1] at h
    cases h0 : ws[1]? with
    | none => simp only [h0] at h; cases h
    | some x =>
      simp only [h0] at h
      rw [if_neg (by decide), if_neg (by decide)] at h
      cases h
      exact headE_one h1
theorem four_at (ws : List Wd) : ∀ k, k ≤ 4 → ∀ ns0, headE ws 2 = .ok ns0 → rFour (ws.drop 2, bhN ws 2) k = match headE ws (2 + 2 * k) with
    | .error e => .error e
    | .ok ns => .ok (ns.drop ns0.length, (ws.drop (2 + 2 * k), bhN ws (2 + 2 * k))) := by
  intro k hk ns0 h0
  have h00 := headE_two h0
  have hl : ∀ ns : List Int, ns0.length ≤ ns.length := fun ns => by rw [h00]; simp
  induction k with
  | zero =>
    rw [show 2 + 2 * 0 = 2 from rfl, h0]
    simp [rFour]
  | succ k ih =>
    have hk' : k ≤ 4 := by omega
    have hfx : fxN (2 + 2 * k) = kwN k ∧ fxN (2 + 2 * k) ≠ [] ∧ fxN (2 + 2 * k + 1) = [] := by
      rcases (show k = 0 ∨ k = 1 ∨ k = 2 ∨ k = 3 by omega) with rfl | rfl | rfl | rfl <;> exact ⟨rfl, by decide, rfl⟩
    rw [show 2 + 2 * (k + 1) = (2 + 2 * k) + 1 + 1 by omega]
    simp only [rFour]
    rw [ih hk']
    simp only [headE]
    cases h1 : headE ws (2 + 2 * k) with
    | error e => rfl
    | ok ns1 =>
      have h2 := hl ns1
      simp only [rMust, next_at ws (2 + 2 * k)]
      cases h3 : ws[2 + 2 * k]? with
      | none => rfl
      | some x =>
        simp only [hfx.1]
        rw [if_pos (show kwN k ≠ [] from hfx.1 ▸ hfx.2.1)]
        by_cases h4 : x.1 = kwN k
        · rw [if_pos h4, if_pos h4]
          simp only [rNum, next_at ws (2 + 2 * k + 1)]
          cases h5 : ws[2 + 2 * k + 1]? with
          | none => rfl
          | some y =>
            simp only [hfx.2.2]
            rw [if_neg (show ¬ ([] : List UInt8) ≠ [] by simp), if_pos (show 1 < 2 + 2 * k + 1 by omega)]
            by_cases h6 : (Dec.num1 y.1).2 = true
            · rw [if_pos h6, if_pos h6]
              simp only
              rw [List.drop_append_of_le_length h2]
            · rw [if_neg h6, if_neg h6]
        · rw [if_neg h4, if_neg h4]
/-- what head leaves, pure -/
def headA (a : As) (line : Nat) (ws : List Wd) : Except Er As :=
  match headE ws 10 with
  | .error e => .error e
  | .ok ns =>
    match ws[10]? with
    | some x => .error (x.2, 40)
    | none => .ok { a with lib := a.lib ++ [⟨(ws.getD 1 ([], 0)).1, ⟨ns.getD 0 0, ns.getD 1 0, ns.getD 2 0, ns.getD 3 0⟩, []⟩], names := a.names ++ [(line, (ws.getD 1 ([], 0)).2)], opn := true, begun := (line, (ws.getD 0 ([], 0)).2), labels := [], jumps := [] }
theorem headE_err {ws : List Wd} {e : Er} {i : Nat} (h : headE ws i = .error e) : ∀ j, headE ws (i + j) = .error e
  | 0 => h
  | j + 1 => by
    show headE ws (i + j + 1) = _
    simp only [headE]
    rw [headE_err h j]
theorem first_head (a : As) (line : Nat) (ws : List Wd) : firstA a line ws = headA a line ws := by
  unfold firstA headA
  have e0 := next_at ws 0
  have e1 := next_at ws 1
  rw [show (ws.drop 0, bhN ws 0) = (ws, 0) from rfl] at e0
  simp only [rMust, e0]
  cases h0 : ws[0]? with
  | none =>
    have h1 : headE ws 1 = .error (0, 40) := by simp only [headE, h0]; rfl
    rw [show headE ws 10 = headE ws (1 + 9) from rfl, headE_err h1 9]
    rfl
  | some x =>
    simp only
    by_cases hp : x.1 = procL
    · rw [if_pos hp]
      have h1 : headE ws 1 = .ok [] := by simp only [headE, h0]; rw [if_pos (by decide), if_pos (show x.1 = fxN 0 from hp)]
      simp only [Nat.zero_add]
      rw [e1]
      cases h2 : ws[1]? with
      | none =>
        have h3 : headE ws 2 = .error (bhN ws 1, 40) := by rw [show headE ws 2 = headE ws (1 + 1) from rfl]; unfold headE; simp only [h1, h2]
        rw [show headE ws 10 = headE ws (2 + 8) from rfl, headE_err h3 8]
      | some nm =>
        have h3 : headE ws 2 = .ok [] := by
          rw [show headE ws 2 = headE ws (1 + 1) from rfl]
          unfold headE
          simp only [h1, h2]
          rw [if_neg (by decide), if_neg (by decide)]
        simp only
        have h4 := four_at ws 4 (Nat.le_refl _) [] h3
        rw [show (1 : Nat) + 1 = 2 from rfl, h4, show 2 + 2 * 4 = 10 from rfl]
        cases h5 : headE ws 10 with
        | error e => rfl
        | ok ns =>
          simp only [List.length_nil, List.drop_zero]
          have h6 : rEnd (ws.drop 10, bhN ws 10) = (ws[10]?).map (fun x => (x.2, 40)) := by
            unfold rEnd
            cases h7 : ws[10]? with
            | none => rw [show ws.drop 10 = [] from List.drop_eq_nil_of_le (by simpa using h7)]; rfl
            | some y =>
              obtain ⟨hi, hx⟩ := List.getElem?_eq_some_iff.1 h7
              rw [List.drop_eq_getElem_cons hi, hx]
              rfl
          rw [h6]
          cases h7 : ws[10]? with
          | some y => rfl
          | none =>
            have h8 : ws.getD 1 ([], 0) = nm := by rw [List.getD_eq_getElem?_getD, h2]; rfl
            have h9 : (ws.headD ([], 0)) = ws.getD 0 ([], 0) := by cases ws <;> rfl
            simp only [Option.map_none, h8, h9]
    · rw [if_neg hp]
      have h1 : headE ws 1 = .error (x.2, 40) := by simp only [headE, h0]; rw [if_pos (by decide), if_neg (show ¬ x.1 = fxN 0 from hp)]
      rw [show headE ws 10 = headE ws (1 + 9) from rfl, headE_err h1 9]
/-- an instruction's line: pure -/
def insA (a : As) (line : Nat) (x : Wd) (rest : List Wd) : Except (Nat × Nat × Int) As :=
  if (opR (S x.1)).2 = false then .error (line, x.2, 40)
  else
    match argA a line ((opR (S x.1)).1 : Int) (rest, x.2 + x.1.length) with
    | .error e => .error (line, e)
    | .ok (n, js, r1) =>
      match rEnd r1 with
      | some e => .error (line, e)
      | none => .ok (setL { a with jumps := a.jumps ++ js } ((lastP a).L ++ [(((opR (S x.1)).1 : Int), n)]))
def labA (a : As) (line : Nat) (x : Wd) (rest : List Wd) : Except (Nat × Nat × Int) As :=
  match labE a.labels x rest with
  | some e => .error (line, e)
  | none => .ok { a with labels := a.labels ++ [(x.1.dropLast, (lastP a).L.length)] }
def endA (a : As) (line : Nat) (rest : List Wd) : Except (Nat × Nat × Int) As :=
  match rEnd (rest, 0) with
  | some e => .error (line, e)
  | none =>
    match fixN a.labels a.jumps (lastP a).L with
    | .error e => .error e
    | .ok L => .ok { setL a L with opn := false }
theorem inside_eq (a : As) (line : Nat) (x : Wd) (rest : List Wd) : insideA a line (x :: rest) = if x.1 = endL then endA a line rest else if x.1.getLast? = some 58 then labA a line x rest else insA a line x rest := by
  simp only [insideA]
  split
  · rfl
  · split
    · unfold labA labE
      split
      · rfl
      · split
        · rfl
        · rfl
    · rfl
end Go.Proofs.YtiiplikmoodfnaaGreatDoor
/-
  THE WALK OF preluderef01.Number.
-/
namespace Go.Proofs.YtiiplikmoodfnaaGreatDoor
open Go.RowKit

theorem take_snoc8 (s : ByteArray) (k : Nat) (h : k < s.size) : s.data.toList.take (k + 1) = s.data.toList.take k ++ [s[k]] := by
  rw [List.take_succ_eq_append_getElem (by simpa using h)]; rfl
theorem mag_snoc (l : List UInt8) (c : UInt8) : Dec.mag (l ++ [c]) = Dec.add1 (Dec.mag l) c := by simp [Dec.mag]

theorem u64_eq {a b : Int} (h : a = b) : Value.int .u64 a = .int .u64 b := by rw [h]
theorem add1_in (m : Nat) (c : UInt8) (h1 : 48 ≤ (c.toNat : Int)) (h2 : (c.toNat : Int) ≤ 57) : IntKind.u64.wrap (IntKind.u64.wrap (10 * (m : Int)) + ((c.toNat : Int) - 48)) = ((Dec.add1 m c : Nat) : Int) := by
  rw [Dec.add1, if_pos (by omega), IntKind.wrap_u64, IntKind.wrap_u64]
  omega

theorem head_of (s : ByteArray) (h : 0 < s.size) : s.data.toList.head? = some s[0] := by
  have hl : 0 < s.data.toList.length := by rw [Array.length_toList]; exact h
  rw [List.head?_eq_getElem?, List.getElem?_eq_getElem hl]; rfl
theorem cand_neg (s : ByteArray) (h : 0 < s.size) (h45 : s[0].toNat = 45) {k : Nat} (hk : s.data.toList.take 20 = s.data.toList.take k) (hm : Dec.mag (s.data.toList.take k) < 18446744073709551616) :
    wrap64 (IntKind.u64.wrap (-((Dec.mag (s.data.toList.take k) : Nat) : Int))) = Dec.cand s.data.toList := by
  have e : s[0] = 45 := by apply UInt8.toNat_inj.1; exact h45
  unfold Dec.cand
  rw [head_of s h, e, if_pos rfl, hk, IntKind.wrap_u64]
  generalize Dec.mag (s.data.toList.take k) = m at *
  unfold wrap64 Dec.asInt
  split <;> omega
theorem cand_pos (s : ByteArray) (h : ∀ hh : 0 < s.size, s[0].toNat ≠ 45) {k : Nat} (hk : s.data.toList.take 20 = s.data.toList.take k) (hm : Dec.mag (s.data.toList.take k) < 18446744073709551616) :
    wrap64 ((Dec.mag (s.data.toList.take k) : Nat) : Int) = Dec.cand s.data.toList := by
  have e : ¬ s.data.toList.head? = some 45 := by
    by_cases h0 : 0 < s.size
    · rw [head_of s h0]
      intro hh
      have h1 := Option.some.inj hh
      exact h h0 (by rw [h1]; rfl)
    · have : s.data.toList = [] := List.eq_nil_of_length_eq_zero (by rw [Array.length_toList]; exact Nat.eq_zero_of_not_pos h0)
      rw [this]; simp
  unfold Dec.cand
  rw [if_neg e, hk]
  generalize Dec.mag (s.data.toList.take k) = m at *
  unfold wrap64 Dec.asInt
  split <;> omega


set_option maxHeartbeats 1000000 in
theorem refNumber_any (w : World) (s : ByteArray) (hs : s.size ≤ maxLen) :
    Calls Tryz.prog 36 #[.string s] w fun e w' => e = .returned (.tuple #[.int .i64 (Dec.num2 s.data.toList).1, .bool (Dec.num2 s.data.toList).2]) ∧ Below w.heap.size w w' := by
  unfold maxLen at hs
  go_enter Tryz.func36, Tryz.ntmps36
  go_wp2
  go_loop [4, 5] (fun m i => ∃ k : Nat, k ≤ s.size ∧ k ≤ 20 ∧ i = .int .i64 k ∧ m = .int .u64 ((Dec.mag (s.data.toList.take k) : Nat) : Int)) (fun _ i => s.size - (intOf i).toNat)
  case atStart => exact ⟨0, Nat.zero_le _, by omega, rfl, rfl⟩
  case round =>
    obtain ⟨k, hk, hk20, rfl, rfl⟩ := hrel
    have hml : Dec.mag (s.data.toList.take k) < 18446744073709551616 := Dec.mag_lt _ 0 (by omega)
    by_cases hlt : k < s.size
    · by_cases h20 : k < 20
      · have HT : Hid (Dec.mag (s.data.toList.take (k + 1)) = Dec.add1 (Dec.mag (s.data.toList.take k)) s[k]) := by rw [take_snoc8 s k hlt, mag_snoc]; exact rfl
        generalize Dec.mag (s.data.toList.take k) = m at *
        go_wp2
        · go_round
          case rel => exact ⟨k + 1, by omega, by omega, by go_num, by rw [HT.out]; exact u64_eq (add1_in m _ ‹48 ≤ (s[k].toNat : Int)› ‹(s[k].toNat : Int) ≤ 57›)⟩
          case measure => simp [intOf]; omega
        · go_round
          case rel => exact ⟨k + 1, by omega, by omega, by go_num, by rw [HT.out, Dec.add1, if_neg (by omega)]⟩
          case measure => simp [intOf]; omega
        · go_round
          case rel => exact ⟨k + 1, by omega, by omega, by go_num, by rw [HT.out, Dec.add1, if_neg (by omega)]⟩
          case measure => simp [intOf]; omega
      · have HT : Hid (s.data.toList.take 20 = s.data.toList.take k) := by rw [Hid, show k = 20 by omega]
        by_cases h0 : 0 < s.size
        · by_cases h45 : s[0].toNat = 45
          · have hT : ((s[0].toNat : Int) == 45) = true := by rw [beq_iff_eq]; omega
            have CE : Hid (wrap64 (IntKind.u64.wrap (-((Dec.mag (s.data.toList.take k) : Nat) : Int))) = Dec.cand s.data.toList) := cand_neg s h0 h45 HT.out hml
            have cb := Dec.cand_bounds s.data.toList
            generalize Dec.mag (s.data.toList.take k) = m at *
            go_wp2_with fail
            rw [CE.out]
            refine (refDigits_any w _ cb.1 cb.2).mono ?_
            rintro e w1 ⟨rfl, hb1⟩
            by_cases hE : Lib.itoa (Dec.cand s.data.toList) = s.data.toList
            · have hB : (!Lib.itoa (Dec.cand s.data.toList) == s.toList) = false := by rw [byteList s]; simp [hE]
              have HE : Hid (Dec.num2 s.data.toList = (Dec.cand s.data.toList, true)) := by unfold Dec.num2; rw [Hid, if_pos hE]
              clear hE
              go_wp2
              go_ret2
              exact ⟨by rw [HE.out, ← CE.out]; rfl, hb1.below⟩
            · have hB : (!Lib.itoa (Dec.cand s.data.toList) == s.toList) = true := by rw [byteList s]; simp [hE]
              have HE : Hid (Dec.num2 s.data.toList = (0, false)) := by unfold Dec.num2; rw [Hid, if_neg hE]
              clear hE
              go_wp2
              go_ret2
              exact ⟨by rw [HE.out]; rfl, hb1.below⟩
          · have hT : ((s[0].toNat : Int) == 45) = false := by rw [beq_eq_false_iff_ne]; omega
            have CE : Hid (wrap64 ((Dec.mag (s.data.toList.take k) : Nat) : Int) = Dec.cand s.data.toList) := cand_pos s (fun _ => h45) HT.out hml
            have cb := Dec.cand_bounds s.data.toList
            generalize Dec.mag (s.data.toList.take k) = m at *
            go_wp2_with fail
            rw [CE.out]
            refine (refDigits_any w _ cb.1 cb.2).mono ?_
            rintro e w1 ⟨rfl, hb1⟩
            by_cases hE : Lib.itoa (Dec.cand s.data.toList) = s.data.toList
            · have hB : (!Lib.itoa (Dec.cand s.data.toList) == s.toList) = false := by rw [byteList s]; simp [hE]
              have HE : Hid (Dec.num2 s.data.toList = (Dec.cand s.data.toList, true)) := by unfold Dec.num2; rw [Hid, if_pos hE]
              clear hE
              go_wp2
              go_ret2
              exact ⟨by rw [HE.out, ← CE.out]; rfl, hb1.below⟩
            · have hB : (!Lib.itoa (Dec.cand s.data.toList) == s.toList) = true := by rw [byteList s]; simp [hE]
              have HE : Hid (Dec.num2 s.data.toList = (0, false)) := by unfold Dec.num2; rw [Hid, if_neg hE]
              clear hE
              go_wp2
              go_ret2
              exact ⟨by rw [HE.out]; rfl, hb1.below⟩
        · omega
    · have HT : Hid (s.data.toList.take 20 = s.data.toList.take k) := by
        have e : s.data.toList.length = s.size := by rw [Array.length_toList]; rfl
        rw [Hid, List.take_of_length_le (by omega), List.take_of_length_le (by omega)]
      by_cases h0 : 0 < s.size
      · by_cases h45 : s[0].toNat = 45
        · have hT : ((s[0].toNat : Int) == 45) = true := by rw [beq_iff_eq]; omega
          have CE : Hid (wrap64 (IntKind.u64.wrap (-((Dec.mag (s.data.toList.take k) : Nat) : Int))) = Dec.cand s.data.toList) := cand_neg s h0 h45 HT.out hml
          have cb := Dec.cand_bounds s.data.toList
          generalize Dec.mag (s.data.toList.take k) = m at *
          go_wp2_with fail
          rw [CE.out]
          refine (refDigits_any w _ cb.1 cb.2).mono ?_
          rintro e w1 ⟨rfl, hb1⟩
          by_cases hE : Lib.itoa (Dec.cand s.data.toList) = s.data.toList
          · have hB : (!Lib.itoa (Dec.cand s.data.toList) == s.toList) = false := by rw [byteList s]; simp [hE]
            have HE : Hid (Dec.num2 s.data.toList = (Dec.cand s.data.toList, true)) := by unfold Dec.num2; rw [Hid, if_pos hE]
            clear hE
            go_wp2
            go_ret2
            exact ⟨by rw [HE.out, ← CE.out]; rfl, hb1.below⟩
          · have hB : (!Lib.itoa (Dec.cand s.data.toList) == s.toList) = true := by rw [byteList s]; simp [hE]
            have HE : Hid (Dec.num2 s.data.toList = (0, false)) := by unfold Dec.num2; rw [Hid, if_neg hE]
            clear hE
            go_wp2
            go_ret2
            exact ⟨by rw [HE.out]; rfl, hb1.below⟩
        · have hT : ((s[0].toNat : Int) == 45) = false := by rw [beq_eq_false_iff_ne]; omega
          have CE : Hid (wrap64 ((Dec.mag (s.data.toList.take k) : Nat) : Int) = Dec.cand s.data.toList) := cand_pos s (fun _ => h45) HT.out hml
          have cb := Dec.cand_bounds s.data.toList
          generalize Dec.mag (s.data.toList.take k) = m at *
          go_wp2_with fail
          rw [CE.out]
          refine (refDigits_any w _ cb.1 cb.2).mono ?_
          rintro e w1 ⟨rfl, hb1⟩
          by_cases hE : Lib.itoa (Dec.cand s.data.toList) = s.data.toList
          · have hB : (!Lib.itoa (Dec.cand s.data.toList) == s.toList) = false := by rw [byteList s]; simp [hE]
            have HE : Hid (Dec.num2 s.data.toList = (Dec.cand s.data.toList, true)) := by unfold Dec.num2; rw [Hid, if_pos hE]
            clear hE
            go_wp2
            go_ret2
            exact ⟨by rw [HE.out, ← CE.out]; rfl, hb1.below⟩
          · have hB : (!Lib.itoa (Dec.cand s.data.toList) == s.toList) = true := by rw [byteList s]; simp [hE]
            have HE : Hid (Dec.num2 s.data.toList = (0, false)) := by unfold Dec.num2; rw [Hid, if_neg hE]
            clear hE
            go_wp2
            go_ret2
            exact ⟨by rw [HE.out]; rfl, hb1.below⟩
      · have CE : Hid (wrap64 ((Dec.mag (s.data.toList.take k) : Nat) : Int) = Dec.cand s.data.toList) := cand_pos s (fun hh => absurd hh h0) HT.out hml
        have cb := Dec.cand_bounds s.data.toList
        generalize Dec.mag (s.data.toList.take k) = m at *
        go_wp2_with fail
        rw [CE.out]
        refine (refDigits_any w _ cb.1 cb.2).mono ?_
        rintro e w1 ⟨rfl, hb1⟩
        by_cases hE : Lib.itoa (Dec.cand s.data.toList) = s.data.toList
        · have hB : (!Lib.itoa (Dec.cand s.data.toList) == s.toList) = false := by rw [byteList s]; simp [hE]
          have HE : Hid (Dec.num2 s.data.toList = (Dec.cand s.data.toList, true)) := by unfold Dec.num2; rw [Hid, if_pos hE]
          clear hE
          go_wp2
          go_ret2
          exact ⟨by rw [HE.out, ← CE.out]; rfl, hb1.below⟩
        · have hB : (!Lib.itoa (Dec.cand s.data.toList) == s.toList) = true := by rw [byteList s]; simp [hE]
          have HE : Hid (Dec.num2 s.data.toList = (0, false)) := by unfold Dec.num2; rw [Hid, if_neg hE]
          clear hE
          go_wp2
          go_ret2
          exact ⟨by rw [HE.out]; rfl, hb1.below⟩

end Go.Proofs.YtiiplikmoodfnaaGreatDoor
/-
  THE DOCUMENT's instruction: what stands behind its argument.
-/
namespace Go.Proofs.YtiiplikmoodfnaaGreatDoor
open Go.RowKit Go.Sort

theorem jumpB_or {op : Int} (h : jumpB op = true) : op = 30 ∨ op = 31 := by simpa [jumpB] using h
theorem jumpB_nor {op : Int} (h : jumpB op = false) : op ≠ 30 ∧ op ≠ 31 := by simpa [jumpB] using h
theorem jump_wants {op : Int} (h : jumpB op = true) : wantsB op = true := by
  rcases jumpB_or h with rfl | rfl <;> rfl
/-- the blocks that the reader may turn: those of its rows, and new ones -/
def OO (r : Rv) (z : Nat) (k : Nat) : Prop := z ≤ k ∨ r.lib.ownBlock = some k ∨ r.names.ownBlock = some k ∨ r.marks.ownBlock = some k ∨ r.uses.ownBlock = some k ∨ r.code.ownBlock = some k
/-- all but B and those stays -/
structure FrO (O : Nat → Prop) (B : Nat) (W W' : World) : Prop where
  os : W'.os = W.os
  tape : W'.tape = W.tape
  output : W'.output = W.output
  size : W.heap.size ≤ W'.heap.size
  block : ∀ k, k < W.heap.size → k ≠ B → ¬ O k → W'.heap[k]? = W.heap[k]?
theorem FrO.trans {O : Nat → Prop} {B : Nat} {a b c : World} (h : FrO O B a b) (k : FrO O B b c) : FrO O B a c := ⟨k.os.trans h.os, k.tape.trans h.tape, k.output.trans h.output, Nat.le_trans h.size k.size, fun i hi h1 h2 => (k.block i (Nat.lt_of_lt_of_le hi h.size) h1 h2).trans (h.block i hi h1 h2)⟩
theorem FrO.bel {O : Nat → Prop} {B : Nat} {a b : World} (h : Go.RowKit.Below a.heap.size a b) : FrO O B a b := ⟨h.os, h.tape, h.output, h.size, fun i hi _ _ => h.block i hi⟩
theorem FrO.set {O : Nat → Prop} {B : Nat} {W : World} (ad : Addr) (v : Value) (h : O ad.block) : FrO O B W (W.setCell ad v) := ⟨rfl, rfl, rfl, by simp, fun k _ _ h2 => heap_setCell_other W ad k v (fun e => h2 (e ▸ h))⟩
theorem FrB.fro {O : Nat → Prop} {W W' : World} {B : Nat} {row : Option Nat} (hf : FrB B row W W') (hr : ∀ g, row = some g → O g) : FrO O B W W' := ⟨hf.os, hf.tape, hf.output, hf.size, fun k hk h1 h2 => hf.block k hk h1 (fun e => h2 (hr k e))⟩
theorem FrO.mono {O O' : Nat → Prop} {B : Nat} {a b : World} (h : FrO O B a b) (ho : ∀ k, O k → O' k) : FrO O' B a b := ⟨h.os, h.tape, h.output, h.size, fun k hk h1 h2 => h.block k hk h1 (fun e => h2 (ho k e))⟩
theorem fro_ft {O : Nat → Prop} {W : World} {B f : Nat} (h : O f) (x y z : Value) : FrO O B W (((W.setCell ⟨f, 0, none⟩ x).setCell ⟨f, 1, none⟩ y).setCell ⟨f, 2, none⟩ z) := ((FrO.set _ _ h).trans (FrO.set _ _ h)).trans (FrO.set _ _ h)
theorem DS.oo {W : World} {M B : Nat} {a : As} {Qs : List Pr} {nl : List (Nat × Nat)} {Lo : List K} {r : Rv} (h : DS W M B a Qs nl Lo r) {k : Nat} (hk : OO r W.heap.size k) : M ≤ k := by
  rcases hk with hk | hk | hk | hk | hk | hk
  · exact Nat.le_trans h.bm.2 hk
  · exact own_ge h.lib k hk
  · exact own_ge h.nms k hk
  · exact own_ge h.mks k hk
  · exact own_ge h.us k hk
  · exact (h.cv k hk).1
/-- what a line leaves -/
def RdPost (w : World) (M B : Nat) (r : Rv) (res : Except (Nat × Nat × Int) As) (e : Ending) (w' : World) : Prop :=
  (∃ (l c : Nat) (n : Int), res = .error (l, c, n) ∧ n ≠ 0 ∧ e = .returned (ftv (l : Int) (c : Int) n) ∧ FrO (OO r w.heap.size) B w w') ∨
  (∃ a' Qs nl Lo r', res = .ok a' ∧ e = .returned (ftv 0 0 0) ∧ DS w' M B a' Qs nl Lo r' ∧ r'.line = r.line ∧ FrO (OO r w.heap.size) B w w' ∧ ∀ g, r'.names.ownBlock = some g → r.names.ownBlock = some g ∨ w.heap.size ≤ g)
/-- a box of an instruction -/
def XB (W : World) (b : Nat) (op z : Int) : Prop := W.heap[b]? = some (.cells #[.int .i64 op, .int .i64 z] 76 (0, 0))
theorem XB.cells {W : World} {b : Nat} {op z : Int} (h : XB W b op z) : W.cell? ⟨b, 0, none⟩ = some (.int .i64 op) ∧ W.cell? ⟨b, 1, none⟩ = some (.int .i64 z) ∧ W.frozen? ⟨b, 1, none⟩ = false := by
  refine ⟨?_, ?_, frozen_of_row W b 1 _ _ h⟩
  · unfold World.cell?; rw [show W.heap[b]? = _ from h]; rfl
  · unfold World.cell?; rw [show W.heap[b]? = _ from h]; rfl
/-- behind the argument -/
def IMid (w1 : World) (xb : Nat) (a : As) (line lo : Nat) (x : Wd) (rest : List Wd) (op : Int) (nn : Nat) (wx : World) : Prop :=
  ∃ z js r1, argA a line op (rest, x.2 + x.1.length) = .ok (z, js, r1) ∧ In64 z ∧ moreE (x :: rest) nn = rEnd r1 ∧ ((jumpB op = false ∧ js = []) ∨ (jumpB op = true ∧ z = 0 ∧ ∃ y rest', rest = y :: rest' ∧ js = [⟨lo, y.1, line, y.2⟩])) ∧ XB wx xb op z ∧ Go.RowKit.Below w1.heap.size w1 wx
theorem moreE_one (x : Wd) (rest : List Wd) (b : Nat) : moreE (x :: rest) 1 = rEnd (rest, b) := by
  cases rest <;> rfl
theorem moreE_two (x y : Wd) (rest : List Wd) (b : Nat) : moreE (x :: y :: rest) 2 = rEnd (rest, b) := by
  cases rest <;> rfl
/-- behind the uses -/
def UMid (w wx : World) (M B f xb : Nat) (a : As) (Qs : List Pr) (nl : List (Nat × Nat)) (Lo : List K) (r : Rv) (js : List Jp) (op z : Int) : Prop :=
  (∃ v', DS wx M B { a with jumps := a.jumps ++ js } Qs nl Lo { r with uses := v' }) ∧ FrO (OO r w.heap.size) B w wx ∧ FB wx f (.int .i64 0) (.int .i64 0) (.int .i64 0) ∧ XB wx xb op z
end Go.Proofs.YtiiplikmoodfnaaGreatDoor
