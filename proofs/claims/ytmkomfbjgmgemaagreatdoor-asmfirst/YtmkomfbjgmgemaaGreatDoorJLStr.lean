import Derived.Test.YtmkomfbjgmgemaaGreatDoorJLList
import Derived.Test.YtmkomfbjgmgemaaGreatDoorJAMath
import Derived.Test.YtmkomfbjgmgemaaGreatDoorJRefDigG
/-
  NAMES: isLetter, isDigit, isName, the document's Name.
-/
namespace Go.Proofs.YtmkomfbjgmgemaaGreatDoor
open Go.RowKit Go.Sort

def letB (c : Int) : Bool := (decide (97 ≤ c) && decide (c ≤ 122)) || (decide (65 ≤ c) && decide (c ≤ 90))
def digB (c : Int) : Bool := decide (48 ≤ c) && decide (c ≤ 57)
/-- may a byte stand at a place of a name? -/
def chB (i : Nat) (c : Int) : Bool := letB c || (decide (i ≠ 0) && (digB c || decide (c = 95)))
def chs (s : ByteArray) (i : Nat) : Int := ((s.data.toList.getD i 0).toNat : Int)
def goodN (s : ByteArray) : Nat → Bool
  | 0 => true
  | k + 1 => goodN s k && chB k (chs s k)
def nameB (s : ByteArray) : Bool := decide (0 < s.size) && decide (s.size ≤ 31) && goodN s s.size
theorem chs_at (s : ByteArray) (k : Nat) (h : k < s.size) : (s[k].toNat : Int) = chs s k := by
  have hl : k < s.data.toList.length := by rw [Array.length_toList]; exact h
  unfold chs
  rw [List.getD_eq_getElem?_getD, List.getElem?_eq_getElem hl]; rfl
theorem goodN_false {s : ByteArray} {k n : Nat} (h : chB k (chs s k) = false) (hk : k < n) : goodN s n = false := by
  induction n with
  | zero => omega
  | succ n ih =>
    unfold goodN
    by_cases e : k = n
    · subst e; rw [h]; simp
    · rw [ih (by omega)]; rfl
theorem chs_byte (s : ByteArray) (k : Nat) : 0 ≤ chs s k ∧ chs s k ≤ 255 := by
  unfold chs; have := (s.data.toList.getD k 0).toNat_lt; omega
theorem bool_cases (a b : Bool) : a = true ∨ (a = false ∧ b = true) ∨ (a = false ∧ b = false) := by cases a <;> cases b <;> simp

theorem isLetter_any (w : World) (c : Int) : Calls Tryz.prog 59 #[.int .u8 c] w fun e w' => e = .returned (.bool (letB c)) ∧ w' = w := by
  by_cases h1 : 97 ≤ c
  · by_cases h2 : c ≤ 122
    · have HE : Hid (letB c = true) := by unfold letB; simp [Hid, h1, h2]
      go_enter Tryz.func59, Tryz.ntmps59
      go_wp2
      go_ret
      exact ⟨by rw [HE.out]; rfl, rfl⟩
    · have h3 : 65 ≤ c := by omega
      have h4 : ¬ c ≤ 90 := by omega
      have HE : Hid (letB c = false) := by unfold letB; simp [Hid, h2, h4]
      go_enter Tryz.func59, Tryz.ntmps59
      go_wp2
      go_ret
      exact ⟨by rw [HE.out]; rfl, rfl⟩
  · by_cases h3 : 65 ≤ c
    · by_cases h4 : c ≤ 90
      · have HE : Hid (letB c = true) := by unfold letB; simp [Hid, h3, h4]
        go_enter Tryz.func59, Tryz.ntmps59
        go_wp2
        go_ret
        exact ⟨by rw [HE.out]; rfl, rfl⟩
      · have HE : Hid (letB c = false) := by unfold letB; simp [Hid, h1, h4]
        go_enter Tryz.func59, Tryz.ntmps59
        go_wp2
        go_ret
        exact ⟨by rw [HE.out]; rfl, rfl⟩
    · have HE : Hid (letB c = false) := by unfold letB; simp [Hid, h1, h3]
      go_enter Tryz.func59, Tryz.ntmps59
      go_wp2
      go_ret
      exact ⟨by rw [HE.out]; rfl, rfl⟩
theorem isDigit_any (w : World) (c : Int) : Calls Tryz.prog 60 #[.int .u8 c] w fun e w' => e = .returned (.bool (digB c)) ∧ w' = w := by
  by_cases h1 : 48 ≤ c
  · by_cases h2 : c ≤ 57
    · have HE : Hid (digB c = true) := by unfold digB; simp [Hid, h1, h2]
      go_enter Tryz.func60, Tryz.ntmps60
      go_wp2
      go_ret
      exact ⟨by rw [HE.out]; rfl, rfl⟩
    · have HE : Hid (digB c = false) := by unfold digB; simp [Hid, h2]
      go_enter Tryz.func60, Tryz.ntmps60
      go_wp2
      go_ret
      exact ⟨by rw [HE.out]; rfl, rfl⟩
  · have HE : Hid (digB c = false) := by unfold digB; simp [Hid, h1]
    go_enter Tryz.func60, Tryz.ntmps60
    go_wp2
    go_ret
    exact ⟨by rw [HE.out]; rfl, rfl⟩
set_option maxHeartbeats 1000000 in
theorem isName_any (w : World) (s : ByteArray) (hs : s.size ≤ 281474976710656) : Calls Tryz.prog 31 #[.string s] w fun e w' => e = .returned (.bool (nameB s)) ∧ w' = w := by
  go_enter Tryz.func31, Tryz.ntmps31
  go_wp2
  go_loop [6] (fun x => ∃ k : Nat, k ≤ s.size ∧ x = .int .i64 (k : Int) ∧ Hid (goodN s k = true)) (fun x => s.size - (intOf x).toNat)
  case atStart => exact ⟨0, Nat.zero_le _, rfl, rfl⟩
  case round =>
    obtain ⟨k, hk, rfl, HA⟩ := hrel
    by_cases hlt : k < s.size
    · have HC := chs_at s k hlt
      have HF : Hid (chB k (chs s k) = false → nameB s = false) := fun h => by unfold nameB; rw [goodN_false h hlt]; simp
      have HT : Hid (chB k (chs s k) = true → goodN s (k + 1) = true) := fun h => by unfold goodN; rw [HA.out, h]; rfl
      generalize chs s k = c at *
      cases hl : letB c with
      | true =>
        have HG : Hid (goodN s (k + 1) = true) := HT.out (by unfold chB; rw [hl]; rfl)
        go_wp2_with (first
          | (go_at_call 59; refine (isLetter_any _ c).mono ?_; rintro e w1 ⟨rfl, rfl⟩)
          | (go_at_call 60; refine (isDigit_any _ c).mono ?_; rintro e w1 ⟨rfl, rfl⟩))
        go_round
        case rel => exact ⟨k + 1, by omega, by go_num, HG⟩
        case measure => simp [intOf]; omega
      | false =>
        by_cases h0 : k = 0
        · have HG : Hid (nameB s = false) := HF.out (by unfold chB; rw [hl, h0]; rfl)
          have h0' : ((k : Int) == 0) = true := by rw [h0]; rfl
          clear h0
          go_wp2_with (first
              | (go_at_call 59; refine (isLetter_any _ c).mono ?_; rintro e w1 ⟨rfl, rfl⟩)
              | (go_at_call 60; refine (isDigit_any _ c).mono ?_; rintro e w1 ⟨rfl, rfl⟩))
          go_ret
          exact ⟨by rw [HG.out]; rfl, rfl⟩
        · have h0' : ((k : Int) == 0) = false := by simp; omega
          cases hd : digB c with
          | true =>
            have HG : Hid (goodN s (k + 1) = true) := HT.out (by unfold chB; rw [hl, hd]; simp [h0])
            clear h0
            go_wp2_with (first
              | (go_at_call 59; refine (isLetter_any _ c).mono ?_; rintro e w1 ⟨rfl, rfl⟩)
              | (go_at_call 60; refine (isDigit_any _ c).mono ?_; rintro e w1 ⟨rfl, rfl⟩))
            go_round
            case rel => exact ⟨k + 1, by omega, by go_num, HG⟩
            case measure => simp [intOf]; omega
          | false =>
            by_cases h95 : c = 95
            · have HG : Hid (goodN s (k + 1) = true) := HT.out (by unfold chB; rw [hl, hd]; simp [h0, h95])
              have h95' : (c != 95) = false := by simp [h95]
              clear h0 h95
              go_wp2_with (first
              | (go_at_call 59; refine (isLetter_any _ c).mono ?_; rintro e w1 ⟨rfl, rfl⟩)
              | (go_at_call 60; refine (isDigit_any _ c).mono ?_; rintro e w1 ⟨rfl, rfl⟩))
              go_round
              case rel => exact ⟨k + 1, by omega, by go_num, HG⟩
              case measure => simp [intOf]; omega
            · have HG : Hid (nameB s = false) := HF.out (by unfold chB; rw [hl, hd]; simp [h95])
              have h95' : (c != 95) = true := by simpa using h95
              clear h0 h95
              go_wp2_with (first
              | (go_at_call 59; refine (isLetter_any _ c).mono ?_; rintro e w1 ⟨rfl, rfl⟩)
              | (go_at_call 60; refine (isDigit_any _ c).mono ?_; rintro e w1 ⟨rfl, rfl⟩))
              go_ret
              exact ⟨by rw [HG.out]; rfl, rfl⟩
    · obtain rfl : k = s.size := by omega
      have hN : nameB s = (decide (0 < s.size) && decide (s.size ≤ 31)) := by unfold nameB; rw [HA.out, Bool.and_true]
      by_cases h1 : 0 < s.size
      · have h1' : (0 : Int) < (s.size : Int) := by omega
        by_cases h2 : s.size ≤ 31
        · have h2' : (s.size : Int) ≤ 31 := by omega
          have HG : Hid (nameB s = true) := by show nameB s = true; rw [hN, decide_eq_true h1, decide_eq_true h2]; rfl
          clear hN
          go_wp2
          go_ret
          exact ⟨by rw [HG.out]; rfl, rfl⟩
        · have h2' : ¬ (s.size : Int) ≤ 31 := by omega
          have h2'' : decide ((s.size : Int) ≤ 31) = false := by simpa using h2'
          have HG : Hid (nameB s = false) := by show nameB s = false; rw [hN, decide_eq_false h2, Bool.and_false]
          clear hN
          go_wp2
          go_ret
          exact ⟨by rw [HG.out]; rfl, rfl⟩
      · have h1' : ¬ (0 : Int) < (s.size : Int) := by omega
        have h1'' : decide ((0 : Int) < (s.size : Int)) = false := by simpa using h1'
        have HG : Hid (nameB s = false) := by show nameB s = false; rw [hN, decide_eq_false h1, Bool.false_and]
        clear hN
        go_wp2
        go_ret
        exact ⟨by rw [HG.out]; rfl, rfl⟩
end Go.Proofs.YtmkomfbjgmgemaaGreatDoor
/-
  WHAT A TEXT IS ASSEMBLED TO: pure.
-/
namespace Go.Proofs.YtmkomfbjgmgemaaGreatDoor
open Go.RowKit Go.Sort

/-- a procedure -/
structure PP where
  name : List UInt8
  p : Nums
  L : List K
/-- a jump that has no place yet: which instruction, its label, where that stands -/
structure Jp where
  frm : Nat
  label : List UInt8
  line : Nat
  col : Nat
/-- what was read so far -/
structure As where
  lib : List PP
  names : List (Nat × Nat)
  opn : Bool
  begun : Nat × Nat
  labels : List (List UInt8 × Nat)
  jumps : List Jp
/-- a line's reader: the words that are left, the column behind the last one -/
abbrev Rd := List Wd × Nat
/-- an error of a line: its column and its number -/
abbrev Er := Nat × Int
def rNext : Rd → Except Er (Wd × Rd)
  | ([], b) => .error (b, 40)
  | (x :: ws, _) => .ok (x, (ws, x.2 + x.1.length))
def rMust (t : List UInt8) (r : Rd) : Except Er Rd :=
  match rNext r with
  | .error e => .error e
  | .ok (x, r') => if x.1 = t then .ok r' else .error (x.2, 40)
def rNum (r : Rd) : Except Er (Int × Rd) :=
  match rNext r with
  | .error e => .error e
  | .ok (x, r') => if (Dec.num1 x.1).2 = true then .ok ((Dec.num1 x.1).1, r') else .error (x.2, 41)
def rEnd (r : Rd) : Option Er :=
  match r.1 with
  | [] => none
  | x :: _ => some (x.2, 40)
def kwN : Nat → List UInt8
  | 0 => [97, 114, 103, 115]
  | 1 => [114, 101, 97, 100, 115]
  | 2 => [119, 114, 105, 116, 101, 115]
  | _ => [108, 111, 99, 97, 108, 115]
def procL : List UInt8 := [112, 114, 111, 99]
def endL : List UInt8 := [101, 110, 100]
/-- the four numbers: the first k of them -/
def rFour (r : Rd) : Nat → Except Er (List Int × Rd)
  | 0 => .ok ([], r)
  | k + 1 =>
    match rFour r k with
    | .error e => .error e
    | .ok (ns, r1) =>
      match rMust (kwN k) r1 with
      | .error e => .error e
      | .ok r2 =>
        match rNum r2 with
        | .error e => .error e
        | .ok (n, r3) => .ok (ns ++ [n], r3)
/-- a procedure's first line -/
def firstA (a : As) (line : Nat) (ws : List Wd) : Except Er As :=
  match rMust procL (ws, 0) with
  | .error e => .error e
  | .ok r1 =>
    match rNext r1 with
    | .error e => .error e
    | .ok (nm, r2) =>
      match rFour r2 4 with
      | .error e => .error e
      | .ok (ns, r3) =>
        match rEnd r3 with
        | some e => .error e
        | none => .ok { a with lib := a.lib ++ [⟨nm.1, ⟨ns.getD 0 0, ns.getD 1 0, ns.getD 2 0, ns.getD 3 0⟩, []⟩], names := a.names ++ [(line, nm.2)], opn := true, begun := (line, (ws.headD ([], 0)).2), labels := [], jumps := [] }
/-- where a label stands -/
def labN (ls : List (List UInt8 × Nat)) (nm : List UInt8) : Option Nat := (ls.find? (fun x => x.1 == nm)).map (·.2)
def lastP (a : As) : PP := a.lib.getLastD ⟨[], ⟨0, 0, 0, 0⟩, []⟩
def setL (a : As) (L : List K) : As := { a with lib := a.lib.dropLast ++ [{ lastP a with L := L }] }
/-- a procedure's end: its jumps get their places; or the first that has none -/
def fixN (ls : List (List UInt8 × Nat)) : List Jp → List K → Except (Nat × Nat × Int) (List K)
  | [], L => .ok L
  | j :: js, L =>
    match labN ls j.label with
    | none => .error (j.line, j.col, 42)
    | some t => fixN ls js (L.set j.frm ((kd L j.frm).1, (t : Int)))
/-- an instruction's argument -/
def argA (a : As) (line : Nat) (op : Int) (r : Rd) : Except Er (Int × List Jp × Rd) :=
  if jumpB op then
    match rNext r with
    | .error e => .error e
    | .ok (x, r1) =>
      if nameB (S x.1) = false then .error (x.2, 40)
      else if (labN a.labels x.1).isSome then .error (x.2, 33)
      else .ok (0, [⟨(lastP a).L.length, x.1, line, x.2⟩], r1)
  else if wantsB op then
    match rNum r with
    | .error e => .error e
    | .ok (n, r1) => .ok (n, [], r1)
  else .ok (0, [], r)
/-- a line inside a procedure -/
def insideA (a : As) (line : Nat) (ws : List Wd) : Except (Nat × Nat × Int) As :=
  match ws with
  | [] => .ok a
  | x :: rest =>
    let r : Rd := (rest, x.2 + x.1.length)
    if x.1 = endL then
      match rEnd r with
      | some e => .error (line, e)
      | none =>
        match fixN a.labels a.jumps (lastP a).L with
        | .error e => .error e
        | .ok L => .ok { setL a L with opn := false }
    else if x.1.getLast? = some 58 then
      if nameB (S x.1.dropLast) = false then .error (line, x.2, 40)
      else if (labN a.labels x.1.dropLast).isSome then .error (line, x.2, 43)
      else match rEnd r with
        | some e => .error (line, e)
        | none => .ok { a with labels := a.labels ++ [(x.1.dropLast, (lastP a).L.length)] }
    else if (opR (S x.1)).2 = false then .error (line, x.2, 40)
    else
      match argA a line ((opR (S x.1)).1 : Int) r with
      | .error e => .error (line, e)
      | .ok (n, js, r1) =>
        match rEnd r1 with
        | some e => .error (line, e)
        | none => .ok (setL { a with jumps := a.jumps ++ js } ((lastP a).L ++ [(((opR (S x.1)).1 : Int), n)]))
/-- one line -/
def lineA (a : As) (line : Nat) (ws : List Wd) : Except (Nat × Nat × Int) As :=
  if ws = [] then .ok a
  else if a.opn then insideA a line ws
  else match firstA a line ws with
    | .error e => .error (line, e)
    | .ok a' => .ok a'
def start0 : As := ⟨[], [], false, (0, 0), [], []⟩
/-- the first k lines -/
def linesA (ls : List (List Wd)) : Nat → Except (Nat × Nat × Int) As
  | 0 => .ok start0
  | k + 1 =>
    match linesA ls k with
    | .error e => .error e
    | .ok a => lineA a (k + 1) (ls.getD k [])
end Go.Proofs.YtmkomfbjgmgemaaGreatDoor
