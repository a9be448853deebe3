/-
  THE MACHINE, AS A STATE AND ITS STEPS.
-/
import Derived.Test.YtbpgafchagpmoaaLWMath
namespace Go.Proofs.Ytbpgafchagpmoaa
open Go.RowKit Go.Sort

/-- a cell: does something stand there? the value -/
abbrev C := Bool × Int
/-- A MACHINE: place, stack (the topmost first), locals, outputs, writes, ended, fault, number of an abort, steps -/
structure M where
  at_ : Nat
  st : List Int
  lo : List Int
  ou : List Int
  pu : List K
  ended : Bool
  fault : Int
  user : Int
  steps : Nat

def trN (b : Bool) : Int := if b then 1 else 0
def negN (x : Int) : Int := wrap64 (-x)
/-- two values joined: the value, the fault -/
def pairN (op x y : Int) : Int × Int :=
  if op = 10 then (wrap64 (x + y), 0) else
  if op = 11 then (wrap64 (x - y), 0) else
  if op = 12 then (wrap64 (x * y), 0) else
  if op = 13 then (if y = 0 then (0, 201) else (wrap64 (x.tdiv y), 0)) else
  if op = 14 then (if y = 0 then (0, 201) else (x.tmod y, 0)) else
  if op = 15 then (bits .and .i64 x y, 0) else
  if op = 16 then (bits .or .i64 x y, 0) else
  if op = 17 then (bits .xor .i64 x y, 0) else
  if op = 18 then (if y < 0 then (0, 202) else (wrap64 (x * 2 ^ min (IntKind.u64.wrap y).toNat 64), 0)) else
  if op = 19 then (if y < 0 then (0, 202) else (x / 2 ^ min (IntKind.u64.wrap y).toNat 64, 0)) else
  if op = 22 then (trN (x == y), 0) else
  if op = 23 then (trN (x != y), 0) else
  if op = 24 then (trN (decide (x < y)), 0) else
  if op = 25 then (trN (decide (x ≤ y)), 0) else
  if op = 26 then (trN (decide (y < x)), 0) else
  if op = 27 then (trN (decide (y ≤ x)), 0) else
  if op = 28 then (min x y, 0) else
  (max x y, 0)
def M.push (m : M) (x : Int) : M := { m with st := x :: m.st }
def M.pop (m : M) : M := { m with st := m.st.tail }
def M.top (m : M) : Int := m.st.headD 0
def rdV (c : C) : Int := if c.1 then c.2 else 0
def rd (R : List C) (i : Nat) : C := R.getD i (false, 0)
def getN (R : List C) (i : Int) (m : M) : M × Int := if 0 ≤ i ∧ i < (R.length : Int) then (m.push (rdV (rd R i.toNat)), 0) else (m, 203)
def putN (i : Int) (k : K) (m : M) : M × Int := if 0 ≤ i ∧ i < (m.pu.length : Int) then ({ m with pu := m.pu.set i.toNat k }, 0) else (m, 203)
def tellN (x : Int) (m : M) : M × Int := if m.ou.length = 16 then (m, 204) else ({ m with ou := m.ou ++ [x] }, 0)
def pairM (op : Int) (m : M) : M × Int :=
  if (pairN op m.pop.top m.top).2 = 0 then (m.pop.pop.push (pairN op m.pop.top m.top).1, 0) else (m.pop.pop, (pairN op m.pop.top m.top).2)
/-- an instruction that goes on or fails -/
def doN (A : List Int) (R : List C) (op a : Int) (m : M) : M × Int :=
  if op = 1 then (m.push a, 0) else
  if op = 2 then (m.pop, 0) else
  if op = 3 then ((m.pop.push m.top).push m.top, 0) else
  if op = 4 then (m.push (m.lo.getD a.toNat 0), 0) else
  if op = 5 then ({ m.pop with lo := m.lo.set a.toNat m.top }, 0) else
  if op = 6 then (m.push (A.getD a.toNat 0), 0) else
  if op = 7 then getN R a m else
  if op = 8 then (m.push (trN (rd R a.toNat).1), 0) else
  if op = 9 then getN R m.top m.pop else
  if op = 20 then (m.pop.push (negN m.top), 0) else
  if op = 21 then (m.pop.push (trN (m.top == 0)), 0) else
  if op = 32 then putN a (1, m.top) m.pop else
  if op = 33 then putN a (2, 0) m else
  if op = 34 then putN m.pop.top (1, m.top) m.pop.pop else
  if op = 35 then tellN m.top m.pop else
  if op = 36 then ({ m.pop with user := m.top }, 200) else
  pairM op m
def failN (f : Int) (m : M) : M := { m with ended := true, fault := f, st := [], ou := [], lo := List.replicate m.lo.length 0, pu := List.replicate m.pu.length (0, 0) }
def doneB (n : Nat) (m : M) : Bool := m.ended || decide (m.at_ = n)
def tick (m : M) : M := { m with steps := m.steps + 1 }
def stepN (L : List K) (A : List Int) (R : List C) (m : M) : M :=
  if doneB L.length m = true then m else
  if (cd L m.at_).1 = 0 then { tick m with ended := true } else
  if (cd L m.at_).1 = 30 then { tick m with at_ := (cd L m.at_).2.toNat } else
  if (cd L m.at_).1 = 31 then { (tick m).pop with at_ := if m.top = 0 then (cd L m.at_).2.toNat else m.at_ + 1 } else
  if (doN A R (cd L m.at_).1 (cd L m.at_).2 (tick m)).2 = 0 then { (doN A R (cd L m.at_).1 (cd L m.at_).2 (tick m)).1 with at_ := m.at_ + 1 }
  else failN (doN A R (cd L m.at_).1 (cd L m.at_).2 (tick m)).2 (doN A R (cd L m.at_).1 (cd L m.at_).2 (tick m)).1
def startM (p : Nums) : M := ⟨0, [], List.replicate p.locals.toNat 0, [], List.replicate p.writes.toNat (0, 0), false, 0, 0, 0⟩
/-- the state behind k steps -/
def runN (L : List K) (A : List Int) (R : List C) (m : M) : Nat → M
  | 0 => m
  | k + 1 => stepN L A R (runN L A R m k)

/-- A MACHINE OF A SOUND PROGRAM, ON ITS WAY -/
structure Good (p : Nums) (L : List K) (d : List Int) (m : M) : Prop where
  pl : m.at_ ≤ L.length
  live : m.ended = false → (m.st.length : Int) = d.getD m.at_ 0 ∧ m.fault = 0 ∧ m.user = 0 ∧ (m.steps : Int) + (mostN L L.length).getD m.at_ 0 ≤ (mostN L L.length).getD 0 0
  dead : m.ended = true → (m.steps : Int) ≤ (mostN L L.length).getD 0 0 ∧ ((m.fault = 0 ∧ m.user = 0) ∨ (200 ≤ m.fault ∧ m.fault ≤ 204 ∧ m.st = [] ∧ m.ou = [] ∧ m.pu = List.replicate p.writes.toNat (0, 0) ∧ (m.user = 0 ∨ m.fault = 200)))
  lo : m.lo.length = p.locals.toNat
  pu : m.pu.length = p.writes.toNat
  ou : m.ou.length ≤ 16
  st : m.st.length ≤ 32
/-- what a sound program's places keep -/
structure Sound (p : Nums) (L : List K) (d : List Int) : Prop where
  ver : verifyN p L = 0
  sane : Sane L
  d0 : d.getD 0 0 = 0
  way : ∀ i, i < L.length → d.getD i 0 ≠ -1 → 0 ≤ d.getD i 0 - takesN (cd L i).1 ∧ d.getD i 0 - takesN (cd L i).1 + leavesN (cd L i).1 ≤ 32 ∧ ∀ t ∈ nextN i (cd L i).1 (cd L i).2, d.getD t 0 = d.getD i 0 - takesN (cd L i).1 + leavesN (cd L i).1
  lim : limB p L.length = true
  look : ∀ i, i < L.length → lookN p L.length i (cd L i) = 0
theorem sound_of {p : Nums} {L : List K} (h : verifyN p L = 0) : ∃ d, Sound p L d := by
  have h0 := h
  unfold verifyN depthsN at h
  cases hl : limB p L.length with
  | false => rw [hl] at h; simp at h
  | true =>
    rw [hl] at h
    simp only [Bool.true_eq_false, if_false] at h
    by_cases hk : lookAll p L L.length ≠ 0
    · rw [if_pos hk] at h; exact absurd h hk
    · rw [if_neg hk] at h
      have hk0 : lookAll p L L.length = 0 := by simpa using hk
      cases hr : runD L L.length with
      | none => rw [hr] at h; simp at h
      | some d =>
        obtain ⟨w1, w2⟩ := depth_way (sane_of hk0) hr
        exact ⟨d, h0, sane_of hk0, w1, w2, hl, fun i hi => firstE_zero hk0 i hi⟩
theorem good_start {p : Nums} {L : List K} {d : List Int} (h : Sound p L d) : Good p L d (startM p) where
  pl := Nat.zero_le _
  live := fun _ => ⟨by show ((0 : Nat) : Int) = d.getD 0 0; rw [h.d0]; rfl, rfl, rfl, by show ((0 : Nat) : Int) + (mostN L L.length).getD 0 0 ≤ _; omega⟩
  dead := fun e => (by cases e)
  lo := by simp [startM]
  pu := by simp [startM]
  ou := by simp [startM]
  st := by simp [startM]
/-- what fits at a place -/
theorem Sound.fits {p : Nums} {L : List K} {d : List Int} (h : Sound p L d) {i : Nat} (hi : i < L.length) : isOpB (cd L i).1 = true ∧ (jumpB (cd L i).1 = true → (i : Int) < (cd L i).2 ∧ (cd L i).2 ≤ (L.length : Int)) ∧ fitsB p (cd L i).1 (cd L i).2 = true := by
  have hl := h.look i hi
  unfold lookN at hl
  by_cases h1 : isOpB (cd L i).1 = false
  · rw [if_pos h1] at hl; simp at hl
  · rw [if_neg h1] at hl
    by_cases h2 : jumpB (cd L i).1 = true ∧ ((cd L i).2 ≤ (i : Int) ∨ (L.length : Int) < (cd L i).2)
    · rw [if_pos h2] at hl; simp at hl
    · rw [if_neg h2] at hl
      by_cases h3 : fitsB p (cd L i).1 (cd L i).2 = false
      · rw [if_pos h3] at hl; simp at hl
      · exact ⟨by simpa using h1, fun hj => by
          by_cases hc : (cd L i).2 ≤ (i : Int) ∨ (L.length : Int) < (cd L i).2
          · exact absurd ⟨hj, hc⟩ h2
          · omega, by simpa using h3⟩
end Go.Proofs.Ytbpgafchagpmoaa
