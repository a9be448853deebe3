/-
  SOURCE: isWord, wordToken. By gen_srword.py.
-/
import Derived.Test.YtlabofafmcbfmaaGreatDoorSrSkip
import Derived.Lib.ItoaMem
namespace Go.Proofs.YtlabofafmcbfmaaGreatDoor
open Go.RowKit Go.Sort Go.Shelf

def ownL : List (List UInt8) := [[99, 111, 110, 115, 116], [112, 114, 111, 99], [114, 101, 97, 100, 115], [119, 114, 105, 116, 101, 115], [108, 101, 116], [112, 117, 116], [100, 101, 108], [111, 117, 116], [97, 98, 111, 114, 116], [115, 116, 111, 112], [105, 102], [101, 108, 115, 101], [114, 101, 112, 101, 97, 116], [103, 101, 116], [104, 97, 115], [109, 105, 110], [109, 97, 120]]
def isOwn (t : List UInt8) : Bool := ownL.contains t
theorem S_toList (l : List UInt8) : (S l).toList = l := by rw [ByteArray.toList_eq]; simp [S]
set_option maxRecDepth 100000 in
set_option maxHeartbeats 4000000 in
theorem isWord_any (w : World) (t : List UInt8) : Calls Tryz.prog 48 #[.string (S t)] w fun e w' => e = .returned (.bool (isOwn t)) ∧ w' = w := by
  have HR : Hid (isOwn t = ((t == [99, 111, 110, 115, 116]) || (t == [112, 114, 111, 99]) || (t == [114, 101, 97, 100, 115]) || (t == [119, 114, 105, 116, 101, 115]) || (t == [108, 101, 116]) || (t == [112, 117, 116]) || (t == [100, 101, 108]) || (t == [111, 117, 116]) || (t == [97, 98, 111, 114, 116]) || (t == [115, 116, 111, 112]) || (t == [105, 102]) || (t == [101, 108, 115, 101]) || (t == [114, 101, 112, 101, 97, 116]) || (t == [103, 101, 116]) || (t == [104, 97, 115]) || (t == [109, 105, 110]) || (t == [109, 97, 120]))) := by
    show _ = _
    simp only [isOwn, ownL, List.contains_cons, List.contains_nil, Bool.or_false, Bool.or_assoc]
  have q0 : ((S t).toList == [99, 111, 110, 115, 116]) = (t == [99, 111, 110, 115, 116]) := by rw [S_toList]
  obtain ⟨b0, hb0⟩ : ∃ b, b = (t == [99, 111, 110, 115, 116]) := ⟨_, rfl⟩
  rw [← hb0] at q0 HR
  clear hb0
  have q1 : ((S t).toList == [112, 114, 111, 99]) = (t == [112, 114, 111, 99]) := by rw [S_toList]
  obtain ⟨b1, hb1⟩ : ∃ b, b = (t == [112, 114, 111, 99]) := ⟨_, rfl⟩
  rw [← hb1] at q1 HR
  clear hb1
  have q2 : ((S t).toList == [114, 101, 97, 100, 115]) = (t == [114, 101, 97, 100, 115]) := by rw [S_toList]
  obtain ⟨b2, hb2⟩ : ∃ b, b = (t == [114, 101, 97, 100, 115]) := ⟨_, rfl⟩
  rw [← hb2] at q2 HR
  clear hb2
  have q3 : ((S t).toList == [119, 114, 105, 116, 101, 115]) = (t == [119, 114, 105, 116, 101, 115]) := by rw [S_toList]
  obtain ⟨b3, hb3⟩ : ∃ b, b = (t == [119, 114, 105, 116, 101, 115]) := ⟨_, rfl⟩
  rw [← hb3] at q3 HR
  clear hb3
  have q4 : ((S t).toList == [108, 101, 116]) = (t == [108, 101, 116]) := by rw [S_toList]
  obtain ⟨b4, hb4⟩ : ∃ b, b = (t == [108, 101, 116]) := ⟨_, rfl⟩
  rw [← hb4] at q4 HR
  clear hb4
  have q5 : ((S t).toList == [112, 117, 116]) = (t == [112, 117, 116]) := by rw [S_toList]
  obtain ⟨b5, hb5⟩ : ∃ b, b = (t == [112, 117, 116]) := ⟨_, rfl⟩
  rw [← hb5] at q5 HR
  clear hb5
  have q6 : ((S t).toList == [100, 101, 108]) = (t == [100, 101, 108]) := by rw [S_toList]
  obtain ⟨b6, hb6⟩ : ∃ b, b = (t == [100, 101, 108]) := ⟨_, rfl⟩
  rw [← hb6] at q6 HR
  clear hb6
  have q7 : ((S t).toList == [111, 117, 116]) = (t == [111, 117, 116]) := by rw [S_toList]
  obtain ⟨b7, hb7⟩ : ∃ b, b = (t == [111, 117, 116]) := ⟨_, rfl⟩
  rw [← hb7] at q7 HR
  clear hb7
  have q8 : ((S t).toList == [97, 98, 111, 114, 116]) = (t == [97, 98, 111, 114, 116]) := by rw [S_toList]
  obtain ⟨b8, hb8⟩ : ∃ b, b = (t == [97, 98, 111, 114, 116]) := ⟨_, rfl⟩
  rw [← hb8] at q8 HR
  clear hb8
  have q9 : ((S t).toList == [115, 116, 111, 112]) = (t == [115, 116, 111, 112]) := by rw [S_toList]
  obtain ⟨b9, hb9⟩ : ∃ b, b = (t == [115, 116, 111, 112]) := ⟨_, rfl⟩
  rw [← hb9] at q9 HR
  clear hb9
  have q10 : ((S t).toList == [105, 102]) = (t == [105, 102]) := by rw [S_toList]
  obtain ⟨b10, hb10⟩ : ∃ b, b = (t == [105, 102]) := ⟨_, rfl⟩
  rw [← hb10] at q10 HR
  clear hb10
  have q11 : ((S t).toList == [101, 108, 115, 101]) = (t == [101, 108, 115, 101]) := by rw [S_toList]
  obtain ⟨b11, hb11⟩ : ∃ b, b = (t == [101, 108, 115, 101]) := ⟨_, rfl⟩
  rw [← hb11] at q11 HR
  clear hb11
  have q12 : ((S t).toList == [114, 101, 112, 101, 97, 116]) = (t == [114, 101, 112, 101, 97, 116]) := by rw [S_toList]
  obtain ⟨b12, hb12⟩ : ∃ b, b = (t == [114, 101, 112, 101, 97, 116]) := ⟨_, rfl⟩
  rw [← hb12] at q12 HR
  clear hb12
  have q13 : ((S t).toList == [103, 101, 116]) = (t == [103, 101, 116]) := by rw [S_toList]
  obtain ⟨b13, hb13⟩ : ∃ b, b = (t == [103, 101, 116]) := ⟨_, rfl⟩
  rw [← hb13] at q13 HR
  clear hb13
  have q14 : ((S t).toList == [104, 97, 115]) = (t == [104, 97, 115]) := by rw [S_toList]
  obtain ⟨b14, hb14⟩ : ∃ b, b = (t == [104, 97, 115]) := ⟨_, rfl⟩
  rw [← hb14] at q14 HR
  clear hb14
  have q15 : ((S t).toList == [109, 105, 110]) = (t == [109, 105, 110]) := by rw [S_toList]
  obtain ⟨b15, hb15⟩ : ∃ b, b = (t == [109, 105, 110]) := ⟨_, rfl⟩
  rw [← hb15] at q15 HR
  clear hb15
  have q16 : ((S t).toList == [109, 97, 120]) = (t == [109, 97, 120]) := by rw [S_toList]
  obtain ⟨b16, hb16⟩ : ∃ b, b = (t == [109, 97, 120]) := ⟨_, rfl⟩
  rw [← hb16] at q16 HR
  clear hb16
  generalize S t = s at *
  generalize isOwn t = z at *
  cases b0 with
  | true =>
    have e : z = true := by have h := HR.out; simpa using h
    subst e
    clear HR
    go_enter Tryz.func48, Tryz.ntmps48
    go_wp2
    go_ret
    exact ⟨rfl, rfl⟩
  | false =>
  cases b1 with
  | true =>
    have e : z = true := by have h := HR.out; simpa using h
    subst e
    clear HR
    go_enter Tryz.func48, Tryz.ntmps48
    go_wp2
    go_ret
    exact ⟨rfl, rfl⟩
  | false =>
  cases b2 with
  | true =>
    have e : z = true := by have h := HR.out; simpa using h
    subst e
    clear HR
    go_enter Tryz.func48, Tryz.ntmps48
    go_wp2
    go_ret
    exact ⟨rfl, rfl⟩
  | false =>
  cases b3 with
  | true =>
    have e : z = true := by have h := HR.out; simpa using h
    subst e
    clear HR
    go_enter Tryz.func48, Tryz.ntmps48
    go_wp2
    go_ret
    exact ⟨rfl, rfl⟩
  | false =>
  cases b4 with
  | true =>
    have e : z = true := by have h := HR.out; simpa using h
    subst e
    clear HR
    go_enter Tryz.func48, Tryz.ntmps48
    go_wp2
    go_ret
    exact ⟨rfl, rfl⟩
  | false =>
  cases b5 with
  | true =>
    have e : z = true := by have h := HR.out; simpa using h
    subst e
    clear HR
    go_enter Tryz.func48, Tryz.ntmps48
    go_wp2
    go_ret
    exact ⟨rfl, rfl⟩
  | false =>
  cases b6 with
  | true =>
    have e : z = true := by have h := HR.out; simpa using h
    subst e
    clear HR
    go_enter Tryz.func48, Tryz.ntmps48
    go_wp2
    go_ret
    exact ⟨rfl, rfl⟩
  | false =>
  cases b7 with
  | true =>
    have e : z = true := by have h := HR.out; simpa using h
    subst e
    clear HR
    go_enter Tryz.func48, Tryz.ntmps48
    go_wp2
    go_ret
    exact ⟨rfl, rfl⟩
  | false =>
  cases b8 with
  | true =>
    have e : z = true := by have h := HR.out; simpa using h
    subst e
    clear HR
    go_enter Tryz.func48, Tryz.ntmps48
    go_wp2
    go_ret
    exact ⟨rfl, rfl⟩
  | false =>
  cases b9 with
  | true =>
    have e : z = true := by have h := HR.out; simpa using h
    subst e
    clear HR
    go_enter Tryz.func48, Tryz.ntmps48
    go_wp2
    go_ret
    exact ⟨rfl, rfl⟩
  | false =>
  cases b10 with
  | true =>
    have e : z = true := by have h := HR.out; simpa using h
    subst e
    clear HR
    go_enter Tryz.func48, Tryz.ntmps48
    go_wp2
    go_ret
    exact ⟨rfl, rfl⟩
  | false =>
  cases b11 with
  | true =>
    have e : z = true := by have h := HR.out; simpa using h
    subst e
    clear HR
    go_enter Tryz.func48, Tryz.ntmps48
    go_wp2
    go_ret
    exact ⟨rfl, rfl⟩
  | false =>
  cases b12 with
  | true =>
    have e : z = true := by have h := HR.out; simpa using h
    subst e
    clear HR
    go_enter Tryz.func48, Tryz.ntmps48
    go_wp2
    go_ret
    exact ⟨rfl, rfl⟩
  | false =>
  cases b13 with
  | true =>
    have e : z = true := by have h := HR.out; simpa using h
    subst e
    clear HR
    go_enter Tryz.func48, Tryz.ntmps48
    go_wp2
    go_ret
    exact ⟨rfl, rfl⟩
  | false =>
  cases b14 with
  | true =>
    have e : z = true := by have h := HR.out; simpa using h
    subst e
    clear HR
    go_enter Tryz.func48, Tryz.ntmps48
    go_wp2
    go_ret
    exact ⟨rfl, rfl⟩
  | false =>
  cases b15 with
  | true =>
    have e : z = true := by have h := HR.out; simpa using h
    subst e
    clear HR
    go_enter Tryz.func48, Tryz.ntmps48
    go_wp2
    go_ret
    exact ⟨rfl, rfl⟩
  | false =>
  cases b16 with
  | true =>
    have e : z = true := by have h := HR.out; simpa using h
    subst e
    clear HR
    go_enter Tryz.func48, Tryz.ntmps48
    go_wp2
    go_ret
    exact ⟨rfl, rfl⟩
  | false =>
  have e : z = false := by have h := HR.out; simpa using h
  subst e
  clear HR
  go_enter Tryz.func48, Tryz.ntmps48
  go_wp2
  go_ret
  exact ⟨rfl, rfl⟩
/-- a token as a value: its kind, its text, its number, its place -/
abbrev tkV (k : Int) (t : List UInt8) (n : Int) (p : Nat × Nat) : Value := .agg #[.int .i64 k, .string (S t), .int .i64 n, .int .i64 (p.1 : Int), .int .i64 (p.2 : Int)]
set_option maxRecDepth 100000 in
set_option maxHeartbeats 1000000 in
theorem wordToken_any (w : World) (t : List UInt8) : Calls Tryz.prog 30 #[.string (S t)] w fun e w' => e = .returned (tkV (if isOwn t then 2 else 1) t 0 (0, 0)) ∧ Below w.heap.size w w' := by
  have HI : Hid (∀ W, Calls Tryz.prog 48 #[.string (S t)] W fun e w' => e = .returned (.bool (isOwn t)) ∧ w' = W) := fun W => isWord_any W t
  have HB : Hid (∀ o, Below w.heap.size w (w.alloc o)) := fun o => (Below.refl _ _).alloc (Nat.le_refl _) _
  generalize isOwn t = b at *
  cases b
  all_goals
    go_enter Tryz.func30, Tryz.ntmps30
    go_wp2_with (first | (go_at_call 48; refine (HI.out _).mono ?_; rintro e wE ⟨rfl, hwE⟩; have hwE' := hwE.symm; subst hwE'; clear hwE))
    refine bodyPost_ret (v := _) (by simp [results, Tryz.results30, go_sem]; rfl) rfl ?_
    exact ⟨rfl, HB.out _⟩
end Go.Proofs.YtlabofafmcbfmaaGreatDoor
