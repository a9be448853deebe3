/-
  codec.Unseal, WHATEVER BYTES AND PLACE.
-/
import Derived.Test.YtcpaonjidioclaaDoorUnseal
namespace Go.Proofs.YtcpaonjidioclaaDoor
open Go.RowKit

theorem opened_in (zs : List Nat) (place : Nat) (h : place + 9 ≤ zs.length) : Rec.opened zs place = openC (zs.drop place) place := by
  unfold Rec.opened openC
  rw [if_neg (by omega), Int.toNat_natCast, if_neg (by rw [List.length_drop]; omega)]
theorem opened_short (zs : List Nat) (place : Nat) (h : place ≤ zs.length) (h9 : zs.length < place + 9) : Rec.opened zs place = (0, [], 0, 10) := by
  unfold Rec.opened
  rw [if_neg (by omega), Int.toNat_natCast, if_pos (by rw [List.length_drop]; omega)]
theorem opened_out (zs : List Nat) (place : Int) (h : place < 0 ∨ (zs.length : Int) < place) : Rec.opened zs place = (0, [], 0, 11) := by
  unfold Rec.opened
  rw [if_pos h]

theorem unseal_out (w : World) (ao : Option Addr) (cap n : Nat) (place : Int) (h : place < 0 ∨ (n : Int) < place) :
    Calls Tryd.prog 12 #[.slice ao n cap, .int .i64 place] w fun e w' => Answers w (0, [], 0, 11) e w' := by
  by_cases h0 : place < 0
  · have hd : decide (place < 0) = true := by simpa using h0
    go_enter Tryd.func12, Tryd.ntmps12
    go_wp2
    refine bodyPost_ret (v := .tuple #[.int .u8 0, .slice none 0 0, .int .i64 0, .int .i64 11]) (by simp [results, Tryd.results12, go_sem]) rfl ?_
    exact answers_none w 11 0
  · have hd : decide (place < 0) = false := by simpa using h0
    have h1 : (n : Int) < place := by omega
    clear h
    go_enter Tryd.func12, Tryd.ntmps12
    go_wp2
    refine bodyPost_ret (v := .tuple #[.int .u8 0, .slice none 0 0, .int .i64 0, .int .i64 11]) (by simp [results, Tryd.results12, go_sem]) rfl ?_
    exact answers_none w 11 0

theorem unseal_short (w : World) (ao : Option Addr) (c m place : Nat) (hm : m < 9) (hc : m ≤ c) (hp : place + c ≤ maxLen) (hnil : ao = none → place + c = 0) :
    Calls Tryd.prog 12 #[.slice ao (place + m) (place + c), .int .i64 (place : Int)] w fun e w' => Answers w (0, [], 0, 10) e w' := by
  unfold maxLen at hp
  cases ao with
  | none =>
    have h0 := hnil rfl
    obtain rfl : place = 0 := by omega
    obtain rfl : m = 0 := by omega
    obtain rfl : c = 0 := by omega
    clear hnil h0
    go_enter Tryd.func12, Tryd.ntmps12
    go_wp2
    refine bodyPost_ret (v := .tuple #[.int .u8 0, .slice none 0 0, .int .i64 0, .int .i64 10]) (by simp [results, Tryd.results12, go_sem]) rfl ?_
    exact answers_none w 10 0
  | some a =>
    clear hnil
    go_enter Tryd.func12, Tryd.ntmps12
    by_cases h0 : c = 0
    · subst h0
      go_wp2
      refine bodyPost_ret (v := .tuple #[.int .u8 0, .slice none 0 0, .int .i64 0, .int .i64 10]) (by simp [results, Tryd.results12, go_sem]) rfl ?_
      exact answers_none w 10 0
    · have h0' : ¬ (place + c = place) := by omega
      go_wp2
      refine bodyPost_ret (v := .tuple #[.int .u8 0, .slice none 0 0, .int .i64 0, .int .i64 10]) (by simp [results, Tryd.results12, go_sem]) rfl ?_
      exact answers_none w 10 0

theorem unseal_any (w : World) (ao : Option Addr) (cap n : Nat) (place : Int) (zs : List Nat) (hn : n = zs.length) (h : BytesAt w ao zs) (hm : n ≤ 140737488351232) (hcap : n ≤ cap) (hmax : cap ≤ maxLen) (hnil : ao = none → cap = 0) (ht : TabAt w) :
    Calls Tryd.prog 12 #[.slice ao n cap, .int .i64 place] w fun e w' => Answers w (Rec.opened zs place) e w' := by
  by_cases hout : place < 0 ∨ (n : Int) < place
  · rw [opened_out zs place (by rw [← hn]; exact hout)]
    exact unseal_out w ao cap n place hout
  · obtain ⟨p, rfl⟩ := Int.eq_ofNat_of_zero_le (show 0 ≤ place by omega)
    have hpn : p ≤ n := by omega
    by_cases h9 : n < p + 9
    · rw [opened_short zs p (by omega) (by omega), show n = p + (n - p) by omega, show cap = p + (cap - p) by omega]
      exact unseal_short w ao (cap - p) (n - p) p (by omega) (by omega) (by omega) (fun e => by have := hnil e; omega)
    · rw [opened_in zs p (by omega)]
      obtain ⟨hz, rfl | ⟨b, off, rfl, hc⟩⟩ := h
      · simp at hn; omega
      · have hb : BytesAt w (some ⟨b, off, none⟩) zs := ⟨hz, .inr ⟨b, off, rfl, hc⟩⟩
        have := unseal_cells w b off (cap - p - 9) (n - p - 9) p (zs.drop p) (by rw [List.length_drop]; omega) (hb.drop p) (by omega) (by omega) ht
        rw [show p + (n - p - 9 + 9) = n by omega, show p + (cap - p - 9 + 9) = cap by omega] at this
        exact this

end Go.Proofs.YtcpaonjidioclaaDoor
