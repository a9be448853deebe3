/-
  THE WALKS OF Parse AND OF WHAT IT CALLS.
-/
import Derived.Test.YtnjgaibcpcpmcaaDoorPMath
import Derived.Test.YtnjgaibcpcpmcaaDoorStrc
import Derived.Test.YtnjgaibcpcpmcaaDoorKBase
namespace Go.Proofs.YtnjgaibcpcpmcaaDoor
open Go.RowKit Go.Sort Go.Shelf

theorem at_some (s : ByteArray) (k : Nat) (h : k < s.size) : s.data.toList[k]? = some s[k] := by
  have hl : k < s.data.toList.length := by rw [Array.length_toList]; exact h
  rw [List.getElem?_eq_getElem hl]; rfl
theorem at_none (s : ByteArray) (k : Nat) (h : ¬ k < s.size) : s.data.toList[k]? = none := by
  rw [List.getElem?_eq_none_iff, Array.length_toList]; exact Nat.le_of_not_lt h
theorem len_list (s : ByteArray) : s.data.toList.length = s.size := Array.length_toList

set_option maxHeartbeats 400000 in
theorem stands_any (w : World) (s : ByteArray) (k : Nat) (b : UInt8) :
    Calls Tryd.prog 15 #[.string s, .int .i64 (k : Int), .int .u8 (b.toNat : Int)] w fun e w' => e = .returned (.bool (decide (s.data.toList[k]? = some b))) ∧ w' = w := by
  by_cases h : k < s.size
  · by_cases hb : s[k] = b
    · have HE : Hid (decide (s.data.toList[k]? = some b) = true) := by rw [Hid, at_some s k h, hb]; simp
      have hq : ((s[k].toNat : Int) == (b.toNat : Int)) = true := by rw [hb]; simp
      clear hb
      go_enter Tryd.func15, Tryd.ntmps15
      go_wp2
      go_ret
      exact ⟨by rw [HE.out]; rfl, rfl⟩
    · have HE : Hid (decide (s.data.toList[k]? = some b) = false) := by rw [Hid, at_some s k h]; simp [hb]
      have hq : ((s[k].toNat : Int) == (b.toNat : Int)) = false := by
        rw [beq_eq_false_iff_ne]; intro e; exact hb (UInt8.toNat_inj.1 (by omega))
      clear hb
      go_enter Tryd.func15, Tryd.ntmps15
      go_wp2
      go_ret
      exact ⟨by rw [HE.out]; rfl, rfl⟩
  · have HE : Hid (decide (s.data.toList[k]? = some b) = false) := by rw [Hid, at_none s k h]; simp
    have hq : decide ((k : Int) < (s.size : Int)) = false := by simp; omega
    go_enter Tryd.func15, Tryd.ntmps15
    go_wp2
    go_ret
    exact ⟨by rw [HE.out]; rfl, rfl⟩

theorem isD_iff (c : UInt8) : isD c = true ↔ 48 ≤ c.toNat ∧ c.toNat ≤ 57 := by simp [isD]

set_option maxHeartbeats 1000000 in
theorem readDigits_any (w : World) (s : ByteArray) (f : Nat) (hs : s.size ≤ 281474976710656) (hf : f ≤ s.size) :
    Calls Tryd.prog 20 #[.string s, .int .i64 (f : Int)] w fun e w' => e = .returned (.tuple #[.int .i64 ((digs s.data.toList f).1 : Int), .int .i64 (digs s.data.toList f).2]) ∧ w' = w := by
  have hr := run_le s.data.toList f
  rw [len_list] at hr
  go_enter Tryd.func20, Tryd.ntmps20
  go_wp2
  go_loop [6] (fun x => ∃ k : Nat, k ≤ run s.data.toList f ∧ x = .int .i64 ((f : Int) + (k : Int))) (fun x => s.size - (intOf x).toNat)
  case atStart => exact ⟨0, Nat.zero_le _, by simp⟩
  case round =>
    obtain ⟨k, hk, rfl⟩ := hrel
    have hi : ((f : Int) + (k : Int)).toNat = f + k := by omega
    by_cases hlt : k < run s.data.toList f
    · obtain ⟨c, hc, hd⟩ := (run_lt _ f k hk).1 hlt
      have hsz : f + k < s.size := by omega
      rw [at_some s (f + k) hsz] at hc
      obtain ⟨d1, d2⟩ := (isD_iff c).1 hd
      obtain rfl := Option.some.inj hc
      have e1 : (48 : Int) ≤ (s[f + k].toNat : Int) := by omega
      have e2 : (s[f + k].toNat : Int) ≤ 57 := by omega
      have hlt' : (f : Int) + (k : Int) < (s.size : Int) := by omega
      clear hc hd
      go_wp2
      go_round
      case rel => exact ⟨k + 1, by omega, by go_num⟩
      case measure => simp [intOf]; omega
    · obtain rfl : k = run s.data.toList f := by omega
      have hno : ¬ ∃ c, s.data.toList[f + run s.data.toList f]? = some c ∧ isD c = true := fun h => hlt ((run_lt _ f _ hk).2 h)
      have hi0 : (f : Int).toNat = f := by omega
      have hx : decide ((f : Int) + (run s.data.toList f : Int) < (s.size : Int)) = false ∨ ∃ h : f + run s.data.toList f < s.size, decide ((48 : Int) ≤ (s[f + run s.data.toList f].toNat : Int)) = false ∨ ((48 : Int) ≤ (s[f + run s.data.toList f].toNat : Int) ∧ decide ((s[f + run s.data.toList f].toNat : Int) ≤ 57) = false) := by
        by_cases h : f + run s.data.toList f < s.size
        · refine .inr ⟨h, ?_⟩
          have h2 : ¬ isD s[f + run s.data.toList f] = true := fun hd => hno ⟨_, at_some s _ h, hd⟩
          rw [isD_iff] at h2
          by_cases h48 : 48 ≤ s[f + run s.data.toList f].toNat
          · exact .inr ⟨by omega, by simp; omega⟩
          · exact .inl (by simp; omega)
        · exact .inl (by simp; omega)
      clear hno hlt
      by_cases h0 : run s.data.toList f = 0
      · have HD : Hid (digs s.data.toList f = (f, 40)) := by rw [Hid]; unfold digs; rw [if_pos h0]
        have he : ((f : Int) + (run s.data.toList f : Int) == (f : Int)) = true := by rw [h0]; simp
        clear h0
        generalize run s.data.toList f = R at *
        rcases hx with hx | ⟨h, hx | ⟨hx1, hx⟩⟩
        · go_wp2
          go_ret2
          exact ⟨by rw [HD.out]; rfl, rfl⟩
        · have hlt' : (f : Int) + (R : Int) < (s.size : Int) := by omega
          go_wp2
          go_ret2
          exact ⟨by rw [HD.out]; rfl, rfl⟩
        · have hlt' : (f : Int) + (R : Int) < (s.size : Int) := by omega
          go_wp2
          go_ret2
          exact ⟨by rw [HD.out]; rfl, rfl⟩
      · have he : ((f : Int) + (run s.data.toList f : Int) == (f : Int)) = false := by simp; omega
        have hfs : f < s.size := by omega
        have hfs' : (f : Int) < (s.size : Int) := by omega
        by_cases h48 : s[f] = 48
        · have hq : ((s[f].toNat : Int) == 48) = true := by rw [h48]; rfl
          by_cases h1 : 1 < run s.data.toList f
          · have HD : Hid (digs s.data.toList f = (f + 1, 40)) := by rw [Hid]; unfold digs; rw [if_neg h0, if_pos ⟨by rw [at_some s f hfs, h48], h1⟩]
            have hg : (f : Int) + 1 < (f : Int) + (run s.data.toList f : Int) := by omega
            clear h48
            generalize run s.data.toList f = R at *
            rcases hx with hx | ⟨h, hx | ⟨hx1, hx⟩⟩
            · go_wp2
              go_ret2
              exact ⟨by rw [HD.out]; rfl, rfl⟩
            · have hlt' : (f : Int) + (R : Int) < (s.size : Int) := by omega
              go_wp2
              go_ret2
              exact ⟨by rw [HD.out]; rfl, rfl⟩
            · have hlt' : (f : Int) + (R : Int) < (s.size : Int) := by omega
              go_wp2
              go_ret2
              exact ⟨by rw [HD.out]; rfl, rfl⟩
          · have HD : Hid (digs s.data.toList f = (f + run s.data.toList f, 0)) := by rw [Hid]; unfold digs; rw [if_neg h0, if_neg (fun h => h1 h.2)]
            have hg : decide ((f : Int) + 1 < (f : Int) + (run s.data.toList f : Int)) = false := by simp; omega
            clear h48
            generalize run s.data.toList f = R at *
            rcases hx with hx | ⟨h, hx | ⟨hx1, hx⟩⟩
            · go_wp2
              go_ret2
              exact ⟨by rw [HD.out]; simp, rfl⟩
            · have hlt' : (f : Int) + (R : Int) < (s.size : Int) := by omega
              go_wp2
              go_ret2
              exact ⟨by rw [HD.out]; simp, rfl⟩
            · have hlt' : (f : Int) + (R : Int) < (s.size : Int) := by omega
              go_wp2
              go_ret2
              exact ⟨by rw [HD.out]; simp, rfl⟩
        · have HD : Hid (digs s.data.toList f = (f + run s.data.toList f, 0)) := by rw [Hid]; unfold digs; rw [if_neg h0, if_neg (fun h => h48 (by have := h.1; rw [at_some s f hfs] at this; exact Option.some.inj this))]
          have hq : ((s[f].toNat : Int) == 48) = false := by
            rw [beq_eq_false_iff_ne]; intro e; exact h48 (UInt8.toNat_inj.1 (by have : (48 : UInt8).toNat = 48 := rfl; omega))
          clear h48
          generalize run s.data.toList f = R at *
          rcases hx with hx | ⟨h, hx | ⟨hx1, hx⟩⟩
          · go_wp2
            go_ret2
            exact ⟨by rw [HD.out]; simp, rfl⟩
          · have hlt' : (f : Int) + (R : Int) < (s.size : Int) := by omega
            go_wp2
            go_ret2
            exact ⟨by rw [HD.out]; simp, rfl⟩
          · have hlt' : (f : Int) + (R : Int) < (s.size : Int) := by omega
            go_wp2
            go_ret2
            exact ⟨by rw [HD.out]; simp, rfl⟩

end Go.Proofs.YtnjgaibcpcpmcaaDoor
