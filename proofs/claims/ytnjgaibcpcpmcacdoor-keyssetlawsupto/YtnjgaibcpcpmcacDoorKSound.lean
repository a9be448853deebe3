/-
  THE WALK OF sound.
-/
import Derived.Test.YtnjgaibcpcpmcacDoorKList
namespace Go.Proofs.YtnjgaibcpcpmcacDoor
open Go.RowKit Go.Sort

theorem all_take (L : List K) (k : Nat) (h : (L.take k).all isKey = true) (hk : k < L.length) (h2 : isKey (kd L k) = true) : (L.take (k + 1)).all isKey = true := by
  rw [take_kd L k hk, List.all_append, h]; simp [h2]
theorem all_false {L : List K} {k : Nat} (hk : k < L.length) (h : isKey (kd L k) = false) : L.all isKey = false := by
  rw [List.all_eq_false]
  exact ⟨kd L k, kd_mem hk, by rw [h]; decide⟩

set_option maxHeartbeats 1000000 in
theorem sound_any (w : World) (ao : Option Addr) (cap n : Nat) (L : List K) (hn : n = L.length) (h : KeysAt w ao L) (hm : n ≤ 8796093022208) :
    Calls Tryd.prog 8 #[.slice ao n cap] w fun e w' => e = .returned (.bool (L.all isKey)) ∧ w' = w := by
  have HN : Hid (n = L.length) := hn
  have HK : Hid (KeysAt w ao L) := h
  clear hn h
  go_enter Tryd.func8, Tryd.ntmps8
  go_wp2
  go_loop [3] (fun i => ∃ k : Nat, k ≤ n ∧ i = .int .i64 (k : Int) ∧ Hid ((L.take k).all isKey = true)) (fun i => n - (intOf i).toNat)
  case atStart => exact ⟨0, Nat.zero_le _, rfl, by simp [Hid]⟩
  case round =>
    obtain ⟨k, hk, rfl, HA⟩ := hrel
    by_cases hlt : k < n
    · have hl : k < L.length := by have := HN.out; omega
      rcases HK.out with h0 | ⟨b, off, rfl, hc⟩
      · rw [h0] at hl; simp at hl
      · obtain ⟨c1, c2⟩ := KeysAt.at hc k hl
        have HT : Hid (isKey (kd L k) = true → (L.take (k + 1)).all isKey = true) := all_take L k HA.out hl
        have HF : Hid (isKey (kd L k) = false → L.all isKey = false) := all_false hl
        generalize kd L k = kk at *
        obtain ⟨t, r⟩ := kk
        simp only at c1 c2
        clear hc hl
        by_cases h0 : t < 0
        · have HE : Hid (L.all isKey = false) := HF.out (by simp [isKey]; omega)
          have h0' : decide (t < 0) = true := by simpa using h0
          go_wp2
          go_ret
          exact ⟨by rw [HE.out]; rfl, rfl⟩
        · have h0' : decide (t < 0) = false := by simpa using h0
          by_cases h1 : 65535 < t
          · have HE : Hid (L.all isKey = false) := HF.out (by simp [isKey]; omega)
            go_wp2
            go_ret
            exact ⟨by rw [HE.out]; rfl, rfl⟩
          · have h1' : decide (65535 < t) = false := by simpa using h1
            have HE : Hid ((L.take (k + 1)).all isKey = true) := HT.out (by simp [isKey]; omega)
            go_wp2
            go_round
            case rel => exact ⟨k + 1, by omega, by go_num, HE⟩
            case measure => simp [intOf]; omega
    · obtain rfl : k = n := by omega
      have HE : Hid (L.all isKey = true) := by have := HA.out; rwa [HN.out, List.take_length] at this
      go_wp2
      go_ret
      exact ⟨by rw [HE.out]; rfl, rfl⟩

end Go.Proofs.YtnjgaibcpcpmcacDoor
