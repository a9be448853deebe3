/-
  THE WALK OF preluderef01.Sum: bit by bit.
-/
import Derived.Test.YtcpaonjidioclaaDoorSum
namespace Go.Proofs.YtcpaonjidioclaaDoor
open Go.RowKit

theorem u32_and1 (x : Nat) (hx : x < 4294967296) : bits .and .u32 (x : Int) 1 = ((x % 2 : Nat) : Int) := by
  have h := u32_and_nat x 1 hx (by omega)
  rw [show (1 : Nat) = 2 ^ 1 - 1 from rfl, Nat.and_two_pow_sub_one_eq_mod] at h
  exact h
theorem bit_of (c m : Nat) (hc : c < 256) : bits .and .u32 ((c : Int) / 2 ^ m % 4294967296) 1 = ((c / 2 ^ m % 2 : Nat) : Int) := by
  have l : c / 2 ^ m ≤ c := Nat.div_le_self _ _
  have e : ((c : Int) / 2 ^ m % 4294967296) = ((c / 2 ^ m : Nat) : Int) := by
    have : ((c / 2 ^ m : Nat) : Int) = (c : Int) / 2 ^ m := by simp
    rw [← this]
    generalize c / 2 ^ m = q at *
    omega
  rw [e]
  exact u32_and1 _ (by omega)
theorem xor_poly (x : Nat) (hx : x < 4294967296) : bits .xor .u32 ((x : Int) / 2) 3988292384 = ((x / 2 ^^^ Crc.poly : Nat) : Int) := by
  rw [show ((x : Int) / 2) = ((x / 2 : Nat) : Int) by omega]
  exact u32_xor_nat (x / 2) 3988292384 (by omega) (by omega)
theorem u32_eq {a b : Nat} (h : a = b) : Value.int .u32 (a : Int) = .int .u32 (b : Int) := by rw [h]

set_option maxHeartbeats 400000 in
theorem refSum_cells (w : World) (b off cap : Nat) (zs : List Nat) (hz : ∀ z ∈ zs, z < 256) (hm : zs.length ≤ maxLen)
    (hc : ∀ j, j < zs.length → w.cell? ⟨b, off + j, none⟩ = some (.int .u8 ((zs.getD j 0 : Nat) : Int))) :
    Calls Tryd.prog 14 #[.slice (some ⟨b, off, none⟩) zs.length cap] w fun e w' => e = .returned (.int .u32 ((Crc.sum zs : Nat) : Int)) ∧ w' = w := by
  unfold maxLen at hm
  go_enter Tryd.func14, Tryd.ntmps14
  go_wp2
  go_loop [3, 4] (fun r i => ∃ k : Nat, k ≤ zs.length ∧ i = .int .i64 k ∧ r = .int .u32 ((Crc.crcFrom Crc.all1 (zs.take k) : Nat) : Int)) (fun _ i => zs.length - (intOf i).toNat)
  case atStart => exact ⟨0, Nat.zero_le _, rfl, rfl⟩
  case round =>
    obtain ⟨k, hk, rfl, rfl⟩ := hrel
    have hr := Crc.crcFrom_lt (r := Crc.all1) (zs.take k) (by decide) (take_lt hz k)
    by_cases hlt : k < zs.length
    · have hcell := hc k hlt
      have hcb := getD_lt hz k
      have HT : Hid (Crc.crcFrom Crc.all1 (zs.take (k + 1)) = Crc.crcStep (Crc.crcFrom Crc.all1 (zs.take k)) (zs.getD k 0)) := by
        rw [take_snoc zs k hlt, Crc.crcFrom_snoc]; exact rfl
      generalize Crc.crcFrom Crc.all1 (zs.take k) = r at *
      generalize zs.getD k 0 = c at *
      clear hc hz
      go_wp2
      go_loop [3, 5] (fun x i => ∃ m : Nat, m ≤ 8 ∧ i = .int .i64 m ∧ x = .int .u32 ((Crc.It m (r ^^^ c % 2 ^ m) : Nat) : Int)) (fun _ i => 8 - (intOf i).toNat)
      case atStart => exact ⟨0, by omega, rfl, by simp [Crc.It, Nat.mod_one]⟩
      case round =>
        obtain ⟨m, hm8, rfl, rfl⟩ := hrel
        by_cases hlt8 : m < 8
        · have HB : Hid (Crc.It (m + 1) (r ^^^ c % 2 ^ (m + 1)) = if (c / 2 ^ m) % 2 = Crc.It m (r ^^^ c % 2 ^ m) % 2 then Crc.It m (r ^^^ c % 2 ^ m) / 2 else Crc.It m (r ^^^ c % 2 ^ m) / 2 ^^^ Crc.poly) := by
            have h := Crc.bit_step r c m
            rw [Crc.S_unlike _ _ (by omega)] at h
            exact h.symm
          have hx : Crc.It m (r ^^^ c % 2 ^ m) < 4294967296 := by
            refine Crc.It_lt m (Nat.xor_lt_two_pow (n := 32) hr ?_)
            have := Nat.mod_le c (2 ^ m)
            omega
          generalize Crc.It m (r ^^^ c % 2 ^ m) = x at *
          have ea := bit_of c m hcb
          have eb := u32_and1 x hx
          have ec := xor_poly x hx
          have hb2 : c / 2 ^ m % 2 < 2 := by omega
          generalize c / 2 ^ m % 2 = bit at *
          by_cases hun : bit = x % 2
          · have hT : ((bit : Int) != ((x % 2 : Nat) : Int)) = false := by rw [hun]; simp
            have HU : Hid (bit = x % 2) := hun
            clear hun
            go_wp2
            go_round
            case rel => exact ⟨m + 1, by omega, by go_num, by rw [HB.out, if_pos HU.out]; go_num⟩
            case measure => simp [intOf]; omega
          · have hT : ((bit : Int) != ((x % 2 : Nat) : Int)) = true := by rw [bne_iff_ne]; omega
            go_wp2
            go_round
            case rel => exact ⟨m + 1, by omega, by go_num, by rw [HB.out, if_neg hun]⟩
            case measure => simp [intOf]; omega
        · have h8 : m = 8 := by omega
          subst h8
          have HC : Hid (Crc.It 8 (r ^^^ c % 2 ^ 8) = Crc.crcStep r c) := by
            show _ = Crc.It 8 (r ^^^ c); rw [Nat.mod_eq_of_lt (by omega : c < 2 ^ 8)]
          generalize Crc.It 8 (r ^^^ c % 2 ^ 8) = x at *
          go_wp2
          go_round
          case rel => exact ⟨k + 1, by omega, by go_num, by rw [HT.out, ← HC.out]⟩
          case measure => simp [intOf]; omega
    · have hkl : k = zs.length := by omega
      subst hkl
      have e6 := u32_not _ hr
      rw [List.take_length] at *
      clear hc hz
      go_wp2
      go_ret
      exact ⟨rfl, rfl⟩

/-- preluderef01.Sum, whatever slice of bytes. -/
theorem refSum_any (w : World) (ao : Option Addr) (cap n : Nat) (zs : List Nat) (hn : n = zs.length) (h : BytesAt w ao zs) (hm : zs.length ≤ maxLen) :
    Calls Tryd.prog 14 #[.slice ao n cap] w fun e w' => e = .returned (.int .u32 ((Crc.sum zs : Nat) : Int)) ∧ w' = w := by
  subst hn
  obtain ⟨hz, rfl | ⟨b, off, rfl, hc⟩⟩ := h
  · go_enter Tryd.func14, Tryd.ntmps14
    have e6 := u32_not 4294967295 (by omega)
    go_wp2
    go_loop [3, 4] (fun r i => i = .int .i64 0 ∧ r = .int .u32 4294967295) (fun _ i => 0 - (intOf i).toNat)
    case atStart => exact ⟨rfl, rfl⟩
    case round =>
      obtain ⟨rfl, rfl⟩ := hrel
      go_wp2
      go_ret
      exact ⟨rfl, rfl⟩
  · exact refSum_cells w b off cap zs hz hm hc

end Go.Proofs.YtcpaonjidioclaaDoor
