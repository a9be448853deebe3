/-
  THE WALK OF codec.Sum.
-/
import Derived.Test.YtcpaonjidioclaaDoorBytes
namespace Go.Proofs.YtcpaonjidioclaaDoor
open Go.RowKit

/-- THE TABLE's CELLS. -/
def TabAt (w : World) : Prop := ∀ i, i < 16 → w.cell? ⟨0, i, none⟩ = some (.int .u32 ((Crc.tab.getD i 0 : Nat) : Int))

theorem TabAt.kept {w w1 : World} (h : TabAt w) (hb : Below w.heap.size w w1) : TabAt w1 := by
  intro i hi
  have hlt : 0 < w.heap.size := by
    have h0 := h i hi
    by_cases hlt : 0 < w.heap.size
    · exact hlt
    · have hn : w.heap[0]? = none := Array.getElem?_eq_none_iff.2 (by omega)
      simp [World.cell?, hn] at h0
  rw [hb.cell (p := ⟨0, i, none⟩) hlt]
  exact h i hi
theorem u32_and15 (x : Nat) (hx : x < 4294967296) : bits .and .u32 (x : Int) 15 = ((x % 16 : Nat) : Int) := by
  have h := u32_and_nat x 15 hx (by omega)
  rw [show (15 : Nat) = 2 ^ 4 - 1 from rfl, Nat.and_two_pow_sub_one_eq_mod] at h
  exact h
theorem u32_shr_xor (x y : Nat) (hx : x < 4294967296) (hy : y < 4294967296) : bits .xor .u32 ((x : Int) / 16) (y : Int) = ((x / 16 ^^^ y : Nat) : Int) := by
  rw [show ((x : Int) / 16) = ((x / 16 : Nat) : Int) by omega]
  exact u32_xor_nat (x / 16) y (by omega) hy
theorem u32_not (x : Nat) (hx : x < 4294967296) : bits .xor .u32 IntKind.u32.max (x : Int) = ((4294967295 - x : Nat) : Int) := by
  have h := u32_xor_nat 4294967295 x (by omega) hx
  have e : (4294967295 : Nat) ^^^ x = 4294967295 - x := by
    apply Nat.eq_of_testBit_eq
    intro i
    rw [show (4294967295 : Nat) - x = 2 ^ 32 - (x + 1) by omega, Nat.testBit_two_pow_sub_succ hx, Nat.testBit_xor, show (4294967295 : Nat) = 2 ^ 32 - 1 from rfl, Nat.testBit_two_pow_sub_one]
    by_cases hi : i < 32
    · simp [hi]
    · have : x.testBit i = false := Nat.testBit_lt_two_pow (Nat.lt_of_lt_of_le hx (by
        have : 2 ^ 32 ≤ 2 ^ i := Nat.pow_le_pow_right (by omega) (by omega)
        simpa using this))
      simp [hi, this]
  rw [e] at h
  exact h

set_option maxHeartbeats 400000 in
theorem sum_cells (w : World) (b off cap : Nat) (zs : List Nat) (hz : ∀ z ∈ zs, z < 256) (hm : zs.length ≤ maxLen) (ht : TabAt w)
    (hc : ∀ j, j < zs.length → w.cell? ⟨b, off + j, none⟩ = some (.int .u8 ((zs.getD j 0 : Nat) : Int))) :
    Calls Tryd.prog 16 #[.slice (some ⟨b, off, none⟩) zs.length cap] w fun e w' => e = .returned (.int .u32 ((Crc.sum zs : Nat) : Int)) ∧ w' = w := by
  unfold maxLen at hm
  go_enter Tryd.func16, Tryd.ntmps16
  go_wp2
  go_loop [3, 8] (fun r i => ∃ k : Nat, k ≤ zs.length ∧ i = .int .i64 k ∧ r = .int .u32 ((Crc.crcFrom Crc.all1 (zs.take k) : Nat) : Int)) (fun _ i => zs.length - (intOf i).toNat)
  case atStart => exact ⟨0, Nat.zero_le _, rfl, rfl⟩
  case round =>
    obtain ⟨k, hk, rfl, rfl⟩ := hrel
    have hr := Crc.crcFrom_lt (r := Crc.all1) (zs.take k) (by decide) (take_lt hz k)
    by_cases hlt : k < zs.length
    · have hcell := hc k hlt
      have hcb := getD_lt hz k
      have HT : Hid (Crc.crcFrom Crc.all1 (zs.take (k + 1)) = Crc.crcStep (Crc.crcFrom Crc.all1 (zs.take k)) (zs.getD k 0)) := by
        rw [take_snoc zs k hlt, Crc.crcFrom_snoc]; exact rfl
      generalize Crc.crcFrom Crc.all1 (zs.take k) = r at *
      generalize zs.getD k 0 = c at *
      have e1 := u32_xor_nat r c hr (by omega)
      have l1 : r ^^^ c < 4294967296 := Nat.xor_lt_two_pow (n := 32) hr (by omega)
      have e2 := u32_and15 (r ^^^ c) l1
      have t1 := ht ((r ^^^ c) % 16) (by omega)
      have tl1 := Crc.tab_lt ((r ^^^ c) % 16) (by omega)
      have HS : Hid (Crc.crcStep r c = (((r ^^^ c) / 16 ^^^ Crc.tab.getD ((r ^^^ c) % 16) 0) / 16) ^^^ Crc.tab.getD (((r ^^^ c) / 16 ^^^ Crc.tab.getD ((r ^^^ c) % 16) 0) % 16) 0) := Crc.step_table r c
      generalize r ^^^ c = x at *
      generalize hi1 : x % 16 = i1 at *
      have hi1' : i1 < 16 := by omega
      clear hi1
      generalize Crc.tab.getD i1 0 = y1 at *
      have e3 := u32_shr_xor x y1 l1 tl1
      have l2 : x / 16 ^^^ y1 < 4294967296 := Nat.xor_lt_two_pow (n := 32) (by omega) tl1
      have e4 := u32_and15 (x / 16 ^^^ y1) l2
      have t2 := ht ((x / 16 ^^^ y1) % 16) (by omega)
      have tl2 := Crc.tab_lt ((x / 16 ^^^ y1) % 16) (by omega)
      generalize x / 16 ^^^ y1 = u at *
      generalize hi2 : u % 16 = i2 at *
      have hi2' : i2 < 16 := by omega
      clear hi2
      generalize Crc.tab.getD i2 0 = y2 at *
      have e5 := u32_shr_xor u y2 l2 tl2
      generalize u / 16 ^^^ y2 = v at *
      clear hc ht hz
      go_wp2
      go_round
      case rel => exact ⟨k + 1, by omega, by go_num, by rw [HT.out, HS.out]⟩
      case measure => simp [intOf]; omega
    · have hkl : k = zs.length := by omega
      subst hkl
      have e6 := u32_not _ hr
      rw [List.take_length] at *
      clear hc ht hz
      go_wp2
      go_ret
      exact ⟨rfl, rfl⟩

/-- codec.Sum, whatever slice of bytes. -/
theorem sum_any (w : World) (ao : Option Addr) (cap n : Nat) (zs : List Nat) (hn : n = zs.length) (h : BytesAt w ao zs) (hm : zs.length ≤ maxLen) (ht : TabAt w) :
    Calls Tryd.prog 16 #[.slice ao n cap] w fun e w' => e = .returned (.int .u32 ((Crc.sum zs : Nat) : Int)) ∧ w' = w := by
  subst hn
  obtain ⟨hz, rfl | ⟨b, off, rfl, hc⟩⟩ := h
  · go_enter Tryd.func16, Tryd.ntmps16
    have e6 := u32_not 4294967295 (by omega)
    go_wp2
    go_loop [3, 8] (fun r i => i = .int .i64 0 ∧ r = .int .u32 4294967295) (fun _ i => 0 - (intOf i).toNat)
    case atStart => exact ⟨rfl, rfl⟩
    case round =>
      obtain ⟨rfl, rfl⟩ := hrel
      go_wp2
      go_ret
      exact ⟨rfl, rfl⟩
  · exact sum_cells w b off cap zs hz hm ht hc

end Go.Proofs.YtcpaonjidioclaaDoor
