/-
  THE WALK OF CodecBursts.
-/
import Derived.Test.YthdlilekilkogabDoorSum
import Derived.Test.YthdlilekilkogabDoorSame
import Derived.Test.YthdlilekilkogabDoorCopied
namespace Go.Proofs.YthdlilekilkogabDoor
open Go.RowKit

/-- what the loop knows: the copy's bytes, and that they differ within so many bits from 'first' on -/
def Burst (zs L : List Nat) (first k : Nat) : Prop := L.length = zs.length ∧ (∀ z ∈ L, z < 256) ∧ ∃ e, e < 2 ^ k ∧ Crc.val zs ^^^ Crc.val L = 2 ^ first * e

theorem Burst.more {zs L : List Nat} {first k : Nat} (h : Burst zs L first k) : Burst zs L first (k + 1) := by
  obtain ⟨h1, h2, e, he, hv⟩ := h
  exact ⟨h1, h2, e, by rw [Nat.pow_succ]; omega, hv⟩
theorem Burst.flip {zs L : List Nat} {first k : Nat} (h : Burst zs L first k) (hp : first + k < 8 * zs.length) :
    Burst zs (L.set ((first + k) / 8) (L.getD ((first + k) / 8) 0 ^^^ 2 ^ ((first + k) % 8))) first (k + 1) := by
  obtain ⟨h1, h2, e, he, hv⟩ := h
  have hb : 2 ^ ((first + k) % 8) < 2 ^ 8 := Nat.pow_lt_pow_right (a := 2) (by omega) (by omega)
  refine ⟨by rw [List.length_set, h1], Crc.set_lt h2 _ _ (Nat.xor_lt_two_pow (n := 8) (getD_lt h2 _) hb), e ^^^ 2 ^ k, Nat.xor_lt_two_pow (by rw [Nat.pow_succ]; omega) (Nat.pow_lt_pow_right (by omega) (by omega)), ?_⟩
  rw [Crc.val_set L _ _ h2 hb (by omega), ← Nat.xor_assoc, hv, ← Nat.pow_add, show 8 * ((first + k) / 8) + (first + k) % 8 = first + k by omega, Nat.pow_add, ← Crc.mul_xor]
theorem flip_byte (old k : Nat) (ho : old < 256) (hk : k < 8) : bits .xor .u8 (old : Int) (2 ^ k % 256) = ((old ^^^ 2 ^ k : Nat) : Int) := by
  have h2 : 2 ^ k < 2 ^ 8 := Nat.pow_lt_pow_right (a := 2) (by omega) hk
  have e : ((2 : Int) ^ k % 256) = ((2 ^ k : Nat) : Int) := by
    have : ((2 ^ k : Nat) : Int) = (2 : Int) ^ k := by simp
    rw [← this]
    generalize 2 ^ k = q at *
    omega
  rw [e]
  exact u8_xor_nat old (2 ^ k) ho h2
theorem first_of (a : Int) (n : Nat) (h0 : 0 < n) (hn : n ≤ 281474976710656) : ∃ first : Nat, first < 8 * n ∧ wrap64 ((IntKind.u64.wrap a).tmod (8 * (n : Int))) = (first : Int) := by
  have h1 := wrap_u64_nonneg a
  generalize IntKind.u64.wrap a = x at *
  have h2 : x.tmod (8 * (n : Int)) = x % (8 * (n : Int)) := Int.tmod_eq_emod_of_nonneg h1
  have h3 := Int.emod_nonneg x (show (8 * (n : Int)) ≠ 0 by omega)
  have h4 := Int.emod_lt_of_pos x (show (0 : Int) < 8 * (n : Int) by omega)
  rw [h2]
  generalize x % (8 * (n : Int)) = y at *
  refine ⟨y.toNat, by omega, ?_⟩
  rw [IntWalk.wrap64_in y ⟨by omega, by omega⟩]
  omega
theorem Burst.start (zs : List Nat) (h : ∀ z ∈ zs, z < 256) (first : Nat) : Burst zs zs first 0 := ⟨rfl, h, 0, by simp, by simp⟩
/-- the two sums tell whether the two texts are one -/
theorem Burst.tells {zs L : List Nat} {first : Nat} (h : Burst zs L first 32) (hz : ∀ z ∈ zs, z < 256) (hf : first ≤ 8 * zs.length) : (((Crc.sum zs : Nat) : Int) == ((Crc.sum L : Nat) : Int)) = decide (zs = L) := by
  obtain ⟨h1, h2, e, he, hv⟩ := h
  by_cases hs : Crc.sum zs = Crc.sum L
  · have := Crc.burst h1.symm hz h2 first e he hf hv hs
    simp [this]
  · have hne : zs ≠ L := fun e => hs (by rw [e])
    rw [decide_eq_false hne, beq_eq_false_iff_ne]
    omega

set_option maxHeartbeats 800000 in
theorem bursts_walk (w : World) (ao : Option Addr) (cap n : Nat) (at_ burst : Int) (zs : List Nat) (hn : n = zs.length) (h : BytesAt w ao zs) (hm : n + 3 ≤ 281474976710656) (ht : TabAt w) :
    Calls Tryd.prog 3 #[.slice ao n cap, .int .i64 at_, .int .u32 burst] w fun e w' => e = .returned (.bool true) ∧ Below w.heap.size w w' := by
  have HN : Hid (n = zs.length) := hn
  have HA : Hid (BytesAt w ao zs) := h
  have HT : Hid (TabAt w) := ht
  clear hn h ht
  go_enter Tryd.func3, Tryd.ntmps3
  go_wp2_with fail
  refine (copied_any w ao cap n zs HN.out HA.out (by omega)).mono ?_
  rintro e w1 ⟨rfl, hrow, hbel, hsz⟩
  have HR : Hid (RowAt w1 w.heap.size zs) := hrow
  have HS : Hid (w1.heap.size = w.heap.size + 1) := hsz
  clear hrow hsz
  by_cases h0 : 0 < n
  · obtain ⟨first, hfl, hfe⟩ := first_of at_ n h0 (by omega)
    go_wp2_with fail
    rw [hfe]
    go_loopw [9] (fun i wr => ∃ (k : Nat) (L : List Nat), k ≤ 32 ∧ i = .int .i64 k ∧ Hid (RowAt wr w.heap.size L) ∧ Hid (Burst zs L first k) ∧ Hid (Below w.heap.size w wr))
      (fun i _ => 32 - (intOf i).toNat)
    case atStart => exact ⟨0, zs, by omega, rfl, HR, Burst.start zs HA.out.1 first, hbel⟩
    case round =>
      obtain ⟨k, L, hk, rfl, hrow, hbu', hbel'⟩ := hrel
      clear hfe HR HS hbel
      by_cases hlt : k < 32
      · by_cases hp : first + k < 8 * n
        · by_cases hT : (bits .and .u32 (burst / 2 ^ k) 1 == 1) = true
          · have hlen : n = L.length := by rw [HN.out, hbu'.out.1]
            have hi : (first + k) / 8 < n := by omega
            have hc := hrow.out.cell ((first + k) / 8) (by omega)
            have hf := hrow.out.frozen ((first + k) / 8)
            have hlo := getD_lt hbu'.out.2.1 ((first + k) / 8)
            have HF : Hid (Burst zs (L.set ((first + k) / 8) (L.getD ((first + k) / 8) 0 ^^^ 2 ^ ((first + k) % 8))) first (k + 1)) := hbu'.out.flip (by rw [← HN.out]; exact hp)
            clear hlen
            generalize L.getD ((first + k) / 8) 0 = old at *
            have HV : Hid (bits .xor .u8 (old : Int) (2 ^ ((first + k) % 8) % 256) = ((old ^^^ 2 ^ ((first + k) % 8) : Nat) : Int)) := flip_byte old _ hlo (by omega)
            have HR' : Hid (RowAt (wr.setCell ⟨w.heap.size, (first + k) / 8, none⟩ (.int .u8 ((old ^^^ 2 ^ ((first + k) % 8) : Nat) : Int))) w.heap.size (L.set ((first + k) / 8) (old ^^^ 2 ^ ((first + k) % 8)))) := hrow.out.set _ _
            have HB' : Hid (Below w.heap.size w (wr.setCell ⟨w.heap.size, (first + k) / 8, none⟩ (.int .u8 ((old ^^^ 2 ^ ((first + k) % 8) : Nat) : Int)))) := hbel'.out.setCell (Nat.le_refl _) _
            go_wp2
            go_region
            all_goals go_wp2
            all_goals go_roundw
            case rel => rw [HV.out]; exact ⟨k + 1, _, by omega, by go_num, HR', HF, HB'.out.drew⟩
            case measure => simp [intOf]; omega
          · have hT' : (bits .and .u32 (burst / 2 ^ k) 1 == 1) = false := by simpa using hT
            clear hT
            go_wp2
            go_roundw
            case rel => exact ⟨k + 1, L, by omega, by go_num, hrow, hbu'.out.more, hbel'⟩
            case measure => simp [intOf]; omega
        · go_wp2
          go_roundw
          case rel => exact ⟨k + 1, L, by omega, by go_num, hrow, hbu'.out.more, hbel'⟩
          case measure => simp [intOf]; omega
      · obtain rfl : k = 32 := by omega
        have HTr : Hid (TabAt wr) := HT.out.kept hbel'.out
        have HAr : Hid (BytesAt wr ao zs) := HA.out.kept hbel'.out
        have HCr : Hid (BytesAt wr (some ⟨w.heap.size, 0, none⟩) L) := by
          have h1 := hrow.out
          rw [← List.append_nil L] at h1
          exact h1.bytes0 hbu'.out.2.1
        have HL : Hid (n = L.length) := by rw [Hid, HN.out, hbu'.out.1]
        have HE : Hid ((((Crc.sum zs : Nat) : Int) == ((Crc.sum L : Nat) : Int)) = decide (zs = L)) := hbu'.out.tells HA.out.1 (by rw [← HN.out]; omega)
        go_wp2_with fail
        refine (sum_any wr _ _ n zs HN.out HAr.out (by rw [← HN.out]; unfold maxLen; omega) HTr.out).mono ?_
        rintro e w2 ⟨rfl, rfl⟩
        go_wp2_with fail
        refine (sum_any w2 _ _ n L HL.out HCr.out (by rw [← HL.out]; unfold maxLen; omega) HTr.out).mono ?_
        rintro e w3 ⟨rfl, rfl⟩
        go_wp2_with fail
        refine (same_any w3 _ _ _ _ n n zs L HN.out HL.out HAr.out HCr.out (by rw [← HN.out]; unfold maxLen; omega)).mono ?_
        rintro e w4 ⟨rfl, q, hq⟩
        have HB4 : Hid (Below w.heap.size w w4) := by subst hq; exact below_drewN hbel'.out q
        clear hq
        go_wp2
        go_ret
        exact ⟨by simp [HE.out], HB4.out⟩
  · obtain rfl : n = 0 := by omega
    have hz : zs = [] := List.eq_nil_of_length_eq_zero HN.out.symm
    subst hz
    have HT1 : Hid (TabAt w1) := HT.out.kept hbel
    have HE : Hid (∀ o, BytesAt w1 o []) := fun o => ⟨by simp, .inl rfl⟩
    go_wp2_with fail
    refine (sum_any w1 _ _ 0 [] rfl (HE.out _) (by simp [maxLen]) HT1.out).mono ?_
    rintro e w2 ⟨rfl, rfl⟩
    go_wp2_with fail
    refine (sum_any w2 _ _ 0 [] rfl (HE.out _) (by simp [maxLen]) HT1.out).mono ?_
    rintro e w3 ⟨rfl, rfl⟩
    go_wp2_with fail
    refine (same_any w3 _ _ _ _ 0 0 [] [] rfl rfl (HE.out _) (HE.out _) (by simp [maxLen])).mono ?_
    rintro e w4 ⟨rfl, q, hq⟩
    have HB4 : Hid (Below w.heap.size w w4) := by subst hq; exact below_drewN hbel q
    clear hq
    go_wp2
    go_ret
    exact ⟨by simp, HB4.out⟩

end Go.Proofs.YthdlilekilkogabDoor
