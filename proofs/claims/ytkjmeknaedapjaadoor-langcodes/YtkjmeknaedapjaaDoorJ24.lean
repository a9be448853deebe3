import Derived.Test.YtkjmeknaedapjaaDoorJ22
import Derived.Test.YtkjmeknaedapjaaDoorJ23
import Derived.Test.YtkjmeknaedapjaaDoorJ09
/-
  A LIBRARY'S BYTES: their bounds; libraries alike.
-/
namespace Go.Proofs.YtkjmeknaedapjaaDoor
open Go.RowKit Go.Sort

theorem RowAt.at' {W : World} {g : Nat} {L : List Nat} (h : RowAt W g L) (hz : ∀ z ∈ L, z < 256) : BytesAt W (some ⟨g, 0, none⟩) L :=
  ⟨hz, .inr ⟨g, 0, rfl, fun j hj => by rw [Nat.zero_add]; exact h.cell j hj⟩⟩
theorem procsB_lt (Ps : List Pr) : ∀ z ∈ procsB Ps, z < 256 := by
  induction Ps with
  | nil => intro z hz; simp [procsB] at hz
  | cons x Ps ih =>
    intro z hz
    simp only [procsB, procB, List.mem_append] at hz
    rcases hz with ((h | h) | h) | h
    · exact uint_lt _ _ z h
    · exact nmB_lt _ z h
    · exact written_lt _ _ z h
    · exact ih z h
theorem encN_lt (Ps : List Pr) : ∀ z ∈ encN Ps, z < 256 := by
  intro z hz
  simp only [encN, headL, List.mem_append] at hz
  rcases hz with (h | h) | h
  · simp at h; omega
  · exact uint_lt _ _ z h
  · exact procsB_lt Ps z h
theorem encN_length {Ps : List Pr} (h : (checkN Ps).2 = 0) : (encN Ps).length ≤ 300000 := by
  have h1 := procsB_length Ps (check_small h)
  have h2 := (check_name h).1
  have h3 := uint_length 10 Ps.length
  simp only [encN, headL, List.length_append, List.length_cons, List.length_nil]
  omega
theorem like_core {Ps Qs : List Pr} (h : Qs.map core = Ps.map core) (W : World) (hQ : ∀ x ∈ Qs, PrOK W x) (hP : ∀ x ∈ Ps, PrOK W x) : ∀ i, i < Ps.length → LikeP (pd Qs i) (pd Ps i) ∧ KeysAt W (pd Qs i).ao (pd Qs i).L ∧ KeysAt W (pd Ps i).ao (pd Ps i).L ∧ (pd Ps i).n = (pd Ps i).L.length ∧ (pd Ps i).n * 16 ≤ 140737488355328 := by
  intro i hi
  have hl : Qs.length = Ps.length := by simpa using congrArg List.length h
  have e := core_pd h i
  simp only [core, Prod.mk.injEq] at e
  have h1 := hQ _ (pd_mem (show i < Qs.length by omega))
  have h2 := hP _ (pd_mem hi)
  exact ⟨⟨e.1, e.2.1, by rw [h1.len, h2.len, e.2.2], e.2.2⟩, h1.ks, h2.ks, h2.len, by have := h2.big; omega⟩

end Go.Proofs.YtkjmeknaedapjaaDoor
/-
  THE WALK OF codec.Sum.
-/
namespace Go.Proofs.YtkjmeknaedapjaaDoor
open Go.RowKit

/-- THE TABLE's CELLS. -/
def TabAt (w : World) : Prop := ∀ i, i < 16 → w.cell? ⟨0, i, none⟩ = some (.int .u32 ((Crc.tab.getD i 0 : Nat) : Int))

theorem TabAt.kept {w w1 : World} (h : TabAt w) (hb : Below w.heap.size w w1) : TabAt w1 := by
  intro i hi
  have hlt : 0 < w.heap.size := by
    have h0 := h i hi
    by_cases hlt : 0 < w.heap.size
    · exact hlt
    · have hn : w.heap[0]? = none := Array.getElem?_eq_none_iff.2 (by omega)
      simp [World.cell?, hn] at h0
  rw [hb.cell (p := ⟨0, i, none⟩) hlt]
  exact h i hi
theorem u32_and15 (x : Nat) (hx : x < 4294967296) : bits .and .u32 (x : Int) 15 = ((x % 16 : Nat) : Int) := by
  have h := u32_and_nat x 15 hx (by omega)
  rw [show (15 : Nat) = 2 ^ 4 - 1 from rfl, Nat.and_two_pow_sub_one_eq_mod] at h
  exact h
theorem u32_shr_xor (x y : Nat) (hx : x < 4294967296) (hy : y < 4294967296) : bits .xor .u32 ((x : Int) / 16) (y : Int) = ((x / 16 ^^^ y : Nat) : Int) := by
  rw [show ((x : Int) / 16) = ((x / 16 : Nat) : Int) by omega]
  exact u32_xor_nat (x / 16) y (by omega) hy
theorem u32_not (x : Nat) (hx : x < 4294967296) : bits .xor .u32 IntKind.u32.max (x : Int) = ((4294967295 - x : Nat) : Int) := by
  have h := u32_xor_nat 4294967295 x (by omega) hx
  have e : (4294967295 : Nat) ^^^ x = 4294967295 - x := by
    apply Nat.eq_of_testBit_eq
    intro i
    rw [show (4294967295 : Nat) - x = 2 ^ 32 - (x + 1) by omega, Nat.testBit_two_pow_sub_succ hx, Nat.testBit_xor, show (4294967295 : Nat) = 2 ^ 32 - 1 from rfl, Nat.testBit_two_pow_sub_one]
    by_cases hi : i < 32
    · simp [hi]
    · have : x.testBit i = false := Nat.testBit_lt_two_pow (Nat.lt_of_lt_of_le hx (by
        have : 2 ^ 32 ≤ 2 ^ i := Nat.pow_le_pow_right (by omega) (by omega)
        simpa using this))
      simp [hi, this]
  rw [e] at h
  exact h

set_option maxHeartbeats 400000 in
theorem sum_cells (w : World) (b off cap : Nat) (zs : List Nat) (hz : ∀ z ∈ zs, z < 256) (hm : zs.length ≤ maxLen) (ht : TabAt w)
    (hc : ∀ j, j < zs.length → w.cell? ⟨b, off + j, none⟩ = some (.int .u8 ((zs.getD j 0 : Nat) : Int))) :
    Calls Tryd.prog 30 #[.slice (some ⟨b, off, none⟩) zs.length cap] w fun e w' => e = .returned (.int .u32 ((Crc.sum zs : Nat) : Int)) ∧ w' = w := by
  unfold maxLen at hm
  go_enter Tryd.func30, Tryd.ntmps30
  go_wp2
  go_loop [3, 8] (fun r i => ∃ k : Nat, k ≤ zs.length ∧ i = .int .i64 k ∧ r = .int .u32 ((Crc.crcFrom Crc.all1 (zs.take k) : Nat) : Int)) (fun _ i => zs.length - (intOf i).toNat)
  case atStart => exact ⟨0, Nat.zero_le _, rfl, rfl⟩
  case round =>
    obtain ⟨k, hk, rfl, rfl⟩ := hrel
    have hr := Crc.crcFrom_lt (r := Crc.all1) (zs.take k) (by decide) (take_lt hz k)
    by_cases hlt : k < zs.length
    · have hcell := hc k hlt
      have hcb := getD_lt hz k
      have HT : Hid (Crc.crcFrom Crc.all1 (zs.take (k + 1)) = Crc.crcStep (Crc.crcFrom Crc.all1 (zs.take k)) (zs.getD k 0)) := by
        rw [take_snoc zs k hlt, Crc.crcFrom_snoc]; exact rfl
      generalize Crc.crcFrom Crc.all1 (zs.take k) = r at *
      generalize zs.getD k 0 = c at *
      have e1 := u32_xor_nat r c hr (by omega)
      have l1 : r ^^^ c < 4294967296 := Nat.xor_lt_two_pow (n := 32) hr (by omega)
      have e2 := u32_and15 (r ^^^ c) l1
      have t1 := ht ((r ^^^ c) % 16) (by omega)
      have tl1 := Crc.tab_lt ((r ^^^ c) % 16) (by omega)
      have HS : Hid (Crc.crcStep r c = (((r ^^^ c) / 16 ^^^ Crc.tab.getD ((r ^^^ c) % 16) 0) / 16) ^^^ Crc.tab.getD (((r ^^^ c) / 16 ^^^ Crc.tab.getD ((r ^^^ c) % 16) 0) % 16) 0) := Crc.step_table r c
      generalize r ^^^ c = x at *
      generalize hi1 : x % 16 = i1 at *
      have hi1' : i1 < 16 := by omega
      clear hi1
      generalize Crc.tab.getD i1 0 = y1 at *
      have e3 := u32_shr_xor x y1 l1 tl1
      have l2 : x / 16 ^^^ y1 < 4294967296 := Nat.xor_lt_two_pow (n := 32) (by omega) tl1
      have e4 := u32_and15 (x / 16 ^^^ y1) l2
      have t2 := ht ((x / 16 ^^^ y1) % 16) (by omega)
      have tl2 := Crc.tab_lt ((x / 16 ^^^ y1) % 16) (by omega)
      generalize x / 16 ^^^ y1 = u at *
      generalize hi2 : u % 16 = i2 at *
      have hi2' : i2 < 16 := by omega
      clear hi2
      generalize Crc.tab.getD i2 0 = y2 at *
      have e5 := u32_shr_xor u y2 l2 tl2
      generalize u / 16 ^^^ y2 = v at *
      clear hc ht hz
      go_wp2
      go_round
      case rel => exact ⟨k + 1, by omega, by go_num, by rw [HT.out, HS.out]⟩
      case measure => simp [intOf]; omega
    · have hkl : k = zs.length := by omega
      subst hkl
      have e6 := u32_not _ hr
      rw [List.take_length] at *
      clear hc ht hz
      go_wp2
      go_ret
      exact ⟨rfl, rfl⟩

/-- codec.Sum, whatever slice of bytes. -/
theorem sum_any (w : World) (ao : Option Addr) (cap n : Nat) (zs : List Nat) (hn : n = zs.length) (h : BytesAt w ao zs) (hm : zs.length ≤ maxLen) (ht : TabAt w) :
    Calls Tryd.prog 30 #[.slice ao n cap] w fun e w' => e = .returned (.int .u32 ((Crc.sum zs : Nat) : Int)) ∧ w' = w := by
  subst hn
  obtain ⟨hz, rfl | ⟨b, off, rfl, hc⟩⟩ := h
  · go_enter Tryd.func30, Tryd.ntmps30
    have e6 := u32_not 4294967295 (by omega)
    go_wp2
    go_loop [3, 8] (fun r i => i = .int .i64 0 ∧ r = .int .u32 4294967295) (fun _ i => 0 - (intOf i).toNat)
    case atStart => exact ⟨rfl, rfl⟩
    case round =>
      obtain ⟨rfl, rfl⟩ := hrel
      go_wp2
      go_ret
      exact ⟨rfl, rfl⟩
  · exact sum_cells w b off cap zs hz hm ht hc

end Go.Proofs.YtkjmeknaedapjaaDoor
/-
  THE WALK OF preluderef01.Sum: bit by bit.
-/
namespace Go.Proofs.YtkjmeknaedapjaaDoor
open Go.RowKit

theorem u32_and1 (x : Nat) (hx : x < 4294967296) : bits .and .u32 (x : Int) 1 = ((x % 2 : Nat) : Int) := by
  have h := u32_and_nat x 1 hx (by omega)
  rw [show (1 : Nat) = 2 ^ 1 - 1 from rfl, Nat.and_two_pow_sub_one_eq_mod] at h
  exact h
theorem bit_of (c m : Nat) (hc : c < 256) : bits .and .u32 ((c : Int) / 2 ^ m % 4294967296) 1 = ((c / 2 ^ m % 2 : Nat) : Int) := by
  have l : c / 2 ^ m ≤ c := Nat.div_le_self _ _
  have e : ((c : Int) / 2 ^ m % 4294967296) = ((c / 2 ^ m : Nat) : Int) := by
    have : ((c / 2 ^ m : Nat) : Int) = (c : Int) / 2 ^ m := by simp
    rw [← this]
    generalize c / 2 ^ m = q at *
    omega
  rw [e]
  exact u32_and1 _ (by omega)
theorem xor_poly (x : Nat) (hx : x < 4294967296) : bits .xor .u32 ((x : Int) / 2) 3988292384 = ((x / 2 ^^^ Crc.poly : Nat) : Int) := by
  rw [show ((x : Int) / 2) = ((x / 2 : Nat) : Int) by omega]
  exact u32_xor_nat (x / 2) 3988292384 (by omega) (by omega)
theorem u32_eq {a b : Nat} (h : a = b) : Value.int .u32 (a : Int) = .int .u32 (b : Int) := by rw [h]

set_option maxHeartbeats 400000 in
theorem refSum_cells (w : World) (b off cap : Nat) (zs : List Nat) (hz : ∀ z ∈ zs, z < 256) (hm : zs.length ≤ maxLen)
    (hc : ∀ j, j < zs.length → w.cell? ⟨b, off + j, none⟩ = some (.int .u8 ((zs.getD j 0 : Nat) : Int))) :
    Calls Tryd.prog 34 #[.slice (some ⟨b, off, none⟩) zs.length cap] w fun e w' => e = .returned (.int .u32 ((Crc.sum zs : Nat) : Int)) ∧ w' = w := by
  unfold maxLen at hm
  go_enter Tryd.func34, Tryd.ntmps34
  go_wp2
  go_loop [3, 4] (fun r i => ∃ k : Nat, k ≤ zs.length ∧ i = .int .i64 k ∧ r = .int .u32 ((Crc.crcFrom Crc.all1 (zs.take k) : Nat) : Int)) (fun _ i => zs.length - (intOf i).toNat)
  case atStart => exact ⟨0, Nat.zero_le _, rfl, rfl⟩
  case round =>
    obtain ⟨k, hk, rfl, rfl⟩ := hrel
    have hr := Crc.crcFrom_lt (r := Crc.all1) (zs.take k) (by decide) (take_lt hz k)
    by_cases hlt : k < zs.length
    · have hcell := hc k hlt
      have hcb := getD_lt hz k
      have HT : Hid (Crc.crcFrom Crc.all1 (zs.take (k + 1)) = Crc.crcStep (Crc.crcFrom Crc.all1 (zs.take k)) (zs.getD k 0)) := by
        rw [take_snoc zs k hlt, Crc.crcFrom_snoc]; exact rfl
      generalize Crc.crcFrom Crc.all1 (zs.take k) = r at *
      generalize zs.getD k 0 = c at *
      clear hc hz
      go_wp2
      go_loop [3, 5] (fun x i => ∃ m : Nat, m ≤ 8 ∧ i = .int .i64 m ∧ x = .int .u32 ((Crc.It m (r ^^^ c % 2 ^ m) : Nat) : Int)) (fun _ i => 8 - (intOf i).toNat)
      case atStart => exact ⟨0, by omega, rfl, by simp [Crc.It, Nat.mod_one]⟩
      case round =>
        obtain ⟨m, hm8, rfl, rfl⟩ := hrel
        by_cases hlt8 : m < 8
        · have HB : Hid (Crc.It (m + 1) (r ^^^ c % 2 ^ (m + 1)) = if (c / 2 ^ m) % 2 = Crc.It m (r ^^^ c % 2 ^ m) % 2 then Crc.It m (r ^^^ c % 2 ^ m) / 2 else Crc.It m (r ^^^ c % 2 ^ m) / 2 ^^^ Crc.poly) := by
            have h := Crc.bit_step r c m
            rw [Crc.S_unlike _ _ (by omega)] at h
            exact h.symm
          have hx : Crc.It m (r ^^^ c % 2 ^ m) < 4294967296 := by
            refine Crc.It_lt m (Nat.xor_lt_two_pow (n := 32) hr ?_)
            have := Nat.mod_le c (2 ^ m)
            omega
          generalize Crc.It m (r ^^^ c % 2 ^ m) = x at *
          have ea := bit_of c m hcb
          have eb := u32_and1 x hx
          have ec := xor_poly x hx
          have hb2 : c / 2 ^ m % 2 < 2 := by omega
          generalize c / 2 ^ m % 2 = bit at *
          by_cases hun : bit = x % 2
          · have hT : ((bit : Int) != ((x % 2 : Nat) : Int)) = false := by rw [hun]; simp
            have HU : Hid (bit = x % 2) := hun
            clear hun
            go_wp2
            go_round
            case rel => exact ⟨m + 1, by omega, by go_num, by rw [HB.out, if_pos HU.out]; go_num⟩
            case measure => simp [intOf]; omega
          · have hT : ((bit : Int) != ((x % 2 : Nat) : Int)) = true := by rw [bne_iff_ne]; omega
            go_wp2
            go_round
            case rel => exact ⟨m + 1, by omega, by go_num, by rw [HB.out, if_neg hun]⟩
            case measure => simp [intOf]; omega
        · have h8 : m = 8 := by omega
          subst h8
          have HC : Hid (Crc.It 8 (r ^^^ c % 2 ^ 8) = Crc.crcStep r c) := by
            show _ = Crc.It 8 (r ^^^ c); rw [Nat.mod_eq_of_lt (by omega : c < 2 ^ 8)]
          generalize Crc.It 8 (r ^^^ c % 2 ^ 8) = x at *
          go_wp2
          go_round
          case rel => exact ⟨k + 1, by omega, by go_num, by rw [HT.out, ← HC.out]⟩
          case measure => simp [intOf]; omega
    · have hkl : k = zs.length := by omega
      subst hkl
      have e6 := u32_not _ hr
      rw [List.take_length] at *
      clear hc hz
      go_wp2
      go_ret
      exact ⟨rfl, rfl⟩

/-- preluderef01.Sum, whatever slice of bytes. -/
theorem refSum_any (w : World) (ao : Option Addr) (cap n : Nat) (zs : List Nat) (hn : n = zs.length) (h : BytesAt w ao zs) (hm : zs.length ≤ maxLen) :
    Calls Tryd.prog 34 #[.slice ao n cap] w fun e w' => e = .returned (.int .u32 ((Crc.sum zs : Nat) : Int)) ∧ w' = w := by
  subst hn
  obtain ⟨hz, rfl | ⟨b, off, rfl, hc⟩⟩ := h
  · go_enter Tryd.func34, Tryd.ntmps34
    have e6 := u32_not 4294967295 (by omega)
    go_wp2
    go_loop [3, 4] (fun r i => i = .int .i64 0 ∧ r = .int .u32 4294967295) (fun _ i => 0 - (intOf i).toNat)
    case atStart => exact ⟨rfl, rfl⟩
    case round =>
      obtain ⟨rfl, rfl⟩ := hrel
      go_wp2
      go_ret
      exact ⟨rfl, rfl⟩
  · exact refSum_cells w b off cap zs hz hm hc

end Go.Proofs.YtkjmeknaedapjaaDoor
