import Derived.Test.YtlilaicgmdbhcaaJ08
import Derived.Test.YtlilaicgmdbhcaaJ09
import Derived.Test.YtlilaicgmdbhcaaJ07
/-
  THE WALK OF preluderef01.number.
-/
namespace Go.Proofs.Ytlilaicgmdbhcaa
open Go.RowKit

theorem add_low (acc c i : Nat) (ha : acc < 2 ^ (7 * i)) (hi : i ≤ 9) (h9 : i = 9 → c % 128 ≤ 1) : IntKind.u64.wrap ((acc : Int) + IntKind.u64.wrap ((c : Int) % 128 * 2 ^ (7 * i))) = ((acc + c % 128 * 2 ^ (7 * i) : Nat) : Int) := by
  have hl : acc + c % 128 * 2 ^ (7 * i) < 18446744073709551616 := by
    by_cases e : i = 9
    · subst e
      have := h9 rfl
      have : c % 128 * 2 ^ (7 * 9) ≤ 1 * 2 ^ (7 * 9) := Nat.mul_le_mul_right _ this
      omega
    · have h1 : 2 ^ (7 * i) ≤ 2 ^ 56 := Nat.pow_le_pow_right (by omega) (by omega)
      have h2 : c % 128 * 2 ^ (7 * i) ≤ 127 * 2 ^ 56 := Nat.mul_le_mul (by omega) h1
      omega
  have e1 : ((c : Int) % 128 * 2 ^ (7 * i)) = ((c % 128 * 2 ^ (7 * i) : Nat) : Int) := by simp
  rw [e1, IntKind.wrap_u64, IntKind.wrap_u64]
  generalize c % 128 * 2 ^ (7 * i) = x at *
  omega

set_option maxRecDepth 100000 in
set_option maxHeartbeats 1000000 in
theorem number_any (w : World) (b off cap n : Nat) (zs : List Nat) (hn : n = zs.length) (hb : BytesAt w (some ⟨b, off, none⟩) zs) (hm : zs.length ≤ maxLen) :
    Calls Try.prog 80 #[.slice (some ⟨b, off, none⟩) n cap] w fun e w' => e = .returned (.tuple #[.int .u64 (((scan zs).1 : Nat) : Int), .int .i64 (((scan zs).2.1 : Nat) : Int), .int .i64 (((scan zs).2.2 : Nat) : Int)]) ∧ w' = w := by
  subst hn
  have hz := hb.1
  have hc : ∀ j, j < zs.length → w.cell? ⟨b, off + j, none⟩ = some (.int .u8 ((zs.getD j 0 : Nat) : Int)) := by
    intro j hj
    obtain ⟨_, h0 | ⟨b', o', e, h1⟩⟩ := hb
    · rw [h0] at hj; simp at hj
    · simp only [Option.some.injEq, Addr.mk.injEq] at e
      obtain ⟨rfl, rfl, _⟩ := e
      exact h1 j hj
  clear hb
  unfold maxLen at hm
  go_enter Try.func80, Try.ntmps80
  go_wp2
  go_loop [5, 6] (fun n i => ∃ k acc : Nat, k ≤ zs.length ∧ k ≤ 9 ∧ i = .int .i64 k ∧ n = .int .u64 (acc : Int) ∧ acc < 2 ^ (7 * k) ∧ Hid (scan zs = scanFrom k acc (zs.drop k))) (fun _ i => zs.length - (intOf i).toNat)
  case atStart => exact ⟨0, 0, Nat.zero_le _, by omega, rfl, rfl, by simp, rfl⟩
  case round =>
    obtain ⟨k, acc, hk, hk9, rfl, rfl, hacc, hsc⟩ := hrel
    have hk10 : (k : Int) < 10 := by omega
    by_cases hlt : k < zs.length
    · have hcell := hc k hlt
      have hcb := getD_lt hz k
      have hkl : ((k : Int) == (zs.length : Int)) = false := by rw [beq_eq_false_iff_ne]; omega
      have HD : Hid (zs.drop k = zs.getD k 0 :: zs.drop (k + 1)) := by
        rw [Hid, List.drop_eq_getElem_cons hlt, List.getD_eq_getElem?_getD, List.getElem?_eq_getElem hlt]; rfl
      generalize zs.getD k 0 = c at *
      have HS : Hid (scan zs = if (k = 9 ∧ 1 < c) ∨ (0 < k ∧ c = 0) then (0, 0, 11) else if c < 128 then (acc + c * 2 ^ (7 * k), k + 1, 0) else scanFrom (k + 1) (acc + (c - 128) * 2 ^ (7 * k)) (zs.drop (k + 1))) := by
        rw [Hid, hsc.out, HD.out, scanFrom]
      clear hc hz
      by_cases hbad : (k = 9 ∧ 1 < c) ∨ (0 < k ∧ c = 0)
      · have HE : Hid (scan zs = (0, 0, 11)) := by rw [Hid, HS.out, if_pos hbad]
        by_cases h9 : k = 9
        · subst h9
          by_cases h1 : 1 < c
          · have h1' : (1 : Int) < (c : Int) := by omega
            clear hbad
            go_wp2
            go_ret3
            exact ⟨by rw [HE.out]; rfl, rfl⟩
          · obtain rfl : c = 0 := by omega
            clear hbad
            go_wp2
            go_ret3
            exact ⟨by rw [HE.out]; rfl, rfl⟩
        · have hk9' : ¬ (k : Int) = 9 := by omega
          obtain rfl : c = 0 := by omega
          have hk0 : (0 : Int) < (k : Int) := by omega
          clear hbad
          go_wp2
          go_ret3
          exact ⟨by rw [HE.out]; rfl, rfl⟩
      · have HG : Hid (scan zs = if c < 128 then (acc + c * 2 ^ (7 * k), k + 1, 0) else scanFrom (k + 1) (acc + (c - 128) * 2 ^ (7 * k)) (zs.drop (k + 1))) := by rw [Hid, HS.out, if_neg hbad]
        have HO : Hid (IntKind.u64.wrap ((acc : Int) + IntKind.u64.wrap ((c : Int) % 128 * 2 ^ (7 * k))) = ((acc + c % 128 * 2 ^ (7 * k) : Nat) : Int)) := add_low acc c k hacc hk9 (by omega)
        have HA : Hid (acc + (c - 128) * 2 ^ (7 * k) < 2 ^ (7 * (k + 1))) := by
          rw [Hid, pow7]
          have : (c - 128) * 2 ^ (7 * k) ≤ 127 * 2 ^ (7 * k) := Nat.mul_le_mul_right _ (by omega)
          omega
        by_cases hlow : c < 128
        · have HE : Hid (scan zs = (acc + c % 128 * 2 ^ (7 * k), k + 1, 0)) := by rw [Hid, HG.out, if_pos hlow, Nat.mod_eq_of_lt hlow]
          have hlow' : (c : Int) < 128 := by omega
          clear hlow
          have hgo : (k = 9 ∧ c = 1) ∨ (k ≠ 9 ∧ (k = 0 ∨ c ≠ 0)) := by omega
          clear hbad
          rcases hgo with ⟨rfl, rfl⟩ | ⟨h9, h0⟩
          · have HE9 : Hid (scan zs = (acc + 9223372036854775808, 10, 0)) := HE.out
            have HV : Hid ((acc : Int) + 9223372036854775808 = ((acc + 9223372036854775808 : Nat) : Int)) := by rw [Hid]; omega
            clear HE HO HA HG HS
            go_wp2
            go_ret3
            refine ⟨?_, rfl⟩
            show Ending.returned (.tuple #[.int .u64 ((acc : Int) + 9223372036854775808), .int .i64 10, .int .i64 0]) = _
            rw [HE9.out, HV.out]
            rfl
          · have hk9' : ¬ (k : Int) = 9 := by omega
            rcases h0 with hkz | h0
            · have hk0 : ¬ (0 : Int) < (k : Int) := by omega
              clear hkz
              go_wp2
              go_ret3
              exact ⟨by rw [HE.out, ← HO.out]; rfl, rfl⟩
            · have hc0 : ¬ (c : Int) = 0 := by omega
              by_cases hkk : k = 0
              · have hk0 : ¬ (0 : Int) < (k : Int) := by omega
                clear hkk
                go_wp2
                go_ret3
                exact ⟨by rw [HE.out, ← HO.out]; rfl, rfl⟩
              · have hk0 : (0 : Int) < (k : Int) := by omega
                go_wp2
                go_ret3
                exact ⟨by rw [HE.out, ← HO.out]; rfl, rfl⟩
        · have HE : Hid (scan zs = scanFrom (k + 1) (acc + c % 128 * 2 ^ (7 * k)) (zs.drop (k + 1))) := by rw [Hid, HG.out, if_neg hlow, show c - 128 = c % 128 by omega]
          have HA' : Hid (acc + c % 128 * 2 ^ (7 * k) < 2 ^ (7 * (k + 1))) := by rw [show c % 128 = c - 128 by omega]; exact HA
          have hlow' : ¬ (c : Int) < 128 := by omega
          have hk9' : ¬ (k : Int) = 9 := by omega
          have hc0 : ¬ (c : Int) = 0 := by omega
          have hk8 : k + 1 ≤ 9 := by omega
          clear hlow hbad
          by_cases hkk : k = 0
          · have hk0 : ¬ (0 : Int) < (k : Int) := by omega
            clear hkk
            go_wp2
            go_round
            case rel => exact ⟨k + 1, _, by omega, by omega, by go_num, by rw [HO.out], HA'.out, HE⟩
            case measure => simp [intOf]; omega
          · have hk0 : (0 : Int) < (k : Int) := by omega
            go_wp2
            go_round
            case rel => exact ⟨k + 1, _, by omega, by omega, by go_num, by rw [HO.out], HA'.out, HE⟩
            case measure => simp [intOf]; omega
    · have HE : Hid (scan zs = (0, 0, 10)) := by rw [Hid, hsc.out, List.drop_of_length_le (by omega)]; rfl
      obtain rfl : k = zs.length := by omega
      clear hc hz
      go_wp2
      go_ret3
      exact ⟨by rw [HE.out]; rfl, rfl⟩

end Go.Proofs.Ytlilaicgmdbhcaa
/-
  THE WALKS OF preluderef01.Reader's METHODS over bytes that are not its own: Uint, Upto, Int.
-/
namespace Go.Proofs.Ytlilaicgmdbhcaa
open Go.RowKit

/-- BLOCK r IS A Reader OF THE BYTES b, WHEREVER THEY LIE, AT p, WITH THE ERROR e. -/
def IsMod (w : World) (r : Nat) (a : Option Addr) (c : Nat) (b : List Nat) (p : Nat) (e : Int) : Prop :=
  w.heap[r]? = some (.cells #[.slice a b.length c, .int .i64 (p : Int), .int .i64 e] 87 (0, 0)) ∧ BytesAt w a b ∧ p ≤ b.length ∧ b.length ≤ 140737488355328 ∧ b.length ≤ c ∧ c ≤ maxLen ∧ (a = none → c = 0) ∧ ∀ x, b ≠ [] → a = some x → x.block ≠ r

section
variable {w w1 : World} {r : Nat} {a : Option Addr} {c : Nat} {b : List Nat} {p : Nat} {e : Int}
theorem IsMod.c0 (h : IsMod w r a c b p e) : w.cell? ⟨r, 0, none⟩ = some (.slice a b.length c) := by simp [World.cell?, h.1]
theorem IsMod.c1 (h : IsMod w r a c b p e) : w.cell? ⟨r, 1, none⟩ = some (.int .i64 (p : Int)) := by simp [World.cell?, h.1]
theorem IsMod.c2 (h : IsMod w r a c b p e) : w.cell? ⟨r, 2, none⟩ = some (.int .i64 e) := by simp [World.cell?, h.1]
theorem IsMod.frozen (h : IsMod w r a c b p e) (j : Nat) : w.frozen? ⟨r, j, none⟩ = false := frozen_of_row w r j _ _ h.1
theorem IsMod.lt (h : IsMod w r a c b p e) : r < w.heap.size := (Array.getElem?_eq_some_iff.1 h.1).1
theorem IsMod.bytes (h : IsMod w r a c b p e) : BytesAt w a b := h.2.1
theorem IsMod.drewN (h : IsMod w r a c b p e) (n : Nat) : IsMod (w.drewN n) r a c b p e := h
theorem IsMod.kept (h : IsMod w r a c b p e) (hb : Below w.heap.size w w1) : IsMod w1 r a c b p e :=
  ⟨by rw [hb.block r h.lt]; exact h.1, h.2.1.kept hb, h.2.2⟩
theorem bytes_set (hb : BytesAt w a b) (j : Nat) (v : Value) (hne : ∀ x, b ≠ [] → a = some x → x.block ≠ r) : BytesAt (w.setCell ⟨r, j, none⟩ v) a b := by
  refine ⟨hb.1, ?_⟩
  rcases hb.2 with h | ⟨g, off, rfl, hc⟩
  · exact .inl h
  · by_cases h0 : b = []
    · exact .inl h0
    · refine .inr ⟨g, off, rfl, fun j' hj => ?_⟩
      have h1 := hc j' hj
      simp only [World.cell?] at h1 ⊢
      rw [heap_setCell_other w ⟨r, j, none⟩ g v (by have := hne _ h0 rfl; simpa using this)]; exact h1
theorem IsMod.setAt (h : IsMod w r a c b p e) (q : Nat) (hq : q ≤ b.length) : IsMod (w.setCell ⟨r, 1, none⟩ (.int .i64 (q : Int))) r a c b q e := by
  refine ⟨?_, bytes_set h.2.1 _ _ h.2.2.2.2.2.2.2, hq, h.2.2.2⟩
  have := heap_setCell_same w r 1 _ _ (.int .i64 (q : Int)) h.1
  rw [this]; rfl
theorem IsMod.setErr (h : IsMod w r a c b p e) (x : Int) : IsMod (w.setCell ⟨r, 2, none⟩ (.int .i64 x)) r a c b p x := by
  refine ⟨?_, bytes_set h.2.1 _ _ h.2.2.2.2.2.2.2, h.2.2⟩
  have := heap_setCell_same w r 2 _ _ (.int .i64 x) h.1
  rw [this]; rfl
end

/-- what a call of a model Reader leaves: its own block, and new ones -/
def Mods (w : World) (r : Nat) (a : Option Addr) (c : Nat) (b : List Nat) (p : Nat) (e : Int) (w' : World) : Prop := IsMod w' r a c b p e ∧ w.grownBy w' (some r)

theorem scanFrom_err : ∀ (C : List Nat) (i acc : Nat), (scanFrom i acc C).2.2 ≠ 0 → (scanFrom i acc C).1 = 0 ∧ (scanFrom i acc C).2.1 = 0
  | [], _, _, _ => ⟨rfl, rfl⟩
  | c :: r, i, acc, h => by
    rw [scanFrom] at h ⊢
    split
    · exact ⟨rfl, rfl⟩
    · rename_i h1
      rw [if_neg h1] at h
      split
      · rename_i h2
        rw [if_pos h2] at h
        exact absurd rfl h
      · rename_i h2
        rw [if_neg h2] at h
        exact scanFrom_err r _ _ h
theorem scan_zero (C : List Nat) (h : (scan C).2.2 ≠ 0) : (scan C).1 = 0 ∧ (scan C).2.1 = 0 := scanFrom_err C 0 0 h
theorem scan_lt (C : List Nat) (hz : ∀ z ∈ C, z < 256) : (scan C).1 < 18446744073709551616 ∧ (scan C).2.1 ≤ C.length := by
  by_cases h : (scan C).2.2 = 0
  · have h3 := scan_one C (scan C).1 (scan C).2.1 hz (by rw [← h])
    exact ⟨h3.1, h3.2.2.1⟩
  · have := scan_zero C h
    omega
theorem rdUpto_scan (b : List Nat) (hz : ∀ z ∈ b, z < 256) (p : Nat) : rdUpto b p 0 18446744073709551615 = ((scan (b.drop p)).1, p + (scan (b.drop p)).2.1, (((scan (b.drop p)).2.2 : Nat) : Int)) := by
  have hl := scan_lt (b.drop p) (fun z hz' => hz z (List.mem_of_mem_drop hz'))
  have he := scan_zero (b.drop p)
  unfold rdUpto
  rw [if_neg (show ¬ (0 : Int) ≠ 0 by simp)]
  split
  · rename_i h
    rw [(he h).1, (he h).2, Nat.add_zero]
  · rename_i h
    rw [if_neg (by omega), Decidable.not_not.1 h]
    rfl

/-- nothing to read, wherever it lies -/
theorem number_nil (w : World) (ao : Option Addr) (cap : Nat) (zs : List Nat) (hn : 0 = zs.length) :
    Calls Try.prog 80 #[.slice ao 0 cap] w fun e w' => e = .returned (.tuple #[.int .u64 (((scan zs).1 : Nat) : Int), .int .i64 (((scan zs).2.1 : Nat) : Int), .int .i64 (((scan zs).2.2 : Nat) : Int)]) ∧ w' = w := by
  have HE : Hid (scan zs = (0, 0, 10)) := by rw [Hid, List.eq_nil_of_length_eq_zero hn.symm]; rfl
  clear hn
  go_enter Try.func80, Try.ntmps80
  go_wp2
  go_loop [5, 6] (fun n i => i = .int .i64 0 ∧ n = .int .u64 0) (fun _ _ => 0)
  case atStart => exact ⟨rfl, rfl⟩
  case round =>
    obtain ⟨rfl, rfl⟩ := hrel
    go_wp2
    go_ret3
    exact ⟨by rw [HE.out]; rfl, rfl⟩

set_option maxHeartbeats 400000 in
theorem uUint_any (w : World) (r : Nat) (ad : Option Addr) (c : Nat) (b : List Nat) (p : Nat) (e : Int) (h : IsMod w r ad c b p e) :
    Calls Try.prog 64 #[.pointer (some ⟨r, 0, none⟩)] w fun e' w' => e' = .returned (.int .u64 (((rdUpto b p e 18446744073709551615).1 : Nat) : Int)) ∧ Mods w r ad c b (rdUpto b p e 18446744073709551615).2.1 (rdUpto b p e 18446744073709551615).2.2 w' := by
  have HR : Hid (IsMod w r ad c b p e) := h
  have h0 := h.c0
  have h1 := h.c1
  have h2 := h.c2
  have f1 := h.frozen 1
  have f2 := h.frozen 2
  have hp := h.2.2.1
  have hl := h.2.2.2.1
  have hlc := h.2.2.2.2.1
  have hcm := h.2.2.2.2.2.1
  have hnil := h.2.2.2.2.2.2.1
  clear h
  by_cases he : e = 0
  · subst he
    have HZ : Hid (∀ z ∈ b.drop p, z < 256) := fun z hz => HR.out.2.1.1 z (List.mem_of_mem_drop hz)
    have HU := rdUpto_scan b HR.out.2.1.1 p
    have HSL := (scan_lt (b.drop p) HZ.out).2
    rw [List.length_drop] at HSL
    have HMX : Hid ((b.drop p).length ≤ maxLen) := by rw [Hid, List.length_drop]; unfold maxLen; omega
    have hcm' : c ≤ 9223372036854775807 := by unfold maxLen at hcm; omega
    have HLN : Hid (b.length - p = (b.drop p).length) := by rw [Hid, List.length_drop]
    have HU' : Hid (rdUpto b p 0 18446744073709551615 = ((scan (b.drop p)).1, p + (scan (b.drop p)).2.1, (((scan (b.drop p)).2.2 : Nat) : Int))) := HU
    have HSL' : Hid ((scan (b.drop p)).2.1 ≤ b.length - p) := HSL
    clear HU HSL hcm HZ
    have HEND' : Hid (∀ nq : Nat, Hid (Mods w r ad c b (p + (scan (b.drop p)).2.1) (((scan (b.drop p)).2.2 : Nat) : Int) (((w.setCell ⟨r, 2, none⟩ (.int .i64 (((scan (b.drop p)).2.2 : Nat) : Int))).setCell ⟨r, 1, none⟩ (.int .i64 ((p : Int) + (((scan (b.drop p)).2.1 : Nat) : Int)))).drewN nq))) := by
      intro nq
      have hk : p + (scan (b.drop p)).2.1 ≤ b.length := by have := HSL'.out; omega
      exact ⟨(HR.out.setErr _).setAt (p + (scan (b.drop p)).2.1) hk, grown_trans' (grown_trans' (grown_setCell w ⟨r, 2, none⟩ _) (grown_setCell _ ⟨r, 1, none⟩ _)) (grown_drewN _ _ _)⟩
    have hkm : (scan (b.drop p)).2.1 ≤ 140737488355328 := by have := HSL'.out; omega
    by_cases hb0 : b = []
    · have hbl : b.length = 0 := by rw [hb0]; rfl
      obtain rfl : p = 0 := by omega
      simp only [List.drop_zero] at HU' HSL' HEND' hkm HMX
      have HL0 : Hid (0 = b.length) := by rw [hb0]; exact rfl
      rw [hbl] at h0
      clear hb0 hbl
      have HEND2 : Hid (∀ nq : Nat, Hid (Mods w r ad c b (0 + (scan b).2.1) (((scan b).2.2 : Nat) : Int) (((w.setCell ⟨r, 2, none⟩ (.int .i64 (((scan b).2.2 : Nat) : Int))).setCell ⟨r, 1, none⟩ (.int .i64 (((scan b).2.1 : Nat) : Int))).drewN nq))) := by
        intro nq
        have h := HEND'.out nq
        rw [show ((0 : Nat) : Int) + (((scan b).2.1 : Nat) : Int) = (((scan b).2.1 : Nat) : Int) from by omega] at h
        exact h
      clear HEND'
      clear HLN hlc hp hl
      cases ad with
      | none =>
        obtain rfl : c = 0 := hnil rfl
        clear hnil
        go_enter Try.func64, Try.ntmps64
        go_wp2
        go_quiet ((go_at_call 80; exact Calls.quiet_of_same (number_nil _ _ _ b HL0.out)))
        have HF := HEND2.out nq
        generalize scan b = s at *
        go_wp2
        go_ret
        exact ⟨by rw [HU'.out]; rfl, by rw [HU'.out]; exact HF.out⟩
      | some x =>
        clear hnil
        by_cases hc0 : c = 0
        · subst hc0
          go_enter Try.func64, Try.ntmps64
          go_wp2
          go_quiet ((go_at_call 80; exact Calls.quiet_of_same (number_nil _ _ _ b HL0.out)))
          have HF := HEND2.out nq
          generalize scan b = s at *
          go_wp2
          go_ret
          exact ⟨by rw [HU'.out]; rfl, by rw [HU'.out]; exact HF.out⟩
        · have hcc : (c : Int) ≠ 0 := by omega
          go_enter Try.func64, Try.ntmps64
          go_wp2
          go_quiet ((go_at_call 80; exact Calls.quiet_of_same (number_nil _ _ _ b HL0.out)))
          have HF := HEND2.out nq
          generalize scan b = s at *
          go_wp2
          go_ret
          exact ⟨by rw [HU'.out]; rfl, by rw [HU'.out]; exact HF.out⟩
    · obtain ⟨g, o, rfl, _⟩ := HR.out.bytes.2.resolve_left hb0
      clear hnil hb0
      by_cases hcp : c = p
      · have hbl : b.length = p := by omega
        have hcz : (c : Int) - (p : Int) = 0 := by omega
        have hlz : (b.length : Int) - (p : Int) = 0 := by omega
        have HL0 : Hid (0 = (b.drop p).length) := by rw [Hid, List.length_drop]; omega
        have HSC : Hid (BytesAt w (some ⟨g, o, none⟩) (b.drop p)) := by rw [List.drop_of_length_le (by omega)]; exact ⟨by simp, .inl rfl⟩
        go_enter Try.func64, Try.ntmps64
        go_wp2
        go_quiet ((go_at_call 80; exact Calls.quiet_of_same (number_any _ _ _ _ _ (b.drop p) HL0.out (HSC.out.drewN _) HMX.out)))
        have HF := HEND'.out nq
        generalize scan (b.drop p) = s at *
        go_wp2
        go_ret
        exact ⟨by rw [HU'.out]; rfl, by rw [HU'.out]; exact HF.out⟩
      · have HSC : Hid (BytesAt w (some ⟨g, o + p, none⟩) (b.drop p)) := HR.out.bytes.drop p
        go_enter Try.func64, Try.ntmps64
        go_wp2
        go_quiet ((go_at_call 80; exact Calls.quiet_of_same (number_any _ _ _ _ _ (b.drop p) HLN.out (HSC.out.drewN _) HMX.out)))
        have HF := HEND'.out nq
        generalize scan (b.drop p) = s at *
        go_wp2
        go_ret
        exact ⟨by rw [HU'.out]; rfl, by rw [HU'.out]; exact HF.out⟩
  · have he' : (e != 0) = true := by rw [bne_iff_ne]; exact he
    have HE : Hid (rdUpto b p e 18446744073709551615 = (0, p, e)) := by unfold rdUpto; rw [Hid, if_pos he]
    clear he
    go_enter Try.func64, Try.ntmps64
    go_wp2
    go_ret
    exact ⟨by rw [HE.out]; rfl, by rw [HE.out]; exact ⟨HR.out, World.grownBy.refl _ _⟩⟩

set_option maxHeartbeats 400000 in
theorem uUpto_any (w : World) (r : Nat) (ad : Option Addr) (c : Nat) (b : List Nat) (p : Nat) (e : Int) (most : Nat) (h : IsMod w r ad c b p e) :
    Calls Try.prog 45 #[.pointer (some ⟨r, 0, none⟩), .int .u64 (most : Int)] w fun e' w' => e' = .returned (.int .u64 (((rdUpto b p e most).1 : Nat) : Int)) ∧ Mods w r ad c b (rdUpto b p e most).2.1 (rdUpto b p e most).2.2 w' := by
  have HR : Hid (IsMod w r ad c b p e) := h
  have h1 := h.c1
  have hp := h.2.2.1
  have hl := h.2.2.2.1
  clear h
  go_enter Try.func45, Try.ntmps45
  go_wp2_with fail
  refine (uUint_any w r ad c b p e HR.out).mono ?_
  rintro e1 w1 ⟨rfl, hr1, hg1⟩
  have k2 := hr1.c2
  have f1 := hr1.frozen 1
  have f2 := hr1.frozen 2
  have k1 := hr1.c1
  have HG1 : Hid (w.grownBy w1 (some r)) := hg1
  have HR1 : Hid (IsMod w1 r ad c b (rdUpto b p e 18446744073709551615).2.1 (rdUpto b p e 18446744073709551615).2.2) := hr1
  clear hr1 hg1 h1
  by_cases he : e = 0
  · subst he
    have HU : Hid (rdUpto b p 0 18446744073709551615 = ((scan (b.drop p)).1, p + (scan (b.drop p)).2.1, (((scan (b.drop p)).2.2 : Nat) : Int))) := rdUpto_scan b HR.out.2.1.1 p
    have HM : Hid (rdUpto b p 0 most = if (scan (b.drop p)).2.2 ≠ 0 then (0, p, (((scan (b.drop p)).2.2 : Nat) : Int)) else if most < (scan (b.drop p)).1 then (0, p, 12) else ((scan (b.drop p)).1, p + (scan (b.drop p)).2.1, 0)) := by
      unfold rdUpto; rw [Hid, if_neg (by simp)]
    have HZ : Hid ((scan (b.drop p)).2.2 ≠ 0 → (scan (b.drop p)).1 = 0 ∧ (scan (b.drop p)).2.1 = 0) := scan_zero (b.drop p)
    rw [HU.out] at k1 k2
    rw [HU.out] at HR1
    rw [HU.out]
    clear HU
    generalize scan (b.drop p) = s at *
    by_cases t1 : s.2.2 = 0
    · have hT1 : (((s.2.2 : Nat) : Int) == 0) = true := by rw [beq_iff_eq]; omega
      by_cases t2 : most < s.1
      · have hT2 : (most : Int) < ((s.1 : Nat) : Int) := by omega
        have HE : Hid (rdUpto b p 0 most = (0, p, 12)) := by rw [Hid, HM.out, if_neg (by simp [t1]), if_pos t2]
        have HW' : Hid (Mods w r ad c b p 12 ((w1.setCell ⟨r, 2, none⟩ (.int .i64 12)).setCell ⟨r, 1, none⟩ (.int .i64 (p : Int)))) := ⟨(HR1.out.setErr 12).setAt p hp, grown_trans' HG1.out (grown_trans' (grown_setCell w1 ⟨r, 2, none⟩ _) (grown_setCell _ ⟨r, 1, none⟩ _))⟩
        clear t1 t2
        go_wp2
        go_ret
        exact ⟨by rw [HE.out]; rfl, by rw [HE.out]; exact HW'.out⟩
      · have hT2 : ¬ (most : Int) < ((s.1 : Nat) : Int) := by omega
        have HE : Hid (rdUpto b p 0 most = (s.1, p + s.2.1, 0)) := by rw [Hid, HM.out, if_neg (by simp [t1]), if_neg t2]
        have HW' : Hid (Mods w r ad c b (p + s.2.1) 0 w1) := ⟨by have := HR1.out; rw [t1] at this; exact this, HG1.out⟩
        clear t1 t2
        go_wp2
        go_ret
        exact ⟨by rw [HE.out]; rfl, by rw [HE.out]; exact HW'.out⟩
    · have hT1 : (((s.2.2 : Nat) : Int) == 0) = false := by rw [beq_eq_false_iff_ne]; omega
      have HE : Hid (rdUpto b p 0 most = (0, p, ((s.2.2 : Nat) : Int))) := by rw [Hid, HM.out, if_pos t1]
      have HW' : Hid (Mods w r ad c b p ((s.2.2 : Nat) : Int) w1) := ⟨by have := HR1.out; rw [(HZ.out t1).2] at this; exact this, HG1.out⟩
      have HZ1 : Hid (s.1 = 0) := (HZ.out t1).1
      clear t1
      go_wp2
      go_ret
      exact ⟨by rw [HE.out]; show Ending.returned (.int .u64 ((s.1 : Nat) : Int)) = _; rw [HZ1.out], by rw [HE.out]; exact HW'.out⟩
  · have he' : (e == 0) = false := by rw [beq_eq_false_iff_ne]; exact he
    have HE : Hid (rdUpto b p e 18446744073709551615 = (0, p, e)) := by unfold rdUpto; rw [Hid, if_pos he]
    have HE2 : Hid (rdUpto b p e most = (0, p, e)) := by unfold rdUpto; rw [Hid, if_pos he]
    rw [HE.out] at k1 k2
    rw [HE.out] at HR1
    rw [HE.out]
    clear he HE
    go_wp2
    go_ret
    exact ⟨by rw [HE2.out]; rfl, by rw [HE2.out]; exact ⟨HR1.out, HG1.out⟩⟩

theorem refUnfold_any (w : World) (n : Nat) (hn : n < 18446744073709551616) :
    Calls Try.prog 81 #[.int .u64 (n : Int)] w fun e w' => e = .returned (.int .i64 (unfold n)) ∧ w' = w := by
  go_enter Try.func81, Try.ntmps81
  by_cases h2 : n % 2 = 1
  · have h2' : ((n : Int) % 2 == 0) = false := by rw [beq_eq_false_iff_ne]; omega
    have HU : Hid (unfold n = -1 - ((n / 2 : Nat) : Int)) := by unfold unfold; rw [Hid, if_pos h2]
    clear h2
    go_wp2
    go_ret
    exact ⟨by rw [HU.out]; rfl, rfl⟩
  · have h2' : ((n : Int) % 2 == 0) = true := by rw [beq_iff_eq]; omega
    have HU : Hid (unfold n = ((n / 2 : Nat) : Int)) := by unfold unfold; rw [Hid, if_neg h2]
    clear h2
    go_wp2
    go_ret
    exact ⟨by rw [HU.out]; rfl, rfl⟩

theorem uInt_any (w : World) (r : Nat) (ad : Option Addr) (c : Nat) (b : List Nat) (p : Nat) (e : Int) (h : IsMod w r ad c b p e) :
    Calls Try.prog 65 #[.pointer (some ⟨r, 0, none⟩)] w fun e' w' => e' = .returned (.int .i64 (unfold (rdUpto b p e 18446744073709551615).1)) ∧ Mods w r ad c b (rdUpto b p e 18446744073709551615).2.1 (rdUpto b p e 18446744073709551615).2.2 w' := by
  have hlt := rdUpto_lt b h.2.1.1 p e 18446744073709551615
  go_enter Try.func65, Try.ntmps65
  go_wp2_with fail
  refine (uUint_any w r ad c b p e h).mono ?_
  rintro e1 w1 ⟨rfl, hr⟩
  go_wp2_with fail
  refine (refUnfold_any w1 _ hlt).mono ?_
  rintro e2 w2 ⟨rfl, rfl⟩
  go_wp2
  go_ret
  exact ⟨rfl, hr⟩

end Go.Proofs.Ytlilaicgmdbhcaa
/-
  THE WALKS OF preluderef01.Uint, Fold, Int.
-/
namespace Go.Proofs.Ytlilaicgmdbhcaa
open Go.RowKit

/-- append at a slice of bytes of the call's own, as one equation -/
theorem run_append_bytes {w : World} (ty : TypeId) (base : Nat) (v : Value) (L : List Nat) (hown : OwnB w base v L)
    (ao : Option Addr) (m c : Nat) (zs : List Nat) (hm : m = zs.length) (hsrc : BytesAt w ao zs) (hnil : ao = none → c = 0) (hlen : L.length + zs.length ≤ 140737488355328) (hbase : base ≤ w.heap.size) :
    ∃ v' w', (Builtin.append_ #[25, 25] ty #[v, .slice ao m c]).run Try.prog w = .ok v' w' ∧ OwnB w' base v' (L ++ zs) ∧ w.grownBy w' v.ownBlock ∧ (v'.ownBlock = v.ownBlock ∨ v'.ownBlock = some w.heap.size) := by
  obtain ⟨i0, hi, hz0, hz1, hz2⟩ := info_parts info8
  subst hm
  have hzz : ∀ z ∈ L ++ zs, z < 256 := by
    intro z hz
    rcases List.mem_append.1 hz with h1 | h1
    · exact hown.1 z h1
    · exact hsrc.1 z h1
  cases ao with
  | none =>
    have h0 : zs = [] := by
      obtain ⟨_, h1 | ⟨b, off, h1, _⟩⟩ := hsrc
      · exact h1
      · cases h1
    subst h0
    obtain rfl := hnil rfl
    exact ⟨v, w, run_append_owned_none (P := Try.prog) (w := w) base 25 ty 5 i0 1 Try.underlying25 hi v L.length (L.map b8) hown.2, by simpa using hown, World.grownBy.refl _ _, .inl rfl⟩
  | some ad =>
    obtain ⟨v', w', hr, h2, h3, _, h5⟩ := run_append_own_at (P := Try.prog) w base 25 ty 5 i0 (.int .u8 0) 1 1 Try.underlying25 hi hz0 hz1 hz2 rfl (by decide) v L.length (L.map b8) hown.2 ad zs.length c (zs.map b8) (by simp)
      (by
        intro j u hu
        by_cases h0 : zs = []
        · subst h0; simp at hu
        · obtain ⟨ad', e, hc⟩ := bytes_src hsrc h0
          cases e
          exact hc j u hu) (oneCells zs) (by unfold maxLen; omega) (by omega) hbase
    exact ⟨v', w', hr, ⟨hzz, by rw [List.length_append, List.map_append]; exact h2⟩, h3, h5⟩
/-- at a step of a region that draws -/
theorem step_append_bytes {w : World} {ops : Array Oper} {o : Oper} {a : Act} {K : Act → World → Prop} {Q : Exit → Act → World → Prop} {E : Prop} (hgd : o.guard = none) (s x : Operand)
    (ho : o.op = .call { callee := .builtin .append, args := #[s, x], argTypes := #[25, 25] }) (base : Nat) (v : Value) (L : List Nat) (hs : a.eval s = v) (hown : OwnB w base v L)
    (ao : Option Addr) (m c : Nat) (zs : List Nat) (hx : a.eval x = .slice ao m c) (hm : m = zs.length) (hsrc : BytesAt w ao zs) (hnil : ao = none → c = 0) (hlen : L.length + zs.length ≤ 140737488355328) (hbase : base ≤ w.heap.size)
    (h : ∀ v' w', OwnB w' base v' (L ++ zs) → w.grownBy w' v.ownBlock → (v'.ownBlock = v.ownBlock ∨ v'.ownBlock = some w.heap.size) → K (a.put o.dst v') w') :
    if Region.wanted o (yielded ops a.tmps) = true then Oper.wp Try.prog o a w K Q else E := by
  have hw : Region.wanted o (yielded ops a.tmps) = true := by simp [Region.wanted, hgd]
  rw [if_pos hw]
  obtain ⟨v', w', hr, h2, h3, h4⟩ := run_append_bytes o.type base v L hown ao m c zs hm hsrc hnil hlen hbase
  unfold Oper.wp execOp
  simp only [ho, resolve, invoke, builtin, Sem.run_bind, Sem.run_pure, Result.andThen_ok, List.map_toArray, List.map_cons, List.map_nil, hs, hx, hr]
  exact h v' w' h2 h3 h4

theorem below_grown {w w1 : World} {row : Option Nat} {B : Nat} (h : w.grownBy w1 row) (hr : ∀ k, row = some k → B ≤ k) (hB : B ≤ w.heap.size) : Below B w w1 :=
  ⟨h.os, h.tape, h.output, h.size, fun k hk => h.block k (by omega) (fun e => by have := hr k e.symm; omega)⟩

set_option maxHeartbeats 400000 in
theorem refUint_any (w : World) (n : Nat) (hn : n < 18446744073709551616) :
    Calls Try.prog 56 #[.int .u64 (n : Int)] w fun e w' => ∃ v, e = .returned v ∧ OwnB w' w.heap.size v (uint 10 n) ∧ Below w.heap.size w w' := by
  go_enter Try.func56, Try.ntmps56
  go_wp2
  go_loopw [0, 3] (fun x y wr => ∃ (m f : Nat) (M : List Nat) (v1 : Value), x = .int .u64 (m : Int) ∧ y = v1 ∧ m < 2 ^ (7 * f + 1) ∧ f ≤ 9 ∧ M.length + f + 1 ≤ 11 ∧ Hid (M ++ uint (f + 1) m = uint 10 n) ∧ Hid (OwnB wr w.heap.size v1 M) ∧ Hid (Below w.heap.size w wr)) (fun x _ _ => (intOf x).toNat)
  case atStart => exact ⟨n, 9, [], _, rfl, rfl, by omega, by omega, by simp, by simp [Hid], OwnB.nil _ _, Below.refl _ _⟩
  case round =>
    obtain ⟨m, f, M, v1, rfl, rfl, hm, hf, hML, hM, hW, hB⟩ := hrel
    have hml : m < 18446744073709551616 := by
      have : 2 ^ (7 * f + 1) ≤ 2 ^ 64 := Nat.pow_le_pow_right (by omega) (by omega)
      omega
    by_cases hge : 128 ≤ m
    · have hge' : (128 : Int) ≤ (m : Int) := by omega
      obtain ⟨f', rfl⟩ : ∃ f', f = f' + 1 := by
        cases f with
        | zero => simp at hm; omega
        | succ f => exact ⟨f, rfl⟩
      have HM : Hid ((M ++ [m % 128 + 128]) ++ uint (f' + 1) (m / 128) = uint 10 n) := by
        rw [Hid, ← hM.out, List.append_assoc]
        congr 1
        rw [uint_more _ _ hge]; rfl
      have hm7 : m / 128 < 2 ^ (7 * f' + 1) := by
        have e : 2 ^ (7 * (f' + 1) + 1) = 128 * 2 ^ (7 * f' + 1) := by rw [show 7 * (f' + 1) + 1 = 7 + (7 * f' + 1) by omega, Nat.pow_add]
        omega
      obtain ⟨z, hz⟩ : ∃ z : Nat, (m : Int) % 128 + 128 = (z : Int) := ⟨m % 128 + 128, by omega⟩
      have hz256 : z < 256 := by omega
      have HZ : Hid (z = m % 128 + 128) := by rw [Hid]; omega
      go_wp2_with (at_builtin; refine wpList_append_bytes rfl _ _ rfl w.heap.size _ M rfl (hW.out.alloc _) _ _ _ [z] rfl rfl (byte_src _ _ z rfl hz256) (by simp) (by simp; omega) (by have := hB.out.size; simp; omega) ?_; intro v' w1 hown1 hgrow1)
      have HW1 : Hid (OwnB w1 w.heap.size v' (M ++ [m % 128 + 128])) := by rw [← HZ.out]; exact hown1
      have HB1 : Hid (Below w.heap.size w w1) := hB.out.trans (below_grown (grown_alloc w1 hgrow1) (fun k hk => (hW.out.2.lt k hk).1) hB.out.size)
      go_roundw
      case rel => exact ⟨m / 128, f', M ++ [m % 128 + 128], v', by go_num, rfl, hm7, by omega, by simp; omega, HM, HW1, HB1⟩
      case measure => simp [intOf]; omega
    · have hge' : ¬ (128 : Int) ≤ (m : Int) := by omega
      have HM : Hid (M ++ [m] = uint 10 n) := by
        rw [Hid, ← hM.out, uint_last _ _ hge]
      go_wp2_with (at_builtin; refine wpList_append_bytes rfl _ _ rfl w.heap.size _ M rfl (hW.out.alloc _) _ _ _ [m] rfl rfl (byte_src _ _ m rfl (by omega)) (by simp) (by simp; omega) (by have := hB.out.size; simp; omega) ?_; intro v' w1 hown1 hgrow1)
      have HB1 : Hid (Below w.heap.size w w1) := hB.out.trans (below_grown (grown_alloc w1 hgrow1) (fun k hk => (hW.out.2.lt k hk).1) hB.out.size)
      go_ret
      exact ⟨v', rfl, by rw [← HM.out]; exact hown1, HB1.out⟩

theorem refFold_any (w : World) (n : Int) (h0 : -9223372036854775808 ≤ n) (h1 : n ≤ 9223372036854775807) :
    Calls Try.prog 58 #[.int .i64 n] w fun e w' => e = .returned (.int .u64 ((fold n : Nat) : Int)) ∧ w' = w := by
  go_enter Try.func58, Try.ntmps58
  by_cases hn : n < 0
  · have hn' : ¬ 0 ≤ n := by omega
    have hf : 2 * (-1 - n) + 1 = ((fold n : Nat) : Int) := by unfold fold; rw [if_pos hn]; omega
    go_wp2
    go_ret
    exact ⟨rfl, rfl⟩
  · have hn' : 0 ≤ n := by omega
    have hf : 2 * n = ((fold n : Nat) : Int) := by unfold fold; rw [if_neg hn]; omega
    go_wp2
    go_ret
    exact ⟨rfl, rfl⟩

theorem refInt_any (w : World) (n : Int) (h0 : -9223372036854775808 ≤ n) (h1 : n ≤ 9223372036854775807) :
    Calls Try.prog 35 #[.int .i64 n] w fun e w' => ∃ v, e = .returned v ∧ OwnB w' w.heap.size v (uint 10 (fold n)) ∧ Below w.heap.size w w' := by
  go_enter Try.func35, Try.ntmps35
  go_wp2_with fail
  refine (refFold_any w n h0 h1).mono ?_
  rintro e w1 ⟨rfl, rfl⟩
  go_wp2_with fail
  refine (refUint_any w1 (fold n) (fold_lt n h0 h1)).mono ?_
  rintro e w2 ⟨v, rfl, hown, hbel⟩
  go_wp2
  go_ret
  exact ⟨v, rfl, hown, hbel⟩
end Go.Proofs.Ytlilaicgmdbhcaa
