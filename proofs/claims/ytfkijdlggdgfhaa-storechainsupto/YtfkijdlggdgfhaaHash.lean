/-
  THE WALKS OF Hash, Partition.
-/
import Derived.Test.YtfkijdlggdgfhaaSpell
namespace Go.Proofs.Ytfkijdlggdgfhaa
open Go.RowKit Go.Sort

theorem fnv_step (h c : Nat) (hh : h < 18446744073709551616) (hc : c < 256) :
    bits .xor .u64 (h : Int) (c : Int) = ((h ^^^ c : Nat) : Int) ∧ h ^^^ c < 18446744073709551616 ∧ IntKind.u64.wrap (((h ^^^ c : Nat) : Int) * 1099511628211) = ((fnvStep h c : Nat) : Int) := by
  have h1 : h ^^^ c < 18446744073709551616 := Nat.xor_lt_two_pow (n := 64) hh (by omega)
  refine ⟨u64_xor_nat h c hh (by omega), h1, ?_⟩
  rw [IntKind.wrap_u64]
  unfold fnvStep
  omega
theorem isKey_iff (t r : Int) : isKey (t, r) = true ↔ 0 ≤ t ∧ t ≤ 65535 := by simp [isKey]
theorem isKey_false (t r : Int) : isKey (t, r) = false ↔ ¬ (0 ≤ t ∧ t ≤ 65535) := by rw [← isKey_iff t r]; simp

theorem index10 (w : World) (C : Array Value) (n : Nat) (c : Int) (hn : n < 10) (h : C[n]? = some (.int .u8 c)) : Sem.run Try.prog (Instr.index 124 (.agg C) (.int .i64 (n : Int))) w = .ok (.int .u8 c) w := by
  have hz := Try.sizeOf5
  have ha := Try.isAgg5
  simp [Instr.index, run_underlying Try.underlying124, asIntOf, go_sem, hz, ha, h]
  intro h'; omega

set_option maxHeartbeats 1000000 in
set_option maxRecDepth 20000 in
theorem hash_any (w : World) (t r : Int) (hr : In64 r) :
    Calls Try.prog 35 #[.agg #[.int .i64 t, .int .i64 r]] w fun e w' => e = .returned (.int .u64 ((hash (t, r) : Nat) : Int)) ∧ ∃ q os, w' = grow (w.drewN q) os := by
  by_cases hk : isKey (t, r) = true
  · have HH : Hid (hash (t, r) = fnv (keyBytes (t, r))) := by rw [Hid]; unfold hash; rw [if_pos hk]
    obtain ⟨T, rfl⟩ := Int.eq_ofNat_of_zero_le ((isKey_iff t r).1 hk).1
    have hT : T ≤ 65535 := by have := ((isKey_iff T r).1 hk).2; omega
    have hlen := keyBytes_length ((T : Int), r)
    have hlt := keyBytes_lt hk
    have HSp : Hid (∀ w, Calls Try.prog 57 #[.agg #[.int .i64 (T : Int), .int .i64 r]] w fun e w' => e = .returned (.agg (cellsU8 (keyBytes ((T : Int), r)))) ∧ ∃ q os, w' = grow (w.drewN q) os) := fun w => spell_any w T r hT hr
    have HCk : Hid (∀ w, Calls Try.prog 23 #[.agg #[.int .i64 (T : Int), .int .i64 r]] w fun e w' => e = .returned (.int .i64 0) ∧ ∃ q os, w' = grow (w.drewN q) os) := fun w => by
      have := check_any w T r
      rwa [hk] at this
    generalize keyBytes ((T : Int), r) = L at *
    generalize hash ((T : Int), r) = hv at *
    clear hk hr
    go_enter Try.func35, Try.ntmps35
    go_wp2_with fail
    have B0 : Hid (Box (w.alloc (.cells #[.int .i64 (T : Int), .int .i64 r] 28)) w.heap.size T r) := Box.new rfl
    have HG : Hid (Grew w (w.alloc (.cells #[.int .i64 (T : Int), .int .i64 r] 28))) := (Grew.refl _).alloc _
    generalize w.alloc (.cells #[.int .i64 (T : Int), .int .i64 r] 28) = W at *
    refine (HCk.out W).mono ?_
    rintro e w1 ⟨rfl, g1⟩
    have B1 : Hid (Box w1 w.heap.size T r) := B0.out.grew g1
    have HG1 : Hid (Grew w w1) := HG.out.trans g1
    clear g1 HCk B0 HG
    obtain ⟨p1, p2⟩ := B1.out
    go_wp2_with fail
    refine (HSp.out w1).mono ?_
    rintro e w2 ⟨rfl, g2⟩
    have HG2 : Hid (Grew w w2) := HG1.out.trans g2
    clear g2 HSp HG1 B1 p1 p2
    go_wp2
    go_loop [3, 11] (fun x y => ∃ n : Nat, n ≤ 10 ∧ y = .int .i64 (n : Int) ∧ x = .int .u64 ((fnv (L.take n) : Nat) : Int)) (fun _ y => 10 - (intOf y).toNat)
    case atStart => exact ⟨0, by omega, rfl, rfl⟩
    case round =>
      obtain ⟨n, hn, rfl, rfl⟩ := hrel
      have hf := fnv_lt (L.take n)
      by_cases hlt' : n < 10
      · have hc := getD_lt hlt n
        have HF : Hid (fnv (L.take (n + 1)) = fnvStep (fnv (L.take n)) (L.getD n 0)) := by rw [Hid, take_snoc L n (by omega), fnv_snoc]
        have hidx : (cellsU8 L)[n]? = some (.int .u8 ((L.getD n 0 : Nat) : Int)) := getElem?_cellsU8 L n (by omega)
        obtain ⟨s1, s2, s3⟩ := fnv_step (fnv (L.take n)) (L.getD n 0) hf hc
        have hix := fun w => index10 w (cellsU8 L) n _ hlt' hidx
        clear hidx
        generalize cellsU8 L = C at *
        generalize fnv (L.take n) = h at *
        generalize L.getD n 0 = c at *
        generalize hst : fnvStep h c = st at *
        clear hst
        generalize h ^^^ c = x at *
        go_wp2
        go_round
        case rel => exact ⟨n + 1, by omega, by go_num, by rw [HF.out]⟩
        case measure => simp [intOf]; omega
      · obtain rfl : n = 10 := by omega
        have HE : Hid (fnv (L.take 10) = hv) := by rw [Hid, HH.out, List.take_of_length_le (by omega)]
        go_wp2
        go_ret
        exact ⟨by rw [← HE.out]; rfl, HG2.out⟩
  · have HH : Hid (hash (t, r) = 0) := by rw [Hid]; unfold hash; rw [if_neg hk]
    have HCk : Hid (∀ w, Calls Try.prog 23 #[.agg #[.int .i64 t, .int .i64 r]] w fun e w' => e = .returned (.int .i64 20) ∧ ∃ q os, w' = grow (w.drewN q) os) := fun w => by
      have := check_any w t r
      rwa [show isKey (t, r) = false by simpa using hk] at this
    clear hk hr
    go_enter Try.func35, Try.ntmps35
    go_wp2_with fail
    refine (HCk.out _).mono ?_
    rintro e w1 ⟨rfl, g1⟩
    have HG1 : Hid (Grew w w1) := ((Grew.refl _).alloc _).trans g1
    clear g1
    go_wp2
    go_ret
    exact ⟨by rw [HH.out]; rfl, HG1.out⟩

def okParts (p : Int) : Bool := decide (1 ≤ p) && decide (p ≤ 256)
theorem okParts_iff (p : Int) : okParts p = true ↔ 1 ≤ p ∧ p ≤ 256 := by simp [okParts]
/-- what Partition answers -/
def partV (k : K) (p : Int) : Int := if isKey k then (if okParts p then ((hash k : Int) % p) else 0) else 0
def partE (k : K) (p : Int) : Int := if isKey k then (if okParts p then 0 else 21) else 20

theorem canSplit_any (w : World) (p : Int) :
    Calls Try.prog 49 #[.int .i64 p] w fun e w' => e = .returned (.bool (okParts p)) ∧ w' = w := by
  by_cases h1 : 1 ≤ p
  · by_cases h2 : p ≤ 256
    · have HE : Hid (okParts p = true) := (okParts_iff p).2 ⟨h1, h2⟩
      go_enter Try.func49, Try.ntmps49
      go_wp2
      go_ret
      exact ⟨by rw [HE.out]; rfl, rfl⟩
    · have HE : Hid (okParts p = false) := by rw [Hid]; simp [okParts]; omega
      have h2' : decide (p ≤ 256) = false := by simpa using h2
      go_enter Try.func49, Try.ntmps49
      go_wp2
      go_ret
      exact ⟨by rw [HE.out]; rfl, rfl⟩
  · have HE : Hid (okParts p = false) := by rw [Hid]; simp [okParts]; omega
    have h1' : decide (1 ≤ p) = false := by simpa using h1
    go_enter Try.func49, Try.ntmps49
    go_wp2
    go_ret
    exact ⟨by rw [HE.out]; rfl, rfl⟩

set_option maxHeartbeats 1000000 in
theorem partition_any (w : World) (t r p : Int) (hr : In64 r) :
    Calls Try.prog 27 #[.agg #[.int .i64 t, .int .i64 r], .int .i64 p] w fun e w' => e = .returned (.tuple #[.int .i64 (partV (t, r) p), .int .i64 (partE (t, r) p)]) ∧ ∃ q os, w' = grow (w.drewN q) os := by
  have HC : Hid _ := fun w => check_any w t r
  have HS : Hid _ := fun w => canSplit_any w p
  have HH : Hid _ := fun w => hash_any w t r hr
  have hl := hash_lt (t, r)
  clear hr
  by_cases hk : isKey (t, r) = true
  · have HC' : Hid (∀ w, Calls Try.prog 23 #[.agg #[.int .i64 t, .int .i64 r]] w fun e w' => e = .returned (.int .i64 0) ∧ ∃ q os, w' = grow (w.drewN q) os) := fun w => by
      have := HC.out w
      rwa [hk] at this
    by_cases hp : okParts p = true
    · have HV : Hid (partV (t, r) p = (hash (t, r) : Int) % p ∧ partE (t, r) p = 0) := by rw [Hid]; simp [partV, partE, hk, hp]
      have HS' : Hid (∀ w, Calls Try.prog 49 #[.int .i64 p] w fun e w' => e = .returned (.bool true) ∧ w' = w) := fun w => by
        have := HS.out w
        rwa [hp] at this
      obtain ⟨h1, h2⟩ := (okParts_iff p).1 hp
      obtain ⟨P, rfl⟩ := Int.eq_ofNat_of_zero_le (show 0 ≤ p by omega)
      generalize partV (t, r) P = v at *
      generalize partE (t, r) P = ev at *
      generalize hash (t, r) = hv at *
      clear HC HS hk hp
      go_enter Try.func27, Try.ntmps27
      go_wp2_with fail
      have B0 : Hid (Box (w.alloc (.cells #[.int .i64 t, .int .i64 r] 28)) w.heap.size t r) := Box.new rfl
      have HG : Hid (Grew w (w.alloc (.cells #[.int .i64 t, .int .i64 r] 28))) := (Grew.refl _).alloc _
      generalize w.alloc (.cells #[.int .i64 t, .int .i64 r] 28) = W at *
      refine (HC'.out W).mono ?_
      rintro e w1 ⟨rfl, g1⟩
      have B1 : Hid (Box w1 w.heap.size t r) := B0.out.grew g1
      have HG1 : Hid (Grew w w1) := HG.out.trans g1
      clear g1 HC' B0 HG
      obtain ⟨p1, p2⟩ := B1.out
      go_wp2_with fail
      refine (HS'.out w1).mono ?_
      rintro e w2 ⟨rfl, rfl⟩
      go_wp2_with fail
      refine (HH.out w2).mono ?_
      rintro e w3 ⟨rfl, g3⟩
      have HG3 : Hid (Grew w w3) := HG1.out.trans g3
      clear g3 HH HS' B1 p1 p2 HG1
      have hm : (hv : Int) % (P : Int) < 256 := by have := Int.emod_lt_of_pos (hv : Int) (show (0 : Int) < P by omega); omega
      have hm0 : 0 ≤ (hv : Int) % (P : Int) := Int.emod_nonneg _ (by omega)
      go_wp2
      go_ret2
      exact ⟨by rw [HV.out.1, HV.out.2]; rfl, HG3.out⟩
    · have HV : Hid (partV (t, r) p = 0 ∧ partE (t, r) p = 21) := by rw [Hid]; simp [partV, partE, hk, hp]
      have HS' : Hid (∀ w, Calls Try.prog 49 #[.int .i64 p] w fun e w' => e = .returned (.bool false) ∧ w' = w) := fun w => by
        have := HS.out w
        rwa [show okParts p = false by simpa using hp] at this
      generalize partV (t, r) p = v at *
      generalize partE (t, r) p = ev at *
      clear HC HS hk hp HH hl
      go_enter Try.func27, Try.ntmps27
      go_wp2_with fail
      refine (HC'.out _).mono ?_
      rintro e w1 ⟨rfl, g1⟩
      have HG1 : Hid (Grew w w1) := ((Grew.refl _).alloc _).trans g1
      clear g1 HC'
      go_wp2_with fail
      refine (HS'.out w1).mono ?_
      rintro e w2 ⟨rfl, rfl⟩
      go_wp2
      go_ret2
      exact ⟨by rw [HV.out.1, HV.out.2]; rfl, HG1.out⟩
  · have HV : Hid (partV (t, r) p = 0 ∧ partE (t, r) p = 20) := by rw [Hid]; simp [partV, partE, hk]
    have HC' : Hid (∀ w, Calls Try.prog 23 #[.agg #[.int .i64 t, .int .i64 r]] w fun e w' => e = .returned (.int .i64 20) ∧ ∃ q os, w' = grow (w.drewN q) os) := fun w => by
      have := HC.out w
      rwa [show isKey (t, r) = false by simpa using hk] at this
    generalize partV (t, r) p = v at *
    generalize partE (t, r) p = ev at *
    clear HC HS hk HH hl
    go_enter Try.func27, Try.ntmps27
    go_wp2_with fail
    refine (HC'.out _).mono ?_
    rintro e w1 ⟨rfl, g1⟩
    have HG1 : Hid (Grew w w1) := ((Grew.refl _).alloc _).trans g1
    clear g1 HC'
    go_wp2
    go_ret2
    exact ⟨by rw [HV.out.1, HV.out.2]; rfl, HG1.out⟩

end Go.Proofs.Ytfkijdlggdgfhaa
