/-
  THE WALKS OF THE DOCUMENT's Hash, Partition.
-/
import Derived.Test.YtnjgaibcpcpmcabHash
import Derived.Test.YtnjgaibcpcpmcabTen
namespace Go.Proofs.Ytnjgaibcpcpmcab
open Go.RowKit Go.Sort
set_option maxHeartbeats 1000000 in
set_option maxRecDepth 20000 in
theorem refHash_any (w : World) (t r : Int) (hr : In64 r) :
    Calls Try.prog 75 #[.agg #[.int .i64 t, .int .i64 r]] w fun e w' => e = .returned (.int .u64 ((hash (t, r) : Nat) : Int)) ∧ ∃ q os, w' = grow (w.drewN q) os := by
  by_cases hk : isKey (t, r) = true
  · have HH : Hid (hash (t, r) = fnv (keyBytes (t, r))) := by rw [Hid]; unfold hash; rw [if_pos hk]
    obtain ⟨T, rfl⟩ := Int.eq_ofNat_of_zero_le ((isKey_iff t r).1 hk).1
    have hT : T ≤ 65535 := by have := ((isKey_iff T r).1 hk).2; omega
    have hlen := keyBytes_length ((T : Int), r)
    have hlt := keyBytes_lt hk
    have HSp : Hid (∀ w, Calls Try.prog 77 #[.agg #[.int .i64 (T : Int), .int .i64 r]] w fun e w' => e = .returned (.agg (cellsU8 (keyBytes ((T : Int), r)))) ∧ ∃ q os, w' = grow (w.drewN q) os) := fun w => ten_any w T r hT hr
    have HCk : Hid (∀ w, Calls Try.prog 66 #[.agg #[.int .i64 (T : Int), .int .i64 r]] w fun e w' => e = .returned (.int .i64 0) ∧ ∃ q os, w' = grow (w.drewN q) os) := fun w => by
      have := refCheck_any w T r
      rwa [hk] at this
    generalize keyBytes ((T : Int), r) = L at *
    generalize hash ((T : Int), r) = hv at *
    clear hk hr
    go_enter Try.func75, Try.ntmps75
    go_wp2_with fail
    have B0 : Hid (Box (w.alloc (.cells #[.int .i64 (T : Int), .int .i64 r] 28)) w.heap.size T r) := Box.new rfl
    have HG : Hid (Grew w (w.alloc (.cells #[.int .i64 (T : Int), .int .i64 r] 28))) := (Grew.refl _).alloc _
    generalize w.alloc (.cells #[.int .i64 (T : Int), .int .i64 r] 28) = W at *
    refine (HCk.out W).mono ?_
    rintro e w1 ⟨rfl, g1⟩
    have B1 : Hid (Box w1 w.heap.size T r) := B0.out.grew g1
    have HG1 : Hid (Grew w w1) := HG.out.trans g1
    clear g1 HCk B0 HG
    obtain ⟨p1, p2⟩ := B1.out
    go_wp2_with fail
    refine (HSp.out w1).mono ?_
    rintro e w2 ⟨rfl, g2⟩
    have HG2 : Hid (Grew w w2) := HG1.out.trans g2
    clear g2 HSp HG1 B1 p1 p2
    obtain ⟨a, b, c, d, f, g, i, j, k, l, hL⟩ := list10 hlen
    have hC := cells10 a b c d f g i j k l
    rw [← hL] at hC
    rw [hC]
    go_wp2
    rw [← hC]
    clear hC hL
    have hrow : ∀ n, n < 10 → (w2.alloc (.cells (cellsU8 L) 69)).cell? ⟨w2.heap.size, n, none⟩ = some (.int .u8 ((L.getD n 0 : Nat) : Int)) := fun n hn => row_cell (heap_alloc_new _ _ rfl) n (by omega)
    have HG3 : Hid (Grew w (w2.alloc (.cells (cellsU8 L) 69))) := HG2.out.alloc _
    generalize w2.alloc (.cells (cellsU8 L) 69) = W3 at *
    go_loop [4, 5] (fun x y => ∃ n : Nat, n ≤ 10 ∧ y = .int .i64 (n : Int) ∧ x = .int .u64 ((fnv (L.take n) : Nat) : Int)) (fun _ y => 10 - (intOf y).toNat)
    case atStart => exact ⟨0, by omega, rfl, rfl⟩
    case round =>
      obtain ⟨n, hn, rfl, rfl⟩ := hrel
      have hf := fnv_lt (L.take n)
      by_cases hlt' : n < 10
      · have hc := getD_lt hlt n
        have HF : Hid (fnv (L.take (n + 1)) = fnvStep (fnv (L.take n)) (L.getD n 0)) := by rw [Hid, take_snoc L n (by omega), fnv_snoc]
        have hidx := hrow n hlt'
        clear hrow
        obtain ⟨s1, s2, s3⟩ := fnv_step (fnv (L.take n)) (L.getD n 0) hf hc
        generalize fnv (L.take n) = h at *
        generalize L.getD n 0 = c at *
        generalize hst : fnvStep h c = st at *
        clear hst
        generalize h ^^^ c = x at *
        go_wp2
        go_round
        case rel => exact ⟨n + 1, by omega, by go_num, by rw [HF.out]⟩
        case measure => simp [intOf]; omega
      · obtain rfl : n = 10 := by omega
        have HE : Hid (fnv (L.take 10) = hv) := by rw [Hid, HH.out, List.take_of_length_le (by omega)]
        clear hrow
        go_wp2
        go_ret
        exact ⟨by rw [← HE.out]; rfl, HG3.out⟩
  · have HH : Hid (hash (t, r) = 0) := by rw [Hid]; unfold hash; rw [if_neg hk]
    have HCk : Hid (∀ w, Calls Try.prog 66 #[.agg #[.int .i64 t, .int .i64 r]] w fun e w' => e = .returned (.int .i64 20) ∧ ∃ q os, w' = grow (w.drewN q) os) := fun w => by
      have := refCheck_any w t r
      rwa [show isKey (t, r) = false by simpa using hk] at this
    clear hk hr
    go_enter Try.func75, Try.ntmps75
    go_wp2_with fail
    refine (HCk.out _).mono ?_
    rintro e w1 ⟨rfl, g1⟩
    have HG1 : Hid (Grew w w1) := ((Grew.refl _).alloc _).trans g1
    clear g1
    go_wp2
    go_ret
    exact ⟨by rw [HH.out]; rfl, HG1.out⟩

set_option maxHeartbeats 1000000 in
theorem refPartition_any (w : World) (t r p : Int) (hr : In64 r) :
    Calls Try.prog 69 #[.agg #[.int .i64 t, .int .i64 r], .int .i64 p] w fun e w' => e = .returned (.tuple #[.int .i64 (partV (t, r) p), .int .i64 (partE (t, r) p)]) ∧ ∃ q os, w' = grow (w.drewN q) os := by
  have HC : Hid _ := fun w => refCheck_any w t r
  have HH : Hid _ := fun w => refHash_any w t r hr
  have hl := hash_lt (t, r)
  clear hr
  by_cases hk : isKey (t, r) = true
  · have HC' : Hid (∀ w, Calls Try.prog 66 #[.agg #[.int .i64 t, .int .i64 r]] w fun e w' => e = .returned (.int .i64 0) ∧ ∃ q os, w' = grow (w.drewN q) os) := fun w => by
      have := HC.out w
      rwa [hk] at this
    by_cases hp : okParts p = true
    · have HV : Hid (partV (t, r) p = (hash (t, r) : Int) % p ∧ partE (t, r) p = 0) := by rw [Hid]; simp [partV, partE, hk, hp]
      obtain ⟨h1, h2⟩ := (okParts_iff p).1 hp
      have h1' : decide (p < 1) = false := by simp; omega
      have h2' : decide (256 < p) = false := by simp; omega
      obtain ⟨P, rfl⟩ := Int.eq_ofNat_of_zero_le (show 0 ≤ p by omega)
      generalize partV (t, r) P = v at *
      generalize partE (t, r) P = ev at *
      generalize hash (t, r) = hv at *
      clear HC hk hp
      go_enter Try.func69, Try.ntmps69
      go_wp2_with fail
      have B0 : Hid (Box (w.alloc (.cells #[.int .i64 t, .int .i64 r] 28)) w.heap.size t r) := Box.new rfl
      have HG : Hid (Grew w (w.alloc (.cells #[.int .i64 t, .int .i64 r] 28))) := (Grew.refl _).alloc _
      generalize w.alloc (.cells #[.int .i64 t, .int .i64 r] 28) = W at *
      refine (HC'.out W).mono ?_
      rintro e w1 ⟨rfl, g1⟩
      have B1 : Hid (Box w1 w.heap.size t r) := B0.out.grew g1
      have HG1 : Hid (Grew w w1) := HG.out.trans g1
      clear g1 HC' B0 HG
      obtain ⟨p1, p2⟩ := B1.out
      go_wp2_with fail
      refine (HH.out w1).mono ?_
      rintro e w3 ⟨rfl, g3⟩
      have HG3 : Hid (Grew w w3) := HG1.out.trans g3
      clear g3 HH B1 p1 p2 HG1
      have hm : (hv : Int) % (P : Int) < 256 := by have := Int.emod_lt_of_pos (hv : Int) (show (0 : Int) < P by omega); omega
      have hm0 : 0 ≤ (hv : Int) % (P : Int) := Int.emod_nonneg _ (by omega)
      go_wp2
      go_ret2
      exact ⟨by rw [HV.out.1, HV.out.2]; rfl, HG3.out⟩
    · have HV : Hid (partV (t, r) p = 0 ∧ partE (t, r) p = 21) := by rw [Hid]; simp [partV, partE, hk, hp]
      have hq : p < 1 ∨ 256 < p := by
        rw [okParts_iff] at hp; omega
      generalize partV (t, r) p = v at *
      generalize partE (t, r) p = ev at *
      clear HC hk hp HH hl
      go_enter Try.func69, Try.ntmps69
      go_wp2_with fail
      refine (HC'.out _).mono ?_
      rintro e w1 ⟨rfl, g1⟩
      have HG1 : Hid (Grew w w1) := ((Grew.refl _).alloc _).trans g1
      clear g1 HC'
      by_cases h1 : p < 1
      · go_wp2
        go_ret2
        exact ⟨by rw [HV.out.1, HV.out.2]; rfl, HG1.out⟩
      · have h1' : decide (p < 1) = false := by simpa using h1
        have h2 : 256 < p := by omega
        go_wp2
        go_ret2
        exact ⟨by rw [HV.out.1, HV.out.2]; rfl, HG1.out⟩
  · have HV : Hid (partV (t, r) p = 0 ∧ partE (t, r) p = 20) := by rw [Hid]; simp [partV, partE, hk]
    have HC' : Hid (∀ w, Calls Try.prog 66 #[.agg #[.int .i64 t, .int .i64 r]] w fun e w' => e = .returned (.int .i64 20) ∧ ∃ q os, w' = grow (w.drewN q) os) := fun w => by
      have := HC.out w
      rwa [show isKey (t, r) = false by simpa using hk] at this
    generalize partV (t, r) p = v at *
    generalize partE (t, r) p = ev at *
    clear HC hk HH hl
    go_enter Try.func69, Try.ntmps69
    go_wp2_with fail
    refine (HC'.out _).mono ?_
    rintro e w1 ⟨rfl, g1⟩
    have HG1 : Hid (Grew w w1) := ((Grew.refl _).alloc _).trans g1
    clear g1 HC'
    go_wp2
    go_ret2
    exact ⟨by rw [HV.out.1, HV.out.2]; rfl, HG1.out⟩

end Go.Proofs.Ytnjgaibcpcpmcab
