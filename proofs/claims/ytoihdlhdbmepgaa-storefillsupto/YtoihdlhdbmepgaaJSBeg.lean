import Derived.Test.YtoihdlhdbmepgaaJSFil
import Derived.Test.YtoihdlhdbmepgaaJLawSRoomH
/-
  begun.
-/
namespace Go.Proofs.Ytoihdlhdbmepgaa
open Go.RowKit Go.Sort

/-- the first version -/
abbrev v1 (b : Nat) : Vr := xV b 0 (9, -9) 1 0
def BegPost (w : World) (e : Ending) (w' : World) : Prop :=
  ∃ B S n b g, e = .returned (.tuple #[ptr B, .bool true]) ∧ 1 ≤ n ∧ n ≤ 256 ∧ Below w.heap.size w w' ∧ WS w.heap.size (fun _ => False) w' B S n (.slice (some ⟨g, 0, none⟩) 1 1) [v1 b] [v1 b] 1 1 2
set_option maxRecDepth 100000 in
set_option maxHeartbeats 1000000 in
theorem begun_any (w : World) (pp : Int) : Calls Try.prog 7 #[.int .i64 pp] w fun e w' => BegPost w e w' := by
  obtain ⟨n, hn, hn1, hn2⟩ : ∃ n : Nat, wrap64 (1 + wrap64 ((IntKind.u64.wrap pp).tmod 256)) = (n : Int) ∧ 1 ≤ n ∧ n ≤ 256 := by
    obtain ⟨r, h1, h2⟩ := umod pp 256 (by omega)
    exact ⟨r + 1, by rw [h1]; unfold wrap64; omega, by omega, by omega⟩
  have HN : Hid (wrap64 (1 + wrap64 ((IntKind.u64.wrap pp).tmod 256)) = (n : Int)) := hn
  clear hn
  go_enter Try.func7, Try.ntmps7
  go_wp2_with fail
  rw [HN.out]
  refine (new_st w.heap.size (fun _ => False) w n 65536 hn1 hn2 (by omega) (Nat.le_refl _) (fun k h => h.elim)).mono ?_
  rintro e w1 ⟨S, rfl, hst, hb⟩
  have HS1 : Hid (ST w.heap.size (fun _ => False) w1 S n 65536 0 []) := hst
  have HB1 : Hid (Below w.heap.size w w1) := hb
  clear hst hb
  have HIns := insert_in w.heap.size (fun _ => False) w1 S n 65536 0 [] HS1.out (fun k h => h.elim) HB1.out.size 9 (-9) 1 0 ⟨by unfold In64; omega, by unfold In64; omega⟩ (by unfold In64; omega) (by unfold In64; omega) (by omega) 0 (by decide)
  go_wp2_with fail
  refine HIns.mono ?_
  clear HIns
  rintro e w2 ⟨hkp, ⟨h0, _⟩ | ⟨_, rfl, b, hst2⟩⟩
  · exact absurd rfl h0
  have HS2 : Hid (ST w.heap.size (fun _ => False) w2 S n 65536 1 [v1 b]) := hst2
  have HB2 : Hid (Below w.heap.size w w2) := HB1.out.trans (hkp.below HB1.out.size)
  clear hst2 hkp HS1 HB1
  have hlv := live_st _ _ w2 S n 65536 _ [v1 b] HS2.out
  have HLv := hidC hlv
  have HNw := hidC (newest_st _ _ w2 S n 65536 _ [v1 b] HS2.out 9 (-9) ⟨by unfold In64; omega, by unfold In64; omega⟩)
  clear hlv
  go_wp2_with fail
  refine HLv.out.mono ?_
  rintro e w3 ⟨rfl, hw3⟩
  have hw3' := hw3.symm
  subst hw3'
  clear hw3 HLv
  go_wp2_with fail
  refine HNw.out.mono ?_
  rintro e w4 ⟨rfl, hb4⟩
  have HS4 : Hid (ST w.heap.size (fun _ => False) w4 S n 65536 1 [v1 b]) := HS2.out.kept hb4
  have HB4 : Hid (Below w.heap.size w w4) := HB2.out.trans (hb4.mono HB2.out.size)
  clear hb4 HNw HS2 HB2
  have hnn : newestN (9, -9) [v1 b] = 1 := rfl
  rw [hnn]
  clear hnn
  have HW : Hid (Below w4.heap.size w4 ((w4.alloc (.cells #[.int .i64 1, .int .i64 9, .int .i64 (-9), .int .i64 1, .int .i64 0, .bool false, .bool false, .int .i64 0] 50)).alloc (.cells #[ptr S, .slice (some ⟨w4.heap.size, 0, none⟩) 1 1, .int .i64 1, .int .i64 2] 36))) := ((Below.refl _ _).alloc (Nat.le_refl _) _).alloc (by simp) _
  go_wp2
  go_ret2
  have hz := HB4.out.size
  refine ⟨w4.heap.size + 1, S, n, b, w4.heap.size, rfl, hn1, hn2, HB4.out.trans (HW.out.mono hz), heap_alloc_new _ _ (by simp), ?_, ?_, by omega, id, fun _ _ h => h, fun k h => h.elim, ?_⟩
  · refine (HS4.out.frame (fun k hk => ?_)).kept HW.out
    rcases hk with h | h | h
    · exact h.elim
    · exact .inr (by omega)
    · have e : w4.heap.size = k := by simpa [Value.ownBlock] using h
      exact .inr (by omega)
  · refine ⟨rfl, .inr ⟨w4.heap.size, 1, _, rfl, hz, (heap_alloc_old _ _ (by simp)).trans (heap_alloc_new _ _ rfl), Nat.le_refl _, by unfold maxLen; omega, rfl, rfl⟩⟩
  · have := HW.out.size; omega
end Go.Proofs.Ytoihdlhdbmepgaa
