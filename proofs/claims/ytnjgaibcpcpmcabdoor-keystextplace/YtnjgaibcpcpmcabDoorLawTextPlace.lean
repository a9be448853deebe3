/-
  THE WALK OF KeysTextPlace.
-/
import Derived.Test.YtnjgaibcpcpmcabDoorPlain
import Derived.Test.YtnjgaibcpcpmcabDoorKRead
import Derived.Test.YtnjgaibcpcpmcabDoorPMath2
import Derived.Test.YtnjgaibcpcpmcabDoorKNe
namespace Go.Proofs.YtnjgaibcpcpmcabDoor
open Go.RowKit Go.Sort Go.Shelf

theorem ag_more (l t : List UInt8) (n : Nat) (h : n ≤ l.length) : Ag l (l.take n ++ t) n := fun i hi => by
  rw [List.getElem?_append_left (by simp; omega)]; exact List.getElem?_take_of_lt hi
theorem cat_list (a b : ByteArray) : (a ++ b).data.toList = a.data.toList ++ b.data.toList := by simp

set_option maxHeartbeats 4000000 in
set_option maxRecDepth 100000 in
theorem textPlace_walk (w : World) (s t : ByteArray) (hs : s.size ≤ 140737488351232) (ht : t.size ≤ 140737488351232) (hv : NumVars w) :
    Calls Tryd.prog 4 #[.string s, .string t] w fun e w' => e = .returned (.bool true) ∧ Below w.heap.size w w' := by
  have HV : Hid (NumVars w) := hv
  clear hv
  have HP : Hid (∀ w, NumVars w → Calls Tryd.prog 9 #[.string s] w fun e w' => e = .returned (.tuple #[.agg #[.int .i64 (parse s.data.toList).1.1, .int .i64 (parse s.data.toList).1.2], .int .i64 ((parse s.data.toList).2.1 : Int), .int .i64 (parse s.data.toList).2.2]) ∧ Below w.heap.size w w') := fun w h => parse_any w s (by omega) h
  have HE : Hid ((parse s.data.toList).2.2 = 0 ∨ ((parse s.data.toList).1 = (0, 0) ∧ (parse s.data.toList).2.1 ≤ s.size ∧ ((parse s.data.toList).2.2 = 40 ∨ (parse s.data.toList).2.2 = 41))) := by
    have := parse_err s.data.toList; rwa [len_list] at this
  have hsz : ∀ n, (s.extract 0 n).size ≤ s.size := fun n => extract_size s 0 n
  have HM : Hid ((parse s.data.toList).2.2 = 40 → (parse s.data.toList).2.1 < s.size → ∀ w, NumVars w → Calls Tryd.prog 9 #[.string (s.extract 0 ((parse s.data.toList).2.1 + 1) ++ t)] w fun e w' => e = .returned (.tuple #[.agg #[.int .i64 0, .int .i64 0], .int .i64 ((parse s.data.toList).2.1 : Int), .int .i64 40]) ∧ Below w.heap.size w w') := fun h1 h2 w hw => by
    have hz := hsz ((parse s.data.toList).2.1 + 1)
    have := parse_any w (s.extract 0 ((parse s.data.toList).2.1 + 1) ++ t) (by rw [ByteArray.size_append]; omega) hw
    rw [cat_list, extract_list, List.drop_zero, parse_more h1 (ag_more _ _ _ (by rw [len_list]; omega)) (by rw [len_list]; exact h2)] at this
    exact this
  have HU : Hid ((parse s.data.toList).2.2 = 40 → ∀ w, NumVars w → ∃ (z1 z2 : Int) (q : Nat) (e2 : Int), (e2 = 0 ∨ (e2 = 40 ∧ q = (parse s.data.toList).2.1)) ∧ Calls Tryd.prog 9 #[.string (s.extract 0 (parse s.data.toList).2.1)] w fun e w' => e = .returned (.tuple #[.agg #[.int .i64 z1, .int .i64 z2], .int .i64 (q : Int), .int .i64 e2]) ∧ Below w.heap.size w w') := fun h1 w hw => by
    have := parse_any w (s.extract 0 (parse s.data.toList).2.1) (by have := hsz (parse s.data.toList).2.1; omega) hw
    rw [extract_list, List.drop_zero] at this
    exact ⟨_, _, _, _, parse_cut h1, this⟩
  have HC : Hid (∀ n, ¬ ((s.extract 0 n).size + t.size > 9223372036854775807)) := fun n => by have := hsz n; omega
  clear hsz
  generalize parse s.data.toList = PR at *
  obtain ⟨⟨y1, y2⟩, p, g⟩ := PR
  simp only at HP HE HM HU
  go_enter Tryd.func4, Tryd.ntmps4
  go_wp2_with fail
  refine (plain_any w HV.out.1).mono ?_
  rintro e w1 ⟨rfl, gg⟩
  have HG1 : Hid (Grew w w1) := gg
  have HV1 : Hid (NumVars w1) := HV.out.kept HG1.out.below
  clear gg HV
  go_wp2_with fail
  refine Calls.mono (HP.out w1 HV1.out) ?_
  rintro e w2 ⟨rfl, hb⟩
  have HB2 : Hid (Below w.heap.size w w2) := HG1.out.below.trans (hb.mono HG1.out.size)
  have HV2 : Hid (NumVars w2) := HV1.out.kept hb
  clear hb HP HG1 HV1
  rcases HE.out with h0 | ⟨h1, h2, h3⟩
  · subst h0
    clear HM HU HE
    go_wp2_with (go_at_call 8; refine (num_any' _ _).mono ?_; rintro e w' ⟨rfl, rfl⟩)
    go_ret
    exact ⟨rfl, HB2.out.alloc HB2.out.size _⟩
  · simp only [Prod.mk.injEq] at h1
    obtain ⟨rfl, rfl⟩ := h1
    have hp : decide ((s.size : Int) < (p : Int)) = false := by simp; omega
    rcases h3 with rfl | rfl
    · have HB3 : Hid (Below w.heap.size w (w2.alloc (.cells #[.int .i64 0, .int .i64 0] 23))) := HB2.out.alloc HB2.out.size _
      have HV3 : Hid (NumVars (w2.alloc (.cells #[.int .i64 0, .int .i64 0] 23))) := HV2.out.kept ((Grew.refl _).alloc _).below
      by_cases hlt : p < s.size
      · have HM' : Hid _ := HM.out rfl hlt
        have HU' : Hid _ := HU.out rfl
        have hlt' : (p : Int) < (s.size : Int) := by omega
        have hc := HC.out (p + 1)
        clear HM HU HE HC h2
        go_wp2_with (go_at_call 8; refine (num_any' _ _).mono ?_; rintro e w' ⟨rfl, rfl⟩)
        refine Calls.mono (HM'.out _ HV3.out) ?_
        rintro e w4 ⟨rfl, hb⟩
        have HB4 : Hid (Below w.heap.size w w4) := HB3.out.trans (hb.mono HB3.out.size)
        have HV4 : Hid (NumVars w4) := HV3.out.kept hb
        clear hb HM' HB3 HV3 HB2 HV2
        have HB5 : Hid (Below w.heap.size w (w4.alloc (.cells #[.int .i64 0, .int .i64 0] 23))) := HB4.out.alloc HB4.out.size _
        have HV5 : Hid (NumVars (w4.alloc (.cells #[.int .i64 0, .int .i64 0] 23))) := HV4.out.kept ((Grew.refl _).alloc _).below
        obtain ⟨z1, z2, q, e2, hq, hcall⟩ := HU'.out _ HV5.out
        have HL : Hid _ := hcall
        clear hcall HU'
        go_wp2_with (go_at_call 8; refine (num_any' _ _).mono ?_; rintro e w' ⟨rfl, rfl⟩)
        refine Calls.mono HL.out ?_
        rintro e w6 ⟨rfl, hb⟩
        have HB6 : Hid (Below w.heap.size w w6) := HB5.out.trans (hb.mono HB5.out.size)
        clear hb HL
        rcases hq with rfl | ⟨rfl, rfl⟩
        · go_wp2_with (go_at_call 8; refine (num_any' _ _).mono ?_; rintro e w' ⟨rfl, rfl⟩)
          go_ret
          exact ⟨rfl, HB6.out.alloc HB6.out.size _⟩
        · go_wp2_with (go_at_call 8; refine (num_any' _ _).mono ?_; rintro e w' ⟨rfl, rfl⟩)
          go_ret
          exact ⟨rfl, HB6.out.alloc HB6.out.size _⟩
      · have HU' : Hid _ := HU.out rfl
        have hlt' : decide ((p : Int) < (s.size : Int)) = false := by simp; omega
        clear HM HU HE HC
        obtain ⟨z1, z2, q, e2, hq, hcall⟩ := HU'.out _ HV3.out
        have HL : Hid _ := hcall
        clear hcall HU'
        go_wp2_with (go_at_call 8; refine (num_any' _ _).mono ?_; rintro e w' ⟨rfl, rfl⟩)
        refine Calls.mono HL.out ?_
        rintro e w6 ⟨rfl, hb⟩
        have HB6 : Hid (Below w.heap.size w w6) := HB3.out.trans (hb.mono HB3.out.size)
        clear hb HL
        rcases hq with rfl | ⟨rfl, rfl⟩
        · go_wp2_with (go_at_call 8; refine (num_any' _ _).mono ?_; rintro e w' ⟨rfl, rfl⟩)
          go_ret
          exact ⟨rfl, HB6.out.alloc HB6.out.size _⟩
        · go_wp2_with (go_at_call 8; refine (num_any' _ _).mono ?_; rintro e w' ⟨rfl, rfl⟩)
          go_ret
          exact ⟨rfl, HB6.out.alloc HB6.out.size _⟩
    · clear HM HU HE HC
      go_wp2_with (go_at_call 8; refine (num_any' _ _).mono ?_; rintro e w' ⟨rfl, rfl⟩)
      go_ret
      exact ⟨rfl, HB2.out.alloc HB2.out.size _⟩

end Go.Proofs.YtnjgaibcpcpmcabDoor
