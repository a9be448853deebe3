/-
  THE WALK OF KeysTextBack.
-/
import Derived.Test.YtnjgaibcpcpmcabDoorPlain
import Derived.Test.YtnjgaibcpcpmcabDoorKRead
import Derived.Test.YtnjgaibcpcpmcabDoorPMath2
import Derived.Test.YtnjgaibcpcpmcabDoorKNe
namespace Go.Proofs.YtnjgaibcpcpmcabDoor
open Go.RowKit Go.Sort Go.Shelf

theorem textK_len {k : K} (h1 : In64 k.1) (h2 : In64 k.2) : (textOf k).length ≤ 41 := by
  have a := itoa_len k.1 h1
  have b := itoa_len k.2 h2
  unfold textOf
  simp; omega

set_option maxHeartbeats 4000000 in
set_option maxRecDepth 100000 in
/-- from the second Parse on -/
theorem textBack_walk (w : World) (t r : Int) (s : ByteArray) (it : In64 t) (ir : In64 r) (hs : s.size ≤ 140737488351232) (hv : NumVars w) :
    Calls Tryd.prog 3 #[.agg #[.int .i64 t, .int .i64 r], .string s] w fun e w' => e = .returned (.bool true) ∧ Below w.heap.size w w' := by
  have HV : Hid (NumVars w) := hv
  clear hv
  have mx := mixed
  -- what the text is read as
  have HP : Hid (∀ w, NumVars w → Calls Tryd.prog 9 #[.string s] w fun e w' => e = .returned (.tuple #[.agg #[.int .i64 (parse s.data.toList).1.1, .int .i64 (parse s.data.toList).1.2], .int .i64 ((parse s.data.toList).2.1 : Int), .int .i64 (parse s.data.toList).2.2]) ∧ Below w.heap.size w w') := fun w h => parse_any w s (by omega) h
  have HC : Hid ((parse s.data.toList).2.2 ≠ 0 ∧ (parse s.data.toList).1 = (0, 0) ∧ (parse s.data.toList).2.1 ≤ s.size ∨ ((parse s.data.toList).2.2 = 0 ∧ (parse s.data.toList).2.1 = 0 ∧ ∀ w, DigVars w → Calls Tryd.prog 7 #[.agg #[.int .i64 (parse s.data.toList).1.1, .int .i64 (parse s.data.toList).1.2]] w fun e w' => e = .returned (.tuple #[.string s, .int .i64 0]) ∧ ∃ q os, w' = grow (w.drewN q) os)) := by
    rw [Hid]
    rcases parse_err s.data.toList with h | ⟨h1, h2, h3⟩
    · right
      obtain ⟨b1, b2, b3, b4⟩ := parse_back h
      refine ⟨h, b4, fun w hw => ?_⟩
      have := text_key w (parse s.data.toList).1.1 (parse s.data.toList).1.2 b1 b2 hw
      rw [show textOf ((parse s.data.toList).1.1, (parse s.data.toList).1.2) = s.data.toList from b3] at this
      simpa using this
    · left
      exact ⟨by rcases h3 with h | h <;> rw [h] <;> decide, h1, by rw [len_list] at h2; exact h2⟩
  generalize parse s.data.toList = PR at *
  obtain ⟨⟨y1, y2⟩, at', g⟩ := PR
  simp only at HP HC
  go_enter Tryd.func3, Tryd.ntmps3
  go_wp2_with fail
  have B0 : Hid (Box (w.alloc (.cells #[.int .i64 t, .int .i64 r] 23)) w.heap.size t r) := Box.new rfl
  have HG : Hid (Grew w (w.alloc (.cells #[.int .i64 t, .int .i64 r] 23))) := (Grew.refl _).alloc _
  generalize w.alloc (.cells #[.int .i64 t, .int .i64 r] 23) = W at *
  refine (plain_any W (HV.out.kept HG.out.below).1).mono ?_
  rintro e w1 ⟨rfl, gg⟩
  have B1 : Hid (Box w1 w.heap.size t r) := B0.out.grew gg
  have HG1 : Hid (Grew w w1) := HG.out.trans gg
  have HV1 : Hid (NumVars w1) := HV.out.kept HG1.out.below
  clear gg B0 HG HV
  obtain ⟨p1, p2⟩ := B1.out
  by_cases hk : isKey (t, r) = true
  · have hk2 : 0 ≤ t ∧ t ≤ 65535 := by simpa [isKey] using hk
    have HT : Hid (Calls Tryd.prog 7 #[.agg #[.int .i64 t, .int .i64 r]] w1 fun e w' => e = .returned (.tuple #[.string ⟨(textOf (t, r)).toArray⟩, .int .i64 0]) ∧ ∃ q os, w' = grow (w1.drewN q) os) := text_key w1 t r hk ir HV1.out.1
    have HQ : Hid (∀ w, NumVars w → Calls Tryd.prog 9 #[.string ⟨(textOf (t, r)).toArray⟩] w fun e w' => e = .returned (.tuple #[.agg #[.int .i64 t, .int .i64 r], .int .i64 0, .int .i64 0]) ∧ Below w.heap.size w w') := fun w h => by
      have hl := textK_len (k := (t, r)) it ir
      have := parse_any w ⟨(textOf (t, r)).toArray⟩ (by rw [sz]; omega) h
      have e1 : (ByteArray.mk (textOf (t, r)).toArray).data.toList = textK (t, r) := rfl
      rw [e1, parse_text hk ir] at this
      exact this
    generalize textOf (t, r) = TX at *
    clear hk
    go_wp2_with fail
    refine Calls.mono HT.out ?_
    rintro e w2 ⟨rfl, gg⟩
    have B2 : Hid (Box w2 w.heap.size t r) := B1.out.grew gg
    have HG2 : Hid (Grew w w2) := HG1.out.trans gg
    have HV2 : Hid (NumVars w2) := HV1.out.kept (Grew.below gg)
    clear gg B1 HG1 HV1 HT p1 p2
    have c0 := fun n os => cell_grown (cell_lt B2.out.1) B2.out.1 n os
    obtain ⟨h0, h1⟩ := hk2
    go_wp2_with fail
    refine wp_region_quiet_grown mx (by kernel_rfl) ?_
    repeat (go_big_quiet_step ((go_at_call 8; exact Calls.grown_of ((num_any _ _).mono fun e w' h => ⟨h.1, 0, #[], by rw [h.2, grow_empty]; rfl⟩))))
    refine wpQuiet_nil ?_
    intro _ hw'
    obtain ⟨⟨nq, osq⟩, hw''⟩ := hw'
    subst hw''
    have HG3 : Hid (Grew w (grow (w2.drewN nq) osq)) := HG2.out.grow _ _
    have B3 : Hid (Box (grow (w2.drewN nq) osq) w.heap.size t r) := B2.out.grew ⟨_, _, rfl⟩
    have HV3 : Hid (NumVars (grow (w2.drewN nq) osq)) := HV2.out.kept (Grew.below ⟨_, _, rfl⟩)
    generalize grow (w2.drewN nq) osq = W3 at *
    clear c0 B2 HG2 HV2
    go_wp2_with fail
    refine (num_any' _ _).mono ?_
    rintro e w4 ⟨rfl, rfl⟩
    go_wp2_with fail
    refine Calls.mono (HQ.out W3 HV3.out) ?_
    rintro e w5 ⟨rfl, hb⟩
    have HB5 : Hid (Below w.heap.size w w5) := HG3.out.below.trans (hb.mono HG3.out.size)
    have d1 := (hb.cell (p := ⟨w.heap.size, 0, none⟩) (cell_lt B3.out.1)).trans B3.out.1
    have d2 := (hb.cell (p := ⟨w.heap.size, 1, none⟩) (cell_lt B3.out.2)).trans B3.out.2
    have B5 : Hid (Box w5 w.heap.size t r) := ⟨d1, d2⟩
    have HV5 : Hid (NumVars w5) := HV3.out.kept hb
    have hne := run_neKey t r t r
    have hgd := fun op x y => run_eqGuard op x y t r t r
    rw [show decide ((t, r) = (t, r)) = true by simp] at hne
    clear hb B3 HV3 HG3 HQ d1 d2
    have q1 := (B5.out.alloc (.cells #[.int .i64 t, .int .i64 r] 23)).1
    have q2 := (B5.out.alloc (.cells #[.int .i64 t, .int .i64 r] 23)).2
    go_wp2_with (go_at_call 8; refine (num_any' _ _).mono ?_; rintro e w' ⟨rfl, rfl⟩)
    have HB6 : Hid (Below w.heap.size w (w5.alloc (.cells #[.int .i64 t, .int .i64 r] 23))) := HB5.out.alloc HB5.out.size _
    have HV6 : Hid (NumVars (w5.alloc (.cells #[.int .i64 t, .int .i64 r] 23))) := HV5.out.kept ((Grew.refl _).alloc _).below
    clear q1 q2 hne hgd B5 HB5 HV5
    generalize w5.alloc (.cells #[.int .i64 t, .int .i64 r] 23) = W6 at *
    refine Calls.mono (HP.out W6 HV6.out) ?_
    rintro e w7 ⟨rfl, hb⟩
    have HB7 : Hid (Below w.heap.size w w7) := HB6.out.trans (hb.mono HB6.out.size)
    have HV7 : Hid (NumVars w7) := HV6.out.kept hb
    clear hb HB6 HV6 HP
    rcases HC.out with ⟨h1, h2, h3⟩ | ⟨h1, h2, h3⟩
    · simp only [Prod.mk.injEq] at h2
      obtain ⟨rfl, rfl⟩ := h2
      have hg : (g != 0) = true := by simpa using h1
      have hq := run_eqKey 0 0 0 0
      have hgd := fun op x y => run_eqGuard op x y 0 0 0 0
      rw [show decide (((0 : Int), (0 : Int)) = (0, 0)) = true by simp] at hq
      have ha : (at' : Int) ≤ (s.size : Int) := by omega
      clear HC h1 h3
      go_wp2_with (go_at_call 8; refine (num_any' _ _).mono ?_; rintro e w' ⟨rfl, rfl⟩)
      go_ret
      exact ⟨rfl, HB7.out.alloc HB7.out.size _⟩
    · subst h1 h2
      have HT9 : Hid _ := h3
      clear HC h3
      go_wp2_with (go_at_call 8; refine (num_any' _ _).mono ?_; rintro e w' ⟨rfl, rfl⟩)
      have HB8 : Hid (Below w.heap.size w (w7.alloc (.cells #[.int .i64 y1, .int .i64 y2] 23))) := HB7.out.alloc HB7.out.size _
      refine Calls.mono (HT9.out (w7.alloc (.cells #[.int .i64 y1, .int .i64 y2] 23)) (HV7.out.kept ((Grew.refl _).alloc _).below).1) ?_
      rintro e w9 ⟨rfl, gg⟩
      have HB9 : Hid (Below w.heap.size w w9) := HB8.out.trans ((Grew.below gg).mono HB8.out.size)
      clear gg HB8 HB7 HT9
      go_wp2_with (go_at_call 8; refine (num_any' _ _).mono ?_; rintro e w' ⟨rfl, rfl⟩)
      go_ret
      exact ⟨rfl, HB9.out⟩
  · have hT : isKey (t, r) = false := by simpa using hk
    have HT : Hid (Calls Tryd.prog 7 #[.agg #[.int .i64 t, .int .i64 r]] w1 fun e w' => e = .returned (.tuple #[.string ⟨#[]⟩, .int .i64 20]) ∧ ∃ q os, w' = grow (w1.drewN q) os) := text_none w1 t r hT
    have hk2 : t < 0 ∨ 65535 < t := by have : ¬ (0 ≤ t ∧ t ≤ 65535) := by simpa [isKey] using hk
                                       omega
    clear hk hT
    go_wp2_with fail
    refine Calls.mono HT.out ?_
    rintro e w2 ⟨rfl, gg⟩
    have B2 : Hid (Box w2 w.heap.size t r) := B1.out.grew gg
    have HG2 : Hid (Grew w w2) := HG1.out.trans gg
    have HV2 : Hid (NumVars w2) := HV1.out.kept (Grew.below gg)
    clear gg B1 HG1 HV1 HT p1 p2
    have c0 := fun n os => cell_grown (cell_lt B2.out.1) B2.out.1 n os
    rcases hk2 with h0 | h0
    · have h0' : decide (0 ≤ t) = false := by simp; omega
      go_wp2_with fail
      refine wp_region_quiet_grown mx (by kernel_rfl) ?_
      repeat (go_big_quiet_step ((go_at_call 8; exact Calls.grown_of ((num_any _ _).mono fun e w' h => ⟨h.1, 0, #[], by rw [h.2, grow_empty]; rfl⟩))))
      refine wpQuiet_nil ?_
      intro _ hw'
      obtain ⟨⟨nq, osq⟩, hw''⟩ := hw'
      subst hw''
      have HB6 : Hid (Below w.heap.size w (grow (w2.drewN nq) osq)) := (HG2.out.grow _ _).below
      have HV6 : Hid (NumVars (grow (w2.drewN nq) osq)) := HV2.out.kept (Grew.below ⟨_, _, rfl⟩)
      generalize grow (w2.drewN nq) osq = W6 at *
      clear c0 B2 HG2 HV2
      go_wp2_with fail
      refine (num_any' _ _).mono ?_
      rintro e w4 ⟨rfl, rfl⟩
      go_wp2_with fail
      refine Calls.mono (HP.out W6 HV6.out) ?_
      rintro e w7 ⟨rfl, hb⟩
      have HB7 : Hid (Below w.heap.size w w7) := HB6.out.trans (hb.mono HB6.out.size)
      have HV7 : Hid (NumVars w7) := HV6.out.kept hb
      clear hb HB6 HV6 HP
      rcases HC.out with ⟨h1, h2, h3⟩ | ⟨h1, h2, h3⟩
      · simp only [Prod.mk.injEq] at h2
        obtain ⟨rfl, rfl⟩ := h2
        have hg : (g != 0) = true := by simpa using h1
        have hq := run_eqKey 0 0 0 0
        have hgd := fun op x y => run_eqGuard op x y 0 0 0 0
        rw [show decide (((0 : Int), (0 : Int)) = (0, 0)) = true by simp] at hq
        have ha : (at' : Int) ≤ (s.size : Int) := by omega
        clear HC h1 h3
        go_wp2_with (go_at_call 8; refine (num_any' _ _).mono ?_; rintro e w' ⟨rfl, rfl⟩)
        go_ret
        exact ⟨rfl, HB7.out.alloc HB7.out.size _⟩
      · subst h1 h2
        have HT9 : Hid _ := h3
        clear HC h3
        go_wp2_with (go_at_call 8; refine (num_any' _ _).mono ?_; rintro e w' ⟨rfl, rfl⟩)
        have HB8 : Hid (Below w.heap.size w (w7.alloc (.cells #[.int .i64 y1, .int .i64 y2] 23))) := HB7.out.alloc HB7.out.size _
        refine Calls.mono (HT9.out (w7.alloc (.cells #[.int .i64 y1, .int .i64 y2] 23)) (HV7.out.kept ((Grew.refl _).alloc _).below).1) ?_
        rintro e w9 ⟨rfl, gg⟩
        have HB9 : Hid (Below w.heap.size w w9) := HB8.out.trans ((Grew.below gg).mono HB8.out.size)
        clear gg HB8 HB7 HT9
        go_wp2_with (go_at_call 8; refine (num_any' _ _).mono ?_; rintro e w' ⟨rfl, rfl⟩)
        go_ret
        exact ⟨rfl, HB9.out⟩
    · have h0' : (0 : Int) ≤ t := by omega
      have h1' : decide (t ≤ 65535) = false := by simp; omega
      go_wp2_with fail
      refine wp_region_quiet_grown mx (by kernel_rfl) ?_
      repeat (go_big_quiet_step ((go_at_call 8; exact Calls.grown_of ((num_any _ _).mono fun e w' h => ⟨h.1, 0, #[], by rw [h.2, grow_empty]; rfl⟩))))
      refine wpQuiet_nil ?_
      intro _ hw'
      obtain ⟨⟨nq, osq⟩, hw''⟩ := hw'
      subst hw''
      have HB6 : Hid (Below w.heap.size w (grow (w2.drewN nq) osq)) := (HG2.out.grow _ _).below
      have HV6 : Hid (NumVars (grow (w2.drewN nq) osq)) := HV2.out.kept (Grew.below ⟨_, _, rfl⟩)
      generalize grow (w2.drewN nq) osq = W6 at *
      clear c0 B2 HG2 HV2
      go_wp2_with fail
      refine (num_any' _ _).mono ?_
      rintro e w4 ⟨rfl, rfl⟩
      go_wp2_with fail
      refine Calls.mono (HP.out W6 HV6.out) ?_
      rintro e w7 ⟨rfl, hb⟩
      have HB7 : Hid (Below w.heap.size w w7) := HB6.out.trans (hb.mono HB6.out.size)
      have HV7 : Hid (NumVars w7) := HV6.out.kept hb
      clear hb HB6 HV6 HP
      rcases HC.out with ⟨h1, h2, h3⟩ | ⟨h1, h2, h3⟩
      · simp only [Prod.mk.injEq] at h2
        obtain ⟨rfl, rfl⟩ := h2
        have hg : (g != 0) = true := by simpa using h1
        have hq := run_eqKey 0 0 0 0
        have hgd := fun op x y => run_eqGuard op x y 0 0 0 0
        rw [show decide (((0 : Int), (0 : Int)) = (0, 0)) = true by simp] at hq
        have ha : (at' : Int) ≤ (s.size : Int) := by omega
        clear HC h1 h3
        go_wp2_with (go_at_call 8; refine (num_any' _ _).mono ?_; rintro e w' ⟨rfl, rfl⟩)
        go_ret
        exact ⟨rfl, HB7.out.alloc HB7.out.size _⟩
      · subst h1 h2
        have HT9 : Hid _ := h3
        clear HC h3
        go_wp2_with (go_at_call 8; refine (num_any' _ _).mono ?_; rintro e w' ⟨rfl, rfl⟩)
        have HB8 : Hid (Below w.heap.size w (w7.alloc (.cells #[.int .i64 y1, .int .i64 y2] 23))) := HB7.out.alloc HB7.out.size _
        refine Calls.mono (HT9.out (w7.alloc (.cells #[.int .i64 y1, .int .i64 y2] 23)) (HV7.out.kept ((Grew.refl _).alloc _).below).1) ?_
        rintro e w9 ⟨rfl, gg⟩
        have HB9 : Hid (Below w.heap.size w w9) := HB8.out.trans ((Grew.below gg).mono HB8.out.size)
        clear gg HB8 HB7 HT9
        go_wp2_with (go_at_call 8; refine (num_any' _ _).mono ?_; rintro e w' ⟨rfl, rfl⟩)
        go_ret
        exact ⟨rfl, HB9.out⟩

end Go.Proofs.YtnjgaibcpcpmcabDoor
