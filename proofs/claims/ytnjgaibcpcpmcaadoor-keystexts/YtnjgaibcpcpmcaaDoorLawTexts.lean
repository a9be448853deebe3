/-
  THE WALK OF KeysTexts.
-/
import Derived.Test.YtnjgaibcpcpmcaaDoorRParse
import Derived.Test.YtnjgaibcpcpmcaaDoorKNe
namespace Go.Proofs.YtnjgaibcpcpmcaaDoor
open Go.RowKit Go.Sort Go.Shelf

theorem textOf_len {k : K} (h1 : In64 k.1) (h2 : In64 k.2) : (textOf k).length ≤ 41 := by
  have a := itoa_len k.1 h1
  have b := itoa_len k.2 h2
  unfold textOf
  simp; omega
/-- what Text answers -/
def textV (k : K) : ByteArray := if isKey k then ⟨(textOf k).toArray⟩ else ⟨#[]⟩
def textE (k : K) : Int := if isKey k then 0 else 20
theorem text_all (w : World) (t r : Int) (hr : In64 r) (hv : NumVars w) :
    Calls Tryd.prog 4 #[.agg #[.int .i64 t, .int .i64 r]] w fun e w' => e = .returned (.tuple #[.string (textV (t, r)), .int .i64 (textE (t, r))]) ∧ ∃ q os, w' = grow (w.drewN q) os := by
  unfold textV textE
  by_cases hk : isKey (t, r) = true
  · rw [if_pos hk, if_pos hk]; exact text_key w t r hk hr hv.1
  · rw [if_neg hk, if_neg hk]; exact text_none w t r (by simpa using hk)
theorem refText_all (w : World) (t r : Int) (hr : In64 r) :
    Calls Tryd.prog 5 #[.agg #[.int .i64 t, .int .i64 r]] w fun e w' => e = .returned (.tuple #[.string (textV (t, r)), .int .i64 (textE (t, r))]) ∧ ∃ q os, w' = grow (w.drewN q) os := by
  unfold textV textE
  by_cases hk : isKey (t, r) = true
  · rw [if_pos hk, if_pos hk]; exact refText_key w t r hk hr
  · rw [if_neg hk, if_neg hk]; exact refText_none w t r (by simpa using hk)
theorem textV_size (t r : Int) (ht : In64 t) (hr : In64 r) : (textV (t, r)).size ≤ 281474976710656 := by
  unfold textV
  split
  · rw [sz]; have := textOf_len (k := (t, r)) ht hr; omega
  · simp [ByteArray.size]

set_option maxHeartbeats 4000000 in
set_option maxRecDepth 100000 in
theorem texts_walk (w : World) (t r : Int) (s : ByteArray) (it : In64 t) (ir : In64 r) (hs : s.size ≤ 140737488351232) (hv : NumVars w) :
    Calls Tryd.prog 3 #[.agg #[.int .i64 t, .int .i64 r], .string s] w fun e w' => e = .returned (.bool true) ∧ Below w.heap.size w w' := by
  have HV : Hid (NumVars w) := hv
  clear hv
  have HP : Hid (∀ w, NumVars w → Calls Tryd.prog 7 #[.string s] w fun e w' => e = .returned (.tuple #[.agg #[.int .i64 (parse s.data.toList).1.1, .int .i64 (parse s.data.toList).1.2], .int .i64 ((parse s.data.toList).2.1 : Int), .int .i64 (parse s.data.toList).2.2]) ∧ Below w.heap.size w w') := fun w h => parse_any w s (by omega) h
  have HQ : Hid (∀ w, Calls Tryd.prog 8 #[.string s] w fun e w' => e = .returned (.tuple #[.agg #[.int .i64 (parse s.data.toList).1.1, .int .i64 (parse s.data.toList).1.2], .int .i64 ((parse s.data.toList).2.1 : Int), .int .i64 (parse s.data.toList).2.2]) ∧ Below w.heap.size w w') := fun w => refParse_any w s (by omega)
  have HT : Hid (∀ w, NumVars w → Calls Tryd.prog 4 #[.agg #[.int .i64 t, .int .i64 r]] w fun e w' => e = .returned (.tuple #[.string (textV (t, r)), .int .i64 (textE (t, r))]) ∧ ∃ q os, w' = grow (w.drewN q) os) := fun w h => text_all w t r ir h
  have HU : Hid (∀ w, Calls Tryd.prog 5 #[.agg #[.int .i64 t, .int .i64 r]] w fun e w' => e = .returned (.tuple #[.string (textV (t, r)), .int .i64 (textE (t, r))]) ∧ ∃ q os, w' = grow (w.drewN q) os) := fun w => refText_all w t r ir
  have hz := textV_size t r it ir
  generalize textV (t, r) = S2 at *
  generalize textE (t, r) = E2 at *
  have HP2 : Hid (∀ w, NumVars w → Calls Tryd.prog 7 #[.string S2] w fun e w' => e = .returned (.tuple #[.agg #[.int .i64 (parse S2.data.toList).1.1, .int .i64 (parse S2.data.toList).1.2], .int .i64 ((parse S2.data.toList).2.1 : Int), .int .i64 (parse S2.data.toList).2.2]) ∧ Below w.heap.size w w') := fun w h => parse_any w S2 hz h
  have HQ2 : Hid (∀ w, Calls Tryd.prog 8 #[.string S2] w fun e w' => e = .returned (.tuple #[.agg #[.int .i64 (parse S2.data.toList).1.1, .int .i64 (parse S2.data.toList).1.2], .int .i64 ((parse S2.data.toList).2.1 : Int), .int .i64 (parse S2.data.toList).2.2]) ∧ Below w.heap.size w w') := fun w => refParse_any w S2 hz
  generalize parse s.data.toList = PR at *
  generalize parse S2.data.toList = PS at *
  obtain ⟨⟨y1, y2⟩, p, g⟩ := PR
  obtain ⟨⟨z1, z2⟩, q, g2⟩ := PS
  simp only at HP HQ HP2 HQ2
  clear it ir hs hz
  have hne := run_neKey y1 y2 y1 y2
  have hgd := fun op x y => run_eqGuard op x y y1 y2 y1 y2
  rw [show decide ((y1, y2) = (y1, y2)) = true by simp] at hne
  have heq := run_eqKey z1 z2 z1 z2
  have hgd2 := fun op x y => run_eqGuard op x y z1 z2 z1 z2
  rw [show decide ((z1, z2) = (z1, z2)) = true by simp] at heq
  go_enter Tryd.func3, Tryd.ntmps3
  go_wp2_with fail
  have B0 : Hid (Box (w.alloc (.cells #[.int .i64 t, .int .i64 r] 23)) w.heap.size t r) := Box.new rfl
  have HG : Hid (Grew w (w.alloc (.cells #[.int .i64 t, .int .i64 r] 23))) := (Grew.refl _).alloc _
  generalize w.alloc (.cells #[.int .i64 t, .int .i64 r] 23) = W at *
  refine Calls.mono (HT.out W (HV.out.kept HG.out.below)) ?_
  rintro e w1 ⟨rfl, gg⟩
  have B1 : Hid (Box w1 w.heap.size t r) := B0.out.grew gg
  have HG1 : Hid (Grew w w1) := HG.out.trans gg
  clear gg B0 HG HT
  obtain ⟨p1, p2⟩ := B1.out
  go_wp2_with fail
  refine Calls.mono (HU.out w1) ?_
  rintro e w2 ⟨rfl, gg⟩
  have HG2 : Hid (Grew w w2) := HG1.out.trans gg
  have HV2 : Hid (NumVars w2) := HV.out.kept HG2.out.below
  clear gg B1 HG1 HU HV p1 p2
  go_wp2_with (go_at_call 6; refine (num_any' _ _).mono ?_; rintro e w' ⟨rfl, rfl⟩)
  refine Calls.mono (HP.out w2 HV2.out) ?_
  rintro e w3 ⟨rfl, hb⟩
  have HB3 : Hid (Below w.heap.size w w3) := HG2.out.below.trans (hb.mono HG2.out.size)
  have HV3 : Hid (NumVars w3) := HV2.out.kept hb
  clear hb HG2 HV2 HP
  go_wp2_with fail
  have B4 : Hid (Box (w3.alloc (.cells #[.int .i64 y1, .int .i64 y2] 23)) w3.heap.size y1 y2) := Box.new rfl
  have HB4 : Hid (Below w.heap.size w (w3.alloc (.cells #[.int .i64 y1, .int .i64 y2] 23))) := HB3.out.alloc HB3.out.size _
  have HV4 : Hid (NumVars (w3.alloc (.cells #[.int .i64 y1, .int .i64 y2] 23))) := HV3.out.kept ((Grew.refl _).alloc _).below
  generalize w3.alloc (.cells #[.int .i64 y1, .int .i64 y2] 23) = W4 at *
  refine Calls.mono (HQ.out W4) ?_
  rintro e w5 ⟨rfl, hb⟩
  have B5 : Hid (Box w5 w3.heap.size y1 y2) := ⟨(hb.cell (p := ⟨w3.heap.size, 0, none⟩) (cell_lt B4.out.1)).trans B4.out.1, (hb.cell (p := ⟨w3.heap.size, 1, none⟩) (cell_lt B4.out.2)).trans B4.out.2⟩
  have HB5 : Hid (Below w.heap.size w w5) := HB4.out.trans (hb.mono HB4.out.size)
  have HV5 : Hid (NumVars w5) := HV4.out.kept hb
  clear hb HB4 HV4 HQ B4 HB3 HV3
  have q1 := (B5.out.alloc (.cells #[.int .i64 y1, .int .i64 y2] 23)).1
  have q2 := (B5.out.alloc (.cells #[.int .i64 y1, .int .i64 y2] 23)).2
  go_wp2_with (go_at_call 6; refine (num_any' _ _).mono ?_; rintro e w' ⟨rfl, rfl⟩)
  have HB6 : Hid (Below w.heap.size w (w5.alloc (.cells #[.int .i64 y1, .int .i64 y2] 23))) := HB5.out.alloc HB5.out.size _
  have HV6 : Hid (NumVars (w5.alloc (.cells #[.int .i64 y1, .int .i64 y2] 23))) := HV5.out.kept ((Grew.refl _).alloc _).below
  generalize w5.alloc (.cells #[.int .i64 y1, .int .i64 y2] 23) = W6 at *
  clear q1 q2 B5 HB5 HV5 hne hgd
  refine Calls.mono (HP2.out W6 HV6.out) ?_
  rintro e w7 ⟨rfl, hb⟩
  have HB7 : Hid (Below w.heap.size w w7) := HB6.out.trans (hb.mono HB6.out.size)
  clear hb HB6 HV6 HP2
  go_wp2_with fail
  have B8 : Hid (Box (w7.alloc (.cells #[.int .i64 z1, .int .i64 z2] 23)) w7.heap.size z1 z2) := Box.new rfl
  have HB8 : Hid (Below w.heap.size w (w7.alloc (.cells #[.int .i64 z1, .int .i64 z2] 23))) := HB7.out.alloc HB7.out.size _
  generalize w7.alloc (.cells #[.int .i64 z1, .int .i64 z2] 23) = W8 at *
  refine Calls.mono (HQ2.out W8) ?_
  rintro e w9 ⟨rfl, hb⟩
  have B9 : Hid (Box w9 w7.heap.size z1 z2) := ⟨(hb.cell (p := ⟨w7.heap.size, 0, none⟩) (cell_lt B8.out.1)).trans B8.out.1, (hb.cell (p := ⟨w7.heap.size, 1, none⟩) (cell_lt B8.out.2)).trans B8.out.2⟩
  have HB9 : Hid (Below w.heap.size w w9) := HB8.out.trans (hb.mono HB8.out.size)
  clear hb HB8 B8 HB7 HQ2
  have q1 := (B9.out.alloc (.cells #[.int .i64 z1, .int .i64 z2] 23)).1
  have q2 := (B9.out.alloc (.cells #[.int .i64 z1, .int .i64 z2] 23)).2
  go_wp2_with (go_at_call 6; refine (num_any' _ _).mono ?_; rintro e w' ⟨rfl, rfl⟩)
  go_ret
  exact ⟨rfl, HB9.out.alloc HB9.out.size _⟩

end Go.Proofs.YtnjgaibcpcpmcaaDoor
