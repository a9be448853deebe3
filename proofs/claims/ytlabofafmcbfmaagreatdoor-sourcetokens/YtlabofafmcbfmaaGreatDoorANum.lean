/-
  THE WALK OF codec.Number (beside ALBase).
-/
import Derived.Test.YtlabofafmcbfmaaGreatDoorDig
namespace Go.Proofs.YtlabofafmcbfmaaGreatDoor
open Go.RowKit Go.Shelf

/-- what the library's variables hold -/
def NumVars (w : World) : Prop :=
  Lib.TabIs Tryz.prog w "internal/strconv.uint64pow10" .u64 Lib.pow10Tab ∧ (∃ tp p, w.var? Tryz.prog "strconv.ErrSyntax" = some #[.iface tp p]) ∧ (∃ tp p, w.var? Tryz.prog "strconv.ErrRange" = some #[.iface tp p])

theorem gBad : Tryz.prog.globalNamed "strconv.ErrSyntax" = some 5 := by kernel_rfl
theorem gRange : Tryz.prog.globalNamed "strconv.ErrRange" = some 6 := by kernel_rfl
theorem NumVars.kept {w w1 : World} (h : NumVars w) (hb : Below w.heap.size w w1) : NumVars w1 := by
  obtain ⟨h1, ⟨tp, p, h2⟩, tq, q, h3⟩ := h
  exact ⟨var_kept gPow h1 hb, ⟨tp, p, var_kept gBad h2 hb⟩, tq, q, var_kept gRange h3 hb⟩

theorem digits_anyN (w : World) (n : Int) (h0 : -9223372036854775808 ≤ n) (h1 : n ≤ 9223372036854775807) (hv : NumVars w) :
    Calls Tryz.prog 71 #[.int .i64 n] w fun e w' => e = .returned (.string ⟨(Lib.itoa n).toArray⟩) ∧ Below w.heap.size w w' := by
  have HV : Hid (NumVars w) := hv
  clear hv
  go_enter Tryz.func71, Tryz.ntmps71
  go_wp2_with fail
  refine (formatInt_any w n h0 h1 HV.out.1).mono ?_
  rintro e w1 ⟨rfl, hb⟩
  go_wp2
  go_ret
  exact ⟨rfl, hb⟩

theorem parse_ok (w : World) (s : ByteArray) (hs : s.size ≤ 9223372036854775806) (v : Int) (h : Lib.parseIntB 64 s.data.toList = .ok v) :
    Calls Tryz.prog 70 #[.string s, .int .i64 10, .int .i64 64] w fun e w' => e = .returned (.tuple #[.int .i64 v, .nilIface]) ∧ Below w.heap.size w w' := by
  refine (show Calls Tryz.prog 70 #[.string s, .int .i64 10, .int .i64 64] w _ from Any.strconv_ParseInt_10_at64_ok laysC174 s hs v h w).mono ?_
  rintro e w' ⟨rfl, h1⟩
  refine ⟨rfl, ?_⟩
  rcases h1 with rfl | ⟨t, rfl⟩
  · exact Below.refl _ _
  · exact Lib.bytesWorld_below w _ t
theorem parse_bad (w : World) (s : ByteArray) (hs : s.size ≤ 281474976710656) (h : ∀ v, Lib.parseIntB 64 s.data.toList ≠ .ok v) (hv : NumVars w) :
    Calls Tryz.prog 70 #[.string s, .int .i64 10, .int .i64 64] w fun e w' => ∃ x N, e = .returned (.tuple #[.int .i64 x, .iface 127 (.pointer (some ⟨N, 0, none⟩))]) ∧ Below w.heap.size w w' := by
  obtain ⟨_, ⟨tp, p, h2⟩, tq, q, h3⟩ := hv
  cases hh : Lib.parseIntB 64 s.data.toList with
  | ok v => exact absurd hh (h v)
  | range =>
    refine (show Calls Tryz.prog 70 #[.string s, .int .i64 10, .int .i64 64] w _ from Any.strconv_ParseInt_10_at64_range_var laysC174 s hs hh tq q w h3).mono ?_
    rintro e w' ⟨N, rfl, _, _, hb⟩
    exact ⟨_, N, rfl, hb⟩
  | _ =>
    refine (show Calls Tryz.prog 70 #[.string s, .int .i64 10, .int .i64 64] w _ from Any.strconv_ParseInt_10_at64_syntax_var laysC174 s hs hh tp p w h2).mono ?_
    rintro e w' ⟨N, rfl, _, _, hb⟩
    exact ⟨_, N, rfl, hb⟩

set_option maxHeartbeats 400000 in
theorem number_any (w : World) (s : ByteArray) (hs : s.size ≤ 281474976710656) (hv : NumVars w) :
    Calls Tryz.prog 60 #[.string s] w fun e w' => e = .returned (.tuple #[.int .i64 (Dec.num1 s.data.toList).1, .bool (Dec.num1 s.data.toList).2]) ∧ Below w.heap.size w w' := by
  have HV : Hid (NumVars w) := hv
  clear hv
  by_cases hx : ∃ v, Lib.parseIntB 64 s.data.toList = .ok v
  · obtain ⟨v, hx⟩ := hx
    have HX : Hid (Lib.parseIntB 64 s.data.toList = .ok v) := hx
    have vb := Dec.parse_bounds hx
    clear hx
    go_enter Tryz.func60, Tryz.ntmps60
    go_wp2_with fail
    refine (parse_ok w s (by omega) v HX.out).mono ?_
    rintro e w1 ⟨rfl, hb1⟩
    have HV1 : Hid (NumVars w1) := HV.out.kept hb1
    have HB1 : Hid (Below w.heap.size w w1) := hb1
    clear hb1
    go_wp2_with fail
    refine (digits_anyN w1 v vb.1 vb.2 HV1.out).mono ?_
    rintro e w2 ⟨rfl, hb2⟩
    have HB2 : Hid (Below w.heap.size w w2) := HB1.out.trans (hb2.mono HB1.out.size)
    clear hb2
    by_cases hE : Lib.itoa v = s.data.toList
    · have hB : (!Lib.itoa v == s.toList) = false := by rw [byteList s]; simp [hE]
      have HE : Hid (Dec.num1 s.data.toList = (v, true)) := by unfold Dec.num1; rw [Hid, HX.out]; simp [hE]
      clear hE
      go_wp2
      go_ret2
      exact ⟨by rw [HE.out]; rfl, HB2.out⟩
    · have hB : (!Lib.itoa v == s.toList) = true := by rw [byteList s]; simp [hE]
      have HE : Hid (Dec.num1 s.data.toList = (0, false)) := by unfold Dec.num1; rw [Hid, HX.out]; simp [hE]
      clear hE
      go_wp2
      go_ret2
      exact ⟨by rw [HE.out]; rfl, HB2.out⟩
  · have HX : Hid (∀ v, Lib.parseIntB 64 s.data.toList ≠ .ok v) := fun v h => hx ⟨v, h⟩
    have HE : Hid (Dec.num1 s.data.toList = (0, false)) := by
      unfold Dec.num1; rw [Hid]
      split
      · rename_i v h; exact absurd h (HX.out v)
      · rfl
    clear hx
    go_enter Tryz.func60, Tryz.ntmps60
    go_wp2_with fail
    refine (parse_bad w s (by omega) HX.out HV.out).mono ?_
    rintro e w1 ⟨x, N, rfl, hb1⟩
    go_wp2
    go_ret2
    exact ⟨by rw [HE.out]; rfl, hb1⟩

end Go.Proofs.YtlabofafmcbfmaaGreatDoor
