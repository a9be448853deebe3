/-
  THE WALK OF codec.Seal.
-/
import Derived.Test.YthdlilekilkogaaDoorFour
import Derived.Test.YthdlilekilkogaaDoorSum
namespace Go.Proofs.YthdlilekilkogaaDoor
open Go.RowKit

/-- make([]byte, 0, n) -/
theorem make_room (c : Nat) (C : Int) (hC : C = c) (hc : c ≤ 281474976710656) (u : World) : (Instr.makeSlice 22 (.int .i64 0) (.int .i64 C)).run Tryd.prog u =
    .ok (.slice (some ⟨u.heap.size, 0, none⟩) 0 c) (u.alloc (.cells (madeCells #[.int .u8 0] c) 5)) := by
  obtain ⟨i0, hi, hz0, hz1, hz2⟩ := info_parts info8
  subst hC
  have h := run_make (P := Tryd.prog) u 22 5 i0 (.int .u8 0) Tryd.underlying22 hi hz0 .i64 .i64 0 (c : Int) (by omega) (by omega) (by rw [hz2]; omega) (by omega)
  simpa [hz1, Value.cells] using h
theorem room_own (u : World) (c : Nat) (hc : c ≤ 281474976710656) : OwnB (u.alloc (.cells (madeCells #[.int .u8 0] c) 5)) u.heap.size (.slice (some ⟨u.heap.size, 0, none⟩) 0 c) [] :=
  ⟨by simp, World.ownsRow_made u _ c (Nat.le_refl _) (by unfold maxLen; omega) (by simp [size_madeCells])⟩
theorem below_grown {B : Nat} {a w w' : World} {row : Option Nat} (h : Below B a w) (hg : w.grownBy w' row) (hB : B ≤ w.heap.size) (hr : ∀ k, row = some k → B ≤ k) : Below B a w' := h.grown hg hB hr

set_option maxHeartbeats 800000 in
theorem seal_any (w : World) (ao : Option Addr) (cap n kind : Nat) (zs : List Nat) (hn : n = zs.length) (h : BytesAt w ao zs) (hnil : ao = none → cap = 0) (hk : kind < 256) (hm : n ≤ 16777216) (ht : TabAt w) :
    Calls Tryd.prog 10 #[.int .u8 (kind : Int), .slice ao n cap] w fun e w' => ∃ v, e = .returned v ∧ OwnB w' w.heap.size v (Rec.sealed kind zs) ∧ Below w.heap.size w w' := by
  have hmk := make_room (9 + n + 4) (9 + (n : Int) + 4) (by omega) (by omega)
  have HN : Hid (n = zs.length) := hn
  have HA : Hid (BytesAt w ao zs) := h
  have HT : Hid (TabAt w) := ht
  have HO := room_own w (9 + n + 4) (by omega)
  have HB := (Below.refl w.heap.size w).alloc (Nat.le_refl _) (.cells (madeCells #[.int .u8 0] (9 + n + 4)) 5)
  have HO' : Hid (OwnB (w.alloc (.cells (madeCells #[.int .u8 0] (9 + n + 4)) 5)) w.heap.size (.slice (some ⟨w.heap.size, 0, none⟩) 0 (9 + n + 4)) []) := HO
  have HB' : Hid (Below w.heap.size w (w.alloc (.cells (madeCells #[.int .u8 0] (9 + n + 4)) 5))) := HB
  clear hn h ht HO HB
  go_enter Tryd.func10, Tryd.ntmps10
  go_wp2_with (at_builtin; refine wpList_append_bytes rfl _ _ rfl w.heap.size (.slice (some ⟨w.heap.size, 0, none⟩) 0 (9 + n + 4)) [] rfl (HO'.out.alloc _) _ _ _ [kind] rfl rfl (byte_src _ _ kind (by simp) hk) (by simp) (by simp) (by simp; omega) ?_; intro v1 w1 hown1 hgrow1)
  have HO1 : Hid (OwnB w1 w.heap.size v1 [kind]) := hown1
  have HB1 : Hid (Below w.heap.size w w1) := (HB'.out.alloc (by simp) _).grown hgrow1 (by simp; omega) (by intro k hk; cases hk; exact Nat.le_refl _)
  clear hown1 hgrow1 hmk HO' HB'
  go_wp2_with fail
  refine (appendFour_any w1 w.heap.size v1 [kind] n (by omega) HO1.out (by simp) HB1.out.size).mono ?_
  rintro e w2 ⟨v2, rfl, hown2, hgrow2⟩
  have HO2 : Hid (OwnB w2 w.heap.size v2 (Rec.head kind n)) := hown2
  have HB2 : Hid (Below w.heap.size w w2) := HB1.out.grown hgrow2 HB1.out.size (ownBlock_lt HO1.out)
  clear hown2 hgrow2 HO1 HB1
  obtain ⟨a2, c2, hv2, hb2, hn2, hl2⟩ := HO2.out.slice
  subst hv2
  have HS2 : Hid (BytesAt w2 a2 (Rec.head kind n)) := hb2
  have HT2 : Hid (TabAt w2) := HT.out.kept HB2.out
  clear hb2 hn2 hl2
  go_wp2_with fail
  refine (sum_any w2 a2 c2 _ (Rec.head kind n) rfl HS2.out (by simp [Rec.head, Rec.le4, maxLen]) HT2.out).mono ?_
  rintro e w3 ⟨rfl, rfl⟩
  go_wp2_with fail
  refine (appendFour_any w3 w.heap.size _ (Rec.head kind n) (Crc.sum (Rec.head kind n)) Rec.sum_lt HO2.out (by simp [Rec.head, Rec.le4]) HB2.out.size).mono ?_
  rintro e w4 ⟨v4, rfl, hown4, hgrow4⟩
  have HO4 : Hid (OwnB w4 w.heap.size v4 (Rec.head kind n ++ Rec.le4 (Crc.sum (Rec.head kind n)))) := hown4
  have HB4 : Hid (Below w.heap.size w w4) := HB2.out.grown hgrow4 HB2.out.size (ownBlock_lt HO2.out)
  have HA4 : Hid (BytesAt w4 ao zs) := HA.out.kept HB4.out
  have HT4 : Hid (TabAt w4) := HT.out.kept HB4.out
  clear hown4 hgrow4 HO2 HB2 HS2 HT2
  go_wp2_with (at_builtin; refine wpList_append_bytes rfl _ _ rfl w.heap.size v4 (Rec.head kind n ++ Rec.le4 (Crc.sum (Rec.head kind n))) rfl HO4.out _ _ _ zs rfl HN.out HA4.out hnil (by rw [← HN.out]; simp [Rec.head, Rec.le4]; omega) HB4.out.size ?_; intro v5 w5 hown5 hgrow5)
  have HO5 : Hid (OwnB w5 w.heap.size v5 (Rec.head kind n ++ Rec.le4 (Crc.sum (Rec.head kind n)) ++ zs)) := hown5
  have HB5 : Hid (Below w.heap.size w w5) := HB4.out.grown hgrow5 HB4.out.size (ownBlock_lt HO4.out)
  have HA5 : Hid (BytesAt w5 ao zs) := HA.out.kept HB5.out
  have HT5 : Hid (TabAt w5) := HT.out.kept HB5.out
  clear hown5 hgrow5 HO4 HB4 HA4 HT4
  refine (sum_any w5 ao cap n zs HN.out HA5.out (by rw [← HN.out]; unfold maxLen; omega) HT5.out).mono ?_
  rintro e w6 ⟨rfl, rfl⟩
  go_wp2_with fail
  refine (appendFour_any w6 w.heap.size v5 _ (Crc.sum zs) Rec.sum_lt HO5.out (by rw [List.length_append, ← HN.out]; simp [Rec.head, Rec.le4]; omega) HB5.out.size).mono ?_
  rintro e w7 ⟨v7, rfl, hown7, hgrow7⟩
  have HO7 : Hid (OwnB w7 w.heap.size v7 (Rec.sealed kind zs)) := by
    unfold Rec.sealed
    rw [← HN.out]
    exact hown7
  have HB7 : Hid (Below w.heap.size w w7) := HB5.out.grown hgrow7 HB5.out.size (ownBlock_lt HO5.out)
  clear hown7 hgrow7
  go_wp2
  go_ret
  exact ⟨v7, rfl, HO7.out, HB7.out⟩

/-- a load that is too great: nothing -/
theorem seal_great (w : World) (ao : Option Addr) (cap n kind : Nat) (hm : 16777216 < n) :
    Calls Tryd.prog 10 #[.int .u8 (kind : Int), .slice ao n cap] w fun e w' => e = .returned (.slice none 0 0) ∧ w' = w := by
  have h : (16777216 : Int) < (n : Int) := by omega
  go_enter Tryd.func10, Tryd.ntmps10
  go_wp2
  go_ret
  exact ⟨rfl, rfl⟩

end Go.Proofs.YthdlilekilkogaaDoor
