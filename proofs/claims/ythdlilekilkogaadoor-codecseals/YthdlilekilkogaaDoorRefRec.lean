/-
  THE WALKS OF preluderef01.four, word, Seal, Unseal.
-/
import Derived.Test.YthdlilekilkogaaDoorUnsealAny
import Derived.Test.YthdlilekilkogaaDoorSeal
import Derived.Test.YthdlilekilkogaaDoorRefSum
namespace Go.Proofs.YthdlilekilkogaaDoor
open Go.RowKit

theorem refFour_any (w : World) (n : Nat) (hn : n < 4294967296) :
    Calls Tryd.prog 22 #[.int .u32 (n : Int)] w fun e w' => e = .returned (.slice (some ⟨w.heap.size, 0, none⟩) 4 4) ∧ BytesAt w' (some ⟨w.heap.size, 0, none⟩) (Rec.le4 n) ∧ Below w.heap.size w w' ∧ w'.heap.size = w.heap.size + 1 := by
  have HS : Hid (BytesAt (w.alloc (.cells #[.int .u8 ((n : Int) % 256), .int .u8 ((n : Int) / 256 % 256), .int .u8 ((n : Int) / 65536 % 256), .int .u8 ((n : Int) / 16777216)] 5)) (some ⟨w.heap.size, 0, none⟩) (Rec.le4 n)) := four_src w n hn
  go_enter Tryd.func22, Tryd.ntmps22
  go_wp2
  go_ret
  exact ⟨rfl, HS.out, (Below.refl _ _).alloc (Nat.le_refl _) _, by simp⟩

/-- word: the number that four bytes are. -/
theorem word_cells (w : World) (b off n cap : Nat) (z0 z1 z2 z3 : Nat) (h0 : z0 < 256) (h1 : z1 < 256) (h2 : z2 < 256) (h3 : z3 < 256) (hn : 4 ≤ n)
    (c0 : w.cell? ⟨b, off, none⟩ = some (.int .u8 (z0 : Int))) (c1 : w.cell? ⟨b, off + 1, none⟩ = some (.int .u8 (z1 : Int))) (c2 : w.cell? ⟨b, off + 2, none⟩ = some (.int .u8 (z2 : Int))) (c3 : w.cell? ⟨b, off + 3, none⟩ = some (.int .u8 (z3 : Int))) :
    Calls Tryd.prog 25 #[.slice (some ⟨b, off, none⟩) n cap] w fun e w' => e = .returned (.int .u32 ((z0 + 256 * z1 + 65536 * z2 + 16777216 * z3 : Nat) : Int)) ∧ ∃ q, w' = w.drewN q := by
  have hn0 : (0 : Int) < (n : Int) := by omega
  have hn1 : (1 : Int) < (n : Int) := by omega
  have hn2 : (2 : Int) < (n : Int) := by omega
  have hn3 : (3 : Int) < (n : Int) := by omega
  go_enter Tryd.func25, Tryd.ntmps25
  go_wp2
  go_quiet (fail)
  go_wp2
  go_ret
  refine ⟨congrArg (fun x => Ending.returned (.int .u32 x)) ?_, _, rfl⟩
  omega

theorem word_any (w : World) (ao : Option Addr) (cap n : Nat) (zs : List Nat) (hn : n = zs.length) (h : BytesAt w ao zs) (h4 : 4 ≤ n) :
    Calls Tryd.prog 25 #[.slice ao n cap] w fun e w' => e = .returned (.int .u32 ((Rec.un4 zs : Nat) : Int)) ∧ ∃ q, w' = w.drewN q := by
  obtain ⟨hz, rfl | ⟨b, off, rfl, hc⟩⟩ := h
  · simp at hn; omega
  · exact word_cells w b off n cap _ _ _ _ (Rec.getD_lt hz 0) (Rec.getD_lt hz 1) (Rec.getD_lt hz 2) (Rec.getD_lt hz 3) h4 (hc 0 (by omega)) (hc 1 (by omega)) (hc 2 (by omega)) (hc 3 (by omega))

set_option maxHeartbeats 800000 in
theorem refSeal_any (w : World) (ao : Option Addr) (cap n kind : Nat) (zs : List Nat) (hn : n = zs.length) (h : BytesAt w ao zs) (hnil : ao = none → cap = 0) (hk : kind < 256) (hm : n ≤ 16777216) :
    Calls Tryd.prog 11 #[.int .u8 (kind : Int), .slice ao n cap] w fun e w' => ∃ v, e = .returned v ∧ OwnB w' w.heap.size v (Rec.sealed kind zs) ∧ Below w.heap.size w w' := by
  have HN : Hid (n = zs.length) := hn
  have HA : Hid (BytesAt w ao zs) := h
  have hle : ¬ (16777216 : Int) < (n : Int) := by omega
  have HO0 : Hid (OwnB (w.alloc (.cells #[.int .u8 (kind : Int)] 5)) w.heap.size (.slice (some ⟨w.heap.size, 0, none⟩) 1 1) [kind]) := OwnB.made (w := w) (L := [kind]) (by simpa using hk) (by simp [maxLen]) (Nat.le_refl _)
  have HB0 : Hid (Below w.heap.size w (w.alloc (.cells #[.int .u8 (kind : Int)] 5))) := (Below.refl _ _).alloc (Nat.le_refl _) _
  clear hn h
  go_enter Tryd.func11, Tryd.ntmps11
  go_wp2_with fail
  generalize w.alloc (.cells #[.int .u8 (kind : Int)] 5) = w0 at *
  refine (refFour_any w0 n (by omega)).mono ?_
  rintro e w1 ⟨rfl, hs1, hb1, _⟩
  have HS1 : Hid (BytesAt w1 (some ⟨w0.heap.size, 0, none⟩) (Rec.le4 n)) := hs1
  have HB1 : Hid (Below w.heap.size w w1) := HB0.out.trans (hb1.mono HB0.out.size)
  have HO1 : Hid (OwnB w1 w.heap.size (.slice (some ⟨w.heap.size, 0, none⟩) 1 1) [kind]) := HO0.out.kept hb1
  clear hs1 hb1 HO0 HB0
  go_wp2_with (at_builtin; refine wpList_append_bytes rfl _ _ rfl w.heap.size (.slice (some ⟨w.heap.size, 0, none⟩) 1 1) [kind] rfl HO1.out _ _ _ (Rec.le4 n) rfl rfl HS1.out (by simp) (by simp [Rec.le4]) HB1.out.size ?_; intro v2 w2 hown2 hgrow2)
  have HO2 : Hid (OwnB w2 w.heap.size v2 (Rec.head kind n)) := hown2
  have HB2 : Hid (Below w.heap.size w w2) := HB1.out.grown hgrow2 HB1.out.size (ownBlock_lt HO1.out)
  clear hown2 hgrow2 HO1 HB1
  obtain ⟨a2, c2, hv2, hb2, hn2, hl2⟩ := HO2.out.slice
  subst hv2
  have HS2 : Hid (BytesAt w2 a2 (Rec.head kind n)) := hb2
  clear hb2 hn2 hl2
  refine (refSum_any w2 a2 c2 _ (Rec.head kind n) rfl HS2.out (by simp [Rec.head, Rec.le4, maxLen])).mono ?_
  rintro e w3 ⟨rfl, rfl⟩
  go_wp2_with fail
  refine (refFour_any w3 (Crc.sum (Rec.head kind n)) Rec.sum_lt).mono ?_
  rintro e w4 ⟨rfl, hs4, hb4, _⟩
  have HS4 : Hid (BytesAt w4 (some ⟨w3.heap.size, 0, none⟩) (Rec.le4 (Crc.sum (Rec.head kind n)))) := hs4
  have HB4 : Hid (Below w.heap.size w w4) := HB2.out.trans (hb4.mono HB2.out.size)
  have HO4 : Hid (OwnB w4 w.heap.size (.slice a2 (Rec.head kind n).length c2) (Rec.head kind n)) := HO2.out.kept hb4
  clear hs4 hb4 HO2 HB2 HS2
  go_wp2_with (at_builtin; first | (refine wpList_append_bytes rfl _ _ rfl w.heap.size (.slice a2 (Rec.head kind n).length c2) (Rec.head kind n) rfl HO4.out _ _ _ (Rec.le4 (Crc.sum (Rec.head kind n))) rfl rfl HS4.out (by simp) (by simp [Rec.le4, Rec.head]) HB4.out.size ?_; intro v5 w5 hown5 hgrow5; have HO5 : Hid (OwnB w5 w.heap.size v5 (Rec.head kind n ++ Rec.le4 (Crc.sum (Rec.head kind n)))) := hown5; have HB5 : Hid (Below w.heap.size w w5) := HB4.out.grown hgrow5 HB4.out.size (ownBlock_lt HO4.out); have HA5 : Hid (BytesAt w5 ao zs) := HA.out.kept HB5.out; clear hown5 hgrow5) | (refine wpList_append_bytes rfl _ _ rfl w.heap.size v5 (Rec.head kind n ++ Rec.le4 (Crc.sum (Rec.head kind n))) rfl HO5.out _ _ _ zs rfl HN.out HA5.out hnil (by rw [← HN.out]; simp [Rec.head, Rec.le4]; omega) HB5.out.size ?_; intro v6 w6 hown6 hgrow6; have HO6 : Hid (OwnB w6 w.heap.size v6 (Rec.head kind n ++ Rec.le4 (Crc.sum (Rec.head kind n)) ++ zs)) := hown6; have HB6 : Hid (Below w.heap.size w w6) := HB5.out.grown hgrow6 HB5.out.size (ownBlock_lt HO5.out); have HA6 : Hid (BytesAt w6 ao zs) := HA.out.kept HB6.out; clear hown6 hgrow6))
  refine (refSum_any w6 ao cap n zs HN.out HA6.out (by rw [← HN.out]; unfold maxLen; omega)).mono ?_
  rintro e w7 ⟨rfl, rfl⟩
  go_wp2_with fail
  refine (refFour_any w7 (Crc.sum zs) Rec.sum_lt).mono ?_
  rintro e w8 ⟨rfl, hs8, hb8, _⟩
  have HS8 : Hid (BytesAt w8 (some ⟨w7.heap.size, 0, none⟩) (Rec.le4 (Crc.sum zs))) := hs8
  have HB8 : Hid (Below w.heap.size w w8) := HB6.out.trans (hb8.mono HB6.out.size)
  have HO8 : Hid (OwnB w8 w.heap.size v6 (Rec.head kind n ++ Rec.le4 (Crc.sum (Rec.head kind n)) ++ zs)) := HO6.out.kept hb8
  clear hs8 hb8
  go_wp2_with (at_builtin; refine wpList_append_bytes rfl _ _ rfl w.heap.size v6 _ rfl HO8.out _ _ _ (Rec.le4 (Crc.sum zs)) rfl rfl HS8.out (by simp) (by rw [List.length_append, ← HN.out]; simp [Rec.head, Rec.le4]; omega) HB8.out.size ?_; intro v9 w9 hown9 hgrow9)
  have HO9 : Hid (OwnB w9 w.heap.size v9 (Rec.sealed kind zs)) := by
    unfold Rec.sealed
    rw [← HN.out]
    exact hown9
  have HB9 : Hid (Below w.heap.size w w9) := HB8.out.grown hgrow9 HB8.out.size (ownBlock_lt HO8.out)
  clear hown9 hgrow9
  go_ret
  exact ⟨v9, rfl, HO9.out, HB9.out⟩

theorem refSeal_great (w : World) (ao : Option Addr) (cap n kind : Nat) (hm : 16777216 < n) :
    Calls Tryd.prog 11 #[.int .u8 (kind : Int), .slice ao n cap] w fun e w' => e = .returned (.slice none 0 0) ∧ w' = w := by
  have h : (16777216 : Int) < (n : Int) := by omega
  go_enter Tryd.func11, Tryd.ntmps11
  go_wp2
  go_ret
  exact ⟨rfl, rfl⟩

end Go.Proofs.YthdlilekilkogaaDoor
