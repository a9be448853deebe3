/-
  THE WALK OF preludelaw01.awake.
-/
import Derived.Test.YthdlilekilkogaaWriter
import Derived.Test.YthdlilekilkogaaRBytes
import Derived.Test.YthdlilekilkogaaREnd
import Derived.Test.YthdlilekilkogaaSame
namespace Go.Proofs.Ythdlilekilkogaa
open Go.RowKit

theorem reads_below {w w1 : World} {B r : Nat} {a : Option Addr} {c : Nat} {b : List Nat} {p : Nat} {e : Int} (h : Reads w r a c b p e w1) (hr : B ≤ r) (hB : B ≤ w.heap.size) : Below B w w1 :=
  ⟨h.2.os, h.2.tape, h.2.output, h.2.size, fun k hk => h.2.block k (by omega) (by simp; omega)⟩

/-- a row that is laid by a literal -/
theorem lit_bytes (w : World) (L : List Nat) (hz : ∀ z ∈ L, z < 256) : BytesAt (w.alloc (.cells (cellsU8 L) 5)) (some ⟨w.heap.size, 0, none⟩) L := by
  have h := rowAt_alloc w L
  rw [← List.append_nil L] at h ⊢
  exact RowAt.bytes0 (R := []) (by simpa using h) (by simpa using hz)
theorem below_of_drewN {B : Nat} {w w1 : World} (h : Below B w w1) (q : Nat) : Below B w (w1.drewN q) := ⟨h.os, h.tape, h.output, h.size, h.block⟩

set_option maxHeartbeats 1000000 in
theorem awake_any (w : World) : Calls Try.prog 26 #[] w fun e w' => e = .returned (.bool true) ∧ Below w.heap.size w w' := by
  go_enter Try.func26, Try.ntmps26
  go_wp2_with fail
  refine (new_any w).mono ?_
  rintro e w1 ⟨rfl, hw, hb, _⟩
  have HB : Hid (Below w.heap.size w w1) := hb
  have HS : Hid (w.heap.size < w1.heap.size) := hw.lt
  generalize hBq : w.heap.size = B at *
  have HBQ : Hid (w.heap.size = B) := hBq
  clear hBq
  have HW : Hid (IsWriter w1 B B (.slice none 0 0) []) := hw
  clear hw hb
  generalize (Value.slice none 0 0) = v0 at HW
  go_wp2_with fail
  refine (wByte_any w1 B B 7 v0 [] HW.out (by omega) (by simp)).mono ?_
  rintro e w2 ⟨rfl, v2, hw, hb⟩
  have HB2 : Hid (Below B w w2) := HB.out.trans (hb.below HW.out)
  have HW2 : Hid (IsWriter w2 B B v2 [7]) := hw
  clear hw hb HW HB
  go_wp2_with fail
  refine (wUint_any w2 B B 300 v2 [7] HW2.out (by omega) (by simp)).mono ?_
  rintro e w3 ⟨rfl, v3, hw, hb⟩
  have HB3 : Hid (Below B w w3) := HB2.out.trans (hb.below HW2.out)
  have HW3 : Hid (IsWriter w3 B B v3 [7, 172, 2]) := hw
  clear hw hb HW2 HB2
  go_wp2_with fail
  refine (wInt_any w3 B B (-3) v3 [7, 172, 2] HW3.out (by omega) (by omega) (by simp)).mono ?_
  rintro e w4 ⟨rfl, v4, hw, hb⟩
  have HB4 : Hid (Below B w w4) := HB3.out.trans (hb.below HW3.out)
  have HW4 : Hid (IsWriter w4 B B v4 [7, 172, 2, 5]) := hw
  clear hw hb HW3 HB3
  go_wp2_with fail
  have HWA : Hid (IsWriter (w4.alloc (.cells #[.int .u8 1, .int .u8 2] 5)) B B v4 [7, 172, 2, 5]) := HW4.out.kept ((Below.refl _ _).alloc (Nat.le_refl _) _)
  have HBA : Hid (Below B w (w4.alloc (.cells #[.int .u8 1, .int .u8 2] 5))) := HB4.out.alloc HW4.out.size _
  refine (wBytes_any _ B B v4 [7, 172, 2, 5] [1, 2] _ _ _ HWA.out rfl (lit_bytes w4 [1, 2] (by decide)) (by simp) (by simp) ?_).mono ?_
  · intro a _ e
    cases e
    have h1 := HW4.out.lt
    exact ⟨by simp; omega, fun e => by have := (HW4.out.2.1.2.lt _ e).2; simp at this⟩
  rintro e w5 ⟨rfl, v5, hw, hb⟩
  have HB5 : Hid (Below B w w5) := HBA.out.trans (hb.below HWA.out)
  have HW5 : Hid (IsWriter w5 B B v5 [7, 172, 2, 5, 2, 1, 2]) := hw
  clear hw hb HWA HBA HW4 HB4
  go_wp2_with fail
  refine (wOut_any w5 B B v5 [7, 172, 2, 5, 2, 1, 2] HW5.out (by simp)).mono ?_
  rintro e w6 ⟨rfl, hr, hb, hs⟩
  have HB6 : Hid (Below B w w6) := HB5.out.trans (hb.mono HW5.out.size)
  have HW6 : Hid (IsWriter w6 B B v5 [7, 172, 2, 5, 2, 1, 2]) := HW5.out.kept hb
  have HR6 : Hid (BytesAt w6 (some ⟨w5.heap.size, 0, none⟩) [7, 172, 2, 5, 2, 1, 2]) := by
    rw [← List.append_nil [7, 172, 2, 5, 2, 1, 2]] at hr
    exact RowAt.bytes0 hr (by decide)
  generalize w5.heap.size = G at *
  clear hr hb hs HW5 HB5
  go_wp2_with fail
  have HW7 : Hid (IsWriter (w6.alloc (.cells (cellsU8 [7, 172, 2, 5, 2, 1, 2]) 5)) B B v5 [7, 172, 2, 5, 2, 1, 2]) := HW6.out.kept ((Below.refl _ _).alloc (Nat.le_refl _) _)
  have HB7 : Hid (Below B w (w6.alloc (.cells (cellsU8 [7, 172, 2, 5, 2, 1, 2]) 5))) := HB6.out.alloc HW6.out.size _
  have HR7 : Hid (BytesAt (w6.alloc (.cells (cellsU8 [7, 172, 2, 5, 2, 1, 2]) 5)) (some ⟨G, 0, none⟩) [7, 172, 2, 5, 2, 1, 2]) := HR6.out.kept ((Below.refl _ _).alloc (Nat.le_refl _) _)
  refine (same_any _ _ _ _ _ _ _ [7, 172, 2, 5, 2, 1, 2] [7, 172, 2, 5, 2, 1, 2] rfl rfl HR7.out (lit_bytes w6 [7, 172, 2, 5, 2, 1, 2] (by decide)) (by simp [maxLen])).mono ?_
  rintro e w8 ⟨rfl, q, hq⟩
  have HW8 : Hid (IsWriter w8 B B v5 [7, 172, 2, 5, 2, 1, 2]) := by rw [hq]; exact HW7.out
  have HB8 : Hid (Below B w w8) := by rw [hq]; exact below_of_drewN HB7.out q
  have HR8 : Hid (BytesAt w8 (some ⟨G, 0, none⟩) [7, 172, 2, 5, 2, 1, 2]) := by rw [hq]; exact HR7.out
  clear hq HW6 HB6 HR6 HW7 HB7 HR7
  go_wp2_with fail
  refine (wLen_any w8 B B v5 [7, 172, 2, 5, 2, 1, 2] HW8.out).mono ?_
  rintro e w8 ⟨rfl, rfl⟩
  go_wp2_with fail
  refine (read_any w8 _ _ _ [7, 172, 2, 5, 2, 1, 2] rfl HR8.out (by simp)).mono ?_
  rintro e w9 ⟨rfl, hr, hb, hs⟩
  have HB9 : Hid (Below B w w9) := HB8.out.trans (hb.mono HW8.out.size)
  have hB9 : B < w8.heap.size := HW8.out.lt
  have hR : B < w8.heap.size + 1 := by omega
  generalize w8.heap.size + 1 = R at *
  generalize (some (⟨w8.heap.size, 0, none⟩ : Addr)) = ra at *
  have HR9 : Hid (IsReader w9 R ra 7 [7, 172, 2, 5, 2, 1, 2] 0 0) := hr
  clear hr hb hs HW8 HB8 HR8 hB9
  go_wp2_with fail
  refine (rByte_any w9 R _ _ _ _ _ HR9.out).mono ?_
  rintro e w10 ⟨rfl, hr⟩
  have HB10 : Hid (Below B w w10) := HB9.out.trans (reads_below hr (by omega) (by have := HR9.out.lt; omega))
  have HR10 : Hid (IsReader w10 R ra 7 [7, 172, 2, 5, 2, 1, 2] 1 0) := hr.1
  clear hr HR9 HB9
  go_wp2_with fail
  refine (rUint_any w10 R _ _ _ _ _ HR10.out).mono ?_
  rintro e w11 ⟨rfl, hr⟩
  have HB11 : Hid (Below B w w11) := HB10.out.trans (reads_below hr (by omega) (by have := HR10.out.lt; omega))
  have HR11 : Hid (IsReader w11 R ra 7 [7, 172, 2, 5, 2, 1, 2] 3 0) := hr.1
  clear hr HR10 HB10
  rw [show (rdUpto [7, 172, 2, 5, 2, 1, 2] 1 0 18446744073709551615).1 = 300 from rfl]
  go_wp2_with fail
  refine (rInt_any w11 R _ _ _ _ _ HR11.out).mono ?_
  rintro e w12 ⟨rfl, hr⟩
  have HB12 : Hid (Below B w w12) := HB11.out.trans (reads_below hr (by omega) (by have := HR11.out.lt; omega))
  have HR12 : Hid (IsReader w12 R ra 7 [7, 172, 2, 5, 2, 1, 2] 4 0) := hr.1
  clear hr HR11 HB11
  rw [show unfold (rdUpto [7, 172, 2, 5, 2, 1, 2] 3 0 18446744073709551615).1 = -3 from rfl]
  go_wp2_with fail
  refine (rBytes_any w12 R _ _ _ _ _ 2 HR12.out (by omega) (by omega)).mono ?_
  rintro e w13 ⟨v13, rfl, ho, hr⟩
  have HB13 : Hid (Below B w w13) := HB12.out.trans (reads_below hr (by omega) (by have := HR12.out.lt; omega))
  have HR13 : Hid (IsReader w13 R ra 7 [7, 172, 2, 5, 2, 1, 2] 7 0) := hr.1
  have HO13 : Hid (OwnB w13 w12.heap.size v13 [1, 2]) := ho
  clear hr ho HR12 HB12
  obtain ⟨ao, cap, hv, hba, _, _⟩ := HO13.out.slice
  subst hv
  have HBA13 : Hid (BytesAt w13 ao [1, 2]) := hba
  clear hba HO13
  go_wp2_with fail
  have HR14 : Hid (IsReader (w13.alloc (.cells (cellsU8 [1, 2]) 5)) R ra 7 [7, 172, 2, 5, 2, 1, 2] 7 0) := HR13.out.kept ((Below.refl _ _).alloc (Nat.le_refl _) _)
  have HB14 : Hid (Below B w (w13.alloc (.cells (cellsU8 [1, 2]) 5))) := HB13.out.alloc (by have := HR13.out.lt; omega) _
  refine (same_any _ _ _ _ _ _ _ [1, 2] [1, 2] rfl rfl (HBA13.out.kept ((Below.refl _ _).alloc (Nat.le_refl _) _)) (lit_bytes w13 [1, 2] (by decide)) (by simp [maxLen])).mono ?_
  rintro e w15 ⟨rfl, q, hq⟩
  have HR15 : Hid (IsReader w15 R ra 7 [7, 172, 2, 5, 2, 1, 2] 7 0) := by rw [hq]; exact HR14.out
  have HB15 : Hid (Below B w w15) := by rw [hq]; exact below_of_drewN HB14.out q
  clear hq HR13 HB13 HR14 HB14 HBA13
  go_wp2_with fail
  refine (rEnd_any w15 R _ _ _ _ _ HR15.out).mono ?_
  rintro e w16 ⟨rfl, q, hq⟩
  have HB16 : Hid (Below B w w16) := by rw [hq]; exact below_of_drewN HB15.out q
  clear hq
  rw [show rdEnd [7, 172, 2, 5, 2, 1, 2] 7 0 = 0 from rfl]
  go_wp2
  go_ret
  exact ⟨rfl, by rw [HBQ.out]; exact HB16.out⟩

end Go.Proofs.Ythdlilekilkogaa
