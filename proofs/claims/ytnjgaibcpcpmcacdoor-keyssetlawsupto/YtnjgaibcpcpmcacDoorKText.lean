/-
  THE WALK OF Text.
-/
import Derived.Test.YtnjgaibcpcpmcacDoorDig
import Derived.Test.YtnjgaibcpcpmcacDoorKChk
namespace Go.Proofs.YtnjgaibcpcpmcacDoor
open Go.RowKit Go.Sort Go.Shelf

/-- the text of a key -/
def textOf (k : K) : List UInt8 := Lib.itoa k.1 ++ 58 :: Lib.itoa k.2
theorem itoa_len (n : Int) (h : In64 n) : (Lib.itoa n).length ≤ 20 := by
  obtain ⟨h0, h1⟩ := h
  unfold Lib.itoa
  split
  · have := Dec.len_digits n.natAbs (by omega)
    simp; omega
  · have := Dec.len_digits n.toNat (by omega)
    omega

theorem digits_grew (w : World) (n : Int) (h : In64 n) (hv : DigVars w) :
    Calls Tryd.prog 33 #[.int .i64 n] w fun e w' => e = .returned (.string ⟨(Lib.itoa n).toArray⟩) ∧ ∃ q os, w' = grow (w.drewN q) os := by
  obtain ⟨h0, h1⟩ := h
  have HC : Hid (Calls Tryd.prog 38 #[.int .i64 n, .int .i64 10] w fun e w' => e = .returned (.string ⟨(Lib.itoa n).toArray⟩) ∧ ∃ k os, w' = grow (w.drewN k) os) := Any.strconv_FormatInt_10 laysM173 n h0 h1 w hv
  clear hv
  go_enter Tryd.func33, Tryd.ntmps33
  go_wp2_with fail
  refine Calls.mono HC.out ?_
  rintro e w1 ⟨rfl, hb⟩
  go_wp2
  go_ret
  exact ⟨rfl, hb⟩
theorem sz (l : List UInt8) : (ByteArray.mk l.toArray).size = l.length := by simp [ByteArray.size]
theorem cat3 (a b : List UInt8) : ByteArray.mk a.toArray ++ ByteArray.mk #[58] ++ ByteArray.mk b.toArray = ByteArray.mk (a ++ 58 :: b).toArray := by
  have h1 := ByteArray.mk_append_mk a [58]
  have h2 := ByteArray.mk_append_mk (a ++ [58]) b
  simp at h1 h2
  rw [h1, h2]

set_option maxHeartbeats 1000000 in
set_option maxRecDepth 20000 in
theorem text_key (w : World) (t r : Int) (hk : isKey (t, r) = true) (hr : In64 r) (hv : DigVars w) :
    Calls Tryd.prog 19 #[.agg #[.int .i64 t, .int .i64 r]] w fun e w' => e = .returned (.tuple #[.string ⟨(textOf (t, r)).toArray⟩, .int .i64 0]) ∧ ∃ q os, w' = grow (w.drewN q) os := by
  have mx := mixed
  have HT : Hid (textOf (t, r) = Lib.itoa t ++ 58 :: Lib.itoa r) := rfl
  have ht : In64 t := by have := (show 0 ≤ t ∧ t ≤ 65535 by simpa [isKey] using hk); exact ⟨by omega, by omega⟩
  have HCk : Hid (∀ w, Calls Tryd.prog 21 #[.agg #[.int .i64 t, .int .i64 r]] w fun e w' => e = .returned (.int .i64 0) ∧ ∃ q os, w' = grow (w.drewN q) os) := fun w => by
    have := check_any w t r
    rwa [hk] at this
  have l1 := itoa_len t ht
  have l2 := itoa_len r hr
  have HV : Hid (DigVars w) := hv
  generalize textOf (t, r) = TX at *
  clear hk hv
  go_enter Tryd.func19, Tryd.ntmps19
  go_wp2_with fail
  have B0 : Hid (Box (w.alloc (.cells #[.int .i64 t, .int .i64 r] 24)) w.heap.size t r) := Box.new rfl
  have HG : Hid (Grew w (w.alloc (.cells #[.int .i64 t, .int .i64 r] 24))) := (Grew.refl _).alloc _
  generalize w.alloc (.cells #[.int .i64 t, .int .i64 r] 24) = W at *
  refine (HCk.out W).mono ?_
  rintro e w1 ⟨rfl, g1⟩
  have B1 : Hid (Box w1 w.heap.size t r) := B0.out.grew g1
  have HG1 : Hid (Grew w w1) := HG.out.trans g1
  have HV1 : Hid (∀ n os, DigVars (grow (w1.drewN n) os)) := fun n os => HV.out.kept (HG1.out.grow n os).below
  clear g1 HCk B0 HG
  have c0 := fun n os => cell_grown (cell_lt B1.out.1) B1.out.1 n os
  have c1 := fun n os => cell_grown (cell_lt B1.out.2) B1.out.2 n os
  have s1 := sz (Lib.itoa t)
  have s2 := sz (Lib.itoa r)
  have s3 : (ByteArray.mk #[58]).size = 1 := rfl
  have h3 := cat3 (Lib.itoa t) (Lib.itoa r)
  have hs : ¬ ((ByteArray.mk (Lib.itoa t).toArray).size + (ByteArray.mk #[58]).size > 9223372036854775807) := by rw [s1, s3]; omega
  have hs2 : ¬ ((ByteArray.mk (Lib.itoa t).toArray ++ ByteArray.mk #[58]).size + (ByteArray.mk (Lib.itoa r).toArray).size > 9223372036854775807) := by rw [ByteArray.size_append, s1, s2, s3]; omega
  go_wp2_with fail
  refine wp_region_quiet_grown mx (by kernel_rfl) ?_
  repeat (go_big_quiet_step ((go_at_call 33; exact Calls.grown_of (digits_grew _ _ (by assumption) (HV1.out _ _)))))
  refine wpQuiet_nil ?_
  intro _ hw'
  obtain ⟨⟨nq, osq⟩, hw''⟩ := hw'
  subst hw''
  go_wp2
  go_ret2
  exact ⟨by rw [HT.out]; first | rfl | simp [h3], HG1.out.grow _ _⟩

theorem text_none (w : World) (t r : Int) (hk : isKey (t, r) = false) :
    Calls Tryd.prog 19 #[.agg #[.int .i64 t, .int .i64 r]] w fun e w' => e = .returned (.tuple #[.string ⟨#[]⟩, .int .i64 20]) ∧ ∃ q os, w' = grow (w.drewN q) os := by
  have HCk : Hid (∀ w, Calls Tryd.prog 21 #[.agg #[.int .i64 t, .int .i64 r]] w fun e w' => e = .returned (.int .i64 20) ∧ ∃ q os, w' = grow (w.drewN q) os) := fun w => by
    have := check_any w t r
    rwa [hk] at this
  clear hk
  go_enter Tryd.func19, Tryd.ntmps19
  go_wp2_with fail
  refine (HCk.out _).mono ?_
  rintro e w1 ⟨rfl, g1⟩
  have HG1 : Hid (Grew w w1) := ((Grew.refl _).alloc _).trans g1
  clear g1
  go_wp2
  go_ret2
  exact ⟨rfl, HG1.out⟩

end Go.Proofs.YtnjgaibcpcpmcacDoor
