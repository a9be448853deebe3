/-
  THE WALK OF preludelaw01.CodecSeals.
-/
import Derived.Test.YthdlilekilkogaaDoorRefUnseal
import Derived.Test.YthdlilekilkogaaDoorShelf4
import Derived.Test.YthdlilekilkogaaDoorRoomy
import Derived.Test.YthdlilekilkogaaDoorIntact
namespace Go.Proofs.YthdlilekilkogaaDoor
open Go.RowKit

/-- a record, or nothing where the load is too great -/
def sealOr (kind : Nat) (zs : List Nat) : List Nat := if zs.length ≤ 16777216 then Rec.sealed kind zs else []
theorem sealOr_length (kind : Nat) (zs : List Nat) : (sealOr kind zs).length ≤ 16777229 := by
  unfold sealOr
  split
  · rw [Rec.sealed_length]; omega
  · simp
theorem seal_all (w : World) (ao : Option Addr) (cap n kind : Nat) (zs : List Nat) (hn : n = zs.length) (h : BytesAt w ao zs) (hnil : ao = none → cap = 0) (hk : kind < 256) (ht : TabAt w) :
    Calls Tryd.prog 10 #[.int .u8 (kind : Int), .slice ao n cap] w fun e w' => ∃ v, e = .returned v ∧ OwnB w' w.heap.size v (sealOr kind zs) ∧ Below w.heap.size w w' := by
  unfold sealOr
  by_cases hm : zs.length ≤ 16777216
  · rw [if_pos hm]; exact seal_any w ao cap n kind zs hn h hnil hk (by omega) ht
  · rw [if_neg hm]
    refine (seal_great w ao cap n kind (by omega)).mono ?_
    rintro e w1 ⟨rfl, rfl⟩
    exact ⟨_, rfl, OwnB.nil _ _, Below.refl _ _⟩
theorem refSeal_all (w : World) (ao : Option Addr) (cap n kind : Nat) (zs : List Nat) (hn : n = zs.length) (h : BytesAt w ao zs) (hnil : ao = none → cap = 0) (hk : kind < 256) :
    Calls Tryd.prog 11 #[.int .u8 (kind : Int), .slice ao n cap] w fun e w' => ∃ v, e = .returned v ∧ OwnB w' w.heap.size v (sealOr kind zs) ∧ Below w.heap.size w w' := by
  unfold sealOr
  by_cases hm : zs.length ≤ 16777216
  · rw [if_pos hm]; exact refSeal_any w ao cap n kind zs hn h hnil hk (by omega)
  · rw [if_neg hm]
    refine (refSeal_great w ao cap n kind (by omega)).mono ?_
    rintro e w1 ⟨rfl, rfl⟩
    exact ⟨_, rfl, OwnB.nil _ _, Below.refl _ _⟩
theorem opened_length (zs : List Nat) (place : Int) : (Rec.opened zs place).2.1.length ≤ 16777216 := by
  unfold Rec.opened
  split
  · simp
  · split
    · simp
    · split
      · simp
      · split
        · simp
        · split
          · simp
          · split
            · simp
            · show (List.take _ _).length ≤ _
              rw [List.length_take]; omega

theorem marks_lt {L : List Nat} (h : ∀ z ∈ L, z < 256) : ∀ z ∈ L ++ [171, 171, 171], z < 256 := by
  intro z hz
  rcases List.mem_append.1 hz with h1 | h1
  · exact h z h1
  · simp at h1; omega
/-- a value that owns bytes, made between two sizes of the heap -/
structure Made (w : World) (lo hi : Nat) (v : Value) (L : List Nat) : Prop where
  own : OwnB w 0 v L
  lo : ∀ k, v.ownBlock = some k → lo ≤ k
  hi : ∀ k, v.ownBlock = some k → k < hi
theorem Made.of {w w1 : World} {v : Value} {L : List Nat} (h : OwnB w1 w.heap.size v L) : Made w1 w.heap.size w1.heap.size v L :=
  ⟨h.mono (Nat.zero_le _), fun k hk => (h.2.lt k hk).1, fun k hk => (h.2.lt k hk).2⟩
theorem Made.kept {w w1 : World} {lo hi : Nat} {v : Value} {L : List Nat} (h : Made w lo hi v L) (hb : Below w.heap.size w w1) : Made w1 lo hi v L := ⟨h.own.kept hb, h.lo, h.hi⟩
theorem Made.drewN {w : World} {lo hi : Nat} {v : Value} {L : List Nat} (h : Made w lo hi v L) (q : Nat) : Made (w.drewN q) lo hi v L := ⟨h.own, h.lo, h.hi⟩
theorem Made.same {w w1 : World} {lo hi : Nat} {v : Value} {L : List Nat} (h : Made w lo hi v L) (hs : ∀ k, v.ownBlock = some k → w1.heap[k]? = w.heap[k]?) : Made w1 lo hi v L := ⟨h.own.same hs, h.lo, h.hi⟩

set_option maxRecDepth 100000 in
set_option maxHeartbeats 4000000 in
theorem seals_walk (w : World) (la ba : Option Addr) (lc bc ll bl kind : Nat) (place : Int) (ls bs : List Nat) (hll : ll = ls.length) (hbl : bl = bs.length) (hl : BytesAt w la ls) (hb : BytesAt w ba bs) (hln : la = none → lc = 0) (hbn : ba = none → bc = 0)
    (hbc : bl ≤ bc) (hlm : lc ≤ maxLen) (hbm : bc ≤ maxLen) (hk : kind < 256) (hl1 : ll ≤ 140737488351232) (hb1 : bl ≤ 140737488351232) (ht : TabAt w) :
    Calls Tryd.prog 4 #[.agg #[.int .u8 (kind : Int), .slice la ll lc, .slice ba bl bc, .int .i64 place]] w fun e w' => e = .returned (.bool true) ∧ Below w.heap.size w w' := by
  have HLL : Hid (ll = ls.length) := hll
  have HBL : Hid (bl = bs.length) := hbl
  have HL : Hid (BytesAt w la ls) := hl
  have HB : Hid (BytesAt w ba bs) := hb
  have HT : Hid (TabAt w) := ht
  have HLM : Hid (lc ≤ maxLen ∧ bc ≤ maxLen) := ⟨hlm, hbm⟩
  clear hll hbl hl hb ht hlm hbm
  go_enter Tryd.func4, Tryd.ntmps4
  go_wp2
  go_quiet (fail)
  have HB1 : Hid (Below w.heap.size w ((w.alloc (.cells #[.int .u8 (kind : Int), .slice la ll lc, .slice ba bl bc, .int .i64 place] 30)).drewN nq)) := below_drewN ((Below.refl _ _).alloc (Nat.le_refl _) _) _
  generalize (w.alloc (.cells #[.int .u8 (kind : Int), .slice la ll lc, .slice ba bl bc, .int .i64 place] 30)).drewN nq = w1 at *
  go_wp2_with fail
  refine (roomy_any w1 la lc ll ls HLL.out (HL.out.kept HB1.out) (by omega)).mono ?_
  rintro e2 w2 ⟨rfl, hr2, hb2, hs2⟩
  have HB2 : Hid (Below w.heap.size w w2) := HB1.out.trans (hb2.mono HB1.out.size)
  have HF2 : Hid (Made w2 w1.heap.size w2.heap.size (.slice (some ⟨w1.heap.size, 0, none⟩) (ll + 3) (ll + 3)) (ls ++ [171, 171, 171])) := by
    have h1 := OwnB.ofRow (base := w1.heap.size) hr2 (marks_lt HL.out.1) (by rw [List.length_append, ← HLL.out]; simp [maxLen]; omega) (Nat.le_refl _)
    rw [List.length_append, ← HLL.out] at h1
    exact Made.of h1
  have HC2 : Hid (BytesAt w2 (some ⟨w1.heap.size, 0, none⟩) ls) := RowAt.bytes0 hr2 HL.out.1
  have z2 : Hid (w1.heap.size < w2.heap.size) := by rw [Hid, hs2]; omega
  clear hr2 hb2 hs2
  go_wp2_with fail
  refine (seal_all w2 _ (ll + 3) ll kind ls HLL.out HC2.out (by simp) hk (HT.out.kept HB2.out)).mono ?_
  rintro e3 w3 ⟨v3, rfl, ho3, hb3⟩
  have z3 : Hid (w2.heap.size ≤ w3.heap.size) := hb3.size
  have HB3 : Hid (Below w.heap.size w w3) := HB2.out.trans (hb3.mono HB2.out.size)
  have hm3 := Made.of ho3
  obtain ⟨a3, c3, hv3, _, hz3, _⟩ := ho3.slice
  subst hv3
  have HF3 : Hid (Made w3 w1.heap.size w2.heap.size (.slice (some ⟨w1.heap.size, 0, none⟩) (ll + 3) (ll + 3)) (ls ++ [171, 171, 171])) := HF2.out.kept hb3
  have HC3 : Hid (BytesAt w3 (some ⟨w1.heap.size, 0, none⟩) ls) := HC2.out.kept hb3
  clear HF2 HB2 
  have HX3 : Hid (Made w3 w2.heap.size w3.heap.size (.slice a3 (sealOr kind ls).length c3) (sealOr kind ls)) := hm3
  clear ho3 hb3 hm3
  go_wp2_with fail
  refine (seal_all w3 _ (ll + 3) ll kind ls HLL.out HC3.out (by simp) hk (HT.out.kept HB3.out)).mono ?_
  rintro e4 w4 ⟨v4, rfl, ho4, hb4⟩
  have z4 : Hid (w3.heap.size ≤ w4.heap.size) := hb4.size
  have HB4 : Hid (Below w.heap.size w w4) := HB3.out.trans (hb4.mono HB3.out.size)
  have hm4 := Made.of ho4
  obtain ⟨a4, c4, hv4, _, hz4, _⟩ := ho4.slice
  subst hv4
  have HF4 : Hid (Made w4 w1.heap.size w2.heap.size (.slice (some ⟨w1.heap.size, 0, none⟩) (ll + 3) (ll + 3)) (ls ++ [171, 171, 171])) := HF3.out.kept hb4
  have HX4 : Hid (Made w4 w2.heap.size w3.heap.size (.slice a3 (sealOr kind ls).length c3) (sealOr kind ls)) := HX3.out.kept hb4
  clear HF3 HX3 HB3 
  have HY4 : Hid (Made w4 w3.heap.size w4.heap.size (.slice a4 (sealOr kind ls).length c4) (sealOr kind ls)) := hm4
  clear ho4 hb4 hm4
  go_wp2_with fail
  refine (refSeal_all w4 la lc ll kind ls HLL.out (HL.out.kept HB4.out) hln hk).mono ?_
  rintro e5 w5 ⟨v5, rfl, ho5, hb5⟩
  have z5 : Hid (w4.heap.size ≤ w5.heap.size) := hb5.size
  have HB5 : Hid (Below w.heap.size w w5) := HB4.out.trans (hb5.mono HB4.out.size)
  have hm5 := Made.of ho5
  obtain ⟨a5, c5, hv5, _, hz5, _⟩ := ho5.slice
  subst hv5
  have HF5 : Hid (Made w5 w1.heap.size w2.heap.size (.slice (some ⟨w1.heap.size, 0, none⟩) (ll + 3) (ll + 3)) (ls ++ [171, 171, 171])) := HF4.out.kept hb5
  have HX5 : Hid (Made w5 w2.heap.size w3.heap.size (.slice a3 (sealOr kind ls).length c3) (sealOr kind ls)) := HX4.out.kept hb5
  have HY5 : Hid (Made w5 w3.heap.size w4.heap.size (.slice a4 (sealOr kind ls).length c4) (sealOr kind ls)) := HY4.out.kept hb5
  clear HF4 HX4 HY4 HB4 
  have HZ5 : Hid (Made w5 w4.heap.size w5.heap.size (.slice a5 (sealOr kind ls).length c5) (sealOr kind ls)) := hm5
  clear ho5 hb5 hm5
  clear HC2 HC3
  have hSm := sealOr_length kind ls
  go_wp2_with fail
  refine (same_any w5 _ _ _ _ _ _ (sealOr kind ls) (sealOr kind ls) rfl rfl HX5.out.own.bytes.1 HZ5.out.own.bytes.1 (by have := sealOr_length kind ls; unfold maxLen; omega)).mono ?_
  rintro e6 w6 ⟨rfl, q6, hq6⟩
  have z6 : Hid (w5.heap.size = w6.heap.size) := by rw [hq6]; rfl
  have HB6 : Hid (Below w.heap.size w w6) := by rw [hq6]; exact below_drewN HB5.out _
  have HF6 : Hid (Made w6 w1.heap.size w2.heap.size (.slice (some ⟨w1.heap.size, 0, none⟩) (ll + 3) (ll + 3)) (ls ++ [171, 171, 171])) := by rw [hq6]; exact HF5.out.drewN _
  have HX6 : Hid (Made w6 w2.heap.size w3.heap.size (.slice a3 (sealOr kind ls).length c3) (sealOr kind ls)) := by rw [hq6]; exact HX5.out.drewN _
  have HY6 : Hid (Made w6 w3.heap.size w4.heap.size (.slice a4 (sealOr kind ls).length c4) (sealOr kind ls)) := by rw [hq6]; exact HY5.out.drewN _
  have HZ6 : Hid (Made w6 w4.heap.size w5.heap.size (.slice a5 (sealOr kind ls).length c5) (sealOr kind ls)) := by rw [hq6]; exact HZ5.out.drewN _
  clear HF5 HX5 HY5 HZ5 HB5 hq6
  go_wp2_with fail
  refine (same_any w6 _ _ _ _ _ _ (sealOr kind ls) (sealOr kind ls) rfl rfl HY6.out.own.bytes.1 HZ6.out.own.bytes.1 (by have := sealOr_length kind ls; unfold maxLen; omega)).mono ?_
  rintro e7 w7 ⟨rfl, q7, hq7⟩
  have z7 : Hid (w6.heap.size = w7.heap.size) := by rw [hq7]; rfl
  have HB7 : Hid (Below w.heap.size w w7) := by rw [hq7]; exact below_drewN HB6.out _
  have HF7 : Hid (Made w7 w1.heap.size w2.heap.size (.slice (some ⟨w1.heap.size, 0, none⟩) (ll + 3) (ll + 3)) (ls ++ [171, 171, 171])) := by rw [hq7]; exact HF6.out.drewN _
  have HX7 : Hid (Made w7 w2.heap.size w3.heap.size (.slice a3 (sealOr kind ls).length c3) (sealOr kind ls)) := by rw [hq7]; exact HX6.out.drewN _
  have HY7 : Hid (Made w7 w3.heap.size w4.heap.size (.slice a4 (sealOr kind ls).length c4) (sealOr kind ls)) := by rw [hq7]; exact HY6.out.drewN _
  have HZ7 : Hid (Made w7 w4.heap.size w5.heap.size (.slice a5 (sealOr kind ls).length c5) (sealOr kind ls)) := by rw [hq7]; exact HZ6.out.drewN _
  clear HF6 HX6 HY6 HZ6 HB6 hq7
  go_wp2_with fail
  refine (intact_any w7 w1.heap.size la (ll + 3) lc ll ls HLL.out (HL.out.kept HB7.out) (by rw [← HLL.out]; unfold maxLen; omega) (fun j hj => HF7.out.own.cell j (by simp; omega)) (by rw [← HLL.out]; omega)).mono ?_
  rintro e8 w8 ⟨rfl, q8, hq8⟩
  have z8 : Hid (w7.heap.size = w8.heap.size) := by rw [hq8]; rfl
  have HB8 : Hid (Below w.heap.size w w8) := by rw [hq8]; exact below_drewN HB7.out _
  have HF8 : Hid (Made w8 w1.heap.size w2.heap.size (.slice (some ⟨w1.heap.size, 0, none⟩) (ll + 3) (ll + 3)) (ls ++ [171, 171, 171])) := by rw [hq8]; exact HF7.out.drewN _
  have HX8 : Hid (Made w8 w2.heap.size w3.heap.size (.slice a3 (sealOr kind ls).length c3) (sealOr kind ls)) := by rw [hq8]; exact HX7.out.drewN _
  have HY8 : Hid (Made w8 w3.heap.size w4.heap.size (.slice a4 (sealOr kind ls).length c4) (sealOr kind ls)) := by rw [hq8]; exact HY7.out.drewN _
  have HZ8 : Hid (Made w8 w4.heap.size w5.heap.size (.slice a5 (sealOr kind ls).length c5) (sealOr kind ls)) := by rw [hq8]; exact HZ7.out.drewN _
  clear HF7 HX7 HY7 HZ7 HB7 hq8
  go_wp2_with fail
  refine (roomy_any w8 ba bc bl bs HBL.out (HB.out.kept HB8.out) (by omega)).mono ?_
  rintro e9 w9 ⟨rfl, hr9, hb9, hs9⟩
  have z9 : Hid (w8.heap.size < w9.heap.size) := by rw [Hid, hs9]; omega
  have HB9 : Hid (Below w.heap.size w w9) := HB8.out.trans (hb9.mono HB8.out.size)
  have HG9 : Hid (Made w9 w8.heap.size w9.heap.size (.slice (some ⟨w8.heap.size, 0, none⟩) (bl + 3) (bl + 3)) (bs ++ [171, 171, 171])) := by
    have h1 := OwnB.ofRow (base := w8.heap.size) hr9 (marks_lt HB.out.1) (by rw [List.length_append, ← HBL.out]; simp [maxLen]; omega) (Nat.le_refl _)
    rw [List.length_append, ← HBL.out] at h1
    exact Made.of h1
  have HD9 : Hid (BytesAt w9 (some ⟨w8.heap.size, 0, none⟩) bs) := RowAt.bytes0 hr9 HB.out.1
  have HF9 : Hid (Made w9 w1.heap.size w2.heap.size (.slice (some ⟨w1.heap.size, 0, none⟩) (ll + 3) (ll + 3)) (ls ++ [171, 171, 171])) := HF8.out.kept hb9
  have HX9 : Hid (Made w9 w2.heap.size w3.heap.size (.slice a3 (sealOr kind ls).length c3) (sealOr kind ls)) := HX8.out.kept hb9
  have HY9 : Hid (Made w9 w3.heap.size w4.heap.size (.slice a4 (sealOr kind ls).length c4) (sealOr kind ls)) := HY8.out.kept hb9
  have HZ9 : Hid (Made w9 w4.heap.size w5.heap.size (.slice a5 (sealOr kind ls).length c5) (sealOr kind ls)) := HZ8.out.kept hb9
  clear HF8 HX8 HY8 HZ8 HB8 hr9 hb9 hs9
  have HRL : Hid ((Rec.opened bs place).2.1.length ≤ 16777216) := opened_length bs place
  go_wp2_with fail
  refine (unseal_any w9 _ (bl + 3) bl place bs HBL.out HD9.out hb1 (by omega) (by unfold maxLen; omega) (by simp) (HT.out.kept HB9.out)).mono ?_
  rintro e10 w10 ⟨v10, rfl, ho10, hb10⟩
  have z10 : Hid (w9.heap.size ≤ w10.heap.size) := hb10.size
  have HB10 : Hid (Below w.heap.size w w10) := HB9.out.trans (hb10.mono HB9.out.size)
  have hm10 := Made.of ho10
  obtain ⟨a10, c10, hv10, _, hz10, _⟩ := ho10.slice
  subst hv10
  have HF10 : Hid (Made w10 w1.heap.size w2.heap.size (.slice (some ⟨w1.heap.size, 0, none⟩) (ll + 3) (ll + 3)) (ls ++ [171, 171, 171])) := HF9.out.kept hb10
  have HX10 : Hid (Made w10 w2.heap.size w3.heap.size (.slice a3 (sealOr kind ls).length c3) (sealOr kind ls)) := HX9.out.kept hb10
  have HY10 : Hid (Made w10 w3.heap.size w4.heap.size (.slice a4 (sealOr kind ls).length c4) (sealOr kind ls)) := HY9.out.kept hb10
  have HZ10 : Hid (Made w10 w4.heap.size w5.heap.size (.slice a5 (sealOr kind ls).length c5) (sealOr kind ls)) := HZ9.out.kept hb10
  have HG10 : Hid (Made w10 w8.heap.size w9.heap.size (.slice (some ⟨w8.heap.size, 0, none⟩) (bl + 3) (bl + 3)) (bs ++ [171, 171, 171])) := HG9.out.kept hb10
  have HD10 : Hid (BytesAt w10 (some ⟨w8.heap.size, 0, none⟩) bs) := HD9.out.kept hb10
  clear HF9 HX9 HY9 HZ9 HG9 HB9 
  have HP10 : Hid (Made w10 w9.heap.size w10.heap.size (.slice a10 ((Rec.opened bs place).2.1).length c10) ((Rec.opened bs place).2.1)) := hm10
  clear ho10 hb10 hm10
  go_wp2_with fail
  refine (refUnseal_any w10 ba bc bl place bs HBL.out (HB.out.kept HB10.out) hb1 hbc HLM.out.2 hbn).mono ?_
  rintro e11 w11 ⟨v11, rfl, ho11, hb11⟩
  have z11 : Hid (w10.heap.size ≤ w11.heap.size) := hb11.size
  have HB11 : Hid (Below w.heap.size w w11) := HB10.out.trans (hb11.mono HB10.out.size)
  have hm11 := Made.of ho11
  obtain ⟨a11, c11, hv11, _, hz11, _⟩ := ho11.slice
  subst hv11
  have HF11 : Hid (Made w11 w1.heap.size w2.heap.size (.slice (some ⟨w1.heap.size, 0, none⟩) (ll + 3) (ll + 3)) (ls ++ [171, 171, 171])) := HF10.out.kept hb11
  have HX11 : Hid (Made w11 w2.heap.size w3.heap.size (.slice a3 (sealOr kind ls).length c3) (sealOr kind ls)) := HX10.out.kept hb11
  have HY11 : Hid (Made w11 w3.heap.size w4.heap.size (.slice a4 (sealOr kind ls).length c4) (sealOr kind ls)) := HY10.out.kept hb11
  have HZ11 : Hid (Made w11 w4.heap.size w5.heap.size (.slice a5 (sealOr kind ls).length c5) (sealOr kind ls)) := HZ10.out.kept hb11
  have HG11 : Hid (Made w11 w8.heap.size w9.heap.size (.slice (some ⟨w8.heap.size, 0, none⟩) (bl + 3) (bl + 3)) (bs ++ [171, 171, 171])) := HG10.out.kept hb11
  have HP11 : Hid (Made w11 w9.heap.size w10.heap.size (.slice a10 ((Rec.opened bs place).2.1).length c10) ((Rec.opened bs place).2.1)) := HP10.out.kept hb11
  have HD11 : Hid (BytesAt w11 (some ⟨w8.heap.size, 0, none⟩) bs) := HD10.out.kept hb11
  clear HF10 HX10 HY10 HZ10 HG10 HP10 HB10 
  have HQ11 : Hid (Made w11 w10.heap.size w11.heap.size (.slice a11 ((Rec.opened bs place).2.1).length c11) ((Rec.opened bs place).2.1)) := hm11
  clear ho11 hb11 hm11
  go_wp2_with fail
  refine (unseal_any w11 _ (bl + 3) bl place bs HBL.out HD11.out hb1 (by omega) (by unfold maxLen; omega) (by simp) (HT.out.kept HB11.out)).mono ?_
  rintro e12 w12 ⟨v12, rfl, ho12, hb12⟩
  have z12 : Hid (w11.heap.size ≤ w12.heap.size) := hb12.size
  have HB12 : Hid (Below w.heap.size w w12) := HB11.out.trans (hb12.mono HB11.out.size)
  have hm12 := Made.of ho12
  obtain ⟨a12, c12, hv12, _, hz12, _⟩ := ho12.slice
  subst hv12
  have HF12 : Hid (Made w12 w1.heap.size w2.heap.size (.slice (some ⟨w1.heap.size, 0, none⟩) (ll + 3) (ll + 3)) (ls ++ [171, 171, 171])) := HF11.out.kept hb12
  have HX12 : Hid (Made w12 w2.heap.size w3.heap.size (.slice a3 (sealOr kind ls).length c3) (sealOr kind ls)) := HX11.out.kept hb12
  have HY12 : Hid (Made w12 w3.heap.size w4.heap.size (.slice a4 (sealOr kind ls).length c4) (sealOr kind ls)) := HY11.out.kept hb12
  have HZ12 : Hid (Made w12 w4.heap.size w5.heap.size (.slice a5 (sealOr kind ls).length c5) (sealOr kind ls)) := HZ11.out.kept hb12
  have HG12 : Hid (Made w12 w8.heap.size w9.heap.size (.slice (some ⟨w8.heap.size, 0, none⟩) (bl + 3) (bl + 3)) (bs ++ [171, 171, 171])) := HG11.out.kept hb12
  have HP12 : Hid (Made w12 w9.heap.size w10.heap.size (.slice a10 ((Rec.opened bs place).2.1).length c10) ((Rec.opened bs place).2.1)) := HP11.out.kept hb12
  have HQ12 : Hid (Made w12 w10.heap.size w11.heap.size (.slice a11 ((Rec.opened bs place).2.1).length c11) ((Rec.opened bs place).2.1)) := HQ11.out.kept hb12
  clear HF11 HX11 HY11 HZ11 HG11 HP11 HQ11 HB11 
  have HA12 : Hid (Made w12 w11.heap.size w12.heap.size (.slice a12 ((Rec.opened bs place).2.1).length c12) ((Rec.opened bs place).2.1)) := hm12
  clear ho12 hb12 hm12
  clear HD9 HD10 HD11
  generalize (Rec.opened bs place).1 = rk at *
  generalize (Rec.opened bs place).2.2.1 = rn at *
  generalize (Rec.opened bs place).2.2.2 = re at *
  generalize (Rec.opened bs place).2.1 = RR at *
  go_wp2_with fail
  refine (same_any w12 _ _ _ _ _ _ RR RR rfl rfl HP12.out.own.bytes.1 HQ12.out.own.bytes.1 (by have := HRL.out; unfold maxLen; omega)).mono ?_
  rintro e13 w13 ⟨rfl, q13, hq13⟩
  have z13 : Hid (w12.heap.size = w13.heap.size) := by rw [hq13]; rfl
  have HB13 : Hid (Below w.heap.size w w13) := by rw [hq13]; exact below_drewN HB12.out _
  have HF13 : Hid (Made w13 w1.heap.size w2.heap.size (.slice (some ⟨w1.heap.size, 0, none⟩) (ll + 3) (ll + 3)) (ls ++ [171, 171, 171])) := by rw [hq13]; exact HF12.out.drewN _
  have HX13 : Hid (Made w13 w2.heap.size w3.heap.size (.slice a3 (sealOr kind ls).length c3) (sealOr kind ls)) := by rw [hq13]; exact HX12.out.drewN _
  have HY13 : Hid (Made w13 w3.heap.size w4.heap.size (.slice a4 (sealOr kind ls).length c4) (sealOr kind ls)) := by rw [hq13]; exact HY12.out.drewN _
  have HZ13 : Hid (Made w13 w4.heap.size w5.heap.size (.slice a5 (sealOr kind ls).length c5) (sealOr kind ls)) := by rw [hq13]; exact HZ12.out.drewN _
  have HG13 : Hid (Made w13 w8.heap.size w9.heap.size (.slice (some ⟨w8.heap.size, 0, none⟩) (bl + 3) (bl + 3)) (bs ++ [171, 171, 171])) := by rw [hq13]; exact HG12.out.drewN _
  have HP13 : Hid (Made w13 w9.heap.size w10.heap.size (.slice a10 RR.length c10) (RR)) := by rw [hq13]; exact HP12.out.drewN _
  have HQ13 : Hid (Made w13 w10.heap.size w11.heap.size (.slice a11 RR.length c11) (RR)) := by rw [hq13]; exact HQ12.out.drewN _
  have HA13 : Hid (Made w13 w11.heap.size w12.heap.size (.slice a12 RR.length c12) (RR)) := by rw [hq13]; exact HA12.out.drewN _
  clear HF12 HX12 HY12 HZ12 HG12 HP12 HQ12 HA12 HB12 hq13
  go_wp2_with fail
  refine (same_any w13 _ _ _ _ _ _ RR RR rfl rfl HA13.out.own.bytes.1 HQ13.out.own.bytes.1 (by have := HRL.out; unfold maxLen; omega)).mono ?_
  rintro e14 w14 ⟨rfl, q14, hq14⟩
  have z14 : Hid (w13.heap.size = w14.heap.size) := by rw [hq14]; rfl
  have HB14 : Hid (Below w.heap.size w w14) := by rw [hq14]; exact below_drewN HB13.out _
  have HF14 : Hid (Made w14 w1.heap.size w2.heap.size (.slice (some ⟨w1.heap.size, 0, none⟩) (ll + 3) (ll + 3)) (ls ++ [171, 171, 171])) := by rw [hq14]; exact HF13.out.drewN _
  have HX14 : Hid (Made w14 w2.heap.size w3.heap.size (.slice a3 (sealOr kind ls).length c3) (sealOr kind ls)) := by rw [hq14]; exact HX13.out.drewN _
  have HY14 : Hid (Made w14 w3.heap.size w4.heap.size (.slice a4 (sealOr kind ls).length c4) (sealOr kind ls)) := by rw [hq14]; exact HY13.out.drewN _
  have HZ14 : Hid (Made w14 w4.heap.size w5.heap.size (.slice a5 (sealOr kind ls).length c5) (sealOr kind ls)) := by rw [hq14]; exact HZ13.out.drewN _
  have HG14 : Hid (Made w14 w8.heap.size w9.heap.size (.slice (some ⟨w8.heap.size, 0, none⟩) (bl + 3) (bl + 3)) (bs ++ [171, 171, 171])) := by rw [hq14]; exact HG13.out.drewN _
  have HP14 : Hid (Made w14 w9.heap.size w10.heap.size (.slice a10 RR.length c10) (RR)) := by rw [hq14]; exact HP13.out.drewN _
  have HQ14 : Hid (Made w14 w10.heap.size w11.heap.size (.slice a11 RR.length c11) (RR)) := by rw [hq14]; exact HQ13.out.drewN _
  have HA14 : Hid (Made w14 w11.heap.size w12.heap.size (.slice a12 RR.length c12) (RR)) := by rw [hq14]; exact HA13.out.drewN _
  clear HF13 HX13 HY13 HZ13 HG13 HP13 HQ13 HA13 HB13 hq14
  go_wp2_with fail
  refine (intact_any w14 w8.heap.size ba (bl + 3) bc bl bs HBL.out (HB.out.kept HB14.out) (by rw [← HBL.out]; unfold maxLen; omega) (fun j hj => HG14.out.own.cell j (by simp; omega)) (by rw [← HBL.out]; omega)).mono ?_
  rintro e15 w15 ⟨rfl, q15, hq15⟩
  have z15 : Hid (w14.heap.size = w15.heap.size) := by rw [hq15]; rfl
  have HB15 : Hid (Below w.heap.size w w15) := by rw [hq15]; exact below_drewN HB14.out _
  have HF15 : Hid (Made w15 w1.heap.size w2.heap.size (.slice (some ⟨w1.heap.size, 0, none⟩) (ll + 3) (ll + 3)) (ls ++ [171, 171, 171])) := by rw [hq15]; exact HF14.out.drewN _
  have HX15 : Hid (Made w15 w2.heap.size w3.heap.size (.slice a3 (sealOr kind ls).length c3) (sealOr kind ls)) := by rw [hq15]; exact HX14.out.drewN _
  have HY15 : Hid (Made w15 w3.heap.size w4.heap.size (.slice a4 (sealOr kind ls).length c4) (sealOr kind ls)) := by rw [hq15]; exact HY14.out.drewN _
  have HZ15 : Hid (Made w15 w4.heap.size w5.heap.size (.slice a5 (sealOr kind ls).length c5) (sealOr kind ls)) := by rw [hq15]; exact HZ14.out.drewN _
  have HG15 : Hid (Made w15 w8.heap.size w9.heap.size (.slice (some ⟨w8.heap.size, 0, none⟩) (bl + 3) (bl + 3)) (bs ++ [171, 171, 171])) := by rw [hq15]; exact HG14.out.drewN _
  have HP15 : Hid (Made w15 w9.heap.size w10.heap.size (.slice a10 RR.length c10) (RR)) := by rw [hq15]; exact HP14.out.drewN _
  have HQ15 : Hid (Made w15 w10.heap.size w11.heap.size (.slice a11 RR.length c11) (RR)) := by rw [hq15]; exact HQ14.out.drewN _
  have HA15 : Hid (Made w15 w11.heap.size w12.heap.size (.slice a12 RR.length c12) (RR)) := by rw [hq15]; exact HA14.out.drewN _
  clear HF14 HX14 HY14 HZ14 HG14 HP14 HQ14 HA14 HB14 hq15
  go_wp2_with fail
  have HSZ : Hid (w1.heap.size < w2.heap.size ∧ w2.heap.size ≤ w3.heap.size ∧ w3.heap.size ≤ w4.heap.size ∧ w4.heap.size ≤ w5.heap.size ∧ w5.heap.size ≤ w8.heap.size ∧ w8.heap.size < w9.heap.size ∧ w9.heap.size ≤ w10.heap.size ∧ w10.heap.size ≤ w11.heap.size ∧ w11.heap.size ≤ w12.heap.size ∧ w12.heap.size ≤ w15.heap.size) := by
    rw [Hid]; have := z2.out; have := z3.out; have := z4.out; have := z5.out; have := z6.out; have := z7.out; have := z8.out; have := z9.out; have := z10.out; have := z11.out; have := z12.out; have := z13.out; have := z14.out; have := z15.out; omega
  have HK16 : Hid (Bk (w15.alloc (.cells #[.slice none 0 0, .slice none 0 0] 40)) w15.heap.size w15.heap.size [] [] (.slice none 0 0) (.slice none 0 0) []) := Bk.new w15
  have hb16 : Below w15.heap.size w15 (w15.alloc (.cells #[.slice none 0 0, .slice none 0 0] 40)) := (Below.refl _ _).alloc (Nat.le_refl _) _
  have hsz : w1.heap.size < w2.heap.size ∧ w2.heap.size ≤ w3.heap.size ∧ w3.heap.size ≤ w4.heap.size ∧ w4.heap.size ≤ w5.heap.size ∧ w5.heap.size ≤ w8.heap.size ∧ w8.heap.size < w9.heap.size ∧ w9.heap.size ≤ w10.heap.size ∧ w10.heap.size ≤ w11.heap.size ∧ w11.heap.size ≤ w12.heap.size ∧ w12.heap.size ≤ w15.heap.size := HSZ.out
  have HS0 : Hid (w.heap.size ≤ w1.heap.size) := HB1.out.size
  generalize w15.alloc (.cells #[.slice none 0 0, .slice none 0 0] 40) = w16 at *
  have HB16 : Hid (Below w.heap.size w w16) := HB15.out.trans (hb16.mono HB15.out.size)
  have HF16 : Hid (Made w16 w1.heap.size w2.heap.size (.slice (some ⟨w1.heap.size, 0, none⟩) (ll + 3) (ll + 3)) (ls ++ [171, 171, 171])) := HF15.out.kept hb16
  have HX16 : Hid (Made w16 w2.heap.size w3.heap.size (.slice a3 (sealOr kind ls).length c3) (sealOr kind ls)) := HX15.out.kept hb16
  have HY16 : Hid (Made w16 w3.heap.size w4.heap.size (.slice a4 (sealOr kind ls).length c4) (sealOr kind ls)) := HY15.out.kept hb16
  have HZ16 : Hid (Made w16 w4.heap.size w5.heap.size (.slice a5 (sealOr kind ls).length c5) (sealOr kind ls)) := HZ15.out.kept hb16
  have HG16 : Hid (Made w16 w8.heap.size w9.heap.size (.slice (some ⟨w8.heap.size, 0, none⟩) (bl + 3) (bl + 3)) (bs ++ [171, 171, 171])) := HG15.out.kept hb16
  have HP16 : Hid (Made w16 w9.heap.size w10.heap.size (.slice a10 RR.length c10) (RR)) := HP15.out.kept hb16
  have HQ16 : Hid (Made w16 w10.heap.size w11.heap.size (.slice a11 RR.length c11) (RR)) := HQ15.out.kept hb16
  have HA16 : Hid (Made w16 w11.heap.size w12.heap.size (.slice a12 RR.length c12) (RR)) := HA15.out.kept hb16
  clear HF15 HX15 HY15 HZ15 HG15 HP15 HQ15 HA15 HB15 hb16
  refine (put_bk w16 w15.heap.size w15.heap.size [] [] (.slice none 0 0) (.slice none 0 0) [] _ _ _ (sealOr kind ls) HK16.out HX16.out.own (fun k hk => by have := HX16.out.hi k hk; omega) (fun i hi => absurd hi (by simp)) (by simp) (by have := HRL.out; have := sealOr_length kind ls; omega)).mono ?_
  rintro e17 w17 ⟨rfl, ⟨vl17, vw17, ws17, hk17⟩, hb17⟩
  have HK17 : Hid (Bk w17 w15.heap.size w15.heap.size [.slice a3 (sealOr kind ls).length c3] [sealOr kind ls] vl17 vw17 ws17) := hk17
  have HB17 : Hid (Below w.heap.size w w17) := HB16.out.trans (hb17.mono (by have := HS0.out; omega))
  have HF17 : Hid (Made w17 w1.heap.size w2.heap.size (.slice (some ⟨w1.heap.size, 0, none⟩) (ll + 3) (ll + 3)) (ls ++ [171, 171, 171])) := HF16.out.same (fun k hk => hb17.block k (by have := HF16.out.hi k hk; omega))
  have HX17 : Hid (Made w17 w2.heap.size w3.heap.size (.slice a3 (sealOr kind ls).length c3) (sealOr kind ls)) := HX16.out.same (fun k hk => hb17.block k (by have := HX16.out.hi k hk; omega))
  have HY17 : Hid (Made w17 w3.heap.size w4.heap.size (.slice a4 (sealOr kind ls).length c4) (sealOr kind ls)) := HY16.out.same (fun k hk => hb17.block k (by have := HY16.out.hi k hk; omega))
  have HZ17 : Hid (Made w17 w4.heap.size w5.heap.size (.slice a5 (sealOr kind ls).length c5) (sealOr kind ls)) := HZ16.out.same (fun k hk => hb17.block k (by have := HZ16.out.hi k hk; omega))
  have HG17 : Hid (Made w17 w8.heap.size w9.heap.size (.slice (some ⟨w8.heap.size, 0, none⟩) (bl + 3) (bl + 3)) (bs ++ [171, 171, 171])) := HG16.out.same (fun k hk => hb17.block k (by have := HG16.out.hi k hk; omega))
  have HP17 : Hid (Made w17 w9.heap.size w10.heap.size (.slice a10 RR.length c10) (RR)) := HP16.out.same (fun k hk => hb17.block k (by have := HP16.out.hi k hk; omega))
  have HQ17 : Hid (Made w17 w10.heap.size w11.heap.size (.slice a11 RR.length c11) (RR)) := HQ16.out.same (fun k hk => hb17.block k (by have := HQ16.out.hi k hk; omega))
  have HA17 : Hid (Made w17 w11.heap.size w12.heap.size (.slice a12 RR.length c12) (RR)) := HA16.out.same (fun k hk => hb17.block k (by have := HA16.out.hi k hk; omega))
  clear HF16 HX16 HY16 HZ16 HG16 HP16 HQ16 HA16 HB16 hb17 hk17 HK16
  go_wp2_with fail
  refine (put_bk w17 w15.heap.size w15.heap.size [.slice a3 (sealOr kind ls).length c3] [sealOr kind ls] vl17 vw17 ws17 _ _ _ (sealOr kind ls) HK17.out HY17.out.own (fun k hk => by have := HY17.out.hi k hk; omega) (fun i hi => ?_) (by simp) (by have := HRL.out; have := sealOr_length kind ls; omega)).mono ?_
  · intro k h1 h2
    have h3 := HY17.out.lo k h2
    have h4 := HY17.out.hi k h2
    have hi' : i < 1 := by simpa using hi
    match i, hi' with
    | 0, _ => have h5 := HX17.out.lo k h1; have h6 := HX17.out.hi k h1; omega
  rintro e18 w18 ⟨rfl, ⟨vl18, vw18, ws18, hk18⟩, hb18⟩
  have HK18 : Hid (Bk w18 w15.heap.size w15.heap.size [.slice a3 (sealOr kind ls).length c3, .slice a4 (sealOr kind ls).length c4] [sealOr kind ls, sealOr kind ls] vl18 vw18 ws18) := hk18
  have HB18 : Hid (Below w.heap.size w w18) := HB17.out.trans (hb18.mono (by have := HS0.out; omega))
  have HF18 : Hid (Made w18 w1.heap.size w2.heap.size (.slice (some ⟨w1.heap.size, 0, none⟩) (ll + 3) (ll + 3)) (ls ++ [171, 171, 171])) := HF17.out.same (fun k hk => hb18.block k (by have := HF17.out.hi k hk; omega))
  have HX18 : Hid (Made w18 w2.heap.size w3.heap.size (.slice a3 (sealOr kind ls).length c3) (sealOr kind ls)) := HX17.out.same (fun k hk => hb18.block k (by have := HX17.out.hi k hk; omega))
  have HY18 : Hid (Made w18 w3.heap.size w4.heap.size (.slice a4 (sealOr kind ls).length c4) (sealOr kind ls)) := HY17.out.same (fun k hk => hb18.block k (by have := HY17.out.hi k hk; omega))
  have HZ18 : Hid (Made w18 w4.heap.size w5.heap.size (.slice a5 (sealOr kind ls).length c5) (sealOr kind ls)) := HZ17.out.same (fun k hk => hb18.block k (by have := HZ17.out.hi k hk; omega))
  have HG18 : Hid (Made w18 w8.heap.size w9.heap.size (.slice (some ⟨w8.heap.size, 0, none⟩) (bl + 3) (bl + 3)) (bs ++ [171, 171, 171])) := HG17.out.same (fun k hk => hb18.block k (by have := HG17.out.hi k hk; omega))
  have HP18 : Hid (Made w18 w9.heap.size w10.heap.size (.slice a10 RR.length c10) (RR)) := HP17.out.same (fun k hk => hb18.block k (by have := HP17.out.hi k hk; omega))
  have HQ18 : Hid (Made w18 w10.heap.size w11.heap.size (.slice a11 RR.length c11) (RR)) := HQ17.out.same (fun k hk => hb18.block k (by have := HQ17.out.hi k hk; omega))
  have HA18 : Hid (Made w18 w11.heap.size w12.heap.size (.slice a12 RR.length c12) (RR)) := HA17.out.same (fun k hk => hb18.block k (by have := HA17.out.hi k hk; omega))
  clear HF17 HX17 HY17 HZ17 HG17 HP17 HQ17 HA17 HB17 hb18 hk18 HK17
  go_wp2_with fail
  refine (put_bk w18 w15.heap.size w15.heap.size [.slice a3 (sealOr kind ls).length c3, .slice a4 (sealOr kind ls).length c4] [sealOr kind ls, sealOr kind ls] vl18 vw18 ws18 _ _ _ (RR) HK18.out HP18.out.own (fun k hk => by have := HP18.out.hi k hk; omega) (fun i hi => ?_) (by simp) (by have := HRL.out; have := sealOr_length kind ls; omega)).mono ?_
  · intro k h1 h2
    have h3 := HP18.out.lo k h2
    have h4 := HP18.out.hi k h2
    have hi' : i < 2 := by simpa using hi
    match i, hi' with
    | 0, _ => have h5 := HX18.out.lo k h1; have h6 := HX18.out.hi k h1; omega
    | 1, _ => have h5 := HY18.out.lo k h1; have h6 := HY18.out.hi k h1; omega
  rintro e19 w19 ⟨rfl, ⟨vl19, vw19, ws19, hk19⟩, hb19⟩
  have HK19 : Hid (Bk w19 w15.heap.size w15.heap.size [.slice a3 (sealOr kind ls).length c3, .slice a4 (sealOr kind ls).length c4, .slice a10 RR.length c10] [sealOr kind ls, sealOr kind ls, RR] vl19 vw19 ws19) := hk19
  have HB19 : Hid (Below w.heap.size w w19) := HB18.out.trans (hb19.mono (by have := HS0.out; omega))
  have HF19 : Hid (Made w19 w1.heap.size w2.heap.size (.slice (some ⟨w1.heap.size, 0, none⟩) (ll + 3) (ll + 3)) (ls ++ [171, 171, 171])) := HF18.out.same (fun k hk => hb19.block k (by have := HF18.out.hi k hk; omega))
  have HX19 : Hid (Made w19 w2.heap.size w3.heap.size (.slice a3 (sealOr kind ls).length c3) (sealOr kind ls)) := HX18.out.same (fun k hk => hb19.block k (by have := HX18.out.hi k hk; omega))
  have HY19 : Hid (Made w19 w3.heap.size w4.heap.size (.slice a4 (sealOr kind ls).length c4) (sealOr kind ls)) := HY18.out.same (fun k hk => hb19.block k (by have := HY18.out.hi k hk; omega))
  have HZ19 : Hid (Made w19 w4.heap.size w5.heap.size (.slice a5 (sealOr kind ls).length c5) (sealOr kind ls)) := HZ18.out.same (fun k hk => hb19.block k (by have := HZ18.out.hi k hk; omega))
  have HG19 : Hid (Made w19 w8.heap.size w9.heap.size (.slice (some ⟨w8.heap.size, 0, none⟩) (bl + 3) (bl + 3)) (bs ++ [171, 171, 171])) := HG18.out.same (fun k hk => hb19.block k (by have := HG18.out.hi k hk; omega))
  have HP19 : Hid (Made w19 w9.heap.size w10.heap.size (.slice a10 RR.length c10) (RR)) := HP18.out.same (fun k hk => hb19.block k (by have := HP18.out.hi k hk; omega))
  have HQ19 : Hid (Made w19 w10.heap.size w11.heap.size (.slice a11 RR.length c11) (RR)) := HQ18.out.same (fun k hk => hb19.block k (by have := HQ18.out.hi k hk; omega))
  have HA19 : Hid (Made w19 w11.heap.size w12.heap.size (.slice a12 RR.length c12) (RR)) := HA18.out.same (fun k hk => hb19.block k (by have := HA18.out.hi k hk; omega))
  clear HF18 HX18 HY18 HZ18 HG18 HP18 HQ18 HA18 HB18 hb19 hk19 HK18
  go_wp2_with fail
  refine (put_bk w19 w15.heap.size w15.heap.size [.slice a3 (sealOr kind ls).length c3, .slice a4 (sealOr kind ls).length c4, .slice a10 RR.length c10] [sealOr kind ls, sealOr kind ls, RR] vl19 vw19 ws19 _ _ _ (RR) HK19.out HA19.out.own (fun k hk => by have := HA19.out.hi k hk; omega) (fun i hi => ?_) (by simp) (by have := HRL.out; have := sealOr_length kind ls; omega)).mono ?_
  · intro k h1 h2
    have h3 := HA19.out.lo k h2
    have h4 := HA19.out.hi k h2
    have hi' : i < 3 := by simpa using hi
    match i, hi' with
    | 0, _ => have h5 := HX19.out.lo k h1; have h6 := HX19.out.hi k h1; omega
    | 1, _ => have h5 := HY19.out.lo k h1; have h6 := HY19.out.hi k h1; omega
    | 2, _ => have h5 := HP19.out.lo k h1; have h6 := HP19.out.hi k h1; omega
  rintro e20 w20 ⟨rfl, ⟨vl20, vw20, ws20, hk20⟩, hb20⟩
  have HK20 : Hid (Bk w20 w15.heap.size w15.heap.size [.slice a3 (sealOr kind ls).length c3, .slice a4 (sealOr kind ls).length c4, .slice a10 RR.length c10, .slice a12 RR.length c12] [sealOr kind ls, sealOr kind ls, RR, RR] vl20 vw20 ws20) := hk20
  have HB20 : Hid (Below w.heap.size w w20) := HB19.out.trans (hb20.mono (by have := HS0.out; omega))
  have HF20 : Hid (Made w20 w1.heap.size w2.heap.size (.slice (some ⟨w1.heap.size, 0, none⟩) (ll + 3) (ll + 3)) (ls ++ [171, 171, 171])) := HF19.out.same (fun k hk => hb20.block k (by have := HF19.out.hi k hk; omega))
  have HX20 : Hid (Made w20 w2.heap.size w3.heap.size (.slice a3 (sealOr kind ls).length c3) (sealOr kind ls)) := HX19.out.same (fun k hk => hb20.block k (by have := HX19.out.hi k hk; omega))
  have HY20 : Hid (Made w20 w3.heap.size w4.heap.size (.slice a4 (sealOr kind ls).length c4) (sealOr kind ls)) := HY19.out.same (fun k hk => hb20.block k (by have := HY19.out.hi k hk; omega))
  have HZ20 : Hid (Made w20 w4.heap.size w5.heap.size (.slice a5 (sealOr kind ls).length c5) (sealOr kind ls)) := HZ19.out.same (fun k hk => hb20.block k (by have := HZ19.out.hi k hk; omega))
  have HG20 : Hid (Made w20 w8.heap.size w9.heap.size (.slice (some ⟨w8.heap.size, 0, none⟩) (bl + 3) (bl + 3)) (bs ++ [171, 171, 171])) := HG19.out.same (fun k hk => hb20.block k (by have := HG19.out.hi k hk; omega))
  have HP20 : Hid (Made w20 w9.heap.size w10.heap.size (.slice a10 RR.length c10) (RR)) := HP19.out.same (fun k hk => hb20.block k (by have := HP19.out.hi k hk; omega))
  have HQ20 : Hid (Made w20 w10.heap.size w11.heap.size (.slice a11 RR.length c11) (RR)) := HQ19.out.same (fun k hk => hb20.block k (by have := HQ19.out.hi k hk; omega))
  have HA20 : Hid (Made w20 w11.heap.size w12.heap.size (.slice a12 RR.length c12) (RR)) := HA19.out.same (fun k hk => hb20.block k (by have := HA19.out.hi k hk; omega))
  clear HF19 HX19 HY19 HZ19 HG19 HP19 HQ19 HA19 HB19 hb20 hk20 HK19
  go_wp2_with fail
  refine (ends_bk w20 w15.heap.size w15.heap.size _ _ vl20 vw20 ws20 HK20.out (by simp) (fun i => ?_)).mono ?_
  · have h1 := HRL.out
    have h2 := sealOr_length kind ls
    match i with
    | 0 => show (sealOr kind ls).length ≤ _; omega
    | 1 => show (sealOr kind ls).length ≤ _; omega
    | 2 => show RR.length ≤ _; omega
    | 3 => show RR.length ≤ _; omega
    | n + 4 => simp
  rintro e21 w21 ⟨rfl, ht21⟩
  have hkeep : ∀ k, k < w15.heap.size → (∀ lo hi (v : Value) L, Made w20 lo hi v L → v.ownBlock = some k → lo ≤ k ∧ k < hi) → True := fun _ _ _ => trivial
  clear hkeep
  have hfar : ∀ k, k < w15.heap.size → (Value.slice a3 (sealOr kind ls).length c3).ownBlock ≠ some k → (Value.slice a4 (sealOr kind ls).length c4).ownBlock ≠ some k → (Value.slice a10 RR.length c10).ownBlock ≠ some k → (Value.slice a12 RR.length c12).ownBlock ≠ some k → w21.heap[k]? = w20.heap[k]? := by
    intro k hk n1 n2 n3 n4
    refine ht21.block k (Nat.lt_of_lt_of_le hk HK20.out.top) ?_
    rintro (h1 | ⟨i, hi, h1⟩)
    · omega
    · have hi' : i < 4 := by simpa using hi
      match i, hi' with
      | 0, _ => exact n1 h1
      | 1, _ => exact n2 h1
      | 2, _ => exact n3 h1
      | 3, _ => exact n4 h1
  have hnx : ∀ k, (Value.slice a3 (sealOr kind ls).length c3).ownBlock = some k → w2.heap.size ≤ k ∧ k < w3.heap.size := fun k hk => ⟨HX20.out.lo k hk, HX20.out.hi k hk⟩
  have hny : ∀ k, (Value.slice a4 (sealOr kind ls).length c4).ownBlock = some k → w3.heap.size ≤ k ∧ k < w4.heap.size := fun k hk => ⟨HY20.out.lo k hk, HY20.out.hi k hk⟩
  have hnp : ∀ k, (Value.slice a10 RR.length c10).ownBlock = some k → w9.heap.size ≤ k ∧ k < w10.heap.size := fun k hk => ⟨HP20.out.lo k hk, HP20.out.hi k hk⟩
  have hna : ∀ k, (Value.slice a12 RR.length c12).ownBlock = some k → w11.heap.size ≤ k ∧ k < w12.heap.size := fun k hk => ⟨HA20.out.lo k hk, HA20.out.hi k hk⟩
  have hout : ∀ k, k < w15.heap.size → (k < w2.heap.size ∨ (w8.heap.size ≤ k ∧ k < w9.heap.size)) → w21.heap[k]? = w20.heap[k]? := by
    intro k hk hr
    refine hfar k hk (fun e => ?_) (fun e => ?_) (fun e => ?_) (fun e => ?_)
    · have := hnx k e; omega
    · have := hny k e; omega
    · have := hnp k e; omega
    · have := hna k e; omega
  have HB21 : Hid (Below w.heap.size w w21) := ⟨ht21.os.trans HB20.out.os, ht21.tape.trans HB20.out.tape, ht21.output.trans HB20.out.output, Nat.le_trans HB20.out.size ht21.size, fun k hk => (hout k (by have := HS0.out; omega) (.inl (by have := HS0.out; omega))).trans (HB20.out.block k hk)⟩
  have HF21 : Hid (Made w21 w1.heap.size w2.heap.size (.slice (some ⟨w1.heap.size, 0, none⟩) (ll + 3) (ll + 3)) (ls ++ [171, 171, 171])) := HF20.out.same (fun k hk => hout k (by have := HF20.out.hi k hk; omega) (.inl (HF20.out.hi k hk)))
  have HG21 : Hid (Made w21 w8.heap.size w9.heap.size (.slice (some ⟨w8.heap.size, 0, none⟩) (bl + 3) (bl + 3)) (bs ++ [171, 171, 171])) := HG20.out.same (fun k hk => hout k (by have := HG20.out.hi k hk; omega) (.inr ⟨HG20.out.lo k hk, HG20.out.hi k hk⟩))
  clear hfar hnx hny hnp hna hout ht21 HX20 HY20 HZ20 HP20 HQ20 HA20 HF20 HG20 HB20 HK20 hsz HSZ
  go_wp2_with fail
  refine (intact_any w21 w1.heap.size la (ll + 3) lc ll ls HLL.out (HL.out.kept HB21.out) (by rw [← HLL.out]; unfold maxLen; omega) (fun j hj => HF21.out.own.cell j (by simp; omega)) (by rw [← HLL.out]; omega)).mono ?_
  rintro e22 w22 ⟨rfl, q22, hq22⟩
  have HB22 : Hid (Below w.heap.size w w22) := by rw [hq22]; exact below_drewN HB21.out _
  have HF22 : Hid (Made w22 w1.heap.size w2.heap.size (.slice (some ⟨w1.heap.size, 0, none⟩) (ll + 3) (ll + 3)) (ls ++ [171, 171, 171])) := by rw [hq22]; exact HF21.out.drewN _
  have HG22 : Hid (Made w22 w8.heap.size w9.heap.size (.slice (some ⟨w8.heap.size, 0, none⟩) (bl + 3) (bl + 3)) (bs ++ [171, 171, 171])) := by rw [hq22]; exact HG21.out.drewN _
  clear HF21 HG21 HB21 hq22
  go_wp2_with fail
  refine (intact_any w22 w8.heap.size ba (bl + 3) bc bl bs HBL.out (HB.out.kept HB22.out) (by rw [← HBL.out]; unfold maxLen; omega) (fun j hj => HG22.out.own.cell j (by simp; omega)) (by rw [← HBL.out]; omega)).mono ?_
  rintro e23 w23 ⟨rfl, q23, hq23⟩
  have HB23 : Hid (Below w.heap.size w w23) := by rw [hq23]; exact below_drewN HB22.out _
  have HF23 : Hid (Made w23 w1.heap.size w2.heap.size (.slice (some ⟨w1.heap.size, 0, none⟩) (ll + 3) (ll + 3)) (ls ++ [171, 171, 171])) := by rw [hq23]; exact HF22.out.drewN _
  have HG23 : Hid (Made w23 w8.heap.size w9.heap.size (.slice (some ⟨w8.heap.size, 0, none⟩) (bl + 3) (bl + 3)) (bs ++ [171, 171, 171])) := by rw [hq23]; exact HG22.out.drewN _
  clear HF22 HG22 HB22 hq23
  go_wp2_with fail
  go_ret
  exact ⟨rfl, HB23.out⟩

end Go.Proofs.YthdlilekilkogaaDoor
