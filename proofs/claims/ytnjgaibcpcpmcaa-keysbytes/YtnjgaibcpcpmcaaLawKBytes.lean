/-
  THE WALK OF KeysBytes.
-/
import Derived.Test.YtnjgaibcpcpmcaaApartB
import Derived.Test.YtnjgaibcpcpmcaaSame2
import Derived.Test.YtnjgaibcpcpmcaaKNe
namespace Go.Proofs.Ytnjgaibcpcpmcaa
open Go.RowKit Go.Sort

def lk (k : K) : List Nat := if isKey k then keyBytes k else []
def ek (k : K) : Int := if isKey k then 0 else 20
theorem lk_lt (k : K) : ∀ z ∈ lk k, z < 256 := by
  unfold lk; split
  · rename_i h; exact keyBytes_lt h
  · simp
theorem lk_len (k : K) : (lk k).length ≤ 10 := by unfold lk; split; rw [keyBytes_length]; exact Nat.le_refl _; simp
theorem bytes_all (w : World) (t r : Int) (hr : In64 r) :
    Calls Try.prog 13 #[.agg #[.int .i64 t, .int .i64 r]] w fun e w' => ∃ v, e = .returned (.tuple #[v, .int .i64 (ek (t, r))]) ∧ RowIs w' v (lk (t, r)) ∧ (∀ b, v.ownBlock = some b → w.heap.size ≤ b) ∧ Grew w w' := by
  by_cases hk : isKey (t, r) = true
  · have h1 : lk (t, r) = keyBytes (t, r) := by unfold lk; rw [if_pos hk]
    have h2 : ek (t, r) = 0 := by unfold ek; rw [if_pos hk]
    obtain ⟨T, rfl⟩ := Int.eq_ofNat_of_zero_le ((isKey_iff t r).1 hk).1
    rw [h1, h2]
    have hl := keyBytes_length ((T : Int), r)
    refine (bytes_key w T r (by have := ((isKey_iff _ _).1 hk).2; omega) hr).mono ?_
    rintro e w' ⟨B, rfl, hB, _, hrow, hg⟩
    exact ⟨_, rfl, ⟨keyBytes_lt hk, .inr ⟨B, by rw [hl], hrow, hl⟩⟩, fun b hb => by cases hb; exact hB, hg⟩
  · have h1 : lk (t, r) = [] := by unfold lk; rw [if_neg hk]
    have h2 : ek (t, r) = 20 := by unfold ek; rw [if_neg hk]
    rw [h1, h2]
    refine (bytes_none w t r (by simpa using hk)).mono ?_
    rintro e w' ⟨rfl, hg⟩
    exact ⟨_, rfl, ⟨by simp, .inl ⟨rfl, rfl⟩⟩, (fun b hb => by cases hb), hg⟩
theorem refBytes_all (w : World) (t r : Int) (hr : In64 r) :
    Calls Try.prog 14 #[.agg #[.int .i64 t, .int .i64 r]] w fun e w' => ∃ ao c, e = .returned (.tuple #[.slice ao (lk (t, r)).length c, .int .i64 (ek (t, r))]) ∧ BytesAt w' ao (lk (t, r)) ∧ Below w.heap.size w w' := by
  by_cases hk : isKey (t, r) = true
  · have h1 : lk (t, r) = keyBytes (t, r) := by unfold lk; rw [if_pos hk]
    have h2 : ek (t, r) = 0 := by unfold ek; rw [if_pos hk]
    obtain ⟨T, rfl⟩ := Int.eq_ofNat_of_zero_le ((isKey_iff t r).1 hk).1
    rw [h1, h2]
    refine (refBytes_key w T r (by have := ((isKey_iff _ _).1 hk).2; omega) hr).mono ?_
    rintro e w' ⟨v, rfl, hown, hb⟩
    obtain ⟨ao, c, rfl, hx, _⟩ := hown.slice
    exact ⟨ao, c, rfl, hx, hb⟩
  · have h1 : lk (t, r) = [] := by unfold lk; rw [if_neg hk]
    have h2 : ek (t, r) = 20 := by unfold ek; rw [if_neg hk]
    rw [h1, h2]
    refine (refBytes_none w t r (by simpa using hk)).mono ?_
    rintro e w' ⟨rfl, hg⟩
    exact ⟨none, 0, rfl, ⟨by simp, .inl rfl⟩, hg.below⟩

theorem cell_two {w : World} {B : Nat} {a b : Value} {T : TypeId} (h : w.heap[B]? = some (.cells #[a, b] T (0, 0))) : w.cell? ⟨B, 0, none⟩ = some a ∧ w.cell? ⟨B, 1, none⟩ = some b := by
  constructor <;> simp [World.cell?, h]
theorem two_src (w : World) (B : Nat) (hB : B = w.heap.size) : BytesAt (w.alloc (.cells #[.int .u8 165, .int .u8 90] 5)) (some ⟨B, 0, none⟩) [165, 90] := by
  subst hB
  have h := rowAt_alloc w [165, 90]
  rw [show cellsU8 [165, 90] = #[.int .u8 165, .int .u8 90] from rfl, ← List.append_nil [165, 90]] at h
  exact h.bytes0 (by simp)
theorem own_two {w : World} {base : Nat} {v : Value} {zs : List Nat} (h : OwnB w base v (zs ++ [165, 90])) : ∃ g c, v = .slice (some ⟨g, 0, none⟩) (zs.length + 2) c ∧ base ≤ g ∧ BytesAt w (some ⟨g, 0, none⟩) (zs ++ [165, 90]) ∧ zs.length + 2 ≤ c := by
  rcases h.shape with ⟨_, h2⟩ | ⟨g, cap, h1, h2, h3, h4, h5, h6⟩
  · simp at h2
  · exact ⟨g, cap, by rw [h1]; simp, h2, h6, by simpa using h4⟩
theorem own_front {w : World} {base g n c : Nat} {zs ys : List Nat} (h : OwnB w base (.slice (some ⟨g, 0, none⟩) n c) (zs ++ ys)) : BytesAt w (some ⟨g, 0, none⟩) zs := by
  refine ⟨fun z hz => h.1 z (by simp [hz]), .inr ⟨g, 0, rfl, fun j hj => ?_⟩⟩
  rw [Nat.zero_add, h.cell j (by simp; omega), getD_left _ _ _ hj]

set_option maxHeartbeats 4000000 in
set_option maxRecDepth 100000 in
theorem kbytes_walk (w : World) (t r : Int) (ir : In64 r) (ao : Option Addr) (cap n : Nat) (zs : List Nat) (hn : n = zs.length) (h : BytesAt w ao zs) (hnil : ao = none → cap = 0) (hnc : n ≤ cap) (hm : n ≤ 140737488351232) :
    Calls Try.prog 4 #[.agg #[.int .i64 t, .int .i64 r], .slice ao n cap] w fun e w' => e = .returned (.bool true) ∧ Below w.heap.size w w' := by
  have HN : Hid (n = zs.length) := hn
  have HR : Hid (BytesAt w ao zs) := h
  have HNIL : Hid (ao = none → cap = 0) := hnil
  clear hn h hnil
  have HA : Hid _ := fun w => bytes_all w t r ir
  have HF : Hid _ := fun w => refBytes_all w t r ir
  have hll := lk_len (t, r)
  generalize lk (t, r) = LK at *
  generalize ek (t, r) = EK at *
  go_enter Try.func4, Try.ntmps4
  go_wp2_with fail
  have B0 : Hid (Box (w.alloc (.cells #[.int .i64 t, .int .i64 r] 23)) w.heap.size t r) := Box.new rfl
  have HG : Hid (Grew w (w.alloc (.cells #[.int .i64 t, .int .i64 r] 23))) := (Grew.refl _).alloc _
  generalize w.alloc (.cells #[.int .i64 t, .int .i64 r] 23) = W at *
  refine Calls.mono (HA.out W) ?_
  rintro e w1 ⟨v1, rfl, hr1, hb1, g1⟩
  have B1 : Hid (Box w1 w.heap.size t r) := B0.out.grew g1
  have HB1 : Hid (Below w.heap.size w w1) := (HG.out.trans g1).below
  have HR1 : Hid (RowIs w1 v1 LK) := hr1
  have HO1 : Hid (∀ b, v1.ownBlock = some b → w.heap.size ≤ b) := fun b hb => Nat.le_trans HG.out.size (hb1 b hb)
  clear g1 B0 HG hr1 hb1
  obtain ⟨p1, p2⟩ := B1.out
  go_wp2_with fail
  refine Calls.mono (HF.out w1) ?_
  rintro e w2 ⟨am, cm, rfl, hbm, hb2⟩
  have B2 : Hid (Box w2 w.heap.size t r) := ⟨(hb2.cell (p := ⟨w.heap.size, 0, none⟩) (cell_lt B1.out.1)).trans B1.out.1, (hb2.cell (p := ⟨w.heap.size, 1, none⟩) (cell_lt B1.out.2)).trans B1.out.2⟩
  have HB2 : Hid (Below w.heap.size w w2) := HB1.out.trans (hb2.mono HB1.out.size)
  have HR2 : Hid (RowIs w2 v1 LK) := HR1.out.same fun b hb => hb2.block b (HR1.out.lt b hb)
  have HM2 : Hid (BytesAt w2 am LK) := hbm
  clear hb2 hbm B1 HB1 HR1 HF p1 p2
  obtain ⟨p1, p2⟩ := B2.out
  go_wp2_with fail
  refine Calls.mono (HA.out w2) ?_
  rintro e w3 ⟨v3, rfl, hr3, hb3, g3⟩
  have HB3 : Hid (Below w.heap.size w w3) := HB2.out.trans (g3.below.mono HB2.out.size)
  have HR3 : Hid (RowIs w3 v1 LK) := HR2.out.same fun b hb => g3.heap (HR2.out.lt b hb)
  have HM3 : Hid (BytesAt w3 am LK) := HM2.out.kept g3.below
  have HRA : Hid (RowIs w3 v3 LK) := hr3
  have HO3 : Hid (∀ b, v3.ownBlock = some b → w2.heap.size ≤ b) := hb3
  have HD : Hid (∀ b, v1.ownBlock = some b → v3.ownBlock ≠ some b) := fun b h1 h2 => by have := HR2.out.lt b h1; have := hb3 b h2; omega
  have HW23 : Hid (w.heap.size ≤ w2.heap.size) := HB2.out.size
  have HRB : Hid (BytesAt w3 ao zs) := HR.out.kept HB3.out
  clear hr3 hb3 g3 B2 HB2 HR2 HM2 HA HR p1 p2
  obtain ⟨a1, e1, hy1, _, _⟩ := HR3.out.slice
  obtain ⟨a3, e3, hy3, _, _⟩ := HRA.out.slice
  have HS1 : Hid (∀ n, Calls Try.prog 15 #[.slice a1 LK.length LK.length, .slice am LK.length cm] (w3.drewN n) fun e w' => e = .returned (.bool true) ∧ ∃ m, w' = w3.drewN m) := fun n => by
    have := same_any (w3.drewN n) a1 am LK.length cm LK.length LK.length LK LK rfl rfl hy1 HM3.out (by unfold maxLen; omega)
    rw [show decide (LK = LK) = true by simp] at this
    exact this.mono fun e w' ⟨h1, m, h2⟩ => ⟨h1, n + m, by rw [h2, World.drewN_drewN]⟩
  have HS2 : Hid (∀ n, Calls Try.prog 15 #[.slice a3 LK.length LK.length, .slice am LK.length cm] (w3.drewN n) fun e w' => e = .returned (.bool true) ∧ ∃ m, w' = w3.drewN m) := fun n => by
    have := same_any (w3.drewN n) a3 am LK.length cm LK.length LK.length LK LK rfl rfl hy3 HM3.out (by unfold maxLen; omega)
    rw [show decide (LK = LK) = true by simp] at this
    exact this.mono fun e w' ⟨h1, m, h2⟩ => ⟨h1, n + m, by rw [h2, World.drewN_drewN]⟩
  clear hy1 hy3
  rw [e1, e3]
  have HE1 : Hid _ := e1
  have HE3 : Hid _ := e3
  clear e1 e3
  go_wp2_with (go_at_call 8; refine (num_any' _ _).mono ?_; rintro e w' ⟨rfl, rfl⟩)
  refine Calls.mono (HS1.out 0) ?_
  rintro e w4 ⟨rfl, n4, rfl⟩
  go_wp2_with fail
  refine Calls.mono (HS2.out n4) ?_
  rintro e w5 ⟨rfl, n5, rfl⟩
  clear HS1 HS2
  have HB5 : Hid (Below w.heap.size w (w3.drewN n5)) := HB3.out.trans (((Grew.refl w3).drewN n5).below.mono HB3.out.size)
  have HR5 : Hid (RowIs (w3.drewN n5) v1 LK) := HR3.out
  have HA5 : Hid (RowIs (w3.drewN n5) v3 LK) := HRA.out
  have HZ5 : Hid (BytesAt (w3.drewN n5) ao zs) := HRB.out
  clear HB3 HR3 HRA HRB HM3
  generalize w3.drewN n5 = W5 at *
  have HO0 : Hid (OwnB (W5.alloc (.cells #[] 5)) W5.heap.size (.slice (some ⟨W5.heap.size, 0, none⟩) 0 0) []) := OwnB.made (L := []) (by simp) (by simp) (Nat.le_refl _)
  have HZ6 : Hid (BytesAt (W5.alloc (.cells #[] 5)) ao zs) := HZ5.out.kept ((Grew.refl _).alloc _).below
  have hzl : zs.length ≤ 140737488351232 := by rw [← HN.out]; exact hm
  go_wp2_with (at_builtin; first
    | (refine wpList_append_bytes rfl _ _ rfl W5.heap.size _ [] rfl HO0.out ao n cap zs rfl HN.out HZ6.out HNIL.out (by simp; omega) (by simp) ?_; intro v6 w6 hown6 hgrow6; have HO6 : Hid (OwnB w6 W5.heap.size v6 zs) := (by have := hown6; rwa [List.nil_append] at this); have HB6 : Hid (Below W5.heap.size W5 w6) := ((Grew.refl W5).alloc _).below.trans (below_grown' hgrow6 (fun k hk => (HO0.out.2.lt k hk).1) (by simp)); clear hown6 hgrow6)
    | (refine wpList_append_bytes rfl _ _ rfl W5.heap.size _ zs rfl (HO6.out.alloc _) _ _ _ [165, 90] rfl rfl (two_src _ _ rfl) (by simp) (by simp; omega) (by have := HB6.out.size; simp; omega) ?_; intro v7 w7 hown7 hgrow7; have HB7 : Hid (Below W5.heap.size W5 w7) := HB6.out.trans ((below_grown' (grown_alloc' w7 hgrow7) (fun k hk => (HO6.out.2.lt k hk).1) HB6.out.size)); obtain ⟨g7, c7, hv7, hg7, hy7, hl7⟩ := own_two hown7; subst hv7; rw [← HN.out] at hl7 ⊢; have HO7 : Hid (OwnB w7 W5.heap.size (.slice (some ⟨g7, 0, none⟩) (n + 2) c7) (zs ++ [165, 90])) := (by rw [HN.out]; exact hown7); clear hown7 hgrow7 hy7 hg7))
  have HF7 : Hid (BytesAt w7 (some ⟨g7, 0, none⟩) zs) := own_front HO7.out
  refine (fromBytes_any w7 (some ⟨g7, 0, none⟩) c7 n zs HN.out HF7.out (by omega) (by unfold maxLen; omega)).mono ?_
  rintro e w8 ⟨rfl, g8⟩
  have HB8 : Hid (Below W5.heap.size W5 w8) := HB7.out.trans (g8.below.mono HB7.out.size)
  have HO8 : Hid (OwnB w8 W5.heap.size (.slice (some ⟨g7, 0, none⟩) (n + 2) c7) (zs ++ [165, 90])) := HO7.out.kept g8.below
  clear g8 HO7 HB7 HF7 HO0 HZ6 HO6 HB6
  go_wp2_with fail
  generalize hfk : fromK zs = fk at *
  generalize hfe : fromE zs = fe at *
  obtain ⟨k1, k2⟩ := fk
  have B9 : Hid (Box (w8.alloc (.cells #[.int .i64 k1, .int .i64 k2] 23)) w8.heap.size k1 k2) := Box.new rfl
  have HB9 : Hid (Below W5.heap.size W5 (w8.alloc (.cells #[.int .i64 k1, .int .i64 k2] 23))) := HB8.out.alloc HB8.out.size _
  have HO9 : Hid (OwnB (w8.alloc (.cells #[.int .i64 k1, .int .i64 k2] 23)) W5.heap.size (.slice (some ⟨g7, 0, none⟩) (n + 2) c7) (zs ++ [165, 90])) := HO8.out.alloc _
  have HZ9 : Hid (BytesAt (w8.alloc (.cells #[.int .i64 k1, .int .i64 k2] 23)) ao zs) := HZ5.out.kept HB9.out
  generalize w8.alloc (.cells #[.int .i64 k1, .int .i64 k2] 23) = W9 at *
  have HRF : Hid (Calls Try.prog 17 #[.slice ao n cap] W9 fun e w' => e = .returned (.tuple #[.agg #[.int .i64 k1, .int .i64 k2], .int .i64 fe]) ∧ Grew W9 w') := by
    have := refFromBytes_any W9 ao cap n zs HN.out HZ9.out hnc (by unfold maxLen; omega)
    rw [hfk, hfe] at this
    exact this
  clear hfk hfe
  refine Calls.mono HRF.out ?_
  rintro e w10 ⟨rfl, g10⟩
  have B10 : Hid (Box w10 w8.heap.size k1 k2) := B9.out.grew g10
  have HB10 : Hid (Below W5.heap.size W5 w10) := HB9.out.trans (g10.below.mono HB9.out.size)
  have HO10 : Hid (OwnB w10 W5.heap.size (.slice (some ⟨g7, 0, none⟩) (n + 2) c7) (zs ++ [165, 90])) := HO9.out.kept g10.below
  clear g10 HRF HO9 HB9 B9 HZ9 HO8 HB8
  have HB11 : Hid (Below W5.heap.size W5 (w10.alloc (.cells #[.int .i64 k1, .int .i64 k2] 23))) := HB10.out.alloc HB10.out.size _
  have HO11 : Hid (OwnB (w10.alloc (.cells #[.int .i64 k1, .int .i64 k2] 23)) W5.heap.size (.slice (some ⟨g7, 0, none⟩) (n + 2) c7) (zs ++ [165, 90])) := HO10.out.alloc _
  have q1 := (B10.out.alloc (.cells #[.int .i64 k1, .int .i64 k2] 23)).1
  have q2 := (B10.out.alloc (.cells #[.int .i64 k1, .int .i64 k2] 23)).2
  have hne := run_neKey k1 k2 k1 k2
  have hgd := fun op x y => run_eqGuard op x y k1 k2 k1 k2
  rw [show decide ((k1, k2) = (k1, k2)) = true by simp] at hne
  have HSS : Hid (Calls Try.prog 15 #[.slice (some ⟨g7, 0, none⟩) n c7, .slice ao n cap] (w10.alloc (.cells #[.int .i64 k1, .int .i64 k2] 23)) fun e w' => e = .returned (.bool true) ∧ ∃ m, w' = (w10.alloc (.cells #[.int .i64 k1, .int .i64 k2] 23)).drewN m) := by
    have := same_any (w10.alloc (.cells #[.int .i64 k1, .int .i64 k2] 23)) (some ⟨g7, 0, none⟩) ao c7 cap n n zs zs HN.out HN.out (own_front HO11.out) (HZ5.out.kept HB11.out) (by unfold maxLen; omega)
    rwa [show decide (zs = zs) = true by simp] at this
  go_wp2_with (go_at_call 8; refine (num_any' _ _).mono ?_; rintro e w' ⟨rfl, rfl⟩)
  refine Calls.mono HSS.out ?_
  rintro e w12 ⟨rfl, n12, rfl⟩
  have HB12 : Hid (Below W5.heap.size W5 ((w10.alloc (.cells #[.int .i64 k1, .int .i64 k2] 23)).drewN n12)) := HB11.out.trans (((Grew.refl _).drewN n12).below.mono HB11.out.size)
  have HO12 : Hid (OwnB ((w10.alloc (.cells #[.int .i64 k1, .int .i64 k2] 23)).drewN n12) W5.heap.size (.slice (some ⟨g7, 0, none⟩) (n + 2) c7) (zs ++ [165, 90])) := HO11.out
  clear HSS HB11 HO11 HO10 HB10 B10 q1 q2 hne hgd
  generalize (w10.alloc (.cells #[.int .i64 k1, .int .i64 k2] 23)).drewN n12 = W12 at *
  have r1 := HO12.out.cell n (by simp; have := HN.out; omega)
  have r2 := HO12.out.cell (n + 1) (by simp; have := HN.out; omega)
  have y1 : (zs ++ [165, 90]).getD n 0 = (165 : Nat) := by rw [HN.out, getD_right _ _ _ (Nat.le_refl _), Nat.sub_self]; rfl
  have y2 : (zs ++ [165, 90]).getD (n + 1) 0 = (90 : Nat) := by rw [HN.out, getD_right _ _ _ (by omega), show zs.length + 1 - zs.length = 1 by omega]; rfl
  rw [y1] at r1
  rw [y2] at r2
  clear y1 y2
  have i1 : ((n : Int) + 1).toNat = n + 1 := by omega
  go_wp2_with fail
  have HB13 : Hid (Below W5.heap.size W5 (W12.alloc (.cells #[.slice a1 LK.length LK.length, .slice a3 LK.length LK.length] 29))) := HB12.out.alloc HB12.out.size _
  have hrow : (W12.alloc (.cells #[.slice a1 LK.length LK.length, .slice a3 LK.length LK.length] 29)).heap[W12.heap.size]? = some (.cells #[.slice a1 LK.length LK.length, .slice a3 LK.length LK.length] 29 (0, 0)) := heap_alloc_new _ _ rfl
  have hws : w.heap.size ≤ W5.heap.size := HB5.out.size
  have hw12 : W5.heap.size ≤ W12.heap.size := HB12.out.size
  have hAll : St (W12.alloc (.cells #[.slice a1 LK.length LK.length, .slice a3 LK.length LK.length] 29)) W12.heap.size (fun j => if j = 0 then .slice a1 LK.length LK.length else .slice a3 LK.length LK.length) (fun _ => LK) := by
    refine ⟨fun j hj => ?_, fun j hj => ?_⟩
    · obtain rfl | rfl : j = 0 ∨ j = 1 := by omega
      · exact (cell_two hrow).1
      · exact (cell_two hrow).2
    · obtain rfl | rfl : j = 0 ∨ j = 1 := by omega
      · have := HR5.out
        rw [HE1.out] at this
        exact this.same fun b hb => HB13.out.block b (this.lt b hb)
      · have := HA5.out
        rw [HE3.out] at this
        exact this.same fun b hb => HB13.out.block b (this.lt b hb)
  refine (apartBytes_two _ w.heap.size W12.heap.size _ _ (by simp; omega) (by simp) hAll ?_ ?_).mono ?_
  · intro j hj b hb
    obtain rfl | rfl : j = 0 ∨ j = 1 := by omega
    · have h1 : v1.ownBlock = some b := by rw [HE1.out]; exact hb
      have h2 := HO1.out b h1
      have h3 := HR5.out.lt b h1
      exact ⟨h2, by omega⟩
    · have h1 : v3.ownBlock = some b := by rw [HE3.out]; exact hb
      have h2 := HO3.out b h1
      have h3 := HA5.out.lt b h1
      have h4 := HW23.out
      exact ⟨by omega, by omega⟩
  · intro b h1 h2
    exact HD.out b (by rw [HE1.out]; exact h1) (by rw [HE3.out]; exact h2)
  · rintro e w14 ⟨rfl, hb14⟩
    go_wp2
    go_ret
    exact ⟨rfl, (HB5.out.trans (HB13.out.mono hws)).trans hb14⟩

end Go.Proofs.Ytnjgaibcpcpmcaa
