/-
  THE WALK OF codec.Unseal.
-/
import Derived.Test.YtcpaonjidioclaaDoorFour
import Derived.Test.YtcpaonjidioclaaDoorSum
import Derived.Test.YtcpaonjidioclaaDoorFresh
namespace Go.Proofs.YtcpaonjidioclaaDoor
open Go.RowKit

theorem BytesAt.cut {w : World} {b off : Nat} {zs : List Nat} (h : BytesAt w (some ⟨b, off, none⟩) zs) (i n : Nat) : BytesAt w (some ⟨b, off + i, none⟩) ((zs.drop i).take n) := by
  obtain ⟨hz, rfl | ⟨b', off', e, hc⟩⟩ := h
  · exact ⟨by simp, .inl (by simp)⟩
  · cases e
    refine ⟨fun z hz' => hz z (List.mem_of_mem_drop (List.mem_of_mem_take hz')), .inr ⟨b, off + i, rfl, fun j hj => ?_⟩⟩
    simp at hj
    rw [Nat.add_assoc, hc (i + j) (by omega)]
    congr 3
    simp [List.getD_eq_getElem?_getD, show j < n by omega]

theorem BytesAt.drop {w : World} {b off : Nat} {zs : List Nat} (h : BytesAt w (some ⟨b, off, none⟩) zs) (i : Nat) : BytesAt w (some ⟨b, off + i, none⟩) (zs.drop i) := by
  have := h.cut i (zs.drop i).length
  rwa [List.take_length] at this
theorem BytesAt.take {w : World} {b off : Nat} {zs : List Nat} (h : BytesAt w (some ⟨b, off, none⟩) zs) (n : Nat) : BytesAt w (some ⟨b, off, none⟩) (zs.take n) := h.cut 0 n
theorem un4_head (C : List Nat) : Rec.un4 ((C.take 5).drop 1) = Rec.un4 (C.drop 1) := by
  simp [Rec.un4, List.getD_eq_getElem?_getD]
theorem TabAt.drewN {w : World} (h : TabAt w) (n : Nat) : TabAt (w.drewN n) := h
/-- what codec.Unseal answers: a tuple, the load in memory of its own -/
def Answers (w : World) (r : Nat × List Nat × Int × Int) (e : Ending) (w' : World) : Prop :=
  ∃ v, e = .returned (.tuple #[.int .u8 ((r.1 : Nat) : Int), v, .int .i64 r.2.2.1, .int .i64 r.2.2.2]) ∧ OwnB w' w.heap.size v r.2.1 ∧ Below w.heap.size w w'
theorem answers_none (w : World) (err : Int) (q : Nat) : Answers w (0, [], 0, err) (.returned (.tuple #[.int .u8 0, .slice none 0 0, .int .i64 0, .int .i64 err])) (w.drewN q) :=
  ⟨_, rfl, OwnB.nil _ _, below_drewN (Below.refl _ _) q⟩

theorem wrap_i64_in (n : Int) (h1 : 0 ≤ n) (h2 : n < 9223372036854775808) : IntKind.i64.wrap n = n := by
  simp [IntKind.wrap, IntKind.bits, IntKind.signed]
  omega
theorem wraps4 (place l : Nat) (h : place + l ≤ 140737488355328) : IntKind.i64.wrap (IntKind.i64.wrap (IntKind.i64.wrap (IntKind.i64.wrap ((place : Int) + 5) + 4) + (l : Int)) + 4) = (place : Int) + 5 + 4 + (l : Int) + 4 := by
  rw [wrap_i64_in ((place : Int) + 5) (by omega) (by omega), wrap_i64_in ((place : Int) + 5 + 4) (by omega) (by omega), wrap_i64_in ((place : Int) + 5 + 4 + (l : Int)) (by omega) (by omega), wrap_i64_in _ (by omega) (by omega)]
theorem answers_some {w w6 : World} {B z0 l : Nat} {load : List Nat} {N N' : Int} (hB : B = w.heap.size) (hl : l = load.length) (hN : N = N') (hr : RowAt w6 B load) (hz : ∀ z ∈ load, z < 256) (hm : l ≤ maxLen) (hb : Below w.heap.size w w6) :
    Answers w (z0, load, N', 0) (.returned (.tuple #[.int .u8 (z0 : Int), .slice (some ⟨B, 0, none⟩) l l, .int .i64 N, .int .i64 0])) w6 := by
  subst hl hN
  exact ⟨_, rfl, OwnB.ofRow hr hz hm (by omega), hb⟩

/-- the record at the head of bytes C, of which there are m + 9 -/
def openC (C : List Nat) (place : Int) : Nat × List Nat × Int × Int :=
  if Crc.sum (C.take 5) ≠ Rec.un4 (C.drop 5) then (0, [], 0, 13) else
  if 16777216 < Rec.un4 (C.drop 1) then (0, [], 0, 12) else
  if C.length < Rec.un4 (C.drop 1) + 13 then (0, [], 0, 10) else
  if Crc.sum ((C.drop 9).take (Rec.un4 (C.drop 1))) ≠ Rec.un4 (C.drop (9 + Rec.un4 (C.drop 1))) then (0, [], 0, 13) else
  (C.getD 0 0, (C.drop 9).take (Rec.un4 (C.drop 1)), place + Rec.un4 (C.drop 1) + 13, 0)

set_option maxHeartbeats 1000000 in
theorem unseal_cells (w : World) (b off c m : Nat) (place : Nat) (C : List Nat) (hn : m + 9 = C.length) (h : BytesAt w (some ⟨b, off + place, none⟩) C) (hm : place + m + 9 ≤ 140737488351232) (hcap : m ≤ c) (ht : TabAt w) :
    Calls Tryd.prog 12 #[.slice (some ⟨b, off, none⟩) (place + (m + 9)) (place + (c + 9)), .int .i64 (place : Int)] w fun e w' => Answers w (openC C place) e w' := by
  have HN : Hid (m + 9 = C.length) := hn
  have HA : Hid (BytesAt w (some ⟨b, off + place, none⟩) C) := h
  have HT : Hid (TabAt w) := ht
  have h2 : ¬ (place + (c + 9) = place) := by omega
  have h3 : (5 : Int) ≤ ((c + 9 : Nat) : Int) := by omega
  clear hn h ht
  have HH : Hid (BytesAt w (some ⟨b, off + place, none⟩) (C.take 5)) := HA.out.take 5
  have HR : Hid (BytesAt w (some ⟨b, off + place + 5, none⟩) (C.drop 5)) := HA.out.drop 5
  have H1 : Hid (BytesAt w (some ⟨b, off + place + 1, none⟩) ((C.take 5).drop 1)) := (HA.out.take 5).drop 1
  have L5 : Hid (5 = (C.take 5).length) := by rw [Hid, List.length_take, ← HN.out]; omega
  have LR : Hid (m + 4 = (C.drop 5).length) := by rw [Hid, List.length_drop, ← HN.out]; omega
  have L1 : Hid (4 = ((C.take 5).drop 1).length) := by rw [Hid, List.length_drop, List.length_take, ← HN.out]; omega
  have hLl : Rec.un4 (C.drop 1) < 4294967296 := Rec.un4_lt fun z hz => HA.out.1 z (List.mem_of_mem_drop hz)
  go_enter Tryd.func12, Tryd.ntmps12
  go_wp2
  go_quiet (fail)
  go_wp2_with fail
  refine (sum_any (w.drewN nq) _ _ _ (C.take 5) L5.out (HH.out.drewN nq) (by rw [← L5.out]; simp [maxLen]) (HT.out.drewN nq)).mono ?_
  rintro e w1 ⟨rfl, rfl⟩
  go_wp2_with fail
  refine (four_any (w.drewN nq) _ _ _ (C.drop 5) LR.out (HR.out.drewN nq) (by omega)).mono ?_
  rintro e w2 ⟨rfl, q2, rfl⟩
  by_cases t1 : Crc.sum (C.take 5) = Rec.un4 (C.drop 5)
  · have hT1 : (((Crc.sum (C.take 5) : Nat) : Int) != ((Rec.un4 (C.drop 5) : Nat) : Int)) = false := by rw [t1]; simp
    have HT1 : Hid (Crc.sum (C.take 5) = Rec.un4 (C.drop 5)) := t1
    clear t1
    go_wp2_with fail
    refine (four_any _ _ _ _ ((C.take 5).drop 1) L1.out (H1.out.drewN _) (by omega)).mono ?_
    rintro e w3 ⟨rfl, q3, rfl⟩
    rw [un4_head]
    have EO : Hid (openC C place = if 16777216 < Rec.un4 (C.drop 1) then (0, [], 0, 12) else if C.length < Rec.un4 (C.drop 1) + 13 then (0, [], 0, 10) else
        if Crc.sum ((C.drop 9).take (Rec.un4 (C.drop 1))) ≠ Rec.un4 (C.drop (9 + Rec.un4 (C.drop 1))) then (0, [], 0, 13) else
        (C.getD 0 0, (C.drop 9).take (Rec.un4 (C.drop 1)), (place : Int) + Rec.un4 (C.drop 1) + 13, 0)) := by
      unfold openC; rw [Hid, if_neg (by rw [HT1.out]; simp)]
    clear HT1 hT1 HH HR H1 L5 LR L1
    generalize Rec.un4 (C.drop 1) = l at *
    by_cases t2 : 16777216 < l
    · have hT2 : (16777216 : Int) < (l : Int) := by omega
      have HE : Hid (openC C place = (0, [], 0, 12)) := by rw [Hid, EO.out, if_pos t2]
      clear t2
      go_wp2
      refine bodyPost_ret (v := .tuple #[.int .u8 0, .slice none 0 0, .int .i64 0, .int .i64 12]) (by simp [results, Tryd.results12, go_sem]) rfl ?_
      rw [HE.out]
      exact answers_none w 12 _
    · have hT2 : ¬ (16777216 : Int) < (l : Int) := by omega
      by_cases t3 : m < l + 4
      · have hT3 : (m : Int) < (l : Int) + 4 := by omega
        have HE : Hid (openC C place = (0, [], 0, 10)) := by rw [Hid, EO.out, if_neg t2, if_pos (by rw [← HN.out]; omega)]
        clear t2 t3
        by_cases hc4 : c = 0
        · subst hc4
          go_wp2
          refine bodyPost_ret (v := .tuple #[.int .u8 0, .slice none 0 0, .int .i64 0, .int .i64 10]) (by simp [results, Tryd.results12, go_sem]) rfl ?_
          rw [HE.out]
          exact answers_none w 10 _
        · have hc4' : ¬ (c + 4 = 4) := by omega
          go_wp2
          refine bodyPost_ret (v := .tuple #[.int .u8 0, .slice none 0 0, .int .i64 0, .int .i64 10]) (by simp [results, Tryd.results12, go_sem]) rfl ?_
          rw [HE.out]
          exact answers_none w 10 _
      · have hT3 : ¬ (m : Int) < (l : Int) + 4 := by omega
        have hc4 : ¬ (c + 4 = 4) := by omega
        have HLd : Hid (BytesAt w (some ⟨b, off + place + 5 + 4, none⟩) ((C.drop 9).take l)) := (HA.out.drop 9).take _
        have HLs : Hid (BytesAt w (some ⟨b, off + place + 5 + 4 + l, none⟩) (C.drop (9 + l))) := by
          have := HA.out.drop (9 + l)
          rw [show off + place + (9 + l) = off + place + 5 + 4 + l by omega] at this
          exact this
        have LL : Hid (l = ((C.drop 9).take l).length) := by rw [Hid, List.length_take, List.length_drop, ← HN.out]; omega
        have LS : Hid (m - l = (C.drop (9 + l)).length) := by rw [Hid, List.length_drop, ← HN.out]; omega
        have H0 : w.cell? ⟨b, off + place, none⟩ = some (.int .u8 ((C.getD 0 0 : Nat) : Int)) := by
          obtain ⟨_, h0 | ⟨b', o', e, hc⟩⟩ := HA.out
          · have := HN.out; rw [h0] at this; simp at this
          · cases e; exact hc 0 (by rw [← HN.out]; omega)
        have HE : Hid (openC C place = if Crc.sum ((C.drop 9).take l) ≠ Rec.un4 (C.drop (9 + l)) then (0, [], 0, 13) else (C.getD 0 0, (C.drop 9).take l, (place : Int) + l + 13, 0)) := by
          rw [Hid, EO.out, if_neg t2, if_neg (by rw [← HN.out]; omega)]
        have hl24 : l ≤ 16777216 := by omega
        have hl4 : l + 4 ≤ m := by omega
        have hcl : ¬ (c = l) := by omega
        have hz0 : C.getD 0 0 < 256 := Rec.getD_lt HA.out.1 0
        clear t2 t3 EO HA hLl
        generalize C.getD 0 0 = z0 at *
        generalize (C.drop 9).take l = load at *
        generalize C.drop (9 + l) = tail at *
        go_wp2
        generalize hq : w.drewN (nq + q2 + q3) = w4
        have HW : Hid (w.drewN (nq + q2 + q3) = w4) := hq
        have HLd4 : Hid (BytesAt w4 (some ⟨b, off + place + 5 + 4, none⟩) load) := by rw [← hq]; exact HLd.out
        have HLs4 : Hid (BytesAt w4 (some ⟨b, off + place + 5 + 4 + l, none⟩) tail) := by rw [← hq]; exact HLs.out
        have HT4 : Hid (TabAt w4) := by rw [← hq]; exact HT.out
        have H04 : w4.cell? ⟨b, off + place, none⟩ = some (.int .u8 (z0 : Int)) := by rw [← hq]; exact H0
        clear hq HLd HLs HT H0
        go_quiet (first | (go_at_call 16; exact Calls.quiet_of_same (sum_any _ _ _ _ load LL.out (HLd4.out.drewN _) (by rw [← LL.out]; unfold maxLen; omega) (HT4.out.drewN _))) | (go_at_call 17; exact Calls.quiet_of (four_any _ _ _ _ tail LS.out (HLs4.out.drewN _) (by omega))))
        by_cases t4 : Crc.sum load = Rec.un4 tail
        · have hT4 : (((Crc.sum load : Nat) : Int) != ((Rec.un4 tail : Nat) : Int)) = false := by rw [t4]; simp
          have HE' : Hid (openC C place = (z0, load, (place : Int) + l + 13, 0)) := by rw [Hid, HE.out, if_neg (by rw [t4]; simp)]
          clear t4 HE
          go_wp2
          generalize hq : w4.drewN nq = w5
          have HW5 : Hid (w4.drewN nq = w5) := hq
          have HLd5 : Hid (BytesAt w5.drew (some ⟨b, off + place + 5 + 4, none⟩) load) := by rw [← hq]; exact HLd4.out
          have H05 : w5.cell? ⟨b, off + place, none⟩ = some (.int .u8 (z0 : Int)) := by rw [← hq]; exact H04
          have hsz5 : w5.heap.size = w.heap.size := by rw [← hq, ← HW.out]; rfl
          have HS5 : Hid (w5.heap.size = w.heap.size) := hsz5
          have hb5 : b < w5.heap.size := World.block_lt_of_cell? w5 ⟨b, off + place, none⟩ H05
          have hB5 : Below w.heap.size w w5.drew := by rw [← hq, ← HW.out]; exact (below_drewN (below_drewN (Below.refl _ _) _) _).drew
          have HB5 : Hid (Below w.heap.size w w5.drew) := hB5
          clear hq hsz5 hB5 H04 HLd4
          have HF : Hid (Calls Tryd.prog 18 #[.slice (some ⟨b, off + place + 5 + 4, none⟩) l c] w5.drew fun e w' => e = .returned (.slice (some ⟨w5.heap.size, 0, none⟩) l l) ∧ RowAt w' w5.heap.size load ∧ Below w5.heap.size w5.drew w' ∧ w'.heap.size = w5.heap.size + 1) :=
            fresh_any w5.drew _ c l load LL.out HLd5.out (by omega)
          have HC : Hid (∀ w6, Below w5.heap.size w5.drew w6 → w6.cell? ⟨b, off + place, none⟩ = some (.int .u8 (z0 : Int))) := fun w6 hb => (hb.cell (p := ⟨b, off + place, none⟩) hb5).trans H05
          go_region_with (go_at_call 18; go_loud (refine HF.out.mono ?_; rintro e w6 ⟨rfl, hrow, hbel, hsz⟩; have H06 := HC.out w6 hbel; have HR6 : Hid (RowAt w6 w5.heap.size load) := hrow; have HB6 : Hid (Below w5.heap.size w5.drew w6) := hbel; clear hrow hbel hsz))
          all_goals go_wp2
          all_goals
            refine bodyPost_ret (v := .tuple #[.int .u8 (z0 : Int), .slice (some ⟨w5.heap.size, 0, none⟩) l l, .int .i64 ((place : Int) + 5 + 4 + (l : Int) + 4), .int .i64 0]) ?_ rfl ?_
            · simp [results, Tryd.results12, go_sem]
              exact wraps4 place l (by omega)
            · rw [HE'.out]
              exact answers_some HS5.out LL.out (by omega) ‹Hid (RowAt _ w5.heap.size load)›.out (by exact HLd5.out.1) (by unfold maxLen; omega) (HB5.out.trans (‹Hid (Below w5.heap.size w5.drew _)›.out.mono (Nat.le_of_eq HS5.out.symm)))
        · have hT4 : (((Crc.sum load : Nat) : Int) != ((Rec.un4 tail : Nat) : Int)) = true := by rw [bne_iff_ne]; omega
          have HE' : Hid (openC C place = (0, [], 0, 13)) := by rw [Hid, HE.out, if_pos t4]
          clear t4 HE
          go_wp2
          refine bodyPost_ret (v := .tuple #[.int .u8 0, .slice none 0 0, .int .i64 0, .int .i64 13]) (by simp [results, Tryd.results12, go_sem]) rfl ?_
          rw [HE'.out, ← HW.out, World.drewN_drewN]
          exact answers_none w 13 _
  · have hT1 : (((Crc.sum (C.take 5) : Nat) : Int) != ((Rec.un4 (C.drop 5) : Nat) : Int)) = true := by rw [bne_iff_ne]; omega
    have HE : Hid (openC C place = (0, [], 0, 13)) := by unfold openC; rw [Hid, if_pos t1]
    clear t1
    go_wp2
    refine bodyPost_ret (v := .tuple #[.int .u8 0, .slice none 0 0, .int .i64 0, .int .i64 13]) (by simp [results, Tryd.results12, go_sem]) rfl ?_
    rw [HE.out]
    exact answers_none w 13 _

end Go.Proofs.YtcpaonjidioclaaDoor
