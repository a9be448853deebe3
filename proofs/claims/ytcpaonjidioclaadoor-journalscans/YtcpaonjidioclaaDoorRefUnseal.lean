/-
  THE WALK OF preluderef01.Unseal.
-/
import Derived.Test.YtcpaonjidioclaaDoorRefRec
namespace Go.Proofs.YtcpaonjidioclaaDoor
open Go.RowKit

theorem un4_take (L : List Nat) : Rec.un4 (L.take 4) = Rec.un4 L := by
  simp [Rec.un4, List.getD_eq_getElem?_getD]
theorem wraps2 (place l : Nat) (h : place + l ≤ 140737488355328) : IntKind.i64.wrap (IntKind.i64.wrap ((place : Int) + (l : Int)) + 13) = (place : Int) + (l : Int) + 13 := by
  rw [wrap_i64_in ((place : Int) + (l : Int)) (by omega) (by omega), wrap_i64_in _ (by omega) (by omega)]

set_option maxHeartbeats 1000000 in
theorem refUnseal_cells (w : World) (b off c m : Nat) (place : Nat) (C : List Nat) (hn : m + 9 = C.length) (h : BytesAt w (some ⟨b, off + place, none⟩) C) (_hm : place + m + 9 ≤ 140737488351232) (hcap : m ≤ c) (hcm : place + (c + 9) ≤ maxLen) :
    Calls Tryd.prog 10 #[.slice (some ⟨b, off, none⟩) (place + (m + 9)) (place + (c + 9)), .int .i64 (place : Int)] w fun e w' => Answers w (openC C place) e w' := by
  have HN : Hid (m + 9 = C.length) := hn
  have HA : Hid (BytesAt w (some ⟨b, off + place, none⟩) C) := h
  unfold maxLen at hcm
  have h2 : ¬ (place + (c + 9) = place) := by omega
  have h3 : (5 : Int) ≤ ((c + 9 : Nat) : Int) := by omega
  have h9 : (9 : Int) ≤ ((c + 9 : Nat) : Int) := by omega
  clear hn h
  have HH : Hid (BytesAt w (some ⟨b, off + place, none⟩) (C.take 5)) := HA.out.take 5
  have HR : Hid (BytesAt w (some ⟨b, off + place + 5, none⟩) ((C.drop 5).take 4)) := (HA.out.drop 5).take 4
  have H1 : Hid (BytesAt w (some ⟨b, off + place + 1, none⟩) ((C.drop 1).take 4)) := (HA.out.drop 1).take 4
  have L5 : Hid (5 = (C.take 5).length) := by rw [Hid, List.length_take, ← HN.out]; omega
  have LR : Hid (4 = ((C.drop 5).take 4).length) := by rw [Hid, List.length_take, List.length_drop, ← HN.out]; omega
  have L1 : Hid (4 = ((C.drop 1).take 4).length) := by rw [Hid, List.length_take, List.length_drop, ← HN.out]; omega
  have hLl : Rec.un4 (C.drop 1) < 4294967296 := Rec.un4_lt fun z hz => HA.out.1 z (List.mem_of_mem_drop hz)
  go_enter Tryd.func10, Tryd.ntmps10
  go_wp2
  go_quiet (first | (go_at_call 14; exact Calls.quiet_of_same (refSum_any _ _ _ _ (C.take 5) L5.out (HH.out.drewN _) (by rw [← L5.out]; simp [maxLen]))) | (go_at_call 15; exact Calls.quiet_of (word_any _ _ _ _ ((C.drop 5).take 4) LR.out (HR.out.drewN _) (by omega))))
  rw [un4_take]
  generalize hq : w.drewN nq = w1
  have HW1 : Hid (w.drewN nq = w1) := hq
  have H11 : Hid (BytesAt w1 (some ⟨b, off + place + 1, none⟩) ((C.drop 1).take 4)) := by rw [← hq]; exact H1.out
  clear hq
  by_cases t1 : Crc.sum (C.take 5) = Rec.un4 (C.drop 5)
  · have hT1 : (((Crc.sum (C.take 5) : Nat) : Int) != ((Rec.un4 (C.drop 5) : Nat) : Int)) = false := by rw [t1]; simp
    have HT1 : Hid (Crc.sum (C.take 5) = Rec.un4 (C.drop 5)) := t1
    clear t1
    go_wp2_with fail
    refine (word_any w1 _ _ _ ((C.drop 1).take 4) L1.out H11.out (by omega)).mono ?_
    rintro e w3 ⟨rfl, q3, hq3⟩
    rw [un4_take]
    have EO : Hid (openC C place = if 16777216 < Rec.un4 (C.drop 1) then (0, [], 0, 12) else if C.length < Rec.un4 (C.drop 1) + 13 then (0, [], 0, 10) else
        if Crc.sum ((C.drop 9).take (Rec.un4 (C.drop 1))) ≠ Rec.un4 (C.drop (9 + Rec.un4 (C.drop 1))) then (0, [], 0, 13) else
        (C.getD 0 0, (C.drop 9).take (Rec.un4 (C.drop 1)), (place : Int) + Rec.un4 (C.drop 1) + 13, 0)) := by
      unfold openC; rw [Hid, if_neg (by rw [HT1.out]; simp)]
    have HW3 : Hid (w3 = w.drewN (nq + q3)) := by rw [Hid, hq3, ← HW1.out, World.drewN_drewN]
    clear HT1 hT1 HH HR H1 H11 L5 LR L1 hq3 HW1
    generalize nq + q3 = q at *
    generalize Rec.un4 (C.drop 1) = l at *
    by_cases t2 : 16777216 < l
    · have hT2 : (16777216 : Int) < (l : Int) := by omega
      have HE : Hid (openC C place = (0, [], 0, 12)) := by rw [Hid, EO.out, if_pos t2]
      clear t2
      go_wp2
      refine bodyPost_ret (v := .tuple #[.int .u8 0, .slice none 0 0, .int .i64 0, .int .i64 12]) (by simp [results, Tryd.results10, go_sem]) rfl ?_
      rw [HE.out, HW3.out]
      exact answers_none w 12 _
    · have hT2 : ¬ (16777216 : Int) < (l : Int) := by omega
      by_cases t3 : m < l + 4
      · have hT3 : (m : Int) + 9 < (l : Int) + 13 := by omega
        have HE : Hid (openC C place = (0, [], 0, 10)) := by rw [Hid, EO.out, if_neg t2, if_pos (by rw [← HN.out]; omega)]
        clear t2 t3
        go_wp2
        refine bodyPost_ret (v := .tuple #[.int .u8 0, .slice none 0 0, .int .i64 0, .int .i64 10]) (by simp [results, Tryd.results10, go_sem]) rfl ?_
        rw [HE.out, HW3.out]
        exact answers_none w 10 _
      · have hT3 : ¬ (m : Int) + 9 < (l : Int) + 13 := by omega
        have hc0 : ¬ (c = 0) := by omega
        have hc9 : ¬ (c + 9 = 9) := by omega
        have HLd : Hid (BytesAt w3 (some ⟨b, off + place + 9, none⟩) ((C.drop 9).take l)) := by rw [HW3.out]; exact (HA.out.drop 9).take _
        have HLs : Hid (BytesAt w3 (some ⟨b, off + place + (9 + l), none⟩) ((C.drop (9 + l)).take 4)) := by rw [HW3.out]; exact (HA.out.drop (9 + l)).take 4
        have LL : Hid (l = ((C.drop 9).take l).length) := by rw [Hid, List.length_take, List.length_drop, ← HN.out]; omega
        have LS : Hid (4 = ((C.drop (9 + l)).take 4).length) := by rw [Hid, List.length_take, List.length_drop, ← HN.out]; omega
        have H0 : w3.cell? ⟨b, off + place, none⟩ = some (.int .u8 ((C.getD 0 0 : Nat) : Int)) := by
          rw [HW3.out]
          obtain ⟨_, h0 | ⟨b', o', e, hc⟩⟩ := HA.out
          · have := HN.out; rw [h0] at this; simp at this
          · cases e; exact hc 0 (by rw [← HN.out]; omega)
        have HE : Hid (openC C place = if Crc.sum ((C.drop 9).take l) ≠ Rec.un4 (C.drop (9 + l)) then (0, [], 0, 13) else (C.getD 0 0, (C.drop 9).take l, (place : Int) + l + 13, 0)) := by
          rw [Hid, EO.out, if_neg t2, if_neg (by rw [← HN.out]; omega)]
        have hl24 : l ≤ 16777216 := by omega
        have hl4 : l + 4 ≤ m := by omega
        have hcl : ¬ (c + 9 = 9 + l) := by omega
        have hz0 : C.getD 0 0 < 256 := Rec.getD_lt HA.out.1 0
        have hw9 : IntKind.i64.wrap (9 + (l : Int)) = ((9 + l : Nat) : Int) := by rw [IntKind.wrap_i64]; omega
        have hw13 : IntKind.i64.wrap (13 + (l : Int)) = ((13 + l : Nat) : Int) := by rw [IntKind.wrap_i64]; omega
        have hs2 : (9 : Int) + (l : Int) ≤ (c : Int) + 9 := by omega
        have hs3 : (13 : Int) + (l : Int) ≤ (c : Int) + 9 := by omega
        have hs4 : (9 : Int) + (l : Int) ≤ 13 + (l : Int) := by omega
        have hs5 : (9 : Int) ≤ 9 + (l : Int) := by omega
        have ht9 : ((9 : Int) + (l : Int)).toNat = 9 + l := by omega
        have ht13 : ((13 : Int) + (l : Int)).toNat = 13 + l := by omega
        have hd4 : 13 + l - (9 + l) = 4 := by omega
        clear t2 t3 EO HA hLl
        go_wp2
        go_quiet (first | (go_at_call 14; exact Calls.quiet_of_same (refSum_any _ _ _ _ ((C.drop 9).take l) LL.out (HLd.out.drewN _) (by rw [← LL.out]; unfold maxLen; omega))) | (go_at_call 15; exact Calls.quiet_of (word_any _ _ _ _ ((C.drop (9 + l)).take 4) LS.out (HLs.out.drewN _) (by omega))))
        rw [un4_take]
        have HW4 : Hid (w3.drewN nq = w.drewN (q + nq)) := by rw [HW3.out, World.drewN_drewN]; rfl
        have HLd4 : Hid (BytesAt (w3.drewN nq) (some ⟨b, off + place + 9, none⟩) ((C.drop 9).take l)) := HLd.out
        have H04 : (w3.drewN nq).cell? ⟨b, off + place, none⟩ = some (.int .u8 ((C.getD 0 0 : Nat) : Int)) := H0
        generalize w3.drewN nq = w4 at *
        generalize C.getD 0 0 = z0 at *
        generalize (C.drop 9).take l = load at *
        clear H0 HLd HLs LS HW3
        by_cases t4 : Crc.sum load = Rec.un4 (C.drop (9 + l))
        · have hT4 : (((Crc.sum load : Nat) : Int) != ((Rec.un4 (C.drop (9 + l)) : Nat) : Int)) = false := by rw [t4]; simp
          have HE' : Hid (openC C place = (z0, load, (place : Int) + l + 13, 0)) := by rw [Hid, HE.out, if_neg (by rw [t4]; simp)]
          have HB4 : Hid (Below w.heap.size w w4) := by rw [HW4.out]; exact below_drewN (Below.refl _ _) _
          have hbl : b < w4.heap.size := World.block_lt_of_cell? w4 ⟨b, off + place, none⟩ H04
          have HS4 : Hid (w4.heap.size = w.heap.size) := by rw [HW4.out]; rfl
          clear t4 HE
          go_wp2_with (at_builtin; refine wpList_append_bytes rfl _ _ rfl w.heap.size (.slice none 0 0) [] rfl (OwnB.nil _ _) _ _ _ load rfl LL.out HLd4.out (by simp) (by rw [← LL.out]; simp; omega) HB4.out.size ?_; intro v5 w5 hown5 hgrow5; have HO5 : Hid (OwnB w5 w.heap.size v5 load) := hown5; have HB5 : Hid (Below w.heap.size w w5) := HB4.out.grown hgrow5 HB4.out.size (by intro k hk; simp [Value.ownBlock] at hk); have H05 : w5.cell? ⟨b, off + place, none⟩ = some (.int .u8 (z0 : Int)) := hgrow5.cell H04 (by simp [Value.ownBlock]); clear hown5 hgrow5)
          refine bodyPost_ret (v := .tuple #[.int .u8 (z0 : Int), v5, .int .i64 ((place : Int) + (l : Int) + 13), .int .i64 0]) ?_ rfl ?_
          · simp [results, Tryd.results10, go_sem]
          · rw [HE'.out]
            exact ⟨v5, rfl, HO5.out, HB5.out⟩
        · have hT4 : (((Crc.sum load : Nat) : Int) != ((Rec.un4 (C.drop (9 + l)) : Nat) : Int)) = true := by rw [bne_iff_ne]; omega
          have HE' : Hid (openC C place = (0, [], 0, 13)) := by rw [Hid, HE.out, if_pos t4]
          clear t4 HE
          go_wp2
          refine bodyPost_ret (v := .tuple #[.int .u8 0, .slice none 0 0, .int .i64 0, .int .i64 13]) (by simp [results, Tryd.results10, go_sem]) rfl ?_
          rw [HE'.out, HW4.out]
          exact answers_none w 13 _
  · have hT1 : (((Crc.sum (C.take 5) : Nat) : Int) != ((Rec.un4 (C.drop 5) : Nat) : Int)) = true := by rw [bne_iff_ne]; omega
    have HE : Hid (openC C place = (0, [], 0, 13)) := by unfold openC; rw [Hid, if_pos t1]
    clear t1
    go_wp2
    refine bodyPost_ret (v := .tuple #[.int .u8 0, .slice none 0 0, .int .i64 0, .int .i64 13]) (by simp [results, Tryd.results10, go_sem]) rfl ?_
    rw [HE.out, ← HW1.out]
    exact answers_none w 13 _

theorem refUnseal_out (w : World) (ao : Option Addr) (cap n : Nat) (place : Int) (h : place < 0 ∨ (n : Int) < place) :
    Calls Tryd.prog 10 #[.slice ao n cap, .int .i64 place] w fun e w' => Answers w (0, [], 0, 11) e w' := by
  by_cases h0 : place < 0
  · have hd : decide (place < 0) = true := by simpa using h0
    go_enter Tryd.func10, Tryd.ntmps10
    go_wp2
    refine bodyPost_ret (v := .tuple #[.int .u8 0, .slice none 0 0, .int .i64 0, .int .i64 11]) (by simp [results, Tryd.results10, go_sem]) rfl ?_
    exact answers_none w 11 0
  · have hd : decide (place < 0) = false := by simpa using h0
    have h1 : (n : Int) < place := by omega
    clear h
    go_enter Tryd.func10, Tryd.ntmps10
    go_wp2
    refine bodyPost_ret (v := .tuple #[.int .u8 0, .slice none 0 0, .int .i64 0, .int .i64 11]) (by simp [results, Tryd.results10, go_sem]) rfl ?_
    exact answers_none w 11 0

theorem refUnseal_short (w : World) (ao : Option Addr) (c m place : Nat) (hm : m < 9) (hc : m ≤ c) (hp : place + c ≤ maxLen) (hnil : ao = none → place + c = 0) :
    Calls Tryd.prog 10 #[.slice ao (place + m) (place + c), .int .i64 (place : Int)] w fun e w' => Answers w (0, [], 0, 10) e w' := by
  unfold maxLen at hp
  cases ao with
  | none =>
    have h0 := hnil rfl
    obtain rfl : place = 0 := by omega
    obtain rfl : m = 0 := by omega
    obtain rfl : c = 0 := by omega
    clear hnil h0
    go_enter Tryd.func10, Tryd.ntmps10
    go_wp2
    refine bodyPost_ret (v := .tuple #[.int .u8 0, .slice none 0 0, .int .i64 0, .int .i64 10]) (by simp [results, Tryd.results10, go_sem]) rfl ?_
    exact answers_none w 10 0
  | some a =>
    clear hnil
    go_enter Tryd.func10, Tryd.ntmps10
    by_cases h0 : c = 0
    · subst h0
      go_wp2
      refine bodyPost_ret (v := .tuple #[.int .u8 0, .slice none 0 0, .int .i64 0, .int .i64 10]) (by simp [results, Tryd.results10, go_sem]) rfl ?_
      exact answers_none w 10 0
    · have h0' : ¬ (place + c = place) := by omega
      go_wp2
      refine bodyPost_ret (v := .tuple #[.int .u8 0, .slice none 0 0, .int .i64 0, .int .i64 10]) (by simp [results, Tryd.results10, go_sem]) rfl ?_
      exact answers_none w 10 0

theorem refUnseal_any (w : World) (ao : Option Addr) (cap n : Nat) (place : Int) (zs : List Nat) (hn : n = zs.length) (h : BytesAt w ao zs) (hm : n ≤ 140737488351232) (hcap : n ≤ cap) (hmax : cap ≤ maxLen) (hnil : ao = none → cap = 0) :
    Calls Tryd.prog 10 #[.slice ao n cap, .int .i64 place] w fun e w' => Answers w (Rec.opened zs place) e w' := by
  by_cases hout : place < 0 ∨ (n : Int) < place
  · rw [opened_out zs place (by rw [← hn]; exact hout)]
    exact refUnseal_out w ao cap n place hout
  · obtain ⟨p, rfl⟩ := Int.eq_ofNat_of_zero_le (show 0 ≤ place by omega)
    have hpn : p ≤ n := by omega
    by_cases h9 : n < p + 9
    · rw [opened_short zs p (by omega) (by omega), show n = p + (n - p) by omega, show cap = p + (cap - p) by omega]
      exact refUnseal_short w ao (cap - p) (n - p) p (by omega) (by omega) (by omega) (fun e => by have := hnil e; omega)
    · rw [opened_in zs p (by omega)]
      obtain ⟨hz, rfl | ⟨b, off, rfl, hc⟩⟩ := h
      · simp at hn; omega
      · have hb : BytesAt w (some ⟨b, off, none⟩) zs := ⟨hz, .inr ⟨b, off, rfl, hc⟩⟩
        have := refUnseal_cells w b off (cap - p - 9) (n - p - 9) p (zs.drop p) (by rw [List.length_drop]; omega) (hb.drop p) (by omega) (by omega) (by omega)
        rw [show p + (n - p - 9 + 9) = n by omega, show p + (cap - p - 9 + 9) = cap by omega] at this
        exact this

end Go.Proofs.YtcpaonjidioclaaDoor
