/-
  THE WALKS OF THE DOCUMENT's natural, whole, row, value.
-/
import Derived.Test.YtnjgaibcpcpmcaaDoorVMath
import Derived.Test.YtnjgaibcpcpmcaaDoorKRead
import Derived.Test.YtnjgaibcpcpmcaaDoorKText
import Derived.Test.YtnjgaibcpcpmcaaDoorKRefChk
namespace Go.Proofs.YtnjgaibcpcpmcaaDoor
open Go.RowKit Go.Sort Go.Shelf

theorem one_string (w : World) (q : Nat) : (convert 44 9 (.slice (some ⟨w.heap.size, 0, none⟩) 1 1)).run Tryd.prog (w.alloc (.cells #[.int .u8 (48 + (q : Int) % 10)] 5)) =
    .ok (.string ⟨[UInt8.ofNat (48 + q % 10)].toArray⟩) (w.alloc (.cells #[.int .u8 (48 + (q : Int) % 10)] 5)) := by
  refine run_convert_bytes_back (P := Tryd.prog) _ 44 9 5 ⟨w.heap.size, 0, none⟩ 1 [UInt8.ofNat (48 + q % 10)] Tryd.underlying44 Tryd.underlying5 Tryd.underlying9 ?_
  intro j hj
  obtain rfl : j = 0 := by simp at hj; omega
  have e : (⟨w.heap.size, 0, none⟩ : Addr).add 0 = ⟨w.heap.size, 0, none⟩ := rfl
  rw [e, World.cell?_alloc_at _ _ _ _ rfl]
  simp only [List.getElem_cons_zero, Dec.digit_toNat (q % 10) (by omega)]
  simp
theorem cat1 (c : UInt8) (l : List UInt8) : (ByteArray.mk #[c] ++ ByteArray.mk l.toArray) = ByteArray.mk (c :: l).toArray := by
  have := ByteArray.mk_append_mk [c] l
  simpa using this
theorem d48 (x : Nat) : (48 : UInt8) + UInt8.ofNat x = UInt8.ofNat (48 + x) := by rw [UInt8.ofNat_add]; rfl

/-- what the loop of natural holds -/
def Nt (u q : Nat) (l : List UInt8) : Prop := (q < 10 → l = Lib.decDigits u) ∧ (10 ≤ q → Lib.decDigits (q / 10) ++ l = Lib.decDigits u)
theorem Nt.start (u : Nat) : Nt u u [UInt8.ofNat (48 + u % 10)] := by
  constructor
  · intro h; rw [Lib.decDigits_one h, show u % 10 = u by omega]
  · intro h; rw [Dec.decDigits_rec u (by omega)]
theorem Nt.step {u q : Nat} {l : List UInt8} (h : Nt u q l) (hq : 10 ≤ q) : Nt u (q / 10) (UInt8.ofNat (48 + q / 10 % 10) :: l) := by
  have h2 := h.2 hq
  constructor
  · intro h1
    rw [Lib.decDigits_one h1] at h2
    rw [← h2, show q / 10 % 10 = q / 10 by omega]; rfl
  · intro h1
    rw [Dec.decDigits_rec (q / 10) (by omega), List.append_assoc] at h2
    exact h2
theorem Nt.le {u q : Nat} {l : List UInt8} (h : Nt u q l) (hu : u ≤ 9223372036854775808) : l.length ≤ 19 := by
  have hl := Dec.len_digits u hu
  by_cases hq : q < 10
  · rw [h.1 hq]; exact hl
  · have := h.2 (by omega)
    rw [← this, List.length_append] at hl; omega

set_option maxHeartbeats 1000000 in
theorem natural_any (w : World) (u : Nat) (hu : u ≤ 9223372036854775808) :
    Calls Tryd.prog 12 #[.int .u64 (u : Int)] w fun e w' => e = .returned (.string ⟨(Lib.decDigits u).toArray⟩) ∧ ∃ q os, w' = grow (w.drewN q) os := by
  have hst := one_string
  go_enter Tryd.func12, Tryd.ntmps12
  go_wp2
  go_loopw [0, 3] (fun r s wr => ∃ (q : Nat) (l : List UInt8), r = .int .u64 (q : Int) ∧ s = .string ⟨l.toArray⟩ ∧ q ≤ u ∧ Hid (Nt u q l) ∧ Hid (Grew w wr)) (fun r _ _ => (intOf r).toNat)
  case atStart => exact ⟨u, [UInt8.ofNat (48 + u % 10)], rfl, by first | rfl | rw [d48] | (rw [d48]; rfl), Nat.le_refl _, Nt.start u, (Grew.refl _).alloc _⟩
  case round =>
    obtain ⟨q, l, rfl, rfl, hq, ht, hg⟩ := hrel
    have hl := ht.out.le hu
    by_cases h9 : 10 ≤ q
    · have h9' : (9 : Int) < (q : Int) := by omega
      have hs : ¬ ((ByteArray.mk #[UInt8.ofNat (48 + q / 10 % 10)]).size + (ByteArray.mk l.toArray).size > 9223372036854775807) := by rw [sz]; simp [ByteArray.size]; omega
      have hst2 := fun w => one_string w (q / 10)
      rw [show ((q / 10 : Nat) : Int) = (q : Int) / 10 by omega] at hst2
      clear hst
      go_wp2
      go_roundw
      case rel => exact ⟨q / 10, UInt8.ofNat (48 + q / 10 % 10) :: l, by go_num, by first | rw [d48, cat1] | rw [cat1], by omega, ht.out.step h9, hg.out.alloc _⟩
      case measure => simp [intOf]; omega
    · have h9' : ¬ (9 : Int) < (q : Int) := by omega
      have HL : Hid (l = Lib.decDigits u) := ht.out.1 (by omega)
      go_wp2
      go_ret
      exact ⟨by rw [← HL.out]; rfl, hg.out⟩

theorem whole_neg (n : Int) (h : In64 n) (h0 : n < 0) : IntKind.u64.wrap (-(IntKind.u64.wrap n)) = ((n.natAbs : Nat) : Int) := by
  obtain ⟨h1, h2⟩ := h
  rw [IntKind.wrap_u64, IntKind.wrap_u64]; omega
set_option maxHeartbeats 1000000 in
theorem whole_any (w : World) (n : Int) (h : In64 n) :
    Calls Tryd.prog 13 #[.int .i64 n] w fun e w' => e = .returned (.string ⟨(Lib.itoa n).toArray⟩) ∧ ∃ q os, w' = grow (w.drewN q) os := by
  have hb := h
  obtain ⟨h1, h2⟩ := hb
  by_cases h0 : n < 0
  · have hw := whole_neg n h h0
    have HN : Hid _ := natural_any w n.natAbs (by omega)
    have HI : Hid (Lib.itoa n = 45 :: Lib.decDigits n.natAbs) := itoa_neg n h0
    have hl := Dec.len_digits n.natAbs (by omega)
    have hs : ¬ ((ByteArray.mk #[45]).size + (ByteArray.mk (Lib.decDigits n.natAbs).toArray).size > 9223372036854775807) := by rw [sz]; simp [ByteArray.size]; omega
    have hc := cat1 45 (Lib.decDigits n.natAbs)
    generalize Lib.decDigits n.natAbs = D at *
    generalize n.natAbs = m at *
    go_enter Tryd.func13, Tryd.ntmps13
    go_wp2_with fail
    refine Calls.mono HN.out ?_
    rintro e w1 ⟨rfl, hg⟩
    go_wp2
    go_ret
    exact ⟨by rw [HI.out]; first | rfl | simp [hc], hg⟩
  · have HN : Hid _ := natural_any w n.toNat (by omega)
    rw [show ((n.toNat : Nat) : Int) = n by omega] at HN
    have HI : Hid (Lib.itoa n = Lib.decDigits n.toNat) := itoa_pos n (by omega)
    generalize Lib.decDigits n.toNat = D at *
    go_enter Tryd.func13, Tryd.ntmps13
    go_wp2_with fail
    refine Calls.mono HN.out ?_
    rintro e w1 ⟨rfl, hg⟩
    go_wp2
    go_ret
    exact ⟨by rw [HI.out]; rfl, hg⟩

set_option maxHeartbeats 1000000 in
theorem row_any (w : World) (s : ByteArray) (f : Nat) (hs : s.size ≤ 281474976710656) (hf : f ≤ s.size) :
    Calls Tryd.prog 17 #[.string s, .int .i64 (f : Int)] w fun e w' => e = .returned (.int .i64 (run s.data.toList f : Int)) ∧ w' = w := by
  have hr := run_le s.data.toList f
  rw [len_list] at hr
  go_enter Tryd.func17, Tryd.ntmps17
  go_wp2
  go_loop [5] (fun x => ∃ k : Nat, k ≤ run s.data.toList f ∧ x = .int .i64 (k : Int)) (fun x => s.size - (intOf x).toNat)
  case atStart => exact ⟨0, Nat.zero_le _, by simp⟩
  case round =>
    obtain ⟨k, hk, rfl⟩ := hrel
    have hi : ((f : Int) + (k : Int)).toNat = f + k := by omega
    by_cases hlt : k < run s.data.toList f
    · obtain ⟨c, hc, hd⟩ := (run_lt _ f k hk).1 hlt
      have hsz : f + k < s.size := by omega
      rw [at_some s (f + k) hsz] at hc
      obtain ⟨d1, d2⟩ := (isD_iff c).1 hd
      obtain rfl := Option.some.inj hc
      have e1 : (48 : Int) ≤ (s[f + k].toNat : Int) := by omega
      have e2 : (s[f + k].toNat : Int) ≤ 57 := by omega
      have hlt' : (f : Int) + (k : Int) < (s.size : Int) := by omega
      clear hc hd
      go_wp2
      go_round
      case rel => exact ⟨k + 1, by omega, by go_num⟩
      case measure => simp [intOf]; omega
    · obtain rfl : k = run s.data.toList f := by omega
      have hno : ¬ ∃ c, s.data.toList[f + run s.data.toList f]? = some c ∧ isD c = true := run_end _ f
      have hx : decide ((f : Int) + (run s.data.toList f : Int) < (s.size : Int)) = false ∨ ∃ h : f + run s.data.toList f < s.size, decide ((48 : Int) ≤ (s[f + run s.data.toList f].toNat : Int)) = false ∨ ((48 : Int) ≤ (s[f + run s.data.toList f].toNat : Int) ∧ decide ((s[f + run s.data.toList f].toNat : Int) ≤ 57) = false) := by
        by_cases h : f + run s.data.toList f < s.size
        · refine .inr ⟨h, ?_⟩
          have h2 : ¬ isD s[f + run s.data.toList f] = true := fun hd => hno ⟨_, at_some s _ h, hd⟩
          rw [isD_iff] at h2
          by_cases h48 : 48 ≤ s[f + run s.data.toList f].toNat
          · exact .inr ⟨by omega, by simp; omega⟩
          · exact .inl (by simp; omega)
        · exact .inl (by simp; omega)
      clear hno hlt
      generalize hR : run s.data.toList f = R at *
      have HR : Hid _ := hR
      clear hR
      rcases hx with hx | ⟨h, hx | ⟨hx1, hx⟩⟩
      · go_wp2
        go_ret
        exact ⟨by rw [HR.out]; rfl, rfl⟩
      · have hlt' : (f : Int) + (R : Int) < (s.size : Int) := by omega
        go_wp2
        go_ret
        exact ⟨by rw [HR.out]; rfl, rfl⟩
      · have hlt' : (f : Int) + (R : Int) < (s.size : Int) := by omega
        go_wp2
        go_ret
        exact ⟨by rw [HR.out]; rfl, rfl⟩

def vOk (A : List UInt8) : Bool := decide (val A ≤ 9223372036854775808)
def vN (A : List UInt8) : Nat := if val A ≤ 9223372036854775808 then val A else 0
set_option maxHeartbeats 1000000 in
theorem value_any (w : World) (s : ByteArray) (hs : s.size ≤ 281474976710656) (hA : ∀ c ∈ s.data.toList, isD c = true) :
    Calls Tryd.prog 18 #[.string s] w fun e w' => e = .returned (.tuple #[.int .u64 (vN s.data.toList : Int), .bool (vOk s.data.toList)]) ∧ w' = w := by
  have HM : Hid (∀ k, val (s.data.toList.take k) ≤ val s.data.toList) := val_mono _
  have HL : Hid (s.data.toList.take s.size = s.data.toList) := by rw [Hid, List.take_of_length_le (by rw [len_list]; exact Nat.le_refl _)]
  go_enter Tryd.func18, Tryd.ntmps18
  go_wp2
  go_loop [4, 5] (fun x y => ∃ k : Nat, k ≤ s.size ∧ y = .int .i64 (k : Int) ∧ x = .int .u64 (val (s.data.toList.take k) : Int) ∧ val (s.data.toList.take k) ≤ 9223372036854775808) (fun _ y => s.size - (intOf y).toNat)
  case atStart => exact ⟨0, Nat.zero_le _, rfl, rfl, by simp [val]⟩
  case round =>
    obtain ⟨k, hk, rfl, rfl, hv⟩ := hrel
    by_cases hlt : k < s.size
    · have hd : isD s[k] = true := hA _ (List.mem_of_getElem? (at_some s k hlt))
      obtain ⟨d1, d2⟩ := (isD_iff _).1 hd
      have HT : Hid (val (s.data.toList.take (k + 1)) = 10 * val (s.data.toList.take k) + (s[k].toNat - 48)) := by
        have hl : k < s.data.toList.length := by rw [len_list]; exact hlt
        rw [Hid, List.take_succ_eq_append_getElem hl, val_snoc]; rfl
      have e1 : (48 : Int) ≤ (s[k].toNat : Int) := by omega
      have e2 : (s[k].toNat : Int) ≤ 57 := by omega
      have HK : Hid _ := HM.out (k + 1)
      clear hd hA
      by_cases hc : 10 * val (s.data.toList.take k) + (s[k].toNat - 48) ≤ 9223372036854775808
      · have hc' : ¬ ((9223372036854775808 - ((s[k].toNat : Int) - 48)) / 10 < (val (s.data.toList.take k) : Int)) := by omega
        generalize val (s.data.toList.take k) = n at *
        go_wp2
        go_round
        case rel =>
          refine ⟨k + 1, by omega, by go_num, ?_, by rw [HT.out]; omega⟩
          rw [HT.out]
          congr 1
          omega
        case measure => simp [intOf]; omega
      · have hc' : (9223372036854775808 - ((s[k].toNat : Int) - 48)) / 10 < (val (s.data.toList.take k) : Int) := by omega
        have HE : Hid (vN s.data.toList = 0 ∧ vOk s.data.toList = false) := by
          have h1 := HK.out; have h2 := HT.out
          unfold vN vOk
          rw [Hid, if_neg (by omega)]
          exact ⟨rfl, by simp; omega⟩
        generalize val (s.data.toList.take k) = n at *
        go_wp2
        go_ret2
        exact ⟨by rw [HE.out.1, HE.out.2]; rfl, rfl⟩
    · obtain rfl : k = s.size := by omega
      rw [HL.out] at hv ⊢
      have HE : Hid (vN s.data.toList = val s.data.toList ∧ vOk s.data.toList = true) := by
        unfold vN vOk; rw [Hid, if_pos hv]; exact ⟨rfl, by simpa using hv⟩
      generalize val s.data.toList = n at *
      go_wp2
      go_ret2
      exact ⟨by rw [HE.out.1, HE.out.2]; rfl, rfl⟩

end Go.Proofs.YtnjgaibcpcpmcaaDoor
