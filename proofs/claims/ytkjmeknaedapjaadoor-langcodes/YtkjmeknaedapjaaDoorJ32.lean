import Derived.Test.YtkjmeknaedapjaaDoorJ29
import Derived.Test.YtkjmeknaedapjaaDoorJ30
import Derived.Test.YtkjmeknaedapjaaDoorJ31
/-
  THE WALK OF LangCodes.
-/
namespace Go.Proofs.YtkjmeknaedapjaaDoor
open Go.RowKit Go.Sort

/-- the library's copy -/
theorem libcopy {w w2 : World} {ao : Option Addr} {n g : Nat} {Ps Qs : List Pr} (h : LibAt w ao Ps) (hn : n = Ps.length) (hrow : RowP w2 g Qs) (hlen : Qs.length = n + 1) (hcop : ∀ i, i < n → ∃ G, pd Qs i = cpP (pd Ps i) G ∧ KeysAt w2 (some ⟨G, 0, none⟩) (pd Ps i).L) :
    LibAt w2 (some ⟨g, 0, none⟩) (Qs.take n) ∧ (Qs.take n).map core = Ps.map core ∧ n = (Qs.take n).length := by
  have hTl : (Qs.take n).length = n := by rw [List.length_take, hlen]; omega
  have hget : ∀ i (hi : i < (Qs.take n).length), ∃ G, (Qs.take n)[i] = cpP (pd Ps i) G ∧ KeysAt w2 (some ⟨G, 0, none⟩) (pd Ps i).L := fun i hi => by
    have hi' : i < n := by omega
    obtain ⟨G, e, hk⟩ := hcop i hi'
    refine ⟨G, ?_, hk⟩
    rw [← e, ← pd_takeD Qs i n hi']; simp only [pd, List.getD_eq_getElem?_getD, List.getElem?_eq_getElem hi]; rfl
  refine ⟨⟨hrow.procs.take n, fun x hx => ?_⟩, ?_, hTl.symm⟩
  · obtain ⟨i, hi, rfl⟩ := List.mem_iff_getElem.1 hx
    obtain ⟨G, e2, hk⟩ := hget i hi
    have hp := h.ok _ (pd_mem (Ps := Ps) (j := i) (by omega))
    rw [e2]
    exact ⟨hp.len, hk, hp.nin, hp.kin, (fun e => by cases e), hp.str, hp.big⟩
  · apply List.ext_getElem
    · rw [List.length_map, List.length_map, hTl]; exact hn
    · intro i h1 h2
      have hi1 : i < (Qs.take n).length := by simpa using h1
      have hi2 : i < Ps.length := by simpa using h2
      obtain ⟨G, e2, _⟩ := hget i hi1
      rw [List.getElem_map, List.getElem_map, e2]
      have e3 : pd Ps i = Ps[i] := by simp [pd, List.getD_eq_getElem?_getD, List.getElem?_eq_getElem hi2]
      rw [e3]; rfl

theorem data_shape {W : World} {base n : Nat} {v : Value} {b : List Nat} (h : OwnB W base v (b ++ [99])) (hn : n = b.length) : ∃ gd c, v = .slice (some ⟨gd, 0, none⟩) (n + 1) c ∧ n + 1 ≤ c := by
  rcases h.shape with ⟨_, h0⟩ | ⟨gd, c, e, _, _, hcp, _, _⟩
  · simp at h0
  · rw [List.length_append, ← hn] at e hcp
    exact ⟨gd, c, e, hcp⟩
theorem bytes_prefix {W : World} {ao : Option Addr} {A B : List Nat} (h : BytesAt W ao (A ++ B)) : BytesAt W ao A := by
  obtain ⟨hz, h⟩ := h
  refine ⟨fun z hz' => hz z (by simp [hz']), ?_⟩
  rcases h with h | ⟨g, off, e, hc⟩
  · left; simp at h; exact h.1
  · refine .inr ⟨g, off, e, fun j hj => ?_⟩
    have := hc j (by rw [List.length_append]; omega)
    rw [this, List.getD_eq_getElem?_getD, List.getD_eq_getElem?_getD, List.getElem?_append_left hj]
theorem PrC.mono {W : World} {B B' : Nat} {x : Pr} (h : PrC W B x) (hb : B' ≤ B) : PrC W B' x := ⟨h.len, h.own.mono hb, h.nin, h.kin, h.str, h.big⟩
theorem core_len {b : List Nat} {Q : List Pr} (h : Q.map core = resL b) : (resL b).length = Q.length := by rw [← h]; simp
set_option maxRecDepth 100000 in
set_option maxHeartbeats 4000000 in
theorem codes_walk (w : World) (ao : Option Addr) (n cap : Nat) (Ps : List Pr) (h : LibAt w ao Ps) (hn : n = Ps.length) (hm : n ≤ 140737488351232)
    (ao2 : Option Addr) (n2 cap2 : Nat) (b : List Nat) (h2 : BytesAt w ao2 b) (hn2 : n2 = b.length) (hm2 : n2 ≤ 140737488351232) (hlc2 : n2 ≤ cap2) (hcm2 : cap2 ≤ maxLen) (hnil2 : ao2 = none → cap2 = 0) (ht : TabAt w) :
    Calls Tryd.prog 3 #[.slice ao n cap, .slice ao2 n2 cap2] w fun e w' => e = .returned (.bool true) ∧ Below w.heap.size w w' := by
  have H : Hid (LibAt w ao Ps) := h
  have HN : Hid (n = Ps.length) := hn
  have H2 : Hid (BytesAt w ao2 b) := h2
  have HN2 : Hid (n2 = b.length) := hn2
  have HT : Hid (TabAt w) := ht
  have HNi : Hid (ao2 = none → cap2 = 0) := hnil2
  clear h hn h2 hn2 ht hnil2
  go_enter Tryd.func3, Tryd.ntmps3
  go_wp2_with fail
  refine (wide_any w ao n cap Ps H.out HN.out hm).mono ?_
  rintro e w1 ⟨⟨bw, rfl, hb⟩, rfl⟩
  cases bw with
  | true =>
    go_wp2
    go_ret
    exact ⟨rfl, Below.refl _ _⟩
  | false =>
    obtain ⟨hm1, _⟩ := hb rfl
    clear hb
    go_wp2_with fail
    refine (library_any w1 ao n cap Ps H.out HN.out hm1).mono ?_
    rintro e w2 ⟨⟨g, Qs, rfl, hrow, hlen, hbh, hcop⟩, hb2⟩
    obtain ⟨hl2, hco, hnt⟩ := libcopy H.out HN.out hrow hlen hcop
    have HB2 : Hid (Below w1.heap.size w1 w2) := hb2
    have HR2 : Hid (RowP w2 g Qs) := hrow
    have HLn : Hid (Qs.length = n + 1) := hlen
    have HBh : Hid ((pd Qs n).name = behind) := hbh
    have HL2 : Hid (LibAt w2 (some ⟨g, 0, none⟩) (Qs.take n)) := hl2
    have HCo : Hid ((Qs.take n).map core = Ps.map core) := hco
    have HNt : Hid (n = (Qs.take n).length) := hnt
    have HEn : Hid (encR (Qs.take n) = encR Ps ∧ checkN (Qs.take n) = checkN Ps ∧ digN (Qs.take n) = digN Ps) := ⟨encR_core hco, check_core hco, digN_core hco⟩
    clear hrow hlen hbh hcop hb2 hl2 hco hnt
    go_wp2_with fail
    refine (encode_any w2 _ n (n + 1) (Qs.take n) HL2.out HNt.out (by omega) hm).mono ?_
    rintro e w3 ⟨hp3, hb3⟩
    obtain ⟨a3, c3, he3, ho3⟩ := hp3.opn
    rw [HEn.out.1, HEn.out.2.1] at he3
    rw [HEn.out.1] at ho3
    subst he3
    have HX3 : Hid (OwnB w3 w2.heap.size (.slice a3 (encR Ps).length c3) (encR Ps)) := ho3
    have HB3 : Hid (Below w2.heap.size w2 w3) := hb3
    clear hp3 hb3 ho3
    go_wp2_with fail
    refine (encode_any w3 _ n (n + 1) (Qs.take n) (HL2.out.kept HB3.out) HNt.out (by omega) hm).mono ?_
    rintro e w4 ⟨hp4, hb4⟩
    obtain ⟨a4, c4, he4, ho4⟩ := hp4.opn
    rw [HEn.out.1, HEn.out.2.1] at he4
    rw [HEn.out.1] at ho4
    subst he4
    have HX4 : Hid (OwnB w4 w2.heap.size (.slice a3 (encR Ps).length c3) (encR Ps)) := HX3.out.kept hb4
    have HSx : Hid (∀ q, (Value.slice a3 (encR Ps).length c3).ownBlock = some q → q < w3.heap.size) := fun q hq => (HX3.out.2.lt q hq).2
    have HY4 : Hid (OwnB w4 w3.heap.size (.slice a4 (encR Ps).length c4) (encR Ps)) := ho4
    have HB4 : Hid (Below w2.heap.size w2 w4) := HB3.out.trans (hb4.mono HB3.out.size)
    have HZ4 : Hid (w3.heap.size ≤ w4.heap.size) := hb4.size
    clear hp4 hb4 ho4 HX3
    go_wp2_with fail
    have HT4 : Hid (TabAt w4) := HT.out.kept (HB2.out.trans (HB4.out.mono HB2.out.size))
    refine (digest_any w4 _ n (n + 1) (Qs.take n) (HL2.out.kept HB4.out) HNt.out (by omega) hm HT4.out).mono ?_
    rintro e w5 ⟨rfl, hb5⟩
    rw [HEn.out.2.1, HEn.out.2.2]
    have HX5 : Hid (OwnB w5 w2.heap.size (.slice a3 (encR Ps).length c3) (encR Ps)) := HX4.out.kept hb5
    have HY5 : Hid (OwnB w5 w3.heap.size (.slice a4 (encR Ps).length c4) (encR Ps)) := HY4.out.kept hb5
    have HB5 : Hid (Below w2.heap.size w2 w5) := HB4.out.trans (hb5.mono HB4.out.size)
    have HZ5 : Hid (w3.heap.size ≤ w5.heap.size) := Nat.le_trans HZ4.out hb5.size
    clear hb5 HX4 HY4 HB4 HT4 HZ4
    go_wp2_with fail
    refine (refEncode_any w5 ao n cap Ps (H.out.kept (HB2.out.trans (HB5.out.mono HB2.out.size))) HN.out hm).mono ?_
    rintro e w6 ⟨v6, rfl, hr6⟩
    obtain ⟨a6, c6, rfl, _, _, _⟩ := hr6.own.slice
    have HX6 : Hid (OwnB w6 w2.heap.size (.slice a3 (encR Ps).length c3) (encR Ps)) := HX5.out.kept hr6.bel
    have HY6 : Hid (OwnB w6 w3.heap.size (.slice a4 (encR Ps).length c4) (encR Ps)) := HY5.out.kept hr6.bel
    have HW6 : Hid (OwnB w6 w3.heap.size (.slice a6 (encR Ps).length c6) (encR Ps)) := hr6.own.mono HZ5.out
    have HB6 : Hid (Below w2.heap.size w2 w6) := HB5.out.trans (hr6.bel.mono HB5.out.size)
    clear hr6 HX5 HY5 HB5
    go_wp2_with fail
    refine (refDigest_any w6 ao n cap Ps (H.out.kept (HB2.out.trans (HB6.out.mono HB2.out.size))) HN.out hm).mono ?_
    rintro e w7 ⟨rfl, hb7⟩
    have HX7 : Hid (OwnB w7 w2.heap.size (.slice a3 (encR Ps).length c3) (encR Ps)) := HX6.out.kept hb7
    have HY7 : Hid (OwnB w7 w3.heap.size (.slice a4 (encR Ps).length c4) (encR Ps)) := HY6.out.kept hb7
    have HW7 : Hid (OwnB w7 w3.heap.size (.slice a6 (encR Ps).length c6) (encR Ps)) := HW6.out.kept hb7
    have HB7 : Hid (Below w2.heap.size w2 w7) := HB6.out.trans (hb7.mono HB6.out.size)
    have HEl : Hid ((encR Ps).length ≤ 300000) := encR_length Ps
    clear hb7 HX6 HY6 HW6 HB6
    generalize (checkN Ps).2 = k2 at *
    generalize digN Ps = dg at *
    generalize encR Ps = E at *
    obtain ⟨el, hel⟩ : ∃ el, el = E.length := ⟨_, rfl⟩
    rw [← hel] at HX7 HY7 HW7 HEl HSx ⊢
    have HEe : Hid (el = E.length) := hel
    have hel2 : el ≤ 300000 := HEl.out
    clear hel
    go_wp2_with fail
    refine (same_any w7 a3 a6 c3 c6 el el E E HEe.out HEe.out HX7.out.bytes.1 HW7.out.bytes.1 (by rw [← HEe.out]; unfold maxLen; omega)).mono ?_
    rintro e w8 ⟨rfl, hq8⟩
    rw [show decide (E = E) = true by simp]
    have HK8 : Hid (Below w7.heap.size w7 w8) := by obtain ⟨q, rfl⟩ := hq8; exact ⟨rfl, rfl, rfl, Nat.le_refl _, fun _ _ => rfl⟩
    clear hq8
    go_wp2_with fail
    refine (same_any w8 a4 a6 c4 c6 el el E E HEe.out HEe.out (HY7.out.kept HK8.out).bytes.1 (HW7.out.kept HK8.out).bytes.1 (by rw [← HEe.out]; unfold maxLen; omega)).mono ?_
    rintro e w9 ⟨rfl, hq9⟩
    rw [show decide (E = E) = true by simp]
    have HK9 : Hid (Below w7.heap.size w7 w9) := by obtain ⟨q, rfl⟩ := hq9; exact HK8.out.trans ⟨rfl, rfl, rfl, Nat.le_refl _, fun _ _ => rfl⟩
    clear hq9 HK8
    go_wp2_with fail
    have hA := HL2.out.kept (HB7.out.trans (HK9.out.mono HB7.out.size))
    have hP := H.out.kept (HB2.out.trans ((HB7.out.trans (HK9.out.mono HB7.out.size)).mono HB2.out.size))
    refine (sameLibrary_eq w9 (some ⟨g, 0, none⟩) ao n (n + 1) cap (Qs.take n) Ps hA.at_ hP.at_ HN.out HNt.out hm (fun i hi => like_core HCo.out _ hA.ok hP.ok i (by rw [← HN.out]; exact hi))).mono ?_
    rintro e w10 ⟨rfl, hg10⟩
    have HK10 : Hid (Below w7.heap.size w7 w10) := HK9.out.trans ((Grew.below hg10).mono HK9.out.size)
    obtain ⟨_, _, e, s0, _⟩ := (HR2.out.kept (HB7.out.trans (HK10.out.mono HB7.out.size))).procs.get n (by have := HLn.out; omega)
    cases e
    rw [HBh.out, Nat.zero_add] at s0
    have hqb : (behind.toList == [98, 101, 104, 105, 110, 100]) = true := by decide +kernel
    unfold behind at s0 hqb
    clear hg10 hA hP HK9
    have HX : Hid (OwnB w10 w2.heap.size (.slice a3 el c3) E) := HX7.out.kept HK10.out
    have HY : Hid (OwnB w10 w3.heap.size (.slice a4 el c4) E) := HY7.out.kept HK10.out
    have HWn : Hid (OwnB w10 w3.heap.size (.slice a6 el c6) E) := HW7.out.kept HK10.out
    have HB10 : Hid (Below w2.heap.size w2 w10) := HB7.out.trans (HK10.out.mono HB7.out.size)
    clear HX7 HY7 HW7 HB7 HK10 HL2 HR2 HLn HBh HCo HNt HEn
    go_wp2_with fail
    go_loopw [17] (fun x wr => ∃ (k : Nat) (M : List Nat), k ≤ el ∧ x = .int .i64 (k : Int) ∧ Hid (OwnB wr w2.heap.size (.slice a3 el c3) M) ∧ Hid (w10.grownBy wr (Value.slice a3 el c3).ownBlock)) (fun x _ => el - (intOf x).toNat)
    case atStart => exact ⟨0, E, Nat.zero_le _, rfl, HX, World.grownBy.refl _ _⟩
    case round =>
      clear HX
      obtain ⟨k, M, hk, rfl, HX, HG⟩ := hrel
      have HMl : Hid (el = M.length) := HX.out.bytes.2
      by_cases hlt : k < el
      · obtain ⟨gx, rfl⟩ : ∃ gx, a3 = some ⟨gx, 0, none⟩ := by
          rcases HX.out.shape with ⟨_, h0⟩ | ⟨g', c', e, _⟩
          · have := HMl.out; rw [h0] at this; simp at this; omega
          · injection e with e1; exact ⟨g', e1⟩
        have HX2 : Hid (OwnB (wr.setCell ⟨gx, k, none⟩ (.int .u8 200)) w2.heap.size (.slice (some ⟨gx, 0, none⟩) el c3) (M.set k 200)) := HX.out.set k 200 (by decide)
        have HG2 : Hid (w10.grownBy (wr.setCell ⟨gx, k, none⟩ (.int .u8 200)) (Value.slice (some ⟨gx, 0, none⟩) el c3).ownBlock) := grown_trans' HG.out (grown_setCell wr ⟨gx, k, none⟩ _)
        have f0 := HX.out.frozen k
        have d0 := HX.out.cell k (by rw [← HMl.out]; exact hlt)
        clear HX HG HMl
        go_wp2
        go_roundw
        case rel => exact ⟨k + 1, _, by omega, by go_num, HX2, HG2⟩
        case measure => simp [intOf]; omega
      · obtain rfl : k = el := by omega
        have HBl : Hid (Below wr.heap.size wr (wr.alloc (.cells #[.int .u8 201] 5))) := (Below.refl _ _).alloc (Nat.le_refl _) _
        have HSr : Hid (BytesAt (wr.alloc (.cells #[.int .u8 201] 5)) (some ⟨wr.heap.size, 0, none⟩) [201]) := (OwnB.made (w := wr) (L := [201]) (by decide) (by decide) (Nat.le_refl _)).bytes.1
        have hbs : w2.heap.size ≤ wr.heap.size := Nat.le_trans HB10.out.size HG.out.size
        go_wp2_with (at_builtin; refine wpList_append_bytes rfl _ _ rfl w2.heap.size (.slice a3 k c3) M rfl (HX.out.kept HBl.out) (some ⟨wr.heap.size, 0, none⟩) 1 1 [201] rfl rfl HSr.out (by simp) (by have := HMl.out; simp only [List.length_cons, List.length_nil]; omega) (by simp only [World.size_alloc]; omega) ?_; intro v11 w11 ho11 hg11)
        have HG11 : Hid (w10.grownBy w11 (Value.slice a3 k c3).ownBlock) := grown_trans' HG.out (grown_trans' (grown_below HBl.out) hg11)
        have HY11 : Hid (OwnB w11 w3.heap.size (.slice a4 k c4) E) := HY.out.grown HG11.out (by
          by_cases e : (Value.slice a4 k c4).ownBlock = none
          · exact .inl e
          · refine .inr fun e2 => ?_
            cases e3 : (Value.slice a4 k c4).ownBlock with
            | none => exact e e3
            | some q =>
              have h1 := (HY.out.2.lt q e3).1
              have h2 := HSx.out q (by rw [← e2]; exact e3)
              omega)
        have HW11 : Hid (OwnB w11 w3.heap.size (.slice a6 k c6) E) := HWn.out.grown HG11.out (by
          by_cases e : (Value.slice a6 k c6).ownBlock = none
          · exact .inl e
          · refine .inr fun e2 => ?_
            cases e3 : (Value.slice a6 k c6).ownBlock with
            | none => exact e e3
            | some q =>
              have h1 := (HWn.out.2.lt q e3).1
              have h2 := HSx.out q (by rw [← e2]; exact e3)
              omega)
        have HB11 : Hid (Below w1.heap.size w1 w11) := by
          have hb2 : Below w2.heap.size w10 w11 := below_grown HG11.out (fun q hq => (HX.out.2.lt q hq).1) HB10.out.size
          exact HB2.out.trans ((HB10.out.trans hb2).mono HB2.out.size)
        clear ho11 hg11 HX HG HMl HBl HSr HY HWn HG11 hbs
        go_wp2_with fail
        refine (same_any w11 a4 a6 c4 c6 k k E E HEe.out HEe.out HY11.out.bytes.1 HW11.out.bytes.1 (by rw [← HEe.out]; unfold maxLen; omega)).mono ?_
        rintro e w12 ⟨rfl, hq12⟩
        rw [show decide (E = E) = true by simp]
        have HB12 : Hid (Below w1.heap.size w1 w12) := by obtain ⟨q, rfl⟩ := hq12; exact HB11.out.trans ⟨rfl, rfl, rfl, Nat.le_refl _, fun _ _ => rfl⟩
        clear hq12 HY11 HW11 HB11 HB10 HSx HEe HEl
        have HBl : Hid (Below w12.heap.size w12 (w12.alloc (.cells #[] 5))) := (Below.refl _ _).alloc (Nat.le_refl _) _
        have H2b : Hid (BytesAt (w12.alloc (.cells #[] 5)) ao2 b) := (H2.out.kept HB12.out).kept HBl.out
        have hn2s : n2 + 1 ≤ 140737488355328 := by omega
        go_wp2_with (first
          | (at_builtin; refine wpList_append_bytes rfl _ _ rfl w12.heap.size v13 b rfl (HO13.out.kept ((Below.refl _ _).alloc (Nat.le_refl _) _)) _ 1 1 [99] rfl rfl (OwnB.made (w := w13) (L := [99]) (by decide) (by decide) (Nat.le_refl _)).bytes.1 (by simp) (by rw [← HN2.out]; simp only [List.length_cons, List.length_nil]; omega) (by have := HB13.out.size; simp only [World.size_alloc]; omega) ?_; intro v14 w14 ho14 hg14; have HB14 : Hid (Below w12.heap.size w12 w14) := HB13.out.trans ((((Below.refl _ _).alloc (Nat.le_refl _) _).mono HB13.out.size).trans (below_grown hg14 (fun q hq => (HO13.out.2.lt q hq).1) (by have := HB13.out.size; simp only [World.size_alloc]; omega))); have hsh : ∃ gd c14, v14 = .slice (some ⟨gd, 0, none⟩) (n2 + 1) c14 ∧ n2 + 1 ≤ c14 := data_shape ho14 HN2.out; obtain ⟨gd, c14, rfl, hc14⟩ := hsh; have HO14 : Hid (OwnB w14 w12.heap.size (.slice (some ⟨gd, 0, none⟩) (n2 + 1) c14) (b ++ [99])) := ho14; clear ho14 hg14)
          | (at_builtin; refine wpList_append_bytes rfl _ _ rfl w12.heap.size _ [] rfl (OwnB.made (w := w12) (L := []) (by simp) (by simp) (Nat.le_refl _)) ao2 n2 cap2 b rfl HN2.out H2b.out HNi.out (by rw [← HN2.out]; simp only [List.length_nil]; omega) (by simp only [World.size_alloc]; omega) ?_; intro v13 w13 ho13 hg13; have HO13 : Hid (OwnB w13 w12.heap.size v13 b) := ho13; have HB13 : Hid (Below w12.heap.size w12 w13) := HBl.out.trans (below_grown hg13 (fun q hq => by cases hq; exact Nat.le_refl _) (by simp only [World.size_alloc]; omega)); clear ho13 hg13))
        clear HO13 HB13 HBl H2b
        have HDb : Hid (BytesAt w14 (some ⟨gd, 0, none⟩) b) := bytes_prefix HO14.out.bytes.1
        refine (decode_any w14 (some ⟨gd, 0, none⟩) n2 c14 b HDb.out HN2.out (by omega)).mono ?_
        rintro e w15 hp15
        obtain ⟨hb15, Q1, a15, c15, rfl, hm15, hu15, hap15⟩ := hp15.opn
        rw [← core_len hm15]
        have HB15 : Hid (Below w14.heap.size w14 w15) := hb15
        have HU1 : Hid (Up w15 (w14.heap.size + 2) a15 c15 Q1) := hu15
        have HC1 : Hid (∀ i, i < Q1.length → ∀ q, cb (pd Q1 i) = some q → q < w15.heap.size) := fun i hi q hq => ((hu15.ok _ (pd_mem hi)).lt q hq).2
        have HM1 : Hid (Q1.map core = resL b) := hm15
        have HA1 : Hid (Aprt a15 Q1) := hap15
        clear hb15 hm15 hu15 hap15 hp15
        go_wp2_with fail
        refine (decode_any w15 (some ⟨gd, 0, none⟩) n2 c14 b (HDb.out.kept HB15.out) HN2.out (by omega)).mono ?_
        rintro e w16 hp16
        obtain ⟨hb16, Q2, a16, c16, rfl, hm16, hu16, _⟩ := hp16.opn
        rw [← core_len hm16]
        have HB16 : Hid (Below w15.heap.size w15 w16) := hb16
        have HU2 : Hid (Up w16 (w15.heap.size + 2) a16 c16 Q2) := hu16
        have HM2 : Hid (Q2.map core = resL b) := hm16
        clear hb16 hm16 hu16 hp16
        have HB6 : Hid (Below w14.heap.size w14 w16) := HB15.out.trans (HB16.out.mono HB15.out.size)
        have HB1 : Hid (Below w1.heap.size w1 w16) := (HB12.out.trans (HB14.out.mono HB12.out.size)).trans (HB6.out.mono (Nat.le_trans HB12.out.size HB14.out.size))
        go_wp2_with fail
        refine (refDecode_any w16 ao2 n2 cap2 b (H2.out.kept HB1.out) HN2.out hm2 hlc2 hcm2 HNi.out).mono ?_
        rintro e w17 hp17
        obtain ⟨hb17, Q3, a17, c17, rfl, hm17, hu17⟩ := hp17.opn
        rw [← core_len hm17]
        have HB17 : Hid (Below w16.heap.size w16 w17) := hb17
        have HU3 : Hid (Up w17 (w16.heap.size + 1) a17 c17 Q3) := hu17
        have HM3 : Hid (Q3.map core = resL b) := hm17
        clear hb17 hm17 hu17 hp17
        have HL1 : Hid ((resL b).length = Q1.length) := core_len HM1.out
        have HL2 : Hid ((resL b).length = Q2.length) := core_len HM2.out
        have HL3 : Hid ((resL b).length = Q3.length) := core_len HM3.out
        have HL64 : Hid ((resL b).length ≤ 64) := by rw [HL1.out]; exact resL_length HM1.out
        obtain ⟨rl, hrl⟩ : ∃ rl, rl = (resL b).length := ⟨_, rfl⟩
        rw [← hrl] at HL1 HL2 HL3 HL64 ⊢
        have hrl64 : rl ≤ 64 := HL64.out
        clear hrl HL64
        generalize atR b = ar at *
        generalize errR b = er at *
        have HU1 : Hid (Up w17 (w14.heap.size + 2) a15 c15 Q1) := (HU1.out.kept HB16.out).kept HB17.out
        have HU2 : Hid (Up w17 (w15.heap.size + 2) a16 c16 Q2) := HU2.out.kept HB17.out
        have HDl : Hid (OwnB w17 w12.heap.size (.slice (some ⟨gd, 0, none⟩) (n2 + 1) c14) (b ++ [99])) := (HO14.out.kept HB6.out).kept HB17.out
        have HB17' : Hid (Below w1.heap.size w1 w17) := HB1.out.trans (HB17.out.mono HB1.out.size)
        clear HO14 HDb HB6 HB1
        go_wp2_with fail
        refine (sameLibrary_eq w17 a15 a17 rl c15 c17 Q1 Q3 HU1.out.lib.1.at_ HU3.out.lib.1.at_ HL3.out HL1.out (by omega) (fun i hi => like_core (by rw [HM1.out, HM3.out]) _ HU1.out.lib.1.ok HU3.out.lib.1.ok i (by rw [← HL3.out]; exact hi))).mono ?_
        rintro e w18 ⟨rfl, hg18⟩
        have HK18 : Hid (Below w17.heap.size w17 w18) := Grew.below hg18
        clear hg18
        go_wp2_with fail
        refine (sameLibrary_eq w18 a16 a17 rl c16 c17 Q2 Q3 (HU2.out.kept HK18.out).lib.1.at_ (HU3.out.kept HK18.out).lib.1.at_ HL3.out HL2.out (by omega) (fun i hi => like_core (by rw [HM2.out, HM3.out]) _ (HU2.out.kept HK18.out).lib.1.ok (HU3.out.kept HK18.out).lib.1.ok i (by rw [← HL3.out]; exact hi))).mono ?_
        rintro e w19 ⟨rfl, hg19⟩
        have HK19 : Hid (Below w17.heap.size w17 w19) := HK18.out.trans ((Grew.below hg19).mono HK18.out.size)
        clear hg19 HK18
        go_wp2_with fail
        refine (same_any w19 (some ⟨gd, 0, none⟩) ao2 c14 cap2 n2 n2 b b HN2.out HN2.out (bytes_prefix (HDl.out.kept HK19.out).bytes.1) (H2.out.kept (HB17'.out.trans (HK19.out.mono HB17'.out.size))) (by rw [← HN2.out]; unfold maxLen; omega)).mono ?_
        rintro e w20 ⟨rfl, hq20⟩
        rw [show decide (b = b) = true by simp]
        have HK20 : Hid (Below w17.heap.size w17 w20) := by obtain ⟨q, rfl⟩ := hq20; exact HK19.out.trans ⟨rfl, rfl, rfl, Nat.le_refl _, fun _ _ => rfl⟩
        clear hq20 HK19
        have d99 := (HDl.out.kept HK20.out).cell n2 (by rw [List.length_append, HN2.out]; simp)
        have e99 : (b ++ [99]).getD n2 0 = 99 := by rw [HN2.out, List.getD_eq_getElem?_getD, List.getElem?_append_right (Nat.le_refl _)]; simp
        rw [e99] at d99
        clear e99
        have HV1 : Hid (Up w20 (w14.heap.size + 2) a15 c15 Q1) := HU1.out.kept HK20.out
        have HV2 : Hid (Up w20 (w15.heap.size + 2) a16 c16 Q2) := HU2.out.kept HK20.out
        have HV3 : Hid (Up w20 (w16.heap.size + 1) a17 c17 Q3) := HU3.out.kept HK20.out
        have HB20 : Hid (Below w1.heap.size w1 w20) := HB17'.out.trans (HK20.out.mono HB17'.out.size)
        clear HU1 HU2 HU3 HDl HB17'
        go_wp2_with fail
        have HZ20 : Hid (w14.heap.size ≤ w20.heap.size ∧ w15.heap.size ≤ w16.heap.size ∧ w1.heap.size ≤ w14.heap.size) := ⟨Nat.le_trans HB15.out.size (Nat.le_trans HB16.out.size (Nat.le_trans HB17.out.size HK20.out.size)), HB16.out.size, Nat.le_trans HB12.out.size HB14.out.size⟩
        refine (apart_any w20 w14.heap.size HZ20.out.1 a15 rl c15 Q1 HV1.out.lib.1.at_ HL1.out hrl64 (fun x hx => (HV1.out.ok x hx).mono (by omega)) HA1.out.apt HA1.out.lib a16 a17 rl c16 c17 Q2 Q3 HL3.out hrl64 (by rw [HM2.out, HM3.out]) (fun W hf => by
          refine ⟨(HV2.out.same fun q h1 h2 => hf q h2 fun i hi e => ?_).lib.1, (HV3.out.same fun q h1 h2 => hf q h2 fun i hi e => ?_).lib.1⟩
          · have := HC1.out i hi q e
            omega
          · have := HC1.out i hi q e
            have := HZ20.out.2.1
            omega)).mono ?_
        rintro e w21 ⟨rfl, hb21⟩
        have HB21 : Hid (Below w1.heap.size w1 w21) := HB20.out.trans (hb21.mono HZ20.out.2.2)
        clear hb21
        go_wp2
        go_ret
        exact ⟨rfl, HB21.out⟩
end Go.Proofs.YtkjmeknaedapjaaDoor
