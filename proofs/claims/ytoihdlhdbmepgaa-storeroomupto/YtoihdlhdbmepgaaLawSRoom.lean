/-
  StoreRoom.
-/
import Derived.Test.YtoihdlhdbmepgaaLawSRoomH
namespace Go.Proofs.Ytoihdlhdbmepgaa
open Go.RowKit Go.Sort

theorem key0 (r : Int) : isKey (0, r) = true := by simp [isKey]
theorem umod (x q : Int) (hq : 0 < q) : ∃ r : Nat, (IntKind.u64.wrap x).tmod q = (r : Int) ∧ (r : Int) < q := by
  have h0 : 0 ≤ IntKind.u64.wrap x := by rw [IntKind.wrap_u64]; omega
  have h1 : (IntKind.u64.wrap x).tmod q = IntKind.u64.wrap x % q := Int.tmod_eq_emod_of_nonneg h0
  have h2 := Int.emod_nonneg (IntKind.u64.wrap x) (b := q) (by omega)
  have h3 := Int.emod_lt_of_pos (IntKind.u64.wrap x) hq
  obtain ⟨r, hr⟩ := Int.eq_ofNat_of_zero_le h2
  exact ⟨r, by rw [h1]; exact hr, by omega⟩
theorem insert_in (n0 : Nat) (F : Nat → Prop) (w : World) (S P : Nat) (cap last : Int) (vs : List Vr) (h : ST n0 F w S P cap last vs) (hF : ∀ k, F k → k < w.heap.size) (hn0 : n0 ≤ w.heap.size) (k1 k2 : Int) (ba ix : Int) (hk : KIn (k1, k2)) (hba : In64 ba) (hix : In64 ix) (hl0 : 0 ≤ last ∧ last + 1 ≤ 1000000000000000) (E : Int) (hE : insE cap vs (xV 0 last (k1, k2) ba ix) = E) :
    Calls Try.prog 19 #[ptr S, .agg #[.int .i64 k1, .int .i64 k2], .int .i64 ba, .int .i64 ix] w fun e w' => Kp n0 F w w' ∧
      ((E ≠ 0 ∧ e = .returned (.tuple #[.int .i64 0, .int .i64 E]) ∧ ST n0 F w' S P cap last vs) ∨
       (E = 0 ∧ e = .returned (.tuple #[.int .i64 (last + 1), .int .i64 0]) ∧ ∃ b, ST n0 F w' S P cap (last + 1) (vs ++ [xV b last (k1, k2) ba ix]))) := by
  have := insert_st n0 F w S P cap last vs h hF hn0 (k1, k2) ba ix hk hba hix hl0
  rw [hE] at this
  exact this
theorem hidC {p : Prop} (h : p) : Hid p := h
/-- the list lies there -/
def IntsAt (w : World) (ad : Option Addr) (ds : List Int) : Prop := ds = [] ∨ ∃ b off, ad = some ⟨b, off, none⟩ ∧ ∀ j, j < ds.length → w.cell? ⟨b, off + j, none⟩ = some (.int .i64 (ds.getD j 0))
set_option maxRecDepth 100000 in
set_option maxHeartbeats 2000000 in
theorem law_sroom (w : World) (cp : Int) (ad : Option Addr) (m cd : Nat) (ds : List Int) (hm : m = ds.length) (hm2 : m ≤ 1048576) (hd : IntsAt w ad ds) (hdi : ∀ x ∈ ds, In64 x) :
    Calls Try.prog 5 #[.int .i64 cp, .slice ad m cd] w fun e w' => e = .returned (.bool true) ∧ Below w.heap.size w w' := by
  have HD : Hid (IntsAt w ad ds ∧ m = ds.length ∧ ∀ x ∈ ds, In64 x) := ⟨hd, hm, hdi⟩
  obtain ⟨n, hn, hn1, hn2⟩ : ∃ n : Nat, wrap64 (1 + wrap64 ((IntKind.u64.wrap cp).tmod 200)) = (n : Int) ∧ 1 ≤ n ∧ n ≤ 200 := by
    obtain ⟨r, h1, h2⟩ := umod cp 200 (by omega)
    exact ⟨r + 1, by rw [h1]; unfold wrap64; omega, by omega, by omega⟩
  have HN : Hid (wrap64 (1 + wrap64 ((IntKind.u64.wrap cp).tmod 200)) = (n : Int)) := hn
  clear hd hm hn
  go_enter Try.func5, Try.ntmps5
  go_wp2_with fail
  rw [HN.out]
  refine (new_st w.heap.size (bk none) w 4 (n : Int) (by omega) (by omega) (by omega) (Nat.le_refl _) (fun k h => by cases h)).mono ?_
  rintro e w1 ⟨S, rfl, hst, hb⟩
  have HR : Hid (R1 w.heap.size w w1 S n 0 none 0 []) := ⟨hst, rfl, by simp, .inl ⟨rfl, rfl, rfl⟩, hb⟩
  clear hst hb
  go_wp2_with fail
  go_loopw [8, 9, 10, 11] (fun t x _ _ wr => ∃ (i : Nat) (ao : Option Addr) (c : Nat) (vs : List Vr), i ≤ n ∧ t = .slice ao i c ∧ x = .int .i64 (i : Int) ∧ Hid (R1 w.heap.size w wr S n i ao c vs)) (fun _ x _ _ _ => n - (intOf x).toNat)
  case atStart => exact ⟨0, none, 0, [], by omega, rfl, rfl, HR⟩
  case round =>
    obtain ⟨i, ao, c, vs, hi, rfl, rfl, HRr⟩ := hrel
    by_cases hlt : i < n
    · have HIns := insert_in w.heap.size (bk ao) wr S 4 n i vs HRr.out.st (fun k hk => (HRr.out.th.lt hk).1) HRr.out.bel.size 0 ((i : Int) % 7) ((i : Int) + 1) 0 ⟨by unfold In64; omega, by unfold In64; omega⟩ (by unfold In64; omega) (by unfold In64; omega) (by omega) 0
        (insE_free (key0 _) (by show 1 ≤ (i : Int) + 1 ∧ (i : Int) + 1 ≤ 1099511627776; omega) (by show (0 : Int) ≤ 0 ∧ (0 : Int) < 64; omega) (by rw [HRr.out.len]; omega) (fun v hv _ => by have := HRr.out.ba v hv; show v.ba < (i : Int) + 1; omega))
      go_wp2_with fail
      refine HIns.mono ?_
      clear HIns
      rintro e w2 ⟨hkp, ⟨h0, _⟩ | ⟨_, rfl, b, hst2⟩⟩
      · exact absurd rfl h0
      have HT2 : Hid (Th w2 w.heap.size ao c (vs.map Vr.n) ∧ (vs.map Vr.n).length = i) := ⟨HRr.out.th.kp hkp, by rw [List.length_map, HRr.out.len]⟩
      have HB2 : Hid (Below w.heap.size w w2) := HRr.out.bel.trans (hkp.below HRr.out.bel.size)
      obtain ⟨vs2, hvs2⟩ : ∃ vs2, vs2 = vs ++ [xV b i (0, (i : Int) % 7) ((i : Int) + 1) 0] := ⟨_, rfl⟩
      rw [← hvs2] at hst2
      have HS2 : Hid (ST w.heap.size (bk ao) w2 S 4 n ((i : Int) + 1) vs2) := hst2
      have HV2 : Hid (vs2.length = i + 1 ∧ (∀ v ∈ vs2, v.ba ≤ (i : Int) + 1) ∧ vs2.map Vr.n = vs.map Vr.n ++ [(i : Int) + 1]) := by
        refine ⟨by rw [hvs2, List.length_append, HRr.out.len]; rfl, fun v hv => ?_, by rw [hvs2]; simp⟩
        rw [hvs2] at hv
        rcases List.mem_append.1 hv with hv | hv
        · have := HRr.out.ba v hv; omega
        · simp at hv; subst hv; exact Int.le_refl _
      clear hst2 hvs2 hkp HRr
      have hlv := live_st _ _ w2 S 4 n _ vs2 HS2.out
      rw [HV2.out.1, show ((i + 1 : Nat) : Int) = (i : Int) + 1 by omega] at hlv
      have hrm := room_st _ _ w2 S 4 n _ vs2 HS2.out
      rw [HV2.out.1, show (n : Int) - ((i + 1 : Nat) : Int) = (n : Int) - (i : Int) - 1 by omega] at hrm
      have HLv := hidC hlv
      have HRm := hidC hrm
      clear hlv hrm
      go_wp2_with fail
      refine HLv.out.mono ?_
      rintro e w3 ⟨rfl, hw3⟩
      have hw3' := hw3.symm
      subst hw3'
      clear hw3 HLv
      go_wp2_with fail
      refine HRm.out.mono ?_
      rintro e w4 ⟨rfl, hb4⟩
      clear HRm
      have HS4 : Hid (ST w.heap.size (bk ao) w4 S 4 n ((i : Int) + 1) vs2) := HS2.out.kept hb4
      have HT4 : Hid (Th w4 w.heap.size ao c (vs.map Vr.n) ∧ (vs.map Vr.n).length = i) := ⟨HT2.out.1.kept hb4, HT2.out.2⟩
      have HB4 : Hid (Below w.heap.size w w4) := HB2.out.trans (hb4.mono HB2.out.size)
      clear hb4 HS2 HT2 HB2
      have HAp := app_th w4 w.heap.size ao c (vs.map Vr.n) ((i : Int) + 1) HT4.out.1 HB4.out.size (by rw [HT4.out.2]; omega)
      rw [HT4.out.2, ← HV2.out.2.2] at HAp
      have HAp' := hidC HAp
      clear HAp
      go_wp2_with (
        at_builtin
        refine wpL_app rfl _ _ 45 rfl (.slice ao i c) _ rfl rfl HAp'.out ?_
        rintro v1 w5 ⟨ao', c', rfl, hth, hfr, hbk⟩
        have HR5 : Hid (R1 w.heap.size w w5 S n (i + 1) ao' c' vs2) := ⟨HS4.out.grown hfr hbk, HV2.out.1, HV2.out.2.1, hth, HB4.out.trans (hfr.below HB4.out.size (fun k hk => (HT4.out.1.lt hk).2))⟩
        clear hth hfr hbk HAp')
      exact ⟨⟨i + 1, ao', c', vs2, by omega, rfl, by rw [show ((i + 1 : Nat) : Int) = (i : Int) + 1 by omega], HR5⟩, by simp [intOf]; omega⟩
    · obtain rfl : n = i := by omega
      have HR2 : Hid (R2 w.heap.size w wr S n 0 ao c (vs.map Vr.n) vs) := HRr.out.done
      clear HRr hlt hi HR
      have hthl : ∃ g off, ao = some ⟨g, off, none⟩ := by
        rcases HR2.out.th with ⟨_, _, h⟩ | ⟨g, off, h, _⟩
        · have := HR2.out.xl; rw [h] at this; simp at this; omega
        · exact ⟨g, off, h⟩
      obtain ⟨g, off, rfl⟩ := hthl
      go_wp2_with fail
      go_loopw [12, 13, 14, 15, 16, 17] (fun ba la x _ _ _ wq => ∃ (j : Nat) (xs : List Int) (vs : List Vr), j ≤ m ∧ ba = .int .i64 ((n : Int) + 1 + (j : Int)) ∧ la = .int .i64 ((n : Int) + (j : Int)) ∧ x = .int .i64 (j : Int) ∧ Hid (R2 w.heap.size w wq S n j (some ⟨g, off, none⟩) c xs vs)) (fun _ _ x _ _ _ _ => m - (intOf x).toNat)
      case atStart => exact ⟨0, vs.map Vr.n, vs, Nat.zero_le _, by simp, by simp, rfl, HR2⟩
      case round =>
        clear HR2
        obtain ⟨j, xs, vs, hj, rfl, rfl, rfl, HRq⟩ := hrel
        by_cases hlt : j < m
        · have HI1 := insert_in w.heap.size (bk (some ⟨g, off, none⟩)) wr S 4 n ((n : Int) + j) vs HRq.out.st (fun k hk => (HRq.out.th.lt hk).1) HRq.out.bel.size 0 3 ((n : Int) + 1 + j) 0 ⟨by unfold In64; omega, by unfold In64; omega⟩ (by unfold In64; omega) (by unfold In64; omega) (by omega) 92
            (insE_full (key0 _) (by show 1 ≤ (n : Int) + 1 + j ∧ (n : Int) + 1 + j ≤ 1099511627776; omega) (by show (0 : Int) ≤ 0 ∧ (0 : Int) < 64; omega) (by rw [HRq.out.len]))
          go_wp2_with fail
          refine HI1.mono ?_
          clear HI1
          rintro e w2 ⟨hkp, ⟨_, rfl, hst⟩ | ⟨h0, _⟩⟩
          rotate_left
          · exact absurd h0 (by decide)
          have HR3 : Hid (R2 w.heap.size w w2 S n j (some ⟨g, off, none⟩) c xs vs) := HRq.out.with hkp hst HRq.out.bel.size
          clear HRq hkp hst
          have hlv := live_st _ _ w2 S 4 n _ vs HR3.out.st
          rw [HR3.out.len] at hlv
          have hrm := room_st _ _ w2 S 4 n _ vs HR3.out.st
          rw [HR3.out.len, show (n : Int) - (n : Int) = 0 by omega] at hrm
          have HLv := hidC hlv
          have HRm := hidC hrm
          clear hlv hrm
          go_wp2_with fail
          refine HLv.out.mono ?_
          rintro e w3 ⟨rfl, hw3⟩
          have hw3' := hw3.symm
          subst hw3'
          clear hw3 HLv
          go_wp2_with fail
          refine HRm.out.mono ?_
          rintro e w4 ⟨rfl, hb4⟩
          clear HRm
          have HR4 : Hid (R2 w.heap.size w w4 S n j (some ⟨g, off, none⟩) c xs vs) := HR3.out.kept hb4 HR3.out.bel.size
          clear hb4 HR3
          obtain ⟨db, dof, hcd, hdin⟩ : ∃ db dof, (ad = some ⟨db, dof, none⟩ ∧ w4.cell? ⟨db, dof + j, none⟩ = some (.int .i64 (ds.getD j 0))) ∧ In64 (ds.getD j 0) := by
            obtain ⟨h1, h2, h3⟩ := HD.out
            rcases h1 with h1 | ⟨db, dof, h1, h4⟩
            · rw [h1] at h2; simp at h2; omega
            · have hc := h4 j (by omega)
              refine ⟨db, dof, ⟨h1, ?_⟩, h3 _ ?_⟩
              · rw [HR4.out.bel.cell (World.block_lt_of_cell? _ _ hc)]; exact hc
              · rw [List.getD_eq_getElem?_getD, List.getElem?_eq_getElem (by omega)]; exact List.getElem_mem _
          obtain ⟨rfl, hcd⟩ := hcd
          generalize ds.getD j 0 = d at *
          obtain ⟨k, hk, hkn⟩ := umod d (n : Int) (by omega)
          go_upto_region 22 with fail
          obtain ⟨X, x, Y, hxs, hXk⟩ : ∃ X x Y, xs = X ++ x :: Y ∧ X.length = k := by
            have hkl : k < xs.length := by have := HR4.out.xl; omega
            exact ⟨xs.take k, xs[k], xs.drop (k + 1), by rw [← List.drop_eq_getElem_cons hkl, List.take_append_drop], by rw [List.length_take]; omega⟩
          subst hxs
          have hxc : ∀ W, Th W w.heap.size (some ⟨g, off, none⟩) c (X ++ x :: Y) → W.cell? ⟨g, off + k, none⟩ = some (.int .i64 x) ∧ W.frozen? ⟨g, off + k, none⟩ = false := fun W hW => by
            rcases hW with ⟨h1, _⟩ | ⟨g', off', h1, h2, _⟩
            · cases h1
            · cases h1
              have h3 := h2.cell (j := X.length) (by simp)
              obtain ⟨⟨cur, h4, _⟩, _⟩ := h2
              exact ⟨by rw [← hXk, h3]; simp, frozen_of_row _ _ _ _ _ h4⟩
          have HXc := hidC hxc
          have HXk : Hid (X.length = k) := hXk
          obtain ⟨u0, hu0, hu0n⟩ := HR4.out.mem x (by simp)
          have hxin : In64 x := by have := HR4.out.st.nl u0 hu0; have := HR4.out.st.lt; unfold In64; omega
          have hfv : fv vs x ≠ none := fun e => by have := fv_none e u0 hu0; exact this hu0n
          have HRe := remove_st _ _ w4 S 4 n _ vs HR4.out.st x hxin
          obtain ⟨y4, _⟩ := hxc w4 HR4.out.th
          have hkn' : k < n := by omega
          have HFv := hidC hfv
          have HXi := hidC hxin
          clear hxc hXk hu0 hu0n hk hdin hfv hxin hcd
          go_wp2_with fail
          refine HRe.mono ?_
          clear HRe
          rintro e w5 ⟨hkp, ⟨h0, _⟩ | ⟨A, v, C, rfl, hvn, rfl, hst⟩⟩
          · exact absurd h0 HFv.out
          have HR5 : Hid (R3 w.heap.size w w5 S n j (some ⟨g, off, none⟩) c X Y x (A ++ C)) := HR4.out.out hvn hkp hst HR4.out.bel.size
          clear hkp hst HR4 HFv hvn
          generalize A ++ C = us at *
          obtain ⟨y5, _⟩ := HXc.out w5 HR5.out.th
          have HRe := remove_st _ _ w5 S 4 n _ us HR5.out.st x HXi.out
          clear y4
          go_wp2_with fail
          refine HRe.mono ?_
          clear HRe
          rintro e w6 ⟨hkp, ⟨_, rfl, hst⟩ | ⟨A', v', C', h0, h1, _⟩⟩
          rotate_left
          · exact absurd h1 (fv_none HR5.out.no v' (by rw [h0]; simp))
          have HR6 : Hid (R3 w.heap.size w w6 S n j (some ⟨g, off, none⟩) c X Y x us) := HR5.out.with hkp hst HR5.out.bel.size
          clear hkp hst HR5 y5
          have hrm := room_st _ _ w6 S 4 n _ us HR6.out.st
          rw [show (n : Int) - (us.length : Int) = 1 by have := HR6.out.len; omega] at hrm
          go_wp2_with fail
          refine hrm.mono ?_
          rintro e w7 ⟨rfl, hb7⟩
          have HR7 : Hid (R3 w.heap.size w w7 S n j (some ⟨g, off, none⟩) c X Y x us) := HR6.out.with (Kp.ofBelow hb7) (HR6.out.st.kept hb7) HR6.out.bel.size
          clear hb7 hrm HR6
          have HI2 := insert_in w.heap.size (bk (some ⟨g, off, none⟩)) w7 S 4 n ((n : Int) + j) us HR7.out.st (fun k hk => (HR7.out.th.lt hk).1) HR7.out.bel.size 0 ((j : Int) % 5) ((n : Int) + 1 + j) 0 ⟨by unfold In64; omega, by unfold In64; omega⟩ (by unfold In64; omega) (by unfold In64; omega) (by omega) 0
            (insE_free (key0 _) (by show 1 ≤ (n : Int) + 1 + j ∧ (n : Int) + 1 + j ≤ 1099511627776; omega) (by show (0 : Int) ≤ 0 ∧ (0 : Int) < 64; omega) (by have := HR7.out.len; omega) (fun v hv _ => by have := HR7.out.ba v hv; show v.ba < (n : Int) + 1 + j; omega))
          go_wp2_with fail
          refine HI2.mono ?_
          clear HI2
          rintro e w8 ⟨hkp, ⟨h0, _⟩ | ⟨_, rfl, b, hst⟩⟩
          · exact absurd rfl h0
          have HR8 := hidC (HR7.out.back hkp hst HR7.out.bel.size)
          obtain ⟨y8, f8⟩ := HXc.out w8 (HR7.out.th.kp hkp)
          clear hkp hst HR7
          have HX8 := HXk.out
          rw [HX8] at HR8
          clear HX8 HXk HXc
          go_wp2
          exact ⟨⟨j + 1, _, _, by omega, by rw [show ((j + 1 : Nat) : Int) = (j : Int) + 1 by omega, Int.add_assoc], by rw [show ((j + 1 : Nat) : Int) = (j : Int) + 1 by omega, Int.add_assoc], by rw [show ((j + 1 : Nat) : Int) = (j : Int) + 1 by omega], HR8⟩, by simp [intOf]; omega⟩
        · have hlv := live_st _ _ wr S 4 n _ vs HRq.out.st
          rw [HRq.out.len] at hlv
          have HBf : Hid (Below w.heap.size w wr) := HRq.out.bel
          have HLv := hidC hlv
          clear hlv HRq
          go_wp2_with fail
          refine HLv.out.mono ?_
          rintro e w3 ⟨rfl, hw3⟩
          have hw3' := hw3.symm
          subst hw3'
          clear hw3 HLv
          go_wp2
          go_ret
          exact ⟨by simp, HBf.out⟩
end Go.Proofs.Ytoihdlhdbmepgaa
