/-
  THE WALK OF kept.
-/
import Derived.Test.YtnjgaibcpcpmcabSKeptH
namespace Go.Proofs.Ytnjgaibcpcpmcab
open Go.RowKit Go.Sort

theorem Out.same {w : World} {base SB i : Nat} {X : Xt} {O : Nat → Option Nat} {Q : Nat → Nat} {lv wv ov sv : Value} {xs ys us zs : List Value} {Ms : Nat → List K} {es fs : Nat → List Value} {Cs : Nat → Nat → List K} (hS : Sh w base SB X O lv wv xs ys Ms) (hO : Out w base O Q ov sv us zs es fs Cs) (hL : Link us.length es Cs xs Ms) (hE : Even us zs es fs) (hM : ∀ j, j < xs.length → (Ms j).length ≤ 2097152) (hi : i < us.length) {au az : Option Addr} {n cu cz : Nat} (h1 : nth us i = .slice au n cu) (h2 : nth zs i = .slice az n cz) :
    Calls Try.prog 38 #[.slice au n cu, .slice az n cz] w fun e w' => e = .returned (.bool true) ∧ ∃ q, w' = w.drewN q := by
  have g1 := (hO.u i _ (nth_get hi)).1
  have g2 := (hO.z i _ (nth_get (by have := hE.1; omega))).1
  rw [h1] at g1
  rw [h2] at g2
  obtain ⟨e1, l1⟩ := g1.listsAt
  obtain ⟨e2, l2⟩ := g2.listsAt
  rw [← e1] at l1
  rw [← e2] at l2
  refine sameLists_any w au az n cu cz (nth (es i)) (nth (fs i)) (Cs i) l1 l2 (fun p hp => ?_) (fun p hp => ?_) (fun p hp => ?_) (by have := (hE.2 i hi).2; omega)
  · obtain ⟨j, _, h4, h5⟩ := hL i hi p _ (nth_get (by omega))
    have h6 := (hS.x j _ h4).1
    rw [h5] at h6
    obtain ⟨a, m, c, e⟩ := own_lst h6
    exact ⟨a, m, c, e, own_lst2 (e ▸ h6)⟩
  · have h6 := (hO.f i (by have := hE.1; omega) p _ (nth_get (by omega))).1
    obtain ⟨a, m, c, e⟩ := own_lst h6
    exact ⟨a, m, c, e, own_lst2 (e ▸ h6)⟩
  · obtain ⟨j, h3, _, h5⟩ := hL i hi p _ (nth_get (by omega))
    rw [← h5]
    exact Nat.le_trans (hM j h3) (by omega)

set_option maxHeartbeats 8000000 in
set_option maxRecDepth 100000 in
theorem keptO_any (w : World) (base SB nx nu : Nat) (O : Nat → Option Nat) (h : ShP w base SB O nx nu) (hnx : nx ≤ 1073741824) (hnu : nu ≤ 2097152) :
    Calls Try.prog 16 #[.pointer (some ⟨SB, 0, none⟩)] w fun e w' => e = .returned (.bool true) ∧ Below base w w' := by
  obtain ⟨X, lv, wv, xs, ys, Ms, Q, us, zs, es, fs, Cs, hS, hO, hL, hE, hlen, hx, hu, hM⟩ := h
  obtain ⟨al, cl, rfl⟩ := rows_shape hS.lists
  obtain ⟨aw, cw, rfl⟩ := rows_shape hS.want
  obtain ⟨ao, co, hov⟩ := rr_shape hO.o1
  obtain ⟨az, cz, hsv⟩ := rr_shape hO.s1
  have HS : Hid (Sh w base SB X O (.slice al xs.length cl) (.slice aw ys.length cw) xs ys Ms ∧ Out w base O Q (.slice ao us.length co) (.slice az zs.length cz) us zs es fs Cs) := ⟨hS, by rw [hov, hsv] at hO; exact hO⟩
  have HL : Hid (Link us.length es Cs xs Ms ∧ Even us zs es fs ∧ ys.length = xs.length ∧ ∀ j, j < xs.length → (Ms j).length ≤ 2097152) := ⟨hL, hE, hlen, hM⟩
  have hbs : base ≤ w.heap.size := by have h1 := hS.sb.1; have h2 := hS.lt; omega
  have HC : Hid (∀ W i k, Mk w W base O Q us es i k → W.cell? ⟨SB, 0, none⟩ = some (.slice al xs.length cl) ∧ W.cell? ⟨SB, 1, none⟩ = some (.slice aw ys.length cw) ∧ W.cell? ⟨SB, 2, none⟩ = some (.slice ao us.length co) ∧ W.cell? ⟨SB, 3, none⟩ = some (.slice az zs.length cz)) := fun W i k hW => by
    obtain ⟨q0, q1, q2, q3, _⟩ := shelf_cell (hW.sh HS.out.1).cell
    rw [← hov, ← hsv]
    exact ⟨q0, q1, q2, q3⟩
  have HSL : Hid (∀ n, Calls Try.prog 38 #[.slice al xs.length cl, .slice aw ys.length cw] (w.drewN n) fun e w' => e = .returned (.bool true) ∧ ∃ m, w' = (w.drewN n).drewN m) := fun n => by
    have hd : Below w.heap.size w (w.drewN n) := ⟨rfl, rfl, rfl, Nat.le_refl _, fun _ _ => rfl⟩
    have hs := HS.out.1.below hd
    rw [hlen]
    have h1 := hs.want.listsAt.2
    rw [hlen] at h1
    exact sameLists_any (w.drewN n) al aw xs.length cl cw (nth xs) (nth ys) Ms hs.lists.listsAt.2 h1
      (fun i hi => by have h2 := (hs.x i _ (nth_get hi)).1; obtain ⟨a, m, c, e⟩ := own_lst h2; exact ⟨a, m, c, e, own_lst2 (e ▸ h2)⟩)
      (fun i hi => by have h2 := (hs.y i _ (nth_get (by omega))).1; obtain ⟨a, m, c, e⟩ := own_lst h2; exact ⟨a, m, c, e, own_lst2 (e ▸ h2)⟩)
      (fun i hi => Nat.le_trans (hM i hi) (by omega)) (by omega)
  have hul : us.length ≤ 2097152 := by omega
  have hxl : xs.length ≤ 1073741824 := by omega
  have HM0 : Hid (Mk w w base O Q us es 0 0) := Mk.start HS.out.2
  obtain ⟨c0, c1, c2, c3⟩ := HC.out w 0 0 HM0.out
  clear hS hO hL hE hlen hM hov hsv hx hu hnx hnu
  go_enter Try.func16, Try.ntmps16
  go_wp2_with fail
  go_quiet ((go_at_call 38; exact Calls.quiet_of (HSL.out _)))
  have HW1 : Hid (∃ q, w.drewN nq = w.drewN q) := ⟨_, rfl⟩
  clear c0 c1 c2 c3 HSL HM0
  generalize w.drewN nq = W1 at *
  have HD : Hid (∀ q, Below w.heap.size w (w.drewN q)) := fun q => ⟨rfl, rfl, rfl, Nat.le_refl _, fun _ _ => rfl⟩
  go_wp2_with fail
  go_loopw [4, 3] (fun x y wr => ∃ i : Nat, i ≤ us.length ∧ x = .int .i64 (i : Int) ∧ y = .bool true ∧ Hid (∃ q, wr = w.drewN q)) (fun x _ _ => us.length - (intOf x).toNat)
  case atStart => exact ⟨0, Nat.zero_le _, rfl, rfl, HW1⟩
  case round =>
    clear HW1
    obtain ⟨i, hi, rfl, rfl, HQ⟩ := hrel
    have HMr : Hid (Mk w wr base O Q us es 0 0) := by obtain ⟨q, rfl⟩ := HQ.out; exact (Mk.start HS.out.2).below (HD.out q) hbs
    obtain ⟨c0, c1, c2, c3⟩ := HC.out wr 0 0 HMr.out
    by_cases hlt : i < us.length
    · have HB : Hid (Below w.heap.size w wr) := by obtain ⟨q, rfl⟩ := HQ.out; exact HD.out q
      have hzi : i < zs.length := by have h1 := HL.out.2.1.1; omega
      rcases HS.out.2.o1.listsAt.2 with hz | ⟨bo, oo, e, hc⟩
      · omega
      rcases HS.out.2.s1.listsAt.2 with hz | ⟨bz, oz, e', hc'⟩
      · omega
      subst e e'
      have u1 := (HB.out.cell (p := ⟨bo, oo + i, none⟩) (cell_lt (hc i hlt))).trans (hc i hlt)
      have u2 := (HB.out.cell (p := ⟨bz, oz + i, none⟩) (cell_lt (hc' i hzi))).trans (hc' i hzi)
      obtain ⟨au, cu, hau⟩ := rows_shape (HS.out.2.u i _ (nth_get hlt)).1
      obtain ⟨av, cv, hav⟩ := rows_shape (HS.out.2.z i _ (nth_get hzi)).1
      rw [(HL.out.2.1.2 i hlt).1] at hav
      have HSi : Hid (∀ n, Calls Try.prog 38 #[.slice au (es i).length cu, .slice av (es i).length cv] (wr.drewN n) fun e w' => e = .returned (.bool true) ∧ ∃ m, w' = (wr.drewN n).drewN m) := fun n => by
        obtain ⟨q, rfl⟩ := HQ.out
        have hd : Below w.heap.size w ((w.drewN q).drewN n) := ⟨rfl, rfl, rfl, Nat.le_refl _, fun _ _ => rfl⟩
        exact Out.same (HS.out.1.below hd) (HS.out.2.kept HS.out.1 hd) HL.out.1 HL.out.2.1 HL.out.2.2.2 hlt hau hav
      rw [hau] at u1
      rw [hav] at u2
      have hiU : (i : Int) < (us.length : Int) := by omega
      have hiZ : (i : Int) < (zs.length : Int) := by omega
      clear hc hc' hau hav HB HMr c0 c1
      go_wp2_with fail
      go_quiet ((go_at_call 38; exact Calls.quiet_of (HSi.out _)))
      have HQ2 : Hid (∃ q, wr.drewN nq = w.drewN q) := by obtain ⟨q, rfl⟩ := HQ.out; exact ⟨q + nq, World.drewN_drewN _ _ _⟩
      clear u1 u2 c2 c3
      generalize wr.drewN nq = W2 at *
      go_wp2_with fail
      go_roundw
      case rel => exact ⟨i + 1, by omega, by go_num, rfl, HQ2⟩
      case measure => simp [intOf]; omega
    · obtain rfl : i = us.length := by omega
      clear HQ c0 c1 c3
      go_wp2_with fail
      go_loopw [5] (fun x w2 => ∃ i : Nat, i ≤ us.length ∧ x = .int .i64 (i : Int) ∧ Hid (Mk w w2 base O Q us es i 0)) (fun x _ => us.length - (intOf x).toNat)
      case atStart => exact ⟨0, Nat.zero_le _, rfl, HMr⟩
      case round =>
        clear HMr c2 hlt hi
        obtain ⟨i, hi, rfl, HMi⟩ := hrel
        obtain ⟨-, -, c2, -⟩ := HC.out wr i 0 HMi.out
        by_cases hlt : i < us.length
        · rcases HS.out.2.o1.listsAt.2 with hz | ⟨bo, oo, e, -⟩
          · omega
          subst e
          obtain ⟨au, cu, hau⟩ := rows_shape (HS.out.2.u i _ (nth_get hlt)).1
          have HUi : Hid (us[i]? = some (.slice au (es i).length cu)) := by rw [Hid, ← hau]; exact nth_get hlt
          have HUc : Hid (∀ W k, Mk w W base O Q us es i k → W.cell? ⟨bo, oo + i, none⟩ = some (.slice au (es i).length cu)) := fun W k hW => by
            rcases (hW.ov HS.out.1 HS.out.2).listsAt.2 with hz | ⟨b', o', e, hc⟩
            · omega
            cases e
            rw [← hau]; exact hc i hlt
          have hel : (es i).length ≤ 256 := (HL.out.2.1.2 i hlt).2
          have u1 := HUc.out wr 0 HMi.out
          have hiU : (i : Int) < (us.length : Int) := by omega
          clear hau
          generalize hnn : (es i).length = N at *
          have HNe : Hid ((es i).length = N) := hnn
          clear hnn
          go_wp2_with fail
          go_loopw [6] (fun x w3 => ∃ k : Nat, k ≤ N ∧ x = .int .i64 (k : Int) ∧ Hid (Mk w w3 base O Q us es i k)) (fun x _ => N - (intOf x).toNat)
          case atStart => exact ⟨0, Nat.zero_le _, rfl, HMi⟩
          case round =>
            clear HMi c2 u1
            obtain ⟨k, hk, rfl, HMk⟩ := hrel
            obtain ⟨-, -, c2, -⟩ := HC.out wr i k HMk.out
            have u1 := HUc.out wr k HMk.out
            by_cases hkl : k < N
            · obtain ⟨L, hL1, hL2, -⟩ := HMk.out.rows i _ HUi.out
              obtain ⟨G, e, hc⟩ := hL1.at_some (by omega)
              subst e
              have hLk : k < L.length := by have h1 := HNe.out; omega
              have HF : Hid (∀ W, Below wr.heap.size wr W → W.cell? ⟨SB, 2, none⟩ = some (.slice (some ⟨bo, oo, none⟩) us.length co) ∧ W.cell? ⟨bo, oo + i, none⟩ = some (.slice (some ⟨G, 0, none⟩) N cu) ∧ W.cell? ⟨G, k, none⟩ = some L[k] ∧ W.frozen? ⟨G, k, none⟩ = false) := fun W hW => by
                have hM := HMk.out.below hW hbs
                obtain ⟨-, -, z2, -⟩ := HC.out W i k hM
                exact ⟨z2, HUc.out W k hM, (hW.cell (p := ⟨G, k, none⟩) (cell_lt (hc k _ (List.getElem?_eq_getElem hLk)))).trans (hc k _ (List.getElem?_eq_getElem hLk)), (hL1.kept hW).frozen k⟩
              obtain ⟨y0, y1, y2, y3⟩ := HF.out wr (Below.refl _ _)
              have HDr : Hid (Below wr.heap.size wr wr.drew) := ⟨rfl, rfl, rfl, Nat.le_refl _, fun _ _ => rfl⟩
              have hkN : (k : Int) < (N : Int) := by omega
              have HSt : Hid (∀ w8, Below wr.heap.size wr w8 → Mk w ((w8.alloc (.cells #[.int .i64 (mkK i).1, .int .i64 (mkK i).2] 28)).setCell ⟨G, k, none⟩ (.slice (some ⟨w8.heap.size, 0, none⟩) 1 1)) base O Q us es i (k + 1)) := fun w8 h8 => by
                obtain ⟨b1, b2⟩ := Box.new (w := w8) (b := w8.heap.size) (x := (mkK i).1) (y := (mkK i).2) rfl
                exact Mk.set HS.out.2 (HMk.out.below (h8.trans ((below_alloc _ _).mono h8.size)) hbs) HUi.out (by have h1 := HMk.out.siz; have h2 := h8.size; omega) b1 b2
              generalize L[k] = ev at *
              clear hL1 hL2 hc hLk c2 u1
              go_wp2_with fail
              go_region_law (go_simp; (go_at_call 39; go_loud (refine (mark_any _ i (by omega)).mono ?_; rintro e w8 ⟨rfl, hg8⟩; have HB8 : Hid (Below wr.heap.size wr w8) := HDr.out.trans (Grew.below hg8); clear hg8; obtain ⟨z0, z1, z2, z3⟩ := HF.out w8 HB8.out; obtain ⟨x0, x1, x2, x3⟩ := HF.out (w8.alloc (.cells #[.int .i64 (mkK i).1, .int .i64 (mkK i).2] 28)) (HB8.out.trans ((below_alloc _ _).mono HB8.out.size)); have HS9 : Hid (Mk w ((w8.alloc (.cells #[.int .i64 (mkK i).1, .int .i64 (mkK i).2] 28)).setCell ⟨G, k, none⟩ (.slice (some ⟨w8.heap.size, 0, none⟩) 1 1)) base O Q us es i (k + 1)) := HSt.out w8 HB8.out)))
              all_goals go_wp2_with fail
              all_goals go_roundw
              all_goals first | exact ⟨k + 1, by omega, by go_num, HS9⟩ | (simp [intOf]; omega)
            · have HMn : Hid (Mk w wr base O Q us es (i + 1) 0) := HMk.out.next (by have h1 := HNe.out; omega)
              obtain rfl : k = N := by omega
              go_wp2_with fail
              go_roundw
              case rel => exact ⟨i + 1, by omega, by go_num, HMn⟩
              case measure => simp [intOf]; omega
        · obtain rfl : i = us.length := by omega
          have HMu : Hid (Mk w wr base O Q us es us.length 0) := HMi
          clear HMi hlt hi
          go_wp2_with fail
          go_loopw [7, 3] (fun x y w4 => ∃ i : Nat, i ≤ us.length ∧ x = .int .i64 (i : Int) ∧ y = .bool true ∧ Hid (Mk w w4 base O Q us es us.length 0)) (fun x _ _ => us.length - (intOf x).toNat)
          case atStart => exact ⟨0, Nat.zero_le _, rfl, rfl, HMu⟩
          case round =>
            clear HMu c2
            obtain ⟨i, hi, rfl, rfl, HMi⟩ := hrel
            obtain ⟨c0, -, c2, -⟩ := HC.out wr _ 0 HMi.out
            by_cases hlt : i < us.length
            · rcases HS.out.2.o1.listsAt.2 with hz | ⟨bo, oo, e, -⟩
              · omega
              subst e
              obtain ⟨au, cu, hau⟩ := rows_shape (HS.out.2.u i _ (nth_get hlt)).1
              have HUi : Hid (us[i]? = some (.slice au (es i).length cu)) := by rw [Hid, ← hau]; exact nth_get hlt
              have HUc : Hid (∀ W, Mk w W base O Q us es us.length 0 → W.cell? ⟨bo, oo + i, none⟩ = some (.slice au (es i).length cu)) := fun W hW => by
                rcases (hW.ov HS.out.1 HS.out.2).listsAt.2 with hz | ⟨b', o', e, hc⟩
                · omega
                cases e
                rw [← hau]; exact hc i hlt
              have hel : (es i).length ≤ 256 := (HL.out.2.1.2 i hlt).2
              have u1 := HUc.out wr HMi.out
              have hiU : (i : Int) < (us.length : Int) := by omega
              have HLt : Hid (i < us.length) := hlt
              clear hau c0
              generalize hnn : (es i).length = N at *
              have HNe : Hid ((es i).length = N) := hnn
              clear hnn
              go_wp2_with fail
              go_loopw [8, 3] (fun x y w5 => ∃ k : Nat, k ≤ N ∧ x = .int .i64 (k : Int) ∧ y = .bool true ∧ Hid (Mk w w5 base O Q us es us.length 0)) (fun x _ _ => N - (intOf x).toNat)
              case atStart => exact ⟨0, Nat.zero_le _, rfl, rfl, HMi⟩
              case round =>
                clear HMi c2 u1
                obtain ⟨k, hk, rfl, rfl, HMk⟩ := hrel
                obtain ⟨-, -, c2, -⟩ := HC.out wr _ 0 HMk.out
                have u1 := HUc.out wr HMk.out
                by_cases hkl : k < N
                · obtain ⟨L, hL1, hL2, hL3⟩ := HMk.out.rows i _ HUi.out
                  obtain ⟨G, e, hc⟩ := hL1.at_some (by omega)
                  subst e
                  have hLk : k < L.length := by have h1 := HNe.out; omega
                  obtain ⟨g, ex, -, b1, b2⟩ := hL3 k _ (List.getElem?_eq_getElem hLk) (.inl HLt.out)
                  have ck := hc k _ (List.getElem?_eq_getElem hLk)
                  rw [ex] at ck
                  have HMm : Hid (∀ w, Calls Try.prog 39 #[.int .i64 (i : Int)] w fun e w' => e = .returned (.agg #[.int .i64 (mkK i).1, .int .i64 (mkK i).2]) ∧ ∃ q os, w' = grow (w.drewN q) os) := fun w => mark_any w i (by omega)
                  generalize mkK i = mk at *
                  obtain ⟨m1, m2⟩ := mk
                  simp only at b1 b2 HMm
                  have g1 : ∀ n os, (grow (wr.drewN n) os).cell? ⟨SB, 2, none⟩ = some (.slice (some ⟨bo, oo, none⟩) us.length co) := fun n os => Grew.cell ⟨n, os, rfl⟩ c2
                  have g2 : ∀ n os, (grow (wr.drewN n) os).cell? ⟨bo, oo + i, none⟩ = some (.slice (some ⟨G, 0, none⟩) N cu) := fun n os => Grew.cell ⟨n, os, rfl⟩ u1
                  have g3 : ∀ n os, (grow (wr.drewN n) os).cell? ⟨G, k, none⟩ = some (.slice (some ⟨g, 0, none⟩) 1 1) := fun n os => Grew.cell ⟨n, os, rfl⟩ ck
                  have g4 : ∀ n os, (grow (wr.drewN n) os).cell? ⟨g, 0, none⟩ = some (.int .i64 m1) := fun n os => Grew.cell ⟨n, os, rfl⟩ b1
                  have g5 : ∀ n os, (grow (wr.drewN n) os).cell? ⟨g, 1, none⟩ = some (.int .i64 m2) := fun n os => Grew.cell ⟨n, os, rfl⟩ b2
                  have hq := run_eqKey m1 m2 m1 m2
                  rw [decide_eq_true rfl] at hq
                  have hgd := fun op x y => run_eqGuard op x y m1 m2 m1 m2
                  have mx := mixed
                  have hkN : (k : Int) < (N : Int) := by omega
                  clear hL1 hL2 hL3 hc hLk ex ck b1 b2
                  go_wp2_with fail
                  clear c2 u1
                  refine wp_region_quiet_grown mx (by kernel_rfl) ?_
                  repeat (go_big_quiet_step ((go_at_call 39; exact Calls.grown_of (HMm.out _))))
                  refine wpQuiet_nil ?_
                  intro _ hw'
                  obtain ⟨⟨nq, osq⟩, hw''⟩ := hw'
                  subst hw''
                  have HM5 : Hid (Mk w (grow (wr.drewN nq) osq) base O Q us es us.length 0) := HMk.out.below (Grew.below ⟨_, _, rfl⟩) hbs
                  generalize grow (wr.drewN nq) osq = W5 at *
                  go_wp2_with fail
                  go_roundw
                  case rel => exact ⟨k + 1, by omega, by go_num, rfl, HM5⟩
                  case measure => simp [intOf]; omega
                · obtain rfl : k = N := by omega
                  go_wp2_with fail
                  go_roundw
                  case rel => exact ⟨i + 1, by omega, by go_num, rfl, HMk⟩
                  case measure => simp [intOf]; omega
            · obtain rfl : i = us.length := by omega
              have HSf : Hid (Sh wr base SB ⟨fun _ => none, X.ov, X.sv⟩ O (.slice al xs.length cl) (.slice aw ys.length cw) xs ys Ms ∧ Below base w wr) := ⟨HMi.out.sh HS.out.1, HMi.out.bel⟩
              clear HMi
              go_wp2_with fail
              refine (apart_any wr base xs.length cl al (nth xs) Ms HSf.out.1.shelf0 (by omega) (fun j hj => Nat.le_trans (HL.out.2.2.2 j hj) (by omega))).mono ?_
              rintro e w3 ⟨rfl, hb3⟩
              have HE : Hid (Below base w w3) := HSf.out.2.trans hb3
              clear hb3
              go_wp2
              go_ret
              exact ⟨rfl, HE.out⟩

end Go.Proofs.Ytnjgaibcpcpmcab
