/-
  THE WALK OF KeysBytesOrder.
-/
import Derived.Test.YtnjgaibcpcpmcabDoorPlain
import Derived.Test.YtnjgaibcpcpmcabDoorBelow
namespace Go.Proofs.YtnjgaibcpcpmcabDoor
open Go.RowKit Go.Sort

theorem row_bytes {w : World} {g : Nat} {L : List Nat} {t : TypeId} (h : w.heap[g]? = some (.cells (cellsU8 L) t (0, 0))) (hz : ∀ z ∈ L, z < 256) : BytesAt w (some ⟨g, 0, none⟩) L :=
  ⟨hz, .inr ⟨g, 0, rfl, fun j hj => by rw [Nat.zero_add]; exact row_cell h j hj⟩⟩
theorem bytesAt_grew {w w1 : World} {ao : Option Addr} {zs : List Nat} (h : BytesAt w ao zs) (g : Grew w w1) : BytesAt w1 ao zs := h.kept g.below
theorem bytes_cells {w : World} {g : Nat} {L : List Nat} (h : BytesAt w (some ⟨g, 0, none⟩) L) (h0 : 0 < L.length) : ∀ j, j < L.length → w.cell? ⟨g, 0 + j, none⟩ = some (.int .u8 ((L.getD j 0 : Nat) : Int)) := by
  obtain ⟨_, rfl | ⟨b, off, e, hc⟩⟩ := h
  · simp at h0
  · cases e; exact hc
theorem run_neKey (x1 x2 y1 y2 : Int) (w : World) : Sem.run Tryd.prog (binOp .neq 23 (.agg #[.int .i64 x1, .int .i64 x2]) (.agg #[.int .i64 y1, .int .i64 y2])) w = .ok (.bool (!decide ((x1, x2) = (y1, y2)))) w := by
  have u3 := Tryd.underlying3
  have a3 := Tryd.isAgg3
  have z3 := Tryd.sizeOf3
  have u2 := Tryd.underlying2
  have a2 := Tryd.isAgg2
  have z2 := Tryd.sizeOf2
  have hS : Tryd.prog.underlying 23 = some (.struct (Tryd.prog.fieldsOf 23)) := by kernel_rfl
  have hp : Tryd.prog.stoodInHeld 23 = false := by kernel_rfl
  rw [run_neq_struct, show (10000 : Nat) = 9999 + 1 from rfl, run_equalIn_agg w 9999 23 _ _ hS hp]
  simp only [Program.fieldsOf, Tryd.underlying23]
  go_simp
  by_cases h1 : x1 = y1 <;> by_cases h2 : x2 = y2 <;> simp [h1, h2]
theorem num_any' (w : World) (x : Int) : Calls Tryd.prog 8 #[.int .i64 x] w fun e w' => e = .returned (.int .i64 x) ∧ w = w' := (num_any w x).mono fun _ _ h => ⟨h.1, h.2.symm⟩
theorem cmp_cases (a b : K) : cmp a b = -1 ∧ lt a b = true ∧ lt b a = false ∧ decide (a = b) = false ∨ cmp a b = 0 ∧ lt a b = false ∧ lt b a = false ∧ decide (a = b) = true ∨ cmp a b = 1 ∧ lt a b = false ∧ lt b a = true ∧ decide (a = b) = false := by
  by_cases h1 : lt a b = true
  · exact .inl ⟨cmp_lt h1, h1, lt_asymm h1, by simpa using ne_of_lt h1⟩
  · by_cases h2 : lt b a = true
    · exact .inr (.inr ⟨cmp_gt h2, by simpa using h1, h2, by simpa using (ne_of_lt h2).symm⟩)
    · have e := eq_of_not_lt (by simpa using h1) (by simpa using h2)
      exact .inr (.inl ⟨by rw [e]; exact cmp_self b, by simpa using h1, by simpa using h2, by simpa using e⟩)

set_option maxHeartbeats 4000000 in
set_option maxRecDepth 100000 in
theorem bytesOrder_walk (w : World) (a1 a2 b1 b2 : Int) (ia2 : In64 a2) (ib2 : In64 b2) (ao : Option Addr) (cap n : Nat) (zs : List Nat) (hn : n = zs.length) (h : BytesAt w ao zs) (hnc : n ≤ cap) (hm : n ≤ maxLen) (hv : DigVars w) :
    Calls Tryd.prog 5 #[.agg #[.int .i64 a1, .int .i64 a2], .agg #[.int .i64 b1, .int .i64 b2], .slice ao n cap] w fun e w' => e = .returned (.bool true) ∧ Below w.heap.size w w' := by
  have HV : Hid (DigVars w) := hv
  have HR : Hid (BytesAt w ao zs) := h
  have HN : Hid (n = zs.length) := hn
  unfold maxLen at hm
  clear hv h hn
  go_enter Tryd.func5, Tryd.ntmps5
  go_wp2_with fail
  have B0 : Hid (Box ((w.alloc (.cells #[.int .i64 a1, .int .i64 a2] 23)).alloc (.cells #[.int .i64 b1, .int .i64 b2] 23)) w.heap.size a1 a2) := (Box.new rfl).alloc _
  have B1 : Hid (Box ((w.alloc (.cells #[.int .i64 a1, .int .i64 a2] 23)).alloc (.cells #[.int .i64 b1, .int .i64 b2] 23)) (w.heap.size + 1) b1 b2) := Box.new (by simp)
  have HG : Hid (Grew w ((w.alloc (.cells #[.int .i64 a1, .int .i64 a2] 23)).alloc (.cells #[.int .i64 b1, .int .i64 b2] 23))) := ((Grew.refl _).alloc _).alloc _
  generalize (w.alloc (.cells #[.int .i64 a1, .int .i64 a2] 23)).alloc (.cells #[.int .i64 b1, .int .i64 b2] 23) = W at *
  refine (plain_any W (HV.out.kept HG.out.below)).mono ?_
  rintro e w1 ⟨rfl, g⟩
  have C0 : Hid (Box w1 w.heap.size a1 a2) := B0.out.grew g
  have C1 : Hid (Box w1 (w.heap.size + 1) b1 b2) := B1.out.grew g
  have HG1 : Hid (Grew w w1) := HG.out.trans g
  clear g B0 B1 HG HV
  by_cases h10 : n = 10
  · subst h10
    have KB := keyBytes_from HN.out.symm HR.out.1
    have hfe : fromK zs = fromB zs ∧ fromE zs = 0 := by
      have := HN.out
      unfold fromK fromE; rw [if_pos (by omega), if_neg (by omega), if_neg (by omega)]; exact ⟨rfl, rfl⟩
    obtain ⟨T, r, hT, hTl⟩ : ∃ (T : Nat) (r : Int), fromB zs = ((T : Int), r) ∧ T ≤ 65535 := by
      have := (isKey_iff' _).1 KB.1
      exact ⟨(fromB zs).1.toNat, (fromB zs).2, by rw [Int.toNat_of_nonneg this.1], by omega⟩
    rw [hT] at KB
    go_wp2_with fail
    refine (fromBytes_any w1 ao cap 10 zs HN.out (bytesAt_grew HR.out HG1.out) hnc (by simp [maxLen])).mono ?_
    rintro e w2 ⟨rfl, g⟩
    rw [hfe.1, hfe.2, hT]
    have D0 : Hid (Box w2 w.heap.size a1 a2) := C0.out.grew g
    have D1 : Hid (Box w2 (w.heap.size + 1) b1 b2) := C1.out.grew g
    have HG2 : Hid (Grew w w2) := HG1.out.trans g
    have HK : Hid _ := KB
    clear g C0 C1 HG1 hfe hT KB
    go_wp2_with fail
    have E0 : Hid (Box (w2.alloc (.cells #[.int .i64 (T : Int), .int .i64 r] 23)) w.heap.size a1 a2) := D0.out.alloc _
    have E1 : Hid (Box (w2.alloc (.cells #[.int .i64 (T : Int), .int .i64 r] 23)) (w.heap.size + 1) b1 b2) := D1.out.alloc _
    have HG3 : Hid (Grew w (w2.alloc (.cells #[.int .i64 (T : Int), .int .i64 r] 23))) := HG2.out.alloc _
    generalize w2.alloc (.cells #[.int .i64 (T : Int), .int .i64 r] 23) = W3 at *
    refine (bytes_key W3 T r hTl HK.out.2.1).mono ?_
    rintro e w4 ⟨Z, rfl, hZ, hZs, rZ, g⟩
    rw [HK.out.2.2] at rZ
    have F0 : Hid (Box w4 w.heap.size a1 a2) := E0.out.grew g
    have F1 : Hid (Box w4 (w.heap.size + 1) b1 b2) := E1.out.grew g
    have HG4 : Hid (Grew w w4) := HG3.out.trans g
    have RZ : Hid (BytesAt w4 (some ⟨Z, 0, none⟩) zs) := row_bytes rZ HR.out.1
    clear g E0 E1 HG3 hZ hZs rZ HG2 D0 D1
    go_wp2_with (go_at_call 8; refine (num_any' _ _).mono ?_; rintro e w' ⟨rfl, rfl⟩)
    refine (same_any w4 (some ⟨Z, 0, none⟩) ao 10 cap 10 10 zs zs HN.out HN.out RZ.out (bytesAt_grew HR.out HG4.out) (by rw [← HN.out]; simp [maxLen])).mono ?_
    rintro e w5 ⟨rfl, nn, rfl⟩
    rw [show decide (zs = zs) = true by simp]
    have hh : True := trivial
    have B0 : Hid (Box (w4.drewN nn) w.heap.size a1 a2) := (F0.out.grew ((Grew.refl _).drewN nn))
    have B1 : Hid (Box (w4.drewN nn) (w.heap.size + 1) b1 b2) := (F1.out.grew ((Grew.refl _).drewN nn))
    have HG : Hid (Grew w (w4.drewN nn)) := HG4.out.drewN nn
    clear hh F0 F1 HG4 RZ HK
    obtain ⟨p1, p2⟩ := B0.out
    obtain ⟨p3, p4⟩ := B1.out
    by_cases ka : isKey (a1, a2) = true
    · by_cases kb : isKey (b1, b2) = true
      · have HCa : Hid (∀ w, Calls Tryd.prog 13 #[.agg #[.int .i64 a1, .int .i64 a2]] w fun e w' => e = .returned (.int .i64 0) ∧ ∃ q os, w' = grow (w.drewN q) os) := fun w => by
          have := check_any w a1 a2; rwa [ka] at this
        have HCb : Hid (∀ w, Calls Tryd.prog 13 #[.agg #[.int .i64 b1, .int .i64 b2]] w fun e w' => e = .returned (.int .i64 0) ∧ ∃ q os, w' = grow (w.drewN q) os) := fun w => by
          have := check_any w b1 b2; rwa [kb] at this
        have HKa : Hid (isKey (a1, a2) = true) := ka
        have HKb : Hid (isKey (b1, b2) = true) := kb
        clear ka kb
        go_wp2_with fail
        refine (HCa.out (w4.drewN nn)).mono ?_
        rintro e w10 ⟨rfl, g⟩
        have C0 : Hid (Box w10 w.heap.size a1 a2) := B0.out.grew g
        have C1 : Hid (Box w10 (w.heap.size + 1) b1 b2) := B1.out.grew g
        have HG10 : Hid (Grew w w10) := HG.out.trans g
        clear g p1 p2 p3 p4 B0 B1 HG
        obtain ⟨p1, p2⟩ := C0.out
        obtain ⟨p3, p4⟩ := C1.out
        go_wp2_with fail
        refine (num_any' _ _).mono ?_
        rintro e w11 ⟨rfl, rfl⟩
        go_wp2_with fail
        refine (HCb.out w10).mono ?_
        rintro e w12 ⟨rfl, g⟩
        have B0 : Hid (Box w12 w.heap.size a1 a2) := C0.out.grew g
        have B1 : Hid (Box w12 (w.heap.size + 1) b1 b2) := C1.out.grew g
        have HG12 : Hid (Grew w w12) := HG10.out.trans g
        clear g p1 p2 p3 p4 C0 C1 HG10
        obtain ⟨p1, p2⟩ := B0.out
        obtain ⟨p3, p4⟩ := B1.out
        go_wp2_with fail
        refine (num_any' _ _).mono ?_
        rintro e w13 ⟨rfl, rfl⟩
        obtain ⟨A1, rfl⟩ := Int.eq_ofNat_of_zero_le ((isKey_iff _ _).1 HKa.out).1
        obtain ⟨D1, rfl⟩ := Int.eq_ofNat_of_zero_le ((isKey_iff _ _).1 HKb.out).1
        have hA1 : A1 ≤ 65535 := by have := ((isKey_iff _ _).1 HKa.out).2; omega
        have hD1 : D1 ≤ 65535 := by have := ((isKey_iff _ _).1 HKb.out).2; omega
        go_wp2_with fail
        refine (bytes_key w12 A1 a2 hA1 ia2).mono ?_
        rintro e w14 ⟨X, rfl, hX, hXs, rX, g⟩
        have C0 : Hid (Box w14 w.heap.size A1 a2) := B0.out.grew g
        have C1 : Hid (Box w14 (w.heap.size + 1) D1 b2) := B1.out.grew g
        have HG14 : Hid (Grew w w14) := HG12.out.trans g
        have RX : Hid (w14.heap[X]? = some (.cells (cellsU8 (keyBytes ((A1 : Int), a2))) 52 (0, 0))) := rX
        clear g p1 p2 p3 p4 B0 B1 HG12 hX hXs rX
        obtain ⟨p1, p2⟩ := C0.out
        obtain ⟨p3, p4⟩ := C1.out
        go_wp2_with fail
        refine (bytes_key w14 D1 b2 hD1 ib2).mono ?_
        rintro e w15 ⟨Y, rfl, hY, hYs, rY, g⟩
        have B0 : Hid (Box w15 w.heap.size A1 a2) := C0.out.grew g
        have B1 : Hid (Box w15 (w.heap.size + 1) D1 b2) := C1.out.grew g
        have HG15 : Hid (Grew w w15) := HG14.out.trans g
        have RX' : Hid (w15.heap[X]? = some (.cells (cellsU8 (keyBytes ((A1 : Int), a2))) 52 (0, 0))) := by rw [Hid, g.heap (Array.getElem?_eq_some_iff.1 RX.out).1]; exact RX.out
        have RY : Hid (w15.heap[Y]? = some (.cells (cellsU8 (keyBytes ((D1 : Int), b2))) 52 (0, 0))) := rY
        clear g p1 p2 p3 p4 C0 C1 HG14 hY hYs rY RX
        obtain ⟨p1, p2⟩ := B0.out
        obtain ⟨p3, p4⟩ := B1.out
        go_wp2_with (go_at_call 8; refine (num_any' _ _).mono ?_; rintro e w' ⟨rfl, rfl⟩)
        have lx := keyBytes_length ((A1 : Int), a2)
        have ly := keyBytes_length ((D1 : Int), b2)
        have bx := keyBytes_lt HKa.out
        have by' := keyBytes_lt HKb.out
        have fx := from_keyBytes HKa.out ia2
        have HLT : Hid _ := num_lt_key HKa.out HKb.out ia2 ib2
        have HGT : Hid _ := num_lt_key HKb.out HKa.out ib2 ia2
        have HEQ : Hid _ := keyBytes_inj HKa.out HKb.out ia2 ib2
        refine (fromBytes_any w15 (some ⟨X, 0, none⟩) 10 10 (keyBytes ((A1 : Int), a2)) lx.symm (row_bytes RX'.out bx) (Nat.le_refl _) (by simp [maxLen])).mono ?_
        rintro e w16 ⟨rfl, g⟩
        rw [fx.1, fx.2]
        have C0 : Hid (Box w16 w.heap.size A1 a2) := B0.out.grew g
        have C1 : Hid (Box w16 (w.heap.size + 1) D1 b2) := B1.out.grew g
        have HG16 : Hid (Grew w w16) := HG15.out.trans g
        have RX : Hid (w16.heap[X]? = some (.cells (cellsU8 (keyBytes ((A1 : Int), a2))) 52 (0, 0))) := by rw [Hid, g.heap (Array.getElem?_eq_some_iff.1 RX'.out).1]; exact RX'.out
        have RY' : Hid (w16.heap[Y]? = some (.cells (cellsU8 (keyBytes ((D1 : Int), b2))) 52 (0, 0))) := by rw [Hid, g.heap (Array.getElem?_eq_some_iff.1 RY.out).1]; exact RY.out
        have hne := run_neKey (A1 : Int) a2 (A1 : Int) a2
        have hgd := fun op x y => run_eqGuard op x y (A1 : Int) a2 (A1 : Int) a2
        rw [show decide (((A1 : Int), a2) = ((A1 : Int), a2)) = true by simp] at hne
        clear g p1 p2 p3 p4 B0 B1 HG15 RX' RY
        have q1 := ((Box.grew C0.out ((Grew.refl _).alloc (.cells #[.int .i64 (A1 : Int), .int .i64 a2] 23)))).1
        have q2 := ((Box.grew C0.out ((Grew.refl _).alloc (.cells #[.int .i64 (A1 : Int), .int .i64 a2] 23)))).2
        have q3 := ((Box.grew C1.out ((Grew.refl _).alloc (.cells #[.int .i64 (A1 : Int), .int .i64 a2] 23)))).1
        have q4 := ((Box.grew C1.out ((Grew.refl _).alloc (.cells #[.int .i64 (A1 : Int), .int .i64 a2] 23)))).2
        have RX' : Hid _ := row_bytes (w := w16.alloc (.cells #[.int .i64 (A1 : Int), .int .i64 a2] 23)) (by rw [heap_alloc_old _ _ (Array.getElem?_eq_some_iff.1 RX.out).1]; exact RX.out) bx
        have RY : Hid _ := row_bytes (w := w16.alloc (.cells #[.int .i64 (A1 : Int), .int .i64 a2] 23)) (by rw [heap_alloc_old _ _ (Array.getElem?_eq_some_iff.1 RY'.out).1]; exact RY'.out) by'
        have HG17 : Hid (Grew w (w16.alloc (.cells #[.int .i64 (A1 : Int), .int .i64 a2] 23))) := HG16.out.alloc _
        go_wp2_with (go_at_call 8; refine (num_any' _ _).mono ?_; rintro e w' ⟨rfl, rfl⟩)
        refine (compare_any _ (A1 : Int) a2 (D1 : Int) b2).mono ?_
        rintro e w18 ⟨rfl, g⟩
        have HG18 : Hid (Grew w w18) := HG17.out.trans g
        have RX : Hid _ := bytesAt_grew RX'.out g
        have RY' : Hid _ := bytesAt_grew RY.out g
        clear g q1 q2 q3 q4 hne hgd HCa HCb C0 C1 HG16 HG17 RX' RY
        have KT : cmp ((A1 : Int), a2) ((D1 : Int), b2) = -1 ∧ lt ((A1 : Int), a2) ((D1 : Int), b2) = true ∧ lt ((D1 : Int), b2) ((A1 : Int), a2) = false ∧ decide (((A1 : Int), a2) = ((D1 : Int), b2)) = false ∨ cmp ((A1 : Int), a2) ((D1 : Int), b2) = 0 ∧ lt ((A1 : Int), a2) ((D1 : Int), b2) = false ∧ lt ((D1 : Int), b2) ((A1 : Int), a2) = false ∧ decide (((A1 : Int), a2) = ((D1 : Int), b2)) = true ∨ cmp ((A1 : Int), a2) ((D1 : Int), b2) = 1 ∧ lt ((A1 : Int), a2) ((D1 : Int), b2) = false ∧ lt ((D1 : Int), b2) ((A1 : Int), a2) = true ∧ decide (((A1 : Int), a2) = ((D1 : Int), b2)) = false := cmp_cases _ _
        have cX : Hid (∀ j, j < (keyBytes ((A1 : Int), a2)).length → w18.cell? ⟨X, 0 + j, none⟩ = some (.int .u8 (((keyBytes ((A1 : Int), a2)).getD j 0 : Nat) : Int))) := bytes_cells RX.out (by rw [lx]; omega)
        have cY : Hid (∀ j, j < (keyBytes ((D1 : Int), b2)).length → w18.cell? ⟨Y, 0 + j, none⟩ = some (.int .u8 (((keyBytes ((D1 : Int), b2)).getD j 0 : Nat) : Int))) := bytes_cells RY'.out (by rw [ly]; omega)
        have HB1 : Hid (∀ n, Calls Tryd.prog 15 #[.slice (some ⟨X, 0, none⟩) 10 10, .slice (some ⟨Y, 0, none⟩) 10 10] (w18.drewN n) fun e w' => e = .returned (.bool (lt ((A1 : Int), a2) ((D1 : Int), b2))) ∧ ∃ m, w' = w18.drewN m) := fun n => by
          have := below_any (w18.drewN n) X 0 10 Y 0 10 _ _ (lx.trans ly.symm) (by simp [maxLen, lx]) bx by' cX.out cY.out
          rw [lx, HLT.out] at this; exact this.mono fun e w' ⟨h1, m, h2⟩ => ⟨h1, n + m, by rw [h2, World.drewN_drewN]⟩
        have HB2 : Hid (∀ n, Calls Tryd.prog 15 #[.slice (some ⟨Y, 0, none⟩) 10 10, .slice (some ⟨X, 0, none⟩) 10 10] (w18.drewN n) fun e w' => e = .returned (.bool (lt ((D1 : Int), b2) ((A1 : Int), a2))) ∧ ∃ m, w' = w18.drewN m) := fun n => by
          have := below_any (w18.drewN n) Y 0 10 X 0 10 _ _ (ly.trans lx.symm) (by simp [maxLen, ly]) by' bx cY.out cX.out
          rw [ly, HGT.out] at this; exact this.mono fun e w' ⟨h1, m, h2⟩ => ⟨h1, n + m, by rw [h2, World.drewN_drewN]⟩
        have HB3 : Hid (∀ n, Calls Tryd.prog 12 #[.slice (some ⟨X, 0, none⟩) 10 10, .slice (some ⟨Y, 0, none⟩) 10 10] (w18.drewN n) fun e w' => e = .returned (.bool (decide (((A1 : Int), a2) = ((D1 : Int), b2)))) ∧ ∃ m, w' = w18.drewN m) := fun n => by
          have := same_any (w18.drewN n) (some ⟨X, 0, none⟩) (some ⟨Y, 0, none⟩) 10 10 10 10 _ _ lx.symm ly.symm RX.out RY'.out (by simp [maxLen, lx])
          rw [HEQ.out] at this; exact this.mono fun e w' ⟨h1, m, h2⟩ => ⟨h1, n + m, by rw [h2, World.drewN_drewN]⟩
        generalize cmp ((A1 : Int), a2) ((D1 : Int), b2) = cc at *
        generalize lt ((A1 : Int), a2) ((D1 : Int), b2) = l1 at *
        generalize lt ((D1 : Int), b2) ((A1 : Int), a2) = l2 at *
        generalize decide (((A1 : Int), a2) = ((D1 : Int), b2)) = l3 at *
        clear lx ly bx by' fx HLT HGT HEQ cX cY RX RY'
        rcases KT with ⟨rfl, rfl, rfl, rfl⟩ | ⟨rfl, rfl, rfl, rfl⟩ | ⟨rfl, rfl, rfl, rfl⟩
        all_goals
          go_wp2_with fail
          refine (HB1.out 0).mono ?_
          rintro e w19 ⟨rfl, n1, rfl⟩
          go_wp2_with fail
          refine (HB2.out n1).mono ?_
          rintro e w20 ⟨rfl, n2, rfl⟩
          go_wp2_with fail
          refine (HB3.out n2).mono ?_
          rintro e w21 ⟨rfl, n3, rfl⟩
          go_wp2
          go_ret
          exact ⟨rfl, (HG18.out.drewN _).below⟩
      · have HCa : Hid (∀ w, Calls Tryd.prog 13 #[.agg #[.int .i64 a1, .int .i64 a2]] w fun e w' => e = .returned (.int .i64 0) ∧ ∃ q os, w' = grow (w.drewN q) os) := fun w => by
          have := check_any w a1 a2; rwa [ka] at this
        have HCb : Hid (∀ w, Calls Tryd.prog 13 #[.agg #[.int .i64 b1, .int .i64 b2]] w fun e w' => e = .returned (.int .i64 20) ∧ ∃ q os, w' = grow (w.drewN q) os) := fun w => by
          have := check_any w b1 b2; rwa [show isKey (b1, b2) = false by simpa using kb] at this
        clear ka kb
        go_wp2_with fail
        refine (HCa.out (w4.drewN nn)).mono ?_
        rintro e w10 ⟨rfl, g⟩
        have C1 : Hid (Box w10 (w.heap.size + 1) b1 b2) := B1.out.grew g
        have HG10 : Hid (Grew w w10) := HG.out.trans g
        clear g p1 p2 p3 p4 B0 B1 HG
        obtain ⟨p3, p4⟩ := C1.out
        go_wp2_with fail
        refine (num_any' _ _).mono ?_
        rintro e w11 ⟨rfl, rfl⟩
        go_wp2_with fail
        refine (HCb.out w10).mono ?_
        rintro e w12 ⟨rfl, g⟩
        have HG12 : Hid (Grew w w12) := HG10.out.trans g
        clear g
        go_wp2_with fail
        refine (num_any' _ _).mono ?_
        rintro e w13 ⟨rfl, rfl⟩
        go_wp2
        go_ret
        exact ⟨rfl, HG12.out.below⟩
    · have HCa : Hid (∀ w, Calls Tryd.prog 13 #[.agg #[.int .i64 a1, .int .i64 a2]] w fun e w' => e = .returned (.int .i64 20) ∧ ∃ q os, w' = grow (w.drewN q) os) := fun w => by
        have := check_any w a1 a2; rwa [show isKey (a1, a2) = false by simpa using ka] at this
      clear ka
      go_wp2_with fail
      refine (HCa.out (w4.drewN nn)).mono ?_
      rintro e w10 ⟨rfl, g⟩
      have HG10 : Hid (Grew w w10) := HG.out.trans g
      clear g
      go_wp2_with fail
      refine (num_any' _ _).mono ?_
      rintro e w11 ⟨rfl, rfl⟩
      go_wp2
      go_ret
      exact ⟨rfl, HG10.out.below⟩
  · have h10' : ((n : Int) == 10) = false := by simp; omega
    have hh : True := trivial
    have B0 : Hid (Box w1 w.heap.size a1 a2) := C0.out
    have B1 : Hid (Box w1 (w.heap.size + 1) b1 b2) := C1.out
    have HG : Hid (Grew w w1) := HG1.out
    clear hh C0 C1 HG1
    obtain ⟨p1, p2⟩ := B0.out
    obtain ⟨p3, p4⟩ := B1.out
    by_cases ka : isKey (a1, a2) = true
    · by_cases kb : isKey (b1, b2) = true
      · have HCa : Hid (∀ w, Calls Tryd.prog 13 #[.agg #[.int .i64 a1, .int .i64 a2]] w fun e w' => e = .returned (.int .i64 0) ∧ ∃ q os, w' = grow (w.drewN q) os) := fun w => by
          have := check_any w a1 a2; rwa [ka] at this
        have HCb : Hid (∀ w, Calls Tryd.prog 13 #[.agg #[.int .i64 b1, .int .i64 b2]] w fun e w' => e = .returned (.int .i64 0) ∧ ∃ q os, w' = grow (w.drewN q) os) := fun w => by
          have := check_any w b1 b2; rwa [kb] at this
        have HKa : Hid (isKey (a1, a2) = true) := ka
        have HKb : Hid (isKey (b1, b2) = true) := kb
        clear ka kb
        go_wp2_with fail
        refine (HCa.out w1).mono ?_
        rintro e w10 ⟨rfl, g⟩
        have C0 : Hid (Box w10 w.heap.size a1 a2) := B0.out.grew g
        have C1 : Hid (Box w10 (w.heap.size + 1) b1 b2) := B1.out.grew g
        have HG10 : Hid (Grew w w10) := HG.out.trans g
        clear g p1 p2 p3 p4 B0 B1 HG
        obtain ⟨p1, p2⟩ := C0.out
        obtain ⟨p3, p4⟩ := C1.out
        go_wp2_with fail
        refine (num_any' _ _).mono ?_
        rintro e w11 ⟨rfl, rfl⟩
        go_wp2_with fail
        refine (HCb.out w10).mono ?_
        rintro e w12 ⟨rfl, g⟩
        have B0 : Hid (Box w12 w.heap.size a1 a2) := C0.out.grew g
        have B1 : Hid (Box w12 (w.heap.size + 1) b1 b2) := C1.out.grew g
        have HG12 : Hid (Grew w w12) := HG10.out.trans g
        clear g p1 p2 p3 p4 C0 C1 HG10
        obtain ⟨p1, p2⟩ := B0.out
        obtain ⟨p3, p4⟩ := B1.out
        go_wp2_with fail
        refine (num_any' _ _).mono ?_
        rintro e w13 ⟨rfl, rfl⟩
        obtain ⟨A1, rfl⟩ := Int.eq_ofNat_of_zero_le ((isKey_iff _ _).1 HKa.out).1
        obtain ⟨D1, rfl⟩ := Int.eq_ofNat_of_zero_le ((isKey_iff _ _).1 HKb.out).1
        have hA1 : A1 ≤ 65535 := by have := ((isKey_iff _ _).1 HKa.out).2; omega
        have hD1 : D1 ≤ 65535 := by have := ((isKey_iff _ _).1 HKb.out).2; omega
        go_wp2_with fail
        refine (bytes_key w12 A1 a2 hA1 ia2).mono ?_
        rintro e w14 ⟨X, rfl, hX, hXs, rX, g⟩
        have C0 : Hid (Box w14 w.heap.size A1 a2) := B0.out.grew g
        have C1 : Hid (Box w14 (w.heap.size + 1) D1 b2) := B1.out.grew g
        have HG14 : Hid (Grew w w14) := HG12.out.trans g
        have RX : Hid (w14.heap[X]? = some (.cells (cellsU8 (keyBytes ((A1 : Int), a2))) 52 (0, 0))) := rX
        clear g p1 p2 p3 p4 B0 B1 HG12 hX hXs rX
        obtain ⟨p1, p2⟩ := C0.out
        obtain ⟨p3, p4⟩ := C1.out
        go_wp2_with fail
        refine (bytes_key w14 D1 b2 hD1 ib2).mono ?_
        rintro e w15 ⟨Y, rfl, hY, hYs, rY, g⟩
        have B0 : Hid (Box w15 w.heap.size A1 a2) := C0.out.grew g
        have B1 : Hid (Box w15 (w.heap.size + 1) D1 b2) := C1.out.grew g
        have HG15 : Hid (Grew w w15) := HG14.out.trans g
        have RX' : Hid (w15.heap[X]? = some (.cells (cellsU8 (keyBytes ((A1 : Int), a2))) 52 (0, 0))) := by rw [Hid, g.heap (Array.getElem?_eq_some_iff.1 RX.out).1]; exact RX.out
        have RY : Hid (w15.heap[Y]? = some (.cells (cellsU8 (keyBytes ((D1 : Int), b2))) 52 (0, 0))) := rY
        clear g p1 p2 p3 p4 C0 C1 HG14 hY hYs rY RX
        obtain ⟨p1, p2⟩ := B0.out
        obtain ⟨p3, p4⟩ := B1.out
        go_wp2_with (go_at_call 8; refine (num_any' _ _).mono ?_; rintro e w' ⟨rfl, rfl⟩)
        have lx := keyBytes_length ((A1 : Int), a2)
        have ly := keyBytes_length ((D1 : Int), b2)
        have bx := keyBytes_lt HKa.out
        have by' := keyBytes_lt HKb.out
        have fx := from_keyBytes HKa.out ia2
        have HLT : Hid _ := num_lt_key HKa.out HKb.out ia2 ib2
        have HGT : Hid _ := num_lt_key HKb.out HKa.out ib2 ia2
        have HEQ : Hid _ := keyBytes_inj HKa.out HKb.out ia2 ib2
        refine (fromBytes_any w15 (some ⟨X, 0, none⟩) 10 10 (keyBytes ((A1 : Int), a2)) lx.symm (row_bytes RX'.out bx) (Nat.le_refl _) (by simp [maxLen])).mono ?_
        rintro e w16 ⟨rfl, g⟩
        rw [fx.1, fx.2]
        have C0 : Hid (Box w16 w.heap.size A1 a2) := B0.out.grew g
        have C1 : Hid (Box w16 (w.heap.size + 1) D1 b2) := B1.out.grew g
        have HG16 : Hid (Grew w w16) := HG15.out.trans g
        have RX : Hid (w16.heap[X]? = some (.cells (cellsU8 (keyBytes ((A1 : Int), a2))) 52 (0, 0))) := by rw [Hid, g.heap (Array.getElem?_eq_some_iff.1 RX'.out).1]; exact RX'.out
        have RY' : Hid (w16.heap[Y]? = some (.cells (cellsU8 (keyBytes ((D1 : Int), b2))) 52 (0, 0))) := by rw [Hid, g.heap (Array.getElem?_eq_some_iff.1 RY.out).1]; exact RY.out
        have hne := run_neKey (A1 : Int) a2 (A1 : Int) a2
        have hgd := fun op x y => run_eqGuard op x y (A1 : Int) a2 (A1 : Int) a2
        rw [show decide (((A1 : Int), a2) = ((A1 : Int), a2)) = true by simp] at hne
        clear g p1 p2 p3 p4 B0 B1 HG15 RX' RY
        have q1 := ((Box.grew C0.out ((Grew.refl _).alloc (.cells #[.int .i64 (A1 : Int), .int .i64 a2] 23)))).1
        have q2 := ((Box.grew C0.out ((Grew.refl _).alloc (.cells #[.int .i64 (A1 : Int), .int .i64 a2] 23)))).2
        have q3 := ((Box.grew C1.out ((Grew.refl _).alloc (.cells #[.int .i64 (A1 : Int), .int .i64 a2] 23)))).1
        have q4 := ((Box.grew C1.out ((Grew.refl _).alloc (.cells #[.int .i64 (A1 : Int), .int .i64 a2] 23)))).2
        have RX' : Hid _ := row_bytes (w := w16.alloc (.cells #[.int .i64 (A1 : Int), .int .i64 a2] 23)) (by rw [heap_alloc_old _ _ (Array.getElem?_eq_some_iff.1 RX.out).1]; exact RX.out) bx
        have RY : Hid _ := row_bytes (w := w16.alloc (.cells #[.int .i64 (A1 : Int), .int .i64 a2] 23)) (by rw [heap_alloc_old _ _ (Array.getElem?_eq_some_iff.1 RY'.out).1]; exact RY'.out) by'
        have HG17 : Hid (Grew w (w16.alloc (.cells #[.int .i64 (A1 : Int), .int .i64 a2] 23))) := HG16.out.alloc _
        go_wp2_with (go_at_call 8; refine (num_any' _ _).mono ?_; rintro e w' ⟨rfl, rfl⟩)
        refine (compare_any _ (A1 : Int) a2 (D1 : Int) b2).mono ?_
        rintro e w18 ⟨rfl, g⟩
        have HG18 : Hid (Grew w w18) := HG17.out.trans g
        have RX : Hid _ := bytesAt_grew RX'.out g
        have RY' : Hid _ := bytesAt_grew RY.out g
        clear g q1 q2 q3 q4 hne hgd HCa HCb C0 C1 HG16 HG17 RX' RY
        have KT : cmp ((A1 : Int), a2) ((D1 : Int), b2) = -1 ∧ lt ((A1 : Int), a2) ((D1 : Int), b2) = true ∧ lt ((D1 : Int), b2) ((A1 : Int), a2) = false ∧ decide (((A1 : Int), a2) = ((D1 : Int), b2)) = false ∨ cmp ((A1 : Int), a2) ((D1 : Int), b2) = 0 ∧ lt ((A1 : Int), a2) ((D1 : Int), b2) = false ∧ lt ((D1 : Int), b2) ((A1 : Int), a2) = false ∧ decide (((A1 : Int), a2) = ((D1 : Int), b2)) = true ∨ cmp ((A1 : Int), a2) ((D1 : Int), b2) = 1 ∧ lt ((A1 : Int), a2) ((D1 : Int), b2) = false ∧ lt ((D1 : Int), b2) ((A1 : Int), a2) = true ∧ decide (((A1 : Int), a2) = ((D1 : Int), b2)) = false := cmp_cases _ _
        have cX : Hid (∀ j, j < (keyBytes ((A1 : Int), a2)).length → w18.cell? ⟨X, 0 + j, none⟩ = some (.int .u8 (((keyBytes ((A1 : Int), a2)).getD j 0 : Nat) : Int))) := bytes_cells RX.out (by rw [lx]; omega)
        have cY : Hid (∀ j, j < (keyBytes ((D1 : Int), b2)).length → w18.cell? ⟨Y, 0 + j, none⟩ = some (.int .u8 (((keyBytes ((D1 : Int), b2)).getD j 0 : Nat) : Int))) := bytes_cells RY'.out (by rw [ly]; omega)
        have HB1 : Hid (∀ n, Calls Tryd.prog 15 #[.slice (some ⟨X, 0, none⟩) 10 10, .slice (some ⟨Y, 0, none⟩) 10 10] (w18.drewN n) fun e w' => e = .returned (.bool (lt ((A1 : Int), a2) ((D1 : Int), b2))) ∧ ∃ m, w' = w18.drewN m) := fun n => by
          have := below_any (w18.drewN n) X 0 10 Y 0 10 _ _ (lx.trans ly.symm) (by simp [maxLen, lx]) bx by' cX.out cY.out
          rw [lx, HLT.out] at this; exact this.mono fun e w' ⟨h1, m, h2⟩ => ⟨h1, n + m, by rw [h2, World.drewN_drewN]⟩
        have HB2 : Hid (∀ n, Calls Tryd.prog 15 #[.slice (some ⟨Y, 0, none⟩) 10 10, .slice (some ⟨X, 0, none⟩) 10 10] (w18.drewN n) fun e w' => e = .returned (.bool (lt ((D1 : Int), b2) ((A1 : Int), a2))) ∧ ∃ m, w' = w18.drewN m) := fun n => by
          have := below_any (w18.drewN n) Y 0 10 X 0 10 _ _ (ly.trans lx.symm) (by simp [maxLen, ly]) by' bx cY.out cX.out
          rw [ly, HGT.out] at this; exact this.mono fun e w' ⟨h1, m, h2⟩ => ⟨h1, n + m, by rw [h2, World.drewN_drewN]⟩
        have HB3 : Hid (∀ n, Calls Tryd.prog 12 #[.slice (some ⟨X, 0, none⟩) 10 10, .slice (some ⟨Y, 0, none⟩) 10 10] (w18.drewN n) fun e w' => e = .returned (.bool (decide (((A1 : Int), a2) = ((D1 : Int), b2)))) ∧ ∃ m, w' = w18.drewN m) := fun n => by
          have := same_any (w18.drewN n) (some ⟨X, 0, none⟩) (some ⟨Y, 0, none⟩) 10 10 10 10 _ _ lx.symm ly.symm RX.out RY'.out (by simp [maxLen, lx])
          rw [HEQ.out] at this; exact this.mono fun e w' ⟨h1, m, h2⟩ => ⟨h1, n + m, by rw [h2, World.drewN_drewN]⟩
        generalize cmp ((A1 : Int), a2) ((D1 : Int), b2) = cc at *
        generalize lt ((A1 : Int), a2) ((D1 : Int), b2) = l1 at *
        generalize lt ((D1 : Int), b2) ((A1 : Int), a2) = l2 at *
        generalize decide (((A1 : Int), a2) = ((D1 : Int), b2)) = l3 at *
        clear lx ly bx by' fx HLT HGT HEQ cX cY RX RY'
        rcases KT with ⟨rfl, rfl, rfl, rfl⟩ | ⟨rfl, rfl, rfl, rfl⟩ | ⟨rfl, rfl, rfl, rfl⟩
        all_goals
          go_wp2_with fail
          refine (HB1.out 0).mono ?_
          rintro e w19 ⟨rfl, n1, rfl⟩
          go_wp2_with fail
          refine (HB2.out n1).mono ?_
          rintro e w20 ⟨rfl, n2, rfl⟩
          go_wp2_with fail
          refine (HB3.out n2).mono ?_
          rintro e w21 ⟨rfl, n3, rfl⟩
          go_wp2
          go_ret
          exact ⟨rfl, (HG18.out.drewN _).below⟩
      · have HCa : Hid (∀ w, Calls Tryd.prog 13 #[.agg #[.int .i64 a1, .int .i64 a2]] w fun e w' => e = .returned (.int .i64 0) ∧ ∃ q os, w' = grow (w.drewN q) os) := fun w => by
          have := check_any w a1 a2; rwa [ka] at this
        have HCb : Hid (∀ w, Calls Tryd.prog 13 #[.agg #[.int .i64 b1, .int .i64 b2]] w fun e w' => e = .returned (.int .i64 20) ∧ ∃ q os, w' = grow (w.drewN q) os) := fun w => by
          have := check_any w b1 b2; rwa [show isKey (b1, b2) = false by simpa using kb] at this
        clear ka kb
        go_wp2_with fail
        refine (HCa.out w1).mono ?_
        rintro e w10 ⟨rfl, g⟩
        have C1 : Hid (Box w10 (w.heap.size + 1) b1 b2) := B1.out.grew g
        have HG10 : Hid (Grew w w10) := HG.out.trans g
        clear g p1 p2 p3 p4 B0 B1 HG
        obtain ⟨p3, p4⟩ := C1.out
        go_wp2_with fail
        refine (num_any' _ _).mono ?_
        rintro e w11 ⟨rfl, rfl⟩
        go_wp2_with fail
        refine (HCb.out w10).mono ?_
        rintro e w12 ⟨rfl, g⟩
        have HG12 : Hid (Grew w w12) := HG10.out.trans g
        clear g
        go_wp2_with fail
        refine (num_any' _ _).mono ?_
        rintro e w13 ⟨rfl, rfl⟩
        go_wp2
        go_ret
        exact ⟨rfl, HG12.out.below⟩
    · have HCa : Hid (∀ w, Calls Tryd.prog 13 #[.agg #[.int .i64 a1, .int .i64 a2]] w fun e w' => e = .returned (.int .i64 20) ∧ ∃ q os, w' = grow (w.drewN q) os) := fun w => by
        have := check_any w a1 a2; rwa [show isKey (a1, a2) = false by simpa using ka] at this
      clear ka
      go_wp2_with fail
      refine (HCa.out w1).mono ?_
      rintro e w10 ⟨rfl, g⟩
      have HG10 : Hid (Grew w w10) := HG.out.trans g
      clear g
      go_wp2_with fail
      refine (num_any' _ _).mono ?_
      rintro e w11 ⟨rfl, rfl⟩
      go_wp2
      go_ret
      exact ⟨rfl, HG10.out.below⟩

end Go.Proofs.YtnjgaibcpcpmcabDoor
