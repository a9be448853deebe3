import Derived.Test.YtiiplikmoodfnaaGreatDoorKAEnd
/-
  A PROCEDURE's FIRST LINE: its words.
-/
namespace Go.Proofs.YtiiplikmoodfnaaGreatDoor
open Go.RowKit Go.Sort

/-- the numbers' words -/
def KwAt (W : World) : Prop := ∀ i, i < 4 → W.cell? ⟨1, i, none⟩ = some (.string (S (kwN i)))
theorem KwAt.fra {M B : Nat} {W W' : World} (h : KwAt W) (hb : FrA M B W W') (hB : B < M) (hg : 8 ≤ B) : KwAt W' := fun i hi => by
  have h1 := h i hi
  have h2 := hb.block 1 (by omega) (by omega)
  simp only [World.cell?] at h1 ⊢
  rw [h2]
  exact h1
set_option maxRecDepth 100000 in
theorem idxKw (i : Nat) (hi : i < 4) : ∀ w, (Go.Instr.index 134 (.agg #[.string (S (kwN 0)), .string (S (kwN 1)), .string (S (kwN 2)), .string (S (kwN 3))]) (.int .i64 (i : Int))).run Tryz.prog w = .ok (.string (S (kwN i))) w := by
  obtain rfl | rfl | rfl | rfl : i = 0 ∨ i = 1 ∨ i = 2 ∨ i = 3 := by omega
  all_goals exact fun _ => by kernel_rfl
theorem n4_set (ns : List Int) (z : Int) (h : ns.length < 4) : (n4 ns).setIfInBounds ns.length (.int .i64 z) = n4 (ns ++ [z]) := by
  match ns, h with
  | [], _ => rfl
  | [_], _ => rfl
  | [_, _], _ => rfl
  | [_, _, _], _ => rfl
theorem must_next {t : List UInt8} {rd rd' : Rd} (h : rMust t rd = .ok rd') : ∃ x : Wd, rNext rd = .ok (x, rd') := by
  unfold rMust at h
  cases h1 : rNext rd with
  | error e => rw [h1] at h; cases h
  | ok p =>
    obtain ⟨x, r1⟩ := p
    rw [h1] at h
    simp only at h
    split at h
    · simp only [Except.ok.injEq] at h; exact ⟨x, by rw [h]⟩
    · cases h
theorem rFour_up {rd : Rd} {i : Nat} {e : Er} (h : rFour rd i = .error e) : ∀ m, i ≤ m → rFour rd m = .error e := fun m hm => by
  induction m with
  | zero => rw [show i = 0 by omega] at h; exact h
  | succ m ih =>
    by_cases h1 : i ≤ m
    · unfold rFour; rw [ih h1]
    · obtain rfl : i = m + 1 := by omega
      exact h
def frstE (a : As) (line : Nat) (ws : List Wd) : Except (Nat × Nat × Int) As :=
  match firstA a line ws with
  | .error e => .error (line, e)
  | .ok a' => .ok a'
set_option maxRecDepth 100000 in
set_option maxHeartbeats 4000000 in
theorem readFirst_any (w : World) (M B line k : Nat) (a : As) (Ps : List Pr) (vl vn vm vj : Value) (r : Nat) (x : Wd) (rest : List Wd) (h : ASt w M B line a Ps vl vn vm vj) (hz : AsSz a k) (hR : RB (ZA M B) w r (x :: rest, 0)) (hs : SmallW (x :: rest)) (hr : M ≤ r) (hwl : ∀ y ∈ x :: rest, y.1.length ≤ 65536) (hv : NumVars w) (hn : KwAt w) (hB : 8 ≤ B) :
    Calls Tryz.prog 27 #[.pointer (some ⟨B, 0, none⟩), .pointer (some ⟨r, 0, none⟩)] w fun e w' => LinePost w M B line (frstE a line (x :: rest)) e w' := by
  have HR := hidA hR
  have HA := hidA h
  have HZ := hidA hz
  have HV := hidA hv
  have HN := hidA hn
  have HS := hidA hs
  have HWl := hidA hwl
  have hM := h.bm.2
  have hBM := h.bm.1
  obtain ⟨a0, c, h1, h2, h3, h4⟩ := hR
  have x0 : w.cell? ⟨r, 0, none⟩ = some (.slice a0 (x :: rest).length c) := by simp [World.cell?, h1]
  rcases h2 with h2 | ⟨b, off, rfl, hc⟩
  · simp [wcs] at h2
  have z0 : w.cell? ⟨b, off, none⟩ = some (.string (S x.1)) := hc 0 _ rfl
  have z1 : w.cell? ⟨b, off + 1, none⟩ = some (.int .i64 (x.2 : Int)) := hc 1 _ rfl
  simp only [List.length_cons] at x0
  have hl := hs.2
  simp only [List.length_cons] at hl
  have HSp := hidA (spot_any w B line a.begun.1 a.begun.2 vl vn vm vj a.opn h.ab x)
  clear h1 h3 h4 hc h hz hs hwl hv hn
  go_enter Tryz.func27, Tryz.ntmps27
  go_wp2_with fail
  refine HSp.out.mono ?_
  rintro e w1 ⟨rfl, hb1⟩
  have HA1 := hidA (HA.out.below hb1)
  have HF1 : Hid (FrR M B w w1) := FrR.bel hb1 hM
  clear hb1 x0 z0 z1 HSp
  obtain ⟨_, _, _, _, x4, x5, _, _⟩ := HA1.out.ab.cells
  have f4 := HA1.out.ab.frozen 4
  have f5 := HA1.out.ab.frozen 5
  obtain ⟨W2, hW2⟩ : ∃ W2, W2 = (w1.setCell ⟨B, 4, none⟩ (.int .i64 (line : Int))).setCell ⟨B, 5, none⟩ (.int .i64 (x.2 : Int)) := ⟨_, rfl⟩
  have HA2 : Hid (ASt W2 M B line { a with begun := (line, x.2) } Ps vl vn vm vj) := by show ASt _ _ _ _ _ _ _ _ _ _; rw [hW2]; exact HA1.out.begun line x.2
  have hnr : ∀ (W : World), (∃ l b2 u o v1 v2 v3 v4, AB W B l v1 v2 o b2 u v3 v4) → ∀ cur t, RI t → W.heap[B]? ≠ some (.cells cur t (0, 0)) := fun W ⟨l, b2, u, o, v1, v2, v3, v4, hAB⟩ cur t ht e => by
    rw [show W.heap[B]? = _ from hAB] at e
    simp only [Option.some.injEq, Obj.cells.injEq] at e
    rcases ht with h | h <;> exact absurd (e.2.1.trans h) (by decide)
  have HF2 : Hid (FrR M B w W2) := by
    show FrR _ _ _ _
    rw [hW2]
    exact HF1.out.trans ((FrR.set (M := M) (B := B) ⟨B, 4, none⟩ _ (.inl rfl) (hnr _ ⟨_, _, _, _, _, _, _, _, HA1.out.ab⟩)).trans (FrR.set ⟨B, 5, none⟩ _ (.inl rfl) (hnr _ ⟨_, _, _, _, _, _, _, _, (HA1.out.beg1 line).ab⟩)))
  have HR2 := hidA (HR.out.frr HF2.out)
  have hM2 : M ≤ W2.heap.size := HA2.out.bm.2
  have HMu := hidA (must_any W2 r procL (x :: rest, 0) HR2.out HS.out)
  go_upto_region 2 with fail
  rw [← hW2]
  clear hW2 x4 x5 f4 f5 HA1 HF1 HA HR hnr
  have ep : ByteArray.mk #[112, 114, 111, 99] = S procL := rfl
  rw [ep]
  clear ep
  go_wp2_with fail
  refine HMu.out.mono ?_
  rintro e w3 (⟨v, col, n, h1, rfl, h3, h4⟩ | ⟨rd1, h1, rfl, h3, h4⟩)
  · obtain ⟨p, rfl⟩ := err_iface h3
    have HE : Hid (LinePost w M B line (frstE a line (x :: rest)) (.returned (.iface 63 p)) w3) := .inl ⟨_, (line, col, n), rfl, .inl ⟨h3, rfl⟩, by unfold frstE firstA; rw [h1], HF2.out.fr.trans (FrA.bx h4 hM2 hr)⟩
    clear h1 h3 h4 HMu
    go_wp2_with fail
    go_ret
    exact HE.out
  have HE1 := hidA h1
  have HS1 : Hid (SmallW rd1.1 ∧ ∀ y ∈ rd1.1, y ∈ x :: rest) := by
    obtain ⟨x', h5⟩ := must_next h1
    exact small_next h5 HS.out
  have HR3 := hidA h3
  have HA3 := hidA (HA2.out.bx HR2.out h4)
  have HF3 : Hid (FrA M B w w3) := HF2.out.fr.trans (FrA.bx h4 hM2 hr)
  have hM3 : M ≤ w3.heap.size := HA3.out.bm.2
  have HNx := hidA (next_any w3 r rd1 HR3.out HS1.out.1)
  clear h1 h3 h4 HMu HA2 HR2 HF2 HS
  go_wp2_with fail
  refine HNx.out.mono ?_
  rintro e w4 (⟨v, col, h1, rfl, h3, h5, h4⟩ | ⟨nm, rd2, h1, rfl, h3, h4⟩)
  · obtain ⟨p, rfl⟩ := err_iface h3
    have HE : Hid (LinePost w M B line (frstE a line (x :: rest)) (.returned (.iface 63 p)) (w4.alloc (.cells #[.string ⟨#[]⟩, .int .i64 0] 83))) := .inl ⟨_, (line, col, 40), rfl, .inl ⟨h3.kept (bel_al _ _), rfl⟩, by unfold frstE firstA; rw [HE1.out]; simp only; rw [h1], (HF3.out.trans (FrA.bx h4 hM3 hr)).trans (FrA.bel (bel_al _ _) (Nat.le_trans hM3 h4.size))⟩
    clear h1 h3 h4 h5 HNx
    go_wp2_with fail
    go_ret
    exact HE.out
  have HE2 := hidA h1
  have HS2 : Hid (SmallW rd2.1 ∧ nm ∈ x :: rest) := ⟨(small_next h1 HS1.out.1).1, HS1.out.2 _ (by
    obtain ⟨ws, bh⟩ := rd1
    obtain ⟨ws', bh'⟩ := rd2
    obtain ⟨e1, _⟩ := next_inv h1
    rw [e1]; simp)⟩
  have hM4 : M ≤ w4.heap.size := Nat.le_trans hM3 h4.size
  obtain ⟨W5, hW5⟩ : ∃ W5, W5 = (w4.alloc (.cells #[.string (S nm.1), .int .i64 (nm.2 : Int)] 83)).alloc (.cells (n4 []) 133) := ⟨_, rfl⟩
  have hB5 : Go.RowKit.Below w4.heap.size w4 W5 := by rw [hW5]; exact ((Below.refl _ _).alloc (Nat.le_refl _) _).alloc (by simp) _
  have HA5 : Hid (ASt W5 M B line { a with begun := (line, x.2) } Ps vl vn vm vj) := (HA3.out.bx HR3.out h4).below hB5
  have HR5 := hidA (h3.kept hB5)
  have HF5 : Hid (FrA M B w W5) := (HF3.out.trans (FrA.bx h4 hM3 hr)).trans (FrA.bel hB5 hM4)
  have HW5 : Hid (WB W5 w4.heap.size (.string (S nm.1)) (.int .i64 (nm.2 : Int))) := by show WB _ _ _ _; rw [hW5]; exact (heap_alloc_old _ _ (by simp)).trans (heap_alloc_new _ _ rfl)
  have HN5 : Hid (W5.heap[w4.heap.size + 1]? = some (.cells (n4 []) 133 (0, 0))) := by show _ = _; rw [hW5]; exact heap_alloc_new _ _ (by simp)
  have hrb : r < w4.heap.size := by
    obtain ⟨a1, c1, k1, _⟩ := h3
    exact (Array.getElem?_eq_some_iff.1 k1).1
  clear h1 h3 h4 HNx HA3 HR3 HF3 hB5
  go_upto_region 9 with fail
  have hW5' : W5 = (w4.alloc (.cells #[.string (S nm.1), .int .i64 (nm.2 : Int)] 83)).alloc (.cells #[.int .i64 0, .int .i64 0, .int .i64 0, .int .i64 0] 133) := hW5
  rw [← hW5']
  clear hW5 hW5'
  have hK5 := HN.out.fra HF5.out hBM hB
  have k0 := hK5 0 (by omega)
  have k1 := hK5 1 (by omega)
  have k2 := hK5 2 (by omega)
  have k3 := hK5 3 (by omega)
  clear hK5
  obtain ⟨b5, hb5⟩ : ∃ b5, b5 = w4.heap.size := ⟨_, rfl⟩
  rw [← hb5] at hrb HW5 HN5 ⊢
  clear hb5
  go_wp2_with fail
  clear k0 k1 k2 k3
  go_loopw [39] (fun y wr => ∃ (i : Nat) (ns : List Int) (rd : Rd), i ≤ 4 ∧ y = .int .i64 (i : Int) ∧ Hid (rFour rd2 i = .ok (ns, rd) ∧ ns.length = i ∧ ∀ z ∈ ns, In64 z) ∧ Hid (RB (ZA M B) wr r rd) ∧ Hid (SmallW rd.1) ∧ Hid (ASt wr M B line { a with begun := (line, x.2) } Ps vl vn vm vj) ∧ Hid (FrA M B w wr) ∧ Hid (WB wr b5 (.string (S nm.1)) (.int .i64 (nm.2 : Int))) ∧ Hid (wr.heap[b5 + 1]? = some (.cells (n4 ns) 133 (0, 0)))) (fun y _ => 4 - (intOf y).toNat)
  case atStart => exact ⟨0, [], rd2, by omega, rfl, ⟨rfl, rfl, by simp⟩, HR5, HS2.out.1, HA5, HF5, HW5, HN5⟩
  case round =>
    clear HR5 HA5 HF5 HW5 HN5
    obtain ⟨i, ns, rd, hi, rfl, HFr, HRr, HSr, HAr, HF, HWr, HNr⟩ := hrel
    have hMr : M ≤ wr.heap.size := HAr.out.bm.2
    by_cases h4 : i < 4
    · have h4' : (i : Int) < 4 := by omega
      have hix := idxKw i h4
      have HMu := hidA (must_any wr r (kwN i) rd HRr.out HSr.out)
      go_wp2_with fail
      refine HMu.out.mono ?_
      rintro e w6 (⟨v, col, n, h1, rfl, h3, h4⟩ | ⟨rd3, h1, rfl, h3, h4⟩)
      · obtain ⟨p, rfl⟩ := err_iface h3
        have HE : Hid (LinePost w M B line (frstE a line (x :: rest)) (.returned (.iface 63 p)) w6) := .inl ⟨_, (line, col, n), rfl, .inl ⟨h3, rfl⟩, by
          unfold frstE firstA
          rw [HE1.out]
          simp only
          rw [HE2.out]
          simp only
          rw [rFour_up (i := i + 1) (e := (col, n)) (by unfold rFour; rw [HFr.out.1]; simp only; rw [h1]) 4 (by omega)], HF.out.trans (FrA.bx h4 hMr hr)⟩
        clear h1 h3 h4 HMu
        go_wp2_with fail
        go_ret
        exact HE.out
      have H1 := hidA h1
      have HS3 : Hid (SmallW rd3.1) := by
        obtain ⟨x', h5⟩ := must_next h1
        exact (small_next h5 HSr.out).1
      have HR3 := hidA h3
      have HF6 : Hid (FrA M B w w6) := HF.out.trans (FrA.bx h4 hMr hr)
      have hM6 : M ≤ w6.heap.size := Nat.le_trans hMr h4.size
      have HB6 := hidA h4
      have HNu := hidA (number_rd w6 r rd3 h3 HS3.out (HV.out.fra HF6.out hBM hB) (by omega) (by omega))
      clear h1 h3 h4 HMu
      go_wp2_with fail
      refine HNu.out.mono ?_
      rintro e w7 (⟨v, col, n, h1, rfl, h3, h4⟩ | ⟨z, rd4, h1, rfl, h3, h4⟩)
      · obtain ⟨p, rfl⟩ := err_iface h3
        have HE : Hid (LinePost w M B line (frstE a line (x :: rest)) (.returned (.iface 63 p)) w7) := .inl ⟨_, (line, col, n), rfl, .inl ⟨h3, rfl⟩, by
          unfold frstE firstA
          rw [HE1.out]
          simp only
          rw [HE2.out]
          simp only
          rw [rFour_up (i := i + 1) (e := (col, n)) (by unfold rFour; rw [HFr.out.1]; simp only; rw [H1.out]; simp only; rw [h1]) 4 (by omega)], HF6.out.trans (FrA.bx h4 hM6 hr)⟩
        clear h1 h3 h4 HNu
        go_wp2_with fail
        go_ret
        exact HE.out
      have hb7 : Bx r wr w7 := HB6.out.trans h4
      have HW7 : Hid (WB w7 b5 (.string (S nm.1)) (.int .i64 (nm.2 : Int))) := (hb7.block b5 (Array.getElem?_eq_some_iff.1 HWr.out).1 (by omega)).trans HWr.out
      have hN7 : w7.heap[b5 + 1]? = some (.cells (n4 ns) 133 (0, 0)) := (hb7.block (b5 + 1) (Array.getElem?_eq_some_iff.1 HNr.out).1 (by omega)).trans HNr.out
      have hz := (rNum_in h1).1
      have hlen := HFr.out.2.1
      have q1 : ∃ u, w7.cell? ⟨b5 + 1, i, none⟩ = some u := by
        obtain rfl | rfl | rfl | rfl : i = 0 ∨ i = 1 ∨ i = 2 ∨ i = 3 := by omega
        all_goals exact ⟨_, by simp [World.cell?, hN7, n4]; rfl⟩
      obtain ⟨u, q1⟩ := q1
      have f1 := frozen_of_row w7 (b5 + 1) i _ _ hN7
      have HN8 : Hid ((w7.setCell ⟨b5 + 1, i, none⟩ (.int .i64 z)).heap[b5 + 1]? = some (.cells (n4 (ns ++ [z])) 133 (0, 0))) := by
        have h9 := heap_setCell_same w7 (b5 + 1) i _ _ (.int .i64 z) hN7
        show _ = _
        rw [h9, ← n4_set ns z (by omega), hlen]
      have HF7 : Hid (FrA M B w w7) := HF6.out.trans (FrA.bx h4 hM6 hr)
      have HF8 : Hid (FrA M B w (w7.setCell ⟨b5 + 1, i, none⟩ (.int .i64 z))) := HF7.out.trans (FrA.set _ _ (.inr (by show M ≤ b5 + 1; omega)))
      have HA7 : Hid (ASt w7 M B line { a with begun := (line, x.2) } Ps vl vn vm vj) := (HAr.out.bx HRr.out HB6.out).bx HR3.out h4
      have hso : ∀ (k' : Nat), k' ≠ b5 + 1 → (w7.setCell ⟨b5 + 1, i, none⟩ (.int .i64 z)).heap[k']? = w7.heap[k']? := fun k' hk => heap_setCell_other _ _ _ _ hk
      have HA8 : Hid (ASt (w7.setCell ⟨b5 + 1, i, none⟩ (.int .i64 z)) M B line { a with begun := (line, x.2) } Ps vl vn vm vj) := HA7.out.keep (by simpa using HA7.out.bm.2) (fun k' o hk ho => (hso k' (fun e => by
        rw [e, hN7] at hk
        cases hk
        rcases ho with h | h | h | h | h <;> exact absurd h (by decide))).trans hk)
      have HW8 : Hid (WB (w7.setCell ⟨b5 + 1, i, none⟩ (.int .i64 z)) b5 (.string (S nm.1)) (.int .i64 (nm.2 : Int))) := (hso b5 (by omega)).trans HW7.out
      have HR8 : Hid (RB (ZA M B) (w7.setCell ⟨b5 + 1, i, none⟩ (.int .i64 z)) r rd4) := h3.fra (FrA.set _ _ (.inr (by show M ≤ b5 + 1; omega))) (hso r (by omega))
      have HS8 : Hid (SmallW rd4.1) := by
        obtain ⟨x', h5⟩ := (rNum_in h1).2
        exact (small_next h5 HS3.out).1
      have HFr8 : Hid (rFour rd2 (i + 1) = .ok (ns ++ [z], rd4) ∧ (ns ++ [z]).length = i + 1 ∧ ∀ z' ∈ ns ++ [z], In64 z') := ⟨by unfold rFour; rw [HFr.out.1]; simp only; rw [H1.out]; simp only; rw [h1], by simp; exact hlen, fun z' hz' => by
        rcases List.mem_append.1 hz' with h | h
        · exact HFr.out.2.2 z' h
        · simp only [List.mem_singleton] at h; rw [h]; exact hz⟩
      clear h1 h3 h4 HNu hb7 hN7 hz hlen hso HA7 HW7 HAr HRr HNr HWr HF HF6 HF7 HFr HSr H1 HS3 HR3 HB6
      go_wp2_with fail
      go_roundw
      case rel => exact ⟨i + 1, ns ++ [z], rd4, by omega, by go_num, HFr8, HR8, HS8, HA8, HF8, HW8, HN8⟩
      case measure => simp [intOf]; omega
    · obtain rfl : i = 4 := by omega
      rw [show ((4 : Nat) : Int) = 4 from rfl]
      obtain ⟨n0, n1, n2, n3, rfl⟩ : ∃ n0 n1 n2 n3, ns = [n0, n1, n2, n3] := by
        obtain ⟨_, h9, _⟩ := HFr.out
        match ns, h9 with
        | [n0, n1, n2, n3], _ => exact ⟨n0, n1, n2, n3, rfl⟩
      have HNi : Hid (NIn ⟨n0, n1, n2, n3⟩) := by
        have h9 := HFr.out.2.2
        exact ⟨h9 _ (by simp), h9 _ (by simp), h9 _ (by simp), h9 _ (by simp)⟩
      have HMi : Hid (FMid w wr M B line { a with begun := (line, x.2) } Ps vl vn vm vj r b5 rd nm [n0, n1, n2, n3]) := ⟨HAr.out, HF.out, HRr.out, HWr.out, HNr.out⟩
      clear HAr HF HRr HWr HNr
      obtain ⟨no, nc, rfl, _⟩ := own_slice HMi.out.st.nms
      obtain ⟨nn, hnn⟩ : ∃ nn, nn = a.names.length := ⟨_, rfl⟩
      rw [← hnn] at HMi ⊢
      clear hnn
      have HSS : Hid (∀ W', Go.RowKit.Below wr.heap.size wr W' → W'.cell? ⟨B, 2, none⟩ = some (.slice no nn nc) ∧ W'.cell? ⟨b5, 0, none⟩ = some (.string (S nm.1)) ∧ W'.cell? ⟨b5, 1, none⟩ = some (.int .i64 (nm.2 : Int)) ∧ W'.cell? ⟨b5 + 1, 0, none⟩ = some (.int .i64 n0) ∧ W'.cell? ⟨b5 + 1, 1, none⟩ = some (.int .i64 n1) ∧ W'.cell? ⟨b5 + 1, 2, none⟩ = some (.int .i64 n2) ∧ W'.cell? ⟨b5 + 1, 3, none⟩ = some (.int .i64 n3)) := fun W' hb => by
        have h9 := HMi.out.below hb
        obtain ⟨_, x1, x2, _⟩ := h9.st.ab.cells
        exact ⟨x2, fs_of h9.wb h9.nb⟩
      have HCl : Hid (∀ W', Go.RowKit.Below wr.heap.size wr W' → Calls Tryz.prog 50 #[.pointer (some ⟨B, 0, none⟩), .agg #[.string (S nm.1), .int .i64 (nm.2 : Int)]] W' fun e w' => e = .returned (.agg #[.int .i64 (line : Int), .int .i64 (nm.2 : Int)]) ∧ Go.RowKit.Below wr.heap.size wr w') := fun W' hb =>
        (spot_any W' B line line x.2 vl _ vm vj a.opn (HMi.out.below hb).st.ab nm).mono (fun e w' h => ⟨h.1, hb.trans (h.2.mono hb.size)⟩)
      have HAp : Hid (∀ W', Go.RowKit.Below wr.heap.size wr W' → ∀ ty, ∃ v' w', (Builtin.append_ #[52, 52] ty #[.slice no nn nc, .slice (some ⟨W'.heap.size, 0, none⟩) 1 1]).run Tryz.prog (W'.alloc (.cells #[.int .i64 (line : Int), .int .i64 (nm.2 : Int)] 54)) = .ok v' w' ∧ (∃ o n c, v' = .slice o n c) ∧ w'.cell? ⟨B, 2, none⟩ = some (.slice no nn nc) ∧ w'.frozen? ⟨B, 2, none⟩ = false ∧ (w'.cell? ⟨b5, 0, none⟩ = some (.string (S nm.1)) ∧ w'.cell? ⟨b5, 1, none⟩ = some (.int .i64 (nm.2 : Int)) ∧ w'.cell? ⟨b5 + 1, 0, none⟩ = some (.int .i64 n0) ∧ w'.cell? ⟨b5 + 1, 1, none⟩ = some (.int .i64 n1) ∧ w'.cell? ⟨b5 + 1, 2, none⟩ = some (.int .i64 n2) ∧ w'.cell? ⟨b5 + 1, 3, none⟩ = some (.int .i64 n3)) ∧ ((w'.setCell ⟨B, 2, none⟩ v').cell? ⟨b5, 0, none⟩ = some (.string (S nm.1)) ∧ (w'.setCell ⟨B, 2, none⟩ v').cell? ⟨b5, 1, none⟩ = some (.int .i64 (nm.2 : Int)) ∧ (w'.setCell ⟨B, 2, none⟩ v').cell? ⟨b5 + 1, 0, none⟩ = some (.int .i64 n0) ∧ (w'.setCell ⟨B, 2, none⟩ v').cell? ⟨b5 + 1, 1, none⟩ = some (.int .i64 n1) ∧ (w'.setCell ⟨B, 2, none⟩ v').cell? ⟨b5 + 1, 2, none⟩ = some (.int .i64 n2) ∧ (w'.setCell ⟨B, 2, none⟩ v').cell? ⟨b5 + 1, 3, none⟩ = some (.int .i64 n3)) ∧ Hid (∃ v'', FMid w (w'.setCell ⟨B, 2, none⟩ v') M B line { a with begun := (line, x.2), names := a.names ++ [(line, nm.2)] } Ps vl v'' vm vj r b5 rd nm [n0, n1, n2, n3])) := fun W' hb ty => by
        obtain ⟨v', w', p1, p2, p3, p4, p5, p6, p7⟩ := named_run (HMi.out.below hb) (by have h8 := HZ.out.nms; have h9 := HZ.out.lib; have h7 := HZ.out.top; show a.names.length ≤ 65537; omega) ty
        exact ⟨v', w', p1, p2, p3, p4, p5, p6, ⟨v', p7⟩⟩
      have hbd : Go.RowKit.Below wr.heap.size wr wr.drew := bel_drewN wr 1
      have s1 : wr.drew.cell? ⟨B, 2, none⟩ = some (.slice no nn nc) := (HSS.out _ hbd).1
      go_upto_region 20 with fail
      go_cut [72] (fun _ wx => Hid (∃ v'', FMid w wx M B line { a with begun := (line, x.2), names := a.names ++ [(line, nm.2)] } Ps vl v'' vm vj r b5 rd nm [n0, n1, n2, n3]))
      case first =>
        -- REGION20
        refine wp_region_held_drew (S := fun w' => w'.cell? ⟨b5, 0, none⟩ = some (.string (S nm.1)) ∧ w'.cell? ⟨b5, 1, none⟩ = some (.int .i64 (nm.2 : Int)) ∧ w'.cell? ⟨b5 + 1, 0, none⟩ = some (.int .i64 n0) ∧ w'.cell? ⟨b5 + 1, 1, none⟩ = some (.int .i64 n1) ∧ w'.cell? ⟨b5 + 1, 2, none⟩ = some (.int .i64 n2) ∧ w'.cell? ⟨b5 + 1, 3, none⟩ = some (.int .i64 n3)) (by kernel_rfl) ?_ (fun hHeld => ?_)
        · exact (HSS.out _ hbd).2
        refine wpAnyH_take (i := 0) (v := .pointer (some ⟨B, 0, none⟩)) rfl (by kernel_rfl) (by kernel_rfl) (by kernel_rfl) (fun _ _ _ h => h) (Or.inl ⟨by rfl, by intro w hSw; (try dsimp only at hSw); go_simp⟩) (by assumption) ?_
        refine wpAnyH_take (i := 1) (v := .pointer (some ⟨B, 0, none⟩)) rfl (by kernel_rfl) (by kernel_rfl) (by kernel_rfl) (fun _ _ _ h => h) (Or.inl ⟨by rfl, by intro w hSw; (try dsimp only at hSw); go_simp⟩) (by assumption) ?_
        refine wpAnyH_take (i := 2) (v := .pointer (some ⟨B, 0, none⟩)) rfl (by kernel_rfl) (by kernel_rfl) (by kernel_rfl) (fun _ _ _ h => h) (Or.inl ⟨by rfl, by intro w hSw; (try dsimp only at hSw); go_simp⟩) (by assumption) ?_
        refine wpAnyH_take (i := 3) (v := .pointer (some ⟨B, 2, none⟩)) rfl (by kernel_rfl) (by kernel_rfl) (by kernel_rfl) (fun _ _ _ h => h) (Or.inl ⟨by rfl, by intro w hSw; (try dsimp only at hSw); go_simp⟩) (by assumption) ?_
        refine wpAnyH_take (i := 5) (v := .pointer (some ⟨B, 0, none⟩)) rfl (by kernel_rfl) (by kernel_rfl) (by kernel_rfl) (fun _ _ _ h => h) (Or.inl ⟨by rfl, by intro w hSw; (try dsimp only at hSw); go_simp⟩) (by assumption) ?_
        refine wpAnyH_take (i := 6) (v := .agg #[.string (S nm.1), .int .i64 (nm.2 : Int)]) rfl (by kernel_rfl) (by kernel_rfl) (by kernel_rfl) (fun _ _ _ h => h) (Or.inl ⟨by rfl, by intro w hSw; (try dsimp only at hSw); go_simp⟩) (by assumption) ?_
        refine wpAnyH_ready (rs := [4, 7]) (by kernel_rfl) (by simp) ?_
        refine AllReadyH.cons rfl (fun K hK => ?_) ?_
        · go_simp
          refine hK.out _ _ (by assumption) (fun hHeld => ?_)
          clear hK K
          refine wpAnyH_ready (rs := [7]) (by kernel_rfl) (by simp) ?_
          refine AllReadyH.cons rfl (fun K hK => ?_) ?_
          · go_simp
            refine (HCl.out _ hbd).mono ?_
            rintro e wb ⟨rfl, hbb⟩
            have HBb := hidA hbb
            obtain ⟨b7, hS2⟩ := HSS.out wb hbb
            have hS3 := fun o => (HSS.out (wb.alloc o) (hbb.alloc hbb.size o)).2
            have b7' := fun o => (HSS.out (wb.alloc o) (hbb.alloc hbb.size o)).1
            clear hbb
            go_wp2_with fail
            refine hK.out _ _ (by exact hS2) (fun hHeld => ?_)
            clear hS2
            clear hK K
            refine wpAnyH_ready (rs := [8]) (by kernel_rfl) (by simp) ?_
            refine AllReadyH.cons rfl (fun K hK => ?_) ?_
            · go_simp
              refine hK.out _ _ (by exact hS3 _) (fun hHeld => ?_)
              clear hK K
              refine wpAnyH_ready (rs := [9]) (by kernel_rfl) (by simp) ?_
              refine AllReadyH.cons rfl (fun K hK => ?_) ?_
              · refine step_appA rfl _ _ 52 rfl (.slice no nn nc) (.slice (some ⟨wb.heap.size, 0, none⟩) 1 1) rfl rfl (HAp.out wb HBb.out) ?_
                rintro v' w9 ⟨⟨o9, n9, c9, rfl⟩, t1, t2, t3, t4, HP9⟩
                refine hK.out _ _ (by exact t3) (fun hHeld => ?_)
                clear hK K
                refine wpAnyH_take (i := 10) (v := .pointer (some ⟨B, 0, none⟩)) rfl (by kernel_rfl) (by kernel_rfl) (by kernel_rfl) (fun _ _ _ h => h) (Or.inl ⟨by rfl, by intro w hSw; (try dsimp only at hSw); go_simp⟩) (by assumption) ?_
                refine wpAnyH_take (i := 11) (v := .pointer (some ⟨B, 2, none⟩)) rfl (by kernel_rfl) (by kernel_rfl) (by kernel_rfl) (fun _ _ _ h => h) (Or.inl ⟨by rfl, by intro w hSw; (try dsimp only at hSw); go_simp⟩) (by assumption) ?_
                refine wpAnyH_ready (rs := [12]) (by kernel_rfl) (by simp) ?_
                refine AllReadyH.cons rfl (fun K hK => ?_) ?_
                · go_simp
                  refine hK.out _ _ (by exact t4) (fun hHeld => ?_)
                  clear hK K
                  refine wpAnyH_done (by kernel_rfl) ?_ _
                  go_wp2_with fail
                  go_meet
                  exact HP9
                exact AllReadyH.nil
              exact AllReadyH.nil
            exact AllReadyH.nil
          exact AllReadyH.nil
        refine AllReadyH.cons rfl (fun K hK => ?_) ?_
        · go_simp
          refine (HCl.out _ hbd).mono ?_
          rintro e wb ⟨rfl, hbb⟩
          have HBb := hidA hbb
          obtain ⟨b7, hS2⟩ := HSS.out wb hbb
          have hS3 := fun o => (HSS.out (wb.alloc o) (hbb.alloc hbb.size o)).2
          have b7' := fun o => (HSS.out (wb.alloc o) (hbb.alloc hbb.size o)).1
          clear hbb
          go_wp2_with fail
          refine hK.out _ _ (by exact hS2) (fun hHeld => ?_)
          clear hS2
          clear hK K
          refine wpAnyH_ready (rs := [4, 8]) (by kernel_rfl) (by simp) ?_
          refine AllReadyH.cons rfl (fun K hK => ?_) ?_
          · go_simp
            refine hK.out _ _ (by assumption) (fun hHeld => ?_)
            clear hK K
            refine wpAnyH_ready (rs := [8]) (by kernel_rfl) (by simp) ?_
            refine AllReadyH.cons rfl (fun K hK => ?_) ?_
            · go_simp
              refine hK.out _ _ (by exact hS3 _) (fun hHeld => ?_)
              clear hK K
              refine wpAnyH_ready (rs := [9]) (by kernel_rfl) (by simp) ?_
              refine AllReadyH.cons rfl (fun K hK => ?_) ?_
              · refine step_appA rfl _ _ 52 rfl (.slice no nn nc) (.slice (some ⟨wb.heap.size, 0, none⟩) 1 1) rfl rfl (HAp.out wb HBb.out) ?_
                rintro v' w9 ⟨⟨o9, n9, c9, rfl⟩, t1, t2, t3, t4, HP9⟩
                refine hK.out _ _ (by exact t3) (fun hHeld => ?_)
                clear hK K
                refine wpAnyH_take (i := 10) (v := .pointer (some ⟨B, 0, none⟩)) rfl (by kernel_rfl) (by kernel_rfl) (by kernel_rfl) (fun _ _ _ h => h) (Or.inl ⟨by rfl, by intro w hSw; (try dsimp only at hSw); go_simp⟩) (by assumption) ?_
                refine wpAnyH_take (i := 11) (v := .pointer (some ⟨B, 2, none⟩)) rfl (by kernel_rfl) (by kernel_rfl) (by kernel_rfl) (fun _ _ _ h => h) (Or.inl ⟨by rfl, by intro w hSw; (try dsimp only at hSw); go_simp⟩) (by assumption) ?_
                refine wpAnyH_ready (rs := [12]) (by kernel_rfl) (by simp) ?_
                refine AllReadyH.cons rfl (fun K hK => ?_) ?_
                · go_simp
                  refine hK.out _ _ (by exact t4) (fun hHeld => ?_)
                  clear hK K
                  refine wpAnyH_done (by kernel_rfl) ?_ _
                  go_wp2_with fail
                  go_meet
                  exact HP9
                exact AllReadyH.nil
              exact AllReadyH.nil
            exact AllReadyH.nil
          refine AllReadyH.cons rfl (fun K hK => ?_) ?_
          · go_simp
            refine hK.out _ _ (by exact hS3 _) (fun hHeld => ?_)
            clear hK K
            refine wpAnyH_ready (rs := [4]) (by kernel_rfl) (by simp) ?_
            refine AllReadyH.cons rfl (fun K hK => ?_) ?_
            · go_simp
              refine hK.out _ _ (by assumption) (fun hHeld => ?_)
              clear hK K
              refine wpAnyH_ready (rs := [9]) (by kernel_rfl) (by simp) ?_
              refine AllReadyH.cons rfl (fun K hK => ?_) ?_
              · refine step_appA rfl _ _ 52 rfl (.slice no nn nc) (.slice (some ⟨wb.heap.size, 0, none⟩) 1 1) rfl rfl (HAp.out wb HBb.out) ?_
                rintro v' w9 ⟨⟨o9, n9, c9, rfl⟩, t1, t2, t3, t4, HP9⟩
                refine hK.out _ _ (by exact t3) (fun hHeld => ?_)
                clear hK K
                refine wpAnyH_take (i := 10) (v := .pointer (some ⟨B, 0, none⟩)) rfl (by kernel_rfl) (by kernel_rfl) (by kernel_rfl) (fun _ _ _ h => h) (Or.inl ⟨by rfl, by intro w hSw; (try dsimp only at hSw); go_simp⟩) (by assumption) ?_
                refine wpAnyH_take (i := 11) (v := .pointer (some ⟨B, 2, none⟩)) rfl (by kernel_rfl) (by kernel_rfl) (by kernel_rfl) (fun _ _ _ h => h) (Or.inl ⟨by rfl, by intro w hSw; (try dsimp only at hSw); go_simp⟩) (by assumption) ?_
                refine wpAnyH_ready (rs := [12]) (by kernel_rfl) (by simp) ?_
                refine AllReadyH.cons rfl (fun K hK => ?_) ?_
                · go_simp
                  refine hK.out _ _ (by exact t4) (fun hHeld => ?_)
                  clear hK K
                  refine wpAnyH_done (by kernel_rfl) ?_ _
                  go_wp2_with fail
                  go_meet
                  exact HP9
                exact AllReadyH.nil
              exact AllReadyH.nil
            exact AllReadyH.nil
          exact AllReadyH.nil
        exact AllReadyH.nil
        -- END20
      case rest =>
        obtain ⟨w10, hw10⟩ : ∃ w10, w10 = wc := ⟨_, rfl⟩
        subst hw10
        obtain ⟨vn2, HMj⟩ : ∃ vn2, Hid (FMid w w10 M B line { a with begun := (line, x.2), names := a.names ++ [(line, nm.2)] } Ps vl vn2 vm vj r b5 rd nm [n0, n1, n2, n3]) := hcut.out
        clear hcut HMi HSS HCl HAp hbd s1
        obtain ⟨no, nc, rfl, _⟩ := own_slice HMj.out.st.lib
        obtain ⟨nn, hnn⟩ : ∃ nn, nn = Ps.length := ⟨_, rfl⟩
        rw [← hnn] at HMj
        clear hnn
        have HSS : Hid (∀ W', Go.RowKit.Below w10.heap.size w10 W' → W'.cell? ⟨B, 1, none⟩ = some (.slice no nn nc) ∧ W'.cell? ⟨b5, 0, none⟩ = some (.string (S nm.1)) ∧ W'.cell? ⟨b5, 1, none⟩ = some (.int .i64 (nm.2 : Int)) ∧ W'.cell? ⟨b5 + 1, 0, none⟩ = some (.int .i64 n0) ∧ W'.cell? ⟨b5 + 1, 1, none⟩ = some (.int .i64 n1) ∧ W'.cell? ⟨b5 + 1, 2, none⟩ = some (.int .i64 n2) ∧ W'.cell? ⟨b5 + 1, 3, none⟩ = some (.int .i64 n3)) := fun W' hb => by
          have h9 := HMj.out.below hb
          obtain ⟨_, x1, x2, _⟩ := h9.st.ab.cells
          exact ⟨x1, fs_of h9.wb h9.nb⟩
        have HCl : Hid (∀ W', Go.RowKit.Below w10.heap.size w10 W' → Calls Tryz.prog 53 #[.string (S nm.1)] W' fun e w' => e = .returned (.string (S nm.1)) ∧ Go.RowKit.Below w10.heap.size w10 w') := fun W' hb =>
          (cloneS_any W' (S nm.1) (by rw [S_size]; have := HWl.out _ HS2.out.2; omega)).mono (fun e w' h => ⟨h.1, hb.trans (h.2.mono hb.size)⟩)
        have HAp : Hid (∀ W', Go.RowKit.Below w10.heap.size w10 W' → ∀ ty, ∃ v' w', (Builtin.append_ #[22, 22] ty #[.slice no nn nc, .slice (some ⟨W'.heap.size, 0, none⟩) 1 1]).run Tryz.prog (W'.alloc (.cells #[.string (S nm.1), .int .i64 n0, .int .i64 n1, .int .i64 n2, .int .i64 n3, .slice none 0 0] 72)) = .ok v' w' ∧ (∃ o n c, v' = .slice o n c) ∧ w'.cell? ⟨B, 1, none⟩ = some (.slice no nn nc) ∧ w'.frozen? ⟨B, 1, none⟩ = false ∧ (w'.cell? ⟨b5, 0, none⟩ = some (.string (S nm.1)) ∧ w'.cell? ⟨b5, 1, none⟩ = some (.int .i64 (nm.2 : Int)) ∧ w'.cell? ⟨b5 + 1, 0, none⟩ = some (.int .i64 n0) ∧ w'.cell? ⟨b5 + 1, 1, none⟩ = some (.int .i64 n1) ∧ w'.cell? ⟨b5 + 1, 2, none⟩ = some (.int .i64 n2) ∧ w'.cell? ⟨b5 + 1, 3, none⟩ = some (.int .i64 n3)) ∧ ((w'.setCell ⟨B, 1, none⟩ v').cell? ⟨b5, 0, none⟩ = some (.string (S nm.1)) ∧ (w'.setCell ⟨B, 1, none⟩ v').cell? ⟨b5, 1, none⟩ = some (.int .i64 (nm.2 : Int)) ∧ (w'.setCell ⟨B, 1, none⟩ v').cell? ⟨b5 + 1, 0, none⟩ = some (.int .i64 n0) ∧ (w'.setCell ⟨B, 1, none⟩ v').cell? ⟨b5 + 1, 1, none⟩ = some (.int .i64 n1) ∧ (w'.setCell ⟨B, 1, none⟩ v').cell? ⟨b5 + 1, 2, none⟩ = some (.int .i64 n2) ∧ (w'.setCell ⟨B, 1, none⟩ v').cell? ⟨b5 + 1, 3, none⟩ = some (.int .i64 n3)) ∧ Hid (∃ v'', FMid w (w'.setCell ⟨B, 1, none⟩ v') M B line { a with begun := (line, x.2), names := a.names ++ [(line, nm.2)], lib := a.lib ++ [⟨nm.1, ⟨n0, n1, n2, n3⟩, []⟩] } (Ps ++ [(⟨S nm.1, ⟨n0, n1, n2, n3⟩, none, 0, 0, []⟩ : Pr)]) v'' vn2 vm vj r b5 rd nm [n0, n1, n2, n3])) := fun W' hb ty => by
          obtain ⟨v', w', p1, p2, p3, p4, p5, p6, p7⟩ := proc_run (HMj.out.below hb) (by have h9 := HZ.out.lib; have h7 := HZ.out.top; show a.lib.length ≤ 65537; omega) ⟨HNi.out, HWl.out _ HS2.out.2⟩ ty
          exact ⟨v', w', p1, p2, p3, p4, p5, p6, ⟨v', p7⟩⟩
        have hbd : Go.RowKit.Below w10.heap.size w10 w10.drew := bel_drewN w10 1
        have s1 : w10.drew.cell? ⟨B, 1, none⟩ = some (.slice no nn nc) := (HSS.out _ hbd).1
        go_upto_region 21 with fail
        go_cut [94] (fun _ wx => Hid (∃ v'', FMid w wx M B line { a with begun := (line, x.2), names := a.names ++ [(line, nm.2)], lib := a.lib ++ [⟨nm.1, ⟨n0, n1, n2, n3⟩, []⟩] } (Ps ++ [(⟨S nm.1, ⟨n0, n1, n2, n3⟩, none, 0, 0, []⟩ : Pr)]) v'' vn2 vm vj r b5 rd nm [n0, n1, n2, n3]))
        case first =>
          -- REGION21
          refine wp_region_held_drew (S := fun w' => w'.cell? ⟨b5, 0, none⟩ = some (.string (S nm.1)) ∧ w'.cell? ⟨b5, 1, none⟩ = some (.int .i64 (nm.2 : Int)) ∧ w'.cell? ⟨b5 + 1, 0, none⟩ = some (.int .i64 n0) ∧ w'.cell? ⟨b5 + 1, 1, none⟩ = some (.int .i64 n1) ∧ w'.cell? ⟨b5 + 1, 2, none⟩ = some (.int .i64 n2) ∧ w'.cell? ⟨b5 + 1, 3, none⟩ = some (.int .i64 n3)) (by kernel_rfl) ?_ (fun hHeld => ?_)
          · exact (HSS.out _ hbd).2
          refine wpAnyH_take (i := 0) (v := .pointer (some ⟨B, 0, none⟩)) rfl (by kernel_rfl) (by kernel_rfl) (by kernel_rfl) (fun _ _ _ h => h) (Or.inl ⟨by rfl, by intro w hSw; (try dsimp only at hSw); go_simp⟩) (by assumption) ?_
          refine wpAnyH_take (i := 1) (v := .pointer (some ⟨B, 0, none⟩)) rfl (by kernel_rfl) (by kernel_rfl) (by kernel_rfl) (fun _ _ _ h => h) (Or.inl ⟨by rfl, by intro w hSw; (try dsimp only at hSw); go_simp⟩) (by assumption) ?_
          refine wpAnyH_take (i := 2) (v := .pointer (some ⟨B, 0, none⟩)) rfl (by kernel_rfl) (by kernel_rfl) (by kernel_rfl) (fun _ _ _ h => h) (Or.inl ⟨by rfl, by intro w hSw; (try dsimp only at hSw); go_simp⟩) (by assumption) ?_
          refine wpAnyH_take (i := 3) (v := .pointer (some ⟨B, 1, none⟩)) rfl (by kernel_rfl) (by kernel_rfl) (by kernel_rfl) (fun _ _ _ h => h) (Or.inl ⟨by rfl, by intro w hSw; (try dsimp only at hSw); go_simp⟩) (by assumption) ?_
          refine wpAnyH_take (i := 5) (v := .pointer (some ⟨b5, 0, none⟩)) rfl (by kernel_rfl) (by kernel_rfl) (by kernel_rfl) (fun _ _ _ h => h) (Or.inl ⟨by rfl, by intro w hSw; (try dsimp only at hSw); go_simp⟩) (by assumption) ?_
          refine wpAnyH_take (i := 6) (v := .string (S nm.1)) rfl (by kernel_rfl) (by kernel_rfl) (by kernel_rfl) (fun _ _ _ h => h) (Or.inl ⟨by rfl, by intro w hSw; (try dsimp only at hSw); go_simp⟩) (by assumption) ?_
          refine wpAnyH_take (i := 8) (v := .pointer (some ⟨b5 + 1, 0, none⟩)) rfl (by kernel_rfl) (by kernel_rfl) (by kernel_rfl) (fun _ _ _ h => h) (Or.inl ⟨by rfl, by intro w hSw; (try dsimp only at hSw); go_simp⟩) (by assumption) ?_
          refine wpAnyH_take (i := 9) (v := .int .i64 n0) rfl (by kernel_rfl) (by kernel_rfl) (by kernel_rfl) (fun _ _ _ h => h) (Or.inl ⟨by rfl, by intro w hSw; (try dsimp only at hSw); go_simp⟩) (by assumption) ?_
          refine wpAnyH_take (i := 10) (v := .pointer (some ⟨b5 + 1, 1, none⟩)) rfl (by kernel_rfl) (by kernel_rfl) (by kernel_rfl) (fun _ _ _ h => h) (Or.inl ⟨by rfl, by intro w hSw; (try dsimp only at hSw); go_simp⟩) (by assumption) ?_
          refine wpAnyH_take (i := 11) (v := .int .i64 n1) rfl (by kernel_rfl) (by kernel_rfl) (by kernel_rfl) (fun _ _ _ h => h) (Or.inl ⟨by rfl, by intro w hSw; (try dsimp only at hSw); go_simp⟩) (by assumption) ?_
          refine wpAnyH_take (i := 12) (v := .pointer (some ⟨b5 + 1, 2, none⟩)) rfl (by kernel_rfl) (by kernel_rfl) (by kernel_rfl) (fun _ _ _ h => h) (Or.inl ⟨by rfl, by intro w hSw; (try dsimp only at hSw); go_simp⟩) (by assumption) ?_
          refine wpAnyH_take (i := 13) (v := .int .i64 n2) rfl (by kernel_rfl) (by kernel_rfl) (by kernel_rfl) (fun _ _ _ h => h) (Or.inl ⟨by rfl, by intro w hSw; (try dsimp only at hSw); go_simp⟩) (by assumption) ?_
          refine wpAnyH_take (i := 14) (v := .pointer (some ⟨b5 + 1, 3, none⟩)) rfl (by kernel_rfl) (by kernel_rfl) (by kernel_rfl) (fun _ _ _ h => h) (Or.inl ⟨by rfl, by intro w hSw; (try dsimp only at hSw); go_simp⟩) (by assumption) ?_
          refine wpAnyH_take (i := 15) (v := .int .i64 n3) rfl (by kernel_rfl) (by kernel_rfl) (by kernel_rfl) (fun _ _ _ h => h) (Or.inl ⟨by rfl, by intro w hSw; (try dsimp only at hSw); go_simp⟩) (by assumption) ?_
          refine wpAnyH_take (i := 16) (v := .agg #[.int .i64 n0, .int .i64 n1, .int .i64 n2, .int .i64 n3, .slice none 0 0]) rfl (by kernel_rfl) (by kernel_rfl) (by kernel_rfl) (fun _ _ _ h => h) (Or.inl ⟨by rfl, by intro w hSw; (try dsimp only at hSw); go_simp⟩) (by assumption) ?_
          refine wpAnyH_ready (rs := [4, 7]) (by kernel_rfl) (by simp) ?_
          refine AllReadyH.cons rfl (fun K hK => ?_) ?_
          · go_simp
            refine hK.out _ _ (by assumption) (fun hHeld => ?_)
            clear hK K
            refine wpAnyH_ready (rs := [7]) (by kernel_rfl) (by simp) ?_
            refine AllReadyH.cons rfl (fun K hK => ?_) ?_
            · go_simp
              refine (HCl.out _ hbd).mono ?_
              rintro e wb ⟨rfl, hbb⟩
              have HBb := hidA hbb
              obtain ⟨b7, hS2⟩ := HSS.out wb hbb
              have hS3 := fun o => (HSS.out (wb.alloc o) (hbb.alloc hbb.size o)).2
              have b7' := fun o => (HSS.out (wb.alloc o) (hbb.alloc hbb.size o)).1
              clear hbb
              go_wp2_with fail
              refine hK.out _ _ (by exact hS2) (fun hHeld => ?_)
              clear hS2
              clear hK K
              refine wpAnyH_take (i := 17) (v := .agg #[.string (S nm.1), .int .i64 n0, .int .i64 n1, .int .i64 n2, .int .i64 n3, .slice none 0 0]) rfl (by kernel_rfl) (by kernel_rfl) (by kernel_rfl) (fun _ _ _ h => h) (Or.inl ⟨by rfl, by intro w hSw; (try dsimp only at hSw); go_simp⟩) (by assumption) ?_
              refine wpAnyH_ready (rs := [18]) (by kernel_rfl) (by simp) ?_
              refine AllReadyH.cons rfl (fun K hK => ?_) ?_
              · go_simp
                refine hK.out _ _ (by exact hS3 _) (fun hHeld => ?_)
                clear hK K
                refine wpAnyH_ready (rs := [19]) (by kernel_rfl) (by simp) ?_
                refine AllReadyH.cons rfl (fun K hK => ?_) ?_
                · refine step_appA rfl _ _ 22 rfl (.slice no nn nc) (.slice (some ⟨wb.heap.size, 0, none⟩) 1 1) rfl rfl (HAp.out wb HBb.out) ?_
                  rintro v' w9 ⟨⟨o9, n9, c9, rfl⟩, t1, t2, t3, t4, HP9⟩
                  refine hK.out _ _ (by exact t3) (fun hHeld => ?_)
                  clear hK K
                  refine wpAnyH_take (i := 20) (v := .pointer (some ⟨B, 0, none⟩)) rfl (by kernel_rfl) (by kernel_rfl) (by kernel_rfl) (fun _ _ _ h => h) (Or.inl ⟨by rfl, by intro w hSw; (try dsimp only at hSw); go_simp⟩) (by assumption) ?_
                  refine wpAnyH_take (i := 21) (v := .pointer (some ⟨B, 1, none⟩)) rfl (by kernel_rfl) (by kernel_rfl) (by kernel_rfl) (fun _ _ _ h => h) (Or.inl ⟨by rfl, by intro w hSw; (try dsimp only at hSw); go_simp⟩) (by assumption) ?_
                  refine wpAnyH_ready (rs := [22]) (by kernel_rfl) (by simp) ?_
                  refine AllReadyH.cons rfl (fun K hK => ?_) ?_
                  · go_simp
                    refine hK.out _ _ (by exact t4) (fun hHeld => ?_)
                    clear hK K
                    refine wpAnyH_done (by kernel_rfl) ?_ _
                    go_wp2_with fail
                    go_meet
                    exact HP9
                  exact AllReadyH.nil
                exact AllReadyH.nil
              exact AllReadyH.nil
            exact AllReadyH.nil
          refine AllReadyH.cons rfl (fun K hK => ?_) ?_
          · go_simp
            refine (HCl.out _ hbd).mono ?_
            rintro e wb ⟨rfl, hbb⟩
            have HBb := hidA hbb
            obtain ⟨b7, hS2⟩ := HSS.out wb hbb
            have hS3 := fun o => (HSS.out (wb.alloc o) (hbb.alloc hbb.size o)).2
            have b7' := fun o => (HSS.out (wb.alloc o) (hbb.alloc hbb.size o)).1
            clear hbb
            go_wp2_with fail
            refine hK.out _ _ (by exact hS2) (fun hHeld => ?_)
            clear hS2
            clear hK K
            refine wpAnyH_take (i := 17) (v := .agg #[.string (S nm.1), .int .i64 n0, .int .i64 n1, .int .i64 n2, .int .i64 n3, .slice none 0 0]) rfl (by kernel_rfl) (by kernel_rfl) (by kernel_rfl) (fun _ _ _ h => h) (Or.inl ⟨by rfl, by intro w hSw; (try dsimp only at hSw); go_simp⟩) (by assumption) ?_
            refine wpAnyH_ready (rs := [4, 18]) (by kernel_rfl) (by simp) ?_
            refine AllReadyH.cons rfl (fun K hK => ?_) ?_
            · go_simp
              refine hK.out _ _ (by assumption) (fun hHeld => ?_)
              clear hK K
              refine wpAnyH_ready (rs := [18]) (by kernel_rfl) (by simp) ?_
              refine AllReadyH.cons rfl (fun K hK => ?_) ?_
              · go_simp
                refine hK.out _ _ (by exact hS3 _) (fun hHeld => ?_)
                clear hK K
                refine wpAnyH_ready (rs := [19]) (by kernel_rfl) (by simp) ?_
                refine AllReadyH.cons rfl (fun K hK => ?_) ?_
                · refine step_appA rfl _ _ 22 rfl (.slice no nn nc) (.slice (some ⟨wb.heap.size, 0, none⟩) 1 1) rfl rfl (HAp.out wb HBb.out) ?_
                  rintro v' w9 ⟨⟨o9, n9, c9, rfl⟩, t1, t2, t3, t4, HP9⟩
                  refine hK.out _ _ (by exact t3) (fun hHeld => ?_)
                  clear hK K
                  refine wpAnyH_take (i := 20) (v := .pointer (some ⟨B, 0, none⟩)) rfl (by kernel_rfl) (by kernel_rfl) (by kernel_rfl) (fun _ _ _ h => h) (Or.inl ⟨by rfl, by intro w hSw; (try dsimp only at hSw); go_simp⟩) (by assumption) ?_
                  refine wpAnyH_take (i := 21) (v := .pointer (some ⟨B, 1, none⟩)) rfl (by kernel_rfl) (by kernel_rfl) (by kernel_rfl) (fun _ _ _ h => h) (Or.inl ⟨by rfl, by intro w hSw; (try dsimp only at hSw); go_simp⟩) (by assumption) ?_
                  refine wpAnyH_ready (rs := [22]) (by kernel_rfl) (by simp) ?_
                  refine AllReadyH.cons rfl (fun K hK => ?_) ?_
                  · go_simp
                    refine hK.out _ _ (by exact t4) (fun hHeld => ?_)
                    clear hK K
                    refine wpAnyH_done (by kernel_rfl) ?_ _
                    go_wp2_with fail
                    go_meet
                    exact HP9
                  exact AllReadyH.nil
                exact AllReadyH.nil
              exact AllReadyH.nil
            refine AllReadyH.cons rfl (fun K hK => ?_) ?_
            · go_simp
              refine hK.out _ _ (by exact hS3 _) (fun hHeld => ?_)
              clear hK K
              refine wpAnyH_ready (rs := [4]) (by kernel_rfl) (by simp) ?_
              refine AllReadyH.cons rfl (fun K hK => ?_) ?_
              · go_simp
                refine hK.out _ _ (by assumption) (fun hHeld => ?_)
                clear hK K
                refine wpAnyH_ready (rs := [19]) (by kernel_rfl) (by simp) ?_
                refine AllReadyH.cons rfl (fun K hK => ?_) ?_
                · refine step_appA rfl _ _ 22 rfl (.slice no nn nc) (.slice (some ⟨wb.heap.size, 0, none⟩) 1 1) rfl rfl (HAp.out wb HBb.out) ?_
                  rintro v' w9 ⟨⟨o9, n9, c9, rfl⟩, t1, t2, t3, t4, HP9⟩
                  refine hK.out _ _ (by exact t3) (fun hHeld => ?_)
                  clear hK K
                  refine wpAnyH_take (i := 20) (v := .pointer (some ⟨B, 0, none⟩)) rfl (by kernel_rfl) (by kernel_rfl) (by kernel_rfl) (fun _ _ _ h => h) (Or.inl ⟨by rfl, by intro w hSw; (try dsimp only at hSw); go_simp⟩) (by assumption) ?_
                  refine wpAnyH_take (i := 21) (v := .pointer (some ⟨B, 1, none⟩)) rfl (by kernel_rfl) (by kernel_rfl) (by kernel_rfl) (fun _ _ _ h => h) (Or.inl ⟨by rfl, by intro w hSw; (try dsimp only at hSw); go_simp⟩) (by assumption) ?_
                  refine wpAnyH_ready (rs := [22]) (by kernel_rfl) (by simp) ?_
                  refine AllReadyH.cons rfl (fun K hK => ?_) ?_
                  · go_simp
                    refine hK.out _ _ (by exact t4) (fun hHeld => ?_)
                    clear hK K
                    refine wpAnyH_done (by kernel_rfl) ?_ _
                    go_wp2_with fail
                    go_meet
                    exact HP9
                  exact AllReadyH.nil
                exact AllReadyH.nil
              exact AllReadyH.nil
            exact AllReadyH.nil
          exact AllReadyH.nil
          -- END21
        case rest =>
          obtain ⟨w11, hw11⟩ : ∃ w11, w11 = wc := ⟨_, rfl⟩
          subst hw11
          obtain ⟨vl2, HMk⟩ : ∃ vl2, Hid (FMid w w11 M B line { a with begun := (line, x.2), names := a.names ++ [(line, nm.2)], lib := a.lib ++ [⟨nm.1, ⟨n0, n1, n2, n3⟩, []⟩] } (Ps ++ [(⟨S nm.1, ⟨n0, n1, n2, n3⟩, none, 0, 0, []⟩ : Pr)]) vl2 vn2 vm vj r b5 rd nm [n0, n1, n2, n3]) := hcut.out
          clear hcut HMj HSS HCl HAp hbd s1
          have hAl := HMk.out.st.below (bel_al w11 (.map #[] 0))
          obtain ⟨_, _, _, x3, _, _, x6, x7⟩ := hAl.ab.cells
          have f3 := hAl.ab.frozen 3
          have f6 := hAl.ab.frozen 6
          have f7 := hAl.ab.frozen 7
          clear hAl
          obtain ⟨W13, hW13⟩ : ∃ W13, W13 = (((w11.alloc (.map #[] 0)).setCell ⟨B, 3, none⟩ (.bool true)).setCell ⟨B, 6, none⟩ (.map (some w11.heap.size))).setCell ⟨B, 7, none⟩ (.slice none 0 0) := ⟨_, rfl⟩
          have hM11 : M ≤ w11.heap.size := HMk.out.st.bm.2
          have hFA : FrA M B w11 W13 := by rw [hW13]; exact (((FrA.bel (bel_al w11 (.map #[] 0)) hM11).trans (FrA.set ⟨B, 3, none⟩ _ (.inl rfl))).trans (FrA.set ⟨B, 6, none⟩ _ (.inl rfl))).trans (FrA.set ⟨B, 7, none⟩ _ (.inl rfl))
          have HF13 : Hid (FrA M B w W13) := HMk.out.fr.trans hFA
          have HA13 : Hid (∃ vm' vj', ASt W13 M B line { a with begun := (line, x.2), names := a.names ++ [(line, nm.2)], lib := a.lib ++ [⟨nm.1, ⟨n0, n1, n2, n3⟩, []⟩], opn := true, labels := [], jumps := [] } (Ps ++ [(⟨S nm.1, ⟨n0, n1, n2, n3⟩, none, 0, 0, []⟩ : Pr)]) vl2 vn2 vm' vj') := by
            refine ⟨.map (some w11.heap.size), .slice none 0 0, ?_⟩
            rw [hW13]
            exact (HMk.out.st.below (bel_al w11 (.map #[] 0))).open_ w11.heap.size hM11 (LM.made w11)
          have HR13 : Hid (RB (ZA M B) W13 r rd) := HMk.out.rb.fra hFA (by
            have hrB : r ≠ B := by omega
            obtain ⟨a1, c1, h1, _⟩ := HMk.out.rb
            rw [hW13]
            exact (heap_setCell_other _ _ _ _ hrB).trans ((heap_setCell_other _ _ _ _ hrB).trans ((heap_setCell_other _ _ _ _ hrB).trans (heap_alloc_old _ _ (Array.getElem?_eq_some_iff.1 h1).1))))
          have hM13 : M ≤ W13.heap.size := Nat.le_trans hM11 hFA.size
          clear hFA HMk
          have hmk : (Instr.makeMap 55 none).run Tryz.prog w11 = .ok (.map (some w11.heap.size)) (w11.alloc (.map #[] 0)) := by simp [Instr.makeMap, Result.andThen]
          go_upto_region 23 with fail
          rw [← hW13]
          clear hW13 x3 x6 x7 f3 f6 f7 hmk
          go_wp2_with fail
          refine (end_any W13 r rd HR13.out HSr.out).mono ?_
          rintro e w14 (⟨v, col, n, h1, rfl, h2, h3⟩ | ⟨h1, rfl, hw14⟩)
          · have HE : Hid (LinePost w M B line (frstE a line (x :: rest)) (.returned v) w14) := .inl ⟨_, (line, col, n), rfl, .inl ⟨h2, rfl⟩, by
              unfold frstE firstA
              rw [HE1.out]
              simp only
              rw [HE2.out]
              simp only
              rw [HFr.out.1]
              simp only
              rw [h1], HF13.out.trans (FrA.bel h3 hM13)⟩
            clear h1 h2 h3
            go_wp2_with fail
            go_ret
            exact HE.out
          · have HE : Hid (LinePost w M B line (frstE a line (x :: rest)) (.returned .nilIface) w14) := by
              obtain ⟨vm', vj', hA13⟩ := HA13.out
              exact .inr ⟨_, _, _, _, _, _, rfl, by
                unfold frstE firstA
                rw [HE1.out]
                simp only
                rw [HE2.out]
                simp only
                rw [HFr.out.1]
                simp only
                rw [h1], by rw [hw14]; exact hA13, by rw [hw14]; exact HF13.out⟩
            clear h1 hw14
            go_wp2_with fail
            go_ret
            exact HE.out
end Go.Proofs.YtiiplikmoodfnaaGreatDoor
