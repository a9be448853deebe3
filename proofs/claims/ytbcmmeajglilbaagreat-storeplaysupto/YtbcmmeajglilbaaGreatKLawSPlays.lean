import Derived.Test.YtbcmmeajglilbaaGreatKSpLr
import Derived.Deep.RegionHeld3
/-
  StorePlays: THE LAW. By gen_lawsplays.py.
-/
namespace Go.Proofs.YtbcmmeajglilbaaGreat
open Go.RowKit Go.Sort

theorem heap_alloc_oldQ {w : World} {k : Nat} (o : Obj) (h : k < w.heap.size) : (w.alloc o).heap[k]? = w.heap[k]? := ((Below.refl w.heap.size w).alloc (Nat.le_refl _) o).block k h
theorem alloc_size (w : World) (o : Obj) : (w.alloc o).heap.size = w.heap.size + 1 := World.size_alloc w o
theorem oq4_in {v : Int} (h1 : -1 ≤ v) (h2 : v ≤ 300000) : OqIn ⟨4, 0, 0, 0, 0, v, 0, false, 0, false⟩ := by
  unfold OqIn KIn In64
  simp only
  omega
theorem newE_ok {p c : Int} (h : newE p c = 0) : (1 ≤ p ∧ p ≤ 256) ∧ 1 ≤ c ∧ c ≤ 65536 := by
  unfold newE at h
  split at h
  · omega
  · split at h
    · omega
    · omega
theorem L1.start {w : World} {pa ca pb cb : Int} {W5 : World} (hW5 : W5 = ((((w.alloc (.cells #[.int .i64 pa, .int .i64 ca] 23)).alloc (.cells #[.int .i64 pb, .int .i64 cb] 23)).alloc (.cells #[.int .i64 pa, .int .i64 ca, .int .i64 pb, .int .i64 cb] 25)).alloc (.cells #[.pointer none, .pointer none] 27)).alloc (.cells #[.pointer none, .pointer none] 29)) :
    L1 w.heap.size (w.heap.size + 1 + 1) (w.heap.size + 1 + 1 + 1) (w.heap.size + 1 + 1 + 1 + 1) pa ca pb cb w W5 := by
  subst hW5
  refine ⟨fun _ => .pointer none, fun _ => .pointer none, fun _ _ => False, ?_, ?_, ?_, ⟨fun t _ => .inl ⟨rfl, rfl, rfl, fun _ h => h⟩, fun _ _ _ _ _ _ h => h.elim, fun _ _ _ h => h.elim⟩, ?_⟩
  · rw [heap_alloc_oldQ _ (by simp only [alloc_size]; omega), heap_alloc_oldQ _ (by simp only [alloc_size]; omega)]
    exact heap_alloc_new _ _ (by simp only [alloc_size])
  · rw [heap_alloc_oldQ _ (by simp only [alloc_size]; omega)]
    exact heap_alloc_new _ _ (by simp only [alloc_size])
  · exact heap_alloc_new _ _ (by simp only [alloc_size])
  · have hb := Below.refl w.heap.size w
    have z := alloc_size
    exact ((((hb.alloc (Nat.le_refl _) _).alloc (by simp only [z]; omega) _).alloc (by simp only [z]; omega) _).alloc (by simp only [z]; omega) _).alloc (by simp only [z]; omega) _
set_option maxRecDepth 100000 in
set_option maxHeartbeats 16000000 in
theorem law_splays (w : World) (pa ca pb cb : Int) (ao : Option Addr) (ns cp : Nat) (l : List Oq) (hn : ns = l.length) (hl : OqsAt w ao l) (hin : ∀ o ∈ l, OqIn o) (hm : ns ≤ 200000) :
    Calls Tryz.prog 3 #[.agg #[.int .i64 pa, .int .i64 ca], .agg #[.int .i64 pb, .int .i64 cb], .slice ao ns cp] w fun e w' => e = .returned (.bool true) ∧ Below w.heap.size w w' := by
  have HA : Hid (OqsAt w ao l ∧ ns = l.length ∧ ∀ o ∈ l, OqIn o) := ⟨hl, hn, hin⟩
  obtain ⟨W5, hW5⟩ : ∃ W5, W5 = ((((w.alloc (.cells #[.int .i64 pa, .int .i64 ca] 23)).alloc (.cells #[.int .i64 pb, .int .i64 cb] 23)).alloc (.cells #[.int .i64 pa, .int .i64 ca, .int .i64 pb, .int .i64 cb] 25)).alloc (.cells #[.pointer none, .pointer none] 27)).alloc (.cells #[.pointer none, .pointer none] 29) := ⟨_, rfl⟩
  obtain ⟨n0, hn0⟩ : ∃ g, g = w.heap.size := ⟨_, rfl⟩
  obtain ⟨g7, hg7⟩ : ∃ g, g = w.heap.size + 1 + 1 := ⟨_, rfl⟩
  obtain ⟨g8, hg8⟩ : ∃ g, g = w.heap.size + 1 + 1 + 1 := ⟨_, rfl⟩
  obtain ⟨g9, hg9⟩ : ∃ g, g = w.heap.size + 1 + 1 + 1 + 1 := ⟨_, rfl⟩
  have HL1 : Hid (L1 n0 g7 g8 g9 pa ca pb cb w W5) := by
    show L1 n0 g7 g8 g9 pa ca pb cb w W5
    rw [hn0, hg7, hg8, hg9]
    exact L1.start hW5
  have HG : Hid (n0 = w.heap.size ∧ g7 ≠ g8 ∧ g7 ≠ g9 ∧ g8 ≠ g9 ∧ n0 ≤ g8 ∧ n0 ≤ g9) := ⟨hn0, by omega, by omega, by omega, by omega, by omega⟩
  clear hl hn hin hn0
  go_enter Tryz.func3, Tryz.ntmps3
  go_wp2_with fail
  rw [← hW5, ← hg9, ← hg8, ← hg7]
  clear hW5 hg9 hg8 hg7
  go_loopw [10, 11, 12, 13, 14] (fun x _ _ _ _ wr => ∃ (i : Nat), i ≤ 2 ∧ x = .int .i64 (i : Int) ∧ Hid (L1 n0 g7 g8 g9 pa ca pb cb w wr)) (fun x _ _ _ _ _ => 2 - (intOf x).toNat)
  case atStart => exact ⟨0, by omega, rfl, HL1⟩
  case round =>
    clear HL1
    obtain ⟨i, hi, rfl, HI⟩ := hrel
    by_cases hlt : i < 2
    · obtain ⟨p, c, hpc⟩ : ∃ p c, ∀ U, Below wr.heap.size wr U → U.cell? ⟨g7, i * 2, none⟩ = some (.int .i64 p) ∧ U.cell? ⟨g7, i * 2 + 1, none⟩ = some (.int .i64 c) := by
        obtain ⟨ss, rs, Xs, h7, _⟩ := HI.out
        obtain rfl | rfl : i = 0 ∨ i = 1 := by omega
        · exact ⟨pa, ca, fun U hU => by have h1 := (hU.block _ (blk_lt h7)).trans h7; constructor <;> simp [World.cell?, h1]⟩
        · exact ⟨pb, cb, fun U hU => by have h1 := (hU.block _ (blk_lt h7)).trans h7; constructor <;> simp [World.cell?, h1]⟩
      have HC := hidS hpc
      obtain ⟨y0, y1⟩ := hpc wr (Below.refl _ _)
      clear hpc
      have HNr : Hid (n0 ≤ wr.heap.size) := by
        obtain ⟨_, _, _, _, _, _, _, hB⟩ := HI.out
        rw [HG.out.1]; exact hB.size
      by_cases hE : newE p c = 0
      · obtain ⟨hp1, hc1⟩ := newE_ok hE
        obtain ⟨n, rfl⟩ : ∃ n : Nat, p = (n : Int) := ⟨p.toNat, by omega⟩
        have hn1 : 1 ≤ n ∧ n ≤ 256 := by omega
        have HS : Hid (Calls Tryz.prog 4 #[.int .i64 (n : Int), .int .i64 c] wr.drew fun e w' => ∃ S, e = .returned (.tuple #[ptr S, .int .i64 0]) ∧ ST 0 (fun k => k < wr.heap.size) w' S n c 0 [] ∧ Below wr.heap.size wr w') := (new_st 0 (fun k => k < wr.heap.size) wr.drew n c hn1.1 hn1.2 hc1 (Nat.zero_le _) (fun k hk => hk)).mono fun e w' ⟨S, a1, a2, a3⟩ => ⟨S, a1, a2, (drew_below wr 1).trans a3⟩
        have HR : Hid (∀ U, Calls Tryz.prog 5 #[.int .i64 (n : Int), .int .i64 c] (World.drew U) fun e w' => ∃ R, e = .returned (.tuple #[ptr R, .int .i64 0]) ∧ R = U.heap.size ∧ RDs w' 0 R n c 0 (.slice none 0 0) [] ∧ Below U.heap.size U w') := fun U => (rnew_ok U.drew 0 n c hn1.1 hn1.2 hc1).mono fun e w' ⟨a1, a2, a3⟩ => ⟨_, a1, rfl, a2, (drew_below U 1).trans a3⟩
        clear hE hp1 hc1 hn1
        go_upto_region 7 with fail
        go_region_held3 (fun w' => w'.cell? ⟨g7, i * 2, none⟩ = some (.int .i64 (n : Int)) ∧ w'.cell? ⟨g7, i * 2 + 1, none⟩ = some (.int .i64 c)) (first | with_reducible exact HQA.out | go_keep) (first
          | (go_at_call 4; with_reducible refine HS.out.mono ?_; rintro e wA ⟨S, rfl, hst, hbA⟩; have HQA := hidC (HC.out _ hbA); have HBA := hidC hbA; have HST := hidC hst; clear hbA hst))
        clear y0 y1 HS
        obtain ⟨y0, y1⟩ := HQA.out
        have HRd := hidS (HR.out wA)
        have HC2 : Hid (∀ U, Below wA.heap.size wA U → U.cell? ⟨g7, i * 2, none⟩ = some (.int .i64 (n : Int)) ∧ U.cell? ⟨g7, i * 2 + 1, none⟩ = some (.int .i64 c)) := fun U hU => HC.out U (HBA.out.trans (hU.mono HBA.out.size))
        clear HR HQA HC
        go_upto_region 8 with fail
        go_region_held3 (fun w' => w'.cell? ⟨g7, i * 2, none⟩ = some (.int .i64 (n : Int)) ∧ w'.cell? ⟨g7, i * 2 + 1, none⟩ = some (.int .i64 c)) (first | with_reducible exact HQB.out | go_keep) (first
          | (go_at_call 5; with_reducible refine HRd.out.mono ?_; rintro e wB ⟨R, rfl, hR, hrd, hbB⟩; have HQB := hidC (HC2.out _ hbB); have HBB := hidC hbB; have HRR := hidC hR; have HRD := hidC hrd; clear hbB hR hrd))
        clear y0 y1 HRd HQB HC2
        obtain ⟨⟨u8, c8⟩, f8, ⟨u9, c9⟩, f9, hL⟩ := HI.out.step (HBA.out.trans (HBB.out.mono HBA.out.size)) HNr.out HG.out.2.1 HG.out.2.2.1 HG.out.2.2.2.1 HG.out.2.2.2.2 hlt (.inr ⟨S, R, n, c, _, _, rfl, rfl, po_new HST.out HBA.out (Nat.le_of_eq HRR.out.symm) HRD.out HBB.out⟩) (fun k hk => hk.1)
        have HF := hidS hL
        clear hL HST HBA HBB HRR HRD HI HNr
        go_wp2_with fail
        go_roundw
        case rel => exact ⟨i + 1, by omega, by go_num, HF⟩
        case measure => simp [intOf]; omega
      · have HS : Hid (Calls Tryz.prog 4 #[.int .i64 p, .int .i64 c] wr.drew fun e w' => e = .returned (.tuple #[.pointer none, .int .i64 (newE p c)]) ∧ Below wr.heap.size wr w') := (snew_bad wr.drew p c hE).mono fun e w' ⟨a1, a3⟩ => ⟨a1, (drew_below wr 1).trans a3⟩
        have HR : Hid (∀ U, Calls Tryz.prog 5 #[.int .i64 p, .int .i64 c] (World.drew U) fun e w' => e = .returned (.tuple #[.pointer none, .int .i64 (newE p c)]) ∧ Below U.heap.size U w') := fun U => (rnew_bad U.drew p c hE).mono fun e w' ⟨a1, a3⟩ => ⟨a1, (drew_below U 1).trans a3⟩
        clear hE
        generalize newE p c = x at *
        go_upto_region 7 with fail
        go_region_held3 (fun w' => w'.cell? ⟨g7, i * 2, none⟩ = some (.int .i64 p) ∧ w'.cell? ⟨g7, i * 2 + 1, none⟩ = some (.int .i64 c)) (first | with_reducible exact HQA.out | go_keep) (first
          | (go_at_call 4; with_reducible refine HS.out.mono ?_; rintro e wA ⟨rfl, hbA⟩; have HQA := hidC (HC.out _ hbA); have HBA := hidC hbA; clear hbA))
        clear y0 y1 HS
        obtain ⟨y0, y1⟩ := HQA.out
        have HRd := hidS (HR.out wA)
        have HC2 : Hid (∀ U, Below wA.heap.size wA U → U.cell? ⟨g7, i * 2, none⟩ = some (.int .i64 p) ∧ U.cell? ⟨g7, i * 2 + 1, none⟩ = some (.int .i64 c)) := fun U hU => HC.out U (HBA.out.trans (hU.mono HBA.out.size))
        clear HR HQA HC
        go_upto_region 8 with fail
        go_region_held3 (fun w' => w'.cell? ⟨g7, i * 2, none⟩ = some (.int .i64 p) ∧ w'.cell? ⟨g7, i * 2 + 1, none⟩ = some (.int .i64 c)) (first | with_reducible exact HQB.out | go_keep) (first
          | (go_at_call 5; with_reducible refine HRd.out.mono ?_; rintro e wB ⟨rfl, hbB⟩; have HQB := hidC (HC2.out _ hbB); have HBB := hidC hbB; clear hbB))
        clear y0 y1 HRd HQB HC2
        obtain ⟨⟨u8, c8⟩, f8, ⟨u9, c9⟩, f9, hL⟩ := HI.out.step (X := fun _ => False) (HBA.out.trans (HBB.out.mono HBA.out.size)) HNr.out HG.out.2.1 HG.out.2.2.1 HG.out.2.2.2.1 HG.out.2.2.2.2 hlt (.inl ⟨rfl, rfl, rfl, fun _ h => h⟩) (fun k hk => hk.elim)
        have HF := hidS hL
        clear hL HBA HBB HI HNr
        go_wp2_with fail
        go_roundw
        case rel => exact ⟨i + 1, by omega, by go_num, HF⟩
        case measure => simp [intOf]; omega
    · have hie : i = 2 := by omega
      subst hie
      rw [show ((2 : Nat) : Int) = 2 from rfl]
      obtain ⟨G, hG⟩ : ∃ G : Nat → Prop, G = fun k => k < n0 ∨ k = g8 ∨ k = g9 := ⟨_, rfl⟩
      obtain ⟨W2, hW2⟩ : ∃ W2, W2 = wr.alloc (.cells #[.slice none 0 0, .slice none 0 0, .slice none 0 0, .slice none 0 0] 39) := ⟨_, rfl⟩
      obtain ⟨B, hB⟩ : ∃ B, B = wr.heap.size := ⟨_, rfl⟩
      obtain ⟨ss, rs, Xs, h7, h8, h9, hLP, hBw⟩ := HI.out
      have hb2 : Below wr.heap.size wr W2 := by rw [hW2]; exact (Below.refl _ _).alloc (Nat.le_refl _) _
      have hz : n0 ≤ wr.heap.size := by rw [HG.out.1]; exact hBw.size
      have HLR : Hid (LR G G B ss rs W2 (fun _ => 0) 0 W2) := by
        have hB2 : W2.heap[B]? = some (.cells #[.slice none 0 0, .slice none 0 0, .slice none 0 0, .slice none 0 0] 39 (0, 0)) := by rw [hW2, hB]; exact heap_alloc_new _ _ rfl
        have hGl : ∀ k, G k → k < wr.heap.size := fun k hk => by
          rw [hG] at hk
          rcases hk with h | rfl | rfl
          · omega
          · exact blk_lt h8
          · exact blk_lt h9
        refine ⟨0, 0, by omega, by omega, ⟨Xs, fun k => k = B, ⟨fun t ht => (hLP.1 t ht).tn (Tn.bel (X := fun _ => False) hb2) (fun _ _ h => h), hLP.2.1, fun t k ht hx hg => hLP.2.2 t k ht hx ?_⟩, bq_new hB2, fun t k ht hx e => ?_, fun k e hg => ?_, fun k hk => Nat.lt_of_lt_of_le (hGl k hk) hb2.size⟩, FrG.bel (Below.refl _ _)⟩
        · rw [hG] at hg
          rcases hg with h | h | h
          · exact .inl h
          · exact .inr (.inr (.inl h))
          · exact .inr (.inr (.inr h))
        · have := (hLP.1 t ht).lt k hx; omega
        · have := hGl k hg; omega
      have HCl : Hid (∀ U, FrG G W2 U → ∀ t, t < 2 → U.cell? ⟨g8, t, none⟩ = some (ss t) ∧ U.cell? ⟨g9, t, none⟩ = some (rs t)) := fun U hU t ht => by
        have k8 := (hU.block _ (Nat.lt_of_lt_of_le (blk_lt h8) hb2.size) (by rw [hG]; exact .inr (.inl rfl))).trans ((hb2.block _ (blk_lt h8)).trans h8)
        have k9 := (hU.block _ (Nat.lt_of_lt_of_le (blk_lt h9) hb2.size) (by rw [hG]; exact .inr (.inr rfl))).trans ((hb2.block _ (blk_lt h9)).trans h9)
        constructor
        · simp only [World.cell?, k8]; exact two_at ht
        · simp only [World.cell?, k9]; exact two_at ht
      have HBw : Hid (∀ U, FrG G W2 U → Below w.heap.size w U) := fun U hU => by
        have h1 : Below n0 w W2 := hBw.trans (hb2.mono hz)
        rw [← HG.out.1]
        exact h1.trans ⟨hU.os, hU.tape, hU.output, hU.size, fun k hk => hU.block k (by have := hb2.size; omega) (by rw [hG]; exact .inl hk)⟩
      have HOp : Hid (∀ U, FrG G W2 U → ∀ i, i < ns → ∃ b off o, ao = some ⟨b, off, none⟩ ∧ OqIn o ∧ ∀ j u, (oqC o)[j]? = some u → U.cell? ⟨b, off + i * 10 + j, none⟩ = some u) := fun U hU i hi => by
        have hil : i < l.length := by rw [← HA.out.2.1]; exact hi
        obtain ⟨b, off, e1, e2⟩ := HA.out.1 i hil
        refine ⟨b, off, l[i], e1, HA.out.2.2 _ (List.getElem_mem hil), fun j u hu => ?_⟩
        have h1 := e2 j u hu
        exact ((HBw.out U hU).cell (p := ⟨b, off + i * 10 + j, none⟩) (cell_lt h1)).trans h1
      have HGb : Hid (∀ k, G k → k < W2.heap.size) := HLR.out.gl
      clear hLP hBw h7 h8 h9 hb2 hz HI hG
      go_wp2_with fail
      rw [← hW2, ← hB]
      clear hW2 hB
      have HM := hidS hm
      go_loopw [16, 17, 18] (fun x _ _ wq => ∃ (i : Nat), i ≤ ns ∧ x = .int .i64 (i : Int) ∧ Hid (∃ ls, (∀ t, t < 2 → ls t ≤ (i : Int)) ∧ LR G G B ss rs W2 ls i wq)) (fun x _ _ _ => ns - (intOf x).toNat)
      case atStart => exact ⟨0, Nat.zero_le _, rfl, fun _ => 0, fun _ _ => by simp, HLR.out⟩
      case round =>
        clear HLR
        obtain ⟨i, hi, rfl, HI⟩ := hrel
        by_cases hlt : i < ns
        · skip
          obtain ⟨ls, hls, hR⟩ := HI.out
          have HR := hidS hR
          have HLs := hidS hls
          obtain ⟨b, off, ⟨kd, k1, k2, ba, ix, v, n, ci, cv, two⟩, rfl, hoq, hcs⟩ := HOp.out wr hR.fr i hlt
          have HOq := hidS hoq
          have d0 : wr.cell? ⟨b, off + i * 10, none⟩ = some (.int .i64 kd) := hcs 0 _ rfl
          have d1 : wr.cell? ⟨b, off + i * 10 + 1, none⟩ = some (.int .i64 k1) := hcs 1 _ rfl
          have d2 : wr.cell? ⟨b, off + i * 10 + 2, none⟩ = some (.int .i64 k2) := hcs 2 _ rfl
          have d3 : wr.cell? ⟨b, off + i * 10 + 3, none⟩ = some (.int .i64 ba) := hcs 3 _ rfl
          have d4 : wr.cell? ⟨b, off + i * 10 + 4, none⟩ = some (.int .i64 ix) := hcs 4 _ rfl
          have d5 : wr.cell? ⟨b, off + i * 10 + 5, none⟩ = some (.int .i64 v) := hcs 5 _ rfl
          have d6 : wr.cell? ⟨b, off + i * 10 + 6, none⟩ = some (.int .i64 n) := hcs 6 _ rfl
          have d7 : wr.cell? ⟨b, off + i * 10 + 7, none⟩ = some (.bool ci) := hcs 7 _ rfl
          have d8 : wr.cell? ⟨b, off + i * 10 + 8, none⟩ = some (.int .i64 cv) := hcs 8 _ rfl
          have d9 : wr.cell? ⟨b, off + i * 10 + 9, none⟩ = some (.bool two) := hcs 9 _ rfl
          have q0 := HCl.out wr hR.fr 0 (by omega)
          have q1 := HCl.out wr hR.fr 1 (by omega)
          obtain ⟨W1, hW1⟩ : ∃ W1, W1 = wr.alloc (.cells #[.int .i64 kd, .int .i64 k1, .int .i64 k2, .int .i64 ba, .int .i64 ix, .int .i64 v, .int .i64 n, .bool ci, .int .i64 cv, .bool two] 45) := ⟨_, rfl⟩
          obtain ⟨g17, hg17⟩ : ∃ g, g = wr.heap.size := ⟨_, rfl⟩
          have hb1 : Below wr.heap.size wr W1 := by rw [hW1]; exact (Below.refl _ _).alloc (Nat.le_refl _) _
          have b17 : W1.heap[g17]? = some (.cells #[.int .i64 kd, .int .i64 k1, .int .i64 k2, .int .i64 ba, .int .i64 ix, .int .i64 v, .int .i64 n, .bool ci, .int .i64 cv, .bool two] 45 (0, 0)) := by rw [hW1, hg17]; exact heap_alloc_new _ _ rfl
          have HR1 : Hid (LR (fun k => G k ∨ k = g17) G B ss rs W2 ls i W1) := HR.out.more hb1 (fun k hk => by
            rcases hk with hk | rfl
            · exact ⟨.inl hk, Nat.lt_of_lt_of_le (HR.out.gl k hk) hb1.size⟩
            · exact ⟨.inr (by omega), blk_lt b17⟩)
          have HBx : Hid (∀ U, FrG (fun k => G k ∨ k = g17) W1 U → U.cell? ⟨g17, 0, none⟩ = some (.int .i64 kd) ∧ U.cell? ⟨g17, 1, none⟩ = some (.int .i64 k1) ∧ U.cell? ⟨g17, 2, none⟩ = some (.int .i64 k2) ∧ U.cell? ⟨g17, 3, none⟩ = some (.int .i64 ba) ∧ U.cell? ⟨g17, 4, none⟩ = some (.int .i64 ix) ∧ U.cell? ⟨g17, 5, none⟩ = some (.int .i64 v) ∧ U.cell? ⟨g17, 6, none⟩ = some (.int .i64 n) ∧ U.cell? ⟨g17, 7, none⟩ = some (.bool ci) ∧ U.cell? ⟨g17, 8, none⟩ = some (.int .i64 cv) ∧ U.cell? ⟨g17, 9, none⟩ = some (.bool two)) := fun U hU => by
            have h1 := (hU.block _ (blk_lt b17) (.inr rfl)).trans b17
            refine ⟨?_, ?_, ?_, ?_, ?_, ?_, ?_, ?_, ?_, ?_⟩ <;> simp [World.cell?, h1]
          have HCw : Hid (∀ U, FrG (fun k => G k ∨ k = g17) W1 U → ∀ t, t < 2 → U.cell? ⟨g8, t, none⟩ = some (ss t) ∧ U.cell? ⟨g9, t, none⟩ = some (rs t)) := fun U hU t ht => HCl.out U (HR1.out.fr.trans (hU.sub (fun k hk => .inl hk))) t ht
          have HNo : Hid (∃ ls, (∀ t, t < 2 → ls t ≤ ((i + 1 : Nat) : Int)) ∧ LR G G B ss rs W2 ls (i + 1) W1) := ⟨ls, fun t ht => by have := HLs.out t ht; omega, (HR.out.kept hb1).mono (by omega)⟩
          clear hR hls hoq hcs hb1 b17 HI
          have e9 : ∀ o, (wr.alloc o).cell? ⟨wr.heap.size, 9, none⟩ = (wr.alloc o).cell? ⟨wr.heap.size, 9, none⟩ := fun _ => rfl
          clear e9
          cases two
          · skip
            rcases HR1.out.cases (t := 0) (by omega) with hs | ⟨S, R, hs, hr⟩
            · have s8 : ∀ o, (wr.alloc o).cell? ⟨g8, 0, none⟩ = some (.pointer none) := fun o => Lib.cell?_alloc_some _ (by rw [← hs]; exact q0.1)
              clear hs q0 q1 HR HR1 HBx HCw HLs HOq
              go_wp2_with fail
              rw [← hW1]
              clear hW1 hg17
              go_roundw
              case rel => exact ⟨i + 1, by omega, by go_num, HNo⟩
              case measure => simp [intOf]; omega
            · have s8 : ∀ o, (wr.alloc o).cell? ⟨g8, 0, none⟩ = some (ptr S) := fun o => Lib.cell?_alloc_some _ (by rw [← hs]; exact q0.1)
              have HS : Hid (∀ U, FrG (fun k => G k ∨ k = g17) W1 U → (U.cell? ⟨g8, 0, none⟩ = some (ptr S) ∧ U.cell? ⟨g9, 0, none⟩ = some (ptr R)) ∧ U.cell? ⟨g17, 0, none⟩ = some (.int .i64 kd) ∧ U.cell? ⟨g17, 1, none⟩ = some (.int .i64 k1) ∧ U.cell? ⟨g17, 2, none⟩ = some (.int .i64 k2) ∧ U.cell? ⟨g17, 3, none⟩ = some (.int .i64 ba) ∧ U.cell? ⟨g17, 4, none⟩ = some (.int .i64 ix) ∧ U.cell? ⟨g17, 5, none⟩ = some (.int .i64 v) ∧ U.cell? ⟨g17, 6, none⟩ = some (.int .i64 n) ∧ U.cell? ⟨g17, 7, none⟩ = some (.bool ci) ∧ U.cell? ⟨g17, 8, none⟩ = some (.int .i64 cv) ∧ U.cell? ⟨g17, 9, none⟩ = some (.bool false)) := fun U hU => by
                have h1 := HCw.out U hU 0 (by omega)
                rw [hs, hr] at h1
                exact ⟨h1, HBx.out U hU⟩
              have H1d : Hid (Calls Tryz.prog 6 #[ptr S, ptr R, .agg #[.int .i64 kd, .int .i64 k1, .int .i64 k2, .int .i64 ba, .int .i64 ix, .int .i64 v, .int .i64 n, .bool ci, .int .i64 cv, .bool false]] W1.drew fun e w' => e = .returned (.bool true) ∧ (∃ ls', (∀ t, t < 2 → ls' t ≤ ((i + 1 : Nat) : Int)) ∧ LR (fun k => G k ∨ k = g17) G B ss rs W2 ls' i w') ∧ FrG (fun k => G k ∨ k = g17) W1 w') := ((HR1.out.kept (drew_below W1 1)).changed (fun k hk => .inl hk) (t := 0) (by omega) hs hr HLs.out (by have := HM.out; omega) ⟨kd, k1, k2, ba, ix, v, n, ci, cv, false⟩ HOq.out).mono fun e w' ⟨a1, a2, a3⟩ => ⟨a1, a2, (FrG.bel (drew_below W1 1)).trans a3⟩
              have H2 : Hid (∀ U, (∃ ls', (∀ t, t < 2 → ls' t ≤ ((i + 1 : Nat) : Int)) ∧ LR (fun k => G k ∨ k = g17) G B ss rs W2 ls' i U) ∧ FrG (fun k => G k ∨ k = g17) W1 U → Calls Tryz.prog 7 #[ptr S, ptr R, .agg #[.int .i64 kd, .int .i64 k1, .int .i64 k2, .int .i64 ba, .int .i64 ix, .int .i64 v, .int .i64 n, .bool ci, .int .i64 cv, .bool false], ptr B] U fun e w' => e = .returned (.bool true) ∧ (∃ ls', (∀ t, t < 2 → ls' t ≤ ((i + 1 : Nat) : Int)) ∧ LR (fun k => G k ∨ k = g17) G B ss rs W2 ls' (i + 1) w') ∧ FrG (fun k => G k ∨ k = g17) W1 w') := fun U ⟨⟨ls', hb, hU⟩, hf⟩ => (hU.asked (fun k hk => .inl hk) (t := 0) (by omega) hs hr (by have := HM.out; omega) ⟨kd, k1, k2, ba, ix, v, n, ci, cv, false⟩ HOq.out).mono fun e w' ⟨a1, a2, a3⟩ => ⟨a1, ⟨ls', hb, a2⟩, hf.trans a3⟩
              clear hs hr q0 q1 HR HR1 HBx HCw HLs HOq HNo
              go_upto_region 22 with fail
              rw [← hW1, ← hg17]
              clear hW1 hg17 s8 d0 d1 d2 d3 d4 d5 d6 d7 d8 d9
              obtain ⟨⟨s0, s1⟩, d0, d1, d2, d3, d4, d5, d6, d7, d8, d9⟩ := HS.out W1 (FrG.bel (Below.refl _ _))
              go_region_held3 (fun w' => (w'.cell? ⟨g8, 0, none⟩ = some (ptr S) ∧ w'.cell? ⟨g9, 0, none⟩ = some (ptr R)) ∧ w'.cell? ⟨g17, 0, none⟩ = some (.int .i64 kd) ∧ w'.cell? ⟨g17, 1, none⟩ = some (.int .i64 k1) ∧ w'.cell? ⟨g17, 2, none⟩ = some (.int .i64 k2) ∧ w'.cell? ⟨g17, 3, none⟩ = some (.int .i64 ba) ∧ w'.cell? ⟨g17, 4, none⟩ = some (.int .i64 ix) ∧ w'.cell? ⟨g17, 5, none⟩ = some (.int .i64 v) ∧ w'.cell? ⟨g17, 6, none⟩ = some (.int .i64 n) ∧ w'.cell? ⟨g17, 7, none⟩ = some (.bool ci) ∧ w'.cell? ⟨g17, 8, none⟩ = some (.int .i64 cv) ∧ w'.cell? ⟨g17, 9, none⟩ = some (.bool false)) (first | with_reducible exact HQB.out | with_reducible exact HQA.out | go_keep) (first
                | (go_at_call 6; with_reducible refine H1d.out.mono ?_; rintro e wA ⟨rfl, hlA, hfA⟩; have HQA := hidC (HS.out _ hfA); have HBA := hidC (And.intro hlA hfA); clear hlA hfA)
                | (go_at_call 7; with_reducible refine (H2.out _ (by with_reducible exact HBA.out)).mono ?_; rintro e wB ⟨rfl, hlB, hfB⟩; have HQB := hidC (HS.out _ hfB); have HBB := hidC (And.intro hlB hfB); clear hlB hfB))
              have HF : Hid (∃ ls, (∀ t, t < 2 → ls t ≤ ((i + 1 : Nat) : Int)) ∧ LR G G B ss rs W2 ls (i + 1) wB) := by
                obtain ⟨⟨ls', h1, h2⟩, _⟩ := HBB.out
                exact ⟨ls', h1, h2.sub (fun k hk => .inl hk)⟩
              clear HQA HQB HBA HBB H1d H2 HS s0 s1 d0 d1 d2 d3 d4 d5 d6 d7 d8 d9
              go_wp2_with fail
              go_roundw
              case rel => exact ⟨i + 1, by omega, by go_num, HF⟩
              case measure => simp [intOf]; omega
          · skip
            rcases HR1.out.cases (t := 1) (by omega) with hs | ⟨S, R, hs, hr⟩
            · have s8 : ∀ o, (wr.alloc o).cell? ⟨g8, 1, none⟩ = some (.pointer none) := fun o => Lib.cell?_alloc_some _ (by rw [← hs]; exact q1.1)
              clear hs q0 q1 HR HR1 HBx HCw HLs HOq
              go_wp2_with fail
              rw [← hW1]
              clear hW1 hg17
              go_roundw
              case rel => exact ⟨i + 1, by omega, by go_num, HNo⟩
              case measure => simp [intOf]; omega
            · have s8 : ∀ o, (wr.alloc o).cell? ⟨g8, 1, none⟩ = some (ptr S) := fun o => Lib.cell?_alloc_some _ (by rw [← hs]; exact q1.1)
              have HS : Hid (∀ U, FrG (fun k => G k ∨ k = g17) W1 U → (U.cell? ⟨g8, 1, none⟩ = some (ptr S) ∧ U.cell? ⟨g9, 1, none⟩ = some (ptr R)) ∧ U.cell? ⟨g17, 0, none⟩ = some (.int .i64 kd) ∧ U.cell? ⟨g17, 1, none⟩ = some (.int .i64 k1) ∧ U.cell? ⟨g17, 2, none⟩ = some (.int .i64 k2) ∧ U.cell? ⟨g17, 3, none⟩ = some (.int .i64 ba) ∧ U.cell? ⟨g17, 4, none⟩ = some (.int .i64 ix) ∧ U.cell? ⟨g17, 5, none⟩ = some (.int .i64 v) ∧ U.cell? ⟨g17, 6, none⟩ = some (.int .i64 n) ∧ U.cell? ⟨g17, 7, none⟩ = some (.bool ci) ∧ U.cell? ⟨g17, 8, none⟩ = some (.int .i64 cv) ∧ U.cell? ⟨g17, 9, none⟩ = some (.bool true)) := fun U hU => by
                have h1 := HCw.out U hU 1 (by omega)
                rw [hs, hr] at h1
                exact ⟨h1, HBx.out U hU⟩
              have H1d : Hid (Calls Tryz.prog 6 #[ptr S, ptr R, .agg #[.int .i64 kd, .int .i64 k1, .int .i64 k2, .int .i64 ba, .int .i64 ix, .int .i64 v, .int .i64 n, .bool ci, .int .i64 cv, .bool true]] W1.drew fun e w' => e = .returned (.bool true) ∧ (∃ ls', (∀ t, t < 2 → ls' t ≤ ((i + 1 : Nat) : Int)) ∧ LR (fun k => G k ∨ k = g17) G B ss rs W2 ls' i w') ∧ FrG (fun k => G k ∨ k = g17) W1 w') := ((HR1.out.kept (drew_below W1 1)).changed (fun k hk => .inl hk) (t := 1) (by omega) hs hr HLs.out (by have := HM.out; omega) ⟨kd, k1, k2, ba, ix, v, n, ci, cv, true⟩ HOq.out).mono fun e w' ⟨a1, a2, a3⟩ => ⟨a1, a2, (FrG.bel (drew_below W1 1)).trans a3⟩
              have H2 : Hid (∀ U, (∃ ls', (∀ t, t < 2 → ls' t ≤ ((i + 1 : Nat) : Int)) ∧ LR (fun k => G k ∨ k = g17) G B ss rs W2 ls' i U) ∧ FrG (fun k => G k ∨ k = g17) W1 U → Calls Tryz.prog 7 #[ptr S, ptr R, .agg #[.int .i64 kd, .int .i64 k1, .int .i64 k2, .int .i64 ba, .int .i64 ix, .int .i64 v, .int .i64 n, .bool ci, .int .i64 cv, .bool true], ptr B] U fun e w' => e = .returned (.bool true) ∧ (∃ ls', (∀ t, t < 2 → ls' t ≤ ((i + 1 : Nat) : Int)) ∧ LR (fun k => G k ∨ k = g17) G B ss rs W2 ls' (i + 1) w') ∧ FrG (fun k => G k ∨ k = g17) W1 w') := fun U ⟨⟨ls', hb, hU⟩, hf⟩ => (hU.asked (fun k hk => .inl hk) (t := 1) (by omega) hs hr (by have := HM.out; omega) ⟨kd, k1, k2, ba, ix, v, n, ci, cv, true⟩ HOq.out).mono fun e w' ⟨a1, a2, a3⟩ => ⟨a1, ⟨ls', hb, a2⟩, hf.trans a3⟩
              clear hs hr q0 q1 HR HR1 HBx HCw HLs HOq HNo
              go_upto_region 22 with fail
              rw [← hW1, ← hg17]
              clear hW1 hg17 s8 d0 d1 d2 d3 d4 d5 d6 d7 d8 d9
              obtain ⟨⟨s0, s1⟩, d0, d1, d2, d3, d4, d5, d6, d7, d8, d9⟩ := HS.out W1 (FrG.bel (Below.refl _ _))
              go_region_held3 (fun w' => (w'.cell? ⟨g8, 1, none⟩ = some (ptr S) ∧ w'.cell? ⟨g9, 1, none⟩ = some (ptr R)) ∧ w'.cell? ⟨g17, 0, none⟩ = some (.int .i64 kd) ∧ w'.cell? ⟨g17, 1, none⟩ = some (.int .i64 k1) ∧ w'.cell? ⟨g17, 2, none⟩ = some (.int .i64 k2) ∧ w'.cell? ⟨g17, 3, none⟩ = some (.int .i64 ba) ∧ w'.cell? ⟨g17, 4, none⟩ = some (.int .i64 ix) ∧ w'.cell? ⟨g17, 5, none⟩ = some (.int .i64 v) ∧ w'.cell? ⟨g17, 6, none⟩ = some (.int .i64 n) ∧ w'.cell? ⟨g17, 7, none⟩ = some (.bool ci) ∧ w'.cell? ⟨g17, 8, none⟩ = some (.int .i64 cv) ∧ w'.cell? ⟨g17, 9, none⟩ = some (.bool true)) (first | with_reducible exact HQB.out | with_reducible exact HQA.out | go_keep) (first
                | (go_at_call 6; with_reducible refine H1d.out.mono ?_; rintro e wA ⟨rfl, hlA, hfA⟩; have HQA := hidC (HS.out _ hfA); have HBA := hidC (And.intro hlA hfA); clear hlA hfA)
                | (go_at_call 7; with_reducible refine (H2.out _ (by with_reducible exact HBA.out)).mono ?_; rintro e wB ⟨rfl, hlB, hfB⟩; have HQB := hidC (HS.out _ hfB); have HBB := hidC (And.intro hlB hfB); clear hlB hfB))
              have HF : Hid (∃ ls, (∀ t, t < 2 → ls t ≤ ((i + 1 : Nat) : Int)) ∧ LR G G B ss rs W2 ls (i + 1) wB) := by
                obtain ⟨⟨ls', h1, h2⟩, _⟩ := HBB.out
                exact ⟨ls', h1, h2.sub (fun k hk => .inl hk)⟩
              clear HQA HQB HBA HBB H1d H2 HS s0 s1 d0 d1 d2 d3 d4 d5 d6 d7 d8 d9
              go_wp2_with fail
              go_roundw
              case rel => exact ⟨i + 1, by omega, by go_num, HF⟩
              case measure => simp [intOf]; omega
        · have hie : i = ns := by omega
          subst hie
          obtain ⟨ls, hls, hR⟩ := HI.out
          have HR := hidS hR
          have HLs := hidS hls
          clear hls hR HI hlt
          go_wp2_with fail
          go_loopw [19, 20, 21, 22, 23] (fun x _ _ _ _ wq => ∃ (t : Nat), t ≤ 2 ∧ x = .int .i64 (t : Int) ∧ Hid (LR G G B ss rs W2 ls (i + t * (5 * i + 3)) wq)) (fun x _ _ _ _ _ => 2 - (intOf x).toNat)
          case atStart => exact ⟨0, by omega, rfl, HR.out.mono (by omega)⟩
          case round =>
            clear HR
            obtain ⟨t, ht, rfl, HI⟩ := hrel
            by_cases hlt : t < 2
            · have htI : (t : Int) < 2 := by omega
              have qt := HCl.out wr HI.out.fr t hlt
              have HTc : Hid (i + t * (5 * i + 3) + (5 * i + 3) = i + (t + 1) * (5 * i + 3) ∧ i + (t + 1) * (5 * i + 3) ≤ 4000000) := by
                have h1 := HM.out
                obtain rfl | rfl : t = 0 ∨ t = 1 := by omega
                · constructor <;> omega
                · constructor <;> omega
              rcases HI.out.cases hlt with hs | ⟨S, R, hs, hr⟩
              · have s8 := qt.1
                rw [hs] at s8
                have HF := hidS (HI.out.mono (c' := i + (t + 1) * (5 * i + 3)) (by have := HTc.out; omega))
                clear hs qt HI HTc
                go_wp2_with fail
                go_roundw
                case rel => exact ⟨t + 1, by omega, by go_num, HF⟩
                case measure => simp [intOf]; omega
              · obtain ⟨s8, s9⟩ := qt
                rw [hs] at s8
                rw [hr] at s9
                have HSR : Hid (ss t = ptr S ∧ rs t = ptr R) := ⟨hs, hr⟩
                obtain ⟨z, hz⟩ : ∃ z, z = ls t := ⟨_, rfl⟩
                have HZ := hidS hz
                have hz0 : 0 ≤ z := by rw [hz]; exact HI.out.l0 hlt
                have hz1 : z ≤ (i : Int) := by rw [hz]; exact HLs.out t hlt
                obtain ⟨c, hc⟩ : ∃ c, c = i + t * (5 * i + 3) := ⟨_, rfl⟩
                rw [← hc] at HI HTc
                clear hs hr hz hc
                go_wp2_with fail
                go_loopw [20] (fun x wq => ∃ (v : Int), -1 ≤ v ∧ v ≤ z + 2 ∧ x = .int .i64 v ∧ Hid (LR G G B ss rs W2 ls (c + (v + 1).toNat) wq)) (fun x _ => (z + 2 - intOf x).toNat)
                case atStart => exact ⟨-1, by omega, by omega, rfl, HI.out.mono (by omega)⟩
                case round =>
                  clear HI s8 s9
                  obtain ⟨v, hv1, hv2, rfl, HI⟩ := hrel
                  obtain ⟨s8, s9⟩ := HCl.out wr HI.out.fr t hlt
                  rw [HSR.out.1] at s8
                  rw [HSR.out.2] at s9
                  have r3 := HI.out.last hlt HSR.out.2
                  rw [← HZ.out] at r3
                  by_cases hvl : v ≤ z + 1
                  · have HS : Hid (∀ U, FrG G wr U → U.cell? ⟨g8, t, none⟩ = some (ptr S) ∧ U.cell? ⟨g9, t, none⟩ = some (ptr R)) := fun U hU => by
                      have h1 := HCl.out U (HI.out.fr.trans hU) t hlt
                      rw [HSR.out.1, HSR.out.2] at h1
                      exact h1
                    have H1d : Hid (Calls Tryz.prog 7 #[ptr S, ptr R, .agg #[.int .i64 4, .int .i64 0, .int .i64 0, .int .i64 0, .int .i64 0, .int .i64 v, .int .i64 0, .bool false, .int .i64 0, .bool false], ptr B] wr.drew fun e w' => e = .returned (.bool true) ∧ LR G G B ss rs W2 ls (c + (v + 1).toNat + 1) w' ∧ FrG G wr w') := ((HI.out.kept (drew_below wr 1)).asked (fun k hk => hk) hlt HSR.out.1 HSR.out.2 (by have := HTc.out; omega) ⟨4, 0, 0, 0, 0, v, 0, false, 0, false⟩ (oq4_in hv1 (by have := HM.out; omega))).mono fun e w' ⟨a1, a2, a3⟩ => ⟨a1, a2, (FrG.bel (drew_below wr 1)).trans a3⟩
                    go_upto_region 31 with fail
                    go_region_held3 (fun w' => w'.cell? ⟨g8, t, none⟩ = some (ptr S) ∧ w'.cell? ⟨g9, t, none⟩ = some (ptr R)) (first | with_reducible exact HQA.out | go_keep) (first
                      | (go_at_call 7; with_reducible refine H1d.out.mono ?_; rintro e wA ⟨rfl, hlA, hfA⟩; have HQA := hidC (HS.out _ hfA); have HLA := hidC hlA; clear hlA hfA))
                    have HF : Hid (LR G G B ss rs W2 ls (c + (v + 1 + 1).toNat) wA) := HLA.out.mono (by omega)
                    clear HQA HLA H1d HS s8 s9 r3 HI
                    go_wp2_with fail
                    go_roundw
                    case rel => exact ⟨v + 1, by omega, by omega, by go_num, HF⟩
                    case measure => simp [intOf]; omega
                  · have HR5 : Hid (LR G G B ss rs W2 ls (c + (i + 3)) wr) := HI.out.mono (by omega)
                    have hvb : decide (v ≤ z + 1) = false := decide_eq_false hvl
                    clear HI
                    go_wp2_with fail
                    clear s8 s9 r3
                    go_loopw [21, 22, 23] (fun x _ _ wq => ∃ (m : Nat), m ≤ i ∧ x = .int .i64 (m : Int) ∧ Hid (LR G G B ss rs W2 ls (c + (i + 3) + 4 * m) wq)) (fun x _ _ _ => i - (intOf x).toNat)
                    case atStart => exact ⟨0, Nat.zero_le _, rfl, HR5.out⟩
                    case round =>
                      clear HR5
                      obtain ⟨m, hm5, rfl, HI⟩ := hrel
                      by_cases hlm : m < i
                      · have hmI : (m : Int) < (i : Int) := by omega
                        obtain ⟨b, off, ⟨kd, k1, k2, ba, ix, v, n, ci, cv, two⟩, rfl, hoq, hcs⟩ := HOp.out wr HI.out.fr m hlm
                        have HOq := hidS hoq
                        have d0 : wr.cell? ⟨b, off + m * 10, none⟩ = some (.int .i64 kd) := hcs 0 _ rfl
                        have d1 : wr.cell? ⟨b, off + m * 10 + 1, none⟩ = some (.int .i64 k1) := hcs 1 _ rfl
                        have d2 : wr.cell? ⟨b, off + m * 10 + 2, none⟩ = some (.int .i64 k2) := hcs 2 _ rfl
                        have d3 : wr.cell? ⟨b, off + m * 10 + 3, none⟩ = some (.int .i64 ba) := hcs 3 _ rfl
                        have d4 : wr.cell? ⟨b, off + m * 10 + 4, none⟩ = some (.int .i64 ix) := hcs 4 _ rfl
                        have d5 : wr.cell? ⟨b, off + m * 10 + 5, none⟩ = some (.int .i64 v) := hcs 5 _ rfl
                        have d6 : wr.cell? ⟨b, off + m * 10 + 6, none⟩ = some (.int .i64 n) := hcs 6 _ rfl
                        have d7 : wr.cell? ⟨b, off + m * 10 + 7, none⟩ = some (.bool ci) := hcs 7 _ rfl
                        have d8 : wr.cell? ⟨b, off + m * 10 + 8, none⟩ = some (.int .i64 cv) := hcs 8 _ rfl
                        have d9 : wr.cell? ⟨b, off + m * 10 + 9, none⟩ = some (.bool two) := hcs 9 _ rfl
                        obtain ⟨W1, hW1⟩ : ∃ W1, W1 = wr.alloc (.cells #[.int .i64 kd, .int .i64 k1, .int .i64 k2, .int .i64 ba, .int .i64 ix, .int .i64 v, .int .i64 n, .bool ci, .int .i64 cv, .bool two] 45) := ⟨_, rfl⟩
                        obtain ⟨g22, hg22⟩ : ∃ g, g = wr.heap.size := ⟨_, rfl⟩
                        have hb1 : Below wr.heap.size wr W1 := by rw [hW1]; exact (Below.refl _ _).alloc (Nat.le_refl _) _
                        have b22 : W1.heap[g22]? = some (.cells #[.int .i64 kd, .int .i64 k1, .int .i64 k2, .int .i64 ba, .int .i64 ix, .int .i64 v, .int .i64 n, .bool ci, .int .i64 cv, .bool two] 45 (0, 0)) := by rw [hW1, hg22]; exact heap_alloc_new _ _ rfl
                        have HR6 : Hid (∃ x0 x6 : Int, W1.heap[g22]? = some (.cells #[.int .i64 x0, .int .i64 k1, .int .i64 k2, .int .i64 ba, .int .i64 ix, .int .i64 v, .int .i64 x6, .bool ci, .int .i64 cv, .bool two] 45 (0, 0)) ∧ LR (fun k => G k ∨ k = g22) G B ss rs W2 ls (c + (i + 3) + 4 * m) W1) := ⟨kd, n, b22, HI.out.more hb1 (fun k hk => by
                          rcases hk with hk | rfl
                          · exact ⟨.inl hk, Nat.lt_of_lt_of_le (HI.out.gl k hk) hb1.size⟩
                          · exact ⟨.inr (by omega), blk_lt b22⟩)⟩
                        have HGn : Hid (¬ G g22) := fun hg => by have := HI.out.gl _ hg; omega
                        clear hb1 b22 hoq hcs HI
                        go_wp2_with fail
                        rw [← hW1, ← hg22]
                        clear hW1 hg22 d0 d1 d2 d3 d4 d5 d6 d7 d8 d9
                        go_loopw [23] (fun x wq => ∃ (kk : Nat), 5 ≤ kk ∧ kk ≤ 9 ∧ x = .int .i64 (kk : Int) ∧ Hid (∃ x0 x6 : Int, wq.heap[g22]? = some (.cells #[.int .i64 x0, .int .i64 k1, .int .i64 k2, .int .i64 ba, .int .i64 ix, .int .i64 v, .int .i64 x6, .bool ci, .int .i64 cv, .bool two] 45 (0, 0)) ∧ LR (fun k => G k ∨ k = g22) G B ss rs W2 ls (c + (i + 3) + 4 * m + (kk - 5)) wq)) (fun x _ => 9 - (intOf x).toNat)
                        case atStart => exact ⟨5, by omega, by omega, rfl, HR6.out⟩
                        case round =>
                          clear HR6
                          obtain ⟨kk, hk5, hk9, rfl, HI⟩ := hrel
                          by_cases hlk : kk ≤ 8
                          · have hkI : (kk : Int) ≤ 8 := by omega
                            obtain ⟨x0, x6, hb22, hR⟩ := HI.out
                            have HL6 := hidS hR
                            have y0 : wr.cell? ⟨g22, 0, none⟩ = some (.int .i64 x0) := by simp [World.cell?, hb22]
                            have f0 := frozen_of_row wr g22 0 _ _ hb22
                            obtain ⟨U1, hU1⟩ : ∃ U1, U1 = wr.setCell ⟨g22, 0, none⟩ (.int .i64 (kk : Int)) := ⟨_, rfl⟩
                            have hT1 : Tn (fun k => k = g22) wr U1 := by rw [hU1]; exact ⟨by first | rfl | simp, by first | rfl | simp, by first | rfl | simp, by simp, fun k hk hn => heap_setCell_other wr ⟨g22, 0, none⟩ k _ hn⟩
                            have hbU : U1.heap[g22]? = some (.cells #[.int .i64 (kk : Int), .int .i64 k1, .int .i64 k2, .int .i64 ba, .int .i64 ix, .int .i64 v, .int .i64 x6, .bool ci, .int .i64 cv, .bool two] 45 (0, 0)) := by rw [hU1]; exact heap_setCell_same wr g22 0 _ _ _ hb22
                            have HL7 : Hid (LR (fun k => G k ∨ k = g22) G B ss rs W2 ls (c + (i + 3) + 4 * m + (kk - 5)) U1) := hR.turn hT1 (fun k hk => ⟨.inr hk, by rw [hk]; exact HGn.out⟩)
                            have HbU := hidS hbU
                            have HSp : Hid (∀ U, Below U1.heap.size U1 U → U.cell? ⟨g9, t, none⟩ = some (ptr R) ∧ U.cell? ⟨g22, 1, none⟩ = some (.int .i64 k1) ∧ U.cell? ⟨g22, 2, none⟩ = some (.int .i64 k2)) := fun U hU => by
                              have h1 := (HCl.out U (HL7.out.fr.trans (FrG.bel hU)) t hlt).2
                              rw [HSR.out.2] at h1
                              have h2 := (hU.block _ (blk_lt HbU.out)).trans HbU.out
                              exact ⟨h1, by simp [World.cell?, h2], by simp [World.cell?, h2]⟩
                            have HPd : Hid (Calls Tryz.prog 8 #[ptr R, .agg #[.int .i64 k1, .int .i64 k2]] U1.drew fun e w' => ∃ x, e = .returned (.int .i64 x) ∧ Below U1.heap.size U1 w') := ((HL7.out.kept (drew_below U1 1)).part hlt HSR.out.1 HSR.out.2 k1 k2 HOq.out.1).mono fun e w' ⟨x, a1, a2⟩ => ⟨x, a1, (drew_below U1 1).trans a2⟩
                            have HAft : Hid (∀ U x, Below U1.heap.size U1 U → ((U.setCell ⟨g22, 6, none⟩ (.int .i64 x)).cell? ⟨g9, t, none⟩ = some (ptr R) ∧ (U.setCell ⟨g22, 6, none⟩ (.int .i64 x)).cell? ⟨g22, 1, none⟩ = some (.int .i64 k1) ∧ (U.setCell ⟨g22, 6, none⟩ (.int .i64 x)).cell? ⟨g22, 2, none⟩ = some (.int .i64 k2)) ∧ (U.setCell ⟨g22, 6, none⟩ (.int .i64 x)).heap[g22]? = some (.cells #[.int .i64 (kk : Int), .int .i64 k1, .int .i64 k2, .int .i64 ba, .int .i64 ix, .int .i64 v, .int .i64 x, .bool ci, .int .i64 cv, .bool two] 45 (0, 0)) ∧ LR (fun k => G k ∨ k = g22) G B ss rs W2 ls (c + (i + 3) + 4 * m + (kk - 5)) (U.setCell ⟨g22, 6, none⟩ (.int .i64 x))) := fun U x hU => by
                              have h2 := (hU.block _ (blk_lt HbU.out)).trans HbU.out
                              have h3 := heap_setCell_same U g22 6 _ _ (.int .i64 x) h2
                              have h4 : LR (fun k => G k ∨ k = g22) G B ss rs W2 ls (c + (i + 3) + 4 * m + (kk - 5)) (U.setCell ⟨g22, 6, none⟩ (.int .i64 x)) := (HL7.out.kept hU).turn (Z := fun k => k = g22) ⟨by first | rfl | simp, by first | rfl | simp, by first | rfl | simp, by simp, fun k hk hn => heap_setCell_other U ⟨g22, 6, none⟩ k _ hn⟩ (fun k hk => ⟨.inr hk, by rw [hk]; exact HGn.out⟩)
                              have h1 := (HCl.out _ h4.fr t hlt).2
                              rw [HSR.out.2] at h1
                              exact ⟨⟨h1, by simp [World.cell?, h3], by simp [World.cell?, h3]⟩, h3, h4⟩
                            clear hb22 hR HI hT1 hbU HL6
                            go_upto_region 41 with fail
                            rw [← hU1]
                            clear hU1 y0 f0
                            obtain ⟨s9, y1, y2⟩ := HSp.out U1 (Below.refl _ _)
                            go_region_held3 (fun w' => w'.cell? ⟨g9, t, none⟩ = some (ptr R) ∧ w'.cell? ⟨g22, 1, none⟩ = some (.int .i64 k1) ∧ w'.cell? ⟨g22, 2, none⟩ = some (.int .i64 k2)) (first | with_reducible exact HQS.out | with_reducible exact HQA.out | go_keep) (first
                              | (go_at_call 8; with_reducible refine HPd.out.mono ?_; rintro e wA ⟨xp, rfl, hbA⟩; have HQA := hidC (HSp.out _ hbA); have HQS := hidC (HAft.out wA xp hbA).1; have HBA := hidC hbA; have hh := (hbA.block _ (blk_lt HbU.out)).trans HbU.out; have y6 : wA.cell? ⟨g22, 6, none⟩ = some (.int .i64 x6) := (by simp [World.cell?, hh]); have f6 := frozen_of_row wA g22 6 _ _ hh; clear hbA hh))
                            have HV := hidS (HAft.out wA xp HBA.out).2
                            generalize wA.setCell ⟨g22, 6, none⟩ (.int .i64 xp) = V at *
                            clear HQA HQS HBA HAft HPd HSp HbU HL7 s9 y1 y2 y6 f6
                            have HS : Hid (∀ U, FrG (fun k => G k ∨ k = g22) V U → ((U.cell? ⟨g8, t, none⟩ = some (ptr S) ∧ U.cell? ⟨g9, t, none⟩ = some (ptr R)) ∧ U.cell? ⟨g22, 0, none⟩ = some (.int .i64 (kk : Int)) ∧ U.cell? ⟨g22, 1, none⟩ = some (.int .i64 k1) ∧ U.cell? ⟨g22, 2, none⟩ = some (.int .i64 k2) ∧ U.cell? ⟨g22, 3, none⟩ = some (.int .i64 ba) ∧ U.cell? ⟨g22, 4, none⟩ = some (.int .i64 ix) ∧ U.cell? ⟨g22, 5, none⟩ = some (.int .i64 v) ∧ U.cell? ⟨g22, 6, none⟩ = some (.int .i64 xp) ∧ U.cell? ⟨g22, 7, none⟩ = some (.bool ci) ∧ U.cell? ⟨g22, 8, none⟩ = some (.int .i64 cv) ∧ U.cell? ⟨g22, 9, none⟩ = some (.bool two))) := fun U hU => by
                              have h1 := HCl.out U (HV.out.2.fr.trans (hU.sub (fun k hk => .inl hk))) t hlt
                              rw [HSR.out.1, HSR.out.2] at h1
                              have h2 := (hU.block _ (blk_lt HV.out.1) (.inr rfl)).trans HV.out.1
                              refine ⟨h1, ?_, ?_, ?_, ?_, ?_, ?_, ?_, ?_, ?_, ?_⟩ <;> simp [World.cell?, h2]
                            have HE : Hid (∀ U, FrG (fun k => G k ∨ k = g22) V U → U.heap[g22]? = some (.cells #[.int .i64 (kk : Int), .int .i64 k1, .int .i64 k2, .int .i64 ba, .int .i64 ix, .int .i64 v, .int .i64 xp, .bool ci, .int .i64 cv, .bool two] 45 (0, 0))) := fun U hU => (hU.block _ (blk_lt HV.out.1) (.inr rfl)).trans HV.out.1
                            have H1d : Hid (Calls Tryz.prog 7 #[ptr S, ptr R, .agg #[.int .i64 (kk : Int), .int .i64 k1, .int .i64 k2, .int .i64 ba, .int .i64 ix, .int .i64 v, .int .i64 xp, .bool ci, .int .i64 cv, .bool two], ptr B] V.drew fun e w' => e = .returned (.bool true) ∧ LR (fun k => G k ∨ k = g22) G B ss rs W2 ls (c + (i + 3) + 4 * m + (kk - 5) + 1) w' ∧ FrG (fun k => G k ∨ k = g22) V w') := ((HV.out.2.kept (drew_below V 1)).asked (fun k hk => .inl hk) hlt HSR.out.1 HSR.out.2 (by have := HTc.out; omega) ⟨(kk : Int), k1, k2, ba, ix, v, xp, ci, cv, two⟩ HOq.out).mono fun e w' ⟨a1, a2, a3⟩ => ⟨a1, a2, (FrG.bel (drew_below V 1)).trans a3⟩
                            obtain ⟨⟨s8, s9⟩, d0, d1, d2, d3, d4, d5, d6, d7, d8, d9⟩ := HS.out V (FrG.bel (Below.refl _ _))
                            go_upto_region 42 with fail
                            go_region_held3 (fun w' => (w'.cell? ⟨g8, t, none⟩ = some (ptr S) ∧ w'.cell? ⟨g9, t, none⟩ = some (ptr R)) ∧ w'.cell? ⟨g22, 0, none⟩ = some (.int .i64 (kk : Int)) ∧ w'.cell? ⟨g22, 1, none⟩ = some (.int .i64 k1) ∧ w'.cell? ⟨g22, 2, none⟩ = some (.int .i64 k2) ∧ w'.cell? ⟨g22, 3, none⟩ = some (.int .i64 ba) ∧ w'.cell? ⟨g22, 4, none⟩ = some (.int .i64 ix) ∧ w'.cell? ⟨g22, 5, none⟩ = some (.int .i64 v) ∧ w'.cell? ⟨g22, 6, none⟩ = some (.int .i64 xp) ∧ w'.cell? ⟨g22, 7, none⟩ = some (.bool ci) ∧ w'.cell? ⟨g22, 8, none⟩ = some (.int .i64 cv) ∧ w'.cell? ⟨g22, 9, none⟩ = some (.bool two)) (first | with_reducible exact HQA.out | go_keep) (first
                              | (go_at_call 7; with_reducible refine H1d.out.mono ?_; rintro e wA ⟨rfl, hlA, hfA⟩; have HQA := hidC (HS.out _ hfA); have HLA := hidC hlA; have HHA := hidC (HE.out _ hfA); clear hlA hfA))
                            have HF : Hid (∃ x0 x6 : Int, wA.heap[g22]? = some (.cells #[.int .i64 x0, .int .i64 k1, .int .i64 k2, .int .i64 ba, .int .i64 ix, .int .i64 v, .int .i64 x6, .bool ci, .int .i64 cv, .bool two] 45 (0, 0)) ∧ LR (fun k => G k ∨ k = g22) G B ss rs W2 ls (c + (i + 3) + 4 * m + (kk + 1 - 5)) wA) := ⟨_, _, HHA.out, HLA.out.mono (by omega)⟩
                            clear HQA HLA HHA H1d HS HE HV s8 s9 d0 d1 d2 d3 d4 d5 d6 d7 d8 d9
                            go_wp2_with fail
                            go_roundw
                            case rel => exact ⟨kk + 1, by omega, by omega, by go_num, HF⟩
                            case measure => simp [intOf]; omega
                          · have hkb : decide ((9 : Int) ≤ 8) = false := by decide
                            have hke : kk = 9 := by omega
                            subst hke
                            rw [show ((9 : Nat) : Int) = 9 from rfl]
                            have HF : Hid (LR G G B ss rs W2 ls (c + (i + 3) + 4 * (m + 1)) wr) := by
                              obtain ⟨_, _, _, h1⟩ := HI.out
                              exact (h1.mono (by omega)).sub (fun k hk => .inl hk)
                            clear HI
                            go_wp2_with fail
                            go_roundw
                            case rel => exact ⟨m + 1, by omega, by go_num, HF⟩
                            case measure => simp [intOf]; omega
                      · have hme : m = i := by omega
                        subst hme
                        have HF : Hid (LR G G B ss rs W2 ls (m + (t + 1) * (5 * m + 3)) wr) := HI.out.mono (by have := HTc.out; omega)
                        clear HI
                        go_wp2_with fail
                        go_roundw
                        case rel => exact ⟨t + 1, by omega, by go_num, HF⟩
                        case measure => simp [intOf]; omega
            · have hte : t = 2 := by omega
              subst hte
              rw [show ((2 : Nat) : Int) = 2 from rfl]
              have HWh : Hid (Calls Tryz.prog 9 #[ptr B] wr fun e w' => e = .returned (.bool true) ∧ Below w.heap.size w w') := (HI.out.whole (by have := HM.out; omega)).mono fun e w' ⟨a1, a2⟩ => ⟨a1, (HBw.out wr HI.out.fr).trans (a2.mono (HBw.out wr HI.out.fr).size)⟩
              clear HI
              go_wp2_with fail
              refine HWh.out.mono ?_
              rintro e w9 ⟨rfl, h9⟩
              have HE := hidS h9
              clear h9 HWh
              go_wp2
              go_ret
              exact ⟨rfl, HE.out⟩
end Go.Proofs.YtbcmmeajglilbaaGreat
