/-
  Insert.
-/
import Derived.Test.YtfkijdlggdgfhaaSInsF
import Derived.Deep.RegionHeld3
namespace Go.Proofs.Ytfkijdlggdgfhaa
open Go.RowKit Go.Sort

set_option maxRecDepth 100000 in
set_option maxHeartbeats 4000000 in
theorem insert_any (w : World) (S V D M L P f : Nat) (hok : PartOK f hash) (cap last : Int) (vs : List Vr) (es : List En) (R : K → Nat × Nat × Nat) (k : K) (ba ix : Int) (h : SA w S V D M L P (hfn f) cap last vs es R) (hk : KIn k) (hba : In64 ba) (hix : In64 ix) (hl0 : 0 ≤ last ∧ last + 1 ≤ 1000000000000000) :
    Calls Try.prog 19 #[ptr S, kv k, .int .i64 ba, .int .i64 ix] w fun e w' => InsPost w S V D M L P (hfn f) cap last vs es R k ba ix e w' := by
  obtain ⟨k1, k2⟩ := k
  have HB0 : Hid (∀ o, Below w.heap.size w (w.alloc o)) := fun o => (Below.refl _ _).alloc (Nat.le_refl _) _
  have s2 : ∀ o, (w.alloc o).cell? ⟨S, 2, none⟩ = some (.int .i64 last) := fun o => (h.kept (HB0.out o)).cells.2.2.1
  have hw64 : wrap64 (last + 1) = last + 1 := by unfold wrap64; omega
  have HS : Hid (SA w S V D M L P (hfn f) cap last vs es R) := h
  have HI : Hid (PartOK f hash ∧ KIn (k1, k2) ∧ In64 ba ∧ In64 ix) := ⟨hok, hk, hba, hix⟩
  clear h hok hk hba hix
  go_enter Try.func19, Try.ntmps19
  go_wp2_with fail
  go_region
  have HW1 : Hid (Below w.heap.size w ((w.alloc (.cells #[.int .i64 k1, .int .i64 k2] 28)).alloc (.cells #[.int .i64 ba, .int .i64 ix, .int .i64 (last + 1), .int .i64 k1, .int .i64 k2, .bool false, .bool false, .int .i64 0] 82)).drew) := by
    have h1 := ((Below.refl w.heap.size w).alloc (Nat.le_refl _) (.cells #[.int .i64 k1, .int .i64 k2] 28)).alloc (by simp) (.cells #[.int .i64 ba, .int .i64 ix, .int .i64 (last + 1), .int .i64 k1, .int .i64 k2, .bool false, .bool false, .int .i64 0] 82)
    exact ⟨h1.os, h1.tape, h1.output, h1.size, h1.block⟩
  have HX1 : Hid ((((w.alloc (.cells #[.int .i64 k1, .int .i64 k2] 28)).alloc (.cells #[.int .i64 ba, .int .i64 ix, .int .i64 (last + 1), .int .i64 k1, .int .i64 k2, .bool false, .bool false, .int .i64 0] 82)).drew).heap[w.heap.size + 1]? = some (.cells (cellsV (xV (w.heap.size + 1) last (k1, k2) ba ix)) 82 (0, 0))) := heap_alloc_new (w := w.alloc (.cells #[.int .i64 k1, .int .i64 k2] 28)) _ _ (by simp)
  have HK1 : Hid ((((w.alloc (.cells #[.int .i64 k1, .int .i64 k2] 28)).alloc (.cells #[.int .i64 ba, .int .i64 ix, .int .i64 (last + 1), .int .i64 k1, .int .i64 k2, .bool false, .bool false, .int .i64 0] 82)).drew).heap[w.heap.size]? = some (.cells #[.int .i64 k1, .int .i64 k2] 28 (0, 0))) := (heap_alloc_old (w := w.alloc (.cells #[.int .i64 k1, .int .i64 k2] 28)) _ _ (by simp)).trans (heap_alloc_new _ _ rfl)
  go_wp2_with fail
  generalize ((w.alloc (.cells #[.int .i64 k1, .int .i64 k2] 28)).alloc (.cells #[.int .i64 ba, .int .i64 ix, .int .i64 (last + 1), .int .i64 k1, .int .i64 k2, .bool false, .bool false, .int .i64 0] 82)).drew = W1 at *
  have HS1 : Hid (SA W1 S V D M L P (hfn f) cap last vs es R) := HS.out.kept HW1.out
  obtain ⟨E, hE⟩ : ∃ E, E = insE cap vs (xV 0 last (k1, k2) ba ix) := ⟨_, rfl⟩
  have HE : Hid (E = insE cap vs (xV 0 last (k1, k2) ba ix)) := hE
  obtain ⟨b, hb⟩ : ∃ b, b = w.heap.size + 1 := ⟨_, rfl⟩
  rw [← hb] at HX1 ⊢
  have hxb : ∀ k, Fs S V D M L vs es R k → k + 1 < b := fun k hF => by have := HS.out.lt' hF; omega
  have HFi := for_it W1 S V D M L P f HI.out.1 cap last vs es R (xV b last (k1, k2) ba ix) HS1.out HX1.out hxb HI.out.2.1
  rw [insE_b cap vs b 0 last (k1, k2) ba ix, ← hE] at HFi
  have Hxb : Hid (∀ k, Fs S V D M L vs es R k → k + 1 < b) := hxb
  have Hb : Hid (b = w.heap.size + 1) := hb
  obtain ⟨n, hn⟩ : ∃ n, n = (ofK (k1, k2) vs).length := ⟨_, rfl⟩
  have Hn : Hid (n = (ofK (k1, k2) vs).length) := hn
  clear hE hxb s2 hw64 hb
  refine HFi.mono ?_
  clear HFi
  rintro e w2 ⟨hb2, ⟨hne, rfl⟩ | ⟨hE0, cb, ao, cc, rfl, hcx, hv, hnext⟩⟩
  · have HF : Hid (Below w.heap.size w w2) := HW1.out.trans (hb2.mono HW1.out.size)
    have hne' : ¬ E = 0 := hne
    have HN : Hid (E ≠ 0) := hne
    clear hb2 hne
    go_wp2
    go_ret2
    exact .inl ⟨by rw [← HE.out]; exact HN.out, by rw [← HE.out]; rfl, HF.out⟩
  · subst hE0
    simp only at hcx hv hnext
    rw [← hn] at hcx
    have HB2 : Hid (Below W1.heap.size W1 w2) := hb2
    have HNx := hnext
    have HAd : Hid (Calls Try.prog 37 #[ptr cb, ptr b] w2 fun e w' => e = .returned (.tuple #[]) ∧ ∃ g off cc', Add w2 w' cb b ao ((ofK (k1, k2) vs).map Vr.b) g off cc') := by
      refine add_any w2 cb b ao n cc _ (by rw [hn, List.length_map]) hcx hv ?_
      have h1 : (ofK (k1, k2) vs).length ≤ vs.length := List.length_filter_le _ _
      have := HS.out.lt
      omega
    clear hb2 hcx hv hnext hn
    have HNext : Hid (∀ w3 g off cc', Add w2 w3 cb b ao ((ofK (k1, k2) vs).map Vr.b) g off cc' → _) := HNx
    clear HNx
    go_wp2_with fail
    refine HAd.out.mono ?_
    rintro e w3 ⟨rfl, g, off, cc', had⟩
    obtain ⟨hkeep, hput⟩ := HNext.out w3 g off cc' had
    have hs3 : w3.heap[S]? = W1.heap[S]? := (hkeep S (.inl rfl) (Nat.lt_of_lt_of_le (blk_lt HS1.out.st) HB2.out.size)).trans (HB2.out.block _ (blk_lt HS1.out.st))
    have hk3 : w3.heap[w.heap.size]? = W1.heap[w.heap.size]? := (hkeep w.heap.size (.inr (.inl (by show w.heap.size + 1 = b; exact Hb.out.symm))) (Nat.lt_of_lt_of_le (blk_lt HK1.out) HB2.out.size)).trans (HB2.out.block _ (blk_lt HK1.out))
    have HCl : Hid (∀ W : World, W.heap[S]? = W1.heap[S]? → W.heap[w.heap.size]? = W1.heap[w.heap.size]? → W.cell? ⟨S, 4, none⟩ = some (ptr D) ∧ W.cell? ⟨w.heap.size, 0, none⟩ = some (.int .i64 k1) ∧ W.cell? ⟨w.heap.size, 1, none⟩ = some (.int .i64 k2)) := fun W x1 x2 => by
      rw [HS1.out.st] at x1
      rw [HK1.out] at x2
      refine ⟨?_, ?_, ?_⟩ <;> simp [World.cell?, x1, x2]
    have HPut : Hid (Calls Try.prog 38 #[ptr D, .agg #[.int .i64 k1, .int .i64 k2], ptr cb] w3.drew fun e w4 => (∃ va vb, e = .returned (.tuple #[va, .bool vb])) ∧ Fr (Ft M L es) w3 w4 ∧ ∃ es' e1, Aft W1 w4 S V D M L P (hfn f) vs es es' R (xV b last (k1, k2) ba ix) e1 g off cc') := hput
    have Hk3 : Hid (w3.heap[w.heap.size]? = W1.heap[w.heap.size]? ∧ w.heap.size < w3.heap.size) := ⟨hk3, blk_lt (hk3.trans HK1.out)⟩
    obtain ⟨s4, kb0, kb1⟩ := HCl.out w3 hs3 hk3
    clear hkeep hput hs3 hk3 had HAd HNext
    go_upto_region 6 with fail
    go_region_held3 (fun w' => w'.cell? ⟨S, 4, none⟩ = some (ptr D) ∧ w'.cell? ⟨w.heap.size, 0, none⟩ = some (.int .i64 k1) ∧ w'.cell? ⟨w.heap.size, 1, none⟩ = some (.int .i64 k2)) (first | exact HCl.out _ HA4.out.1.st HA4.out.2 | go_keep) (first | (go_at_call 38; refine HPut.out.mono ?_; rintro e w4 ⟨⟨va, vb, rfl⟩, hf4, es', e1, ha4⟩; have HA4 : Hid (Aft W1 w4 S V D M L P (hfn f) vs es es' R (xV b last (k1, k2) ba ix) e1 g off cc' ∧ w4.heap[w.heap.size]? = W1.heap[w.heap.size]?) := ⟨ha4, (hf4.block _ Hk3.out.2 (fun hF => by have := Hxb.out _ (.inr (.inr (.inr (.inl (.inr hF))))); have := Hb.out; omega)).trans Hk3.out.1⟩; clear hf4 ha4))
    clear s4 kb0 kb1 HPut Hk3 HCl
    obtain ⟨ms, clock, hm1, hm2⟩ := HS1.out.vm
    have HV4 : Hid (w4.heap[V]? = some (.map ms clock)) := HA4.out.1.vm.trans hm1
    have HS4 : Hid (w4.heap[S]? = some (.cells #[.int .i64 (P : Int), .int .i64 cap, .int .i64 last, .map (some V), ptr D] 70 (0, 0))) := HA4.out.1.st.trans HS1.out.st
    have s3 : w4.cell? ⟨S, 3, none⟩ = some (.map (some V)) := by rw [World.cell?, HS4.out]; rfl
    have x2 : w4.cell? ⟨b, 2, none⟩ = some (.int .i64 (last + 1)) := by rw [World.cell?, HA4.out.1.xb]; rfl
    have hno : fv vs (last + 1) = none := List.find?_eq_none.2 (fun v hv => by have := (HS1.out.nl v hv).2; simp; omega)
    have hmu : (Instr.mapUpdate 67 (.map (some V)) (.int .i64 (last + 1)) (ptr b)).run Try.prog w4.drew = .ok () (ChangeMaps.setBlock w4.drew V (.map (ms.push ⟨.int .i64 (last + 1), ptr b, clock⟩) (clock + 1))) :=
      vm_put (w := w4.drew) (k := last + 1) HV4.out HS1.out.nums.1 hm2 HS1.out.nums.2 (by unfold In64; omega) hno b
    have HM5 : Hid (∃ ms' c, (ChangeMaps.setBlock w4.drew V (.map (ms.push ⟨.int .i64 (last + 1), ptr b, clock⟩) (clock + 1))).heap[V]? = some (.map ms' c) ∧ ms'.toList.map (fun x => (x.key, x.val)) = (vs ++ [xV b last (k1, k2) ba ix]).map (fun v => (.int .i64 v.n, ptr v.b))) :=
      ⟨_, _, ChangeMaps.heap_setBlock_same (w := w4.drew) HV4.out _, by simp [hm2]⟩
    have HO5 : Hid (∀ k, k ≠ V → (ChangeMaps.setBlock w4.drew V (.map (ms.push ⟨.int .i64 (last + 1), ptr b, clock⟩) (clock + 1))).heap[k]? = w4.heap[k]?) := fun k hk => ChangeMaps.heap_setBlock_other (w := w4.drew) HV4.out _ hk
    have HZ5 : Hid ((ChangeMaps.setBlock w4.drew V (.map (ms.push ⟨.int .i64 (last + 1), ptr b, clock⟩) (clock + 1))).heap.size = w4.heap.size ∧ (ChangeMaps.setBlock w4.drew V (.map (ms.push ⟨.int .i64 (last + 1), ptr b, clock⟩) (clock + 1))).os = w4.os ∧ (ChangeMaps.setBlock w4.drew V (.map (ms.push ⟨.int .i64 (last + 1), ptr b, clock⟩) (clock + 1))).tape = w4.tape ∧ (ChangeMaps.setBlock w4.drew V (.map (ms.push ⟨.int .i64 (last + 1), ptr b, clock⟩) (clock + 1))).output = w4.output) := ⟨by simp [ChangeMaps.setBlock], rfl, rfl, rfl⟩
    go_upto_region 7 with fail
    go_region
    generalize ChangeMaps.setBlock w4.drew V (.map (ms.push ⟨.int .i64 (last + 1), ptr b, clock⟩) (clock + 1)) = W5 at *
    clear s3 x2 hmu hm1 hm2 hno
    have nSV : S ≠ V := fun e => by have h1 := HS4.out; rw [e, HV4.out] at h1; cases h1
    have nbV : b ≠ V := fun e => by have h1 := HA4.out.1.xb; simp only at h1; rw [e, HV4.out] at h1; cases h1
    have nbS : b ≠ S := fun e => by have h1 := HA4.out.1.xb; simp only at h1; rw [e, HS4.out] at h1; exact ty_ne h1 (by decide)
    have hS5 : W5.heap[S]? = some (.cells #[.int .i64 (P : Int), .int .i64 cap, .int .i64 last, .map (some V), ptr D] 70 (0, 0)) := (HO5.out S nSV).trans HS4.out
    have s2 : W5.cell? ⟨S, 2, none⟩ = some (.int .i64 last) := by rw [World.cell?, hS5]; rfl
    have f2 : W5.frozen? ⟨S, 2, none⟩ = false := frozen_of_row _ _ _ _ _ hS5
    have hb5 : W5.heap[b]? = some (.cells (cellsV (xV b last (k1, k2) ba ix)) 82 (0, 0)) := (HO5.out b nbV).trans HA4.out.1.xb
    have x2 : W5.cell? ⟨b, 2, none⟩ = some (.int .i64 (last + 1)) := by rw [World.cell?, hb5]; rfl
    have HS5 : Hid ((W5.setCell ⟨S, 2, none⟩ (.int .i64 (last + 1))).heap[S]? = some (.cells #[.int .i64 (P : Int), .int .i64 cap, .int .i64 (last + 1), .map (some V), ptr D] 70 (0, 0))) := blk_set _ hS5
    have HO6 : Hid (∀ k, k ≠ S → (W5.setCell ⟨S, 2, none⟩ (.int .i64 (last + 1))).heap[k]? = W5.heap[k]?) := fun k hk => heap_setCell_other _ _ _ _ hk
    have HZ6 : Hid ((W5.setCell ⟨S, 2, none⟩ (.int .i64 (last + 1))).heap.size = W5.heap.size ∧ (W5.setCell ⟨S, 2, none⟩ (.int .i64 (last + 1))).os = W5.os ∧ (W5.setCell ⟨S, 2, none⟩ (.int .i64 (last + 1))).tape = W5.tape ∧ (W5.setCell ⟨S, 2, none⟩ (.int .i64 (last + 1))).output = W5.output) := ⟨by simp, rfl, rfl, rfl⟩
    clear hS5 hb5
    go_wp2
    go_ret2
    refine .inr ⟨HE.out.symm, rfl, b, es', (fun k => if k = (k1, k2) then (g, off, cc') else R k), by have := Hb.out; omega, ?_⟩
    generalize W5.setCell ⟨S, 2, none⟩ (.int .i64 (last + 1)) = W6 at *
    have hfin := HA4.out.1.fin HS1.out (W' := W6) rfl ⟨HI.out.2.1, HI.out.2.2.1, HI.out.2.2.2, by show In64 0; unfold In64; omega⟩ HE.out.symm hl0 (fun k hF e => by have := Hxb.out k hF; simp only at e; omega) HS5.out (by
      obtain ⟨ms', c, q1, q2⟩ := HM5.out
      exact ⟨ms', c, (HO6.out V (Ne.symm nSV)).trans q1, q2⟩) (fun k h1 h2 => (HO6.out k h1).trans (HO5.out k h2)) (by
      obtain ⟨q1, q2, q3, q4⟩ := HZ5.out
      obtain ⟨r1, r2, r3, r4⟩ := HZ6.out
      exact ⟨r2.trans q2, r3.trans q3, r4.trans q4, by omega⟩)
    have hb1 := HW1.out
    have hfr := hfin.2.1
    refine ⟨hfin.1, ?_, fun k' hk' => (hfin.2.2 k' hk').imp id (fun h1 => h1.elim (fun h2 => Nat.le_trans hb1.size h2) (fun h2 => by have := Hb.out; simp only at h2; omega))⟩
    exact ⟨hfr.os.trans hb1.os, hfr.tape.trans hb1.tape, hfr.output.trans hb1.output, Nat.le_trans hb1.size hfr.size, fun k hk hn => (hfr.block k (Nat.lt_of_lt_of_le hk hb1.size) hn).trans (hb1.block k hk)⟩
end Go.Proofs.Ytfkijdlggdgfhaa
