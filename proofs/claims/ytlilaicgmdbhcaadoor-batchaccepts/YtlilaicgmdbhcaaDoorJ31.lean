import Derived.Test.YtlilaicgmdbhcaaDoorJ30
import Derived.Test.YtlilaicgmdbhcaaDoorJ13
import Derived.Test.YtlilaicgmdbhcaaDoorJ24
/-
  THE WALKS OF THE DOCUMENT's Rises, Has, Find.
-/
namespace Go.Proofs.YtlilaicgmdbhcaaDoor.Kk
open Go.RowKit Go.Sort

def RisesTo (b : Bool) (L : List K) (k : Nat) : Prop := b = true ↔ (L.all isKey = true ∧ Rise (L.take k))
theorem RisesTo.start (L : List K) : RisesTo (L.all isKey) L 1 := by
  unfold RisesTo
  constructor
  · intro h
    refine ⟨h, ?_⟩
    cases L with
    | nil => exact rise_nil
    | cons a L => exact ⟨by simp at h; simpa using h.1, by simp⟩
  · exact fun h => h.1
theorem RisesTo.no {L : List K} {k : Nat} (h : RisesTo false L k) : RisesTo false L (k + 1) := by
  unfold RisesTo at *
  constructor
  · intro e; cases e
  · rintro ⟨h1, h2⟩
    refine h.2 ⟨h1, ?_⟩
    have := h2.take k
    rwa [List.take_take, Nat.min_eq_left (by omega)] at this
theorem RisesTo.step {L : List K} {j : Nat} (hk : j + 1 < L.length) (h : RisesTo true L (j + 1)) : RisesTo (lt (kd L j) (kd L (j + 1))) L (j + 1 + 1) := by
  unfold RisesTo at *
  obtain ⟨h1, h2⟩ := h.1 rfl
  constructor
  · intro e
    exact ⟨h1, rise_next hk h2 ((List.all_eq_true.1 h1) _ (kd_mem hk)) (fun i hi => by rw [show i = j by omega]; exact e)⟩
  · rintro ⟨_, h3⟩
    have := rise_pair (L := L.take (j + 1 + 1)) (i := j) (j := j + 1) (by omega) (by simp; omega) h3
    have e : ∀ i, i < j + 1 + 1 → kd (L.take (j + 1 + 1)) i = kd L i := fun i hi => by
      unfold kd; rw [List.getD_eq_getElem?_getD, List.getD_eq_getElem?_getD, List.getElem?_take, if_pos hi]
    rwa [e j (by omega), e (j + 1) (by omega)] at this
theorem RisesTo.all {b : Bool} {L : List K} {k : Nat} (h : RisesTo b L k) (hk : L.length ≤ k) : b = decide (Rise L) := by
  unfold RisesTo at h
  rw [List.take_of_length_le hk] at h
  cases b with
  | true => exact (decide_eq_true (h.1 rfl).2).symm
  | false => exact (decide_eq_false (fun hr => by have := h.2 ⟨List.all_eq_true.2 hr.1, hr⟩; cases this)).symm

set_option maxHeartbeats 2000000 in
set_option maxRecDepth 100000 in
theorem refRises_any (w : World) (ao : Option Addr) (cap n : Nat) (L : List K) (hn : n = L.length) (h : KeysAt w ao L) (hm : n ≤ 8796093022208) :
    Calls Tryd.prog 48 #[.slice ao n cap] w fun e w' => e = .returned (.bool (decide (Rise L))) ∧ ∃ q os, w' = grow (w.drewN q) os := by
  have mx := mixed
  have HN : Hid (n = L.length) := hn
  have HK : Hid (KeysAt w ao L) := h
  clear hn h
  go_enter Tryd.func48, Tryd.ntmps48
  go_wp2_with fail
  refine (refAll_any w ao cap n L HN.out HK.out hm).mono ?_
  rintro e w1 ⟨rfl, hg⟩
  have HG1 : Hid (Grew w w1) := hg
  clear hg
  have HS : Hid (RisesTo (L.all isKey) L 1) := RisesTo.start L
  generalize L.all isKey = b0 at *
  go_wp2_with fail
  go_loopw [4, 3] (fun x y wr => ∃ (j : Nat) (b : Bool), j ≤ n ∧ x = .int .i64 ((j + 1 : Nat) : Int) ∧ y = .bool b ∧ Hid (RisesTo b L (j + 1)) ∧ Hid (Grew w wr)) (fun x _ _ => n + 1 - (intOf x).toNat)
  case atStart => exact ⟨0, b0, Nat.zero_le _, rfl, rfl, HS, HG1⟩
  case round =>
    clear HS HG1
    obtain ⟨j, b, hj, rfl, rfl, HR, HG⟩ := hrel
    obtain ⟨k, hk⟩ : ∃ k, k = j + 1 := ⟨_, rfl⟩
    have Hkj : Hid (k = j + 1) := hk
    rw [← hk] at HR ⊢
    by_cases hlt : k < n
    · have hl : k < L.length := by have := HN.out; omega
      rcases HK.out.grew HG.out with h0 | ⟨bb, off, rfl, hc⟩
      · rw [h0] at hl; simp at hl
      · cases b with
        | false =>
          have HR2 : Hid (RisesTo false L (k + 1)) := HR.out.no
          clear hc hl HR hk
          go_wp2_with fail
          refine wp_region_quiet_grown mx (by kernel_rfl) ?_
          repeat (go_big_quiet_step (fail))
          refine wpQuiet_nil ?_
          intro _ hw'
          obtain ⟨⟨nq, osq⟩, hw''⟩ := hw'
          subst hw''
          have HG2 : Hid (Grew w (grow (wr.drewN nq) osq)) := HG.out.trans ⟨_, _, rfl⟩
          generalize grow (wr.drewN nq) osq = W2 at *
          go_wp2_with fail
          go_roundw
          case rel => exact ⟨k, false, by omega, by go_num, rfl, HR2, HG2⟩
          case measure => simp [intOf]; omega
        | true =>
          obtain ⟨c1, c2⟩ := KeysAt.at hc k hl
          obtain ⟨p1, p2⟩ := KeysAt.at hc j (by omega)
          have HR2 : Hid (RisesTo (lt (kd L j) (kd L k)) L (k + 1)) := by subst hk; exact HR.out.step hl
          have HD : Hid (decide (cmp (kd L j) (kd L k) < 0) = lt (kd L j) (kd L k)) := by rw [Hid]; have := cmp_neg (kd L j) (kd L k); cases h : lt (kd L j) (kd L k) <;> simp [h] at this ⊢ <;> omega
          have hkm : (k : Int) - 1 = (j : Int) := by omega
          generalize hx : kd L k = x at *
          generalize hy : kd L j = y at *
          clear hx hy hc hl HR hk
          obtain ⟨x1, x2⟩ := x
          obtain ⟨y1, y2⟩ := y
          simp only at c1 c2 p1 p2
          have HCm : Hid (∀ w, Calls Tryd.prog 44 #[.agg #[.int .i64 y1, .int .i64 y2], .agg #[.int .i64 x1, .int .i64 x2]] w fun e w' => e = .returned (.int .i64 (cmp (y1, y2) (x1, x2))) ∧ ∃ q os, w' = grow (w.drewN q) os) := fun w => refCompare_any w _ _ _ _
          have hd := HD.out
          generalize cmp (y1, y2) (x1, x2) = c at *
          generalize lt (y1, y2) (x1, x2) = bl at *
          have g1 : ∀ n os, (grow (wr.drewN n) os).cell? ⟨bb, off + k * 2, none⟩ = some (.int .i64 x1) := fun n os => Grew.cell ⟨n, os, rfl⟩ c1
          have g2 : ∀ n os, (grow (wr.drewN n) os).cell? ⟨bb, off + k * 2 + 1, none⟩ = some (.int .i64 x2) := fun n os => Grew.cell ⟨n, os, rfl⟩ c2
          have q1 : ∀ n os, (grow (wr.drewN n) os).cell? ⟨bb, off + j * 2, none⟩ = some (.int .i64 y1) := fun n os => Grew.cell ⟨n, os, rfl⟩ p1
          have q2 : ∀ n os, (grow (wr.drewN n) os).cell? ⟨bb, off + j * 2 + 1, none⟩ = some (.int .i64 y2) := fun n os => Grew.cell ⟨n, os, rfl⟩ p2
          clear HD c1 c2 p1 p2
          go_wp2_with fail
          refine wp_region_quiet_grown mx (by kernel_rfl) ?_
          repeat (go_big_quiet_step ((go_at_call 44; exact Calls.grown_of (HCm.out _))))
          refine wpQuiet_nil ?_
          intro _ hw'
          obtain ⟨⟨nq, osq⟩, hw''⟩ := hw'
          subst hw''
          have HG2 : Hid (Grew w (grow (wr.drewN nq) osq)) := HG.out.trans ⟨_, _, rfl⟩
          generalize grow (wr.drewN nq) osq = W2 at *
          go_wp2_with fail
          go_roundw
          case rel => exact ⟨k, bl, by omega, by go_num, rfl, HR2, HG2⟩
          case measure => simp [intOf]; omega
    · have HE : Hid (b = decide (Rise L)) := HR.out.all (by have := HN.out; omega)
      clear hk
      go_wp2
      go_ret
      exact ⟨by rw [HE.out]; rfl, HG.out⟩


end Go.Proofs.YtlilaicgmdbhcaaDoor.Kk
/-
  THE WALKS OF THE DOCUMENT's Formed, Sound, Check.
-/
namespace Go.Proofs.YtlilaicgmdbhcaaDoor.Kk
open Go.RowKit Go.Sort

set_option maxRecDepth 100000 in
set_option maxHeartbeats 1000000 in
theorem refFormed_any (w : World) (x : Bx) (h : BxOK w x) :
    Calls Tryd.prog 33 #[bxv x] w fun e w' => e = .returned (.int .i64 (formN x.t)) ∧ Grew w w' := by
  have HO : Hid (BxOK w x) := h
  clear h
  obtain ⟨⟨proc, args, reads, writes⟩, aA, cA, aR, cR, aW, cW⟩ := x
  have HF : Hid (formN ⟨proc, args, reads, writes⟩ = if proc < 0 ∨ 64 ≤ proc then 61 else if 16 < args.length then 62 else if 16 < reads.length then 63 else if 16 < writes.length then 64 else if Rise reads ∧ Rise writes then 0 else 65) := rfl
  simp only [bxv]
  generalize formN ⟨proc, args, reads, writes⟩ = F at *
  have HG : Hid (Grew w (w.alloc (.cells #[.int .i64 proc, .slice aA args.length cA, .slice aR reads.length cR, .slice aW writes.length cW] 62))) := (Grew.refl _).alloc _
  have HR : Hid (∀ W, Grew w W → Calls Tryd.prog 48 #[.slice aR reads.length cR] W fun e w' => e = .returned (.bool (decide (Rise reads))) ∧ ∃ q os, w' = grow (W.drewN q) os) := fun W hg => refRises_any W aR cR reads.length reads rfl (HO.out.reads.grew hg) (by have := HO.out.bigR; simp only at this; omega)
  have HW : Hid (∀ W, Grew w W → Calls Tryd.prog 48 #[.slice aW writes.length cW] W fun e w' => e = .returned (.bool (decide (Rise writes))) ∧ ∃ q os, w' = grow (W.drewN q) os) := fun W hg => refRises_any W aW cW writes.length writes rfl (HO.out.writes.grew hg) (by have := HO.out.bigW; simp only at this; omega)
  by_cases h0 : proc < 0
  · have HE : Hid (F = 61) := by rw [HF.out, if_pos (.inl h0)]; rfl
    go_enter Tryd.func33, Tryd.ntmps33
    go_wp2
    go_ret
    exact ⟨by rw [HE.out]; rfl, HG.out⟩
  by_cases h1 : 64 ≤ proc
  · have HE : Hid (F = 61) := by rw [HF.out, if_pos (.inr h1)]; rfl
    go_enter Tryd.func33, Tryd.ntmps33
    go_wp2
    go_ret
    exact ⟨by rw [HE.out]; rfl, HG.out⟩
  by_cases h2 : 16 < args.length
  · have HE : Hid (F = 62) := by rw [HF.out, if_neg (by omega), if_pos h2]; rfl
    go_enter Tryd.func33, Tryd.ntmps33
    go_wp2
    go_ret
    exact ⟨by rw [HE.out]; rfl, HG.out⟩
  by_cases h3 : 16 < reads.length
  · have HE : Hid (F = 63) := by rw [HF.out, if_neg (by omega), if_neg h2, if_pos h3]; rfl
    go_enter Tryd.func33, Tryd.ntmps33
    go_wp2
    go_ret
    exact ⟨by rw [HE.out]; rfl, HG.out⟩
  by_cases h4 : 16 < writes.length
  · have HE : Hid (F = 64) := by rw [HF.out, if_neg (by omega), if_neg h2, if_neg h3, if_pos h4]; rfl
    go_enter Tryd.func33, Tryd.ntmps33
    go_wp2
    go_ret
    exact ⟨by rw [HE.out]; rfl, HG.out⟩
  have HE : Hid (F = if (decide (Rise reads) && decide (Rise writes)) = true then 0 else 65) := by
    rw [HF.out, if_neg (by omega), if_neg h2, if_neg h3, if_neg h4]
    by_cases r1 : Rise reads <;> by_cases r2 : Rise writes <;> simp [r1, r2, Hid]
  clear HF
  generalize decide (Rise reads) = b1 at *
  generalize decide (Rise writes) = b2 at *
  have HC : Hid (∀ W, Grew w W → W.cell? ⟨w.heap.size, 3, none⟩ = some (.slice aW writes.length cW) → True) := fun _ _ _ => trivial
  go_enter Tryd.func33, Tryd.ntmps33
  go_wp2_with fail
  refine (HR.out _ HG.out).mono ?_
  rintro e w1 ⟨rfl, hg⟩
  have HG1 : Hid (Grew w w1) := HG.out.trans hg
  have k3 : w1.cell? ⟨w.heap.size, 3, none⟩ = some (.slice aW writes.length cW) := Grew.cell hg (cell_new _ _ _ 3 _ rfl)
  clear hg HG HC HR
  go_wp2_with fail
  refine (HW.out _ HG1.out).mono ?_
  rintro e w2 ⟨rfl, hg⟩
  have HG2 : Hid (Grew w w2) := HG1.out.trans hg
  clear hg HG1 HW k3
  cases b1 <;> cases b2
  all_goals
    go_wp2
    go_ret
    exact ⟨by rw [HE.out]; rfl, HG2.out⟩

set_option maxRecDepth 100000 in
set_option maxHeartbeats 1000000 in
theorem refSound_any (w : World) (lo : Option Addr) (n lc : Nat) (Ps : List Pr) (x : Bx) (hl : ProcsAt w lo Ps) (hn : n = Ps.length) (h : BxOK w x) :
    Calls Tryd.prog 16 #[.slice lo n lc, bxv x] w fun e w' => e = .returned (.int .i64 (soundN Ps x.t)) ∧ Grew w w' := by
  have HO : Hid (BxOK w x) := h
  have HL : Hid (ProcsAt w lo Ps ∧ n = Ps.length) := ⟨hl, hn⟩
  have hp := h.pin
  clear h hl hn
  have HW : Hid (∀ W, Grew w W → Calls Tryd.prog 33 #[bxv x] W fun e w' => e = .returned (.int .i64 (formN x.t)) ∧ Grew W w') := fun W hg => refFormed_any W x (HO.out.kept hg.below)
  obtain ⟨⟨proc, args, reads, writes⟩, aA, cA, aR, cR, aW, cW⟩ := x
  simp only [bxv] at *
  have HG : Hid (Grew w (w.alloc (.cells #[.int .i64 proc, .slice aA args.length cA, .slice aR reads.length cR, .slice aW writes.length cW] 62))) := (Grew.refl _).alloc _
  have HF : Hid (soundN Ps ⟨proc, args, reads, writes⟩ = if proc < 0 ∨ (n : Int) ≤ proc then 61 else
    if (args.length : Int) ≠ (pd Ps proc.toNat).p.args then 62 else if (reads.length : Int) ≠ (pd Ps proc.toNat).p.reads then 63 else if (writes.length : Int) ≠ (pd Ps proc.toNat).p.writes then 64 else formN ⟨proc, args, reads, writes⟩) := by rw [HL.out.2]; rfl
  generalize soundN Ps ⟨proc, args, reads, writes⟩ = F at *
  generalize formN ⟨proc, args, reads, writes⟩ = FN at *
  by_cases h0 : proc < 0
  · have HE : Hid (F = 61) := by rw [HF.out, if_pos (.inl h0)]; rfl
    go_enter Tryd.func16, Tryd.ntmps16
    go_wp2
    go_ret
    exact ⟨by rw [HE.out]; rfl, HG.out⟩
  by_cases h1 : (n : Int) ≤ proc
  · have HE : Hid (F = 61) := by rw [HF.out, if_pos (.inr h1)]; rfl
    go_enter Tryd.func16, Tryd.ntmps16
    go_wp2
    go_ret
    exact ⟨by rw [HE.out]; rfl, HG.out⟩
  obtain ⟨q, rfl⟩ : ∃ q : Nat, proc = (q : Int) := ⟨proc.toNat, by omega⟩
  have hq : q < n := by omega
  obtain ⟨b, off, rfl, c0, c1, c2, c3, c4, c5⟩ := HL.out.1.get q (by have := HL.out.2; omega)
  have HF2 : Hid (F = if (args.length : Int) ≠ (pd Ps q).p.args then 62 else if (reads.length : Int) ≠ (pd Ps q).p.reads then 63 else if (writes.length : Int) ≠ (pd Ps q).p.writes then 64 else FN) := by rw [HF.out, if_neg (by omega)]; rfl
  clear HF c0 h0 h1
  generalize pd Ps q = y at *
  obtain ⟨nm, ⟨pa, pr, pw, pl⟩, ya, yn, yc, yL⟩ := y
  simp only at c1 c2 c3 c4 c5 HF2
  have HB : Hid (∀ W, Grew w W → W.cell? ⟨b, off + q * 6 + 1, none⟩ = some (.int .i64 pa) ∧ W.cell? ⟨b, off + q * 6 + 2, none⟩ = some (.int .i64 pr) ∧ W.cell? ⟨b, off + q * 6 + 3, none⟩ = some (.int .i64 pw) ∧ W.cell? ⟨b, off + q * 6 + 4, none⟩ = some (.int .i64 pl) ∧ W.cell? ⟨b, off + q * 6 + 5, none⟩ = some (.slice ya yn yc)) := fun W hg => ⟨hg.cell c1, hg.cell c2, hg.cell c3, hg.cell c4, hg.cell c5⟩
  obtain ⟨d1, d2, d3, d4, d5⟩ := HB.out _ HG.out
  clear c1 c2 c3 c4 c5
  have HG2 : Hid (Grew w ((w.alloc (.cells #[.int .i64 (q : Int), .slice aA args.length cA, .slice aR reads.length cR, .slice aW writes.length cW] 62)).alloc (.cells #[.int .i64 pa, .int .i64 pr, .int .i64 pw, .int .i64 pl, .slice ya yn yc] 40))) := HG.out.alloc _
  go_enter Tryd.func16, Tryd.ntmps16
  by_cases e1 : (args.length : Int) = pa
  · by_cases e2 : (reads.length : Int) = pr
    · by_cases e3 : (writes.length : Int) = pw
      · have HE : Hid (F = FN) := by rw [HF2.out, if_neg (by simpa using e1), if_neg (by simpa using e2), if_neg (by simpa using e3)]; rfl
        go_wp2_with fail
        refine (HW.out _ HG2.out).mono ?_
        rintro e w1 ⟨rfl, hg⟩
        have HG3 : Hid (Grew w w1) := HG2.out.trans hg
        clear hg HW HF2 HB HG HG2
        go_wp2
        go_ret
        exact ⟨by rw [HE.out]; rfl, HG3.out⟩
      · have HE : Hid (F = 64) := by rw [HF2.out, if_neg (by simpa using e1), if_neg (by simpa using e2), if_pos e3]; rfl
        go_wp2
        go_ret
        exact ⟨by rw [HE.out]; rfl, HG2.out⟩
    · have HE : Hid (F = 63) := by rw [HF2.out, if_neg (by simpa using e1), if_pos e2]; rfl
      go_wp2
      go_ret
      exact ⟨by rw [HE.out]; rfl, HG2.out⟩
  · have HE : Hid (F = 62) := by rw [HF2.out, if_pos e1]; rfl
    go_wp2
    go_ret
    exact ⟨by rw [HE.out]; rfl, HG2.out⟩

set_option maxRecDepth 100000 in
set_option maxHeartbeats 1000000 in
theorem refCheck_b (w : World) (lo ao : Option Addr) (m lc n cap : Nat) (Ps : List Pr) (Bs : List Bx) (hl : ProcsAt w lo Ps) (hn' : m = Ps.length) (h : BatAt w ao Bs) (hn : n = Bs.length) (hm : n ≤ 140737488355328) :
    Calls Tryd.prog 8 #[.slice lo m lc, .slice ao n cap] w fun e w' => e = .returned (.tuple #[.int .i64 ((eachN (soundN Ps) (Bs.map Bx.t)).1 : Int), .int .i64 (eachN (soundN Ps) (Bs.map Bx.t)).2]) ∧ Grew w w' := by
  have H : Hid (BatAt w ao Bs) := h
  have HN : Hid (n = Bs.length) := hn
  have HL : Hid (∀ i, i < Bs.length → ∀ W, Grew w W → Calls Tryd.prog 16 #[.slice lo m lc, bxv (bd Bs i)] W fun e w' => e = .returned (.int .i64 (soundN Ps (bd Bs i).t)) ∧ Grew W w') := fun i hi W hg => refSound_any W lo m lc Ps _ (hl.grew hg) hn' ((h.lst i hi).kept hg.below)
  have HT : Hid ((Bs.map Bx.t).length = n) := by rw [hn]; simp [Hid]
  clear h hn hl hn'
  generalize soundN Ps = f at *
  by_cases h64 : 64 < n
  · have HE : Hid (eachN f (Bs.map Bx.t) = (0, 60)) := eachN_big (by rw [HT.out]; exact h64)
    have h64i : (64 : Int) < n := by omega
    go_enter Tryd.func8, Tryd.ntmps8
    go_wp2
    go_ret2
    exact ⟨by rw [HE.out]; rfl, Grew.refl _⟩
  have h64i : ¬ (64 : Int) < n := by omega
  go_enter Tryd.func8, Tryd.ntmps8
  go_wp2_with fail
  go_loopw [6] (fun x wr => ∃ k : Nat, k ≤ n ∧ x = .int .i64 (k : Int) ∧ Hid (Grew w wr) ∧ Hid (∀ i, i < k → f (td (Bs.map Bx.t) i) = 0)) (fun x _ => n - (intOf x).toNat)
  case atStart => exact ⟨0, Nat.zero_le _, rfl, Grew.refl _, fun i hi => by omega⟩
  case round =>
    obtain ⟨k, hk, rfl, HG, HZ⟩ := hrel
    by_cases hlt : k < n
    · have hlt' : k < Bs.length := by have := HN.out; omega
      have HTd : Hid (td (Bs.map Bx.t) k = (bd Bs k).t) := td_map hlt'
      obtain ⟨b, off, rfl, c0, c1, c2, c3⟩ := TxsAt.get (H.out.at_.kept HG.out.below) k hlt'
      have HC : Hid (∀ W, Grew w W → Calls Tryd.prog 16 #[.slice lo m lc, bxv (bd Bs k)] W fun e w' => e = .returned (.int .i64 (f (bd Bs k).t)) ∧ Grew W w') := HL.out k hlt'
      generalize bd Bs k = x at *
      obtain ⟨⟨proc, args, reads, writes⟩, aA, cA, aR, cR, aW, cW⟩ := x
      simp only [bxv] at c0 c1 c2 c3 HC HTd
      obtain ⟨r, hr⟩ : ∃ r, r = f ⟨proc, args, reads, writes⟩ := ⟨_, rfl⟩
      rw [← hr] at HC
      have HR : Hid (f (td (Bs.map Bx.t) k) = r) := by rw [HTd.out, hr]; rfl
      clear hr HTd
      go_wp2_with fail
      refine (HC.out _ HG.out).mono ?_
      rintro e w2 ⟨rfl, hg⟩
      have HG2 : Hid (Grew w w2) := HG.out.trans hg
      clear hg HC HG c0 c1 c2 c3
      by_cases h0 : r = 0
      · subst h0
        go_wp2
        go_roundw
        case rel => exact ⟨k + 1, by omega, by go_num, HG2, fun i hi => by
          by_cases e : i = k
          · subst e; exact HR.out
          · exact HZ.out i (by omega)⟩
        case measure => simp [intOf]; omega
      · have h0' : ¬ r = 0 := h0
        have HE : Hid (eachN f (Bs.map Bx.t) = (k, r)) := by
          have := eachN_stop (f := f) (Ts := Bs.map Bx.t) (k := k) (by rw [HT.out]; omega) HZ.out (by rw [HR.out]; exact h0) (by rw [HT.out]; exact hlt)
          rw [HR.out] at this; exact this
        go_wp2
        go_ret2
        exact ⟨by rw [HE.out]; rfl, HG2.out⟩
    · obtain rfl : k = n := by omega
      have HE : Hid (eachN f (Bs.map Bx.t) = (0, 0)) := eachN_zero (by rw [HT.out]; omega) (by rw [HT.out]; exact HZ.out)
      go_wp2
      go_ret2
      exact ⟨by rw [HE.out]; rfl, HG.out⟩
end Go.Proofs.YtlilaicgmdbhcaaDoor.Kk
/-
  BatchAccepts: THE LAW.
-/
namespace Go.Proofs.YtlilaicgmdbhcaaDoor.Kk
open Go.RowKit Go.Sort

theorem TxC.ok {W : World} {base : Nat} {y : Bx} (h : TxC W base y) (hw : WF y.t) (hi : TIn y.t) : BxOK W y := by
  obtain ⟨a1, c1, e1, n1, m1, l1⟩ := h.a.slice
  obtain ⟨a2, c2, e2, n2, m2, l2⟩ := h.r.slice
  obtain ⟨a3, c3, e3, n3, m3, l3⟩ := h.w.slice
  simp only [Value.slice.injEq, true_and] at e1 e2 e3
  obtain ⟨⟨rfl, rfl⟩, ⟨rfl, rfl⟩, ⟨rfl, rfl⟩⟩ := And.intro e1 (And.intro e2 e3)
  have a := hw.a; have r := hw.r; have w := hw.w; have p0 := hw.p0; have p1 := hw.p1
  exact ⟨n1, n2, n3, ⟨by omega, by omega⟩, hi.a, hi.r, hi.w, m1, m2, m3, l1, l2, l3, by omega, by omega, by omega⟩
theorem bat_of {W : World} {base : Nat} {ao : Option Addr} {cap : Nat} {Qs : List Bx} (h : OwnT W base (.slice ao Qs.length cap) Qs) (hc : ∀ x ∈ Qs, TxC W base x) (hz : ∀ t ∈ Qs.map Bx.t, WF t ∧ TIn t) : BatAt W ao Qs := by
  obtain ⟨a1, c1, e1, n1, _, _⟩ := h.slice
  simp only [Value.slice.injEq, true_and] at e1
  obtain ⟨rfl, rfl⟩ := e1
  exact ⟨n1, fun x hx => (hc x hx).ok (hz x.t (List.mem_map.2 ⟨x, hx, rfl⟩)).1 (hz x.t (List.mem_map.2 ⟨x, hx, rfl⟩)).2⟩

set_option maxRecDepth 100000 in
set_option maxHeartbeats 2000000 in
theorem lawBAcc (w : World) (lo a2 : Option Addr) (n lc n2 c2 : Nat) (Ps : List Pr) (zs : List Nat) (hl : LibAt w lo Ps) (hn : n = Ps.length) (hm : n ≤ 140737488351232) (hz : BytesAt w a2 zs) (hn2 : n2 = zs.length) (hnil : a2 = none → c2 = 0) (hlc : n2 ≤ c2) (hcm : c2 ≤ maxLen) (hs : n2 ≤ 140737488351232) (hg : ErrTy w) :
    Calls Tryd.prog 3 #[.slice lo n lc, .slice a2 n2 c2] w fun e w' => e = .returned (.bool true) ∧ Below w.heap.size w w' := by
  have HL : Hid (∀ W, Below w.heap.size w W → ProcsAt W lo Ps) := fun W hW => (hl.kept hW).1
  have HL0 : Hid (LibAt w lo Ps ∧ n = Ps.length) := ⟨hl, hn⟩
  have HZ : Hid (∀ W, Below w.heap.size w W → BytesAt W a2 zs) := fun W hW => hz.kept hW
  have HZ0 : Hid (∀ z ∈ zs, z < 256) := hz.1
  have HN2 : Hid (n2 = zs.length ∧ (a2 = none → c2 = 0) ∧ n2 ≤ c2 ∧ c2 ≤ maxLen) := ⟨hn2, hnil, hlc, hcm⟩
  have HG : Hid (∀ W, Below w.heap.size w W → ErrTy W) := fun W hW => (hW.cell (p := ⟨0, 0, none⟩) (cell_lt' hg)).trans hg
  clear hl hn hz hn2 hnil hlc hcm hg
  go_enter Tryd.func3, Tryd.ntmps3
  go_wp2_with fail
  refine (parts_any w lo n lc Ps HL0.out.1 HL0.out.2 hm).mono ?_
  rintro e w1 ⟨⟨r', rfl, hr', hr2, hr3⟩, q1, hw1⟩
  have HW1 : Hid (Below w.heap.size w w1) := by rw [hw1]; exact ((Grew.refl w).drewN q1).below
  clear hw1 hr'
  by_cases h0 : r' < 0
  · go_wp2
    go_ret
    exact ⟨rfl, HW1.out⟩
  have HSrc : Hid (BytesAt (w1.alloc (.cells (cellsU8 []) 5)) a2 zs) := HZ.out _ (HW1.out.alloc HW1.out.size _)
  have HBl : Hid (Below w1.heap.size w1 (w1.alloc (.cells (cellsU8 []) 5))) := (Below.refl _ _).alloc (Nat.le_refl _) _
  go_upto_region 3 with fail
  go_wp2_with (at_builtin; (refine wpList_append_bytes rfl _ _ rfl w1.heap.size _ [] rfl (OwnB.made (w := w1) (L := []) (by simp) (by simp) (Nat.le_refl _)) a2 n2 c2 zs rfl HN2.out.1 HSrc.out HN2.out.2.1 (by rw [← HN2.out.1]; simp only [List.length_nil]; omega) (by simp only [World.size_alloc]; omega) ?_; intro v6 w6 ho6 hg6; rw [List.nil_append] at ho6; have HO6 : Hid (OwnB w6 w1.heap.size v6 zs) := ho6; have HB6 : Hid (Below w1.heap.size w1 w6) := HBl.out.trans (grown_below hg6 (fun q hq => by cases hq; exact Nat.le_refl _) (by simp only [World.size_alloc]; omega)); clear ho6 hg6))
  obtain ⟨a6, c6, e6, hby6, _, _⟩ := HO6.out.slice
  subst e6
  have HY6 : Hid (BytesAt w6 a6 zs) := hby6
  have HW6 : Hid (Below w.heap.size w w6) := HW1.out.trans (HB6.out.mono HW1.out.size)
  clear hby6 HO6 HB6 HSrc HBl HW1
  rw [← HN2.out.1]
  refine (accept_any w6 lo a6 n lc n2 c6 Ps zs (HL.out _ HW6.out) HL0.out.2 HY6.out HN2.out.1 (by omega)).mono ?_
  intro e w7 hA
  unfold AccPost at hA
  obtain ⟨hb7, hA⟩ := hA
  have HW7 : Hid (Below w.heap.size w w7) := HW6.out.trans (hb7.mono HW6.out.size)
  have HRd : Hid (∀ W, Below w.heap.size w W → Calls Tryd.prog 6 #[.slice a2 n2 c2] W fun e w' => RPostB W zs e w') := fun W hW => refDecB_any W a2 n2 c2 zs (HZ.out W hW) HN2.out.1 (by omega) HN2.out.2.2.1 HN2.out.2.2.2 HN2.out.2.1
  clear hb7 HY6
  cases hd : decR zs with
  | error x =>
    obtain ⟨q, x⟩ := x
    rw [hd] at hA
    obtain ⟨P, rfl, hP⟩ := hA
    have hx : x ≠ 0 := (decR_err HZ0.out hd).2
    have hx' : (x != 0) = true := by simpa using hx
    have HP : Hid (w7.heap[P]? = some (.cells #[.int .i64 (q : Int), .iface 43 (.int .i64 x)] 48 (0, 0))) := hP
    have HD : Hid (decR zs = .error (q, x)) := hd
    clear hP hd hx
    go_wp2_with fail
    refine (HRd.out w7 HW7.out).mono ?_
    intro e w8 h8
    unfold RPostB at h8
    rw [HD.out] at h8
    obtain ⟨hb8, rfl⟩ := h8
    have HW8 : Hid (Below w.heap.size w w8) := HW7.out.trans (hb8.mono HW7.out.size)
    have HP8 : Hid (w8.heap[P]? = some (.cells #[.int .i64 (q : Int), .iface 43 (.int .i64 x)] 48 (0, 0))) := (hb8.block P (blk_lt4 HP.out)).trans HP.out
    clear hb8 HP HW7
    go_wp2_with fail
    refine (told_byte w8 P (q : Int) x (HG.out _ HW8.out) HP8.out).mono ?_
    rintro e w9 ⟨rfl, hb9⟩
    have HW9 : Hid (Below w.heap.size w w9) := HW8.out.trans (hb9.mono HW8.out.size)
    clear hb9 HW8 HP8 HD
    go_wp2
    go_ret
    exact ⟨rfl, HW9.out⟩
  | ok Ts =>
    rw [hd] at hA
    have HD : Hid (decR zs = .ok Ts) := hd
    have HZt : Hid (∀ t ∈ Ts, WF t ∧ TIn t) := (decR_back HZ0.out hd).2.2
    have H64 : Hid (Ts.length ≤ 64) := (decR_back HZ0.out hd).2.1
    clear hd
    simp only at hA
    by_cases hc : (eachN (soundN Ps) Ts).2 = 0
    · have HC : Hid (eachN (soundN Ps) Ts = (0, 0)) := eachN_place hc
      rw [if_pos hc] at hA
      obtain ⟨v, rfl, ho⟩ := hA
      obtain ⟨g, Xs, rfl, hX, hT, hLn⟩ := ho.lst HZt.out
      have HX : Hid (BatAt w7 (some ⟨g, 0, none⟩) Xs ∧ Xs.map Bx.t = Ts ∧ Ts.length = Xs.length) := ⟨hX, hT, hLn⟩
      clear ho hX hT hLn hc
      go_wp2_with fail
      refine (HRd.out w7 HW7.out).mono ?_
      intro e w8 h8
      unfold RPostB at h8
      rw [HD.out] at h8
      obtain ⟨hb8, Qs, aq, cq, hq, rfl, hown, htc⟩ := h8
      have HW8 : Hid (Below w.heap.size w w8) := HW7.out.trans (hb8.mono HW7.out.size)
      have HQ : Hid (BatAt w8 aq Qs ∧ Qs.map Bx.t = Ts) := ⟨bat_of hown htc (by rw [hq]; exact HZt.out), hq⟩
      have HX8 : Hid (BatAt w8 (some ⟨g, 0, none⟩) Xs ∧ Xs.map Bx.t = Ts ∧ Ts.length = Xs.length) := ⟨HX.out.1.kept hb8, HX.out.2⟩
      have hql : Qs.length = Ts.length := by rw [← hq, List.length_map]
      rw [hql]
      clear hb8 hown htc hq hql HX HW7
      go_wp2_with fail
      refine (told_nil w8).mono ?_
      rintro e w9 ⟨rfl, hw9⟩
      have hw9' := hw9.symm
      subst hw9'
      clear hw9
      have HCk : Hid (Calls Tryd.prog 8 #[.slice lo n lc, .slice aq Ts.length cq] w8 fun e w' => e = .returned (.tuple #[.int .i64 0, .int .i64 0]) ∧ Grew w8 w') := by
        have hqq : Ts.length = Qs.length := by rw [← HQ.out.2, List.length_map]
        have := refCheck_b w8 lo aq n lc Ts.length cq Ps Qs (HL.out _ HW8.out) HL0.out.2 HQ.out.1 hqq (by have := H64.out; omega)
        rw [HQ.out.2, HC.out] at this
        exact this
      go_wp2_with fail
      refine HCk.out.mono ?_
      rintro e w10 ⟨rfl, hg10⟩
      have HW10 : Hid (Below w.heap.size w w10) := HW8.out.trans (hg10.below.mono HW8.out.size)
      have HS : Hid (Calls Tryd.prog 9 #[.slice (some ⟨g, 0, none⟩) Ts.length Ts.length, .slice aq Ts.length cq] w10 fun e w' => e = .returned (.bool true) ∧ Grew w10 w') :=
        sameBatch_eq w10 _ _ Ts.length Ts.length cq Xs Qs (Like.of (HX8.out.1.kept hg10.below) (HQ.out.1.kept hg10.below) (by rw [HX8.out.2.1, HQ.out.2])) HX8.out.2.2 (by have := H64.out; omega)
      clear hg10 HCk HQ HX8 HW8 HC HD HZt H64
      generalize Ts.length = tl at *
      go_wp2_with fail
      refine HS.out.mono ?_
      rintro e w11 ⟨rfl, hg11⟩
      have HW11 : Hid (Below w.heap.size w w11) := HW10.out.trans (hg11.below.mono HW10.out.size)
      clear hg11 HS HW10
      go_wp2
      go_ret
      exact ⟨rfl, HW11.out⟩
    · rw [if_neg hc] at hA
      obtain ⟨P, rfl, hP⟩ := hA
      have hc' : ((eachN (soundN Ps) Ts).2 != 0) = true := by simpa using hc
      have HCkA : Hid (∀ W aq cq Qs, Below w.heap.size w W → BatAt W aq Qs → Qs.map Bx.t = Ts → Calls Tryd.prog 8 #[.slice lo n lc, .slice aq Ts.length cq] W fun e w' => e = .returned (.tuple #[.int .i64 ((eachN (soundN Ps) Ts).1 : Int), .int .i64 (eachN (soundN Ps) Ts).2]) ∧ Grew W w') := fun W aq cq Qs hW hQ hq => by
        have hqq : Ts.length = Qs.length := by rw [← hq, List.length_map]
        have := refCheck_b W lo aq n lc Ts.length cq Ps Qs (HL.out _ hW) HL0.out.2 hQ hqq (by have := H64.out; omega)
        rw [hq] at this
        exact this
      generalize (eachN (soundN Ps) Ts).1 = i1 at *
      generalize (eachN (soundN Ps) Ts).2 = x1 at *
      have HP : Hid (w7.heap[P]? = some (.cells #[.int .i64 (i1 : Int), .iface 43 (.int .i64 x1)] 53 (0, 0))) := hP
      clear hP hc
      go_wp2_with fail
      refine (HRd.out w7 HW7.out).mono ?_
      intro e w8 h8
      unfold RPostB at h8
      rw [HD.out] at h8
      obtain ⟨hb8, Qs, aq, cq, hq, rfl, hown, htc⟩ := h8
      have HW8 : Hid (Below w.heap.size w w8) := HW7.out.trans (hb8.mono HW7.out.size)
      have HQ : Hid (BatAt w8 aq Qs ∧ Qs.map Bx.t = Ts) := ⟨bat_of hown htc (by rw [hq]; exact HZt.out), hq⟩
      have HP8 : Hid (w8.heap[P]? = some (.cells #[.int .i64 (i1 : Int), .iface 43 (.int .i64 x1)] 53 (0, 0))) := (hb8.block P (blk_lt4 HP.out)).trans HP.out
      have hql : Qs.length = Ts.length := by rw [← hq, List.length_map]
      rw [hql]
      clear hb8 hown htc hq hql HP HW7
      go_wp2_with fail
      refine (told_tx w8 P (i1 : Int) x1 (HG.out _ HW8.out) HP8.out).mono ?_
      rintro e w9 ⟨rfl, hb9⟩
      have HW9 : Hid (Below w.heap.size w w9) := HW8.out.trans (hb9.mono HW8.out.size)
      have HCk : Hid (Calls Tryd.prog 8 #[.slice lo n lc, .slice aq Ts.length cq] w9 fun e w' => e = .returned (.tuple #[.int .i64 (i1 : Int), .int .i64 x1]) ∧ Grew w9 w') := HCkA.out w9 aq cq Qs HW9.out (HQ.out.1.kept hb9) HQ.out.2
      clear hb9 HW8 HP8 HQ HCkA HD HZt
      generalize Ts.length = tl at *
      go_wp2_with fail
      refine HCk.out.mono ?_
      rintro e w10 ⟨rfl, hg10⟩
      have HW10 : Hid (Below w.heap.size w w10) := HW9.out.trans (hg10.below.mono HW9.out.size)
      clear hg10 HCk HW9
      go_wp2
      go_ret
      exact ⟨rfl, HW10.out⟩
end Go.Proofs.YtlilaicgmdbhcaaDoor.Kk
