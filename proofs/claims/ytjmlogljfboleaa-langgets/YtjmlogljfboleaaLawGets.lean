/-
  THE WALK OF LangGets.
-/
import Derived.Test.YtjmlogljfboleaaLRead
import Derived.Test.YtjmlogljfboleaaLSame
import Derived.Test.YtjmlogljfboleaaREnd
import Derived.Test.YtjmlogljfboleaaRAt
import Derived.Deep.DeepCutAuto
import Derived.Deep.RegionWith
namespace Go.Proofs.Ytjmlogljfboleaa
open Go.RowKit Go.Sort

/-- what stands: both Readers, both programs -/
structure TS (w W : World) (rr : Nat) (ra : Option Addr) (rc : Nat) (B4 B5 B6 : Nat) (ao : Option Addr) (cap : Nat) (zs : List Nat) (P : Nat) (E : Int) (q : Nums) (L : List K) (a4 : Option Addr) (c4 : Nat) (a6 : Option Addr) (c6 : Nat) : Prop where
  rd : IsReader W rr ra rc zs P E
  b4 : PBox W B4 q a4 L.length c4
  k4 : KeysAt W a4 L
  md : IsMod W B5 ao cap zs P E
  b6 : PBox W B6 q a6 L.length c6
  k6 : KeysAt W a6 L
  bel : Below w.heap.size w W
theorem TS.kept {w W W' : World} {rr : Nat} {ra : Option Addr} {rc B4 B5 B6 : Nat} {ao : Option Addr} {cap : Nat} {zs : List Nat} {P : Nat} {E : Int} {q : Nums} {L : List K} {a4 : Option Addr} {c4 : Nat} {a6 : Option Addr} {c6 : Nat} (h : TS w W rr ra rc B4 B5 B6 ao cap zs P E q L a4 c4 a6 c6) (hb : Below W.heap.size W W') : TS w W' rr ra rc B4 B5 B6 ao cap zs P E q L a4 c4 a6 c6 :=
  ⟨h.rd.kept hb, h.b4.kept hb, h.k4.kept hb, h.md.kept hb, h.b6.kept hb, h.k6.kept hb, h.bel.trans (hb.mono h.bel.size)⟩
theorem below_grown2 {w w1 : World} {row : Option Nat} {B : Nat} (h : w.grownBy w1 row) (hr : ∀ k, row = some k → B ≤ k) (hB : B ≤ w.heap.size) : Below B w w1 :=
  ⟨h.os, h.tape, h.output, h.size, fun k hk => h.block k (Nat.lt_of_lt_of_le hk hB) (fun e => by have := hr k e.symm; omega)⟩
theorem getL_small (b : List Nat) (p : Nat) (e : Int) : (getP b p e).2.1.length ≤ 256 := by
  unfold getP
  simp only
  split
  · simp only [getL_length]
    unfold getH
    exact rdUpto_most _ _ _ 256
  · simp
theorem getP_err (b : List Nat) (p : Nat) {e : Int} (h : e ≠ 0) : getP b p e = (⟨0, 0, 0, 0⟩, [], p, e) := by
  have hh : getH b p e = (⟨0, 0, 0, 0⟩, 0, p, e) := by simp only [getH, rdUpto_err b p _ h]; rfl
  unfold getP
  simp only [hh, getL]
  rw [if_neg h]

set_option maxRecDepth 100000 in
set_option maxHeartbeats 2000000 in
theorem gets_walk (w : World) (ao : Option Addr) (n cap : Nat) (zs : List Nat) (h2 : BytesAt w ao zs) (hn2 : n = zs.length) (hm2 : n ≤ 140737488351232) (hnil : ao = none → cap = 0) (hlc : n ≤ cap) (hcm : cap ≤ maxLen) :
    Calls Try.prog 5 #[.slice ao n cap] w fun e w' => e = .returned (.bool true) ∧ Below w.heap.size w w' := by
  have HB : Hid (BytesAt w ao zs) := h2
  have HN : Hid (n = zs.length) := hn2
  have HZ : Hid (ao = none → cap = 0) := hnil
  have HC : Hid (zs.length ≤ cap ∧ cap ≤ maxLen) := ⟨by omega, hcm⟩
  clear h2 hn2 hnil hlc hcm
  go_enter Try.func5, Try.ntmps5
  go_wp2_with fail
  refine (read_any w ao cap n zs HN.out HB.out (by omega)).mono ?_
  rintro e W1 ⟨rfl, hr1, hb1, hs1⟩
  have HR1 : Hid (IsReader W1 (w.heap.size + 1) (some ⟨w.heap.size, 0, none⟩) n zs 0 0) := hr1
  have HB1 : Hid (Below w.heap.size w W1) := hb1
  have HS1 : Hid (W1.heap.size = w.heap.size + 2) := hs1
  clear hr1 hb1 hs1
  go_wp2_with fail
  refine (get_any W1 _ _ n zs 0 0 HR1.out).mono ?_
  rintro e W2 ⟨a4, c4, rfl, ho2, hr2⟩
  have HL6 : Hid ((getP zs 0 0).2.1.length ≤ 256) := getL_small zs 0 0
  obtain ⟨⟨q, L, P, E⟩, hG⟩ : ∃ x, x = getP zs 0 0 := ⟨_, rfl⟩
  have HG : Hid (getP zs 0 0 = (q, L, P, E)) := hG.symm
  rw [HG.out] at ho2 hr2 HL6 ⊢
  clear hG
  simp only at ho2 hr2 HL6 ⊢
  have HB2 : Hid (Below w.heap.size w W2) := HB1.out.trans (below_grown2 hr2.2 (fun k hk => by cases hk; omega) (by have := HS1.out; omega))
  have HS2 : Hid (w.heap.size + 2 ≤ W2.heap.size) := by have := hr2.2.size; have := HS1.out; show _ ≤ _; omega
  have HR2 : Hid (IsReader W2 (w.heap.size + 1) (some ⟨w.heap.size, 0, none⟩) n zs P E) := hr2.1
  obtain ⟨a4', c4', hv4, hk4, _, _⟩ := ho2.slice
  cases hv4
  have HK2 : Hid (KeysAt W2 a4 L) := hk4
  clear ho2 hr2 hk4 HR1 HB1 HS1
  obtain ⟨q0, q1, q2, q3⟩ := q
  go_wp2_with fail
  have hA3 : Below W2.heap.size W2 (W2.alloc (.cells #[.int .i64 q0, .int .i64 q1, .int .i64 q2, .int .i64 q3, .slice a4 L.length c4] 24)) := (Below.refl _ _).alloc (Nat.le_refl _) _
  have hA4 : Below W2.heap.size W2 ((W2.alloc (.cells #[.int .i64 q0, .int .i64 q1, .int .i64 q2, .int .i64 q3, .slice a4 L.length c4] 24)).alloc (.cells #[.slice ao n cap, .int .i64 0, .int .i64 0] 56)) := hA3.alloc (by simp) _
  have HM4 : Hid (IsMod ((W2.alloc (.cells #[.int .i64 q0, .int .i64 q1, .int .i64 q2, .int .i64 q3, .slice a4 L.length c4] 24)).alloc (.cells #[.slice ao n cap, .int .i64 0, .int .i64 0] 56)) (W2.heap.size + 1) ao cap zs 0 0) := by
    refine ⟨?_, (HB.out.kept HB2.out).kept hA4, Nat.zero_le _, by have := HN.out; omega, HC.out.1, HC.out.2, HZ.out, fun x h0 h1 => by have := HB.out.lt x h0 h1; have := HS2.out; omega⟩
    rw [← HN.out]
    exact heap_alloc_new _ _ (by simp)
  have HR4 : Hid (IsReader ((W2.alloc (.cells #[.int .i64 q0, .int .i64 q1, .int .i64 q2, .int .i64 q3, .slice a4 L.length c4] 24)).alloc (.cells #[.slice ao n cap, .int .i64 0, .int .i64 0] 56)) (w.heap.size + 1) (some ⟨w.heap.size, 0, none⟩) n zs P E) := HR2.out.kept hA4
  have HP4 : Hid (PBox ((W2.alloc (.cells #[.int .i64 q0, .int .i64 q1, .int .i64 q2, .int .i64 q3, .slice a4 L.length c4] 24)).alloc (.cells #[.slice ao n cap, .int .i64 0, .int .i64 0] 56)) W2.heap.size ⟨q0, q1, q2, q3⟩ a4 L.length c4) := (PBox.new W2 ⟨q0, q1, q2, q3⟩ a4 L.length c4).kept ((Below.refl _ _).alloc (Nat.le_refl _) _)
  have HK4 : Hid (KeysAt ((W2.alloc (.cells #[.int .i64 q0, .int .i64 q1, .int .i64 q2, .int .i64 q3, .slice a4 L.length c4] 24)).alloc (.cells #[.slice ao n cap, .int .i64 0, .int .i64 0] 56)) a4 L) := HK2.out.kept hA4
  have HL4 : Hid (∀ x, L ≠ [] → a4 = some x → x.block < W2.heap.size) := fun x h0 h1 => HK2.out.lt x h0 h1
  have HB4 : Hid (Below w.heap.size w ((W2.alloc (.cells #[.int .i64 q0, .int .i64 q1, .int .i64 q2, .int .i64 q3, .slice a4 L.length c4] 24)).alloc (.cells #[.slice ao n cap, .int .i64 0, .int .i64 0] 56))) := HB2.out.trans (hA4.mono (by have := HS2.out; omega))
  have HS4 : Hid (((W2.alloc (.cells #[.int .i64 q0, .int .i64 q1, .int .i64 q2, .int .i64 q3, .slice a4 L.length c4] 24)).alloc (.cells #[.slice ao n cap, .int .i64 0, .int .i64 0] 56)).heap.size = W2.heap.size + 2) := by simp [Hid]
  clear hA3 hA4 HR2 HK2 HB2
  generalize ((W2.alloc (.cells #[.int .i64 q0, .int .i64 q1, .int .i64 q2, .int .i64 q3, .slice a4 L.length c4] 24)).alloc (.cells #[.slice ao n cap, .int .i64 0, .int .i64 0] 56)) = W4 at *
  generalize W2.heap.size = B4 at *
  refine (refRead_any W4 (B4 + 1) ao cap zs 0 0 HM4.out).mono ?_
  rintro e W5 ⟨a6, c6, rfl, ho5, hm5⟩
  rw [HG.out] at ho5 hm5 ⊢
  simp only at ho5 hm5 ⊢
  have hB5 : Below (B4 + 1) W4 W5 := below_grown2 hm5.2 (fun k hk => by cases hk; exact Nat.le_refl _) (by have := HS4.out; omega)
  obtain ⟨a6', c6', hv6, hk6, _, _⟩ := ho5.slice
  cases hv6
  have HT6 : Hid (∀ B6, B6 = W5.heap.size → TS w (W5.alloc (.cells #[.int .i64 q0, .int .i64 q1, .int .i64 q2, .int .i64 q3, .slice a6 L.length c6] 24)) (w.heap.size + 1) (some ⟨w.heap.size, 0, none⟩) n B4 (B4 + 1) B6 ao cap zs P E ⟨q0, q1, q2, q3⟩ L a4 c4 a6 c6) := by
    intro B6 hB6
    subst hB6
    have hA : Below W5.heap.size W5 (W5.alloc (.cells #[.int .i64 q0, .int .i64 q1, .int .i64 q2, .int .i64 q3, .slice a6 L.length c6] 24)) := (Below.refl _ _).alloc (Nat.le_refl _) _
    have hs := HS2.out
    refine ⟨(HR4.out.below hB5 (by omega) (fun g hg => by simp [Value.ownBlock] at hg; omega)).kept hA, (HP4.out.below hB5 (by omega)).kept hA, (HK4.out.below hB5 (fun x h0 h1 => by have := HL4.out x h0 h1; omega)).kept hA, hm5.1.kept hA, PBox.new W5 ⟨q0, q1, q2, q3⟩ a6 L.length c6, hk6.kept hA, (HB4.out.trans (hB5.mono (by omega))).trans (hA.mono ?_)⟩
    exact (HB4.out.trans (hB5.mono (by omega))).size
  clear ho5 hm5 hk6 hB5 HM4 HR4 HP4 HK4 HL4 HB4 HS4
  go_wp2_with fail
  have HT7 := HT6.out _ rfl
  generalize (W5.alloc (.cells #[.int .i64 q0, .int .i64 q1, .int .i64 q2, .int .i64 q3, .slice a6 L.length c6] 24)) = W6 at *
  generalize W5.heap.size = B6 at *
  clear HT6
  have HT8 : Hid (TS w W6 (w.heap.size + 1) (some ⟨w.heap.size, 0, none⟩) n B4 (B4 + 1) B6 ao cap zs P E ⟨q0, q1, q2, q3⟩ L a4 c4 a6 c6) := HT7
  clear HT7
  go_upto_region 5 with fail
  go_cut [29] (fun x wx => x = .bool false ∧ Hid (TS w wx (w.heap.size + 1) (some ⟨w.heap.size, 0, none⟩) n B4 (B4 + 1) B6 ao cap zs P E ⟨q0, q1, q2, q3⟩ L a4 c4 a6 c6))
  case first =>
    have HTd : Hid (TS w W6.drew (w.heap.size + 1) (some ⟨w.heap.size, 0, none⟩) n B4 (B4 + 1) B6 ao cap zs P E ⟨q0, q1, q2, q3⟩ L a4 c4 a6 c6) := HT8.out.kept ⟨rfl, rfl, rfl, Nat.le_refl _, fun _ _ => rfl⟩
    obtain ⟨x0, x1, x2, x3, x4⟩ := HT8.out.b4.cells
    obtain ⟨y0, y1, y2, y3, y4⟩ := HT8.out.b6.cells
    have m2 := HT8.out.md.c2
    simp only at x0 x1 x2 x3 x4 y0 y1 y2 y3 y4
    have hEE : (E != E) = false := by simp
    have HNb : Hid (L.length * 16 ≤ 140737488355328) := by have := HL6.out; show _ ≤ _; omega
    go_region_with (first
      | (go_at_call 24; go_loud (refine (rErr_any W6.drew (w.heap.size + 1) _ n zs P E HTd.out.rd).mono ?_; rintro e w' ⟨rfl, hx⟩; rw [hx]; clear hx w'))
      | (go_at_call 25; go_loud (refine (sameProgram_eq W6.drew ⟨q0, q1, q2, q3⟩ a4 a6 L.length c4 c6 L HTd.out.k4 HTd.out.k6 rfl HNb.out).mono ?_; rintro e wh ⟨rfl, hg⟩; have HTh : Hid (TS w wh (w.heap.size + 1) (some ⟨w.heap.size, 0, none⟩) n B4 (B4 + 1) B6 ao cap zs P E ⟨q0, q1, q2, q3⟩ L a4 c4 a6 c6) := HTd.out.kept (Grew.below hg); clear hg)))
    all_goals (go_wp2_with fail; go_meet; exact ⟨rfl, HTh⟩)
  obtain ⟨rfl, HT9⟩ := hcut
  clear HT8
  generalize wc = W9 at *
  have m2 := HT9.out.md.c2
  by_cases hE : E = 0
  · subst hE
    have m1 := HT9.out.md.c1
    have hPn : P ≤ n := by have := HT9.out.md.2.2.1; have := HN.out; omega
    have HLeft : Hid (∀ k, Calls Try.prog 27 #[.pointer (some ⟨w.heap.size + 1, 0, none⟩)] (W9.drewN k) fun e' w' => e' = .returned (.int .i64 ((n : Int) - (P : Int))) ∧ ∃ q, w' = (W9.drewN k).drewN q) := fun k => by
      have h := left_any (W9.drewN k) _ _ n zs P 0 (HT9.out.rd.drewN k)
      rw [show ((zs.length - P : Nat) : Int) = (n : Int) - (P : Int) from by have := HN.out; omega] at h
      exact h
    have HBB : Hid (∀ k, Below w.heap.size w (W9.drewN k)) := fun k => HT9.out.bel.trans ⟨rfl, rfl, rfl, Nat.le_refl _, fun _ _ => rfl⟩
    go_wp2_with fail
    go_quiet ((first
      | (go_at_call 26; exact Calls.quiet_of_same (rAt_any _ (w.heap.size + 1) _ n zs P 0 (HT9.out.rd.drewN _)))
      | (go_at_call 27; exact Calls.quiet_of (HLeft.out _))))
    have HF := HBB.out nq
    go_wp2
    go_ret
    exact ⟨rfl, HF⟩
  · have hE' : (E == 0) = false := by simpa using hE
    go_wp2_with fail
    refine (get_any W9 _ _ n zs P E HT9.out.rd).mono ?_
    rintro e W10 ⟨a7, c7, rfl, ho7, hr7⟩
    rw [getP_err zs P hE] at ho7 hr7 ⊢
    simp only [List.length_nil] at ho7 hr7 ⊢
    have HU : Hid (IsReader W10 (w.heap.size + 1) (some ⟨w.heap.size, 0, none⟩) n zs P E ∧ IsMod W10 (B4 + 1) ao cap zs P E ∧ Below w.heap.size w W10) := by
      have hs := HS2.out
      refine ⟨hr7.1, HT9.out.md.grown hr7.2 (fun e => by simp at e; omega) (fun k hk x h0 h1 e => by have := HB.out.lt x h0 h1; cases hk; omega), HT9.out.bel.trans (below_grown2 hr7.2 (fun k hk => by cases hk; omega) HT9.out.bel.size)⟩
    clear ho7 hr7 HT9 m2
    go_wp2_with fail
    have hA : Below W10.heap.size W10 (W10.alloc (.cells #[.int .i64 0, .int .i64 0, .int .i64 0, .int .i64 0, .slice a7 0 c7] 24)) := (Below.refl _ _).alloc (Nat.le_refl _) _
    have HU2 : Hid (IsReader (W10.alloc (.cells #[.int .i64 0, .int .i64 0, .int .i64 0, .int .i64 0, .slice a7 0 c7] 24)) (w.heap.size + 1) (some ⟨w.heap.size, 0, none⟩) n zs P E ∧ IsMod (W10.alloc (.cells #[.int .i64 0, .int .i64 0, .int .i64 0, .int .i64 0, .slice a7 0 c7] 24)) (B4 + 1) ao cap zs P E ∧ Below w.heap.size w (W10.alloc (.cells #[.int .i64 0, .int .i64 0, .int .i64 0, .int .i64 0, .slice a7 0 c7] 24))) := ⟨HU.out.1.kept hA, HU.out.2.1.kept hA, HU.out.2.2.trans (hA.mono HU.out.2.2.size)⟩
    have HP7 : Hid (PBox (W10.alloc (.cells #[.int .i64 0, .int .i64 0, .int .i64 0, .int .i64 0, .slice a7 0 c7] 24)) W10.heap.size ⟨0, 0, 0, 0⟩ a7 0 c7) := PBox.new W10 ⟨0, 0, 0, 0⟩ a7 0 c7
    clear hA HU
    generalize (W10.alloc (.cells #[.int .i64 0, .int .i64 0, .int .i64 0, .int .i64 0, .slice a7 0 c7] 24)) = W11 at *
    generalize W10.heap.size = B7 at *
    obtain ⟨x0, x1, x2, x3, x4⟩ := HP7.out.cells
    simp only at x0 x1 x2 x3 x4
    have m2 := HU2.out.2.1.c2
    have hEE : (E == E) = true := by simp
    have HUd : Hid (IsReader W11.drew (w.heap.size + 1) (some ⟨w.heap.size, 0, none⟩) n zs P E ∧ IsMod W11.drew (B4 + 1) ao cap zs P E ∧ Below w.heap.size w W11.drew) := ⟨HU2.out.1, HU2.out.2.1, HU2.out.2.2.trans ⟨rfl, rfl, rfl, Nat.le_refl _, fun _ _ => rfl⟩⟩
    go_region_with (first
      | (go_at_call 25; go_loud (refine (sameProgram_eq W11.drew ⟨0, 0, 0, 0⟩ a7 none 0 c7 0 [] (.inl rfl) (.inl rfl) rfl (by omega)).mono ?_; rintro e wh ⟨rfl, hg⟩; have HUh : Hid (IsReader wh (w.heap.size + 1) (some ⟨w.heap.size, 0, none⟩) n zs P E ∧ IsMod wh (B4 + 1) ao cap zs P E ∧ Below w.heap.size w wh) := ⟨HUd.out.1.kept (Grew.below hg), HUd.out.2.1.kept (Grew.below hg), HUd.out.2.2.trans ((Grew.below hg).mono HUd.out.2.2.size)⟩; clear hg; have m3 := HUh.out.2.1.c2))
      | (go_at_call 24; go_loud (refine (rErr_any wh (w.heap.size + 1) _ n zs P E HUh.out.1).mono ?_; rintro e w' ⟨rfl, hx⟩; rw [hx]; clear hx w')))
    all_goals (go_wp2; go_ret; exact ⟨rfl, HUh.out.2.2⟩)
end Go.Proofs.Ytjmlogljfboleaa
