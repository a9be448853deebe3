import Derived.Test.YtlilaicgmdbhcaaJ18
import Derived.Test.YtlilaicgmdbhcaaJ26
import Derived.Test.YtlilaicgmdbhcaaJ30
import Derived.Test.YtlilaicgmdbhcaaJ05
import Derived.SizedLaws
import Derived.Lib.SmallJoins
import Derived.Deep.Slices
import Derived.Test.YtlilaicgmdbhcaaJ11
/-
  BatchEncodes: THE LAW.
-/
namespace Go.Proofs.Ytlilaicgmdbhcaa.Kk
open Go.RowKit Go.Sort

theorem wf_each {Ts : List Tp} (h : (eachN formN Ts).2 = 0) : Ts.length ≤ 64 ∧ ∀ t ∈ Ts, WF t := by
  obtain ⟨h1, h2⟩ := eachN_ok h
  refine ⟨h1, fun t ht => ?_⟩
  obtain ⟨i, hi, rfl⟩ := List.mem_iff_getElem.1 ht
  have := h2 i hi
  rw [show td Ts i = Ts[i] by simp [td, List.getD_eq_getElem?_getD, List.getElem?_eq_getElem hi]] at this
  exact wf_of this
/-- what Encode writes -/
noncomputable def encL (Ts : List Tp) : List Nat := if (eachN formN Ts).2 = 0 then batN Ts else []
theorem encL_len (Ts : List Tp) : (encL Ts).length ≤ 100000 := by
  unfold encL
  split
  · next h =>
    obtain ⟨h1, h2⟩ := wf_each h
    have h3 := txs_len h2
    have h4 := uint_len 10 Ts.length
    simp only [batN, List.length_append]
    omega
  · simp
theorem rw_move {W : World} {T : TypeId} {sz lo hi lo' hi' : Nat} {x : It} (h : Rw W T sz lo hi x) (h1 : lo' ≤ lo) (h2 : hi ≤ hi') : Rw W T sz lo' hi' x := by
  obtain ⟨o, n⟩ := x
  cases o with
  | none => exact h
  | some g => obtain ⟨a, b, c⟩ := h.at; exact ⟨by omega, by omega, c⟩
theorem rw_lo {W : World} {T : TypeId} {sz lo hi g : Nat} {x : It} (h : Rw W T sz lo hi x) (e : x.1 = some g) : lo ≤ g ∧ g < hi := by
  obtain ⟨o, n⟩ := x
  cases e
  exact ⟨h.at.1, h.at.2.1⟩
/-- a row of bytes that is one's own, or nil -/
def EncIt (w W : World) (L : List Nat) (x : It) : Prop := x.2 = L.length ∧ Rw W 5 1 w.heap.size W.heap.size x ∧ ∀ g, x.1 = some g → RowAt W g L
theorem EncIt.same {w W W' : World} {L : List Nat} {x : It} (h : EncIt w W L x) (hs : ∀ G, w.heap.size ≤ G → G < W.heap.size → W'.heap[G]? = W.heap[G]?) (hz : W.heap.size ≤ W'.heap.size) : EncIt w W' L x := by
  obtain ⟨o, n⟩ := x
  cases o with
  | none => exact ⟨h.1, h.2.1, fun g hg => by cases hg⟩
  | some g =>
    obtain ⟨h1, h2, h3⟩ := h
    obtain ⟨a, b, cur, c, d⟩ := h2.at
    exact ⟨h1, ⟨a, by omega, cur, (hs g a b).trans c, d⟩, fun g' hg => by cases hg; exact (hs g a b).trans (h3 g rfl)⟩
theorem EncIt.kept {w W W' : World} {L : List Nat} {x : It} (h : EncIt w W L x) (hb : Below W.heap.size W W') : EncIt w W' L x := h.same (fun G _ hl => hb.block G hl) hb.size
theorem EncIt.bytes {w W : World} {L : List Nat} {x : It} (h : EncIt w W L x) (hz : ∀ z ∈ L, z < 256) : BytesAt W (x.1.map fun g => ⟨g, 0, none⟩) L := by
  obtain ⟨o, n⟩ := x
  cases o with
  | none =>
    have h1 : n = 0 := h.2.1
    have h2 : n = L.length := h.1
    exact ⟨hz, .inl (List.eq_nil_of_length_eq_zero (by omega))⟩
  | some g => exact ⟨hz, .inr ⟨g, 0, rfl, fun j hj => by rw [Nat.zero_add]; exact row_cell (h.2.2 g rfl) j hj⟩⟩
theorem EncIt.rw {w W w0 : World} {L : List Nat} {x : It} {hi : Nat} (h : EncIt w W L x) (h0 : w0.heap.size ≤ w.heap.size) (h1 : W.heap.size ≤ hi) : Rw W 5 1 w0.heap.size hi x := rw_move h.2.1 h0 h1

theorem enc_it (w : World) (ao : Option Addr) (n cap : Nat) (Bs : List Bx) (h : BatAt w ao Bs) (hn : n = Bs.length) (hm : n ≤ 140737488355328) (Ts : List Tp) (hT : Bs.map Bx.t = Ts) (E : Int) (hE : (eachN formN Ts).2 = E) (L : List Nat) (hL : encL Ts = L) :
    Calls Try.prog 8 #[.slice ao n cap] w fun e w' => ∃ a k x, e = .returned (.tuple #[.slice a k k, .int .i64 E]) ∧ Value.slice a k k = itv x ∧ EncIt w w' L x ∧ Below w.heap.size w w' := by
  refine (encode_b w ao n cap Bs h hn hm).mono ?_
  subst hT hE hL
  rintro e w' (⟨hne, rfl, hb⟩ | ⟨he0, g, rfl, hrow, hg, hs, hb⟩)
  · exact ⟨none, 0, (none, 0), rfl, rfl, ⟨by simp [encL, hne], rfl, fun g hg => by cases hg⟩, hb⟩
  · refine ⟨some ⟨g, 0, none⟩, (batN (Bs.map Bx.t)).length, (some g, (batN (Bs.map Bx.t)).length), by rw [he0], rfl, ⟨by simp [encL, he0], ⟨hg, by omega, _, hrow, by simp [cellsU8]⟩, fun g' hg' => ?_⟩, hb⟩
    cases hg'
    simpa [encL, he0] using hrow
theorem refE_it (w : World) (ao : Option Addr) (n cap : Nat) (Bs : List Bx) (h : BatAt w ao Bs) (hn : n = Bs.length) (hm : n ≤ 140737488355328) (Ts : List Tp) (hT : Bs.map Bx.t = Ts) (E : Int) (hE : (eachN formN Ts).2 = E) (L : List Nat) (hL : encL Ts = L) :
    Calls Try.prog 9 #[.slice ao n cap] w fun e w' => ∃ a c, e = .returned (.tuple #[.slice a L.length c, .int .i64 E]) ∧ OwnB w' w.heap.size (.slice a L.length c) L ∧ Below w.heap.size w w' := by
  refine (refEnc_any w ao n cap Bs h hn hm).mono ?_
  subst hT hE hL
  rintro e w' ⟨hb, (⟨hne, rfl⟩ | ⟨he0, v, rfl, ho⟩)⟩
  · refine ⟨none, 0, by simp [encL, hne], ?_, hb⟩
    simp only [encL, if_neg hne]
    exact OwnB.nil _ _
  · obtain ⟨a, c, rfl, hy, _, _⟩ := ho.slice
    have h1 : encL (Bs.map Bx.t) = batN (Bs.map Bx.t) := by simp [encL, he0]
    exact ⟨a, c, by rw [h1, he0], by rw [h1]; exact ho, hb⟩
theorem ownB_same {w w1 : World} {base : Nat} {v : Value} {L : List Nat} (h : OwnB w base v L) (hs : ∀ G, base ≤ G → G < w.heap.size → w1.heap[G]? = w.heap[G]?) : OwnB w1 base v L := by
  obtain ⟨hz, hl, h⟩ := h
  have hlt := World.ownsRow.lt ⟨hl, h⟩
  refine ⟨hz, hl, ?_⟩
  rcases h with h | ⟨g, cap, cur, rfl, hg, hh, r⟩
  · exact .inl h
  · exact .inr ⟨g, cap, cur, rfl, hg, (hs g hg (hlt g rfl).2).trans hh, r⟩
/-- a batch that was lent, or nil; and what gives it back -/
theorem lent_it (w : World) (ao : Option Addr) (n cap : Nat) (Bs : List Bx) (h : BatAt w ao Bs) (hn : n = Bs.length) (hm : n ≤ 100000) (hx : ∀ x ∈ Bs, x.t.args.length ≤ 100000 ∧ x.t.reads.length ≤ 100000 ∧ x.t.writes.length ≤ 100000) :
    Calls Try.prog 7 #[.slice ao n cap] w fun e w' => ∃ ai ci Is, e = .returned (.slice ai n ci) ∧ BatAt w' ai Is ∧ Is.map Bx.t = Bs.map Bx.t ∧ n = Is.length ∧ Below w.heap.size w w' ∧
      ∀ W, Below w'.heap.size w' W → Calls Try.prog 10 #[.slice ai n ci, .slice ao n cap] W fun e W' => e = .returned (.bool true) ∧ Mid w.heap.size w'.heap.size W W' := by
  refine (lent_b w ao n cap Bs h hn hm hx).mono ?_
  rintro e w' (⟨rfl, rfl, rfl, rfl⟩ | ⟨hne, Qs, lf, rfl, hlt⟩)
  · obtain rfl : n = 0 := hn
    exact ⟨none, 0, [], rfl, ⟨.inl rfl, fun x hx => by cases hx⟩, rfl, rfl, Below.refl _ _, fun W hW => (back_nilB W 0 cap [] (h.kept hW) rfl).mono fun e W' ⟨h1, h2⟩ => ⟨h1, Mid.of_below h2.below⟩⟩
  · cases ao with
    | none => exact absurd rfl hne
    | some a =>
    have hb := hlt.bat hn (h.kept hlt.bel)
    exact ⟨_, _, Qs.take n, rfl, hb.1, hb.2, by rw [List.length_take, hlt.len]; omega, hlt.bel, fun W hW => (back_some w W n cap a Bs Qs lf (hlt.kept hW) (h.kept (hlt.bel.trans (hW.mono hlt.bel.size))) hn hm hx).mono fun e W' ⟨h1, h2⟩ => ⟨h1, h2.wide (Nat.le_refl _) hlt.lok⟩⟩

set_option maxRecDepth 100000 in
set_option maxHeartbeats 4000000 in
theorem lawBEnc (w : World) (ao : Option Addr) (m cap : Nat) (Bs : List Bx) (hb : BatAt w ao Bs) (hn' : m = Bs.length) (hm' : m ≤ 140737488351232) :
    Calls Try.prog 3 #[.slice ao m cap] w fun e w' => e = .returned (.bool true) ∧ Below w.heap.size w w' := by
  have HB : Hid (BatAt w ao Bs ∧ m = Bs.length) := ⟨hb, hn'⟩
  obtain ⟨Ts, hT⟩ : ∃ Ts, Bs.map Bx.t = Ts := ⟨_, rfl⟩
  obtain ⟨E, hE⟩ : ∃ E, (eachN formN Ts).2 = E := ⟨_, rfl⟩
  obtain ⟨L, hL⟩ : ∃ L, encL Ts = L := ⟨_, rfl⟩
  obtain ⟨k, hk⟩ : ∃ k, k = L.length := ⟨_, rfl⟩
  have HK : Hid (k = L.length) := hk
  have hk1 : k ≤ 100000 := by rw [hk, ← hL]; exact encL_len Ts
  have HD : Hid (∀ W ai ci (Is : List Bx), BatAt W ai Is → m = Is.length → m ≤ 100000 → Is.map Bx.t = Bs.map Bx.t → Calls Try.prog 8 #[.slice ai m ci] W fun e w' => ∃ a k x, e = .returned (.tuple #[.slice a k k, .int .i64 E]) ∧ Value.slice a k k = itv x ∧ EncIt W w' L x ∧ Below W.heap.size W w') := fun W ai ci Is h1 h2 h3 h4 => enc_it W ai m ci Is h1 h2 (by omega) Ts (h4.trans hT) E hE L hL
  have HR : Hid (∀ W, Below w.heap.size w W → m ≤ 100000 → Calls Try.prog 9 #[.slice ao m cap] W fun e w' => ∃ a c, e = .returned (.tuple #[.slice a k c, .int .i64 E]) ∧ OwnB w' W.heap.size (.slice a k c) L ∧ Below W.heap.size W w') := fun W hW h3 => by
    have := refE_it W ao m cap Bs (HB.out.1.kept hW) HB.out.2 (by omega) Ts hT E hE L hL
    rw [← hk] at this
    exact this
  clear hb hn' hT hE hL hk
  go_enter Try.func3, Try.ntmps3
  go_wp2_with fail
  refine (partsB_any w ao m cap Bs 100000 HB.out.1 HB.out.2 hm' (by omega) (by omega)).mono ?_
  rintro e w1 ⟨⟨r', rfl, hr'⟩, q1, hw1⟩
  have HW1 : Hid (Below w.heap.size w w1) := by rw [hw1]; exact ((Grew.refl w).drewN q1).below
  clear hw1
  by_cases h0 : r' < 0
  · go_wp2
    go_ret
    exact ⟨rfl, HW1.out⟩
  have HX : Hid (m ≤ 100000 ∧ ∀ x ∈ Bs, x.t.args.length ≤ 100000 ∧ x.t.reads.length ≤ 100000 ∧ x.t.writes.length ≤ 100000) := (hr' (by omega)).2
  clear hr'
  go_wp2_with fail
  refine (lent_it w1 ao m cap Bs (HB.out.1.kept HW1.out) HB.out.2 HX.out.1 HX.out.2).mono ?_
  rintro e w2 ⟨ai, ci, Is, rfl, hI, hT, hl, hb2, hk2⟩
  have HI : Hid (BatAt w2 ai Is ∧ m = Is.length ∧ m ≤ 100000 ∧ Is.map Bx.t = Bs.map Bx.t) := ⟨hI, hl, HX.out.1, hT⟩
  have HW2 : Hid (Below w.heap.size w w2) := HW1.out.trans (hb2.mono HW1.out.size)
  have HBk : Hid (∀ W, Below w2.heap.size w2 W → Calls Try.prog 10 #[.slice ai m ci, .slice ao m cap] W fun e W' => e = .returned (.bool true) ∧ Mid w.heap.size w2.heap.size W W') := fun W hW => (hk2 W hW).mono fun e W' ⟨h1, h2⟩ => ⟨h1, h2.wide HW1.out.size (Nat.le_refl _)⟩
  clear hI hT hl hb2 hk2 HW1
  go_wp2_with fail
  refine (HD.out w2 ai ci Is HI.out.1 HI.out.2.1 HI.out.2.2.1 HI.out.2.2.2).mono ?_
  rintro e w3 ⟨a3, k3, x3, rfl, hx3, he3, hb3⟩
  have HX3 : Hid (Value.slice a3 k3 k3 = itv x3) := hx3
  have HE3 : Hid (EncIt w2 w3 L x3) := he3
  have HB3 : Hid (Below w2.heap.size w2 w3) := hb3
  clear hx3 he3 hb3
  go_wp2_with fail
  refine (HR.out w3 (HW2.out.trans (HB3.out.mono HW2.out.size)) HX.out.1).mono ?_
  rintro e w4 ⟨a4, c4, rfl, hy4, hb4⟩
  have HY4 : Hid (OwnB w4 w2.heap.size (.slice a4 k c4) L) := hy4.mono HB3.out.size
  have HZ : Hid (∀ z ∈ L, z < 256) := hy4.1
  have HE4 : Hid (EncIt w2 w4 L x3) := HE3.out.kept hb4
  have HB4 : Hid (Below w2.heap.size w2 w4) := HB3.out.trans (hb4.mono HB3.out.size)
  clear hy4 hb4 HE3 HB3 HR
  go_wp2_with fail
  refine (HD.out w4 ai ci Is (HI.out.1.kept HB4.out) HI.out.2.1 HI.out.2.2.1 HI.out.2.2.2).mono ?_
  rintro e w5 ⟨a5, k5, x5, rfl, hx5, he5, hb5⟩
  have HX5 : Hid (Value.slice a5 k5 k5 = itv x5) := hx5
  have HE5 : Hid (EncIt w4 w5 L x5) := he5
  have HE34 : Hid (EncIt w2 w4 L x3) := HE4.out
  have HE4s : Hid (w4.heap.size ≤ w5.heap.size) := hb5.size
  have HE35 : Hid (EncIt w2 w4 L x3 ∧ EncIt w2 w5 L x3) := ⟨HE4.out, HE4.out.kept hb5⟩
  have HY5 : Hid (OwnB w5 w2.heap.size (.slice a4 k c4) L ∧ w2.heap.size ≤ w4.heap.size) := ⟨HY4.out.kept hb5, HB4.out.size⟩
  have HB5 : Hid (Below w2.heap.size w2 w5) := HB4.out.trans (hb5.mono HB4.out.size)
  clear hx5 he5 hb5 HE4 HY4 HD
  go_wp2_with fail
  refine (HBk.out w5 HB5.out).mono ?_
  rintro e w6 ⟨rfl, hm6⟩
  have HS : Hid (∀ G, w2.heap.size ≤ G → G < w5.heap.size → w6.heap[G]? = w5.heap[G]?) := fun G h1 h2 => hm6.block G h2 (.inr h1)
  have HE3 : Hid (EncIt w2 w6 L x3) := HE35.out.2.same HS.out hm6.size
  have HE56 : Hid (EncIt w4 w6 L x5) := HE5.out.same (fun G h1 h2 => HS.out G (by have := HY5.out.2; omega) h2) hm6.size
  have HY6 : Hid (OwnB w6 w2.heap.size (.slice a4 k c4) L) := ownB_same HY5.out.1 HS.out
  have HW6 : Hid (Below w.heap.size w w6) := by
    have h1 := HW2.out.trans (HB5.out.mono HW2.out.size)
    exact h1.trans (hm6.below h1.size)
  have HSz : Hid (w.heap.size ≤ w2.heap.size ∧ w2.heap.size ≤ w4.heap.size ∧ w4.heap.size ≤ w6.heap.size) := ⟨HW2.out.size, HY5.out.2, by have := hm6.size; have := HB5.out.size; have := HE4s.out; omega⟩
  have HC : Hid (∀ W, Below w6.heap.size w6 W → (Calls Try.prog 12 #[.slice a3 k3 k3, .slice a4 k c4] W fun e w' => e = .returned (.bool true) ∧ ∃ n, w' = W.drewN n) ∧ (Calls Try.prog 12 #[.slice a5 k5 k5, .slice a4 k c4] W fun e w' => e = .returned (.bool true) ∧ ∃ n, w' = W.drewN n)) := fun W hW => by
    have hm1 : L.length ≤ maxLen := by rw [← HK.out]; unfold maxLen; omega
    have h1 := same_any W (x3.1.map fun g => ⟨g, 0, none⟩) a4 x3.2 c4 x3.2 k L L HE3.out.1 HK.out ((HE3.out.kept hW).bytes HZ.out) (HY6.out.kept hW).bytes.1 hm1
    have h2 := same_any W (x5.1.map fun g => ⟨g, 0, none⟩) a4 x5.2 c4 x5.2 k L L HE56.out.1 HK.out ((HE56.out.kept hW).bytes HZ.out) (HY6.out.kept hW).bytes.1 hm1
    rw [decide_eq_true rfl] at h1 h2
    rw [HX3.out, HX5.out]
    exact ⟨h1, h2⟩
  clear hm6 HBk HS HE35 HE5 HY5 HY6 HB5 HB4 HW2 HE4s HI HX HB
  go_wp2_with fail
  refine (num_b _ _).mono ?_
  rintro e w7 ⟨rfl, hw7⟩
  have hw7' := hw7.symm
  subst hw7'
  clear hw7
  go_wp2_with fail
  refine (HC.out w6 (Below.refl _ _)).1.mono ?_
  rintro e w8 ⟨rfl, q8, hw8⟩
  have HB8 : Hid (Below w6.heap.size w6 w8) := by rw [hw8]; exact ((Grew.refl w6).drewN q8).below
  clear hw8
  go_wp2_with fail
  refine (HC.out w8 HB8.out).2.mono ?_
  rintro e w9 ⟨rfl, q9, hw9⟩
  have HB9 : Hid (Below w6.heap.size w6 w9) := HB8.out.trans (by rw [hw9]; exact ((Grew.refl w8).drewN q9).below.mono HB8.out.size)
  clear hw9 HC HB8
  obtain ⟨W9, hW9⟩ : ∃ W, W = (w9.alloc (.cells #[.slice a3 k3 k3, .slice a5 k5 k5] 25)).alloc (.cells #[.slice none 0 0, .slice none 0 0, .slice none 0 0, .slice none 0 0, .slice (some ⟨w9.heap.size, 0, none⟩) 2 2] 41) := ⟨_, rfl⟩
  have HS9 : Hid (SY w W9 (w9.heap.size + 1) w9.heap.size [x3, x5]) := by
    subst hW9
    have hb1 : Below w9.heap.size w9 (w9.alloc (.cells #[.slice a3 k3 k3, .slice a5 k5 k5] 25)) := (Below.refl _ _).alloc (Nat.le_refl _) _
    have hb2 := hb1.alloc (hb1.size) (.cells #[.slice none 0 0, .slice none 0 0, .slice none 0 0, .slice none 0 0, .slice (some ⟨w9.heap.size, 0, none⟩) 2 2] 41)
    have hsz := HSz.out
    have hs9 := HB9.out.size
    refine ⟨heap_alloc_new _ _ (by simp), (heap_alloc_old _ _ (by simp)).trans (heap_alloc_new _ _ rfl |>.trans (by rw [HX3.out, HX5.out]; rfl)), fun x hx => ?_, ?_, fun x hx => ?_, by simp, (HW6.out.trans (HB9.out.mono HW6.out.size)).trans (hb2.mono (by omega)), ⟨by omega, by omega⟩⟩
    · simp only [List.mem_cons, List.not_mem_nil, or_false] at hx
      rcases hx with rfl | rfl
      · exact Rw.below ((HE3.out.kept HB9.out).rw (w0 := w) hsz.1 (Nat.le_refl _)) hb2 (Nat.le_refl _)
      · exact Rw.below ((HE56.out.kept HB9.out).rw (w0 := w) (by omega) (Nat.le_refl _)) hb2 (Nat.le_refl _)
    · refine List.Pairwise.cons (fun y hy g h e1 e2 => ?_) (List.pairwise_singleton _ _)
      simp only [List.mem_singleton] at hy
      subst hy
      have h1 := (rw_lo HE34.out.2.1 e1).2
      have h2 := (rw_lo HE56.out.2.1 e2).1
      omega
    · simp only [List.mem_cons, List.not_mem_nil, or_false] at hx
      have := HK.out
      rcases hx with rfl | rfl
      · rw [HE3.out.1]; omega
      · rw [HE56.out.1]; omega
  go_wp2_with fail
  rw [← hW9]
  refine (apartY_any w W9 (w9.heap.size + 1) w9.heap.size [x3, x5] HS9.out).mono ?_
  rintro e w10 ⟨rfl, hb10⟩
  have HF : Hid (Below w.heap.size w w10) := hb10
  clear hb10 HS9 hW9
  go_wp2
  go_ret
  exact ⟨rfl, HF.out⟩
end Go.Proofs.Ytlilaicgmdbhcaa.Kk
/-
  FROM THE READING OF A []api.Key ARGUMENT (OR FIELD) TO ITS KEYS.
-/
namespace Go.Proofs.Ytlilaicgmdbhcaa.Kk
open Go.ChangeShapes Go.WideShapes Go.ChangeAt Go.RowKit

theorem cellsKey : Try.prog.cellsOf 77 = 2 := by kernel_rfl
theorem cellsInt' : Try.prog.cellsOf 3 = 1 := by kernel_rfl
theorem cellsInt64' : Try.prog.cellsOf 2 = 1 := by kernel_rfl
theorem bytesKey : Try.prog.bytesOf 77 = 16 := by kernel_rfl
set_option maxRecDepth 100000 in
/-- one element -/
theorem key_of_trod {H : Type} {enc : TypeId × Value → H} {W : World} {fuel : Nat} {a : Addr} {i : Nat} {cs : List Value} {y : DataW H × List MemPlace} (hc : W.cells? 0 (a.add (i * 2)) 2 = some cs)
    (hf : DataW.trod enc Try.prog W 0 (fun _ => true) true fuel 77 cs = some y) :
    ∃ (b off : Nat) (k : K), a.add (i * 2) = ⟨b, off, none⟩ ∧ W.cell? ⟨b, off, none⟩ = some (.int .i64 k.1) ∧ W.cell? ⟨b, off + 1, none⟩ = some (.int .i64 k.2) ∧ In64 k.1 ∧ In64 k.2 := by
  obtain ⟨_, hlen, hcell⟩ := World.cells?_some hc
  obtain ⟨xs, k, hk, hxy, _, hxl, hf⟩ := DataW.trod_struct Try.underlying77 hf
  match xs, hxl, cs, hlen with
  | [y0, y1], _, [v0, v1], _ =>
    have g0 := hf 0 _ rfl
    have g1 := hf 1 _ rfl
    simp [cellsInt', cellsInt64'] at g0 g1
    have e0 := hcell 0 (by omega)
    have e1 := hcell 1 (by omega)
    generalize a.add (i * 2) = ad at *
    obtain ⟨b, off, spot⟩ := ad
    have hspot : spot = none := by
      have h1 : (⟨b, off, spot⟩ : Addr).add 0 = ⟨b, off, spot⟩ := by simp [Addr.add]
      rw [h1] at e0
      exact World.cell?_spot e0
    subst hspot
    rw [Go.WideShapes.add_plain] at e0 e1
    obtain ⟨x0, h0, _, wx0⟩ := DataW.trod_int Try.underlying3 g0
    obtain ⟨x1, h1, _, wx1⟩ := DataW.trod_int Try.underlying2 g1
    simp only [List.cons.injEq, and_true] at h0 h1
    subst h0 h1
    exact ⟨b, off, (x0, x1), rfl, by simpa using e0, by simpa using e1, bounds_i64 wx0, bounds_i64 wx1⟩
theorem cks_of {w : World} {b off : Nat} : ∀ (L : List K) (d : Nat), (∀ i, i < L.length → w.cell? ⟨b, off + (d + i) * 2, none⟩ = some (.int .i64 (kd L i).1) ∧ w.cell? ⟨b, off + (d + i) * 2 + 1, none⟩ = some (.int .i64 (kd L i).2)) →
    ∀ j u, (cks L)[j]? = some u → w.cell? ⟨b, off + d * 2 + j, none⟩ = some u
  | [], _, _, j, u, hu => by simp [cks] at hu
  | k :: L, d, h, 0, u, hu => by
    have := (h 0 (by simp)).1
    simp [cks] at hu
    simpa [kd, hu] using this
  | k :: L, d, h, 1, u, hu => by
    have := (h 0 (by simp)).2
    simp [cks] at hu
    simpa [kd, hu] using this
  | k :: L, d, h, j + 2, u, hu => by
    have ih := cks_of (w := w) (b := b) (off := off) L (d + 1) (fun i hi => by
      have := h (i + 1) (by simp; omega)
      rw [kd_cons_succ, show d + (i + 1) = d + 1 + i by omega] at this
      exact this) j u (by simpa [cks] using hu)
    rw [show off + (d + 1) * 2 + j = off + d * 2 + (j + 2) by omega] at ih
    exact ih
set_option maxRecDepth 100000 in
/-- what the reading of a slice of keys gives -/
theorem keys_of_trod {H : Type} {enc : TypeId × Value → H} {W : World} {fuel : Nat} {cs : List Value} {y : DataW H × List MemPlace}
    (hf : DataW.trod enc Try.prog W 0 (fun _ => true) true fuel 53 cs = some y) :
    ∃ (a : Option Addr) (len cap : Nat) (ks : List K), cs = [.slice a len cap] ∧ (len = ks.length ∧ KeysAt W a ks ∧ (a = none → cap = 0) ∧ len ≤ cap ∧ cap ≤ maxLen ∧ ∀ k ∈ ks, In64 k.1 ∧ In64 k.2) ∧
      (len = 0 ∨ ∃ elems spare, y.1 = .slice elems spare ∧ len ≤ elems.length + spare.length) := by
  rcases Deep.open_slice Try.underlying53 hf with ⟨rfl, rfl⟩ | ⟨a, len, cap, m, n, D, Pl, rfl, hb, hl, hm, hmm, rfl, hx⟩
  · exact ⟨none, 0, 0, [], rfl, ⟨rfl, .inl rfl, fun _ => rfl, Nat.le_refl _, Nat.zero_le _, by simp⟩, .inl rfl⟩
  · have hle : len ≤ m := by rw [hmm]; simpa using hl
    rw [cellsKey] at hx
    obtain ⟨Z, hZ⟩ := Deep.choose_lt (α := K) (n := len) (p := fun i k => ∃ b off, a.add (i * 2) = ⟨b, off, none⟩ ∧ W.cell? ⟨b, off, none⟩ = some (.int .i64 k.1) ∧ W.cell? ⟨b, off + 1, none⟩ = some (.int .i64 k.2) ∧ In64 k.1 ∧ In64 k.2) (fun i hi => by
      obtain ⟨cs', h1, h2⟩ := hx i (by omega)
      obtain ⟨b, off, k, h3⟩ := key_of_trod h1 h2
      exact ⟨k, b, off, h3⟩)
    refine ⟨some a, len, cap, (List.range len).map Z, rfl, ⟨by simp, ?_, by simp, by simpa using hl, hm, ?_⟩, .inr ⟨_, _, rfl, ?_⟩⟩
    · by_cases h0 : len = 0
      · left; subst h0; rfl
      · right
        obtain ⟨b, off, h1, _⟩ := hZ 0 (by omega)
        have h1' : a = ⟨b, off, none⟩ := by simpa [Addr.add] using h1
        subst h1'
        refine ⟨b, off, rfl, fun j u hu => ?_⟩
        have := cks_of (w := W) (b := b) (off := off) ((List.range len).map Z) 0 (fun i hi => by
          have hi' : i < len := by simpa using hi
          obtain ⟨b', off', h2, h3, h4, _⟩ := hZ i hi'
          rw [Go.WideShapes.add_plain] at h2
          simp only [Addr.mk.injEq, and_true] at h2
          obtain ⟨rfl, rfl⟩ := h2
          have e : kd ((List.range len).map Z) i = Z i := by simp [kd, List.getD_eq_getElem?_getD, hi']
          rw [e, Nat.zero_add]
          exact ⟨h3, h4⟩) j u hu
        simpa using this
    · intro k hk
      obtain ⟨i, hi, rfl⟩ := List.mem_map.1 hk
      obtain ⟨_, _, _, _, _, h5⟩ := hZ i (by simpa using hi)
      exact h5
    · simp
theorem keys_of_sized {H : Type} {ts : List TypeId} {ds : List (DataW H)} {j len : Nat} {d : DataW H} (h : (DataW.weightsEach Try.prog ts ds).all (· ≤ reachBytes) = true) (ht : ts[j]? = some 53) (hd : ds[j]? = some d)
    (hx : len = 0 ∨ ∃ elems spare, d = .slice elems spare ∧ len ≤ elems.length + spare.length) : len * 16 ≤ 140737488351232 := by
  rcases hx with h0 | ⟨elems, spare, rfl, hl⟩
  · omega
  · have h1 := sized_slice h ht hd Try.underlying53
    rw [bytesKey] at h1
    simp only [reachBytes] at h1
    omega

end Go.Proofs.Ytlilaicgmdbhcaa.Kk
/-
  FROM THE READING OF A []api.Tx ARGUMENT TO ITS TRANSACTIONS.
-/
namespace Go.Proofs.Ytlilaicgmdbhcaa.Kk
open Go.ChangeShapes Go.WideShapes Go.ChangeAt Go.RowKit

theorem cells64 : Try.prog.cellsOf 2 = 1 := by kernel_rfl
theorem cellsTx : Try.prog.cellsOf 57 = 4 := by kernel_rfl
theorem cellsS64 : Try.prog.cellsOf 55 = 1 := by kernel_rfl
theorem cellsSK : Try.prog.cellsOf 53 = 1 := by kernel_rfl
theorem bytes64 : Try.prog.bytesOf 2 = 8 := by kernel_rfl
theorem bytesTx : Try.prog.bytesOf 57 = 80 := by kernel_rfl
set_option maxRecDepth 100000 in
theorem nums_of_trod {H : Type} {enc : TypeId × Value → H} {W : World} {fuel : Nat} {cs : List Value} {y : DataW H × List MemPlace}
    (hf : DataW.trod enc Try.prog W 0 (fun _ => true) true fuel 55 cs = some y) :
    ∃ (a : Option Addr) (len cap : Nat) (S : List Int), cs = [.slice a len cap] ∧ (len = S.length ∧ NumsAt W a S ∧ (a = none → cap = 0) ∧ len ≤ cap ∧ (∀ x ∈ S, In64 x)) ∧
      (len = 0 ∨ ∃ elems spare, y.1 = .slice elems spare ∧ len ≤ elems.length + spare.length) := by
  rcases Deep.open_slice Try.underlying55 hf with ⟨rfl, rfl⟩ | ⟨a, len, cap, m, n, D, Pl, rfl, hb, hl, hm, hmm, rfl, hx⟩
  · exact ⟨none, 0, 0, [], rfl, ⟨rfl, .inl rfl, fun _ => rfl, Nat.le_refl _, by simp⟩, .inl rfl⟩
  · have hle : len ≤ m := by rw [hmm]; simpa using hl
    rw [cells64] at hx
    obtain ⟨Z, hZ⟩ := Deep.choose_lt (α := Int) (n := len) (p := fun i k => ∃ b off, a.add (i * 1) = ⟨b, off, none⟩ ∧ W.cell? ⟨b, off, none⟩ = some (.int .i64 k) ∧ In64 k) (fun i hi => by
      obtain ⟨cs', h1, h2⟩ := hx i (by omega)
      obtain ⟨_, hlen, hcell⟩ := World.cells?_some h1
      obtain ⟨x, e, _, wx⟩ := DataW.trod_int Try.underlying2 h2
      subst e
      have e0 := hcell 0 (by omega)
      generalize a.add (i * 1) = ad at *
      obtain ⟨b, off, spot⟩ := ad
      have hspot : spot = none := by
        have h1 : (⟨b, off, spot⟩ : Addr).add 0 = ⟨b, off, spot⟩ := by simp [Addr.add]
        rw [h1] at e0
        exact World.cell?_spot e0
      subst hspot
      rw [Go.WideShapes.add_plain] at e0
      exact ⟨x, b, off, rfl, by simpa using e0, bounds_i64 wx⟩)
    refine ⟨some a, len, cap, (List.range len).map Z, rfl, ⟨by simp, ?_, by simp, by simpa using hl, ?_⟩, .inr ⟨_, _, rfl, by simp⟩⟩
    · by_cases h0 : len = 0
      · left; subst h0; rfl
      · right
        obtain ⟨b, off, h1, _⟩ := hZ 0 (by omega)
        have h1' : a = ⟨b, off, none⟩ := by simpa [Addr.add] using h1
        subst h1'
        refine ⟨b, off, rfl, fun j u hu => ?_⟩
        have hj : j < len := by have := (List.getElem?_eq_some_iff.1 hu).1; simpa using this
        obtain ⟨b', off', h2, h3, _⟩ := hZ j hj
        rw [Go.WideShapes.add_plain, Nat.mul_one] at h2
        simp only [Addr.mk.injEq, and_true] at h2
        obtain ⟨rfl, rfl⟩ := h2
        simp [hj] at hu
        rw [h3, ← hu]
    · intro x hx
      obtain ⟨i, hi, rfl⟩ := List.mem_map.1 hx
      obtain ⟨_, _, _, _, h5⟩ := hZ i (by simpa using hi)
      exact h5
/-- its parts are within reach -/
def SizedT {H : Type} (d : DataW H) : Prop := ∀ z ∈ d.weights Try.prog 57, z ≤ reachBytes
set_option maxRecDepth 100000 in
theorem tx_of_trod {H : Type} {enc : TypeId × Value → H} {W : World} {fuel : Nat} {a : Addr} {i : Nat} {cs : List Value} {y : DataW H × List MemPlace} (hc : W.cells? 0 (a.add (i * 4)) 4 = some cs)
    (hf : DataW.trod enc Try.prog W 0 (fun _ => true) true fuel 57 cs = some y) :
    ∃ (b off : Nat) (x : Bx), a.add (i * 4) = ⟨b, off, none⟩ ∧ (∀ j u, (bxc x)[j]? = some u → W.cell? ⟨b, off + j, none⟩ = some u) ∧ (SizedT y.1 → BxOK W x) := by
  obtain ⟨_, hlen, hcell⟩ := World.cells?_some hc
  obtain ⟨xs, k, hk, rfl, _, hxl, hf⟩ := DataW.trod_struct Try.underlying57 hf
  match xs, hxl, cs, hlen with
  | [y0, y1, y2, y3], _, [v0, v1, v2, v3], _ =>
    have g0 := hf 0 _ rfl
    have g1 := hf 1 _ rfl
    have g2 := hf 2 _ rfl
    have g3 := hf 3 _ rfl
    simp [cellsInt', cellsS64, cellsSK] at g0 g1 g2 g3
    generalize a.add (i * 4) = ad at *
    obtain ⟨b, off, spot⟩ := ad
    have hspot : spot = none := by
      have e0 := hcell 0 (by omega)
      have h1 : (⟨b, off, spot⟩ : Addr).add 0 = ⟨b, off, spot⟩ := by simp [Addr.add]
      rw [h1] at e0
      exact World.cell?_spot e0
    subst hspot
    obtain ⟨x0, h0, _, wx0⟩ := DataW.trod_int Try.underlying3 g0
    obtain ⟨aA, nA, cA, A, hA, ⟨lA, atA, nilA, capA, inA⟩, zA⟩ := nums_of_trod g1
    obtain ⟨aR, nR, cR, R, hR, ⟨lR, atR, nilR, capR, _, inR⟩, zR⟩ := keys_of_trod g2
    obtain ⟨aW, nW, cW, V, hV, ⟨lW, atW, nilW, capW, _, inW⟩, zW⟩ := keys_of_trod g3
    simp only [List.cons.injEq, and_true] at h0 hA hR hV
    subst h0 hA hR hV lA lR lW
    refine ⟨b, off, ⟨⟨x0, A, R, V⟩, aA, cA, aR, cR, aW, cW⟩, rfl, fun j u hu => ?_, fun hz => ?_⟩
    · have hj : j < 4 := (List.getElem?_eq_some_iff.1 hu).1
      have := hcell j hj
      rw [Go.WideShapes.add_plain] at this
      rw [this]; exact hu
    · simp only [SizedT, List.map_cons, List.map_nil, DataW.weights, Try.underlying57] at hz
      have bA : A.length * 8 ≤ reachBytes := by
        rcases zA with h0 | ⟨elems, spare, e, hle⟩
        · omega
        · have z2 := hz ((elems.length + spare.length) * 8) (by
            refine DataW.weights_mem_each (j := 1) (t := 55) (d := .slice elems spare) rfl (by rw [← e]; rfl) _ ?_
            simp [DataW.weights, Try.underlying55, bytes64])
          omega
      have bR : R.length * 16 ≤ reachBytes := by
        rcases zR with h0 | ⟨elems, spare, e, hle⟩
        · omega
        · have z2 := hz ((elems.length + spare.length) * 16) (by
            refine DataW.weights_mem_each (j := 2) (t := 53) (d := .slice elems spare) rfl (by rw [← e]; rfl) _ ?_
            simp [DataW.weights, Try.underlying53, bytesKey])
          omega
      have bW : V.length * 16 ≤ reachBytes := by
        rcases zW with h0 | ⟨elems, spare, e, hle⟩
        · omega
        · have z2 := hz ((elems.length + spare.length) * 16) (by
            refine DataW.weights_mem_each (j := 3) (t := 53) (d := .slice elems spare) rfl (by rw [← e]; rfl) _ ?_
            simp [DataW.weights, Try.underlying53, bytesKey])
          omega
      simp only [reachBytes] at bA bR bW
      exact ⟨atA, atR, atW, bounds_i64 wx0, inA, fun k hk => inR k hk, fun k hk => inW k hk, nilA, nilR, nilW, capA, capR, capW, by show A.length * 8 ≤ _; omega, by show R.length * 16 ≤ _; omega, by show V.length * 16 ≤ _; omega⟩
theorem weightsAll_mem {H : Type} {P : Program} {e : TypeId} : ∀ {ds : List (DataW H)} {d : DataW H}, d ∈ ds → ∀ z ∈ d.weights P e, z ∈ DataW.weightsAll P e ds
  | d0 :: ds, d, hd, z, hz => by
    simp only [DataW.weightsAll, List.mem_append]
    rcases List.mem_cons.1 hd with rfl | h
    · exact .inl hz
    · exact .inr (weightsAll_mem h z hz)
theorem bxcs_of {w : World} {b off : Nat} : ∀ (Ps : List Bx), (∀ i, i < Ps.length → ∀ j u, (bxc (bd Ps i))[j]? = some u → w.cell? ⟨b, off + i * 4 + j, none⟩ = some u) → ∀ j u, (bxcs Ps)[j]? = some u → w.cell? ⟨b, off + j, none⟩ = some u := by
  intro Ps h j u hu
  have hj : j < Ps.length * 4 := by rw [← bxcs_length]; exact (List.getElem?_eq_some_iff.1 hu).1
  obtain ⟨q, i, rfl, hi⟩ : ∃ q i, j = q * 4 + i ∧ i < 4 := ⟨j / 4, j % 4, by omega, Nat.mod_lt _ (by omega)⟩
  have hq : q < Ps.length := by omega
  rw [bxcs_at Ps q i hq hi] at hu
  have := h q hq i u hu
  rw [show off + q * 4 + i = off + (q * 4 + i) by omega] at this
  exact this
set_option maxRecDepth 100000 in
/-- what the reading of a slice of transactions gives -/
theorem bat_of_trod {H : Type} {enc : TypeId × Value → H} {W : World} {fuel : Nat} {cs : List Value} {y : DataW H × List MemPlace}
    (hf : DataW.trod enc Try.prog W 0 (fun _ => true) true fuel 22 cs = some y) :
    ∃ (a : Option Addr) (len cap : Nat) (Ps : List Bx), cs = [.slice a len cap] ∧ len = Ps.length ∧ len ≤ cap ∧ cap ≤ maxLen ∧ (a = none → cap = 0) ∧
      ((∀ z ∈ y.1.weights Try.prog 22, z ≤ reachBytes) → BatAt W a Ps ∧ len * 80 ≤ reachBytes) := by
  rcases Deep.open_slice Try.underlying22 hf with ⟨rfl, rfl⟩ | ⟨a, len, cap, m, n, D, Pl, rfl, hb, hl, hm, hmm, rfl, hx⟩
  · exact ⟨none, 0, 0, [], rfl, rfl, Nat.le_refl _, Nat.zero_le _, fun _ => rfl, fun _ => ⟨⟨.inl rfl, fun x hx => by cases hx⟩, by simp⟩⟩
  · have hle : len ≤ m := by rw [hmm]; simpa using hl
    have hI : Inhabited Bx := ⟨bxD⟩
    rw [cellsTx] at hx
    obtain ⟨Z, hZ⟩ := Deep.choose_lt (α := Bx) (n := len) (p := fun i x => ∃ b off, a.add (i * 4) = ⟨b, off, none⟩ ∧ (∀ j u, (bxc x)[j]? = some u → W.cell? ⟨b, off + j, none⟩ = some u) ∧ (SizedT (D i) → BxOK W x)) (fun i hi => by
      obtain ⟨cs', h1, h2⟩ := hx i (by omega)
      obtain ⟨b, off, x, h3⟩ := tx_of_trod h1 h2
      exact ⟨x, b, off, h3⟩)
    have hpd : ∀ i, i < len → bd ((List.range len).map Z) i = Z i := fun i hi => by simp [bd, List.getD_eq_getElem?_getD, hi]
    refine ⟨some a, len, cap, (List.range len).map Z, rfl, by simp, hl, hm, by simp, fun hz => ?_⟩
    simp only [DataW.weights, Try.underlying22, bytesTx, List.mem_cons, List.mem_append] at hz
    refine ⟨⟨?_, fun x hx' => ?_⟩, ?_⟩
    · by_cases h0 : len = 0
      · left; subst h0; rfl
      · right
        obtain ⟨b, off, h1, _⟩ := hZ 0 (by omega)
        have h1' : a = ⟨b, off, none⟩ := by simpa [Addr.add] using h1
        subst h1'
        refine ⟨b, off, rfl, bxcs_of ((List.range len).map Z) (fun i hi j u hu => ?_)⟩
        have hi' : i < len := by simpa using hi
        obtain ⟨b', off', h2, h3, _⟩ := hZ i hi'
        rw [Go.WideShapes.add_plain] at h2
        simp only [Addr.mk.injEq, and_true] at h2
        obtain ⟨rfl, rfl⟩ := h2
        rw [hpd i hi'] at hu
        exact h3 j u hu
    · obtain ⟨i, hi, rfl⟩ := List.mem_map.1 hx'
      have hi' : i < len := by simpa using hi
      obtain ⟨_, _, _, _, h4⟩ := hZ i hi'
      refine h4 (fun z hzz => hz z (.inr (.inl (weightsAll_mem (ds := (List.range len).map D) (List.mem_map.2 ⟨i, by simpa using hi', rfl⟩) z hzz))))
    · have := hz _ (.inl rfl)
      simp at this
      omega
end Go.Proofs.Ytlilaicgmdbhcaa.Kk
