/-
  THE WALK OF preludelaw01.read.
-/
import Derived.Test.YthdlilekilkogaaTrio
import Derived.Test.YthdlilekilkogaaRAsk
namespace Go.Proofs.Ythdlilekilkogaa
open Go.RowKit

/-- what a question leaves -/
def Asked (lab : Nat → Nat) (i j : Nat) (w w' : World) (R : Nat) (a : Option Addr) (c : Nat) (b : List Nat) (M g d kb : Nat) (n X : Nat) : Prop :=
  ∃ (lab' : Nat → Nat) (p : Nat) (e : Int) (vl vw : Value) (ls ws : List Value) (Ls : List (List Nat)), Trio lab' i j w' R a c b p e M g d p e kb vl vw ls ws Ls ∧ Tch lab (IJK i j) w w' ∧ (∀ k, k < w.heap.size → lab' k = lab k) ∧ ls.length ≤ n + 1 ∧ ws.length = ls.length ∧ ∀ t, (Ls.getD t []).length ≤ X

theorem Asked.drewN {lab : Nat → Nat} {i j : Nat} {w w' : World} {R : Nat} {a : Option Addr} {c : Nat} {b : List Nat} {M g d kb : Nat} {n X : Nat} (h : Asked lab i j w w' R a c b M g d kb n X) (q : Nat) : Asked lab i j w (w'.drewN q) R a c b M g d kb n X := by
  obtain ⟨lab', p, e, vl, vw, ls, ws, Ls, ht, hc, hr⟩ := h
  exact ⟨lab', p, e, vl, vw, ls, ws, Ls, ht.kept ⟨rfl, rfl, rfl, Nat.le_refl _, fun _ _ => rfl⟩, ⟨hc.os, hc.tape, hc.output, hc.size, hc.block⟩, hr⟩

set_option maxHeartbeats 2000000 in
theorem ask_any (w : World) (lab : Nat → Nat) (i j R : Nat) (a : Option Addr) (c : Nat) (b : List Nat) (p : Nat) (e : Int) (M g d kb : Nat) (vl vw : Value) (ls ws : List Value) (Ls : List (List Nat)) (X : Nat) (kind : Int) (n : Nat) (oa : Option Addr) (l oc : Nat) (most : Int) (two : Bool)
    (h : Trio lab i j w R a c b p e M g d p e kb vl vw ls ws Ls) (hmo : -9223372036854775808 ≤ most) (hmo' : most ≤ 9223372036854775807) (hln : ls.length + 1 ≤ 4194304) (hw : ws.length = ls.length) (hX : ∀ t, (Ls.getD t []).length ≤ X) (hbX : b.length ≤ X) (hb47 : b.length ≤ 140737488355328) :
    Calls Try.prog 18 #[.pointer (some ⟨R, 0, none⟩), .pointer (some ⟨M, 0, none⟩), .agg #[.int .i64 kind, .int .u64 (n : Int), .slice oa l oc, .int .i64 most, .bool two], .pointer (some ⟨kb, 0, none⟩)] w fun e' w' =>
      e' = .returned (.bool true) ∧ Asked lab i j w w' R a c b M g d kb ls.length X := by
  have HBA : Hid (Below w.heap.size w (w.alloc (.cells #[.int .i64 kind, .int .u64 (n : Int), .slice oa l oc, .int .i64 most, .bool two] 34))) := (Below.refl _ _).alloc (Nat.le_refl _) _
  have HTA : Hid (Trio lab i j (w.alloc (.cells #[.int .i64 kind, .int .u64 (n : Int), .slice oa l oc, .int .i64 most, .bool two] 34)) R a c b p e M g d p e kb vl vw ls ws Ls) := h.kept HBA.out
  have HCA : Hid (Tch lab (IJK i j) w (w.alloc (.cells #[.int .i64 kind, .int .u64 (n : Int), .slice oa l oc, .int .i64 most, .bool two] 34))) := (Tch.ofBelow HBA.out).mono (fun _ h => h.elim)
  have HSAME : Hid (∀ (w' : World) (p' : Nat) (e' : Int), Trio lab i j w' R a c b p' e' M g d p' e' kb vl vw ls ws Ls → Tch lab (IJK i j) w w' → Asked lab i j w w' R a c b M g d kb ls.length X) :=
    fun w' p' e' ht hc => ⟨lab, p', e', vl, vw, ls, ws, Ls, ht, hc, fun _ _ => rfl, by omega, hw, hX⟩
  have z0 : (w.alloc (.cells #[.int .i64 kind, .int .u64 (n : Int), .slice oa l oc, .int .i64 most, .bool two] 34)).cell? ⟨w.heap.size, 0, none⟩ = some (.int .i64 kind) := by simp
  have z1 : (w.alloc (.cells #[.int .i64 kind, .int .u64 (n : Int), .slice oa l oc, .int .i64 most, .bool two] 34)).cell? ⟨w.heap.size, 1, none⟩ = some (.int .u64 (n : Int)) := by simp
  have z3 : (w.alloc (.cells #[.int .i64 kind, .int .u64 (n : Int), .slice oa l oc, .int .i64 most, .bool two] 34)).cell? ⟨w.heap.size, 3, none⟩ = some (.int .i64 most) := by simp
  have HOR : Hid (w.heap.size ≠ R ∧ w.heap.size ≠ M) := ⟨fun e => by have := h.r.lts _ (.inl e); omega, fun e => by have := h.m.lts _ (.inl e); omega⟩
  have HOL : Hid ((∀ k, ReaderSet R (.slice a b.length c) k → k < w.heap.size) ∧ (∀ k, ReaderSet M (.slice (some ⟨g, 0, none⟩) b.length d) k → k < w.heap.size) ∧ ∀ k, BookSet kb vl vw ls ws k → k < w.heap.size) := ⟨h.r.lts, h.m.lts, h.k.lts⟩
  have HX : Hid (∀ t, (Ls.getD t []).length ≤ X) := hX
  have HWL : Hid (ws.length = ls.length) := hw
  have hob : w.heap.size < (w.alloc (.cells #[.int .i64 kind, .int .u64 (n : Int), .slice oa l oc, .int .i64 most, .bool two] 34)).heap.size := by simp
  clear h hX hw
  go_enter Try.func18, Try.ntmps18
  go_wp2_with fail
  · generalize (w.alloc (.cells #[.int .i64 kind, .int .u64 (n : Int), .slice oa l oc, .int .i64 most, .bool two] 34)) = wA at *
    refine (rByte_any wA R a c b p e HTA.out.r.holds).mono ?_
    rintro e1 w1 ⟨rfl, hr1⟩
    obtain ⟨ht1, hc1⟩ := HTA.out.reads hr1
    have HT1 : Hid (Trio lab i j w1 R a c b (rdByte b p e).2.1 (rdByte b p e).2.2 M g d p e kb vl vw ls ws Ls) := ht1
    have HC1 : Hid (Tch lab (IJK i j) w w1) := HCA.out.trans hc1 (fun _ _ => rfl)
    clear ht1 hc1 hr1 z0 z1 z3
    go_wp2_with fail
    refine (mByte_any w1 M g d b p e HT1.out.m.holds).mono ?_
    rintro e2 w2 ⟨rfl, hr2⟩
    obtain ⟨ht2, hc2⟩ := HT1.out.models hr2
    have HF : Hid (Asked lab i j w w2 R a c b M g d kb ls.length X) := HSAME.out w2 _ _ ht2 (HC1.out.trans hc2 (fun _ _ => rfl))
    clear ht2 hc2 hr2
    go_wp2
    go_ret
    exact ⟨rfl, HF.out⟩
  · generalize (w.alloc (.cells #[.int .i64 kind, .int .u64 (n : Int), .slice oa l oc, .int .i64 most, .bool two] 34)) = wA at *
    refine (rUint_any wA R a c b p e HTA.out.r.holds).mono ?_
    rintro e1 w1 ⟨rfl, hr1⟩
    obtain ⟨ht1, hc1⟩ := HTA.out.reads hr1
    have HT1 : Hid (Trio lab i j w1 R a c b (rdUpto b p e 18446744073709551615).2.1 (rdUpto b p e 18446744073709551615).2.2 M g d p e kb vl vw ls ws Ls) := ht1
    have HC1 : Hid (Tch lab (IJK i j) w w1) := HCA.out.trans hc1 (fun _ _ => rfl)
    clear ht1 hc1 hr1 z0 z1 z3
    go_wp2_with fail
    refine (mUint_any w1 M g d b p e HT1.out.m.holds).mono ?_
    rintro e2 w2 ⟨rfl, hr2⟩
    obtain ⟨ht2, hc2⟩ := HT1.out.models hr2
    have HF : Hid (Asked lab i j w w2 R a c b M g d kb ls.length X) := HSAME.out w2 _ _ ht2 (HC1.out.trans hc2 (fun _ _ => rfl))
    clear ht2 hc2 hr2
    go_wp2
    go_ret
    exact ⟨rfl, HF.out⟩
  · generalize (w.alloc (.cells #[.int .i64 kind, .int .u64 (n : Int), .slice oa l oc, .int .i64 most, .bool two] 34)) = wA at *
    refine (rInt_any wA R a c b p e HTA.out.r.holds).mono ?_
    rintro e1 w1 ⟨rfl, hr1⟩
    obtain ⟨ht1, hc1⟩ := HTA.out.reads hr1
    have HT1 : Hid (Trio lab i j w1 R a c b (rdUpto b p e 18446744073709551615).2.1 (rdUpto b p e 18446744073709551615).2.2 M g d p e kb vl vw ls ws Ls) := ht1
    have HC1 : Hid (Tch lab (IJK i j) w w1) := HCA.out.trans hc1 (fun _ _ => rfl)
    clear ht1 hc1 hr1 z0 z1 z3
    go_wp2_with fail
    refine (mInt_any w1 M g d b p e HT1.out.m.holds).mono ?_
    rintro e2 w2 ⟨rfl, hr2⟩
    obtain ⟨ht2, hc2⟩ := HT1.out.models hr2
    have HF : Hid (Asked lab i j w w2 R a c b M g d kb ls.length X) := HSAME.out w2 _ _ ht2 (HC1.out.trans hc2 (fun _ _ => rfl))
    clear ht2 hc2 hr2
    go_wp2
    go_ret
    exact ⟨rfl, HF.out⟩
  · generalize (w.alloc (.cells #[.int .i64 kind, .int .u64 (n : Int), .slice oa l oc, .int .i64 most, .bool two] 34)) = wA at *
    generalize w.heap.size = ob at *
    obtain ⟨s, hs⟩ : ∃ s, rdUpto b p e n = s := ⟨_, rfl⟩
    have HD : Hid (Trio lab i j wA.drew R a c b p e M g d p e kb vl vw ls ws Ls) := HTA.out.kept ⟨rfl, rfl, rfl, Nat.le_refl _, fun _ _ => rfl⟩
    have HC0 : Hid (Tch lab (IJK i j) w wA.drew) := HCA.out.trans (w2 := wA.drew) (lab' := lab) ⟨rfl, rfl, rfl, Nat.le_refl _, fun _ _ _ => rfl⟩ (fun _ _ => rfl)
    have HC : Hid (Calls Try.prog 29 #[.pointer (some ⟨R, 0, none⟩), .int .u64 (n : Int)] wA.drew fun e' w' => e' = .returned (.int .u64 ((s.1 : Nat) : Int)) ∧ Reads wA.drew R a c b s.2.1 s.2.2 w') := by
      have h := rUpto_any wA.drew R a c b p e n HD.out.r.holds
      rw [hs] at h; exact h
    have HC2 : Hid (∀ w1, IsModel w1 M (some ⟨g, 0, none⟩) d b p e → Calls Try.prog 44 #[.pointer (some ⟨M, 0, none⟩), .int .u64 (n : Int)] w1 fun e' w' => e' = .returned (.int .u64 ((s.1 : Nat) : Int)) ∧ Models w1 M (some ⟨g, 0, none⟩) d b s.2.1 s.2.2 w') := by
      intro w1 hm
      have h := mUpto_any w1 M g d b p e n hm
      rw [hs] at h; exact h
    clear hs z0 z3
    go_region_held (fun w' => w'.cell? ⟨ob, 1, none⟩ = some (.int .u64 (n : Int))) (first | exact ‹_› | go_keep)
      (first | (go_at_call 44; go_loud (refine (HC2.out w1 HT1.out.m.holds).mono ?_; rintro e2 w2 ⟨rfl, hr2⟩; obtain ⟨ht2, hc2⟩ := HT1.out.models hr2; have HF : Hid (Asked lab i j w w2 R a c b M g d kb ls.length X) := HSAME.out w2 _ _ ht2 (HC1.out.trans hc2 (fun _ _ => rfl)); have y2 : w2.cell? ⟨ob, 1, none⟩ = some (.int .u64 (n : Int)) := hr2.2.cell y1 (fun h => HOR.out.2 (Option.some.inj h)); clear ht2 hc2 hr2)) | (go_at_call 29; go_loud (refine HC.out.mono ?_; rintro e1 w1 ⟨rfl, hr1⟩; obtain ⟨ht1, hc1⟩ := HD.out.reads hr1; have HT1 : Hid (Trio lab i j w1 R a c b s.2.1 s.2.2 M g d p e kb vl vw ls ws Ls) := ht1; have HC1 : Hid (Tch lab (IJK i j) w w1) := HC0.out.trans hc1 (fun _ _ => rfl); have y1 : w1.cell? ⟨ob, 1, none⟩ = some (.int .u64 (n : Int)) := hr1.2.cell z1 (fun h => HOR.out.1 (Option.some.inj h)); clear ht1 hc1 hr1)))
    go_wp2
    go_ret
    exact ⟨rfl, HF.out⟩
  · generalize (w.alloc (.cells #[.int .i64 kind, .int .u64 (n : Int), .slice oa l oc, .int .i64 most, .bool two] 34)) = wA at *
    have HOB : Hid (w.heap.size ≤ wA.heap.size) := Nat.le_of_lt hob
    obtain ⟨s, hs⟩ : ∃ s, rdBytes b p e most = s := ⟨_, rfl⟩
    obtain ⟨el, hel⟩ : ∃ el, s.1.length = el := ⟨_, rfl⟩
    have HEL : Hid (el = s.1.length) := hel.symm
    have hell : el ≤ b.length := by rw [← hel, ← hs]; exact rdBytes_len b p e most
    have HC : Hid (Calls Try.prog 31 #[.pointer (some ⟨R, 0, none⟩), .int .i64 most] wA fun e' w' => ∃ v, e' = .returned v ∧ OwnB w' wA.heap.size v s.1 ∧ Reads wA R a c b s.2.1 s.2.2 w') := by
      have h := rBytes_any wA R a c b p e most HTA.out.r.holds hmo hmo'
      rw [hs] at h; exact h
    have HC2 : Hid (∀ w1, IsModel w1 M (some ⟨g, 0, none⟩) d b p e → Calls Try.prog 45 #[.pointer (some ⟨M, 0, none⟩), .int .i64 most] w1 fun e' w' => ∃ v, e' = .returned v ∧ OwnB w' w1.heap.size v s.1 ∧ Models w1 M (some ⟨g, 0, none⟩) d b s.2.1 s.2.2 w') := by
      intro w1 hm
      have h := mBytes_any w1 M g d b p e most hm hmo hmo'
      rw [hs] at h; exact h
    clear hs hel
    refine HC.out.mono ?_
    rintro e1 w1 ⟨v1, rfl, hown1, hr1⟩
    obtain ⟨a1, c1, hv1, _, _, _⟩ := hown1.slice
    rw [← HEL.out] at hv1
    subst hv1
    obtain ⟨ht1, hc1⟩ := HTA.out.reads hr1
    have HT1 : Hid (Trio lab i j w1 R a c b s.2.1 s.2.2 M g d p e kb vl vw ls ws Ls) := ht1
    have HC1 : Hid (Tch lab (IJK i j) w w1) := HCA.out.trans hc1 (fun _ _ => rfl)
    have HO1 : Hid (OwnB w1 wA.heap.size (.slice a1 el c1) s.1) := hown1
    have HSZ1 : Hid (wA.heap.size ≤ w1.heap.size) := hr1.2.size
    have y0 : w1.cell? ⟨w.heap.size, 0, none⟩ = some (.int .i64 kind) := hr1.2.cell z0 (fun h => HOR.out.1 (Option.some.inj h))
    have y3 : w1.cell? ⟨w.heap.size, 3, none⟩ = some (.int .i64 most) := hr1.2.cell z3 (fun h => HOR.out.1 (Option.some.inj h))
    clear ht1 hc1 hr1 hown1 z0 z1 z3
    go_wp2_with fail
    refine (HC2.out w1 HT1.out.m.holds).mono ?_
    rintro e2 w2 ⟨v2, rfl, hown2, hr2⟩
    obtain ⟨a2, c2, hv2, _, _, _⟩ := hown2.slice
    rw [← HEL.out] at hv2
    subst hv2
    obtain ⟨ht2, hc2⟩ := HT1.out.models hr2
    have HT2 : Hid (Trio lab i j w2 R a c b s.2.1 s.2.2 M g d s.2.1 s.2.2 kb vl vw ls ws Ls) := ht2
    have HC3 : Hid (Tch lab (IJK i j) w w2) := HC1.out.trans hc2 (fun _ _ => rfl)
    have hML := HOL.out.2.1 M (.inl rfl)
    have HO1' : Hid (OwnB w2 wA.heap.size (.slice a1 el c1) s.1) := HO1.out.grown hr2.2 (.inr (fun e => by have := (HO1.out.2.lt M e).1; have := HOB.out; omega))
    have HO2 : Hid (OwnB w2 wA.heap.size (.slice a2 el c2) s.1) := hown2.mono HSZ1.out
    clear ht2 hc2 hr2 hown2 y0 y3
    go_wp2_with fail
    refine (put_any w2 kb vl vw ls ws Ls Ls a1 el c1 s.1 HT2.out.k.holds (HO1'.out.mono (Nat.zero_le _)) (fun k hk hS => by have h1 := (HO1'.out.2.lt k hk).1; have h2 := HOL.out.2.2 k hS; have := HOB.out; omega) hln HWL.out (by rw [← HEL.out]; omega)).mono ?_
    rintro e3 w3 ⟨rfl, vl3, vw3, y, hb3, hT3, hs3⟩
    obtain ⟨ht3, hc3⟩ := HT2.out.put (n := w.heap.size) HC3.out.size HOL.out.1 HOL.out.2.1 HOL.out.2.2 (fun k hk => Nat.le_trans HOB.out (HO1'.out.2.lt k hk).1) hb3 hT3 hs3
    have HF3 : Hid (Asked lab i j w w3 R a c b M g d kb ls.length X) := by
      refine ⟨relab lab w.heap.size 6, _, _, vl3, vw3, _, _, _, ht3, HC3.out.trans hc3 (fun _ _ => rfl), fun k hk => relab_old _ _ _ _ hk, by simp, by simp [HWL.out], fun t => ?_⟩
      rw [getD_snoc]
      split
      · exact HX.out t
      · split
        · rw [← HEL.out]; omega
        · simp
    have hfar : ∀ v : Value, ∀ k, OwnB w2 wA.heap.size v s.1 → v.ownBlock = some k → w3.heap[k]? = w2.heap[k]? := by
      intro v k ho hk
      have h1 := ho.2.lt k hk
      refine hT3.block k h1.2 ?_
      have h3 := HOL.out.2.2
      have h4 := HOB.out
      rintro (e | e | e)
      · have := h3 k (.inl e); omega
      · have := h3 k (.inr (.inl (.inl e))); omega
      · have := h3 k (.inr (.inr (.inl e))); omega
    have HY1 : Hid (BytesAt w3 a1 s.1) := (OwnB.bytes (HO1'.out.same (fun k hk => hfar _ k HO1'.out hk))).1
    have HY2 : Hid (BytesAt w3 a2 s.1) := (OwnB.bytes (HO2.out.same (fun k hk => hfar _ k HO2.out hk))).1
    clear hb3 hT3 hs3 ht3 hc3 hfar
    go_wp2_with fail
    refine (same_any w3 a1 a2 c1 c2 el el s.1 s.1 HEL.out HEL.out HY1.out HY2.out (by rw [← HEL.out]; unfold maxLen; omega)).mono ?_
    rintro e4 w4 ⟨rfl, q, hq⟩
    have HF4 : Hid (Asked lab i j w w4 R a c b M g d kb ls.length X) := by rw [hq]; exact HF3.out.drewN q
    clear hq
    go_wp2
    go_ret
    exact ⟨by simp, HF4.out⟩
  · generalize (w.alloc (.cells #[.int .i64 kind, .int .u64 (n : Int), .slice oa l oc, .int .i64 most, .bool two] 34)) = wA at *
    have HOB : Hid (w.heap.size ≤ wA.heap.size) := Nat.le_of_lt hob
    obtain ⟨s, hs⟩ : ∃ s, rdRaw b p e most = s := ⟨_, rfl⟩
    obtain ⟨el, hel⟩ : ∃ el, s.1.length = el := ⟨_, rfl⟩
    have HEL : Hid (el = s.1.length) := hel.symm
    have hell : el ≤ b.length := by rw [← hel, ← hs]; exact rdRaw_len b p e most
    have HC : Hid (Calls Try.prog 24 #[.pointer (some ⟨R, 0, none⟩), .int .i64 most] wA fun e' w' => ∃ v, e' = .returned v ∧ OwnB w' wA.heap.size v s.1 ∧ Reads wA R a c b s.2.1 s.2.2 w') := by
      have h := rRaw_any wA R a c b p e most HTA.out.r.holds
      rw [hs] at h; exact h
    have HC2 : Hid (∀ w1, IsModel w1 M (some ⟨g, 0, none⟩) d b p e → Calls Try.prog 25 #[.pointer (some ⟨M, 0, none⟩), .int .i64 most] w1 fun e' w' => ∃ v, e' = .returned v ∧ OwnB w' w1.heap.size v s.1 ∧ Models w1 M (some ⟨g, 0, none⟩) d b s.2.1 s.2.2 w') := by
      intro w1 hm
      have h := mRaw_any w1 M g d b p e most hm
      rw [hs] at h; exact h
    clear hs hel
    refine HC.out.mono ?_
    rintro e1 w1 ⟨v1, rfl, hown1, hr1⟩
    obtain ⟨a1, c1, hv1, _, _, _⟩ := hown1.slice
    rw [← HEL.out] at hv1
    subst hv1
    obtain ⟨ht1, hc1⟩ := HTA.out.reads hr1
    have HT1 : Hid (Trio lab i j w1 R a c b s.2.1 s.2.2 M g d p e kb vl vw ls ws Ls) := ht1
    have HC1 : Hid (Tch lab (IJK i j) w w1) := HCA.out.trans hc1 (fun _ _ => rfl)
    have HO1 : Hid (OwnB w1 wA.heap.size (.slice a1 el c1) s.1) := hown1
    have HSZ1 : Hid (wA.heap.size ≤ w1.heap.size) := hr1.2.size
    have y0 : w1.cell? ⟨w.heap.size, 0, none⟩ = some (.int .i64 kind) := hr1.2.cell z0 (fun h => HOR.out.1 (Option.some.inj h))
    have y3 : w1.cell? ⟨w.heap.size, 3, none⟩ = some (.int .i64 most) := hr1.2.cell z3 (fun h => HOR.out.1 (Option.some.inj h))
    clear ht1 hc1 hr1 hown1 z0 z1 z3
    go_wp2_with fail
    refine (HC2.out w1 HT1.out.m.holds).mono ?_
    rintro e2 w2 ⟨v2, rfl, hown2, hr2⟩
    obtain ⟨a2, c2, hv2, _, _, _⟩ := hown2.slice
    rw [← HEL.out] at hv2
    subst hv2
    obtain ⟨ht2, hc2⟩ := HT1.out.models hr2
    have HT2 : Hid (Trio lab i j w2 R a c b s.2.1 s.2.2 M g d s.2.1 s.2.2 kb vl vw ls ws Ls) := ht2
    have HC3 : Hid (Tch lab (IJK i j) w w2) := HC1.out.trans hc2 (fun _ _ => rfl)
    have hML := HOL.out.2.1 M (.inl rfl)
    have HO1' : Hid (OwnB w2 wA.heap.size (.slice a1 el c1) s.1) := HO1.out.grown hr2.2 (.inr (fun e => by have := (HO1.out.2.lt M e).1; have := HOB.out; omega))
    have HO2 : Hid (OwnB w2 wA.heap.size (.slice a2 el c2) s.1) := hown2.mono HSZ1.out
    clear ht2 hc2 hr2 hown2 y0 y3
    go_wp2_with fail
    refine (put_any w2 kb vl vw ls ws Ls Ls a1 el c1 s.1 HT2.out.k.holds (HO1'.out.mono (Nat.zero_le _)) (fun k hk hS => by have h1 := (HO1'.out.2.lt k hk).1; have h2 := HOL.out.2.2 k hS; have := HOB.out; omega) hln HWL.out (by rw [← HEL.out]; omega)).mono ?_
    rintro e3 w3 ⟨rfl, vl3, vw3, y, hb3, hT3, hs3⟩
    obtain ⟨ht3, hc3⟩ := HT2.out.put (n := w.heap.size) HC3.out.size HOL.out.1 HOL.out.2.1 HOL.out.2.2 (fun k hk => Nat.le_trans HOB.out (HO1'.out.2.lt k hk).1) hb3 hT3 hs3
    have HF3 : Hid (Asked lab i j w w3 R a c b M g d kb ls.length X) := by
      refine ⟨relab lab w.heap.size 6, _, _, vl3, vw3, _, _, _, ht3, HC3.out.trans hc3 (fun _ _ => rfl), fun k hk => relab_old _ _ _ _ hk, by simp, by simp [HWL.out], fun t => ?_⟩
      rw [getD_snoc]
      split
      · exact HX.out t
      · split
        · rw [← HEL.out]; omega
        · simp
    have hfar : ∀ v : Value, ∀ k, OwnB w2 wA.heap.size v s.1 → v.ownBlock = some k → w3.heap[k]? = w2.heap[k]? := by
      intro v k ho hk
      have h1 := ho.2.lt k hk
      refine hT3.block k h1.2 ?_
      have h3 := HOL.out.2.2
      have h4 := HOB.out
      rintro (e | e | e)
      · have := h3 k (.inl e); omega
      · have := h3 k (.inr (.inl (.inl e))); omega
      · have := h3 k (.inr (.inr (.inl e))); omega
    have HY1 : Hid (BytesAt w3 a1 s.1) := (OwnB.bytes (HO1'.out.same (fun k hk => hfar _ k HO1'.out hk))).1
    have HY2 : Hid (BytesAt w3 a2 s.1) := (OwnB.bytes (HO2.out.same (fun k hk => hfar _ k HO2.out hk))).1
    clear hb3 hT3 hs3 ht3 hc3 hfar
    go_wp2_with fail
    refine (same_any w3 a1 a2 c1 c2 el el s.1 s.1 HEL.out HEL.out HY1.out HY2.out (by rw [← HEL.out]; unfold maxLen; omega)).mono ?_
    rintro e4 w4 ⟨rfl, q, hq⟩
    have HF4 : Hid (Asked lab i j w w4 R a c b M g d kb ls.length X) := by rw [hq]; exact HF3.out.drewN q
    clear hq
    go_wp2
    go_ret
    exact ⟨by simp, HF4.out⟩
  · generalize (w.alloc (.cells #[.int .i64 kind, .int .u64 (n : Int), .slice oa l oc, .int .i64 most, .bool two] 34)) = wA at *
    refine (rFail_any wA R a c b p e most HTA.out.r.holds).mono ?_
    rintro e1 w1 ⟨rfl, hr1⟩
    obtain ⟨ht1, hc1⟩ := HTA.out.reads hr1
    have HT1 : Hid (Trio lab i j w1 R a c b p (if e = 0 then most else e) M g d p e kb vl vw ls ws Ls) := ht1
    have HC1 : Hid (Tch lab (IJK i j) w w1) := HCA.out.trans hc1 (fun _ _ => rfl)
    have y3 : w1.cell? ⟨w.heap.size, 3, none⟩ = some (.int .i64 most) := hr1.2.cell z3 (fun h => HOR.out.1 (Option.some.inj h))
    clear ht1 hc1 hr1 z0 z1 z3
    go_wp2_with fail
    refine (mFail_any w1 M g d b p e most HT1.out.m.holds).mono ?_
    rintro e2 w2 ⟨rfl, hr2⟩
    obtain ⟨ht2, hc2⟩ := HT1.out.models hr2
    have HF : Hid (Asked lab i j w w2 R a c b M g d kb ls.length X) := HSAME.out w2 _ _ ht2 (HC1.out.trans hc2 (fun _ _ => rfl))
    clear ht2 hc2 hr2
    go_wp2
    go_ret
    exact ⟨rfl, HF.out⟩
  · generalize (w.alloc (.cells #[.int .i64 kind, .int .u64 (n : Int), .slice oa l oc, .int .i64 most, .bool two] 34)) = wA at *
    refine (rEnd_any wA R a c b p e HTA.out.r.holds).mono ?_
    rintro e1 w1 ⟨rfl, q1, hq1⟩
    have HM1 : Hid (IsModel w1 M (some ⟨g, 0, none⟩) d b p e) := by rw [hq1]; exact HTA.out.m.holds
    have HQ1 : Hid (w1 = wA.drewN q1) := hq1
    clear hq1
    go_wp2_with fail
    refine (mEnd_any w1 M g d b p e HM1.out).mono ?_
    rintro e2 w2 ⟨rfl, q2, hq2⟩
    have HF : Hid (Asked lab i j w w2 R a c b M g d kb ls.length X) := by
      rw [hq2, HQ1.out]
      exact Asked.drewN (Asked.drewN (HSAME.out wA _ _ HTA.out HCA.out) q1) q2
    clear hq2
    go_wp2
    go_ret
    exact ⟨by simp, HF.out⟩
  · have HF : Hid (Asked lab i j w (w.alloc (.cells #[.int .i64 kind, .int .u64 (n : Int), .slice oa l oc, .int .i64 most, .bool two] 34)) R a c b M g d kb ls.length X) := HSAME.out _ _ _ HTA.out HCA.out
    go_ret
    exact ⟨rfl, HF.out⟩

end Go.Proofs.Ythdlilekilkogaa
