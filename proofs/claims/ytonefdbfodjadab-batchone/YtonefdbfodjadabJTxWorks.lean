import Derived.Test.YtonefdbfodjadabJTxRound
import Derived.Test.YtonefdbfodjadabJTxDec1
import Derived.Test.YtonefdbfodjadabTxSame
import Derived.Test.YtonefdbfodjadabTxSameB
import Derived.Test.YtonefdbfodjadabTxParts
import Derived.Test.YtonefdbfodjadabJTxLentB
import Derived.Test.YtonefdbfodjadabTxEach
import Derived.Test.YtonefdbfodjadabJQOpenKeys
import Derived.Test.YtonefdbfodjadabJOpenCode
import Derived.ChangeOld
import Derived.ProofKit
import Derived.OpenShut
import Derived.SizedLaws
import Derived.Lib.SmallJoins
/-
  Accept WHERE IT TAKES; plain, works.
-/
namespace Go.Proofs.Ytonefdbfodjadab.Kk
open Go.RowKit Go.Sort

theorem num_b (w : World) (x : Int) : Calls Try.prog 9 #[.int .i64 x] w fun e w' => e = .returned (.int .i64 x) ∧ w' = w := by
  go_enter Try.func9, Try.ntmps9
  go_wp2
  go_ret
  exact ⟨rfl, rfl⟩

theorem DcT.ok {W : World} {lo hi : Nat} {y : Bx} (h : DcT W lo hi y) (hw : WF y.t) (hi' : TIn y.t) : BxOK W y := by
  obtain ⟨ga, gr, gw, e, h1, h2, h3, _⟩ := h
  obtain ⟨t, aA, cA, aR, cR, aW, cW⟩ := y
  simp only [Bx.mk.injEq, true_and] at e h1 h2 h3 hw hi'
  obtain ⟨rfl, rfl, rfl, rfl, rfl, rfl⟩ := e
  have a := hw.a; have r := hw.r; have w := hw.w; have p0 := hw.p0; have p1 := hw.p1
  have k1 : R64 W ga (t.args ++ []) := by rw [List.append_nil]; exact h1
  have k2 : RK W gr (t.reads ++ []) := by rw [List.append_nil]; exact h2
  have k3 : RK W gw (t.writes ++ []) := by rw [List.append_nil]; exact h3
  exact ⟨k1.nums, k2.keys, k3.keys, ⟨by show -9223372036854775808 ≤ t.proc; omega, by show t.proc ≤ 9223372036854775807; omega⟩, hi'.a, hi'.r, hi'.w, by simp, by simp, by simp, Nat.le_refl _, Nat.le_refl _, Nat.le_refl _, by show t.args.length * 8 ≤ _; omega, by show t.reads.length * 16 ≤ _; omega, by show t.writes.length * 16 ≤ _; omega⟩
theorem Dcd.bat {W : World} {base g n : Nat} {Ts : List Tp} {Qs : List Bx} {lo : Nat → Nat} (h : Dcd W base g n n Ts Qs lo) (hz : ∀ t ∈ Ts, WF t ∧ TIn t) : BatAt W (some ⟨g, 0, none⟩) Qs ∧ Qs.map Bx.t = Ts ∧ Qs.length = n := by
  have hts := h.ts
  rw [List.take_of_length_le (by rw [h.len]; omega)] at hts
  refine ⟨⟨h.row.txs0, fun x hx => ?_⟩, hts, h.len⟩
  obtain ⟨i, hi, rfl⟩ := List.mem_iff_getElem.1 hx
  have e : bd Qs i = Qs[i] := by simp [bd, List.getD_eq_getElem?_getD, List.getElem?_eq_getElem hi]
  have hm := hz Qs[i].t (by rw [← hts]; exact List.mem_map.2 ⟨_, hx, rfl⟩)
  rw [← e] at hm ⊢
  exact (h.one i (by rw [← h.len]; exact hi)).ok hm.1 hm.2
theorem OwnBat.lst {w0 w' : World} {Ts : List Tp} {v : Value} (h : OwnBat w0 Ts v w') (hz : ∀ t ∈ Ts, WF t ∧ TIn t) : ∃ g Qs, v = .slice (some ⟨g, 0, none⟩) Ts.length Ts.length ∧ BatAt w' (some ⟨g, 0, none⟩) Qs ∧ Qs.map Bx.t = Ts ∧ Ts.length = Qs.length := by
  obtain ⟨g, Qs, lo, rfl, hd⟩ := h
  obtain ⟨h1, h2, h3⟩ := hd.bat hz
  exact ⟨g, Qs, rfl, h1, h2, h3.symm⟩

set_option maxRecDepth 100000 in
set_option maxHeartbeats 1000000 in
theorem accept_ok (w : World) (lo ao : Option Addr) (n lc m cap : Nat) (Ps : List Pr) (zs : List Nat) (Ts : List Tp) (hl : ProcsAt w lo Ps) (hn : n = Ps.length) (hb : BytesAt w ao zs) (hm : m = zs.length) (hs : m ≤ 140737488355328) (hd : decR zs = .ok Ts) (hc : eachN (soundN Ps) Ts = (0, 0)) :
    Calls Try.prog 14 #[.slice lo n lc, .slice ao m cap] w fun e w' => ∃ v, e = .returned (.tuple #[v, .nilIface]) ∧ OwnBat w Ts v w' ∧ Below w.heap.size w w' := by
  have HZ : Hid (∀ t ∈ Ts, WF t ∧ TIn t) := (decR_back hb.1 hd).2.2
  have H64 : Hid (Ts.length ≤ 64) := (decR_back hb.1 hd).2.1
  have HD : Hid (Calls Try.prog 10 #[.slice ao m cap] w fun e' w' => ∃ v, e' = .returned (.tuple #[v, .int .i64 0, .int .i64 0]) ∧ OwnBat w Ts v w' ∧ Below w.heap.size w w') := by
    have := decode_b w ao m cap zs hm hb hs
    unfold DecPost at this
    rw [hd] at this
    exact this
  have HL : Hid (ProcsAt w lo Ps ∧ n = Ps.length) := ⟨hl, hn⟩
  have HC : Hid (eachN (soundN Ps) Ts = (0, 0)) := hc
  clear hl hn hb hm hd hc hs
  go_enter Try.func14, Try.ntmps14
  go_wp2_with fail
  refine HD.out.mono ?_
  rintro e w1 ⟨v, rfl, ho, hb1⟩
  obtain ⟨g, Qs, e, hB, hT, hLn⟩ := ho.lst HZ.out
  subst e
  have HO : Hid (OwnBat w Ts (.slice (some ⟨g, 0, none⟩) Ts.length Ts.length) w1) := ho
  have HB1 : Hid (Below w.heap.size w w1) := hb1
  have HCk : Hid (Calls Try.prog 12 #[.slice lo n lc, .slice (some ⟨g, 0, none⟩) Ts.length Ts.length] w1 fun e w' => e = .returned (.tuple #[.int .i64 0, .int .i64 0]) ∧ Grew w1 w') := by
    have := check_b w1 lo (some ⟨g, 0, none⟩) n lc Ts.length Ts.length Ps Qs (HL.out.1.kept hb1) HL.out.2 hB hLn (by have := H64.out; omega)
    rw [hT, HC.out] at this
    exact this
  clear ho hb1 hB hT hLn HD
  go_wp2_with fail
  refine HCk.out.mono ?_
  rintro e w2 ⟨rfl, hg2⟩
  have HF : Hid (OwnBat w Ts (.slice (some ⟨g, 0, none⟩) Ts.length Ts.length) w2 ∧ Below w.heap.size w w2) := by
    obtain ⟨g', Qs', lo', e, hd⟩ := HO.out
    refine ⟨⟨g', Qs', lo', e, hd.same (fun G _ hG => hg2.heap hG) hg2.size⟩, HB1.out.trans (hg2.below.mono HB1.out.size)⟩
  clear hg2 HCk
  go_wp2
  go_ret2
  exact ⟨_, rfl, HF.out.1, HF.out.2⟩

def pr0 (s : Nat) : Pr := ⟨⟨#[112, 117, 116]⟩, ⟨1, 0, 1, 0⟩, some ⟨s, 0, none⟩, 2, 2, [(6, 0), (32, 0)]⟩
def t0 : Tp := ⟨0, [10], [], [(0, 1)]⟩
def bx0 (s : Nat) : Bx := ⟨t0, some ⟨s + 2, 0, none⟩, 1, none, 0, some ⟨s + 3, 0, none⟩, 1⟩
def raw0 : List Nat := [1, 0, 1, 20, 0, 1, 0, 0, 128, 0, 0, 0, 0, 0, 0, 1]

theorem chain6 (w : World) (o0 o1 o2 o3 o4 o5 : Obj) :
    ((((((w.alloc o0).alloc o1).alloc o2).alloc o3).alloc o4).alloc o5).heap[w.heap.size]? = some o0 ∧ ((((((w.alloc o0).alloc o1).alloc o2).alloc o3).alloc o4).alloc o5).heap[w.heap.size + 1]? = some o1 ∧ ((((((w.alloc o0).alloc o1).alloc o2).alloc o3).alloc o4).alloc o5).heap[w.heap.size + 1 + 1]? = some o2 ∧
    ((((((w.alloc o0).alloc o1).alloc o2).alloc o3).alloc o4).alloc o5).heap[w.heap.size + 1 + 1 + 1]? = some o3 ∧ ((((((w.alloc o0).alloc o1).alloc o2).alloc o3).alloc o4).alloc o5).heap[w.heap.size + 1 + 1 + 1 + 1]? = some o4 ∧ ((((((w.alloc o0).alloc o1).alloc o2).alloc o3).alloc o4).alloc o5).heap[w.heap.size + 1 + 1 + 1 + 1 + 1]? = some o5 := by
  have a1 : (w.alloc o0).heap.size = w.heap.size + 1 := by simp
  have a2 : ((w.alloc o0).alloc o1).heap.size = w.heap.size + 1 + 1 := by simp
  have a3 : (((w.alloc o0).alloc o1).alloc o2).heap.size = w.heap.size + 1 + 1 + 1 := by simp
  have a4 : ((((w.alloc o0).alloc o1).alloc o2).alloc o3).heap.size = w.heap.size + 1 + 1 + 1 + 1 := by simp
  have a5 : (((((w.alloc o0).alloc o1).alloc o2).alloc o3).alloc o4).heap.size = w.heap.size + 1 + 1 + 1 + 1 + 1 := by simp
  refine ⟨?_, ?_, ?_, ?_, ?_, heap_alloc_new _ _ a5.symm⟩
  · rw [heap_alloc_old _ _ (by omega), heap_alloc_old _ _ (by omega), heap_alloc_old _ _ (by omega), heap_alloc_old _ _ (by omega), heap_alloc_old _ _ (by omega)]; exact heap_alloc_new _ _ rfl
  · rw [heap_alloc_old _ _ (by omega), heap_alloc_old _ _ (by omega), heap_alloc_old _ _ (by omega), heap_alloc_old _ _ (by omega)]; exact heap_alloc_new _ _ a1.symm
  · rw [heap_alloc_old _ _ (by omega), heap_alloc_old _ _ (by omega), heap_alloc_old _ _ (by omega)]; exact heap_alloc_new _ _ a2.symm
  · rw [heap_alloc_old _ _ (by omega), heap_alloc_old _ _ (by omega)]; exact heap_alloc_new _ _ a3.symm
  · rw [heap_alloc_old _ _ (by omega)]; exact heap_alloc_new _ _ a4.symm
theorem cells_at {W : World} {g : Nat} {xs : List Value} {T : TypeId} (h : W.heap[g]? = some (.cells xs.toArray T (0, 0))) (j : Nat) (u : Value) (hu : xs[j]? = some u) : W.cell? ⟨g, 0 + j, none⟩ = some u := by
  rw [Nat.zero_add]
  simp only [World.cell?, h]
  simpa using hu
/-- what plain hands out -/
structure Pl (w w' : World) : Prop where
  lib : ProcsAt w' (some ⟨w.heap.size + 1, 0, none⟩) [pr0 w.heap.size]
  bat : BatAt w' (some ⟨w.heap.size + 1 + 1 + 1 + 1, 0, none⟩) [bx0 w.heap.size]
  raw : BytesAt w' (some ⟨w.heap.size + 1 + 1 + 1 + 1 + 1, 0, none⟩) raw0
  bel : Below w.heap.size w w'

set_option maxRecDepth 100000 in
set_option maxHeartbeats 1000000 in
theorem plain_any (w : World) : Calls Try.prog 13 #[] w fun e w' => e = .returned (.tuple #[.slice (some ⟨w.heap.size + 1, 0, none⟩) 1 1, .slice (some ⟨w.heap.size + 1 + 1 + 1 + 1, 0, none⟩) 1 1, .slice (some ⟨w.heap.size + 1 + 1 + 1 + 1 + 1, 0, none⟩) 16 16]) ∧ Pl w w' := by
  go_enter Try.func13, Try.ntmps13
  go_wp2
  refine bodyPost_ret (v := .tuple #[.slice (some ⟨w.heap.size + 1, 0, none⟩) 1 1, .slice (some ⟨w.heap.size + 1 + 1 + 1 + 1, 0, none⟩) 1 1, .slice (some ⟨w.heap.size + 1 + 1 + 1 + 1 + 1, 0, none⟩) 16 16]) (by simp [results, Try.results13]) rfl ⟨rfl, ?_⟩
  obtain ⟨_, h1, h2, h3, h4, h5⟩ := chain6 w (.cells #[.int .i64 6, .int .i64 0, .int .i64 32, .int .i64 0] 76) (.cells #[.string ⟨#[112, 117, 116]⟩, .int .i64 1, .int .i64 0, .int .i64 1, .int .i64 0, .slice (some ⟨w.heap.size, 0, none⟩) 2 2] 73) (.cells #[.int .i64 10] 2) (.cells #[.int .i64 0, .int .i64 1] 78) (.cells #[.int .i64 0, .slice (some ⟨w.heap.size + 1 + 1, 0, none⟩) 1 1, .slice none 0 0, .slice (some ⟨w.heap.size + 1 + 1 + 1, 0, none⟩) 1 1] 42) (.cells (cellsU8 raw0) 5)
  refine ⟨.inr ⟨w.heap.size + 1, 0, rfl, cells_at (xs := prcs [pr0 w.heap.size]) h1⟩, ⟨.inr ⟨w.heap.size + 1 + 1 + 1 + 1, 0, rfl, cells_at (xs := bxcs [bx0 w.heap.size]) h4⟩, fun x hx => ?_⟩, ⟨by decide, .inr ⟨w.heap.size + 1 + 1 + 1 + 1 + 1, 0, rfl, fun j hj => by rw [Nat.zero_add]; exact row_cell h5 j hj⟩⟩, ?_⟩
  · simp only [List.mem_singleton] at hx
    subst hx
    refine ⟨.inr ⟨w.heap.size + 2, 0, rfl, cells_at (xs := [10].map iv) h2⟩, .inl rfl, .inr ⟨w.heap.size + 3, 0, rfl, cells_at (xs := cks [(0, 1)]) h3⟩, by simp [bx0, t0, In64], by simp [bx0, t0, In64], by simp [bx0, t0], by simp [bx0, t0, KIn, In64], by simp [bx0], by simp [bx0], by simp [bx0], by simp [bx0, t0], by simp [bx0, t0], by simp [bx0, t0], by simp [bx0, t0], by simp [bx0, t0], by simp [bx0, t0]⟩
  · exact ((((((Below.refl _ _).alloc (Nat.le_refl _) _).alloc (by simp) _).alloc (by simp; omega) _).alloc (by simp; omega) _).alloc (by simp; omega) _).alloc (by simp; omega) _
theorem wf_t0 : WF t0 ∧ TIn t0 := ⟨⟨by decide, by decide, by decide, by decide, by decide, rise_nil, ⟨by simp [t0, isKey], by simp [t0]⟩⟩, ⟨by simp [t0, In64], by simp [t0], by simp [t0, KIn, In64]⟩⟩
theorem bat_t0 : batN [t0] = raw0 := by decide
theorem each_t0 (f : Tp → Int) (h : f t0 = 0) : eachN f [t0] = (0, 0) := eachN_zero (by simp) (fun i hi => by
  have : i = 0 := by simp at hi; omega
  subst this; exact h)
theorem sound_t0 (s : Nat) : soundN [pr0 s] t0 = 0 := by
  unfold soundN
  have h1 := wf_t0.1.form
  simp [t0, pr0, pd] at h1 ⊢
  exact h1
end Go.Proofs.Ytonefdbfodjadab.Kk
/-
  works.
-/
namespace Go.Proofs.Ytonefdbfodjadab.Kk
open Go.RowKit Go.Sort

/-- Encode of a batch that is well-formed -/
theorem encode_ok (w : World) (ao : Option Addr) (n cap : Nat) (Bs : List Bx) (h : BatAt w ao Bs) (hn : n = Bs.length) (hm : n ≤ 140737488355328) (he : (eachN formN (Bs.map Bx.t)).2 = 0) :
    Calls Try.prog 7 #[.slice ao n cap] w fun e w' => ∃ g, e = .returned (.tuple #[.slice (some ⟨g, 0, none⟩) (batN (Bs.map Bx.t)).length (batN (Bs.map Bx.t)).length, .int .i64 0]) ∧ RowAt w' g (batN (Bs.map Bx.t)) ∧ w.heap.size ≤ g ∧ Below w.heap.size w w' := by
  refine (encode_b w ao n cap Bs h hn hm).mono ?_
  rintro e w' (⟨h0, _⟩ | ⟨_, g, rfl, h1, h2, _, h3⟩)
  · exact absurd he h0
  · exact ⟨g, rfl, h1, h2, h3⟩
theorem row_bytes {W : World} {g : Nat} {L : List Nat} (h : RowAt W g L) (hz : ∀ z ∈ L, z < 256) : BytesAt W (some ⟨g, 0, none⟩) L :=
  ⟨hz, .inr ⟨g, 0, rfl, fun j hj => by rw [Nat.zero_add]; exact row_cell h j hj⟩⟩

set_option maxRecDepth 100000 in
set_option maxHeartbeats 1000000 in
theorem works_any (w : World) : Calls Try.prog 6 #[] w fun e w' => e = .returned (.bool true) ∧ Below w.heap.size w w' := by
  have heq : ∀ w : World, (binOp .eql 46 .nilIface .nilIface).run Try.prog w = .ok (.bool true) w := fun _ => by kernel_rfl
  go_enter Try.func6, Try.ntmps6
  go_wp2_with fail
  refine (plain_any w).mono ?_
  rintro e w1 ⟨rfl, hp⟩
  have HP : Hid (Pl w w1) := hp
  clear hp
  have HPl : Hid (ProcsAt w1 (some ⟨w.heap.size + 1, 0, none⟩) [pr0 w.heap.size]) := HP.out.lib
  have HPb : Hid (BatAt w1 (some ⟨w.heap.size + 1 + 1 + 1 + 1, 0, none⟩) [bx0 w.heap.size]) := HP.out.bat
  have HPw : Hid (Below w.heap.size w w1) := HP.out.bel
  have HPr : Hid (BytesAt w1 (some ⟨w.heap.size + 1 + 1 + 1 + 1 + 1, 0, none⟩) raw0) := HP.out.raw
  clear HP
  generalize (⟨w.heap.size + 1 + 1 + 1 + 1 + 1, 0, none⟩ : Addr) = ra at *
  generalize w.heap.size + 1 + 1 + 1 + 1 = bb at *
  generalize w.heap.size + 1 = lb at *
  go_wp2_with fail
  refine (encode_ok w1 (some ⟨bb, 0, none⟩) 1 1 [bx0 w.heap.size] HPb.out rfl (by omega) (by rw [show [bx0 w.heap.size].map Bx.t = [t0] from rfl, each_t0 formN wf_t0.1.form])).mono ?_
  rintro e w2 ⟨g, rfl, hrow, _, hb2⟩
  rw [show [bx0 w.heap.size].map Bx.t = [t0] from rfl, bat_t0] at hrow ⊢
  have HD : Hid (BytesAt w2 (some ⟨g, 0, none⟩) raw0) := row_bytes hrow HPr.out.1
  have HB2 : Hid (Below w1.heap.size w1 w2) := hb2
  clear hrow hb2
  have HAc : Hid (Calls Try.prog 14 #[.slice (some ⟨lb, 0, none⟩) 1 1, .slice (some ra) 16 16] w2 fun e w' => ∃ v, e = .returned (.tuple #[v, .nilIface]) ∧ OwnBat w2 [t0] v w' ∧ Below w2.heap.size w2 w') :=
    accept_ok w2 _ _ 1 1 16 16 [pr0 w.heap.size] raw0 [t0] (HPl.out.kept HB2.out) rfl (HPr.out.kept HB2.out) rfl (by omega) (by rw [← bat_t0]; exact decR_there hfk (by simp) (fun t ht => by simp at ht; subst ht; exact wf_t0)) (each_t0 _ (sound_t0 _))
  rw [show raw0.length = 16 from rfl]
  go_wp2_with fail
  refine HAc.out.mono ?_
  rintro e w3 ⟨v, rfl, ho, hb3⟩
  obtain ⟨gc, Qs, e, hB, hT, hLn⟩ := ho.lst (fun t ht => by simp at ht; subst ht; exact wf_t0)
  subst e
  have HQ : Hid (BatAt w3 (some ⟨gc, 0, none⟩) Qs ∧ Qs.map Bx.t = [t0] ∧ 1 = Qs.length) := ⟨hB, hT, hLn⟩
  have HB3 : Hid (Below w2.heap.size w2 w3) := hb3
  clear ho hb3 hB hT hLn HAc
  rw [show ([t0] : List Tp).length = 1 from rfl]
  go_wp2_with fail
  refine (num_b _ _).mono ?_
  rintro e w4 ⟨rfl, hw4⟩
  have hw4' := hw4.symm
  subst hw4'
  clear hw4
  have HSb : Hid (Calls Try.prog 15 #[.slice (some ⟨g, 0, none⟩) 16 16, .slice (some ra) 16 16] w3 fun e w' => e = .returned (.bool true) ∧ ∃ n, w' = w3.drewN n) := by
    have := same_any w3 (some ⟨g, 0, none⟩) (some ra) 16 16 16 16 raw0 raw0 rfl rfl (HD.out.kept HB3.out) ((HPr.out.kept HB2.out).kept HB3.out) (by unfold maxLen; decide)
    rw [decide_eq_true rfl] at this
    exact this
  go_wp2_with fail
  refine HSb.out.mono ?_
  rintro e w5 ⟨rfl, q5, hw5⟩
  have HG5 : Hid (Grew w3 w5) := by rw [hw5]; exact (Grew.refl _).drewN q5
  clear hw5 HSb
  have HB5 : Hid (Below w1.heap.size w1 w5) := (HB2.out.trans (HB3.out.mono HB2.out.size)).trans (HG5.out.below.mono (Nat.le_trans HB2.out.size HB3.out.size))
  have HSm : Hid (Calls Try.prog 16 #[.slice (some ⟨gc, 0, none⟩) 1 1, .slice (some ⟨bb, 0, none⟩) 1 1] w5 fun e w' => e = .returned (.bool true) ∧ Grew w5 w') :=
    sameBatch_eq w5 _ _ 1 1 1 Qs [bx0 w.heap.size] (Like.of (HQ.out.1.kept HG5.out.below) (HPb.out.kept HB5.out) (by rw [HQ.out.2.1]; rfl)) HQ.out.2.2 (by omega)
  go_wp2_with fail
  refine HSm.out.mono ?_
  rintro e w6 ⟨rfl, hg6⟩
  have HF : Hid (Below w.heap.size w w6) := by
    have h1 : Below w.heap.size w w5 := HPw.out.trans (HB5.out.mono HPw.out.size)
    exact h1.trans (hg6.below.mono h1.size)
  clear hg6 HSm
  go_wp2
  go_ret
  exact ⟨rfl, HF.out⟩
end Go.Proofs.Ytonefdbfodjadab.Kk
/-
  BatchOne.
-/
namespace Go.Proofs.Ytonefdbfodjadab.Kk
open Go.RowKit Go.Sort

/-- a batch that was lent, or nil: as an argument -/
theorem lent_use1 (w : World) (ao : Option Addr) (n cap : Nat) (Bs : List Bx) (h : BatAt w ao Bs) (hn : n = Bs.length) (hm : n ≤ 100000) (hx : ∀ x ∈ Bs, x.t.args.length ≤ 100000 ∧ x.t.reads.length ≤ 100000 ∧ x.t.writes.length ≤ 100000) :
    Calls Try.prog 8 #[.slice ao n cap] w fun e w' => ∃ ai ci Is, e = .returned (.slice ai n ci) ∧ BatAt w' ai Is ∧ Is.map Bx.t = Bs.map Bx.t ∧ n = Is.length ∧ Below w.heap.size w w' := by
  refine (lent_b w ao n cap Bs h hn hm hx).mono ?_
  rintro e w' (⟨_, rfl, rfl, rfl⟩ | ⟨_, Qs, lf, rfl, hlt⟩)
  · obtain rfl : n = 0 := hn
    exact ⟨none, 0, [], rfl, ⟨.inl rfl, fun x hx => by cases hx⟩, rfl, rfl, Below.refl _ _⟩
  · have hb := hlt.bat hn (h.kept hlt.bel)
    exact ⟨_, _, Qs.take n, rfl, hb.1, hb.2, by rw [List.length_take, hlt.len]; omega, hlt.bel⟩
theorem each_one (f : Tp → Int) (t : Tp) : eachN f [t] = (0, f t) := by
  by_cases h : f t = 0
  · rw [h]
    exact eachN_zero (by simp) (fun i hi => by
      have : i = 0 := by simp at hi; omega
      subst this; exact h)
  · exact eachN_stop (f := f) (Ts := [t]) (k := 0) (by simp) (fun i hi => by omega) h (by simp)
/-- one transaction of a batch, as a list -/
theorem one_of {W : World} {b off : Nat} {Bs : List Bx} (h : BatAt W (some ⟨b, off, none⟩) Bs) (k : Nat) (hk : k < Bs.length) : BatAt W (some ⟨b, off + k * 4, none⟩) [bd Bs k] := by
  refine ⟨.inr ⟨b, off + k * 4, rfl, fun j u hu => ?_⟩, fun x hx => by simp only [List.mem_singleton] at hx; subst hx; exact h.lst k hk⟩
  rcases h.at_ with h0 | ⟨b', off', e, hc⟩
  · rw [bxcs_nil h0] at hk; simp at hk
  · cases e
    have hj : j < 4 := by have := (List.getElem?_eq_some_iff.1 hu).1; simpa [bxcs, bxc] using this
    have hu' : (bxc (bd Bs k))[j]? = some u := by simpa [bxcs] using hu
    rw [Nat.add_assoc]
    exact hc (k * 4 + j) u (by rw [bxcs_at Bs k j hk hj]; exact hu')

set_option maxRecDepth 100000 in
set_option maxHeartbeats 1000000 in
theorem lawBOne (w : World) (lo ao : Option Addr) (n lc m cap : Nat) (Ps : List Pr) (Bs : List Bx) (hl : LibAt w lo Ps) (hn : n = Ps.length) (hb : BatAt w ao Bs) (hn' : m = Bs.length) (hm : n ≤ 140737488351232) (hm' : m ≤ 140737488351232) (hcap : m ≤ cap) :
    Calls Try.prog 4 #[.slice lo n lc, .slice ao m cap] w fun e w' => e = .returned (.bool true) ∧ Below w.heap.size w w' := by
  have HL : Hid (LibAt w lo Ps ∧ n = Ps.length) := ⟨hl, hn⟩
  have HB : Hid (BatAt w ao Bs ∧ m = Bs.length) := ⟨hb, hn'⟩
  clear hl hn hb hn'
  go_enter Try.func4, Try.ntmps4
  go_wp2_with fail
  refine (parts_any w lo n lc Ps HL.out.1 HL.out.2 hm).mono ?_
  rintro e w1 ⟨⟨r, rfl, _, r1, r2⟩, q, hw1⟩
  have HG1 : Hid (Grew w w1) := by rw [hw1]; exact (Grew.refl w).drewN q
  clear hw1
  go_wp2_with fail
  refine (partsB_any w1 ao m cap Bs r (HB.out.1.kept HG1.out.below) HB.out.2 hm' r1 r2).mono ?_
  rintro e w2 ⟨⟨r', rfl, hr'⟩, q2, hw2⟩
  have HG2 : Hid (Grew w w2) := HG1.out.trans (by rw [hw2]; exact (Grew.refl w1).drewN q2)
  clear hw2 HG1
  by_cases h0 : r' < 0
  · go_wp2
    go_ret
    exact ⟨rfl, HG2.out.below⟩
  have HX : Hid (m ≤ 100000 ∧ ∀ x ∈ Bs, x.t.args.length ≤ 100000 ∧ x.t.reads.length ≤ 100000 ∧ x.t.writes.length ≤ 100000) := (hr' (by omega)).2
  clear hr'
  go_wp2_with fail
  refine (works_any w2).mono ?_
  rintro e w3 ⟨rfl, hb3⟩
  have HW3 : Hid (Below w.heap.size w w3) := HG2.out.below.trans (hb3.mono HG2.out.size)
  clear hb3 HG2
  have hm3 := HX.out.1
  go_wp2_with fail
  refine (lent_use1 w3 ao m cap Bs (HB.out.1.kept HW3.out) HB.out.2 HX.out.1 HX.out.2).mono ?_
  rintro e w4 ⟨ai, ci, Is, rfl, hI, hT, hLn, hb4⟩
  have HW4 : Hid (Below w.heap.size w w4) := HW3.out.trans (hb4.mono HW3.out.size)
  have HC : Hid (Calls Try.prog 12 #[.slice lo n lc, .slice ai m ci] w4 fun e w' => e = .returned (.tuple #[.int .i64 ((eachN (soundN Ps) (Bs.map Bx.t)).1 : Int), .int .i64 (eachN (soundN Ps) (Bs.map Bx.t)).2]) ∧ Grew w4 w') := by
    have := check_b w4 lo ai n lc m ci Ps Is (HL.out.1.at_.kept HW4.out) HL.out.2 hI hLn (by omega)
    rw [hT] at this
    exact this
  clear hI hT hLn hb4 HW3
  have HTl : Hid ((Bs.map Bx.t).length = m) := by rw [List.length_map]; exact HB.out.2.symm
  obtain ⟨⟨E1, E2⟩, hE⟩ : ∃ E, E = eachN (soundN Ps) (Bs.map Bx.t) := ⟨_, rfl⟩
  rw [← hE] at HC
  simp only at HC
  have HE : Hid (eachN (soundN Ps) (Bs.map Bx.t) = (E1, E2)) := hE.symm
  clear hE
  go_wp2_with fail
  refine HC.out.mono ?_
  rintro e w5 ⟨rfl, hg5⟩
  have HW5 : Hid (Below w.heap.size w w5) := HW4.out.trans (hg5.below.mono HW4.out.size)
  clear hg5 HC HW4
  by_cases h64 : 64 < m
  · have h64i : (64 : Int) < (m : Int) := by omega
    have he : E1 = 0 ∧ E2 = 60 := by
      have := HE.out
      rw [eachN_big (by rw [HTl.out]; exact h64)] at this
      simp only [Prod.mk.injEq] at this
      exact ⟨this.1.symm, this.2.symm⟩
    obtain ⟨rfl, rfl⟩ := he
    go_wp2_with fail
    refine (num_b _ _).mono ?_
    rintro e w6 ⟨rfl, hw6⟩
    have hw6' := hw6.symm
    subst hw6'
    clear hw6
    go_wp2
    go_ret
    exact ⟨rfl, HW5.out⟩
  have h64i : ¬ (64 : Int) < (m : Int) := by omega
  go_wp2_with fail
  generalize w5 = wz at *
  go_loopw [7] (fun x wr => ∃ k : Nat, k ≤ m ∧ x = .int .i64 (k : Int) ∧ Hid (Below w.heap.size w wr) ∧ Hid (∀ i, i < k → soundN Ps (td (Bs.map Bx.t) i) = 0)) (fun x _ => m - (intOf x).toNat)
  case atStart => exact ⟨0, Nat.zero_le _, rfl, HW5, fun i hi => by omega⟩
  case round =>
    clear HW5
    obtain ⟨k, hk, rfl, HBk, HZ⟩ := hrel
    by_cases hlt : k < m
    · have hlt' : k < Bs.length := by have := HB.out.2; omega
      obtain ⟨b, off, rfl, _, _, _, _⟩ := TxsAt.get (HB.out.1.at_.kept HBk.out) k hlt'
      have HO : Hid (∀ W, Below w.heap.size w W → BatAt W (some ⟨b, off + k * 4, none⟩) [bd Bs k]) := fun W hW => one_of (HB.out.1.kept hW) k hlt'
      have HXk := HX.out.2 _ (bd_mem hlt')
      have HTd : Hid (td (Bs.map Bx.t) k = (bd Bs k).t) := td_map hlt'
      have hki : (k : Int) + 1 ≤ (cap : Int) := by omega
      have hk0 : (0 : Int) ≤ (k : Int) := by omega
      have hkc : (k : Int) ≤ (cap : Int) := by omega
      go_wp2_with fail
      refine (lent_use1 wr _ _ _ [bd Bs k] (HO.out wr HBk.out) (by simp <;> omega) (by omega) (fun x hx => by simp only [List.mem_singleton] at hx; subst hx; exact HXk)).mono ?_
      rintro e w6 ⟨ai', ci', Is', rfl, hI, hT, hLn, hb6⟩
      have HW6 : Hid (Below w.heap.size w w6) := HBk.out.trans (hb6.mono HBk.out.size)
      obtain ⟨f, hf⟩ : ∃ f, f = soundN Ps (bd Bs k).t := ⟨_, rfl⟩
      have HC : Hid (∀ nn, nn = Is'.length → Calls Try.prog 12 #[.slice lo n lc, .slice ai' nn ci'] w6 fun e w' => e = .returned (.tuple #[.int .i64 0, .int .i64 f]) ∧ Grew w6 w') := fun nn hnn => by
        have hl1 : Is'.length = 1 := by have := congrArg List.length hT; simpa using this
        have := check_b w6 lo ai' n lc nn ci' Ps Is' (HL.out.1.at_.kept HW6.out) HL.out.2 hI hnn (by omega)
        rw [hT, show ([bd Bs k] : List Bx).map Bx.t = [(bd Bs k).t] from rfl, each_one, ← hf] at this
        exact this
      have HF0 : Hid (soundN Ps (td (Bs.map Bx.t) k) = f) := by rw [HTd.out, hf]; rfl
      have HLn : Hid (_ = Is'.length) := hLn
      clear hI hT hb6 hf HO HXk HTd hLn
      go_wp2_with fail
      with_reducible refine (HC.out _ HLn.out).mono ?_
      rintro e w7 ⟨rfl, hg7⟩
      have HW7 : Hid (Below w.heap.size w w7) := HW6.out.trans (hg7.below.mono HW6.out.size)
      clear hg7 HC HW6 HBk HLn
      go_wp2_with fail
      refine (num_b _ _).mono ?_
      rintro e w8 ⟨rfl, hw8⟩
      have hw8' := hw8.symm
      subst hw8'
      clear hw8
      by_cases hf0 : f = 0
      · subst hf0
        go_wp2
        go_roundw
        case rel => exact ⟨k + 1, by omega, by go_num, HW7, fun i hi => by
          by_cases e : i = k
          · subst e; exact HF0.out
          · exact HZ.out i (by omega)⟩
        case measure => simp [intOf]; omega
      · have hf0' : ¬ f = 0 := hf0
        have he : E1 = k ∧ E2 = f := by
          have h1 := eachN_stop (f := soundN Ps) (Ts := Bs.map Bx.t) (k := k) (by rw [HTl.out]; omega) HZ.out (by rw [HF0.out]; exact hf0) (by rw [HTl.out]; exact hlt)
          rw [HE.out, HF0.out] at h1
          simpa using h1
        obtain ⟨rfl, rfl⟩ := he
        go_wp2_with fail
        refine (num_b _ _).mono ?_
        rintro e w9 ⟨rfl, hw9⟩
        have hw9' := hw9.symm
        subst hw9'
        clear hw9
        go_wp2_with fail
        refine (num_b _ _).mono ?_
        rintro e w10 ⟨rfl, hw10⟩
        have hw10' := hw10.symm
        subst hw10'
        clear hw10
        go_wp2
        go_ret
        exact ⟨rfl, HW7.out⟩
    · obtain rfl : k = m := by omega
      have he : E1 = 0 ∧ E2 = 0 := by
        have h1 := eachN_zero (f := soundN Ps) (Ts := Bs.map Bx.t) (by rw [HTl.out]; omega) (by rw [HTl.out]; exact HZ.out)
        rw [HE.out] at h1
        simpa using h1
      obtain ⟨rfl, rfl⟩ := he
      go_wp2_with fail
      refine (num_b _ _).mono ?_
      rintro e w9 ⟨rfl, hw9⟩
      have hw9' := hw9.symm
      subst hw9'
      clear hw9
      go_wp2
      go_ret
      exact ⟨rfl, HBk.out⟩
end Go.Proofs.Ytonefdbfodjadab.Kk
/-
  BatchOne: THE ROW.
-/
namespace Go.Proofs.Ytonefdbfodjadab.batchOne
open Go.ChangeShapes Go.WideShapes Go.ChangeAt Go.RowKit

theorem own : ownKnob Try.prog.godebug = none := by kernel_rfl
theorem laidOut : laidOutB Try.prog = true := by kernel_rfl

set_option maxRecDepth 100000 in
theorem lifted (os : Os) (started : os.Started) (H : Type) (enc : TypeId × Value → H) :
    ReturnsInHanded {} Try.checked os 4 .any (Rows.batchOneSpec.pre6 enc Try.prog Try.f4 Rows.batchOneRow.domain false) (Rows.batchOneSpec.post enc Try.prog Try.f4 false true false false) := by
  refine returnsInHanded_of_change_sized (C := Try.checked) own started (by kernel_rfl) Try.func4
    (ChangeSpec.witness6 (enc := enc) (C := Try.checked) false ⟨#[], #[.slice none 0 0, .slice none 0 0], []⟩ 8 (by kernel_rfl) (by kernel_rfl) (by kernel_rfl) (by kernel_rfl)) ?_
  intro W base args ds gs before hval0 hW hcnd hsz0 _
  have hval : ∀ (j : Nat) t v, Try.f4.params[j]? = some t → args[j]? = some v → Value.okWide Try.prog W .any base t v := hval0
  have hW' := hW
  obtain ⟨p, q, hA0, hV, rfl, hfz, hnd⟩ := hW
  have hA : DataW.TrodAll enc Try.prog W 0 (fun _ => true) true Try.f4.params.toList args.toList ds p := hA0
  have hsz0 : (DataW.weightsEach Try.prog (Try.f4.params.toList ++ Rows.batchOneSpec.plain.varTypes Try.prog) (ds ++ gs)).all (· ≤ reachBytes) = true := hsz0
  rw [Try.params4] at hA hval hsz0
  obtain ⟨v0, vs0, d0, ds0, p0, q0, hargs, rfl, rfl, h0, r0⟩ := trodAll_cons hA
  obtain ⟨v1, vs1, d1, ds1, p1, q1, rfl, rfl, rfl, h1, r1⟩ := trodAll_cons r0
  obtain ⟨rfl, rfl, rfl⟩ := trodAll_nil r1
  obtain rfl : args = #[v0, v1] := by cases args; simp_all
  obtain ⟨rfl, rfl⟩ := trodVars_none hV
  obtain ⟨a_0, len_0, cap_0, rfl⟩ := okWide_slice Try.underlying34 (hval 0 34 v0 rfl rfl)
  have k0 := h0
  have lt0 : ∀ x ∈ p0, x.block < W.heap.size := by obtain ⟨m, hm⟩ := k0; exact DataW.trod_lt m _ _ _ hm
  obtain ⟨fuel0, hf0⟩ := h0
  obtain ⟨a0', len0', cap0', Ps_0, hcs0, hn_0, hlc_0, hcm_0, hnil_0, hx0⟩ := lib_of_trod hf0
  simp [Value.cells] at hcs0
  obtain ⟨rfl, rfl, rfl⟩ := hcs0
  obtain ⟨hl_0, hr_0⟩ := hx0 (weights_at hsz0 (j := 0) rfl rfl)
  have hrl_0 : len_0 ≤ 140737488351232 := by simp only [reachBytes] at hr_0; omega
  obtain ⟨a_1, len_1, cap_1, rfl⟩ := okWide_slice Try.underlying22 (hval 1 22 v1 rfl rfl)
  have k1 := h1
  have lt1 : ∀ x ∈ p1, x.block < W.heap.size := by obtain ⟨m, hm⟩ := k1; exact DataW.trod_lt m _ _ _ hm
  obtain ⟨fuel1, hf1⟩ := h1
  obtain ⟨a1', len1', cap1', Bs_1, hcs1, hn_1, hlc_1, hcm_1, hnil_1, hx1⟩ := Kk.bat_of_trod hf1
  simp [Value.cells] at hcs1
  obtain ⟨rfl, rfl, rfl⟩ := hcs1
  obtain ⟨hl_1, hr_1⟩ := hx1 (weights_at hsz0 (j := 1) rfl rfl)
  have hrl_1 : len_1 ≤ 140737488351232 := by simp only [reachBytes] at hr_1; omega
  clear hA0 hval0
  refine (Kk.lawBOne W a_0 a_1 len_0 cap_0 len_1 cap_1 Ps_0 Bs_1 hl_0 hn_0 hl_1 hn_1 hrl_0 hrl_1 hlc_1).mono fun e W' ⟨he, bel⟩ => ?_
  subst he
  exact ⟨_, rfl, _, _, _, [], _, [], hW', trodAll_mk1 (shut_bool Try.underlying4 _), (trodAll_cons_mk (Below.trod laidOut (by kernel_rfl) (of_decide_eq_true (by kernel_rfl)) k0 bel lt0) (trodAll_cons_mk (Below.trod laidOut (by kernel_rfl) (of_decide_eq_true (by kernel_rfl)) k1 bel lt1) trodAll_mk0)), rfl, bel.frame _, fun h => by cases h⟩

theorem proved : Rows.BatchOneSaid :=
  OpenClaim.holds_of_wide 4 Try.f4 rfl rfl rfl rfl rfl rfl rfl ⟨rfl, rfl, rfl, rfl, rfl⟩ rfl rfl rfl rfl rfl (by kernel_rfl) Try.func4 (by kernel_rfl)
    (of_decide_eq_true (by kernel_rfl)) (by unfold Func.isWrapper; first | (rw [if_pos (by decide +kernel)]; kernel_rfl) | (rw [if_neg (by decide +kernel)]; exact ⟨rfl, rfl⟩))
    (fun os started H enc _ => lifted os started H enc)
end Go.Proofs.Ytonefdbfodjadab.batchOne
namespace Go.Proofs.Ytonefdbfodjadab
theorem batchOne_holds : Rows.BatchOneSaid := batchOne.proved
#print axioms batchOne_holds
end Go.Proofs.Ytonefdbfodjadab
