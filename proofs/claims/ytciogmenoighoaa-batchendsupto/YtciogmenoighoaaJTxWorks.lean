import Derived.Test.YtciogmenoighoaaJTxRound
import Derived.Test.YtciogmenoighoaaJTxDec1
import Derived.Test.YtciogmenoighoaaTxSame
import Derived.Test.YtciogmenoighoaaTxSameB
import Derived.Test.YtciogmenoighoaaTxParts
import Derived.Test.YtciogmenoighoaaJTxLentB
import Derived.Test.YtciogmenoighoaaTxEach
/-
  Accept WHERE IT TAKES; plain, works.
-/
namespace Go.Proofs.Ytciogmenoighoaa.Kk
open Go.RowKit Go.Sort

theorem num_b (w : World) (x : Int) : Calls Try.prog 12 #[.int .i64 x] w fun e w' => e = .returned (.int .i64 x) ∧ w' = w := by
  go_enter Try.func12, Try.ntmps12
  go_wp2
  go_ret
  exact ⟨rfl, rfl⟩

theorem DcT.ok {W : World} {lo hi : Nat} {y : Bx} (h : DcT W lo hi y) (hw : WF y.t) (hi' : TIn y.t) : BxOK W y := by
  obtain ⟨ga, gr, gw, e, h1, h2, h3, _⟩ := h
  obtain ⟨t, aA, cA, aR, cR, aW, cW⟩ := y
  simp only [Bx.mk.injEq, true_and] at e h1 h2 h3 hw hi'
  obtain ⟨rfl, rfl, rfl, rfl, rfl, rfl⟩ := e
  have a := hw.a; have r := hw.r; have w := hw.w; have p0 := hw.p0; have p1 := hw.p1
  have k1 : R64 W ga (t.args ++ []) := by rw [List.append_nil]; exact h1
  have k2 : RK W gr (t.reads ++ []) := by rw [List.append_nil]; exact h2
  have k3 : RK W gw (t.writes ++ []) := by rw [List.append_nil]; exact h3
  exact ⟨k1.nums, k2.keys, k3.keys, ⟨by show -9223372036854775808 ≤ t.proc; omega, by show t.proc ≤ 9223372036854775807; omega⟩, hi'.a, hi'.r, hi'.w, by simp, by simp, by simp, Nat.le_refl _, Nat.le_refl _, Nat.le_refl _, by show t.args.length * 8 ≤ _; omega, by show t.reads.length * 16 ≤ _; omega, by show t.writes.length * 16 ≤ _; omega⟩
theorem Dcd.bat {W : World} {base g n : Nat} {Ts : List Tp} {Qs : List Bx} {lo : Nat → Nat} (h : Dcd W base g n n Ts Qs lo) (hz : ∀ t ∈ Ts, WF t ∧ TIn t) : BatAt W (some ⟨g, 0, none⟩) Qs ∧ Qs.map Bx.t = Ts ∧ Qs.length = n := by
  have hts := h.ts
  rw [List.take_of_length_le (by rw [h.len]; omega)] at hts
  refine ⟨⟨h.row.txs0, fun x hx => ?_⟩, hts, h.len⟩
  obtain ⟨i, hi, rfl⟩ := List.mem_iff_getElem.1 hx
  have e : bd Qs i = Qs[i] := by simp [bd, List.getD_eq_getElem?_getD, List.getElem?_eq_getElem hi]
  have hm := hz Qs[i].t (by rw [← hts]; exact List.mem_map.2 ⟨_, hx, rfl⟩)
  rw [← e] at hm ⊢
  exact (h.one i (by rw [← h.len]; exact hi)).ok hm.1 hm.2
theorem OwnBat.lst {w0 w' : World} {Ts : List Tp} {v : Value} (h : OwnBat w0 Ts v w') (hz : ∀ t ∈ Ts, WF t ∧ TIn t) : ∃ g Qs, v = .slice (some ⟨g, 0, none⟩) Ts.length Ts.length ∧ BatAt w' (some ⟨g, 0, none⟩) Qs ∧ Qs.map Bx.t = Ts ∧ Ts.length = Qs.length := by
  obtain ⟨g, Qs, lo, rfl, hd⟩ := h
  obtain ⟨h1, h2, h3⟩ := hd.bat hz
  exact ⟨g, Qs, rfl, h1, h2, h3.symm⟩

set_option maxRecDepth 100000 in
set_option maxHeartbeats 1000000 in
theorem accept_ok (w : World) (lo ao : Option Addr) (n lc m cap : Nat) (Ps : List Pr) (zs : List Nat) (Ts : List Tp) (hl : ProcsAt w lo Ps) (hn : n = Ps.length) (hb : BytesAt w ao zs) (hm : m = zs.length) (hs : m ≤ 140737488355328) (hd : decR zs = .ok Ts) (hc : eachN (soundN Ps) Ts = (0, 0)) :
    Calls Try.prog 53 #[.slice lo n lc, .slice ao m cap] w fun e w' => ∃ v, e = .returned (.tuple #[v, .nilIface]) ∧ OwnBat w Ts v w' ∧ Below w.heap.size w w' := by
  have HZ : Hid (∀ t ∈ Ts, WF t ∧ TIn t) := (decR_back hb.1 hd).2.2
  have H64 : Hid (Ts.length ≤ 64) := (decR_back hb.1 hd).2.1
  have HD : Hid (Calls Try.prog 15 #[.slice ao m cap] w fun e' w' => ∃ v, e' = .returned (.tuple #[v, .int .i64 0, .int .i64 0]) ∧ OwnBat w Ts v w' ∧ Below w.heap.size w w') := by
    have := decode_b w ao m cap zs hm hb hs
    unfold DecPost at this
    rw [hd] at this
    exact this
  have HL : Hid (ProcsAt w lo Ps ∧ n = Ps.length) := ⟨hl, hn⟩
  have HC : Hid (eachN (soundN Ps) Ts = (0, 0)) := hc
  clear hl hn hb hm hd hc hs
  go_enter Try.func53, Try.ntmps53
  go_wp2_with fail
  refine HD.out.mono ?_
  rintro e w1 ⟨v, rfl, ho, hb1⟩
  obtain ⟨g, Qs, e, hB, hT, hLn⟩ := ho.lst HZ.out
  subst e
  have HO : Hid (OwnBat w Ts (.slice (some ⟨g, 0, none⟩) Ts.length Ts.length) w1) := ho
  have HB1 : Hid (Below w.heap.size w w1) := hb1
  have HCk : Hid (Calls Try.prog 71 #[.slice lo n lc, .slice (some ⟨g, 0, none⟩) Ts.length Ts.length] w1 fun e w' => e = .returned (.tuple #[.int .i64 0, .int .i64 0]) ∧ Grew w1 w') := by
    have := check_b w1 lo (some ⟨g, 0, none⟩) n lc Ts.length Ts.length Ps Qs (HL.out.1.kept hb1) HL.out.2 hB hLn (by have := H64.out; omega)
    rw [hT, HC.out] at this
    exact this
  clear ho hb1 hB hT hLn HD
  go_wp2_with fail
  refine HCk.out.mono ?_
  rintro e w2 ⟨rfl, hg2⟩
  have HF : Hid (OwnBat w Ts (.slice (some ⟨g, 0, none⟩) Ts.length Ts.length) w2 ∧ Below w.heap.size w w2) := by
    obtain ⟨g', Qs', lo', e, hd⟩ := HO.out
    refine ⟨⟨g', Qs', lo', e, hd.same (fun G _ hG => hg2.heap hG) hg2.size⟩, HB1.out.trans (hg2.below.mono HB1.out.size)⟩
  clear hg2 HCk
  go_wp2
  go_ret2
  exact ⟨_, rfl, HF.out.1, HF.out.2⟩

def pr0 (s : Nat) : Pr := ⟨⟨#[112, 117, 116]⟩, ⟨1, 0, 1, 0⟩, some ⟨s, 0, none⟩, 2, 2, [(6, 0), (32, 0)]⟩
def t0 : Tp := ⟨0, [10], [], [(0, 1)]⟩
def bx0 (s : Nat) : Bx := ⟨t0, some ⟨s + 2, 0, none⟩, 1, none, 0, some ⟨s + 3, 0, none⟩, 1⟩
def raw0 : List Nat := [1, 0, 1, 20, 0, 1, 0, 0, 128, 0, 0, 0, 0, 0, 0, 1]

theorem chain6 (w : World) (o0 o1 o2 o3 o4 o5 : Obj) :
    ((((((w.alloc o0).alloc o1).alloc o2).alloc o3).alloc o4).alloc o5).heap[w.heap.size]? = some o0 ∧ ((((((w.alloc o0).alloc o1).alloc o2).alloc o3).alloc o4).alloc o5).heap[w.heap.size + 1]? = some o1 ∧ ((((((w.alloc o0).alloc o1).alloc o2).alloc o3).alloc o4).alloc o5).heap[w.heap.size + 1 + 1]? = some o2 ∧
    ((((((w.alloc o0).alloc o1).alloc o2).alloc o3).alloc o4).alloc o5).heap[w.heap.size + 1 + 1 + 1]? = some o3 ∧ ((((((w.alloc o0).alloc o1).alloc o2).alloc o3).alloc o4).alloc o5).heap[w.heap.size + 1 + 1 + 1 + 1]? = some o4 ∧ ((((((w.alloc o0).alloc o1).alloc o2).alloc o3).alloc o4).alloc o5).heap[w.heap.size + 1 + 1 + 1 + 1 + 1]? = some o5 := by
  have a1 : (w.alloc o0).heap.size = w.heap.size + 1 := by simp
  have a2 : ((w.alloc o0).alloc o1).heap.size = w.heap.size + 1 + 1 := by simp
  have a3 : (((w.alloc o0).alloc o1).alloc o2).heap.size = w.heap.size + 1 + 1 + 1 := by simp
  have a4 : ((((w.alloc o0).alloc o1).alloc o2).alloc o3).heap.size = w.heap.size + 1 + 1 + 1 + 1 := by simp
  have a5 : (((((w.alloc o0).alloc o1).alloc o2).alloc o3).alloc o4).heap.size = w.heap.size + 1 + 1 + 1 + 1 + 1 := by simp
  refine ⟨?_, ?_, ?_, ?_, ?_, heap_alloc_new _ _ a5.symm⟩
  · rw [heap_alloc_old _ _ (by omega), heap_alloc_old _ _ (by omega), heap_alloc_old _ _ (by omega), heap_alloc_old _ _ (by omega), heap_alloc_old _ _ (by omega)]; exact heap_alloc_new _ _ rfl
  · rw [heap_alloc_old _ _ (by omega), heap_alloc_old _ _ (by omega), heap_alloc_old _ _ (by omega), heap_alloc_old _ _ (by omega)]; exact heap_alloc_new _ _ a1.symm
  · rw [heap_alloc_old _ _ (by omega), heap_alloc_old _ _ (by omega), heap_alloc_old _ _ (by omega)]; exact heap_alloc_new _ _ a2.symm
  · rw [heap_alloc_old _ _ (by omega), heap_alloc_old _ _ (by omega)]; exact heap_alloc_new _ _ a3.symm
  · rw [heap_alloc_old _ _ (by omega)]; exact heap_alloc_new _ _ a4.symm
theorem cells_at {W : World} {g : Nat} {xs : List Value} {T : TypeId} (h : W.heap[g]? = some (.cells xs.toArray T (0, 0))) (j : Nat) (u : Value) (hu : xs[j]? = some u) : W.cell? ⟨g, 0 + j, none⟩ = some u := by
  rw [Nat.zero_add]
  simp only [World.cell?, h]
  simpa using hu
/-- what plain hands out -/
structure Pl (w w' : World) : Prop where
  lib : ProcsAt w' (some ⟨w.heap.size + 1, 0, none⟩) [pr0 w.heap.size]
  bat : BatAt w' (some ⟨w.heap.size + 1 + 1 + 1 + 1, 0, none⟩) [bx0 w.heap.size]
  raw : BytesAt w' (some ⟨w.heap.size + 1 + 1 + 1 + 1 + 1, 0, none⟩) raw0
  bel : Below w.heap.size w w'

set_option maxRecDepth 100000 in
set_option maxHeartbeats 1000000 in
theorem plain_any (w : World) : Calls Try.prog 52 #[] w fun e w' => e = .returned (.tuple #[.slice (some ⟨w.heap.size + 1, 0, none⟩) 1 1, .slice (some ⟨w.heap.size + 1 + 1 + 1 + 1, 0, none⟩) 1 1, .slice (some ⟨w.heap.size + 1 + 1 + 1 + 1 + 1, 0, none⟩) 16 16]) ∧ Pl w w' := by
  go_enter Try.func52, Try.ntmps52
  go_wp2
  refine bodyPost_ret (v := .tuple #[.slice (some ⟨w.heap.size + 1, 0, none⟩) 1 1, .slice (some ⟨w.heap.size + 1 + 1 + 1 + 1, 0, none⟩) 1 1, .slice (some ⟨w.heap.size + 1 + 1 + 1 + 1 + 1, 0, none⟩) 16 16]) (by simp [results, Try.results52]) rfl ⟨rfl, ?_⟩
  obtain ⟨_, h1, h2, h3, h4, h5⟩ := chain6 w (.cells #[.int .i64 6, .int .i64 0, .int .i64 32, .int .i64 0] 120) (.cells #[.string ⟨#[112, 117, 116]⟩, .int .i64 1, .int .i64 0, .int .i64 1, .int .i64 0, .slice (some ⟨w.heap.size, 0, none⟩) 2 2] 125) (.cells #[.int .i64 10] 2) (.cells #[.int .i64 0, .int .i64 1] 78) (.cells #[.int .i64 0, .slice (some ⟨w.heap.size + 1 + 1, 0, none⟩) 1 1, .slice none 0 0, .slice (some ⟨w.heap.size + 1 + 1 + 1, 0, none⟩) 1 1] 58) (.cells (cellsU8 raw0) 5)
  refine ⟨.inr ⟨w.heap.size + 1, 0, rfl, cells_at (xs := prcs [pr0 w.heap.size]) h1⟩, ⟨.inr ⟨w.heap.size + 1 + 1 + 1 + 1, 0, rfl, cells_at (xs := bxcs [bx0 w.heap.size]) h4⟩, fun x hx => ?_⟩, ⟨by decide, .inr ⟨w.heap.size + 1 + 1 + 1 + 1 + 1, 0, rfl, fun j hj => by rw [Nat.zero_add]; exact row_cell h5 j hj⟩⟩, ?_⟩
  · simp only [List.mem_singleton] at hx
    subst hx
    refine ⟨.inr ⟨w.heap.size + 2, 0, rfl, cells_at (xs := [10].map iv) h2⟩, .inl rfl, .inr ⟨w.heap.size + 3, 0, rfl, cells_at (xs := cks [(0, 1)]) h3⟩, by simp [bx0, t0, In64], by simp [bx0, t0, In64], by simp [bx0, t0], by simp [bx0, t0, KIn, In64], by simp [bx0], by simp [bx0], by simp [bx0], by simp [bx0, t0], by simp [bx0, t0], by simp [bx0, t0], by simp [bx0, t0], by simp [bx0, t0], by simp [bx0, t0]⟩
  · exact ((((((Below.refl _ _).alloc (Nat.le_refl _) _).alloc (by simp) _).alloc (by simp; omega) _).alloc (by simp; omega) _).alloc (by simp; omega) _).alloc (by simp; omega) _
theorem wf_t0 : WF t0 ∧ TIn t0 := ⟨⟨by decide, by decide, by decide, by decide, by decide, rise_nil, ⟨by simp [t0, isKey], by simp [t0]⟩⟩, ⟨by simp [t0, In64], by simp [t0], by simp [t0, KIn, In64]⟩⟩
theorem bat_t0 : batN [t0] = raw0 := by decide
theorem each_t0 (f : Tp → Int) (h : f t0 = 0) : eachN f [t0] = (0, 0) := eachN_zero (by simp) (fun i hi => by
  have : i = 0 := by simp at hi; omega
  subst this; exact h)
theorem sound_t0 (s : Nat) : soundN [pr0 s] t0 = 0 := by
  unfold soundN
  have h1 := wf_t0.1.form
  simp [t0, pr0, pd] at h1 ⊢
  exact h1
end Go.Proofs.Ytciogmenoighoaa.Kk
/-
  works.
-/
namespace Go.Proofs.Ytciogmenoighoaa.Kk
open Go.RowKit Go.Sort

/-- Encode of a batch that is well-formed -/
theorem encode_ok (w : World) (ao : Option Addr) (n cap : Nat) (Bs : List Bx) (h : BatAt w ao Bs) (hn : n = Bs.length) (hm : n ≤ 140737488355328) (he : (eachN formN (Bs.map Bx.t)).2 = 0) :
    Calls Try.prog 9 #[.slice ao n cap] w fun e w' => ∃ g, e = .returned (.tuple #[.slice (some ⟨g, 0, none⟩) (batN (Bs.map Bx.t)).length (batN (Bs.map Bx.t)).length, .int .i64 0]) ∧ RowAt w' g (batN (Bs.map Bx.t)) ∧ w.heap.size ≤ g ∧ Below w.heap.size w w' := by
  refine (encode_b w ao n cap Bs h hn hm).mono ?_
  rintro e w' (⟨h0, _⟩ | ⟨_, g, rfl, h1, h2, _, h3⟩)
  · exact absurd he h0
  · exact ⟨g, rfl, h1, h2, h3⟩
theorem row_bytes {W : World} {g : Nat} {L : List Nat} (h : RowAt W g L) (hz : ∀ z ∈ L, z < 256) : BytesAt W (some ⟨g, 0, none⟩) L :=
  ⟨hz, .inr ⟨g, 0, rfl, fun j hj => by rw [Nat.zero_add]; exact row_cell h j hj⟩⟩

set_option maxRecDepth 100000 in
set_option maxHeartbeats 1000000 in
theorem works_any (w : World) : Calls Try.prog 25 #[] w fun e w' => e = .returned (.bool true) ∧ Below w.heap.size w w' := by
  have heq : ∀ w : World, (binOp .eql 97 .nilIface .nilIface).run Try.prog w = .ok (.bool true) w := fun _ => by kernel_rfl
  go_enter Try.func25, Try.ntmps25
  go_wp2_with fail
  refine (plain_any w).mono ?_
  rintro e w1 ⟨rfl, hp⟩
  have HP : Hid (Pl w w1) := hp
  clear hp
  have HPl : Hid (ProcsAt w1 (some ⟨w.heap.size + 1, 0, none⟩) [pr0 w.heap.size]) := HP.out.lib
  have HPb : Hid (BatAt w1 (some ⟨w.heap.size + 1 + 1 + 1 + 1, 0, none⟩) [bx0 w.heap.size]) := HP.out.bat
  have HPw : Hid (Below w.heap.size w w1) := HP.out.bel
  have HPr : Hid (BytesAt w1 (some ⟨w.heap.size + 1 + 1 + 1 + 1 + 1, 0, none⟩) raw0) := HP.out.raw
  clear HP
  generalize (⟨w.heap.size + 1 + 1 + 1 + 1 + 1, 0, none⟩ : Addr) = ra at *
  generalize w.heap.size + 1 + 1 + 1 + 1 = bb at *
  generalize w.heap.size + 1 = lb at *
  go_wp2_with fail
  refine (encode_ok w1 (some ⟨bb, 0, none⟩) 1 1 [bx0 w.heap.size] HPb.out rfl (by omega) (by rw [show [bx0 w.heap.size].map Bx.t = [t0] from rfl, each_t0 formN wf_t0.1.form])).mono ?_
  rintro e w2 ⟨g, rfl, hrow, _, hb2⟩
  rw [show [bx0 w.heap.size].map Bx.t = [t0] from rfl, bat_t0] at hrow ⊢
  have HD : Hid (BytesAt w2 (some ⟨g, 0, none⟩) raw0) := row_bytes hrow HPr.out.1
  have HB2 : Hid (Below w1.heap.size w1 w2) := hb2
  clear hrow hb2
  have HAc : Hid (Calls Try.prog 53 #[.slice (some ⟨lb, 0, none⟩) 1 1, .slice (some ra) 16 16] w2 fun e w' => ∃ v, e = .returned (.tuple #[v, .nilIface]) ∧ OwnBat w2 [t0] v w' ∧ Below w2.heap.size w2 w') :=
    accept_ok w2 _ _ 1 1 16 16 [pr0 w.heap.size] raw0 [t0] (HPl.out.kept HB2.out) rfl (HPr.out.kept HB2.out) rfl (by omega) (by rw [← bat_t0]; exact decR_there hfk (by simp) (fun t ht => by simp at ht; subst ht; exact wf_t0)) (each_t0 _ (sound_t0 _))
  rw [show raw0.length = 16 from rfl]
  go_wp2_with fail
  refine HAc.out.mono ?_
  rintro e w3 ⟨v, rfl, ho, hb3⟩
  obtain ⟨gc, Qs, e, hB, hT, hLn⟩ := ho.lst (fun t ht => by simp at ht; subst ht; exact wf_t0)
  subst e
  have HQ : Hid (BatAt w3 (some ⟨gc, 0, none⟩) Qs ∧ Qs.map Bx.t = [t0] ∧ 1 = Qs.length) := ⟨hB, hT, hLn⟩
  have HB3 : Hid (Below w2.heap.size w2 w3) := hb3
  clear ho hb3 hB hT hLn HAc
  rw [show ([t0] : List Tp).length = 1 from rfl]
  go_wp2_with fail
  refine (num_b _ _).mono ?_
  rintro e w4 ⟨rfl, hw4⟩
  have hw4' := hw4.symm
  subst hw4'
  clear hw4
  have HSb : Hid (Calls Try.prog 13 #[.slice (some ⟨g, 0, none⟩) 16 16, .slice (some ra) 16 16] w3 fun e w' => e = .returned (.bool true) ∧ ∃ n, w' = w3.drewN n) := by
    have := same_any w3 (some ⟨g, 0, none⟩) (some ra) 16 16 16 16 raw0 raw0 rfl rfl (HD.out.kept HB3.out) ((HPr.out.kept HB2.out).kept HB3.out) (by unfold maxLen; decide)
    rw [decide_eq_true rfl] at this
    exact this
  go_wp2_with fail
  refine HSb.out.mono ?_
  rintro e w5 ⟨rfl, q5, hw5⟩
  have HG5 : Hid (Grew w3 w5) := by rw [hw5]; exact (Grew.refl _).drewN q5
  clear hw5 HSb
  have HB5 : Hid (Below w1.heap.size w1 w5) := (HB2.out.trans (HB3.out.mono HB2.out.size)).trans (HG5.out.below.mono (Nat.le_trans HB2.out.size HB3.out.size))
  have HSm : Hid (Calls Try.prog 17 #[.slice (some ⟨gc, 0, none⟩) 1 1, .slice (some ⟨bb, 0, none⟩) 1 1] w5 fun e w' => e = .returned (.bool true) ∧ Grew w5 w') :=
    sameBatch_eq w5 _ _ 1 1 1 Qs [bx0 w.heap.size] (Like.of (HQ.out.1.kept HG5.out.below) (HPb.out.kept HB5.out) (by rw [HQ.out.2.1]; rfl)) HQ.out.2.2 (by omega)
  go_wp2_with fail
  refine HSm.out.mono ?_
  rintro e w6 ⟨rfl, hg6⟩
  have HF : Hid (Below w.heap.size w w6) := by
    have h1 : Below w.heap.size w w5 := HPw.out.trans (HB5.out.mono HPw.out.size)
    exact h1.trans (hg6.below.mono h1.size)
  clear hg6 HSm
  go_wp2
  go_ret
  exact ⟨rfl, HF.out⟩
end Go.Proofs.Ytciogmenoighoaa.Kk
/-
  BatchBack.
-/
namespace Go.Proofs.Ytciogmenoighoaa.Kk
open Go.RowKit Go.Sort

theorem tin_of {W : World} {ao : Option Addr} {Bs : List Bx} (h : BatAt W ao Bs) : ∀ t ∈ Bs.map Bx.t, TIn t := by
  intro t ht
  obtain ⟨x, hx, rfl⟩ := List.mem_map.1 ht
  exact ⟨(h.ok x hx).ain, (h.ok x hx).rin, (h.ok x hx).win⟩
theorem wf_all {Ts : List Tp} (h : (eachN formN Ts).2 = 0) : Ts.length ≤ 64 ∧ ∀ t ∈ Ts, WF t := by
  obtain ⟨h1, h2⟩ := eachN_ok h
  refine ⟨h1, fun t ht => ?_⟩
  obtain ⟨i, hi, rfl⟩ := List.mem_iff_getElem.1 ht
  have := h2 i hi
  rw [show td Ts i = Ts[i] by simp [td, List.getD_eq_getElem?_getD, List.getElem?_eq_getElem hi]] at this
  exact wf_of this
theorem each_of {Ts : List Tp} (hl : Ts.length ≤ 64) (h : ∀ t ∈ Ts, WF t) : eachN formN Ts = (0, 0) := eachN_zero hl (fun _ hi => (h _ (td_mem hi)).form)
/-- a batch that was lent, or nil: as an argument -/
theorem lent_use (w : World) (ao : Option Addr) (n cap : Nat) (Bs : List Bx) (h : BatAt w ao Bs) (hn : n = Bs.length) (hm : n ≤ 100000) (hx : ∀ x ∈ Bs, x.t.args.length ≤ 100000 ∧ x.t.reads.length ≤ 100000 ∧ x.t.writes.length ≤ 100000) :
    Calls Try.prog 8 #[.slice ao n cap] w fun e w' => ∃ ai ci Is, e = .returned (.slice ai n ci) ∧ BatAt w' ai Is ∧ Is.map Bx.t = Bs.map Bx.t ∧ n = Is.length ∧ Below w.heap.size w w' := by
  refine (lent_b w ao n cap Bs h hn hm hx).mono ?_
  rintro e w' (⟨_, rfl, rfl, rfl⟩ | ⟨_, Qs, lf, rfl, hlt⟩)
  · obtain rfl : n = 0 := hn
    exact ⟨none, 0, [], rfl, ⟨.inl rfl, fun x hx => by cases hx⟩, rfl, rfl, Below.refl _ _⟩
  · have hb := hlt.bat hn (h.kept hlt.bel)
    exact ⟨_, _, Qs.take n, rfl, hb.1, hb.2, by rw [List.length_take, hlt.len]; omega, hlt.bel⟩

set_option maxRecDepth 100000 in
set_option maxHeartbeats 2000000 in
theorem back2 (w : World) (a2 : Option Addr) (n2 c2 : Nat) (zs : List Nat) (hb : BytesAt w a2 zs) (hn : n2 = zs.length) (hs : n2 ≤ 140737488355328) :
    Calls Try.prog 15 #[.slice a2 n2 c2] w fun e w' => (∃ (q : Nat) (x : Int), e = .returned (.tuple #[.slice none 0 0, .int .i64 (q : Int), .int .i64 x]) ∧ x ≠ 0 ∧ q ≤ zs.length ∧ Below w.heap.size w w') ∨
      (∃ g Qs Ts, e = .returned (.tuple #[.slice (some ⟨g, 0, none⟩) Ts.length Ts.length, .int .i64 0, .int .i64 0]) ∧ BatAt w' (some ⟨g, 0, none⟩) Qs ∧ Qs.map Bx.t = Ts ∧ Ts.length = Qs.length ∧ batN Ts = zs ∧ eachN formN Ts = (0, 0) ∧ Ts.length ≤ 64 ∧ decR zs = .ok Ts ∧ Below w.heap.size w w') := by
  refine (decode_b w a2 n2 c2 zs hn hb hs).mono ?_
  intro e w' h
  unfold DecPost at h
  cases hd : decR zs with
  | error y =>
    obtain ⟨q, x⟩ := y
    rw [hd] at h
    obtain ⟨rfl, h2⟩ := h
    have := decR_err hb.1 hd
    exact .inl ⟨q, x, rfl, this.2, this.1, h2⟩
  | ok Ts =>
    rw [hd] at h
    obtain ⟨v, rfl, ho, h2⟩ := h
    obtain ⟨h3, h4, h5⟩ := decR_back hb.1 hd
    obtain ⟨g, Qs, rfl, k1, k2, k3⟩ := ho.lst h5
    exact .inr ⟨g, Qs, Ts, rfl, k1, k2, k3, h3, each_of h4 (fun t ht => (h5 t ht).1), h4, rfl, h2⟩

theorem txN_lt {t : Tp} (h : WF t) : ∀ z ∈ txN t, z < 256 := by
  intro z hz
  simp only [txN, argsN, setN, List.mem_append, List.mem_flatMap] at hz
  rcases hz with ((h1 | (h1 | ⟨x, _, h1⟩)) | (h1 | ⟨k, hk, h1⟩)) | (h1 | ⟨k, hk, h1⟩)
  · exact uint_lt _ _ z h1
  · exact uint_lt _ _ z h1
  · exact uint_lt _ _ z h1
  · exact uint_lt _ _ z h1
  · exact keyBytes_lt (h.rr.1 k hk) z h1
  · exact uint_lt _ _ z h1
  · exact keyBytes_lt (h.rw.1 k hk) z h1
theorem batN_lt {Ts : List Tp} (h : ∀ t ∈ Ts, WF t) : ∀ z ∈ batN Ts, z < 256 := by
  intro z hz
  simp only [batN, List.mem_append, List.mem_flatMap] at hz
  rcases hz with h1 | ⟨t, ht, h1⟩
  · exact uint_lt _ _ z h1
  · exact txN_lt (h t ht) z h1
/-- the second half: what Decode reads, Encode writes -/
def Half (w0 w : World) (a2 : Option Addr) (n2 c2 : Nat) (zs : List Nat) : Prop := BytesAt w a2 zs ∧ n2 = zs.length ∧ (a2 = none → c2 = 0) ∧ Below w0.heap.size w0 w

end Go.Proofs.Ytciogmenoighoaa.Kk
/-
  BatchEnds.
-/
namespace Go.Proofs.Ytciogmenoighoaa.Kk
open Go.RowKit Go.Sort

theorem bytes_take {w : World} {g : Nat} {L : List Nat} (h : BytesAt w (some ⟨g, 0, none⟩) L) (n : Nat) : BytesAt w (some ⟨g, 0, none⟩) (L.take n) := by
  refine ⟨fun z hz => h.1 z (List.mem_of_mem_take hz), ?_⟩
  rcases h.2 with rfl | ⟨b, off, e, hc⟩
  · exact .inl (by simp)
  · refine .inr ⟨b, off, e, fun j hj => ?_⟩
    rw [List.length_take] at hj
    have e2 : (L.take n).getD j 0 = L.getD j 0 := by
      rw [List.getD_eq_getElem?_getD, List.getD_eq_getElem?_getD, List.getElem?_take, if_pos (by omega)]
    rw [e2]
    exact hc j (by omega)

/-- Decode where the reading is known to refuse -/
theorem decode_err {w : World} {ao : Option Addr} {n cap : Nat} {zs : List Nat} (hn : n = zs.length) (h : BytesAt w ao zs) (hm : n ≤ 140737488355328) {q : Nat} {x : Int} (hd : decR zs = .error (q, x)) :
    Calls Try.prog 15 #[.slice ao n cap] w fun e' w' => e' = .returned (.tuple #[.slice none 0 0, .int .i64 (q : Int), .int .i64 x]) ∧ Below w.heap.size w w' := by
  refine (decode_b w ao n cap zs hn h hm).mono ?_
  intro e w' hp
  unfold DecPost at hp
  rw [hd] at hp
  exact hp
theorem decode_or (w : World) (ao : Option Addr) (n cap : Nat) (zs : List Nat) (hn : n = zs.length) (h : BytesAt w ao zs) (hm : n ≤ 140737488355328) :
    Calls Try.prog 15 #[.slice ao n cap] w fun e' w' => ∃ (v : Value) (q : Nat) (x : Int), e' = .returned (.tuple #[v, .int .i64 (q : Int), .int .i64 x]) ∧ (x ≠ 0 → x ≠ 10 → decR zs = .error (q, x)) ∧ Below w.heap.size w w' := by
  refine (decode_b w ao n cap zs hn h hm).mono ?_
  intro e w' hp
  unfold DecPost at hp
  cases hd : decR zs with
  | ok Ts =>
    rw [hd] at hp
    obtain ⟨v, rfl, _, hb⟩ := hp
    exact ⟨v, 0, 0, rfl, fun h => absurd rfl h, hb⟩
  | error y =>
    obtain ⟨q, x⟩ := y
    rw [hd] at hp
    exact ⟨_, q, x, hp.1, fun _ _ => rfl, hp.2⟩

set_option maxRecDepth 100000 in
set_option maxHeartbeats 2000000 in
theorem lawBEnds (w : World) (ao a1 a2 : Option Addr) (m cap n1 c1 n2 c2 : Nat) (cut : Int) (Bs : List Bx) (zs ts : List Nat) (hb : BatAt w ao Bs) (hn' : m = Bs.length) (hm' : m ≤ 140737488351232) (hz : BytesAt w a1 zs) (hn1 : n1 = zs.length) (hnil1 : a1 = none → c1 = 0) (hs1 : n1 ≤ 1048576) (ht : BytesAt w a2 ts) (hn2 : n2 = ts.length) (hnil2 : a2 = none → c2 = 0) (hs2 : n2 ≤ 1048576) :
    Calls Try.prog 6 #[.slice ao m cap, .slice a1 n1 c1, .slice a2 n2 c2, .int .i64 cut] w fun e w' => e = .returned (.bool true) ∧ Below w.heap.size w w' := by
  have HB : Hid (BatAt w ao Bs ∧ m = Bs.length) := ⟨hb, hn'⟩
  have HZ : Hid (∀ W, Below w.heap.size w W → BytesAt W a1 zs) := fun W hW => hz.kept hW
  have HT : Hid (∀ W, Below w.heap.size w W → BytesAt W a2 ts) := fun W hW => ht.kept hW
  have HN : Hid (n1 = zs.length ∧ (a1 = none → c1 = 0) ∧ n2 = ts.length ∧ (a2 = none → c2 = 0)) := ⟨hn1, hnil1, hn2, hnil2⟩
  have HZl : Hid (∀ z ∈ zs, z < 256) := hz.1
  clear hb hn' hz hn1 hnil1 ht hn2 hnil2
  go_enter Try.func6, Try.ntmps6
  go_wp2_with fail
  refine (partsB_any w ao m cap Bs 100000 HB.out.1 HB.out.2 hm' (by omega) (by omega)).mono ?_
  rintro e w1 ⟨⟨r', rfl, hr'⟩, q1, hw1⟩
  have HW1 : Hid (Below w.heap.size w w1) := by rw [hw1]; exact ((Grew.refl w).drewN q1).below
  clear hw1
  by_cases h0 : r' < 0
  · go_wp2
    go_ret
    exact ⟨rfl, HW1.out⟩
  have HX : Hid (m ≤ 100000 ∧ ∀ x ∈ Bs, x.t.args.length ≤ 100000 ∧ x.t.reads.length ≤ 100000 ∧ x.t.writes.length ≤ 100000) := (hr' (by omega)).2
  clear hr'
  go_wp2_with fail
  refine (works_any w1).mono ?_
  rintro e w2 ⟨rfl, hb2⟩
  have HW2 : Hid (Below w.heap.size w w2) := HW1.out.trans (hb2.mono HW1.out.size)
  clear hb2 HW1
  go_wp2_with fail
  refine (lent_use w2 ao m cap Bs (HB.out.1.kept HW2.out) HB.out.2 HX.out.1 HX.out.2).mono ?_
  rintro e w3 ⟨ai, ci, Is, rfl, hI, hT, hL, hb3⟩
  have HI : Hid (BatAt w3 ai Is ∧ Is.map Bx.t = Bs.map Bx.t ∧ m = Is.length) := ⟨hI, hT, hL⟩
  have HW3 : Hid (Below w.heap.size w w3) := HW2.out.trans (hb3.mono HW2.out.size)
  clear hI hT hL hb3 HW2
  have hm3 := HX.out.1
  go_wp2_with fail
  refine (encode_b w3 ai m ci Is HI.out.1 HI.out.2.2 (by omega)).mono ?_
  intro e w4 hP
  rw [HI.out.2.1] at hP
  obtain ⟨E, hE⟩ : ∃ E, E = (eachN formN (Bs.map Bx.t)).2 := ⟨_, rfl⟩
  unfold EncPost at hP
  rw [← hE] at hP
  obtain ⟨v4, E', hE4, HP⟩ : ∃ v4 E', e = .returned (.tuple #[v4, .int .i64 E']) ∧ Hid (Below w3.heap.size w3 w4 ∧ ((E' ≠ 0 ∧ v4 = .slice none 0 0) ∨ (E' = 0 ∧ (eachN formN (Bs.map Bx.t)).2 = 0 ∧ ∃ g nb, v4 = .slice (some ⟨g, 0, none⟩) nb nb ∧ nb = (batN (Bs.map Bx.t)).length ∧ RowAt w4 g (batN (Bs.map Bx.t))))) := by
    rcases hP with ⟨hne, rfl, hb4⟩ | ⟨he0, g, rfl, hrow, _, _, hb4⟩
    · exact ⟨_, _, rfl, hb4, .inl ⟨hne, rfl⟩⟩
    · exact ⟨_, _, rfl, hb4, .inr ⟨rfl, by rw [← hE]; exact he0, g, _, rfl, rfl, hrow⟩⟩
  subst hE4
  clear hP hE
  have HW4 : Hid (Below w.heap.size w w4) := HW3.out.trans (HP.out.1.mono HW3.out.size)
  go_wp2_with fail
  refine (num_b _ _).mono ?_
  rintro e w5 ⟨rfl, hw5⟩
  have hw5' := hw5.symm
  subst hw5'
  clear hw5
  go_upto_if 36 with fail
  go_cut [] (fun wx => Hid (Below w.heap.size w wx))
  case first =>
    rcases HP.out.2 with ⟨hne, hv⟩ | ⟨he0, hf, g, nb, hv, hnb, hrow⟩
    · have hne' : ¬ E' = 0 := hne
      clear hne HP
      subst hv
      go_wp2_with fail
      go_meet
      exact HW4
    · have HWFT : Hid ((Bs.map Bx.t).length ≤ 64 ∧ ∀ t ∈ Bs.map Bx.t, WF t ∧ TIn t) := by
        obtain ⟨h1, h2⟩ := wf_all hf
        exact ⟨h1, fun t ht => ⟨h2 t ht, tin_of HB.out.1 t ht⟩⟩
      have HBz : Hid (∀ z ∈ batN (Bs.map Bx.t), z < 256) := batN_lt (fun t ht => (HWFT.out.2 t ht).1)
      have HRw : Hid (∀ W, Below w4.heap.size w4 W → BytesAt W (some ⟨g, 0, none⟩) (batN (Bs.map Bx.t))) := fun W hW => (row_bytes hrow HBz.out).kept hW
      have hlen : (batN (Bs.map Bx.t)).length ≤ 1048576 := by
        have h1 := txs_length (fun t ht => (HWFT.out.2 t ht).1)
        have h2 := uint_length 10 (Bs.map Bx.t).length
        have h3 := HWFT.out.1
        unfold batN
        rw [List.length_append]; omega
      have HMore : Hid (ts ≠ [] → decR (batN (Bs.map Bx.t) ++ ts) = .error ((batN (Bs.map Bx.t)).length, 11)) := fun h => decR_more hfk HWFT.out.1 HWFT.out.2 h
      have HCut : Hid (∀ n, n < (batN (Bs.map Bx.t)).length → ∃ q, decR ((batN (Bs.map Bx.t)).take n) = .error (q, 10) ∧ q ≤ n) := fun n hn => decR_cut HWFT.out.1 HWFT.out.2 HBz.out hn
      subst he0 hv
      clear hf hrow HP HWFT
      generalize batN (Bs.map Bx.t) = R at *
      have HNb : Hid (nb = R.length) := hnb
      rw [← hnb] at hlen
      clear hnb
      go_upto_if 39 with fail
      go_cut [] (fun wx => Hid (Below w.heap.size w wx ∧ Below w4.heap.size w4 wx))
      case first =>
        by_cases ht0 : 0 < n2
        · have HNe : Hid (ts ≠ []) := fun e => by have := HN.out.2.2.1; rw [e] at this; simp at this; omega
          go_upto_region 8 with fail
          have HBl : Hid (Below w4.heap.size w4 (w4.alloc (.cells (cellsU8 []) 5))) := (Below.refl _ _).alloc (Nat.le_refl _) _
          have HSrc : Hid (BytesAt (w4.alloc (.cells (cellsU8 []) 5)) (some ⟨g, 0, none⟩) R) := HRw.out _ HBl.out
          go_wp2_with (at_builtin; first | (refine wpList_append_bytes rfl _ _ rfl w4.heap.size _ R rfl HO6.out a2 n2 c2 ts rfl HN.out.2.2.1 (HT.out _ (HW4.out.trans (HB6.out.mono HW4.out.size))) HN.out.2.2.2 (by rw [← HNb.out, ← HN.out.2.2.1]; omega) HB6.out.size ?_; intro v7 w7 ho7 hg7; have HO7 : Hid (OwnB w7 w4.heap.size v7 (R ++ ts)) := ho7; have HB7 : Hid (Below w4.heap.size w4 w7) := HB6.out.trans (grown_below hg7 (fun q hq => (HO6.out.2.lt q hq).1) HB6.out.size); clear ho7 hg7) | (refine wpList_append_bytes rfl _ _ rfl w4.heap.size _ [] rfl (OwnB.made (w := w4) (L := []) (by simp) (by simp) (Nat.le_refl _)) (some ⟨g, 0, none⟩) nb nb R rfl HNb.out HSrc.out (fun h => by cases h) (by rw [← HNb.out]; simp only [List.length_nil]; omega) (by simp only [World.size_alloc]; omega) ?_; intro v6 w6 ho6 hg6; rw [List.nil_append] at ho6; have HO6 : Hid (OwnB w6 w4.heap.size v6 R) := ho6; have HB6 : Hid (Below w4.heap.size w4 w6) := HBl.out.trans (grown_below hg6 (fun q hq => by cases hq; exact Nat.le_refl _) (by simp only [World.size_alloc]; omega)); clear ho6 hg6))
          obtain ⟨a7, c7, e7, hby7, _, _⟩ := HO7.out.slice
          subst e7
          have HY7 : Hid (BytesAt w7 a7 (R ++ ts)) := hby7
          clear hby7
          have hl7 : (R ++ ts).length = nb + n2 := by rw [List.length_append, ← HNb.out, ← HN.out.2.2.1]
          refine (decode_err (w := w7) (ao := a7) (cap := c7) rfl HY7.out (by rw [hl7]; omega) (HMore.out HNe.out)).mono ?_
          rintro e w8 ⟨rfl, hb8⟩
          rw [← HNb.out]
          have HB8 : Hid (Below w4.heap.size w4 w8) := HB7.out.trans (hb8.mono HB7.out.size)
          clear hb8 hl7
          go_wp2_with fail
          refine (num_b _ _).mono ?_
          rintro e w9 ⟨rfl, hw9⟩
          have hw9' := hw9.symm
          subst hw9'
          clear hw9
          go_wp2_with fail
          go_meet
          exact ⟨HW4.out.trans (HB8.out.mono HW4.out.size), HB8.out⟩
        · go_wp2_with fail
          go_meet
          exact ⟨HW4.out, Below.refl _ _⟩
      case rest =>
        obtain ⟨hbw, hb4⟩ := hcut.out
        have HC1 : Hid (Below w.heap.size w wc) := hbw
        have HC4 : Hid (Below w4.heap.size w4 wc) := hb4
        clear hcut hbw hb4
        by_cases hc0 : 0 ≤ cut
        · obtain ⟨n, rfl⟩ : ∃ n : Nat, cut = (n : Int) := ⟨cut.toNat, by omega⟩
          by_cases hc1 : n < nb
          · obtain ⟨q, hq, hqn⟩ := HCut.out n (by rw [← HNb.out]; exact hc1)
            have HQ : Hid (decR (R.take n) = .error (q, 10)) := hq
            have hqi : (q : Int) ≤ (n : Int) := by omega
            have hci : (n : Int) < (nb : Int) := by omega
            have HTn : Hid (n = (R.take n).length) := by rw [Hid, List.length_take, ← HNb.out]; omega
            clear hq hqn
            go_upto_region 12 with fail
            have HBl : Hid (Below wc.heap.size wc (wc.alloc (.cells (cellsU8 []) 5))) := (Below.refl _ _).alloc (Nat.le_refl _) _
            have HSrc : Hid (BytesAt (wc.alloc (.cells (cellsU8 []) 5)) (some ⟨g, 0, none⟩) (R.take n)) := bytes_take (HRw.out _ (HC4.out.trans (HBl.out.mono HC4.out.size))) n
            go_wp2_with (at_builtin; (refine wpList_append_bytes rfl _ _ rfl wc.heap.size _ [] rfl (OwnB.made (w := wc) (L := []) (by simp) (by simp) (Nat.le_refl _)) (some ⟨g, 0, none⟩) n nb (R.take n) rfl HTn.out HSrc.out (fun h => by cases h) (by rw [← HTn.out]; simp only [List.length_nil]; omega) (by simp only [World.size_alloc]; omega) ?_; intro v6 w6 ho6 hg6; rw [List.nil_append] at ho6; have HO6 : Hid (OwnB w6 wc.heap.size v6 (R.take n)) := ho6; have HB6 : Hid (Below wc.heap.size wc w6) := HBl.out.trans (grown_below hg6 (fun q hq => by cases hq; exact Nat.le_refl _) (by simp only [World.size_alloc]; omega)); clear ho6 hg6))
            obtain ⟨a6, c6, e6, hby6, _, _⟩ := HO6.out.slice
            subst e6
            have HY6 : Hid (BytesAt w6 a6 (R.take n)) := hby6
            clear hby6
            refine (decode_err (w := w6) (ao := a6) (cap := c6) rfl HY6.out (by rw [← HTn.out]; omega) HQ.out).mono ?_
            rintro e w8 ⟨rfl, hb8⟩
            have HB8 : Hid (Below w.heap.size w w8) := HC1.out.trans ((HB6.out.trans (hb8.mono HB6.out.size)).mono HC1.out.size)
            clear hb8
            go_wp2_with fail
            refine (num_b _ _).mono ?_
            rintro e w9 ⟨rfl, hw9⟩
            have hw9' := hw9.symm
            subst hw9'
            clear hw9
            go_wp2_with fail
            go_meet
            exact HB8
          · have hci : ¬ (n : Int) < (nb : Int) := by omega
            go_wp2_with fail
            go_meet
            exact HC1
        · go_wp2_with fail
          go_meet
          exact HC1
  case rest =>
    have HC : Hid (Below w.heap.size w wc) := hcut
    clear hcut HP HW4 HW3 HI
    go_upto_region 15 with fail
    have HBl : Hid (Below wc.heap.size wc (wc.alloc (.cells (cellsU8 []) 5))) := (Below.refl _ _).alloc (Nat.le_refl _) _
    have HSrc : Hid (BytesAt (wc.alloc (.cells (cellsU8 []) 5)) a1 zs) := HZ.out _ (HC.out.trans (HBl.out.mono HC.out.size))
    go_wp2_with (at_builtin; (refine wpList_append_bytes rfl _ _ rfl wc.heap.size _ [] rfl (OwnB.made (w := wc) (L := []) (by simp) (by simp) (Nat.le_refl _)) a1 n1 c1 zs rfl HN.out.1 HSrc.out HN.out.2.1 (by rw [← HN.out.1]; simp only [List.length_nil]; omega) (by simp only [World.size_alloc]; omega) ?_; intro v6 w6 ho6 hg6; rw [List.nil_append] at ho6; have HO6 : Hid (OwnB w6 wc.heap.size v6 zs) := ho6; have HB6 : Hid (Below wc.heap.size wc w6) := HBl.out.trans (grown_below hg6 (fun q hq => by cases hq; exact Nat.le_refl _) (by simp only [World.size_alloc]; omega)); clear ho6 hg6))
    obtain ⟨a6, c6, e6, hby6, _, _⟩ := HO6.out.slice
    subst e6
    have HY6 : Hid (BytesAt w6 a6 zs) := hby6
    clear hby6 HBl HSrc HO6
    refine (decode_or w6 a6 _ c6 zs rfl HY6.out (by rw [← HN.out.1]; omega)).mono ?_
    rintro e w8 ⟨v8, q, x, rfl, hx8, hb8⟩
    have HX8 : Hid (x ≠ 0 → x ≠ 10 → decR zs = .error (q, x)) := hx8
    have HB8 : Hid (Below w.heap.size w w8) := HC.out.trans ((HB6.out.trans (hb8.mono HB6.out.size)).mono HC.out.size)
    clear hb8 hx8 HC HB6 HY6
    by_cases hx0 : x = 0
    · subst hx0
      go_wp2_with fail
      refine (num_b _ _).mono ?_
      rintro e w9 ⟨rfl, hw9⟩
      have hw9' := hw9.symm
      subst hw9'
      clear hw9
      go_wp2
      go_ret
      exact ⟨rfl, HB8.out⟩
    · by_cases hx1 : x = 10
      · subst hx1
        go_wp2_with fail
        refine (num_b _ _).mono ?_
        rintro e w9 ⟨rfl, hw9⟩
        have hw9' := hw9.symm
        subst hw9'
        clear hw9
        go_wp2_with fail
        refine (num_b _ _).mono ?_
        rintro e w9 ⟨rfl, hw9⟩
        have hw9' := hw9.symm
        subst hw9'
        clear hw9
        go_wp2
        go_ret
        exact ⟨rfl, HB8.out⟩
      · have HDe : Hid (decR (zs ++ ts) = .error (q, x)) := decR_ext HZl.out ts (HX8.out hx0 hx1) hx1
        have hx0b : (x == 0) = false := by simp [hx0]
        have hx1b : (x == 10) = false := by simp [hx1]
        clear HX8
        go_wp2_with fail
        refine (num_b _ _).mono ?_
        rintro e w9 ⟨rfl, hw9⟩
        have hw9' := hw9.symm
        subst hw9'
        clear hw9
        go_wp2_with fail
        refine (num_b _ _).mono ?_
        rintro e w9 ⟨rfl, hw9⟩
        have hw9' := hw9.symm
        subst hw9'
        clear hw9
        go_upto_region 18 with fail
        have HBl : Hid (Below w8.heap.size w8 (w8.alloc (.cells (cellsU8 []) 5))) := (Below.refl _ _).alloc (Nat.le_refl _) _
        have HSrc : Hid (BytesAt (w8.alloc (.cells (cellsU8 []) 5)) a1 zs) := HZ.out _ (HB8.out.trans (HBl.out.mono HB8.out.size))
        go_wp2_with (at_builtin; first | (refine wpList_append_bytes rfl _ _ rfl w8.heap.size _ zs rfl HO6.out a2 n2 c2 ts rfl HN.out.2.2.1 (HT.out _ (HB8.out.trans (HB6.out.mono HB8.out.size))) HN.out.2.2.2 (by rw [← HN.out.1, ← HN.out.2.2.1]; omega) HB6.out.size ?_; intro v7 w7 ho7 hg7; have HO7 : Hid (OwnB w7 w8.heap.size v7 (zs ++ ts)) := ho7; have HB7 : Hid (Below w8.heap.size w8 w7) := HB6.out.trans (grown_below hg7 (fun q hq => (HO6.out.2.lt q hq).1) HB6.out.size); clear ho7 hg7) | (refine wpList_append_bytes rfl _ _ rfl w8.heap.size _ [] rfl (OwnB.made (w := w8) (L := []) (by simp) (by simp) (Nat.le_refl _)) a1 n1 c1 zs rfl HN.out.1 HSrc.out HN.out.2.1 (by rw [← HN.out.1]; simp only [List.length_nil]; omega) (by simp only [World.size_alloc]; omega) ?_; intro v6 w6 ho6 hg6; rw [List.nil_append] at ho6; have HO6 : Hid (OwnB w6 w8.heap.size v6 zs) := ho6; have HB6 : Hid (Below w8.heap.size w8 w6) := HBl.out.trans (grown_below hg6 (fun q hq => by cases hq; exact Nat.le_refl _) (by simp only [World.size_alloc]; omega)); clear ho6 hg6))
        obtain ⟨a7, c7, e7, hby7, _, _⟩ := HO7.out.slice
        subst e7
        have HY7 : Hid (BytesAt w7 a7 (zs ++ ts)) := hby7
        clear hby7
        have hl7 : (zs ++ ts).length = n1 + n2 := by rw [List.length_append, ← HN.out.1, ← HN.out.2.2.1]
        refine (decode_err (w := w7) (ao := a7) (cap := c7) rfl HY7.out (by rw [hl7]; omega) HDe.out).mono ?_
        rintro e w10 ⟨rfl, hb10⟩
        have HB10 : Hid (Below w.heap.size w w10) := HB8.out.trans ((HB7.out.trans (hb10.mono HB7.out.size)).mono HB8.out.size)
        clear hb10 hl7
        go_wp2_with fail
        refine (num_b _ _).mono ?_
        rintro e w9 ⟨rfl, hw9⟩
        have hw9' := hw9.symm
        subst hw9'
        clear hw9
        go_wp2_with fail
        refine (num_b _ _).mono ?_
        rintro e w9 ⟨rfl, hw9⟩
        have hw9' := hw9.symm
        subst hw9'
        clear hw9
        go_wp2
        go_ret
        exact ⟨rfl, HB10.out⟩
end Go.Proofs.Ytciogmenoighoaa.Kk
