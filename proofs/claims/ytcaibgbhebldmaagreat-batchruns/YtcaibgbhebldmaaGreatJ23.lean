import Derived.Test.YtcaibgbhebldmaaGreatJ17
import Derived.Test.YtcaibgbhebldmaaGreatJ20
import Derived.Test.YtcaibgbhebldmaaGreatJ21
import Derived.Test.YtcaibgbhebldmaaGreatJ22
import Derived.Test.YtcaibgbhebldmaaGreatJ12
/-
  Accept WHERE IT TAKES; plain, works.
-/
namespace Go.Proofs.YtcaibgbhebldmaaGreat.Kk
open Go.RowKit Go.Sort

theorem num_b (w : World) (x : Int) : Calls Tryz.prog 8 #[.int .i64 x] w fun e w' => e = .returned (.int .i64 x) ∧ w' = w := by
  go_enter Tryz.func8, Tryz.ntmps8
  go_wp2
  go_ret
  exact ⟨rfl, rfl⟩

theorem DcT.ok {W : World} {lo hi : Nat} {y : Bx} (h : DcT W lo hi y) (hw : WF y.t) (hi' : TIn y.t) : BxOK W y := by
  obtain ⟨ga, gr, gw, e, h1, h2, h3, _⟩ := h
  obtain ⟨t, aA, cA, aR, cR, aW, cW⟩ := y
  simp only [Bx.mk.injEq, true_and] at e h1 h2 h3 hw hi'
  obtain ⟨rfl, rfl, rfl, rfl, rfl, rfl⟩ := e
  have a := hw.a; have r := hw.r; have w := hw.w; have p0 := hw.p0; have p1 := hw.p1
  have k1 : R64 W ga (t.args ++ []) := by rw [List.append_nil]; exact h1
  have k2 : RK W gr (t.reads ++ []) := by rw [List.append_nil]; exact h2
  have k3 : RK W gw (t.writes ++ []) := by rw [List.append_nil]; exact h3
  exact ⟨k1.nums, k2.keys, k3.keys, ⟨by show -9223372036854775808 ≤ t.proc; omega, by show t.proc ≤ 9223372036854775807; omega⟩, hi'.a, hi'.r, hi'.w, by simp, by simp, by simp, Nat.le_refl _, Nat.le_refl _, Nat.le_refl _, by show t.args.length * 8 ≤ _; omega, by show t.reads.length * 16 ≤ _; omega, by show t.writes.length * 16 ≤ _; omega⟩
theorem Dcd.bat {W : World} {base g n : Nat} {Ts : List Tp} {Qs : List Bx} {lo : Nat → Nat} (h : Dcd W base g n n Ts Qs lo) (hz : ∀ t ∈ Ts, WF t ∧ TIn t) : BatAt W (some ⟨g, 0, none⟩) Qs ∧ Qs.map Bx.t = Ts ∧ Qs.length = n := by
  have hts := h.ts
  rw [List.take_of_length_le (by rw [h.len]; omega)] at hts
  refine ⟨⟨h.row.txs0, fun x hx => ?_⟩, hts, h.len⟩
  obtain ⟨i, hi, rfl⟩ := List.mem_iff_getElem.1 hx
  have e : bd Qs i = Qs[i] := by simp [bd, List.getD_eq_getElem?_getD, List.getElem?_eq_getElem hi]
  have hm := hz Qs[i].t (by rw [← hts]; exact List.mem_map.2 ⟨_, hx, rfl⟩)
  rw [← e] at hm ⊢
  exact (h.one i (by rw [← h.len]; exact hi)).ok hm.1 hm.2
theorem OwnBat.lst {w0 w' : World} {Ts : List Tp} {v : Value} (h : OwnBat w0 Ts v w') (hz : ∀ t ∈ Ts, WF t ∧ TIn t) : ∃ g Qs, v = .slice (some ⟨g, 0, none⟩) Ts.length Ts.length ∧ BatAt w' (some ⟨g, 0, none⟩) Qs ∧ Qs.map Bx.t = Ts ∧ Ts.length = Qs.length := by
  obtain ⟨g, Qs, lo, rfl, hd⟩ := h
  obtain ⟨h1, h2, h3⟩ := hd.bat hz
  exact ⟨g, Qs, rfl, h1, h2, h3.symm⟩

set_option maxRecDepth 100000 in
set_option maxHeartbeats 1000000 in
theorem accept_ok (w : World) (lo ao : Option Addr) (n lc m cap : Nat) (Ps : List Pr) (zs : List Nat) (Ts : List Tp) (hl : ProcsAt w lo Ps) (hn : n = Ps.length) (hb : BytesAt w ao zs) (hm : m = zs.length) (hs : m ≤ 140737488355328) (hd : decR zs = .ok Ts) (hc : eachN (soundN Ps) Ts = (0, 0)) :
    Calls Tryz.prog 7 #[.slice lo n lc, .slice ao m cap] w fun e w' => ∃ v, e = .returned (.tuple #[v, .nilIface]) ∧ OwnBat w Ts v w' ∧ Below w.heap.size w w' := by
  have HZ : Hid (∀ t ∈ Ts, WF t ∧ TIn t) := (decR_back hb.1 hd).2.2
  have H64 : Hid (Ts.length ≤ 64) := (decR_back hb.1 hd).2.1
  have HD : Hid (Calls Tryz.prog 22 #[.slice ao m cap] w fun e' w' => ∃ v, e' = .returned (.tuple #[v, .int .i64 0, .int .i64 0]) ∧ OwnBat w Ts v w' ∧ Below w.heap.size w w') := by
    have := decode_b w ao m cap zs hm hb hs
    unfold DecPost at this
    rw [hd] at this
    exact this
  have HL : Hid (ProcsAt w lo Ps ∧ n = Ps.length) := ⟨hl, hn⟩
  have HC : Hid (eachN (soundN Ps) Ts = (0, 0)) := hc
  clear hl hn hb hm hd hc hs
  go_enter Tryz.func7, Tryz.ntmps7
  go_wp2_with fail
  refine HD.out.mono ?_
  rintro e w1 ⟨v, rfl, ho, hb1⟩
  obtain ⟨g, Qs, e, hB, hT, hLn⟩ := ho.lst HZ.out
  subst e
  have HO : Hid (OwnBat w Ts (.slice (some ⟨g, 0, none⟩) Ts.length Ts.length) w1) := ho
  have HB1 : Hid (Below w.heap.size w w1) := hb1
  have HCk : Hid (Calls Tryz.prog 23 #[.slice lo n lc, .slice (some ⟨g, 0, none⟩) Ts.length Ts.length] w1 fun e w' => e = .returned (.tuple #[.int .i64 0, .int .i64 0]) ∧ Grew w1 w') := by
    have := check_b w1 lo (some ⟨g, 0, none⟩) n lc Ts.length Ts.length Ps Qs (HL.out.1.kept hb1) HL.out.2 hB hLn (by have := H64.out; omega)
    rw [hT, HC.out] at this
    exact this
  clear ho hb1 hB hT hLn HD
  go_wp2_with fail
  refine HCk.out.mono ?_
  rintro e w2 ⟨rfl, hg2⟩
  have HF : Hid (OwnBat w Ts (.slice (some ⟨g, 0, none⟩) Ts.length Ts.length) w2 ∧ Below w.heap.size w w2) := by
    obtain ⟨g', Qs', lo', e, hd⟩ := HO.out
    refine ⟨⟨g', Qs', lo', e, hd.same (fun G _ hG => hg2.heap hG) hg2.size⟩, HB1.out.trans (hg2.below.mono HB1.out.size)⟩
  clear hg2 HCk
  go_wp2
  go_ret2
  exact ⟨_, rfl, HF.out.1, HF.out.2⟩

def pr0 (s : Nat) : Pr := ⟨⟨#[112, 117, 116]⟩, ⟨1, 0, 1, 0⟩, some ⟨s, 0, none⟩, 2, 2, [(6, 0), (32, 0)]⟩
def t0 : Tp := ⟨0, [10], [], [(0, 1)]⟩
def bx0 (s : Nat) : Bx := ⟨t0, some ⟨s + 2, 0, none⟩, 1, none, 0, some ⟨s + 3, 0, none⟩, 1⟩
def raw0 : List Nat := [1, 0, 1, 20, 0, 1, 0, 0, 128, 0, 0, 0, 0, 0, 0, 1]

theorem chain6 (w : World) (o0 o1 o2 o3 o4 o5 : Obj) :
    ((((((w.alloc o0).alloc o1).alloc o2).alloc o3).alloc o4).alloc o5).heap[w.heap.size]? = some o0 ∧ ((((((w.alloc o0).alloc o1).alloc o2).alloc o3).alloc o4).alloc o5).heap[w.heap.size + 1]? = some o1 ∧ ((((((w.alloc o0).alloc o1).alloc o2).alloc o3).alloc o4).alloc o5).heap[w.heap.size + 1 + 1]? = some o2 ∧
    ((((((w.alloc o0).alloc o1).alloc o2).alloc o3).alloc o4).alloc o5).heap[w.heap.size + 1 + 1 + 1]? = some o3 ∧ ((((((w.alloc o0).alloc o1).alloc o2).alloc o3).alloc o4).alloc o5).heap[w.heap.size + 1 + 1 + 1 + 1]? = some o4 ∧ ((((((w.alloc o0).alloc o1).alloc o2).alloc o3).alloc o4).alloc o5).heap[w.heap.size + 1 + 1 + 1 + 1 + 1]? = some o5 := by
  have a1 : (w.alloc o0).heap.size = w.heap.size + 1 := by simp
  have a2 : ((w.alloc o0).alloc o1).heap.size = w.heap.size + 1 + 1 := by simp
  have a3 : (((w.alloc o0).alloc o1).alloc o2).heap.size = w.heap.size + 1 + 1 + 1 := by simp
  have a4 : ((((w.alloc o0).alloc o1).alloc o2).alloc o3).heap.size = w.heap.size + 1 + 1 + 1 + 1 := by simp
  have a5 : (((((w.alloc o0).alloc o1).alloc o2).alloc o3).alloc o4).heap.size = w.heap.size + 1 + 1 + 1 + 1 + 1 := by simp
  refine ⟨?_, ?_, ?_, ?_, ?_, heap_alloc_new _ _ a5.symm⟩
  · rw [heap_alloc_old _ _ (by omega), heap_alloc_old _ _ (by omega), heap_alloc_old _ _ (by omega), heap_alloc_old _ _ (by omega), heap_alloc_old _ _ (by omega)]; exact heap_alloc_new _ _ rfl
  · rw [heap_alloc_old _ _ (by omega), heap_alloc_old _ _ (by omega), heap_alloc_old _ _ (by omega), heap_alloc_old _ _ (by omega)]; exact heap_alloc_new _ _ a1.symm
  · rw [heap_alloc_old _ _ (by omega), heap_alloc_old _ _ (by omega), heap_alloc_old _ _ (by omega)]; exact heap_alloc_new _ _ a2.symm
  · rw [heap_alloc_old _ _ (by omega), heap_alloc_old _ _ (by omega)]; exact heap_alloc_new _ _ a3.symm
  · rw [heap_alloc_old _ _ (by omega)]; exact heap_alloc_new _ _ a4.symm
theorem cells_at {W : World} {g : Nat} {xs : List Value} {T : TypeId} (h : W.heap[g]? = some (.cells xs.toArray T (0, 0))) (j : Nat) (u : Value) (hu : xs[j]? = some u) : W.cell? ⟨g, 0 + j, none⟩ = some u := by
  rw [Nat.zero_add]
  simp only [World.cell?, h]
  simpa using hu
/-- what plain hands out -/
structure Pl (w w' : World) : Prop where
  lib : ProcsAt w' (some ⟨w.heap.size + 1, 0, none⟩) [pr0 w.heap.size]
  bat : BatAt w' (some ⟨w.heap.size + 1 + 1 + 1 + 1, 0, none⟩) [bx0 w.heap.size]
  raw : BytesAt w' (some ⟨w.heap.size + 1 + 1 + 1 + 1 + 1, 0, none⟩) raw0
  bel : Below w.heap.size w w'

set_option maxRecDepth 100000 in
set_option maxHeartbeats 1000000 in
theorem plain_any (w : World) : Calls Tryz.prog 17 #[] w fun e w' => e = .returned (.tuple #[.slice (some ⟨w.heap.size + 1, 0, none⟩) 1 1, .slice (some ⟨w.heap.size + 1 + 1 + 1 + 1, 0, none⟩) 1 1, .slice (some ⟨w.heap.size + 1 + 1 + 1 + 1 + 1, 0, none⟩) 16 16]) ∧ Pl w w' := by
  go_enter Tryz.func17, Tryz.ntmps17
  go_wp2
  refine bodyPost_ret (v := .tuple #[.slice (some ⟨w.heap.size + 1, 0, none⟩) 1 1, .slice (some ⟨w.heap.size + 1 + 1 + 1 + 1, 0, none⟩) 1 1, .slice (some ⟨w.heap.size + 1 + 1 + 1 + 1 + 1, 0, none⟩) 16 16]) (by simp [results, Tryz.results17]) rfl ⟨rfl, ?_⟩
  obtain ⟨_, h1, h2, h3, h4, h5⟩ := chain6 w (.cells #[.int .i64 6, .int .i64 0, .int .i64 32, .int .i64 0] 102) (.cells #[.string ⟨#[112, 117, 116]⟩, .int .i64 1, .int .i64 0, .int .i64 1, .int .i64 0, .slice (some ⟨w.heap.size, 0, none⟩) 2 2] 52) (.cells #[.int .i64 10] 2) (.cells #[.int .i64 0, .int .i64 1] 89) (.cells #[.int .i64 0, .slice (some ⟨w.heap.size + 1 + 1, 0, none⟩) 1 1, .slice none 0 0, .slice (some ⟨w.heap.size + 1 + 1 + 1, 0, none⟩) 1 1] 46) (.cells (cellsU8 raw0) 5)
  refine ⟨.inr ⟨w.heap.size + 1, 0, rfl, cells_at (xs := prcs [pr0 w.heap.size]) h1⟩, ⟨.inr ⟨w.heap.size + 1 + 1 + 1 + 1, 0, rfl, cells_at (xs := bxcs [bx0 w.heap.size]) h4⟩, fun x hx => ?_⟩, ⟨by decide, .inr ⟨w.heap.size + 1 + 1 + 1 + 1 + 1, 0, rfl, fun j hj => by rw [Nat.zero_add]; exact row_cell h5 j hj⟩⟩, ?_⟩
  · simp only [List.mem_singleton] at hx
    subst hx
    refine ⟨.inr ⟨w.heap.size + 2, 0, rfl, cells_at (xs := [10].map iv) h2⟩, .inl rfl, .inr ⟨w.heap.size + 3, 0, rfl, cells_at (xs := cks [(0, 1)]) h3⟩, by simp [bx0, t0, In64], by simp [bx0, t0, In64], by simp [bx0, t0], by simp [bx0, t0, KIn, In64], by simp [bx0], by simp [bx0], by simp [bx0], by simp [bx0, t0], by simp [bx0, t0], by simp [bx0, t0], by simp [bx0, t0], by simp [bx0, t0], by simp [bx0, t0]⟩
  · exact ((((((Below.refl _ _).alloc (Nat.le_refl _) _).alloc (by simp) _).alloc (by simp; omega) _).alloc (by simp; omega) _).alloc (by simp; omega) _).alloc (by simp; omega) _
theorem wf_t0 : WF t0 ∧ TIn t0 := ⟨⟨by decide, by decide, by decide, by decide, by decide, rise_nil, ⟨by simp [t0, isKey], by simp [t0]⟩⟩, ⟨by simp [t0, In64], by simp [t0], by simp [t0, KIn, In64]⟩⟩
theorem bat_t0 : batN [t0] = raw0 := by decide
theorem each_t0 (f : Tp → Int) (h : f t0 = 0) : eachN f [t0] = (0, 0) := eachN_zero (by simp) (fun i hi => by
  have : i = 0 := by simp at hi; omega
  subst this; exact h)
theorem sound_t0 (s : Nat) : soundN [pr0 s] t0 = 0 := by
  unfold soundN
  have h1 := wf_t0.1.form
  simp [t0, pr0, pd] at h1 ⊢
  exact h1
end Go.Proofs.YtcaibgbhebldmaaGreat.Kk
/-
  works.
-/
namespace Go.Proofs.YtcaibgbhebldmaaGreat.Kk
open Go.RowKit Go.Sort

/-- Encode of a batch that is well-formed -/
theorem encode_ok (w : World) (ao : Option Addr) (n cap : Nat) (Bs : List Bx) (h : BatAt w ao Bs) (hn : n = Bs.length) (hm : n ≤ 140737488355328) (he : (eachN formN (Bs.map Bx.t)).2 = 0) :
    Calls Tryz.prog 9 #[.slice ao n cap] w fun e w' => ∃ g, e = .returned (.tuple #[.slice (some ⟨g, 0, none⟩) (batN (Bs.map Bx.t)).length (batN (Bs.map Bx.t)).length, .int .i64 0]) ∧ RowAt w' g (batN (Bs.map Bx.t)) ∧ w.heap.size ≤ g ∧ Below w.heap.size w w' := by
  refine (encode_b w ao n cap Bs h hn hm).mono ?_
  rintro e w' (⟨h0, _⟩ | ⟨_, g, rfl, h1, h2, _, h3⟩)
  · exact absurd he h0
  · exact ⟨g, rfl, h1, h2, h3⟩
theorem row_bytes {W : World} {g : Nat} {L : List Nat} (h : RowAt W g L) (hz : ∀ z ∈ L, z < 256) : BytesAt W (some ⟨g, 0, none⟩) L :=
  ⟨hz, .inr ⟨g, 0, rfl, fun j hj => by rw [Nat.zero_add]; exact row_cell h j hj⟩⟩

set_option maxRecDepth 100000 in
set_option maxHeartbeats 1000000 in
theorem works_any (w : World) : Calls Tryz.prog 5 #[] w fun e w' => e = .returned (.bool true) ∧ Below w.heap.size w w' := by
  have heq : ∀ w : World, (binOp .eql 33 .nilIface .nilIface).run Tryz.prog w = .ok (.bool true) w := fun _ => by kernel_rfl
  go_enter Tryz.func5, Tryz.ntmps5
  go_wp2_with fail
  refine (plain_any w).mono ?_
  rintro e w1 ⟨rfl, hp⟩
  have HP : Hid (Pl w w1) := hp
  clear hp
  have HPl : Hid (ProcsAt w1 (some ⟨w.heap.size + 1, 0, none⟩) [pr0 w.heap.size]) := HP.out.lib
  have HPb : Hid (BatAt w1 (some ⟨w.heap.size + 1 + 1 + 1 + 1, 0, none⟩) [bx0 w.heap.size]) := HP.out.bat
  have HPw : Hid (Below w.heap.size w w1) := HP.out.bel
  have HPr : Hid (BytesAt w1 (some ⟨w.heap.size + 1 + 1 + 1 + 1 + 1, 0, none⟩) raw0) := HP.out.raw
  clear HP
  generalize (⟨w.heap.size + 1 + 1 + 1 + 1 + 1, 0, none⟩ : Addr) = ra at *
  generalize w.heap.size + 1 + 1 + 1 + 1 = bb at *
  generalize w.heap.size + 1 = lb at *
  go_wp2_with fail
  refine (encode_ok w1 (some ⟨bb, 0, none⟩) 1 1 [bx0 w.heap.size] HPb.out rfl (by omega) (by rw [show [bx0 w.heap.size].map Bx.t = [t0] from rfl, each_t0 formN wf_t0.1.form])).mono ?_
  rintro e w2 ⟨g, rfl, hrow, _, hb2⟩
  rw [show [bx0 w.heap.size].map Bx.t = [t0] from rfl, bat_t0] at hrow ⊢
  have HD : Hid (BytesAt w2 (some ⟨g, 0, none⟩) raw0) := row_bytes hrow HPr.out.1
  have HB2 : Hid (Below w1.heap.size w1 w2) := hb2
  clear hrow hb2
  have HAc : Hid (Calls Tryz.prog 7 #[.slice (some ⟨lb, 0, none⟩) 1 1, .slice (some ra) 16 16] w2 fun e w' => ∃ v, e = .returned (.tuple #[v, .nilIface]) ∧ OwnBat w2 [t0] v w' ∧ Below w2.heap.size w2 w') :=
    accept_ok w2 _ _ 1 1 16 16 [pr0 w.heap.size] raw0 [t0] (HPl.out.kept HB2.out) rfl (HPr.out.kept HB2.out) rfl (by omega) (by rw [← bat_t0]; exact decR_there hfk (by simp) (fun t ht => by simp at ht; subst ht; exact wf_t0)) (each_t0 _ (sound_t0 _))
  rw [show raw0.length = 16 from rfl]
  go_wp2_with fail
  refine HAc.out.mono ?_
  rintro e w3 ⟨v, rfl, ho, hb3⟩
  obtain ⟨gc, Qs, e, hB, hT, hLn⟩ := ho.lst (fun t ht => by simp at ht; subst ht; exact wf_t0)
  subst e
  have HQ : Hid (BatAt w3 (some ⟨gc, 0, none⟩) Qs ∧ Qs.map Bx.t = [t0] ∧ 1 = Qs.length) := ⟨hB, hT, hLn⟩
  have HB3 : Hid (Below w2.heap.size w2 w3) := hb3
  clear ho hb3 hB hT hLn HAc
  rw [show ([t0] : List Tp).length = 1 from rfl]
  go_wp2_with fail
  refine (num_b _ _).mono ?_
  rintro e w4 ⟨rfl, hw4⟩
  have hw4' := hw4.symm
  subst hw4'
  clear hw4
  have HSb : Hid (Calls Tryz.prog 11 #[.slice (some ⟨g, 0, none⟩) 16 16, .slice (some ra) 16 16] w3 fun e w' => e = .returned (.bool true) ∧ ∃ n, w' = w3.drewN n) := by
    have := same_any w3 (some ⟨g, 0, none⟩) (some ra) 16 16 16 16 raw0 raw0 rfl rfl (HD.out.kept HB3.out) ((HPr.out.kept HB2.out).kept HB3.out) (by unfold maxLen; decide)
    rw [decide_eq_true rfl] at this
    exact this
  go_wp2_with fail
  refine HSb.out.mono ?_
  rintro e w5 ⟨rfl, q5, hw5⟩
  have HG5 : Hid (Grew w3 w5) := by rw [hw5]; exact (Grew.refl _).drewN q5
  clear hw5 HSb
  have HB5 : Hid (Below w1.heap.size w1 w5) := (HB2.out.trans (HB3.out.mono HB2.out.size)).trans (HG5.out.below.mono (Nat.le_trans HB2.out.size HB3.out.size))
  have HSm : Hid (Calls Tryz.prog 18 #[.slice (some ⟨gc, 0, none⟩) 1 1, .slice (some ⟨bb, 0, none⟩) 1 1] w5 fun e w' => e = .returned (.bool true) ∧ Grew w5 w') :=
    sameBatch_eq w5 _ _ 1 1 1 Qs [bx0 w.heap.size] (Like.of (HQ.out.1.kept HG5.out.below) (HPb.out.kept HB5.out) (by rw [HQ.out.2.1]; rfl)) HQ.out.2.2 (by omega)
  go_wp2_with fail
  refine HSm.out.mono ?_
  rintro e w6 ⟨rfl, hg6⟩
  have HF : Hid (Below w.heap.size w w6) := by
    have h1 : Below w.heap.size w w5 := HPw.out.trans (HB5.out.mono HPw.out.size)
    exact h1.trans (hg6.below.mono h1.size)
  clear hg6 HSm
  go_wp2
  go_ret
  exact ⟨rfl, HF.out⟩
end Go.Proofs.YtcaibgbhebldmaaGreat.Kk
/-
  BatchBack.
-/
namespace Go.Proofs.YtcaibgbhebldmaaGreat.Kk
open Go.RowKit Go.Sort

theorem tin_of {W : World} {ao : Option Addr} {Bs : List Bx} (h : BatAt W ao Bs) : ∀ t ∈ Bs.map Bx.t, TIn t := by
  intro t ht
  obtain ⟨x, hx, rfl⟩ := List.mem_map.1 ht
  exact ⟨(h.ok x hx).ain, (h.ok x hx).rin, (h.ok x hx).win⟩
theorem wf_all {Ts : List Tp} (h : (eachN formN Ts).2 = 0) : Ts.length ≤ 64 ∧ ∀ t ∈ Ts, WF t := by
  obtain ⟨h1, h2⟩ := eachN_ok h
  refine ⟨h1, fun t ht => ?_⟩
  obtain ⟨i, hi, rfl⟩ := List.mem_iff_getElem.1 ht
  have := h2 i hi
  rw [show td Ts i = Ts[i] by simp [td, List.getD_eq_getElem?_getD, List.getElem?_eq_getElem hi]] at this
  exact wf_of this
theorem each_of {Ts : List Tp} (hl : Ts.length ≤ 64) (h : ∀ t ∈ Ts, WF t) : eachN formN Ts = (0, 0) := eachN_zero hl (fun _ hi => (h _ (td_mem hi)).form)
/-- a batch that was lent, or nil: as an argument -/
theorem lent_use (w : World) (ao : Option Addr) (n cap : Nat) (Bs : List Bx) (h : BatAt w ao Bs) (hn : n = Bs.length) (hm : n ≤ 100000) (hx : ∀ x ∈ Bs, x.t.args.length ≤ 100000 ∧ x.t.reads.length ≤ 100000 ∧ x.t.writes.length ≤ 100000) :
    Calls Tryz.prog 10 #[.slice ao n cap] w fun e w' => ∃ ai ci Is, e = .returned (.slice ai n ci) ∧ BatAt w' ai Is ∧ Is.map Bx.t = Bs.map Bx.t ∧ n = Is.length ∧ Below w.heap.size w w' := by
  refine (lent_b w ao n cap Bs h hn hm hx).mono ?_
  rintro e w' (⟨_, rfl, rfl, rfl⟩ | ⟨_, Qs, lf, rfl, hlt⟩)
  · obtain rfl : n = 0 := hn
    exact ⟨none, 0, [], rfl, ⟨.inl rfl, fun x hx => by cases hx⟩, rfl, rfl, Below.refl _ _⟩
  · have hb := hlt.bat hn (h.kept hlt.bel)
    exact ⟨_, _, Qs.take n, rfl, hb.1, hb.2, by rw [List.length_take, hlt.len]; omega, hlt.bel⟩

set_option maxRecDepth 100000 in
set_option maxHeartbeats 2000000 in
theorem back2 (w : World) (a2 : Option Addr) (n2 c2 : Nat) (zs : List Nat) (hb : BytesAt w a2 zs) (hn : n2 = zs.length) (hs : n2 ≤ 140737488355328) :
    Calls Tryz.prog 22 #[.slice a2 n2 c2] w fun e w' => (∃ (q : Nat) (x : Int), e = .returned (.tuple #[.slice none 0 0, .int .i64 (q : Int), .int .i64 x]) ∧ x ≠ 0 ∧ q ≤ zs.length ∧ Below w.heap.size w w') ∨
      (∃ g Qs Ts, e = .returned (.tuple #[.slice (some ⟨g, 0, none⟩) Ts.length Ts.length, .int .i64 0, .int .i64 0]) ∧ BatAt w' (some ⟨g, 0, none⟩) Qs ∧ Qs.map Bx.t = Ts ∧ Ts.length = Qs.length ∧ batN Ts = zs ∧ eachN formN Ts = (0, 0) ∧ Ts.length ≤ 64 ∧ decR zs = .ok Ts ∧ Below w.heap.size w w') := by
  refine (decode_b w a2 n2 c2 zs hn hb hs).mono ?_
  intro e w' h
  unfold DecPost at h
  cases hd : decR zs with
  | error y =>
    obtain ⟨q, x⟩ := y
    rw [hd] at h
    obtain ⟨rfl, h2⟩ := h
    have := decR_err hb.1 hd
    exact .inl ⟨q, x, rfl, this.2, this.1, h2⟩
  | ok Ts =>
    rw [hd] at h
    obtain ⟨v, rfl, ho, h2⟩ := h
    obtain ⟨h3, h4, h5⟩ := decR_back hb.1 hd
    obtain ⟨g, Qs, rfl, k1, k2, k3⟩ := ho.lst h5
    exact .inr ⟨g, Qs, Ts, rfl, k1, k2, k3, h3, each_of h4 (fun t ht => (h5 t ht).1), h4, rfl, h2⟩

theorem txN_lt {t : Tp} (h : WF t) : ∀ z ∈ txN t, z < 256 := by
  intro z hz
  simp only [txN, argsN, setN, List.mem_append, List.mem_flatMap] at hz
  rcases hz with ((h1 | (h1 | ⟨x, _, h1⟩)) | (h1 | ⟨k, hk, h1⟩)) | (h1 | ⟨k, hk, h1⟩)
  · exact uint_lt _ _ z h1
  · exact uint_lt _ _ z h1
  · exact uint_lt _ _ z h1
  · exact uint_lt _ _ z h1
  · exact keyBytes_lt (h.rr.1 k hk) z h1
  · exact uint_lt _ _ z h1
  · exact keyBytes_lt (h.rw.1 k hk) z h1
theorem batN_lt {Ts : List Tp} (h : ∀ t ∈ Ts, WF t) : ∀ z ∈ batN Ts, z < 256 := by
  intro z hz
  simp only [batN, List.mem_append, List.mem_flatMap] at hz
  rcases hz with h1 | ⟨t, ht, h1⟩
  · exact uint_lt _ _ z h1
  · exact txN_lt (h t ht) z h1
/-- the second half: what Decode reads, Encode writes -/
def Half (w0 w : World) (a2 : Option Addr) (n2 c2 : Nat) (zs : List Nat) : Prop := BytesAt w a2 zs ∧ n2 = zs.length ∧ (a2 = none → c2 = 0) ∧ Below w0.heap.size w0 w

end Go.Proofs.YtcaibgbhebldmaaGreat.Kk
