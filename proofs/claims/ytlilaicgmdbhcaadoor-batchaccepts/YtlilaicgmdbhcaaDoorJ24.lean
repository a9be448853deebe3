import Derived.Test.YtlilaicgmdbhcaaDoorJ18
import Derived.Test.YtlilaicgmdbhcaaDoorJ21
import Derived.Test.YtlilaicgmdbhcaaDoorJ22
import Derived.Test.YtlilaicgmdbhcaaDoorJ23
import Derived.Test.YtlilaicgmdbhcaaDoorJ13
import Derived.Test.YtlilaicgmdbhcaaDoorJ01
import Derived.Test.YtlilaicgmdbhcaaDoorJ09
/-
  Accept WHERE IT TAKES; plain, works.
-/
namespace Go.Proofs.YtlilaicgmdbhcaaDoor.Kk
open Go.RowKit Go.Sort

theorem DcT.ok {W : World} {lo hi : Nat} {y : Bx} (h : DcT W lo hi y) (hw : WF y.t) (hi' : TIn y.t) : BxOK W y := by
  obtain ⟨ga, gr, gw, e, h1, h2, h3, _⟩ := h
  obtain ⟨t, aA, cA, aR, cR, aW, cW⟩ := y
  simp only [Bx.mk.injEq, true_and] at e h1 h2 h3 hw hi'
  obtain ⟨rfl, rfl, rfl, rfl, rfl, rfl⟩ := e
  have a := hw.a; have r := hw.r; have w := hw.w; have p0 := hw.p0; have p1 := hw.p1
  have k1 : R64 W ga (t.args ++ []) := by rw [List.append_nil]; exact h1
  have k2 : RK W gr (t.reads ++ []) := by rw [List.append_nil]; exact h2
  have k3 : RK W gw (t.writes ++ []) := by rw [List.append_nil]; exact h3
  exact ⟨k1.nums, k2.keys, k3.keys, ⟨by show -9223372036854775808 ≤ t.proc; omega, by show t.proc ≤ 9223372036854775807; omega⟩, hi'.a, hi'.r, hi'.w, by simp, by simp, by simp, Nat.le_refl _, Nat.le_refl _, Nat.le_refl _, by show t.args.length * 8 ≤ _; omega, by show t.reads.length * 16 ≤ _; omega, by show t.writes.length * 16 ≤ _; omega⟩
theorem Dcd.bat {W : World} {base g n : Nat} {Ts : List Tp} {Qs : List Bx} {lo : Nat → Nat} (h : Dcd W base g n n Ts Qs lo) (hz : ∀ t ∈ Ts, WF t ∧ TIn t) : BatAt W (some ⟨g, 0, none⟩) Qs ∧ Qs.map Bx.t = Ts ∧ Qs.length = n := by
  have hts := h.ts
  rw [List.take_of_length_le (by rw [h.len]; omega)] at hts
  refine ⟨⟨h.row.txs0, fun x hx => ?_⟩, hts, h.len⟩
  obtain ⟨i, hi, rfl⟩ := List.mem_iff_getElem.1 hx
  have e : bd Qs i = Qs[i] := by simp [bd, List.getD_eq_getElem?_getD, List.getElem?_eq_getElem hi]
  have hm := hz Qs[i].t (by rw [← hts]; exact List.mem_map.2 ⟨_, hx, rfl⟩)
  rw [← e] at hm ⊢
  exact (h.one i (by rw [← h.len]; exact hi)).ok hm.1 hm.2
theorem OwnBat.lst {w0 w' : World} {Ts : List Tp} {v : Value} (h : OwnBat w0 Ts v w') (hz : ∀ t ∈ Ts, WF t ∧ TIn t) : ∃ g Qs, v = .slice (some ⟨g, 0, none⟩) Ts.length Ts.length ∧ BatAt w' (some ⟨g, 0, none⟩) Qs ∧ Qs.map Bx.t = Ts ∧ Ts.length = Qs.length := by
  obtain ⟨g, Qs, lo, rfl, hd⟩ := h
  obtain ⟨h1, h2, h3⟩ := hd.bat hz
  exact ⟨g, Qs, rfl, h1, h2, h3.symm⟩

set_option maxRecDepth 100000 in
set_option maxHeartbeats 1000000 in
theorem accept_ok (w : World) (lo ao : Option Addr) (n lc m cap : Nat) (Ps : List Pr) (zs : List Nat) (Ts : List Tp) (hl : ProcsAt w lo Ps) (hn : n = Ps.length) (hb : BytesAt w ao zs) (hm : m = zs.length) (hs : m ≤ 140737488355328) (hd : decR zs = .ok Ts) (hc : eachN (soundN Ps) Ts = (0, 0)) :
    Calls Tryd.prog 5 #[.slice lo n lc, .slice ao m cap] w fun e w' => ∃ v, e = .returned (.tuple #[v, .nilIface]) ∧ OwnBat w Ts v w' ∧ Below w.heap.size w w' := by
  have HZ : Hid (∀ t ∈ Ts, WF t ∧ TIn t) := (decR_back hb.1 hd).2.2
  have H64 : Hid (Ts.length ≤ 64) := (decR_back hb.1 hd).2.1
  have HD : Hid (Calls Tryd.prog 10 #[.slice ao m cap] w fun e' w' => ∃ v, e' = .returned (.tuple #[v, .int .i64 0, .int .i64 0]) ∧ OwnBat w Ts v w' ∧ Below w.heap.size w w') := by
    have := decode_b w ao m cap zs hm hb hs
    unfold DecPost at this
    rw [hd] at this
    exact this
  have HL : Hid (ProcsAt w lo Ps ∧ n = Ps.length) := ⟨hl, hn⟩
  have HC : Hid (eachN (soundN Ps) Ts = (0, 0)) := hc
  clear hl hn hb hm hd hc hs
  go_enter Tryd.func5, Tryd.ntmps5
  go_wp2_with fail
  refine HD.out.mono ?_
  rintro e w1 ⟨v, rfl, ho, hb1⟩
  obtain ⟨g, Qs, e, hB, hT, hLn⟩ := ho.lst HZ.out
  subst e
  have HO : Hid (OwnBat w Ts (.slice (some ⟨g, 0, none⟩) Ts.length Ts.length) w1) := ho
  have HB1 : Hid (Below w.heap.size w w1) := hb1
  have HCk : Hid (Calls Tryd.prog 11 #[.slice lo n lc, .slice (some ⟨g, 0, none⟩) Ts.length Ts.length] w1 fun e w' => e = .returned (.tuple #[.int .i64 0, .int .i64 0]) ∧ Grew w1 w') := by
    have := check_b w1 lo (some ⟨g, 0, none⟩) n lc Ts.length Ts.length Ps Qs (HL.out.1.kept hb1) HL.out.2 hB hLn (by have := H64.out; omega)
    rw [hT, HC.out] at this
    exact this
  clear ho hb1 hB hT hLn HD
  go_wp2_with fail
  refine HCk.out.mono ?_
  rintro e w2 ⟨rfl, hg2⟩
  have HF : Hid (OwnBat w Ts (.slice (some ⟨g, 0, none⟩) Ts.length Ts.length) w2 ∧ Below w.heap.size w w2) := by
    obtain ⟨g', Qs', lo', e, hd⟩ := HO.out
    refine ⟨⟨g', Qs', lo', e, hd.same (fun G _ hG => hg2.heap hG) hg2.size⟩, HB1.out.trans (hg2.below.mono HB1.out.size)⟩
  clear hg2 HCk
  go_wp2
  go_ret2
  exact ⟨_, rfl, HF.out.1, HF.out.2⟩

def pr0 (s : Nat) : Pr := ⟨⟨#[112, 117, 116]⟩, ⟨1, 0, 1, 0⟩, some ⟨s, 0, none⟩, 2, 2, [(6, 0), (32, 0)]⟩
def t0 : Tp := ⟨0, [10], [], [(0, 1)]⟩
def bx0 (s : Nat) : Bx := ⟨t0, some ⟨s + 2, 0, none⟩, 1, none, 0, some ⟨s + 3, 0, none⟩, 1⟩
def raw0 : List Nat := [1, 0, 1, 20, 0, 1, 0, 0, 128, 0, 0, 0, 0, 0, 0, 1]

theorem chain6 (w : World) (o0 o1 o2 o3 o4 o5 : Obj) :
    ((((((w.alloc o0).alloc o1).alloc o2).alloc o3).alloc o4).alloc o5).heap[w.heap.size]? = some o0 ∧ ((((((w.alloc o0).alloc o1).alloc o2).alloc o3).alloc o4).alloc o5).heap[w.heap.size + 1]? = some o1 ∧ ((((((w.alloc o0).alloc o1).alloc o2).alloc o3).alloc o4).alloc o5).heap[w.heap.size + 1 + 1]? = some o2 ∧
    ((((((w.alloc o0).alloc o1).alloc o2).alloc o3).alloc o4).alloc o5).heap[w.heap.size + 1 + 1 + 1]? = some o3 ∧ ((((((w.alloc o0).alloc o1).alloc o2).alloc o3).alloc o4).alloc o5).heap[w.heap.size + 1 + 1 + 1 + 1]? = some o4 ∧ ((((((w.alloc o0).alloc o1).alloc o2).alloc o3).alloc o4).alloc o5).heap[w.heap.size + 1 + 1 + 1 + 1 + 1]? = some o5 := by
  have a1 : (w.alloc o0).heap.size = w.heap.size + 1 := by simp
  have a2 : ((w.alloc o0).alloc o1).heap.size = w.heap.size + 1 + 1 := by simp
  have a3 : (((w.alloc o0).alloc o1).alloc o2).heap.size = w.heap.size + 1 + 1 + 1 := by simp
  have a4 : ((((w.alloc o0).alloc o1).alloc o2).alloc o3).heap.size = w.heap.size + 1 + 1 + 1 + 1 := by simp
  have a5 : (((((w.alloc o0).alloc o1).alloc o2).alloc o3).alloc o4).heap.size = w.heap.size + 1 + 1 + 1 + 1 + 1 := by simp
  refine ⟨?_, ?_, ?_, ?_, ?_, heap_alloc_new _ _ a5.symm⟩
  · rw [heap_alloc_old _ _ (by omega), heap_alloc_old _ _ (by omega), heap_alloc_old _ _ (by omega), heap_alloc_old _ _ (by omega), heap_alloc_old _ _ (by omega)]; exact heap_alloc_new _ _ rfl
  · rw [heap_alloc_old _ _ (by omega), heap_alloc_old _ _ (by omega), heap_alloc_old _ _ (by omega), heap_alloc_old _ _ (by omega)]; exact heap_alloc_new _ _ a1.symm
  · rw [heap_alloc_old _ _ (by omega), heap_alloc_old _ _ (by omega), heap_alloc_old _ _ (by omega)]; exact heap_alloc_new _ _ a2.symm
  · rw [heap_alloc_old _ _ (by omega), heap_alloc_old _ _ (by omega)]; exact heap_alloc_new _ _ a3.symm
  · rw [heap_alloc_old _ _ (by omega)]; exact heap_alloc_new _ _ a4.symm
theorem cells_at {W : World} {g : Nat} {xs : List Value} {T : TypeId} (h : W.heap[g]? = some (.cells xs.toArray T (0, 0))) (j : Nat) (u : Value) (hu : xs[j]? = some u) : W.cell? ⟨g, 0 + j, none⟩ = some u := by
  rw [Nat.zero_add]
  simp only [World.cell?, h]
  simpa using hu
/-- what plain hands out -/
structure Pl (w w' : World) : Prop where
  lib : ProcsAt w' (some ⟨w.heap.size + 1, 0, none⟩) [pr0 w.heap.size]
  bat : BatAt w' (some ⟨w.heap.size + 1 + 1 + 1 + 1, 0, none⟩) [bx0 w.heap.size]
  raw : BytesAt w' (some ⟨w.heap.size + 1 + 1 + 1 + 1 + 1, 0, none⟩) raw0
  bel : Below w.heap.size w w'

theorem wf_t0 : WF t0 ∧ TIn t0 := ⟨⟨by decide, by decide, by decide, by decide, by decide, rise_nil, ⟨by simp [t0, isKey], by simp [t0]⟩⟩, ⟨by simp [t0, In64], by simp [t0], by simp [t0, KIn, In64]⟩⟩
theorem bat_t0 : batN [t0] = raw0 := by decide
theorem each_t0 (f : Tp → Int) (h : f t0 = 0) : eachN f [t0] = (0, 0) := eachN_zero (by simp) (fun i hi => by
  have : i = 0 := by simp at hi; omega
  subst this; exact h)
theorem sound_t0 (s : Nat) : soundN [pr0 s] t0 = 0 := by
  unfold soundN
  have h1 := wf_t0.1.form
  simp [t0, pr0, pd] at h1 ⊢
  exact h1
end Go.Proofs.YtlilaicgmdbhcaaDoor.Kk
/-
  told, BY WHAT Accept ANSWERS; Accept.
-/
namespace Go.Proofs.YtlilaicgmdbhcaaDoor.Kk
open Go.RowKit Go.Sort

abbrev ErrTy (w : World) : Prop := w.cell? ⟨0, 0, none⟩ = some (.iface 114 (.agg #[.pointer (some ⟨1, 27, none⟩)]))
theorem asBB (a : Option Addr) (w : World) : (Instr.typeAssert (.iface 46 (.pointer a)) 27 46 true).run Tryd.prog w = .ok (.tuple #[.pointer a, .bool true]) w := by kernel_rfl
theorem asTB (a : Option Addr) (w : World) : (Instr.typeAssert (.iface 51 (.pointer a)) 27 46 true).run Tryd.prog w = .ok (.tuple #[.pointer none, .bool false]) w := by kernel_rfl
theorem asTT (a : Option Addr) (w : World) : (Instr.typeAssert (.iface 51 (.pointer a)) 27 51 true).run Tryd.prog w = .ok (.tuple #[.pointer a, .bool true]) w := by kernel_rfl
/-- what errors.As leaves of a world -/
theorem as_leaves {w : World} {B : Nat} {x : Int} (hB : B = w.heap.size) (o1 o2 o3 o4 : Obj) : Below w.heap.size w ((((((w.alloc (.cells #[.int .i64 0] 43)).alloc o1).alloc o2).alloc o3).alloc o4).setCell ⟨B, 0, none⟩ (.int .i64 x)) ∧
    ((((((w.alloc (.cells #[.int .i64 0] 43)).alloc o1).alloc o2).alloc o3).alloc o4).setCell ⟨B, 0, none⟩ (.int .i64 x)).cell? ⟨B, 0, none⟩ = some (.int .i64 x) := by
  subst hB
  have h0 : (((((w.alloc (.cells #[.int .i64 0] 43)).alloc o1).alloc o2).alloc o3).alloc o4).heap[w.heap.size]? = some (.cells #[.int .i64 0] 43 (0, 0)) :=
    (heap_alloc_old _ _ (by simp; omega)).trans ((heap_alloc_old _ _ (by simp; omega)).trans ((heap_alloc_old _ _ (by simp; omega)).trans ((heap_alloc_old _ _ (by simp)).trans (heap_alloc_new _ _ rfl))))
  have hb : Below w.heap.size w (((((w.alloc (.cells #[.int .i64 0] 43)).alloc o1).alloc o2).alloc o3).alloc o4) := (((((Below.refl _ _).alloc (Nat.le_refl _) _).alloc (by simp) _).alloc (by simp; omega) _).alloc (by simp; omega) _).alloc (by simp; omega) _
  refine ⟨bset hb _ (Nat.le_refl _), ?_⟩
  have := heap_setCell_same _ w.heap.size 0 _ _ (.int .i64 x) h0
  rw [World.cell?, this]
  rfl

theorem told_nil (w : World) : Calls Tryd.prog 7 #[.nilIface] w fun e w' => e = .returned (.tuple #[.bool false, .int .i64 0, .int .i64 0]) ∧ w' = w := by
  go_enter Tryd.func7, Tryd.ntmps7
  go_wp2
  refine bodyPost_ret (v := .tuple #[.bool false, .int .i64 0, .int .i64 0]) (by simp [results, Tryd.results7]) rfl ⟨rfl, rfl⟩
set_option maxRecDepth 100000 in
set_option maxHeartbeats 1000000 in
theorem told_byte (w : World) (P : Nat) (q x : Int) (hg : ErrTy w) (h : w.heap[P]? = some (.cells #[.int .i64 q, .iface 43 (.int .i64 x)] 48 (0, 0))) :
    Calls Tryd.prog 7 #[.iface 46 (.pointer (some ⟨P, 0, none⟩))] w fun e w' => e = .returned (.tuple #[.bool true, .int .i64 q, .int .i64 x]) ∧ Below w.heap.size w w' := by
  have hta := asBB
  have hA : Below w.heap.size w (w.alloc (.cells #[.int .i64 0] 43)) := (Below.refl _ _).alloc (Nat.le_refl _) _
  have hP := (Array.getElem?_eq_some_iff.1 h).1
  have HP : Hid (∀ W, Below w.heap.size w W → W.cell? ⟨P, 0, none⟩ = some (.int .i64 q)) := fun W hW => by rw [World.cell?, hW.block P hP, h]; rfl
  have c1 : (w.alloc (.cells #[.int .i64 0] 43)).cell? ⟨P, 1, none⟩ = some (.iface 43 (.int .i64 x)) := by rw [World.cell?, hA.block P hP, h]; rfl
  have HAs : Hid (Calls Tryd.prog 15 #[.iface 43 (.int .i64 x), .iface 66 (.pointer (some ⟨w.heap.size, 0, none⟩))] (w.alloc (.cells #[.int .i64 0] 43)) fun ev w' => ev = .returned (.bool true) ∧ Below w.heap.size w w' ∧ w'.cell? ⟨w.heap.size, 0, none⟩ = some (.int .i64 x)) := by
    refine (as_hitN x ⟨w.heap.size, 0, none⟩ (.int .i64 0) _ ?_ (by simp) ?_).mono ?_
    · exact (hA.cell (p := ⟨0, 0, none⟩) (cell_lt' hg)).trans hg
    · exact frozen_of_row _ w.heap.size 0 _ _ (heap_alloc_new _ _ rfl)
    · rintro ev w' ⟨rfl, rfl⟩
      exact ⟨rfl, as_leaves rfl _ _ _ _⟩
  clear h hP hA hg
  go_enter Tryd.func7, Tryd.ntmps7
  go_wp2_with fail
  refine HAs.out.mono ?_
  rintro ev w2 ⟨rfl, hb2, z⟩
  have c0 := HP.out w2 hb2
  have HB2 : Hid (∀ t, Below w.heap.size w (w2.drewN t)) := fun t => ⟨hb2.os, hb2.tape, hb2.output, hb2.size, hb2.block⟩
  clear HAs hb2 c1 HP
  go_wp2_with fail
  go_quiet (fail)
  have HF := HB2.out nq
  go_wp2
  refine bodyPost_ret (v := .tuple #[.bool true, .int .i64 q, .int .i64 x]) (by simp [results, Tryd.results7]) rfl ⟨rfl, HF⟩
set_option maxRecDepth 100000 in
set_option maxHeartbeats 1000000 in
theorem told_tx (w : World) (P : Nat) (q x : Int) (hg : ErrTy w) (h : w.heap[P]? = some (.cells #[.int .i64 q, .iface 43 (.int .i64 x)] 53 (0, 0))) :
    Calls Tryd.prog 7 #[.iface 51 (.pointer (some ⟨P, 0, none⟩))] w fun e w' => e = .returned (.tuple #[.bool false, .int .i64 q, .int .i64 x]) ∧ Below w.heap.size w w' := by
  have hta := asTB
  have htb := asTT
  have hA : Below w.heap.size w (w.alloc (.cells #[.int .i64 0] 43)) := (Below.refl _ _).alloc (Nat.le_refl _) _
  have hP := (Array.getElem?_eq_some_iff.1 h).1
  have HP : Hid (∀ W, Below w.heap.size w W → W.cell? ⟨P, 0, none⟩ = some (.int .i64 q)) := fun W hW => by rw [World.cell?, hW.block P hP, h]; rfl
  have c1 : (w.alloc (.cells #[.int .i64 0] 43)).cell? ⟨P, 1, none⟩ = some (.iface 43 (.int .i64 x)) := by rw [World.cell?, hA.block P hP, h]; rfl
  have HAs : Hid (Calls Tryd.prog 15 #[.iface 43 (.int .i64 x), .iface 66 (.pointer (some ⟨w.heap.size, 0, none⟩))] (w.alloc (.cells #[.int .i64 0] 43)) fun ev w' => ev = .returned (.bool true) ∧ Below w.heap.size w w' ∧ w'.cell? ⟨w.heap.size, 0, none⟩ = some (.int .i64 x)) := by
    refine (as_hitN x ⟨w.heap.size, 0, none⟩ (.int .i64 0) _ ?_ (by simp) ?_).mono ?_
    · exact (hA.cell (p := ⟨0, 0, none⟩) (cell_lt' hg)).trans hg
    · exact frozen_of_row _ w.heap.size 0 _ _ (heap_alloc_new _ _ rfl)
    · rintro ev w' ⟨rfl, rfl⟩
      exact ⟨rfl, as_leaves rfl _ _ _ _⟩
  clear h hP hA hg
  go_enter Tryd.func7, Tryd.ntmps7
  go_wp2_with fail
  refine HAs.out.mono ?_
  rintro ev w2 ⟨rfl, hb2, z⟩
  have c0 := HP.out w2 hb2
  have HB2 : Hid (∀ t, Below w.heap.size w (w2.drewN t)) := fun t => ⟨hb2.os, hb2.tape, hb2.output, hb2.size, hb2.block⟩
  clear HAs hb2 c1 HP
  go_wp2_with fail
  go_quiet (fail)
  have HF := HB2.out nq
  go_wp2
  refine bodyPost_ret (v := .tuple #[.bool false, .int .i64 q, .int .i64 x]) (by simp [results, Tryd.results7]) rfl ⟨rfl, HF⟩

/-- what Accept answers -/
def AccPost (w : World) (Ps : List Pr) (zs : List Nat) (e' : Ending) (w' : World) : Prop :=
  Below w.heap.size w w' ∧ match decR zs with
  | .error (q, x) => ∃ P, e' = .returned (.tuple #[.slice none 0 0, .iface 46 (.pointer (some ⟨P, 0, none⟩))]) ∧ w'.heap[P]? = some (.cells #[.int .i64 (q : Int), .iface 43 (.int .i64 x)] 48 (0, 0))
  | .ok Ts => if (eachN (soundN Ps) Ts).2 = 0 then ∃ v, e' = .returned (.tuple #[v, .nilIface]) ∧ OwnBat w Ts v w'
      else ∃ P, e' = .returned (.tuple #[.slice none 0 0, .iface 51 (.pointer (some ⟨P, 0, none⟩))]) ∧ w'.heap[P]? = some (.cells #[.int .i64 ((eachN (soundN Ps) Ts).1 : Int), .iface 43 (.int .i64 (eachN (soundN Ps) Ts).2)] 53 (0, 0))
theorem eachN_place {f : Tp → Int} {Ts : List Tp} (h : (eachN f Ts).2 = 0) : eachN f Ts = (0, 0) := by
  obtain ⟨h1, h2⟩ := eachN_ok h
  exact eachN_zero h1 h2

set_option maxRecDepth 100000 in
set_option maxHeartbeats 1000000 in
theorem accept_any (w : World) (lo ao : Option Addr) (n lc m cap : Nat) (Ps : List Pr) (zs : List Nat) (hl : ProcsAt w lo Ps) (hn : n = Ps.length) (hb : BytesAt w ao zs) (hm : m = zs.length) (hs : m ≤ 140737488355328) :
    Calls Tryd.prog 5 #[.slice lo n lc, .slice ao m cap] w fun e w' => AccPost w Ps zs e w' := by
  have HD0 := decode_b w ao m cap zs hm hb hs
  unfold DecPost at HD0
  cases hd : decR zs with
  | error x =>
    obtain ⟨q, x⟩ := x
    rw [hd] at HD0
    have hx : x ≠ 0 := (decR_err hb.1 hd).2
    have hx' : (x != 0) = true := by simpa using hx
    have HD : Hid (decR zs = .error (q, x)) := hd
    have HC : Hid (Calls Tryd.prog 10 #[.slice ao m cap] w fun e' w' => e' = .returned (.tuple #[.slice none 0 0, .int .i64 (q : Int), .int .i64 x]) ∧ Below w.heap.size w w') := HD0
    clear HD0 hl hn hb hm hs hd hx
    go_enter Tryd.func5, Tryd.ntmps5
    go_wp2_with fail
    refine HC.out.mono ?_
    rintro e w1 ⟨rfl, hb1⟩
    have HF : Hid (AccPost w Ps zs (.returned (.tuple #[.slice none 0 0, .iface 46 (.pointer (some ⟨w1.heap.size, 0, none⟩))])) (w1.alloc (.cells #[.int .i64 (q : Int), .iface 43 (.int .i64 x)] 48))) := by
      refine ⟨hb1.alloc hb1.size _, ?_⟩
      rw [HD.out]
      exact ⟨_, rfl, heap_alloc_new _ _ rfl⟩
    clear hb1 HC HD
    go_wp2
    go_ret2
    exact HF.out
  | ok Ts =>
    by_cases hc : (eachN (soundN Ps) Ts).2 = 0
    · refine (accept_ok w lo ao n lc m cap Ps zs Ts hl hn hb hm hs hd (eachN_place hc)).mono ?_
      rintro e w' ⟨v, rfl, ho, hbl⟩
      refine ⟨hbl, ?_⟩
      rw [hd]
      simp only [hc, if_true]
      exact ⟨v, rfl, ho⟩
    · rw [hd] at HD0
      have HZ : Hid (∀ t ∈ Ts, WF t ∧ TIn t) := (decR_back hb.1 hd).2.2
      have H64 : Hid (Ts.length ≤ 64) := (decR_back hb.1 hd).2.1
      have HC : Hid (Calls Tryd.prog 10 #[.slice ao m cap] w fun e' w' => ∃ v, e' = .returned (.tuple #[v, .int .i64 0, .int .i64 0]) ∧ OwnBat w Ts v w' ∧ Below w.heap.size w w') := HD0
      have HL : Hid (ProcsAt w lo Ps ∧ n = Ps.length) := ⟨hl, hn⟩
      have HD : Hid (decR zs = .ok Ts) := hd
      have hc' : ((eachN (soundN Ps) Ts).2 != 0) = true := by simpa using hc
      have HC0 : Hid (¬ (eachN (soundN Ps) Ts).2 = 0) := hc
      clear HD0 hl hn hb hm hs hd hc
      go_enter Tryd.func5, Tryd.ntmps5
      go_wp2_with fail
      refine HC.out.mono ?_
      rintro e w1 ⟨v, rfl, ho, hb1⟩
      obtain ⟨g, Qs, e, hB, hT, hLn⟩ := ho.lst HZ.out
      subst e
      have HB1 : Hid (Below w.heap.size w w1) := hb1
      have HCk : Hid (Calls Tryd.prog 11 #[.slice lo n lc, .slice (some ⟨g, 0, none⟩) Ts.length Ts.length] w1 fun e w' => e = .returned (.tuple #[.int .i64 ((eachN (soundN Ps) Ts).1 : Int), .int .i64 (eachN (soundN Ps) Ts).2]) ∧ Grew w1 w') := by
        have := check_b w1 lo (some ⟨g, 0, none⟩) n lc Ts.length Ts.length Ps Qs (HL.out.1.kept hb1) HL.out.2 hB hLn (by have := H64.out; omega)
        rw [hT] at this
        exact this
      have HP0 : Hid (∀ W P, Below w.heap.size w W → W.heap[P]? = some (.cells #[.int .i64 ((eachN (soundN Ps) Ts).1 : Int), .iface 43 (.int .i64 (eachN (soundN Ps) Ts).2)] 53 (0, 0)) → AccPost w Ps zs (.returned (.tuple #[.slice none 0 0, .iface 51 (.pointer (some ⟨P, 0, none⟩))])) W) := fun W P hW hP => by
        refine ⟨hW, ?_⟩
        rw [HD.out]
        simp only [HC0.out, if_false]
        exact ⟨P, rfl, hP⟩
      clear ho hb1 hB hT hLn HC HC0 HD HZ HL
      generalize (eachN (soundN Ps) Ts).1 = i1 at *
      generalize (eachN (soundN Ps) Ts).2 = x1 at *
      go_wp2_with fail
      refine HCk.out.mono ?_
      rintro e w2 ⟨rfl, hg2⟩
      have HF : Hid (AccPost w Ps zs (.returned (.tuple #[.slice none 0 0, .iface 51 (.pointer (some ⟨w2.heap.size, 0, none⟩))])) (w2.alloc (.cells #[.int .i64 (i1 : Int), .iface 43 (.int .i64 x1)] 53))) := by
        have hb2 := HB1.out.trans (hg2.below.mono HB1.out.size)
        exact HP0.out _ _ (hb2.alloc hb2.size _) (heap_alloc_new _ _ rfl)
      clear hg2 HCk HB1 HP0
      go_wp2
      go_ret2
      exact HF.out
end Go.Proofs.YtlilaicgmdbhcaaDoor.Kk
/-
  THE WALK OF preluderef01.number.
-/
namespace Go.Proofs.YtlilaicgmdbhcaaDoor
open Go.RowKit

theorem add_low (acc c i : Nat) (ha : acc < 2 ^ (7 * i)) (hi : i ≤ 9) (h9 : i = 9 → c % 128 ≤ 1) : IntKind.u64.wrap ((acc : Int) + IntKind.u64.wrap ((c : Int) % 128 * 2 ^ (7 * i))) = ((acc + c % 128 * 2 ^ (7 * i) : Nat) : Int) := by
  have hl : acc + c % 128 * 2 ^ (7 * i) < 18446744073709551616 := by
    by_cases e : i = 9
    · subst e
      have := h9 rfl
      have : c % 128 * 2 ^ (7 * 9) ≤ 1 * 2 ^ (7 * 9) := Nat.mul_le_mul_right _ this
      omega
    · have h1 : 2 ^ (7 * i) ≤ 2 ^ 56 := Nat.pow_le_pow_right (by omega) (by omega)
      have h2 : c % 128 * 2 ^ (7 * i) ≤ 127 * 2 ^ 56 := Nat.mul_le_mul (by omega) h1
      omega
  have e1 : ((c : Int) % 128 * 2 ^ (7 * i)) = ((c % 128 * 2 ^ (7 * i) : Nat) : Int) := by simp
  rw [e1, IntKind.wrap_u64, IntKind.wrap_u64]
  generalize c % 128 * 2 ^ (7 * i) = x at *
  omega

set_option maxRecDepth 100000 in
set_option maxHeartbeats 1000000 in
theorem number_any (w : World) (b off cap n : Nat) (zs : List Nat) (hn : n = zs.length) (hb : BytesAt w (some ⟨b, off, none⟩) zs) (hm : zs.length ≤ maxLen) :
    Calls Tryd.prog 40 #[.slice (some ⟨b, off, none⟩) n cap] w fun e w' => e = .returned (.tuple #[.int .u64 (((scan zs).1 : Nat) : Int), .int .i64 (((scan zs).2.1 : Nat) : Int), .int .i64 (((scan zs).2.2 : Nat) : Int)]) ∧ w' = w := by
  subst hn
  have hz := hb.1
  have hc : ∀ j, j < zs.length → w.cell? ⟨b, off + j, none⟩ = some (.int .u8 ((zs.getD j 0 : Nat) : Int)) := by
    intro j hj
    obtain ⟨_, h0 | ⟨b', o', e, h1⟩⟩ := hb
    · rw [h0] at hj; simp at hj
    · simp only [Option.some.injEq, Addr.mk.injEq] at e
      obtain ⟨rfl, rfl, _⟩ := e
      exact h1 j hj
  clear hb
  unfold maxLen at hm
  go_enter Tryd.func40, Tryd.ntmps40
  go_wp2
  go_loop [5, 6] (fun n i => ∃ k acc : Nat, k ≤ zs.length ∧ k ≤ 9 ∧ i = .int .i64 k ∧ n = .int .u64 (acc : Int) ∧ acc < 2 ^ (7 * k) ∧ Hid (scan zs = scanFrom k acc (zs.drop k))) (fun _ i => zs.length - (intOf i).toNat)
  case atStart => exact ⟨0, 0, Nat.zero_le _, by omega, rfl, rfl, by simp, rfl⟩
  case round =>
    obtain ⟨k, acc, hk, hk9, rfl, rfl, hacc, hsc⟩ := hrel
    have hk10 : (k : Int) < 10 := by omega
    by_cases hlt : k < zs.length
    · have hcell := hc k hlt
      have hcb := getD_lt hz k
      have hkl : ((k : Int) == (zs.length : Int)) = false := by rw [beq_eq_false_iff_ne]; omega
      have HD : Hid (zs.drop k = zs.getD k 0 :: zs.drop (k + 1)) := by
        rw [Hid, List.drop_eq_getElem_cons hlt, List.getD_eq_getElem?_getD, List.getElem?_eq_getElem hlt]; rfl
      generalize zs.getD k 0 = c at *
      have HS : Hid (scan zs = if (k = 9 ∧ 1 < c) ∨ (0 < k ∧ c = 0) then (0, 0, 11) else if c < 128 then (acc + c * 2 ^ (7 * k), k + 1, 0) else scanFrom (k + 1) (acc + (c - 128) * 2 ^ (7 * k)) (zs.drop (k + 1))) := by
        rw [Hid, hsc.out, HD.out, scanFrom]
      clear hc hz
      by_cases hbad : (k = 9 ∧ 1 < c) ∨ (0 < k ∧ c = 0)
      · have HE : Hid (scan zs = (0, 0, 11)) := by rw [Hid, HS.out, if_pos hbad]
        by_cases h9 : k = 9
        · subst h9
          by_cases h1 : 1 < c
          · have h1' : (1 : Int) < (c : Int) := by omega
            clear hbad
            go_wp2
            go_ret3
            exact ⟨by rw [HE.out]; rfl, rfl⟩
          · obtain rfl : c = 0 := by omega
            clear hbad
            go_wp2
            go_ret3
            exact ⟨by rw [HE.out]; rfl, rfl⟩
        · have hk9' : ¬ (k : Int) = 9 := by omega
          obtain rfl : c = 0 := by omega
          have hk0 : (0 : Int) < (k : Int) := by omega
          clear hbad
          go_wp2
          go_ret3
          exact ⟨by rw [HE.out]; rfl, rfl⟩
      · have HG : Hid (scan zs = if c < 128 then (acc + c * 2 ^ (7 * k), k + 1, 0) else scanFrom (k + 1) (acc + (c - 128) * 2 ^ (7 * k)) (zs.drop (k + 1))) := by rw [Hid, HS.out, if_neg hbad]
        have HO : Hid (IntKind.u64.wrap ((acc : Int) + IntKind.u64.wrap ((c : Int) % 128 * 2 ^ (7 * k))) = ((acc + c % 128 * 2 ^ (7 * k) : Nat) : Int)) := add_low acc c k hacc hk9 (by omega)
        have HA : Hid (acc + (c - 128) * 2 ^ (7 * k) < 2 ^ (7 * (k + 1))) := by
          rw [Hid, pow7]
          have : (c - 128) * 2 ^ (7 * k) ≤ 127 * 2 ^ (7 * k) := Nat.mul_le_mul_right _ (by omega)
          omega
        by_cases hlow : c < 128
        · have HE : Hid (scan zs = (acc + c % 128 * 2 ^ (7 * k), k + 1, 0)) := by rw [Hid, HG.out, if_pos hlow, Nat.mod_eq_of_lt hlow]
          have hlow' : (c : Int) < 128 := by omega
          clear hlow
          have hgo : (k = 9 ∧ c = 1) ∨ (k ≠ 9 ∧ (k = 0 ∨ c ≠ 0)) := by omega
          clear hbad
          rcases hgo with ⟨rfl, rfl⟩ | ⟨h9, h0⟩
          · have HE9 : Hid (scan zs = (acc + 9223372036854775808, 10, 0)) := HE.out
            have HV : Hid ((acc : Int) + 9223372036854775808 = ((acc + 9223372036854775808 : Nat) : Int)) := by rw [Hid]; omega
            clear HE HO HA HG HS
            go_wp2
            go_ret3
            refine ⟨?_, rfl⟩
            show Ending.returned (.tuple #[.int .u64 ((acc : Int) + 9223372036854775808), .int .i64 10, .int .i64 0]) = _
            rw [HE9.out, HV.out]
            rfl
          · have hk9' : ¬ (k : Int) = 9 := by omega
            rcases h0 with hkz | h0
            · have hk0 : ¬ (0 : Int) < (k : Int) := by omega
              clear hkz
              go_wp2
              go_ret3
              exact ⟨by rw [HE.out, ← HO.out]; rfl, rfl⟩
            · have hc0 : ¬ (c : Int) = 0 := by omega
              by_cases hkk : k = 0
              · have hk0 : ¬ (0 : Int) < (k : Int) := by omega
                clear hkk
                go_wp2
                go_ret3
                exact ⟨by rw [HE.out, ← HO.out]; rfl, rfl⟩
              · have hk0 : (0 : Int) < (k : Int) := by omega
                go_wp2
                go_ret3
                exact ⟨by rw [HE.out, ← HO.out]; rfl, rfl⟩
        · have HE : Hid (scan zs = scanFrom (k + 1) (acc + c % 128 * 2 ^ (7 * k)) (zs.drop (k + 1))) := by rw [Hid, HG.out, if_neg hlow, show c - 128 = c % 128 by omega]
          have HA' : Hid (acc + c % 128 * 2 ^ (7 * k) < 2 ^ (7 * (k + 1))) := by rw [show c % 128 = c - 128 by omega]; exact HA
          have hlow' : ¬ (c : Int) < 128 := by omega
          have hk9' : ¬ (k : Int) = 9 := by omega
          have hc0 : ¬ (c : Int) = 0 := by omega
          have hk8 : k + 1 ≤ 9 := by omega
          clear hlow hbad
          by_cases hkk : k = 0
          · have hk0 : ¬ (0 : Int) < (k : Int) := by omega
            clear hkk
            go_wp2
            go_round
            case rel => exact ⟨k + 1, _, by omega, by omega, by go_num, by rw [HO.out], HA'.out, HE⟩
            case measure => simp [intOf]; omega
          · have hk0 : (0 : Int) < (k : Int) := by omega
            go_wp2
            go_round
            case rel => exact ⟨k + 1, _, by omega, by omega, by go_num, by rw [HO.out], HA'.out, HE⟩
            case measure => simp [intOf]; omega
    · have HE : Hid (scan zs = (0, 0, 10)) := by rw [Hid, hsc.out, List.drop_of_length_le (by omega)]; rfl
      obtain rfl : k = zs.length := by omega
      clear hc hz
      go_wp2
      go_ret3
      exact ⟨by rw [HE.out]; rfl, rfl⟩

end Go.Proofs.YtlilaicgmdbhcaaDoor
