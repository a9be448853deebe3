import Derived.Test.YtglodmmmcdjgcaaJ26
import Derived.Test.YtglodmmmcdjgcaaJ27
import Derived.Test.YtglodmmmcdjgcaaJ28
import Derived.Test.YtglodmmmcdjgcaaJ14
import Derived.Test.YtglodmmmcdjgcaaJ18
import Derived.Test.YtglodmmmcdjgcaaJ25
import Derived.Test.YtglodmmmcdjgcaaJ22
/-
  Accept WHERE IT TAKES; plain, works.
-/
namespace Go.Proofs.Ytglodmmmcdjgcaa.Kk
open Go.RowKit Go.Sort

theorem DcT.ok {W : World} {lo hi : Nat} {y : Bx} (h : DcT W lo hi y) (hw : WF y.t) (hi' : TIn y.t) : BxOK W y := by
  obtain ⟨ga, gr, gw, e, h1, h2, h3, _⟩ := h
  obtain ⟨t, aA, cA, aR, cR, aW, cW⟩ := y
  simp only [Bx.mk.injEq, true_and] at e h1 h2 h3 hw hi'
  obtain ⟨rfl, rfl, rfl, rfl, rfl, rfl⟩ := e
  have a := hw.a; have r := hw.r; have w := hw.w; have p0 := hw.p0; have p1 := hw.p1
  have k1 : R64 W ga (t.args ++ []) := by rw [List.append_nil]; exact h1
  have k2 : RK W gr (t.reads ++ []) := by rw [List.append_nil]; exact h2
  have k3 : RK W gw (t.writes ++ []) := by rw [List.append_nil]; exact h3
  exact ⟨k1.nums, k2.keys, k3.keys, ⟨by show -9223372036854775808 ≤ t.proc; omega, by show t.proc ≤ 9223372036854775807; omega⟩, hi'.a, hi'.r, hi'.w, by simp, by simp, by simp, Nat.le_refl _, Nat.le_refl _, Nat.le_refl _, by show t.args.length * 8 ≤ _; omega, by show t.reads.length * 16 ≤ _; omega, by show t.writes.length * 16 ≤ _; omega⟩
theorem Dcd.bat {W : World} {base g n : Nat} {Ts : List Tp} {Qs : List Bx} {lo : Nat → Nat} (h : Dcd W base g n n Ts Qs lo) (hz : ∀ t ∈ Ts, WF t ∧ TIn t) : BatAt W (some ⟨g, 0, none⟩) Qs ∧ Qs.map Bx.t = Ts ∧ Qs.length = n := by
  have hts := h.ts
  rw [List.take_of_length_le (by rw [h.len]; omega)] at hts
  refine ⟨⟨h.row.txs0, fun x hx => ?_⟩, hts, h.len⟩
  obtain ⟨i, hi, rfl⟩ := List.mem_iff_getElem.1 hx
  have e : bd Qs i = Qs[i] := by simp [bd, List.getD_eq_getElem?_getD, List.getElem?_eq_getElem hi]
  have hm := hz Qs[i].t (by rw [← hts]; exact List.mem_map.2 ⟨_, hx, rfl⟩)
  rw [← e] at hm ⊢
  exact (h.one i (by rw [← h.len]; exact hi)).ok hm.1 hm.2
theorem OwnBat.lst {w0 w' : World} {Ts : List Tp} {v : Value} (h : OwnBat w0 Ts v w') (hz : ∀ t ∈ Ts, WF t ∧ TIn t) : ∃ g Qs, v = .slice (some ⟨g, 0, none⟩) Ts.length Ts.length ∧ BatAt w' (some ⟨g, 0, none⟩) Qs ∧ Qs.map Bx.t = Ts ∧ Ts.length = Qs.length := by
  obtain ⟨g, Qs, lo, rfl, hd⟩ := h
  obtain ⟨h1, h2, h3⟩ := hd.bat hz
  exact ⟨g, Qs, rfl, h1, h2, h3.symm⟩

def pr0 (s : Nat) : Pr := ⟨⟨#[112, 117, 116]⟩, ⟨1, 0, 1, 0⟩, some ⟨s, 0, none⟩, 2, 2, [(6, 0), (32, 0)]⟩
def t0 : Tp := ⟨0, [10], [], [(0, 1)]⟩
def bx0 (s : Nat) : Bx := ⟨t0, some ⟨s + 2, 0, none⟩, 1, none, 0, some ⟨s + 3, 0, none⟩, 1⟩
def raw0 : List Nat := [1, 0, 1, 20, 0, 1, 0, 0, 128, 0, 0, 0, 0, 0, 0, 1]

theorem chain6 (w : World) (o0 o1 o2 o3 o4 o5 : Obj) :
    ((((((w.alloc o0).alloc o1).alloc o2).alloc o3).alloc o4).alloc o5).heap[w.heap.size]? = some o0 ∧ ((((((w.alloc o0).alloc o1).alloc o2).alloc o3).alloc o4).alloc o5).heap[w.heap.size + 1]? = some o1 ∧ ((((((w.alloc o0).alloc o1).alloc o2).alloc o3).alloc o4).alloc o5).heap[w.heap.size + 1 + 1]? = some o2 ∧
    ((((((w.alloc o0).alloc o1).alloc o2).alloc o3).alloc o4).alloc o5).heap[w.heap.size + 1 + 1 + 1]? = some o3 ∧ ((((((w.alloc o0).alloc o1).alloc o2).alloc o3).alloc o4).alloc o5).heap[w.heap.size + 1 + 1 + 1 + 1]? = some o4 ∧ ((((((w.alloc o0).alloc o1).alloc o2).alloc o3).alloc o4).alloc o5).heap[w.heap.size + 1 + 1 + 1 + 1 + 1]? = some o5 := by
  have a1 : (w.alloc o0).heap.size = w.heap.size + 1 := by simp
  have a2 : ((w.alloc o0).alloc o1).heap.size = w.heap.size + 1 + 1 := by simp
  have a3 : (((w.alloc o0).alloc o1).alloc o2).heap.size = w.heap.size + 1 + 1 + 1 := by simp
  have a4 : ((((w.alloc o0).alloc o1).alloc o2).alloc o3).heap.size = w.heap.size + 1 + 1 + 1 + 1 := by simp
  have a5 : (((((w.alloc o0).alloc o1).alloc o2).alloc o3).alloc o4).heap.size = w.heap.size + 1 + 1 + 1 + 1 + 1 := by simp
  refine ⟨?_, ?_, ?_, ?_, ?_, heap_alloc_new _ _ a5.symm⟩
  · rw [heap_alloc_old _ _ (by omega), heap_alloc_old _ _ (by omega), heap_alloc_old _ _ (by omega), heap_alloc_old _ _ (by omega), heap_alloc_old _ _ (by omega)]; exact heap_alloc_new _ _ rfl
  · rw [heap_alloc_old _ _ (by omega), heap_alloc_old _ _ (by omega), heap_alloc_old _ _ (by omega), heap_alloc_old _ _ (by omega)]; exact heap_alloc_new _ _ a1.symm
  · rw [heap_alloc_old _ _ (by omega), heap_alloc_old _ _ (by omega), heap_alloc_old _ _ (by omega)]; exact heap_alloc_new _ _ a2.symm
  · rw [heap_alloc_old _ _ (by omega), heap_alloc_old _ _ (by omega)]; exact heap_alloc_new _ _ a3.symm
  · rw [heap_alloc_old _ _ (by omega)]; exact heap_alloc_new _ _ a4.symm
theorem cells_at {W : World} {g : Nat} {xs : List Value} {T : TypeId} (h : W.heap[g]? = some (.cells xs.toArray T (0, 0))) (j : Nat) (u : Value) (hu : xs[j]? = some u) : W.cell? ⟨g, 0 + j, none⟩ = some u := by
  rw [Nat.zero_add]
  simp only [World.cell?, h]
  simpa using hu
/-- what plain hands out -/
structure Pl (w w' : World) : Prop where
  lib : ProcsAt w' (some ⟨w.heap.size + 1, 0, none⟩) [pr0 w.heap.size]
  bat : BatAt w' (some ⟨w.heap.size + 1 + 1 + 1 + 1, 0, none⟩) [bx0 w.heap.size]
  raw : BytesAt w' (some ⟨w.heap.size + 1 + 1 + 1 + 1 + 1, 0, none⟩) raw0
  bel : Below w.heap.size w w'

theorem wf_t0 : WF t0 ∧ TIn t0 := ⟨⟨by decide, by decide, by decide, by decide, by decide, rise_nil, ⟨by simp [t0, isKey], by simp [t0]⟩⟩, ⟨by simp [t0, In64], by simp [t0], by simp [t0, KIn, In64]⟩⟩
theorem bat_t0 : batN [t0] = raw0 := by decide
theorem each_t0 (f : Tp → Int) (h : f t0 = 0) : eachN f [t0] = (0, 0) := eachN_zero (by simp) (fun i hi => by
  have : i = 0 := by simp at hi; omega
  subst this; exact h)
theorem sound_t0 (s : Nat) : soundN [pr0 s] t0 = 0 := by
  unfold soundN
  have h1 := wf_t0.1.form
  simp [t0, pr0, pd] at h1 ⊢
  exact h1
end Go.Proofs.Ytglodmmmcdjgcaa.Kk
/-
  BatchEncodes: THE LAW.
-/
namespace Go.Proofs.Ytglodmmmcdjgcaa.Kk
open Go.RowKit Go.Sort

theorem wf_each {Ts : List Tp} (h : (eachN formN Ts).2 = 0) : Ts.length ≤ 64 ∧ ∀ t ∈ Ts, WF t := by
  obtain ⟨h1, h2⟩ := eachN_ok h
  refine ⟨h1, fun t ht => ?_⟩
  obtain ⟨i, hi, rfl⟩ := List.mem_iff_getElem.1 ht
  have := h2 i hi
  rw [show td Ts i = Ts[i] by simp [td, List.getD_eq_getElem?_getD, List.getElem?_eq_getElem hi]] at this
  exact wf_of this
/-- what Encode writes -/
noncomputable def encL (Ts : List Tp) : List Nat := if (eachN formN Ts).2 = 0 then batN Ts else []
theorem encL_len (Ts : List Tp) : (encL Ts).length ≤ 100000 := by
  unfold encL
  split
  · next h =>
    obtain ⟨h1, h2⟩ := wf_each h
    have h3 := txs_len h2
    have h4 := uint_len 10 Ts.length
    simp only [batN, List.length_append]
    omega
  · simp
theorem rw_move {W : World} {T : TypeId} {sz lo hi lo' hi' : Nat} {x : It} (h : Rw W T sz lo hi x) (h1 : lo' ≤ lo) (h2 : hi ≤ hi') : Rw W T sz lo' hi' x := by
  obtain ⟨o, n⟩ := x
  cases o with
  | none => exact h
  | some g => obtain ⟨a, b, c⟩ := h.at; exact ⟨by omega, by omega, c⟩
theorem rw_lo {W : World} {T : TypeId} {sz lo hi g : Nat} {x : It} (h : Rw W T sz lo hi x) (e : x.1 = some g) : lo ≤ g ∧ g < hi := by
  obtain ⟨o, n⟩ := x
  cases e
  exact ⟨h.at.1, h.at.2.1⟩
/-- a row of bytes that is one's own, or nil -/
def EncIt (w W : World) (L : List Nat) (x : It) : Prop := x.2 = L.length ∧ Rw W 5 1 w.heap.size W.heap.size x ∧ ∀ g, x.1 = some g → RowAt W g L
theorem EncIt.same {w W W' : World} {L : List Nat} {x : It} (h : EncIt w W L x) (hs : ∀ G, w.heap.size ≤ G → G < W.heap.size → W'.heap[G]? = W.heap[G]?) (hz : W.heap.size ≤ W'.heap.size) : EncIt w W' L x := by
  obtain ⟨o, n⟩ := x
  cases o with
  | none => exact ⟨h.1, h.2.1, fun g hg => by cases hg⟩
  | some g =>
    obtain ⟨h1, h2, h3⟩ := h
    obtain ⟨a, b, cur, c, d⟩ := h2.at
    exact ⟨h1, ⟨a, by omega, cur, (hs g a b).trans c, d⟩, fun g' hg => by cases hg; exact (hs g a b).trans (h3 g rfl)⟩
theorem EncIt.kept {w W W' : World} {L : List Nat} {x : It} (h : EncIt w W L x) (hb : Below W.heap.size W W') : EncIt w W' L x := h.same (fun G _ hl => hb.block G hl) hb.size
theorem EncIt.bytes {w W : World} {L : List Nat} {x : It} (h : EncIt w W L x) (hz : ∀ z ∈ L, z < 256) : BytesAt W (x.1.map fun g => ⟨g, 0, none⟩) L := by
  obtain ⟨o, n⟩ := x
  cases o with
  | none =>
    have h1 : n = 0 := h.2.1
    have h2 : n = L.length := h.1
    exact ⟨hz, .inl (List.eq_nil_of_length_eq_zero (by omega))⟩
  | some g => exact ⟨hz, .inr ⟨g, 0, rfl, fun j hj => by rw [Nat.zero_add]; exact row_cell (h.2.2 g rfl) j hj⟩⟩
theorem EncIt.rw {w W w0 : World} {L : List Nat} {x : It} {hi : Nat} (h : EncIt w W L x) (h0 : w0.heap.size ≤ w.heap.size) (h1 : W.heap.size ≤ hi) : Rw W 5 1 w0.heap.size hi x := rw_move h.2.1 h0 h1

theorem ownB_same {w w1 : World} {base : Nat} {v : Value} {L : List Nat} (h : OwnB w base v L) (hs : ∀ G, base ≤ G → G < w.heap.size → w1.heap[G]? = w.heap[G]?) : OwnB w1 base v L := by
  obtain ⟨hz, hl, h⟩ := h
  have hlt := World.ownsRow.lt ⟨hl, h⟩
  refine ⟨hz, hl, ?_⟩
  rcases h with h | ⟨g, cap, cur, rfl, hg, hh, r⟩
  · exact .inl h
  · exact .inr ⟨g, cap, cur, rfl, hg, (hs g hg (hlt g rfl).2).trans hh, r⟩
/-- a batch that was lent, or nil; and what gives it back -/
theorem lent_it (w : World) (ao : Option Addr) (n cap : Nat) (Bs : List Bx) (h : BatAt w ao Bs) (hn : n = Bs.length) (hm : n ≤ 100000) (hx : ∀ x ∈ Bs, x.t.args.length ≤ 100000 ∧ x.t.reads.length ≤ 100000 ∧ x.t.writes.length ≤ 100000) :
    Calls Try.prog 5 #[.slice ao n cap] w fun e w' => ∃ ai ci Is, e = .returned (.slice ai n ci) ∧ BatAt w' ai Is ∧ Is.map Bx.t = Bs.map Bx.t ∧ n = Is.length ∧ Below w.heap.size w w' ∧
      ∀ W, Below w'.heap.size w' W → Calls Try.prog 8 #[.slice ai n ci, .slice ao n cap] W fun e W' => e = .returned (.bool true) ∧ Mid w.heap.size w'.heap.size W W' := by
  refine (lent_b w ao n cap Bs h hn hm hx).mono ?_
  rintro e w' (⟨rfl, rfl, rfl, rfl⟩ | ⟨hne, Qs, lf, rfl, hlt⟩)
  · obtain rfl : n = 0 := hn
    exact ⟨none, 0, [], rfl, ⟨.inl rfl, fun x hx => by cases hx⟩, rfl, rfl, Below.refl _ _, fun W hW => (back_nilB W 0 cap [] (h.kept hW) rfl).mono fun e W' ⟨h1, h2⟩ => ⟨h1, Mid.of_below h2.below⟩⟩
  · cases ao with
    | none => exact absurd rfl hne
    | some a =>
    have hb := hlt.bat hn (h.kept hlt.bel)
    exact ⟨_, _, Qs.take n, rfl, hb.1, hb.2, by rw [List.length_take, hlt.len]; omega, hlt.bel, fun W hW => (back_some w W n cap a Bs Qs lf (hlt.kept hW) (h.kept (hlt.bel.trans (hW.mono hlt.bel.size))) hn hm hx).mono fun e W' ⟨h1, h2⟩ => ⟨h1, h2.wide (Nat.le_refl _) hlt.lok⟩⟩

end Go.Proofs.Ytglodmmmcdjgcaa.Kk
/-
  THE WALKS OF Weight (both), slices.Clone of keys, Writes (both).
-/
namespace Go.Proofs.Ytglodmmmcdjgcaa.Kk
open Go.RowKit Go.Sort

def wtN : List Bx → Nat
  | [] => 0
  | x :: Bs => x.t.writes.length + wtN Bs
theorem wtN_append (A B : List Bx) : wtN (A ++ B) = wtN A + wtN B := by
  induction A with
  | nil => simp [wtN]
  | cons x A ih => simp [wtN, ih]; omega
theorem wtN_take (Bs : List Bx) (k : Nat) (h : k < Bs.length) : wtN (Bs.take (k + 1)) = wtN (Bs.take k) + (bd Bs k).t.writes.length := by
  rw [bd_take Bs k h, wtN_append]; simp [wtN]
theorem wtN_le {Bs : List Bx} (h : ∀ x ∈ Bs, x.t.writes.length ≤ 100000) : wtN Bs ≤ 100000 * Bs.length := by
  induction Bs with
  | nil => simp [wtN]
  | cons x B ih =>
    have h1 := h x (by simp)
    have h2 := ih (fun y hy => h y (by simp [hy]))
    simp only [wtN, List.length_cons]; omega
theorem wtN_map {Bs Cs : List Bx} (h : Bs.map Bx.t = Cs.map Bx.t) : wtN Bs = wtN Cs := by
  induction Bs generalizing Cs with
  | nil => cases Cs with
    | nil => rfl
    | cons y C => simp at h
  | cons x B ih => cases Cs with
    | nil => simp at h
    | cons y C =>
      simp only [List.map_cons, List.cons.injEq] at h
      simp only [wtN, h.1, ih h.2]
def Sm (n : Nat) (Bs : List Bx) : Prop := n ≤ 100000 ∧ ∀ x ∈ Bs, x.t.args.length ≤ 100000 ∧ x.t.reads.length ≤ 100000 ∧ x.t.writes.length ≤ 100000

set_option maxRecDepth 100000 in
set_option maxHeartbeats 1000000 in
theorem weight_any (w : World) (ao : Option Addr) (n cap : Nat) (Bs : List Bx) (h : BatAt w ao Bs) (hn : n = Bs.length) (hs : Sm n Bs) :
    Calls Try.prog 6 #[.slice ao n cap] w fun e w' => e = .returned (.int .i64 (wtN Bs : Int)) ∧ Grew w w' := by
  have H : Hid (BatAt w ao Bs) := h
  have HN : Hid (n = Bs.length) := hn
  have HS : Hid (Sm n Bs) := hs
  have hm := hs.1
  clear h hn hs
  go_enter Try.func6, Try.ntmps6
  go_wp2_with fail
  go_loopw [3, 8] (fun y x wr => ∃ k r : Nat, k ≤ n ∧ x = .int .i64 (k : Int) ∧ y = .int .i64 (r : Int) ∧ r ≤ 100000 * k ∧ Hid (r = wtN (Bs.take k)) ∧ Hid (Grew w wr)) (fun _ x _ => n - (intOf x).toNat)
  case atStart => exact ⟨0, 0, Nat.zero_le _, rfl, rfl, by omega, by simp [Hid, wtN], Grew.refl _⟩
  case round =>
    obtain ⟨k, r, hk, rfl, rfl, hr, HR, HG⟩ := hrel
    by_cases hlt : k < n
    · have hlt' : k < Bs.length := by have := HN.out; omega
      obtain ⟨b, off, rfl, c0, c1, c2, c3⟩ := TxsAt.get (H.out.at_.kept HG.out.below) k hlt'
      have hw : (bd Bs k).t.writes.length ≤ 100000 := (HS.out.2 _ (bd_mem hlt')).2.2
      have HR2 : Hid (r + (bd Bs k).t.writes.length = wtN (Bs.take (k + 1))) := by rw [wtN_take Bs k hlt', HR.out]; rfl
      generalize bd Bs k = x at *
      obtain ⟨⟨proc, args, reads, writes⟩, aA, cA, aR, cR, aW, cW⟩ := x
      simp only at c0 c1 c2 c3 hw HR2
      generalize args.length = na at *
      generalize reads.length = nr at *
      generalize writes.length = nw at *
      have HG1 : Hid (Grew w (wr.alloc (.cells #[.int .i64 proc, .slice aA na cA, .slice aR nr cR, .slice aW nw cW] 43))) := HG.out.alloc _
      have hwr : IntKind.i64.wrap ((r : Int) + (nw : Int)) = (r : Int) + (nw : Int) := by rw [IntKind.wrap_i64]; omega
      clear HR HG
      go_wp2_with fail
      go_roundw
      case rel => exact ⟨k + 1, r + nw, by omega, by go_num, by go_num, by omega, HR2, HG1⟩
      case measure => simp [intOf]; omega
    · obtain rfl : k = n := by omega
      have HF : Hid (r = wtN Bs) := by rw [HR.out, HN.out, List.take_length]; rfl
      go_wp2
      go_ret
      exact ⟨by rw [HF.out]; rfl, HG.out⟩

set_option maxRecDepth 100000 in
set_option maxHeartbeats 1000000 in
theorem refWeight_any (w : World) (ao : Option Addr) (n cap : Nat) (Bs : List Bx) (h : BatAt w ao Bs) (hn : n = Bs.length) (hs : Sm n Bs) :
    Calls Try.prog 10 #[.slice ao n cap] w fun e w' => e = .returned (.int .i64 (wtN Bs : Int)) ∧ Grew w w' := by
  have H : Hid (BatAt w ao Bs) := h
  have HN : Hid (n = Bs.length) := hn
  have HS : Hid (Sm n Bs) := hs
  have hm := hs.1
  clear h hn hs
  go_enter Try.func10, Try.ntmps10
  go_wp2_with fail
  go_loopw [3, 4] (fun y x wr => ∃ k r : Nat, k ≤ n ∧ x = .int .i64 (k : Int) ∧ y = .int .i64 (r : Int) ∧ r ≤ 100000 * k ∧ Hid (r = wtN (Bs.take k)) ∧ Hid (Grew w wr)) (fun _ x _ => n - (intOf x).toNat)
  case atStart => exact ⟨0, 0, Nat.zero_le _, rfl, rfl, by omega, by simp [Hid, wtN], Grew.refl _⟩
  case round =>
    obtain ⟨k, r, hk, rfl, rfl, hr, HR, HG⟩ := hrel
    by_cases hlt : k < n
    · have hlt' : k < Bs.length := by have := HN.out; omega
      obtain ⟨b, off, rfl, c0, c1, c2, c3⟩ := TxsAt.get (H.out.at_.kept HG.out.below) k hlt'
      have hw : (bd Bs k).t.writes.length ≤ 100000 := (HS.out.2 _ (bd_mem hlt')).2.2
      have HR2 : Hid (r + (bd Bs k).t.writes.length = wtN (Bs.take (k + 1))) := by rw [wtN_take Bs k hlt', HR.out]; rfl
      generalize bd Bs k = x at *
      obtain ⟨⟨proc, args, reads, writes⟩, aA, cA, aR, cR, aW, cW⟩ := x
      simp only at c0 c1 c2 c3 hw HR2
      generalize writes.length = nw at *
      have hwr : IntKind.i64.wrap ((r : Int) + (nw : Int)) = (r : Int) + (nw : Int) := by rw [IntKind.wrap_i64]; omega
      clear HR c0 c1 c2
      go_wp2_with fail
      go_roundw
      case rel => exact ⟨k + 1, r + nw, by omega, by go_num, by go_num, by omega, HR2, HG⟩
      case measure => simp [intOf]; omega
    · obtain rfl : k = n := by omega
      have HF : Hid (r = wtN Bs) := by rw [HR.out, HN.out, List.take_length]; rfl
      go_wp2
      go_ret
      exact ⟨by rw [HF.out]; rfl, HG.out⟩
end Go.Proofs.Ytglodmmmcdjgcaa.Kk
