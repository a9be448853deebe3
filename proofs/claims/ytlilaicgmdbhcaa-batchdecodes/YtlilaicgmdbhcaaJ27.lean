import Derived.Test.YtlilaicgmdbhcaaJ26
/-
  THE WALK OF preluderef06.one.
-/
namespace Go.Proofs.Ytlilaicgmdbhcaa.Kk
open Go.RowKit Go.Sort

/-- its lists are the call's own -/
structure TxC (W : World) (base : Nat) (y : Bx) : Prop where
  a : OwnN W base (.slice y.aA y.t.args.length y.cA) y.t.args
  r : OwnK W base (.slice y.aR y.t.reads.length y.cR) y.t.reads
  w : OwnK W base (.slice y.aW y.t.writes.length y.cW) y.t.writes
/-- their blocks -/
def xb (y : Bx) (g : Nat) : Prop := (Value.slice y.aA y.t.args.length y.cA).ownBlock = some g ∨ (Value.slice y.aR y.t.reads.length y.cR).ownBlock = some g ∨ (Value.slice y.aW y.t.writes.length y.cW).ownBlock = some g
theorem TxC.lt {W : World} {base : Nat} {y : Bx} (h : TxC W base y) {g : Nat} (hg : xb y g) : base ≤ g ∧ g < W.heap.size := by
  rcases hg with e | e | e
  · exact h.a.lt g e
  · exact h.r.lt g e
  · exact h.w.lt g e
theorem TxC.same {W W' : World} {base : Nat} {y : Bx} (h : TxC W base y) (hs : ∀ g, xb y g → W'.heap[g]? = W.heap[g]?) : TxC W' base y :=
  ⟨h.a.same fun g hg => hs g (.inl hg), h.r.same fun g hg => hs g (.inr (.inl hg)), h.w.same fun g hg => hs g (.inr (.inr hg))⟩
theorem TxC.kept {W W' : World} {base : Nat} {y : Bx} (h : TxC W base y) (hb : Below W.heap.size W W') : TxC W' base y := h.same fun g hg => hb.block g (h.lt hg).2
theorem TxC.mono {W : World} {base base' : Nat} {y : Bx} (h : TxC W base y) (hb : base' ≤ base) : TxC W base' y := ⟨h.a.mono hb, h.r.mono hb, h.w.mono hb⟩
/-- while a transaction is read -/
structure OM (w W : World) (r : Nat) (ad : Option Addr) (c : Nat) (b : List Nat) (q : Nat) (x : Int) (y : Bx) : Prop where
  rd : IsMod W r ad c b q x
  gr : w.grownBy W (some r)
  b2 : W.heap[w.heap.size]? = some (.cells #[.int .i64 0, .slice none 0 0, .slice none 0 0, .slice none 0 0] 57 (0, 0))
  b3 : W.heap[w.heap.size + 1]? = some (.cells #[.int .i64 y.t.proc, .slice y.aA y.t.args.length y.cA, .slice y.aR y.t.reads.length y.cR, .slice y.aW y.t.writes.length y.cW] 57 (0, 0))
  tc : TxC W (w.heap.size + 2) y
  r2 : r < w.heap.size
  bl : ∀ x, b ≠ [] → ad = some x → x.block < w.heap.size
theorem modsNew {w W : World} {r : Nat} {ad : Option Addr} {c : Nat} {b : List Nat} {p' : Nat} {e' : Int} (h1 : IsMod W r ad c b p' e') (h2 : w.grownBy W (some r)) (hr : r < w.heap.size) (hbl : ∀ x, b ≠ [] → ad = some x → x.block < w.heap.size) (B i : Nat) (v : Value) (hB : w.heap.size ≤ B) : Mods w r ad c b p' e' (W.setCell ⟨B, i, none⟩ v) := by
  refine ⟨h1.grown (grown_setCell W ⟨B, i, none⟩ v) (fun e => by simp at e; omega) (fun k hk x h0 hx e => by have := hbl x h0 hx; simp at hk; omega), ?_⟩
  exact ⟨h2.os, h2.tape, h2.output, by have := h2.size; show w.heap.size ≤ _; rw [World.size_setCell]; exact this, fun k hk hne => (heap_setCell_other W ⟨B, i, none⟩ k v (by simp; omega)).trans (h2.block k hk hne)⟩
section
variable {w W W' : World} {r : Nat} {ad : Option Addr} {c : Nat} {b : List Nat} {q q2 : Nat} {x x2 : Int} {y y' : Bx}
theorem OM.step (h : OM w W r ad c b q x y) (hr : Mods W r ad c b q2 x2 W') : OM w W' r ad c b q2 x2 y := by
  have hr2 := h.r2
  exact ⟨hr.1, grown_trans' h.gr hr.2, (hr.2.block _ (blk_lt4 h.b2) (fun e => by simp at e; omega)).trans h.b2, (hr.2.block _ (blk_lt4 h.b3) (fun e => by simp at e; omega)).trans h.b3, h.tc.same fun g hg => hr.2.block g (h.tc.lt hg).2 (fun e => by have := (h.tc.lt hg).1; simp at e; omega), h.r2, h.bl⟩
theorem OM.set (h : OM w W r ad c b q x y) (i : Nat) (v : Value) (hc : (#[.int .i64 y.t.proc, .slice y.aA y.t.args.length y.cA, .slice y.aR y.t.reads.length y.cR, .slice y.aW y.t.writes.length y.cW] : Array Value).setIfInBounds i v = #[.int .i64 y'.t.proc, .slice y'.aA y'.t.args.length y'.cA, .slice y'.aR y'.t.reads.length y'.cR, .slice y'.aW y'.t.writes.length y'.cW]) (ht : TxC W (w.heap.size + 2) y') :
    OM w (W.setCell ⟨w.heap.size + 1, i, none⟩ v) r ad c b q x y' := by
  obtain ⟨m1, m2⟩ := modsNew h.rd h.gr h.r2 h.bl (w.heap.size + 1) i v (by omega)
  refine ⟨m1, m2, (heap_setCell_other W ⟨w.heap.size + 1, i, none⟩ w.heap.size v (by simp)).trans h.b2, ?_, ht.same (fun g hg => heap_setCell_other W ⟨w.heap.size + 1, i, none⟩ g v (by have := (ht.lt hg).1; simp; omega)), h.r2, h.bl⟩
  have := heap_setCell_same W (w.heap.size + 1) i _ _ v h.b3
  rw [this, hc]
theorem OM.kept (h : OM w W r ad c b q x y) (hb : Below W.heap.size W W') : OM w W' r ad c b q x y :=
  ⟨h.rd.kept hb, ⟨hb.os.trans h.gr.os, hb.tape.trans h.gr.tape, hb.output.trans h.gr.output, Nat.le_trans h.gr.size hb.size, fun k hk hr => (hb.block k (Nat.lt_of_lt_of_le hk h.gr.size)).trans (h.gr.block k hk hr)⟩, (hb.block _ (blk_lt4 h.b2)).trans h.b2, (hb.block _ (blk_lt4 h.b3)).trans h.b3, h.tc.kept hb, h.r2, h.bl⟩
/-- behind the append and the store -/
theorem OM.app {pr : Int} {A A' : List Int} {aA aA' : Option Addr} {cA cA' : Nat} (h : OM w W r ad c b q x ⟨⟨pr, A, [], []⟩, aA, cA, none, 0, none, 0⟩) (ho : OwnN W' (w.heap.size + 2) (.slice aA' A'.length cA') A') (hg : W.grownBy W' (Value.slice aA A.length cA).ownBlock) :
    OM w (W'.setCell ⟨w.heap.size + 1, 1, none⟩ (.slice aA' A'.length cA')) r ad c b q x ⟨⟨pr, A', [], []⟩, aA', cA', none, 0, none, 0⟩ := by
  have hr2 := h.r2
  have hown : ∀ k, (Value.slice aA A.length cA).ownBlock = some k → w.heap.size + 2 ≤ k := fun k hk => (h.tc.a.lt k hk).1
  have h1 : IsMod W' r ad c b q x := h.rd.grown hg (fun e => by have := hown r e; omega) (fun k hk x h0 hx e => by have := hown k hk; have := h.bl x h0 hx; omega)
  have h2 : w.grownBy W' (some r) := ⟨hg.os.trans h.gr.os, hg.tape.trans h.gr.tape, hg.output.trans h.gr.output, Nat.le_trans h.gr.size hg.size, fun k hk hr => by
    rw [hg.block k (Nat.lt_of_lt_of_le hk h.gr.size) (fun e => by have := hown k e.symm; omega), h.gr.block k hk hr]⟩
  have hb2 := (hg.block _ (blk_lt4 h.b2) (fun e => by have := hown _ e.symm; omega)).trans h.b2
  have hb3 := (hg.block _ (blk_lt4 h.b3) (fun e => by have := hown _ e.symm; omega)).trans h.b3
  obtain ⟨m1, m2⟩ := modsNew h1 h2 h.r2 h.bl (w.heap.size + 1) 1 (.slice aA' A'.length cA') (by omega)
  refine ⟨m1, m2, (heap_setCell_other W' ⟨w.heap.size + 1, 1, none⟩ w.heap.size _ (by simp)).trans hb2, ?_, ⟨ho.same (fun g hg' => heap_setCell_other W' ⟨w.heap.size + 1, 1, none⟩ g _ (by have := (ho.lt g hg').1; simp; omega)), OwnK.nil _ _, OwnK.nil _ _⟩, h.r2, h.bl⟩
  have := heap_setCell_same W' (w.heap.size + 1) 1 _ _ (.slice aA' A'.length cA') hb3
  rw [this]; rfl
theorem OM.fin (h : OM w W r ad c b q x y) :
    Mods w r ad c b q x ((((W.setCell ⟨w.heap.size, 0, none⟩ (.int .i64 y.t.proc)).setCell ⟨w.heap.size, 1, none⟩ (.slice y.aA y.t.args.length y.cA)).setCell ⟨w.heap.size, 2, none⟩ (.slice y.aR y.t.reads.length y.cR)).setCell ⟨w.heap.size, 3, none⟩ (.slice y.aW y.t.writes.length y.cW)) ∧ TxC ((((W.setCell ⟨w.heap.size, 0, none⟩ (.int .i64 y.t.proc)).setCell ⟨w.heap.size, 1, none⟩ (.slice y.aA y.t.args.length y.cA)).setCell ⟨w.heap.size, 2, none⟩ (.slice y.aR y.t.reads.length y.cR)).setCell ⟨w.heap.size, 3, none⟩ (.slice y.aW y.t.writes.length y.cW)) w.heap.size y ∧
    (loadVar 57 ⟨w.heap.size, 0, none⟩).run Try.prog ((((W.setCell ⟨w.heap.size, 0, none⟩ (.int .i64 y.t.proc)).setCell ⟨w.heap.size, 1, none⟩ (.slice y.aA y.t.args.length y.cA)).setCell ⟨w.heap.size, 2, none⟩ (.slice y.aR y.t.reads.length y.cR)).setCell ⟨w.heap.size, 3, none⟩ (.slice y.aW y.t.writes.length y.cW)) = .ok (bxv y) ((((W.setCell ⟨w.heap.size, 0, none⟩ (.int .i64 y.t.proc)).setCell ⟨w.heap.size, 1, none⟩ (.slice y.aA y.t.args.length y.cA)).setCell ⟨w.heap.size, 2, none⟩ (.slice y.aR y.t.reads.length y.cR)).setCell ⟨w.heap.size, 3, none⟩ (.slice y.aW y.t.writes.length y.cW)) := by
  have h1 := heap_setCell_same W w.heap.size 0 _ _ (.int .i64 y.t.proc) h.b2
  have h2 := heap_setCell_same _ w.heap.size 1 _ _ (.slice y.aA y.t.args.length y.cA) h1
  have h3 := heap_setCell_same _ w.heap.size 2 _ _ (.slice y.aR y.t.reads.length y.cR) h2
  have h4 := heap_setCell_same _ w.heap.size 3 _ _ (.slice y.aW y.t.writes.length y.cW) h3
  have m0 := modsNew h.rd h.gr h.r2 h.bl w.heap.size 0 (.int .i64 y.t.proc) (Nat.le_refl _)
  have m1 := modsNew m0.1 m0.2 h.r2 h.bl w.heap.size 1 (.slice y.aA y.t.args.length y.cA) (Nat.le_refl _)
  have m2 := modsNew m1.1 m1.2 h.r2 h.bl w.heap.size 2 (.slice y.aR y.t.reads.length y.cR) (Nat.le_refl _)
  have m3 := modsNew m2.1 m2.2 h.r2 h.bl w.heap.size 3 (.slice y.aW y.t.writes.length y.cW) (Nat.le_refl _)
  have ho : ∀ g, g ≠ w.heap.size → ((((W.setCell ⟨w.heap.size, 0, none⟩ (.int .i64 y.t.proc)).setCell ⟨w.heap.size, 1, none⟩ (.slice y.aA y.t.args.length y.cA)).setCell ⟨w.heap.size, 2, none⟩ (.slice y.aR y.t.reads.length y.cR)).setCell ⟨w.heap.size, 3, none⟩ (.slice y.aW y.t.writes.length y.cW)).heap[g]? = W.heap[g]? := fun g hg => by
    rw [heap_setCell_other _ ⟨w.heap.size, 3, none⟩ g _ hg, heap_setCell_other _ ⟨w.heap.size, 2, none⟩ g _ hg, heap_setCell_other _ ⟨w.heap.size, 1, none⟩ g _ hg, heap_setCell_other _ ⟨w.heap.size, 0, none⟩ g _ hg]
  refine ⟨m3, (h.tc.mono (by omega)).same (fun g hg => ho g (by have := (h.tc.lt hg).1; omega)), ?_⟩
  refine run_loadVar_mid (P := Try.prog) _ w.heap.size 0 57 [.int .i64 y.t.proc, .slice y.aA y.t.args.length y.cA, .slice y.aR y.t.reads.length y.cR, .slice y.aW y.t.writes.length y.cW] _ ?_ Try.underlying57 rfl (by kernel_rfl)
  intro j v hv
  simp only [World.cell?, h4, Nat.zero_add]
  simpa using hv
end
def OPost (w : World) (r : Nat) (ad : Option Addr) (c : Nat) (b : List Nat) (p : Nat) (e' : Ending) (W : World) : Prop :=
  ∃ y q x, e' = .returned (bxv y) ∧ TxC W w.heap.size y ∧ Mods w r ad c b q x W ∧ St (txR b p) (.ok (y.t, q)) q x
theorem box4 {W : World} {B : Nat} {a b c d : Value} {T : TypeId} (h : W.heap[B]? = some (.cells #[a, b, c, d] T (0, 0))) : W.cell? ⟨B, 0, none⟩ = some a ∧ W.cell? ⟨B, 1, none⟩ = some b ∧ W.cell? ⟨B, 2, none⟩ = some c ∧ W.cell? ⟨B, 3, none⟩ = some d := by
  refine ⟨?_, ?_, ?_, ?_⟩ <;> simp [World.cell?, h]

set_option maxRecDepth 100000 in
set_option maxHeartbeats 2000000 in
theorem refOne_any (w : World) (r : Nat) (ad : Option Addr) (c : Nat) (b : List Nat) (p : Nat) (h : IsMod w r ad c b p 0) :
    Calls Try.prog 46 #[.pointer (some ⟨r, 0, none⟩)] w fun e' w' => OPost w r ad c b p e' w' := by
  have HR : Hid (IsMod w r ad c b p 0) := h
  clear h
  have HG0 : Hid (OM w ((w.alloc (.cells #[.int .i64 0, .slice none 0 0, .slice none 0 0, .slice none 0 0] 57)).alloc (.cells #[.int .i64 0, .slice none 0 0, .slice none 0 0, .slice none 0 0] 57)) r ad c b p 0 bxD) := by
    have hA : Below w.heap.size w (w.alloc (.cells #[.int .i64 0, .slice none 0 0, .slice none 0 0, .slice none 0 0] 57)) := (Below.refl _ _).alloc (Nat.le_refl _) _
    have hB := hA.alloc (by simp) (.cells #[.int .i64 0, .slice none 0 0, .slice none 0 0, .slice none 0 0] 57)
    refine ⟨HR.out.kept hB, ⟨hB.os, hB.tape, hB.output, hB.size, fun k hk _ => hB.block k hk⟩, (heap_alloc_old _ _ (by simp)).trans (heap_alloc_new _ _ rfl), heap_alloc_new _ _ (by simp), ⟨?_, OwnK.nil _ _, OwnK.nil _ _⟩, HR.out.lt, HR.out.2.1.lt⟩
    exact OwnN.nil _ _
  go_enter Try.func46, Try.ntmps46
  go_wp2_with fail
  generalize (w.alloc (.cells #[.int .i64 0, .slice none 0 0, .slice none 0 0, .slice none 0 0] 57)).alloc (.cells #[.int .i64 0, .slice none 0 0, .slice none 0 0, .slice none 0 0] 57) = W0 at *
  obtain ⟨⟨n0, q0, f0⟩, hx0⟩ : ∃ x, x = rdUpto b p 0 63 := ⟨_, rfl⟩
  have HX0 : Hid (rdUpto b p 0 63 = (n0, q0, f0)) := hx0.symm
  have hn0 : n0 ≤ 63 := by have := rdUpto_le b p 0 63; rw [HX0.out] at this; exact this
  have HS0 : Hid (St (txR b p) (tx1 b n0 (argR b q0)) q0 f0) := by
    have := St.up (R := txR b p) (f := fun x => tx1 b x.1 (argR b x.2)) (txR_def b p)
    rw [HX0.out] at this
    exact this
  clear hx0
  refine (uUpto_any W0 r ad c b p 0 63 HG0.out.rd).mono ?_
  rintro e1 w1 ⟨rfl, hr1⟩
  rw [HX0.out] at hr1 ⊢
  have HG1 : Hid (OM w w1 r ad c b q0 f0 bxD) := HG0.out.step hr1
  have g0 : w1.frozen? ⟨w.heap.size + 1, 0, none⟩ = false := frozen_of_row w1 (w.heap.size + 1) 0 _ _ HG1.out.b3
  obtain ⟨z0, z1, z2, z3⟩ := box4 HG1.out.b3
  simp only [bxD, List.length_nil] at z0 z1 z2 z3
  have HG2 : Hid (OM w (w1.setCell ⟨w.heap.size + 1, 0, none⟩ (.int .i64 (n0 : Int))) r ad c b q0 f0 ⟨⟨n0, [], [], []⟩, none, 0, none, 0, none, 0⟩) := HG1.out.set 0 _ rfl ⟨OwnN.nil _ _, OwnK.nil _ _, OwnK.nil _ _⟩
  clear hr1 HG1 HG0 HR HX0
  go_wp2_with fail
  generalize w1.setCell ⟨w.heap.size + 1, 0, none⟩ (.int .i64 (n0 : Int)) = W1 at *
  clear z0 z1 z2 z3 g0
  obtain ⟨⟨n, q1, f1⟩, hx1⟩ : ∃ x, x = rdUpto b q0 f0 16 := ⟨_, rfl⟩
  have HX1 : Hid (rdUpto b q0 f0 16 = (n, q1, f1)) := hx1.symm
  have hn : n ≤ 16 := by have := rdUpto_le b q0 f0 16; rw [HX1.out] at this; exact this
  have HS1 : Hid (St (if f0 = 0 then argR b q0 else .error (q0, f0)) (argsR b n [] q1) q1 f1) := by
    have := St.upE (S := argR b q0) (f := fun x => argsR b x.1 [] x.2) f0 (argR_def b q0)
    rw [HX1.out] at this
    exact this
  clear hx1
  refine (uUpto_any W1 r ad c b q0 f0 16 HG2.out.rd).mono ?_
  rintro e1 w1 ⟨rfl, hr1⟩
  rw [HX1.out] at hr1 ⊢
  have HG3 : Hid (OM w w1 r ad c b q1 f1 ⟨⟨n0, [], [], []⟩, none, 0, none, 0, none, 0⟩) := HG2.out.step hr1
  clear hr1 HG2 HX1
  go_wp2_with fail
  go_loopw [5] (fun i wr => ∃ k : Nat, k ≤ n ∧ i = .int .u64 (k : Int) ∧ ∃ aA cA q x A, Hid (OM w wr r ad c b q x ⟨⟨n0, A, [], []⟩, aA, cA, none, 0, none, 0⟩) ∧ Hid (A.length = k ∧ St (if f0 = 0 then argR b q0 else .error (q0, f0)) (argsR b (n - k) A q) q x)) (fun i _ => n - (intOf i).toNat)
  case atStart => exact ⟨0, Nat.zero_le _, rfl, none, 0, q1, f1, [], HG3, rfl, HS1.out⟩
  case round =>
    clear HG3 HS1
    obtain ⟨k, hk, rfl, aA, cA, q, x, A, HG, HS⟩ := hrel
    have x2 := HG.out.rd.c2
    by_cases hlt : k < n
    · have hlt' : (k : Int) < (n : Int) := by omega
      by_cases he : x = 0
      · subst he
        have HLk : Hid (A.length = k) := HS.out.1
        obtain ⟨⟨m, q2, f2⟩, hx⟩ : ∃ x, x = rdUpto b q 0 18446744073709551615 := ⟨_, rfl⟩
        have HX : Hid (rdUpto b q 0 18446744073709551615 = (m, q2, f2)) := hx.symm
        have HS2 : Hid (St (if f0 = 0 then argR b q0 else .error (q0, f0)) (argsR b (n - (k + 1)) (A ++ [unfold m]) q2) q2 f2) := by
          have h2 := HS.out.2.zero
          rw [show n - k = (n - (k + 1)) + 1 by omega, argsR_step] at h2
          have := St.up (R := (if f0 = 0 then argR b q0 else .error (q0, f0))) (f := fun x => argsR b (n - (k + 1)) (A ++ [unfold x.1]) x.2) h2
          rw [HX.out] at this
          exact this
        clear hx HS
        go_wp2_with fail
        refine (uInt_any wr r ad c b q 0 HG.out.rd).mono ?_
        rintro e1 w2 ⟨rfl, hr2⟩
        rw [HX.out] at hr2 ⊢
        have HG2 : Hid (OM w w2 r ad c b q2 f2 ⟨⟨n0, A, [], []⟩, aA, cA, none, 0, none, 0⟩) := HG.out.step hr2
        generalize unfold m = z at *
        clear hr2 HG HX x2
        obtain ⟨z0, z1, z2, z3⟩ := box4 HG2.out.b3
        simp only at z0 z1 z2 z3
        have hsz : w.heap.size + 2 ≤ w2.heap.size := by have := blk_lt4 HG2.out.b3; omega
        have HLn : Hid (A.length = k) := HLk.out
        rw [HLk.out] at z1
        have HOw : Hid (OwnN w2 (w.heap.size + 2) (.slice aA k cA) A) := by have := HG2.out.tc.a; simp only at this; rw [HLk.out] at this; exact this
        clear HLk z0 z2 z3
        go_wp2_with (
          at_builtin
          refine wpList_append_num rfl _ _ rfl (w.heap.size + 2) (.slice aA k cA) A rfl (HOw.out.alloc _) _ z rfl (by simp) (by have := HLn.out; omega) (by simp only [World.size_alloc]; omega) ?_
          intro v8 w8 ho8 hg8 hv8
          obtain ⟨a8, c8, rfl, hh1, hh2, hh3⟩ := ho8.slice
          have hl8 : (A ++ [z]).length = k + 1 := (by rw [List.length_append, HLn.out]; rfl)
          have HG8 : Hid (OM w (w8.setCell ⟨w.heap.size + 1, 1, none⟩ (.slice a8 (k + 1) c8)) r ad c b q2 f2 ⟨⟨n0, A ++ [z], [], []⟩, a8, c8, none, 0, none, 0⟩) := (by
            have h := hg8
            rw [← HLn.out] at h
            have h2 := OM.app (HG2.out.kept ((Below.refl _ _).alloc (Nat.le_refl _) _)) ho8 h
            rw [hl8] at h2
            exact h2)
          have hb8 := (hg8.block _ (blk_lt4 (HG2.out.kept ((Below.refl _ _).alloc (Nat.le_refl _) (.cells #[.int .i64 z] 2))).b3) (fun e => by have := (HOw.out.lt _ e.symm).1; omega)).trans (HG2.out.kept ((Below.refl _ _).alloc (Nat.le_refl _) (.cells #[.int .i64 z] 2))).b3
          have y2 := frozen_of_row w8 (w.heap.size + 1) 1 _ _ hb8
          have y1 := (box4 hb8).2.1
          simp only at y1
          rw [HLn.out] at y1
          have HS8 : Hid ((A ++ [z]).length = k + 1 ∧ St (if f0 = 0 then argR b q0 else .error (q0, f0)) (argsR b (n - (k + 1)) (A ++ [z]) q2) q2 f2) := ⟨hl8, HS2.out⟩
          rw [hl8]
          clear ho8 hg8 hv8 hl8 hh1 hh2 hh3 hb8)
        clear HG2 HS2 HOw HLn z1
        go_wp2
        go_roundw
        case rel => exact ⟨k + 1, by omega, by go_num, a8, c8, q2, f2, _, HG8, HS8⟩
        case measure => simp [intOf]; omega
      · have he' : (x == 0) = false := by simpa using he
        have HS2 : Hid (St (if f0 = 0 then argR b q0 else .error (q0, f0)) (.ok (A, q)) q x) := HS.out.2.more he
        clear HS he
        have HT2 : Hid (St (txR b p) (tx2 b n0 A (setR b 16 q)) q x) := St.bind (g := tx1 b n0) (tx1_err b n0) HS0.out HS2.out
        clear HS2 HS0
        go_wp2_with fail
        refine (refKeys_any wr r ad c b q x 16 HG.out.rd (by omega)).mono ?_
        rintro e1 w3 ⟨aR, cR, R, q3, x3, rfl, ho3, hr3, hl3, hs3⟩
        have HG3 : Hid (OM w w3 r ad c b q3 x3 ⟨⟨n0, A, [], []⟩, aA, cA, none, 0, none, 0⟩) := HG.out.step hr3
        have HT3 : Hid (St (txR b p) (tx3 n0 A R (setR b 16 q3)) q3 x3) := St.bind (g := tx2 b n0 A) (tx2_err b n0 A) HT2.out hs3
        have HO3 : Hid (OwnK w3 (w.heap.size + 2) (.slice aR R.length cR) R) := ho3.mono (by have := blk_lt4 HG.out.b3; omega)
        clear ho3 hr3 hs3 HT2 HG x2
        have HG4 : Hid (OM w (w3.setCell ⟨w.heap.size + 1, 2, none⟩ (.slice aR R.length cR)) r ad c b q3 x3 ⟨⟨n0, A, R, []⟩, aA, cA, aR, cR, none, 0⟩) := HG3.out.set 2 _ rfl ⟨HG3.out.tc.a, HO3.out, OwnK.nil _ _⟩
        obtain ⟨z0, z1, z2, z3⟩ := box4 HG3.out.b3
        have g2 : w3.frozen? ⟨w.heap.size + 1, 2, none⟩ = false := frozen_of_row w3 (w.heap.size + 1) 2 _ _ HG3.out.b3
        simp only [List.length_nil] at z0 z1 z2 z3
        go_wp2_with fail
        generalize w3.setCell ⟨w.heap.size + 1, 2, none⟩ (.slice aR R.length cR) = W4 at *
        clear z0 z1 z2 z3 g2 HG3 HO3
        refine (refKeys_any W4 r ad c b q3 x3 16 HG4.out.rd (by omega)).mono ?_
        rintro e1 w5 ⟨aV, cV, V, q5, x5, rfl, ho5, hr5, hl5, hs5⟩
        have HG5 : Hid (OM w w5 r ad c b q5 x5 ⟨⟨n0, A, R, []⟩, aA, cA, aR, cR, none, 0⟩) := HG4.out.step hr5
        have HT5 : Hid (St (txR b p) (.ok (⟨n0, A, R, V⟩, q5)) q5 x5) := St.bind (g := tx3 n0 A R) (tx3_err n0 A R) HT3.out hs5
        have HO5 : Hid (OwnK w5 (w.heap.size + 2) (.slice aV V.length cV) V) := ho5.mono (by have := blk_lt4 HG4.out.b3; omega)
        clear ho5 hr5 hs5 HT3 HG4
        have HG6 : Hid (OM w (w5.setCell ⟨w.heap.size + 1, 3, none⟩ (.slice aV V.length cV)) r ad c b q5 x5 ⟨⟨n0, A, R, V⟩, aA, cA, aR, cR, aV, cV⟩) := HG5.out.set 3 _ rfl ⟨HG5.out.tc.a, HG5.out.tc.r, HO5.out⟩
        obtain ⟨z0, z1, z2, z3⟩ := box4 HG5.out.b3
        have g3 : w5.frozen? ⟨w.heap.size + 1, 3, none⟩ = false := frozen_of_row w5 (w.heap.size + 1) 3 _ _ HG5.out.b3
        simp only [List.length_nil] at z0 z1 z2 z3
        go_upto_region 11 with fail
        generalize w5.setCell ⟨w.heap.size + 1, 3, none⟩ (.slice aV V.length cV) = W6 at *
        clear z0 z1 z2 z3 g3 HG5 HO5
        obtain ⟨y0, y1, y2, y3⟩ := box4 HG6.out.b3
        obtain ⟨v0, v1, v2, v3⟩ := box4 HG6.out.b2
        have g0 := frozen_of_row W6 w.heap.size 0 _ _ HG6.out.b2
        have g1 := frozen_of_row W6 w.heap.size 1 _ _ HG6.out.b2
        have g2 := frozen_of_row W6 w.heap.size 2 _ _ HG6.out.b2
        have g3 := frozen_of_row W6 w.heap.size 3 _ _ HG6.out.b2
        obtain ⟨f1, f2, f3⟩ := HG6.out.fin
        simp only at y0 y1 y2 y3 f1 f2 f3
        have HF : Hid (OPost w r ad c b p (.returned (bxv ⟨⟨n0, A, R, V⟩, aA, cA, aR, cR, aV, cV⟩)) ((((W6.setCell ⟨w.heap.size, 0, none⟩ (.int .i64 (n0 : Int))).setCell ⟨w.heap.size, 1, none⟩ (.slice aA A.length cA)).setCell ⟨w.heap.size, 2, none⟩ (.slice aR R.length cR)).setCell ⟨w.heap.size, 3, none⟩ (.slice aV V.length cV))) := ⟨_, q5, x5, rfl, f2, f1, HT5.out⟩
        have HLd : Hid ((loadVar 57 ⟨w.heap.size, 0, none⟩).run Try.prog ((((W6.setCell ⟨w.heap.size, 0, none⟩ (.int .i64 (n0 : Int))).setCell ⟨w.heap.size, 1, none⟩ (.slice aA A.length cA)).setCell ⟨w.heap.size, 2, none⟩ (.slice aR R.length cR)).setCell ⟨w.heap.size, 3, none⟩ (.slice aV V.length cV)) = .ok (.agg #[.int .i64 (n0 : Int), .slice aA A.length cA, .slice aR R.length cR, .slice aV V.length cV]) ((((W6.setCell ⟨w.heap.size, 0, none⟩ (.int .i64 (n0 : Int))).setCell ⟨w.heap.size, 1, none⟩ (.slice aA A.length cA)).setCell ⟨w.heap.size, 2, none⟩ (.slice aR R.length cR)).setCell ⟨w.heap.size, 3, none⟩ (.slice aV V.length cV))) := f3
        clear f1 f2 f3 HG6 HT5
        go_wp2
        refine bodyPost_ret (v := .agg #[.int .i64 (n0 : Int), .slice aA A.length cA, .slice aR R.length cR, .slice aV V.length cV]) ?_ rfl HF.out
        simp [results, Try.results46, asAddr, HLd.out]
    · obtain rfl : k = n := by omega
      have HS2 : Hid (St (if f0 = 0 then argR b q0 else .error (q0, f0)) (.ok (A, q)) q x) := by
        have := HS.out.2
        rw [Nat.sub_self] at this
        exact this
      clear HS
      have HT2 : Hid (St (txR b p) (tx2 b n0 A (setR b 16 q)) q x) := St.bind (g := tx1 b n0) (tx1_err b n0) HS0.out HS2.out
      clear HS2 HS0
      go_wp2_with fail
      refine (refKeys_any wr r ad c b q x 16 HG.out.rd (by omega)).mono ?_
      rintro e1 w3 ⟨aR, cR, R, q3, x3, rfl, ho3, hr3, hl3, hs3⟩
      have HG3 : Hid (OM w w3 r ad c b q3 x3 ⟨⟨n0, A, [], []⟩, aA, cA, none, 0, none, 0⟩) := HG.out.step hr3
      have HT3 : Hid (St (txR b p) (tx3 n0 A R (setR b 16 q3)) q3 x3) := St.bind (g := tx2 b n0 A) (tx2_err b n0 A) HT2.out hs3
      have HO3 : Hid (OwnK w3 (w.heap.size + 2) (.slice aR R.length cR) R) := ho3.mono (by have := blk_lt4 HG.out.b3; omega)
      clear ho3 hr3 hs3 HT2 HG x2
      have HG4 : Hid (OM w (w3.setCell ⟨w.heap.size + 1, 2, none⟩ (.slice aR R.length cR)) r ad c b q3 x3 ⟨⟨n0, A, R, []⟩, aA, cA, aR, cR, none, 0⟩) := HG3.out.set 2 _ rfl ⟨HG3.out.tc.a, HO3.out, OwnK.nil _ _⟩
      obtain ⟨z0, z1, z2, z3⟩ := box4 HG3.out.b3
      have g2 : w3.frozen? ⟨w.heap.size + 1, 2, none⟩ = false := frozen_of_row w3 (w.heap.size + 1) 2 _ _ HG3.out.b3
      simp only [List.length_nil] at z0 z1 z2 z3
      go_wp2_with fail
      generalize w3.setCell ⟨w.heap.size + 1, 2, none⟩ (.slice aR R.length cR) = W4 at *
      clear z0 z1 z2 z3 g2 HG3 HO3
      refine (refKeys_any W4 r ad c b q3 x3 16 HG4.out.rd (by omega)).mono ?_
      rintro e1 w5 ⟨aV, cV, V, q5, x5, rfl, ho5, hr5, hl5, hs5⟩
      have HG5 : Hid (OM w w5 r ad c b q5 x5 ⟨⟨n0, A, R, []⟩, aA, cA, aR, cR, none, 0⟩) := HG4.out.step hr5
      have HT5 : Hid (St (txR b p) (.ok (⟨n0, A, R, V⟩, q5)) q5 x5) := St.bind (g := tx3 n0 A R) (tx3_err n0 A R) HT3.out hs5
      have HO5 : Hid (OwnK w5 (w.heap.size + 2) (.slice aV V.length cV) V) := ho5.mono (by have := blk_lt4 HG4.out.b3; omega)
      clear ho5 hr5 hs5 HT3 HG4
      have HG6 : Hid (OM w (w5.setCell ⟨w.heap.size + 1, 3, none⟩ (.slice aV V.length cV)) r ad c b q5 x5 ⟨⟨n0, A, R, V⟩, aA, cA, aR, cR, aV, cV⟩) := HG5.out.set 3 _ rfl ⟨HG5.out.tc.a, HG5.out.tc.r, HO5.out⟩
      obtain ⟨z0, z1, z2, z3⟩ := box4 HG5.out.b3
      have g3 : w5.frozen? ⟨w.heap.size + 1, 3, none⟩ = false := frozen_of_row w5 (w.heap.size + 1) 3 _ _ HG5.out.b3
      simp only [List.length_nil] at z0 z1 z2 z3
      go_upto_region 11 with fail
      generalize w5.setCell ⟨w.heap.size + 1, 3, none⟩ (.slice aV V.length cV) = W6 at *
      clear z0 z1 z2 z3 g3 HG5 HO5
      obtain ⟨y0, y1, y2, y3⟩ := box4 HG6.out.b3
      obtain ⟨v0, v1, v2, v3⟩ := box4 HG6.out.b2
      have g0 := frozen_of_row W6 w.heap.size 0 _ _ HG6.out.b2
      have g1 := frozen_of_row W6 w.heap.size 1 _ _ HG6.out.b2
      have g2 := frozen_of_row W6 w.heap.size 2 _ _ HG6.out.b2
      have g3 := frozen_of_row W6 w.heap.size 3 _ _ HG6.out.b2
      obtain ⟨f1, f2, f3⟩ := HG6.out.fin
      simp only at y0 y1 y2 y3 f1 f2 f3
      have HF : Hid (OPost w r ad c b p (.returned (bxv ⟨⟨n0, A, R, V⟩, aA, cA, aR, cR, aV, cV⟩)) ((((W6.setCell ⟨w.heap.size, 0, none⟩ (.int .i64 (n0 : Int))).setCell ⟨w.heap.size, 1, none⟩ (.slice aA A.length cA)).setCell ⟨w.heap.size, 2, none⟩ (.slice aR R.length cR)).setCell ⟨w.heap.size, 3, none⟩ (.slice aV V.length cV))) := ⟨_, q5, x5, rfl, f2, f1, HT5.out⟩
      have HLd : Hid ((loadVar 57 ⟨w.heap.size, 0, none⟩).run Try.prog ((((W6.setCell ⟨w.heap.size, 0, none⟩ (.int .i64 (n0 : Int))).setCell ⟨w.heap.size, 1, none⟩ (.slice aA A.length cA)).setCell ⟨w.heap.size, 2, none⟩ (.slice aR R.length cR)).setCell ⟨w.heap.size, 3, none⟩ (.slice aV V.length cV)) = .ok (.agg #[.int .i64 (n0 : Int), .slice aA A.length cA, .slice aR R.length cR, .slice aV V.length cV]) ((((W6.setCell ⟨w.heap.size, 0, none⟩ (.int .i64 (n0 : Int))).setCell ⟨w.heap.size, 1, none⟩ (.slice aA A.length cA)).setCell ⟨w.heap.size, 2, none⟩ (.slice aR R.length cR)).setCell ⟨w.heap.size, 3, none⟩ (.slice aV V.length cV))) := f3
      clear f1 f2 f3 HG6 HT5
      go_wp2
      refine bodyPost_ret (v := .agg #[.int .i64 (n0 : Int), .slice aA A.length cA, .slice aR R.length cR, .slice aV V.length cV]) ?_ rfl HF.out
      simp [results, Try.results46, asAddr, HLd.out]
end Go.Proofs.Ytlilaicgmdbhcaa.Kk
