import Derived.Test.YtbpgafchagpmoaaJLRefL
import Derived.Test.YtbpgafchagpmoaaXNewA
import Derived.Test.YtbpgafchagpmoaaJXMove
import Derived.Test.YtbpgafchagpmoaaXNew
/-
  THE DOCUMENT's MACHINE IN MEMORY.
-/
namespace Go.Proofs.Ytbpgafchagpmoaa
open Go.RowKit Go.Sort

/-- what it was given: the program, the args, the reads -/
structure MC where
  p : Nums
  ao : Option Addr
  n : Nat
  cap : Nat
  aa : Option Addr
  na : Nat
  ca : Nat
  ra : Option Addr
  nr : Nat
  cr : Nat
/-- the values of its own slices -/
structure RH where
  sv : Value
  lv : Value
  ov : Value
  pv : Value
/-- its cells; of a state m the mark 'ended' is its Done -/
def rbox (c : MC) (h : RH) (m : M) : Array Value := #[.int .i64 c.p.args, .int .i64 c.p.reads, .int .i64 c.p.writes, .int .i64 c.p.locals, .slice c.ao c.n c.cap, .slice c.aa c.na c.ca, .slice c.ra c.nr c.cr, h.sv, h.lv, h.ov, h.pv, .int .i64 (m.at_ : Int), .int .i64 (m.steps : Int), .bool m.ended, .int .i64 m.fault, .int .i64 m.user]
/-- BLOCK B IS THE DOCUMENT's MACHINE -/
structure MR (w : World) (B : Nat) (O : Nat → Nat) (h : RH) (c : MC) (m : M) : Prop where
  box : w.heap[B]? = some (.cells (rbox c h m) 74 (0, 0))
  oB : O B = 1
  stack : Own64 w 0 h.sv m.st.reverse
  locs : Own64 w 0 h.lv m.lo
  out : Own64 w 0 h.ov m.ou
  puts : OwnP w 0 h.pv m.pu
  os : ∀ g, h.sv.ownBlock = some g → O g = 2
  ol : ∀ g, h.lv.ownBlock = some g → O g = 4
  oo : ∀ g, h.ov.ownBlock = some g → O g = 3
  op : ∀ g, h.pv.ownBlock = some g → O g = 5
  new : ∀ k, w.heap.size ≤ k → O k = 0
def MRt (w : World) (F : Nat → Prop) (B : Nat) (c : MC) (m : M) : Prop := ∃ O h, MR w B O h c m ∧ Apt w F O
section
variable {w w1 : World} {B : Nat} {O O' : Nat → Nat} {h : RH} {c : MC} {m : M} {F : Nat → Prop}
theorem MR.lt (x : MR w B O h c m) : B < w.heap.size := (Array.getElem?_eq_some_iff.1 x.box).1
theorem MR.cell (x : MR w B O h c m) (i : Nat) : w.cell? ⟨B, i, none⟩ = (rbox c h m)[i]? := by simp [World.cell?, x.box]
theorem MR.frozen (x : MR w B O h c m) (i : Nat) : w.frozen? ⟨B, i, none⟩ = false := frozen_of_row w B i _ _ x.box
theorem MR.own (x : MR w B O h c m) (k : Nat) (hk : O k ≠ 0) : k < w.heap.size := by
  by_cases h1 : k < w.heap.size
  · exact h1
  · exact absurd (x.new k (by omega)) hk
/-- kept where all its blocks are -/
theorem MR.same (x : MR w B O h c m) (hs : ∀ k, O k ≠ 0 → w1.heap[k]? = w.heap[k]?) (hz : w.heap.size ≤ w1.heap.size) : MR w1 B O h c m :=
  ⟨(hs B (by rw [x.oB]; decide)).trans x.box, x.oB, ownsRow_same x.stack (fun g e => hs g (by rw [x.os g e]; decide)), ownsRow_same x.locs (fun g e => hs g (by rw [x.ol g e]; decide)), ownsRow_same x.out (fun g e => hs g (by rw [x.oo g e]; decide)), ownsRow_same x.puts (fun g e => hs g (by rw [x.op g e]; decide)), x.os, x.ol, x.oo, x.op, fun k hk => x.new k (by omega)⟩
theorem MR.kept (x : MR w B O h c m) (hb : Go.RowKit.Below w.heap.size w w1) : MR w1 B O h c m := x.same (fun k hk => hb.block k (x.own k hk)) hb.size
theorem MRt.kept (x : MRt w F B c m) (hb : Go.RowKit.Below w.heap.size w w1) : MRt w1 F B c m ∧ Fr F w w1 := by
  obtain ⟨O, h, x, hF⟩ := x
  exact ⟨⟨O, h, x.kept hb, fun k hk => ⟨(hF k hk).1, Nat.lt_of_lt_of_le (hF k hk).2 hb.size⟩⟩, Fr.ofBelow hb (fun k hk => (hF k hk).2)⟩
theorem MRt.add (x : MRt w F B c m) (o : Obj) : MRt (w.alloc o) (fun k => F k ∨ k = w.heap.size) B c m := by
  obtain ⟨O, h, x, hF⟩ := x
  refine ⟨O, h, x.kept ((Below.refl _ _).alloc (Nat.le_refl _) _), fun k hk => ?_⟩
  rcases hk with hk | hk
  · exact ⟨(hF k hk).1, by have := (hF k hk).2; simp; omega⟩
  · subst hk; exact ⟨x.new _ (Nat.le_refl _), by simp⟩
theorem MRt.mono {G : Nat → Prop} (x : MRt w F B c m) (hg : ∀ k, G k → F k) : MRt w G B c m := by
  obtain ⟨O, h, x, hF⟩ := x
  exact ⟨O, h, x, fun k hk => hF k (hg k hk)⟩
/-- a store into its block: the rows h' are there, whose they are O' says -/
theorem MR.store (x : MR w B O h c m) (i : Nat) (v : Value) (h' : RH) (m' : M) (hb : (rbox c h m).setIfInBounds i v = rbox c h' m') (ho : O' B = 1)
    (hw : w1.heap[B]? = w.heap[B]?) (hn : ∀ k, w1.heap.size ≤ k → O' k = 0) (s1 : Own64 w1 0 h'.sv m'.st.reverse) (s2 : Own64 w1 0 h'.lv m'.lo) (s3 : Own64 w1 0 h'.ov m'.ou) (s4 : OwnP w1 0 h'.pv m'.pu)
    (o1 : ∀ g, h'.sv.ownBlock = some g → O' g = 2) (o2 : ∀ g, h'.lv.ownBlock = some g → O' g = 4) (o3 : ∀ g, h'.ov.ownBlock = some g → O' g = 3) (o4 : ∀ g, h'.pv.ownBlock = some g → O' g = 5) :
    MR (w1.setCell ⟨B, i, none⟩ v) B O' h' c m' := by
  have hne : ∀ g, O' g ≠ 1 → (w1.setCell ⟨B, i, none⟩ v).heap[g]? = w1.heap[g]? := fun g hg => heap_setCell_other w1 ⟨B, i, none⟩ g v (fun e => hg (by rw [e]; exact ho))
  refine ⟨?_, ho, ownsRow_same s1 (fun g e => hne g (by rw [o1 g e]; decide)), ownsRow_same s2 (fun g e => hne g (by rw [o2 g e]; decide)), ownsRow_same s3 (fun g e => hne g (by rw [o3 g e]; decide)), ownsRow_same s4 (fun g e => hne g (by rw [o4 g e]; decide)), o1, o2, o3, o4, fun k hk => hn k (by simpa using hk)⟩
  rw [heap_setCell_same w1 B i _ _ v (hw.trans x.box), hb]
/-- a number of its own is stored -/
theorem MRt.put (x : MRt w F B c m) (i : Nat) (v : Value) (m' : M) (hb : ∀ h, (rbox c h m).setIfInBounds i v = rbox c h m') (hs : m'.st = m.st) (hl : m'.lo = m.lo) (ho : m'.ou = m.ou) (hp : m'.pu = m.pu) :
    w.frozen? ⟨B, i, none⟩ = false ∧ MRt (w.setCell ⟨B, i, none⟩ v) F B c m' ∧ Fr F w (w.setCell ⟨B, i, none⟩ v) := by
  obtain ⟨O, h, x, hF⟩ := x
  refine ⟨x.frozen i, ⟨O, h, x.store i v h m' (hb h) x.oB rfl x.new (by rw [hs]; exact x.stack) (by rw [hl]; exact x.locs) (by rw [ho]; exact x.out) (by rw [hp]; exact x.puts) x.os x.ol x.oo x.op, fun k hk => ⟨(hF k hk).1, by have := (hF k hk).2; simpa using this⟩⟩, (Fr.refl F w).set _ _ (fun hk => by have := (hF B hk).1; rw [x.oB] at this; cases this)⟩
/-- labels behind a growth of one row -/
theorem MR.regrow (x : MR w B O h c m) {row : Option Nat} (hg : w.grownBy w1 row) (q : Nat) (hrow : ∀ k, row = some k → O k = q) {v' : Value} (hv : v'.ownBlock = row ∨ v'.ownBlock = some w.heap.size) (hz : ∀ k, v'.ownBlock = some k → k < w1.heap.size) :
    ∃ O' : Nat → Nat, (∀ k, v'.ownBlock = some k → O' k = q) ∧ (∀ k, k < w.heap.size → O' k = O k) ∧ (∀ k, w1.heap.size ≤ k → O' k = 0) ∧ (∀ k, O k ≠ 0 → O k ≠ q → w1.heap[k]? = w.heap[k]?) := by
  rcases hv with hv | hv
  · exact ⟨O, fun k hk => hrow k (by rw [← hv]; exact hk), fun _ _ => rfl, fun k hk => x.new k (by have := hg.size; omega), fun k h0 hk => hg.block k (x.own k h0) (fun e => hk (hrow k e.symm))⟩
  · have hlt : w.heap.size < w1.heap.size := hz _ hv
    refine ⟨fun k => if k = w.heap.size then q else O k, fun k hk => ?_, fun k hk => ?_, fun k hk => ?_, fun k h0 hk => hg.block k (x.own k h0) (fun e => hk (hrow k e.symm))⟩
    · rw [hv] at hk; cases hk; simp
    · exact if_neg (by omega)
    · show (if k = w.heap.size then q else O k) = 0
      rw [if_neg (by omega)]; exact x.new k (by omega)
/-- a row of it has become another: the frame -/
theorem MR.frame (x : MR w B O h c m) (hF : Apt w F O) {row : Option Nat} (hg : w.grownBy w1 row) (hrow : ∀ k, row = some k → O k ≠ 0) (i : Nat) (v : Value) (h2 : ∀ k, k < w.heap.size → O' k = O k) : Apt (w1.setCell ⟨B, i, none⟩ v) F O' ∧ Fr F w (w1.setCell ⟨B, i, none⟩ v) := by
  refine ⟨fun k hk => ⟨(h2 k (hF k hk).2).trans (hF k hk).1, by have := (hF k hk).2; have := hg.size; simp; omega⟩, hg.os, hg.tape, hg.output, by simpa using hg.size, fun k hk => ?_⟩
  obtain ⟨f1, f2⟩ := hF k hk
  rw [heap_setCell_other w1 ⟨B, i, none⟩ k v (fun e => by rw [e, x.oB] at f1; cases f1)]
  exact hg.block k f2 (fun e => hrow k e.symm f1)
/-- the stack has grown -/
theorem MR.stacked (x : MR w B O h c m) (hF : Apt w F O) (hg : w.grownBy w1 h.sv.ownBlock) {v' : Value} {S : List Int} (ho : Own64 w1 0 v' S.reverse) (hv : v'.ownBlock = h.sv.ownBlock ∨ v'.ownBlock = some w.heap.size) :
    MRt (w1.setCell ⟨B, 7, none⟩ v') F B c { m with st := S } ∧ Fr F w (w1.setCell ⟨B, 7, none⟩ v') := by
  obtain ⟨O', p1, p2, p3, p4⟩ := x.regrow hg 2 x.os hv (fun k hk => (World.ownsRow.lt ho k hk).2)
  have q : ∀ k e, O k = e → e ≠ 0 → O' k = e := fun k e he h0 => (p2 k (x.own k (by rw [he]; exact h0))).trans he
  have hs : ∀ k e, O k = e → e ≠ 0 → e ≠ 2 → w1.heap[k]? = w.heap[k]? := fun k e he h0 h2 => p4 k (by rw [he]; exact h0) (by rw [he]; exact h2)
  obtain ⟨f1, f2⟩ := x.frame hF hg (fun k e => by rw [x.os k e]; decide) 7 v' p2
  exact ⟨⟨O', { h with sv := v' }, x.store 7 v' { h with sv := v' } { m with st := S } rfl (q B 1 x.oB (by decide)) (hs B 1 x.oB (by decide) (by decide)) p3 ho (ownsRow_same x.locs (fun g e => hs g 4 (x.ol g e) (by decide) (by decide))) (ownsRow_same x.out (fun g e => hs g 3 (x.oo g e) (by decide) (by decide))) (ownsRow_same x.puts (fun g e => hs g 5 (x.op g e) (by decide) (by decide))) p1 (fun g e => q g 4 (x.ol g e) (by decide)) (fun g e => q g 3 (x.oo g e) (by decide)) (fun g e => q g 5 (x.op g e) (by decide)), f1⟩, f2⟩
/-- the outputs have grown -/
theorem MR.told (x : MR w B O h c m) (hF : Apt w F O) (hg : w.grownBy w1 h.ov.ownBlock) {v' : Value} {S : List Int} (ho : Own64 w1 0 v' S) (hv : v'.ownBlock = h.ov.ownBlock ∨ v'.ownBlock = some w.heap.size) :
    MRt (w1.setCell ⟨B, 9, none⟩ v') F B c { m with ou := S } ∧ Fr F w (w1.setCell ⟨B, 9, none⟩ v') := by
  obtain ⟨O', p1, p2, p3, p4⟩ := x.regrow hg 3 x.oo hv (fun k hk => (World.ownsRow.lt ho k hk).2)
  have q : ∀ k e, O k = e → e ≠ 0 → O' k = e := fun k e he h0 => (p2 k (x.own k (by rw [he]; exact h0))).trans he
  have hs : ∀ k e, O k = e → e ≠ 0 → e ≠ 3 → w1.heap[k]? = w.heap[k]? := fun k e he h0 h2 => p4 k (by rw [he]; exact h0) (by rw [he]; exact h2)
  obtain ⟨f1, f2⟩ := x.frame hF hg (fun k e => by rw [x.oo k e]; decide) 9 v' p2
  exact ⟨⟨O', { h with ov := v' }, x.store 9 v' { h with ov := v' } { m with ou := S } rfl (q B 1 x.oB (by decide)) (hs B 1 x.oB (by decide) (by decide)) p3 (ownsRow_same x.stack (fun g e => hs g 2 (x.os g e) (by decide) (by decide))) (ownsRow_same x.locs (fun g e => hs g 4 (x.ol g e) (by decide) (by decide))) ho (ownsRow_same x.puts (fun g e => hs g 5 (x.op g e) (by decide) (by decide))) (fun g e => q g 2 (x.os g e) (by decide)) (fun g e => q g 4 (x.ol g e) (by decide)) p1 (fun g e => q g 5 (x.op g e) (by decide)), f1⟩, f2⟩
/-- new locals -/
theorem MR.newL (x : MR w B O h c m) (hF : Apt w F O) (nl : Nat) (hn : nl ≤ 16) :
    MRt ((w.alloc (.cells (zL nl) 2)).setCell ⟨B, 8, none⟩ (.slice (some ⟨w.heap.size, 0, none⟩) nl nl)) F B c { m with lo := List.replicate nl 0 } ∧ Fr F w ((w.alloc (.cells (zL nl) 2)).setCell ⟨B, 8, none⟩ (.slice (some ⟨w.heap.size, 0, none⟩) nl nl)) := by
  have hg : w.grownBy (w.alloc (.cells (zL nl) 2)) none := World.grownBy_alloc w _ none
  have hb : Go.RowKit.Below w.heap.size w (w.alloc (.cells (zL nl) 2)) := (Below.refl _ _).alloc (Nat.le_refl _) _
  have y := x.kept hb
  have p2 : ∀ k, k < w.heap.size → (if k = w.heap.size then 4 else O k) = O k := fun k hk => if_neg (by omega)
  have q : ∀ k e, O k = e → e ≠ 0 → (if k = w.heap.size then 4 else O k) = e := fun k e he h0 => (p2 k (x.own k (by rw [he]; exact h0))).trans he
  obtain ⟨f1, f2⟩ := x.frame hF hg (fun k e => by cases e) 8 (.slice (some ⟨w.heap.size, 0, none⟩) nl nl) p2
  refine ⟨⟨fun k => if k = w.heap.size then 4 else O k, { h with lv := .slice (some ⟨w.heap.size, 0, none⟩) nl nl }, x.store (w1 := w.alloc (.cells (zL nl) 2)) (O' := fun k => if k = w.heap.size then 4 else O k) 8 _ _ _ rfl (q B 1 x.oB (by decide)) (hb.block B x.lt) (fun k hk => ?_) y.stack ?_ y.out y.puts (fun g e => q g 2 (x.os g e) (by decide)) (fun g e => ?_) (fun g e => q g 3 (x.oo g e) (by decide)) (fun g e => q g 5 (x.op g e) (by decide)), f1⟩, f2⟩
  · have : w.heap.size + 1 ≤ k := by simpa using hk
    show (if k = w.heap.size then 4 else O k) = 0
    rw [if_neg (by omega)]; exact x.new k (by omega)
  · refine ⟨by simp, .inr ⟨w.heap.size, nl, zL nl, by simp, Nat.zero_le _, heap_alloc_new _ _ rfl, by simp, by unfold maxLen; omega, ?_, ?_⟩⟩
    · rw [← Array.length_toList, zL_list]; simp
    · rw [zL_list, List.take_of_length_le (by simp)]
  · cases e; exact if_pos rfl
/-- new writes -/
theorem MR.newP (x : MR w B O h c m) (hF : Apt w F O) (np : Nat) (hn : np ≤ 16) :
    MRt ((w.alloc (.cells (zP np) 60)).setCell ⟨B, 10, none⟩ (.slice (some ⟨w.heap.size, 0, none⟩) np np)) F B c { m with pu := List.replicate np (0, 0) } ∧ Fr F w ((w.alloc (.cells (zP np) 60)).setCell ⟨B, 10, none⟩ (.slice (some ⟨w.heap.size, 0, none⟩) np np)) := by
  have hg : w.grownBy (w.alloc (.cells (zP np) 60)) none := World.grownBy_alloc w _ none
  have hb : Go.RowKit.Below w.heap.size w (w.alloc (.cells (zP np) 60)) := (Below.refl _ _).alloc (Nat.le_refl _) _
  have y := x.kept hb
  have p2 : ∀ k, k < w.heap.size → (if k = w.heap.size then 5 else O k) = O k := fun k hk => if_neg (by omega)
  have q : ∀ k e, O k = e → e ≠ 0 → (if k = w.heap.size then 5 else O k) = e := fun k e he h0 => (p2 k (x.own k (by rw [he]; exact h0))).trans he
  obtain ⟨f1, f2⟩ := x.frame hF hg (fun k e => by cases e) 10 (.slice (some ⟨w.heap.size, 0, none⟩) np np) p2
  refine ⟨⟨fun k => if k = w.heap.size then 5 else O k, { h with pv := .slice (some ⟨w.heap.size, 0, none⟩) np np }, x.store (w1 := w.alloc (.cells (zP np) 60)) (O' := fun k => if k = w.heap.size then 5 else O k) 10 _ _ _ rfl (q B 1 x.oB (by decide)) (hb.block B x.lt) (fun k hk => ?_) y.stack y.locs y.out ?_ (fun g e => q g 2 (x.os g e) (by decide)) (fun g e => q g 4 (x.ol g e) (by decide)) (fun g e => q g 3 (x.oo g e) (by decide)) (fun g e => ?_), f1⟩, f2⟩
  · have : w.heap.size + 1 ≤ k := by simpa using hk
    show (if k = w.heap.size then 5 else O k) = 0
    rw [if_neg (by omega)]; exact x.new k (by omega)
  · refine ⟨by rw [cks_length], .inr ⟨w.heap.size, np, zP np, by simp, Nat.zero_le _, heap_alloc_new _ _ rfl, by simp, by unfold maxLen; omega, ?_, ?_⟩⟩
    · rw [← Array.length_toList, zP_list, cks_length]; simp
    · rw [zP_list, List.take_of_length_le (by rw [cks_length]; simp)]
  · cases e; exact if_pos rfl
end
end Go.Proofs.Ytbpgafchagpmoaa
/-
  THE WALKS OF THE DOCUMENT's take, lay, value, put, fails.
-/
namespace Go.Proofs.Ytbpgafchagpmoaa
open Go.RowKit Go.Sort

section
variable {w w1 : World} {B : Nat} {O : Nat → Nat} {h : RH} {c : MC} {m : M} {F : Nat → Prop}
theorem MR.pushed (x : MR w B O h c m) (hF : Apt w F O) {v' : Value} {z : Int} (h1 : Own64 w1 0 v' (m.st.reverse ++ [z])) (h2 : w.grownBy w1 h.sv.ownBlock) (h3 : v'.ownBlock = h.sv.ownBlock ∨ v'.ownBlock = some w.heap.size) :
    ∃ ao n cap, v' = .slice ao n cap ∧ w1.cell? ⟨B, 7, none⟩ = some h.sv ∧ w1.frozen? ⟨B, 7, none⟩ = false ∧ Hid (MRt (w1.setCell ⟨B, 7, none⟩ v') F B c (m.push z) ∧ Fr F w (w1.setCell ⟨B, 7, none⟩ v')) := by
  have hbk : w1.heap[B]? = some (.cells (rbox c h m) 74 (0, 0)) := (h2.block B x.lt (fun e => by have := x.os B e.symm; rw [x.oB] at this; cases this)).trans x.box
  obtain ⟨ao, cap, e, _⟩ := own_slice h1
  exact ⟨ao, _, cap, e, by rw [World.cell?, hbk]; rfl, frozen_of_row w1 B 7 _ _ hbk, x.stacked (S := z :: m.st) hF h2 (by rw [List.reverse_cons]; exact h1) h3⟩
theorem MR.outed (x : MR w B O h c m) (hF : Apt w F O) {v' : Value} {z : Int} (h1 : Own64 w1 0 v' (m.ou ++ [z])) (h2 : w.grownBy w1 h.ov.ownBlock) (h3 : v'.ownBlock = h.ov.ownBlock ∨ v'.ownBlock = some w.heap.size) :
    ∃ ao n cap, v' = .slice ao n cap ∧ w1.cell? ⟨B, 9, none⟩ = some h.ov ∧ w1.frozen? ⟨B, 9, none⟩ = false ∧ Hid (MRt (w1.setCell ⟨B, 9, none⟩ v') F B c { m with ou := m.ou ++ [z] } ∧ Fr F w (w1.setCell ⟨B, 9, none⟩ v')) := by
  have hbk : w1.heap[B]? = some (.cells (rbox c h m) 74 (0, 0)) := (h2.block B x.lt (fun e => by have := x.oo B e.symm; rw [x.oB] at this; cases this)).trans x.box
  obtain ⟨ao, cap, e, _⟩ := own_slice h1
  exact ⟨ao, _, cap, e, by rw [World.cell?, hbk]; rfl, frozen_of_row w1 B 9 _ _ hbk, x.told hF h2 h1 h3⟩
/-- a row of its own is stored into: locals -/
theorem MR.rowL (x : MR w B O h c m) (hw : Only w w1 h.lv) {S : List Int} (hs : Own64 w1 0 h.lv S) : MR w1 B O h c { m with lo := S } := by
  have hne : ∀ k, O k ≠ 4 → w1.heap[k]? = w.heap[k]? := fun k hk => hw.block k (fun e => hk (x.ol k e))
  exact ⟨(hne B (by rw [x.oB]; decide)).trans x.box, x.oB, ownsRow_same x.stack (fun k e => hne k (by rw [x.os k e]; decide)), hs, ownsRow_same x.out (fun k e => hne k (by rw [x.oo k e]; decide)), ownsRow_same x.puts (fun k e => hne k (by rw [x.op k e]; decide)), x.os, x.ol, x.oo, x.op, fun k hk => x.new k (by rw [← hw.size]; exact hk)⟩
theorem MR.rowP (x : MR w B O h c m) (hw : Only w w1 h.pv) {S : List K} (hs : OwnP w1 0 h.pv S) : MR w1 B O h c { m with pu := S } := by
  have hne : ∀ k, O k ≠ 5 → w1.heap[k]? = w.heap[k]? := fun k hk => hw.block k (fun e => hk (x.op k e))
  exact ⟨(hne B (by rw [x.oB]; decide)).trans x.box, x.oB, ownsRow_same x.stack (fun k e => hne k (by rw [x.os k e]; decide)), ownsRow_same x.locs (fun k e => hne k (by rw [x.ol k e]; decide)), ownsRow_same x.out (fun k e => hne k (by rw [x.oo k e]; decide)), hs, x.os, x.ol, x.oo, x.op, fun k hk => x.new k (by rw [← hw.size]; exact hk)⟩
theorem own_len {e size n cap q : Nat} {a : Option Addr} {xs : List Value} (h : w.ownsRow 0 e size (.slice a n cap) q xs) : n = q := by
  obtain ⟨_, ⟨h1, h2⟩ | ⟨g', cap', cur, e1, _⟩⟩ := h
  · simp only [Value.slice.injEq] at h1; omega
  · simp only [Value.slice.injEq] at e1; exact e1.2.1
end

theorem rlay_any (w : World) (F : Nat → Prop) (B : Nat) (c : MC) (m : M) (x : Int) (hm : MRt w F B c m) (hl : m.st.length ≤ 1000) :
    Calls Try.prog 59 #[pm B, .int .i64 x] w fun e w' => e = .returned (.tuple #[]) ∧ MRt w' F B c (m.push x) ∧ Fr F w w' := by
  obtain ⟨O, h, hm, hF⟩ := hm
  have hm' : MR (w.alloc (.cells #[.int .i64 x] 2)) B O h c m := hm.kept ((Below.refl _ _).alloc (Nat.le_refl _) _)
  have HB0 : Hid (Fr F w (w.alloc (.cells #[.int .i64 x] 2))) := Fr.ofBelow ((Below.refl _ _).alloc (Nat.le_refl _) _) (fun k hk => (hF k hk).2)
  have HF : Hid (Apt (w.alloc (.cells #[.int .i64 x] 2)) F O) := fun k hk => ⟨(hF k hk).1, by have := (hF k hk).2; simp; omega⟩
  have HM : Hid (MR (w.alloc (.cells #[.int .i64 x] 2)) B O h c m) := hm'
  have c7 : w.cell? ⟨B, 7, none⟩ = some h.sv := hm.cell 7
  have HL : Hid (m.st.length ≤ 1000) := hl
  clear hm hm' hl hF
  go_enter Try.func59, Try.ntmps59
  go_wp2_with (at_builtin; refine wpList_append_64 rfl _ _ rfl 0 h.sv m.st.reverse rfl HM.out.stack _ x rfl (cell_new64 _ _) (by have := HL.out; simp; omega) (Nat.zero_le _) ?_; intro v' w' h1 h2 h3; obtain ⟨ao, n, cap, rfl, c7', f7, HG'⟩ := HM.out.pushed HF.out h1 h2 h3; clear h1 h2 h3)
  go_end0
  exact ⟨rfl, HG'.out.1, HB0.out.trans HG'.out.2⟩

theorem rtake_any (w : World) (F : Nat → Prop) (B : Nat) (c : MC) (m : M) (hm : MRt w F B c m) (h0 : 0 < m.st.length) (hl : m.st.length ≤ 1000) :
    Calls Try.prog 60 #[pm B] w fun e w' => e = .returned (.int .i64 m.top) ∧ MRt w' F B c m.pop ∧ Fr F w w' := by
  obtain ⟨O, h, hm, hF⟩ := hm
  obtain ⟨at_, st, lo, ou, pu, en, fa, us, sp⟩ := m
  cases st with
  | nil => simp at h0
  | cons x st =>
    simp only [List.length_cons] at hl
    have hst := hm.stack
    simp only [List.reverse_cons] at hst
    obtain ⟨g, cap, hv, hcap⟩ := hst.shape (by simp)
    rw [hv] at hst
    have cx := hst.cell st.length (by simp)
    have e1 : (st.reverse ++ [x]).getD st.length 0 = x := by simp [List.getD_eq_getElem?_getD]
    rw [e1] at cx
    have hn : (st.reverse ++ [x]).length = st.length + 1 := by simp
    rw [hn] at hv hcap
    have hcut := hst.cut
    rw [List.length_reverse] at hcut
    have c7 : w.cell? ⟨B, 7, none⟩ = some h.sv := hm.cell 7
    have f7 := hm.frozen 7
    have HG : Hid (MR (w.setCell ⟨B, 7, none⟩ (.slice (some ⟨g, 0, none⟩) st.length cap)) B O { h with sv := .slice (some ⟨g, 0, none⟩) st.length cap } c ⟨at_, st, lo, ou, pu, en, fa, us, sp⟩) :=
      hm.store (w1 := w) (O' := O) 7 _ _ _ rfl hm.oB rfl hm.new hcut hm.locs hm.out hm.puts (fun k e => hm.os k (by rw [hv]; exact e)) hm.ol hm.oo hm.op
    have HB : Hid (Fr F w (w.setCell ⟨B, 7, none⟩ (.slice (some ⟨g, 0, none⟩) st.length cap))) := (Fr.refl F w).set _ _ (fun hk => by have := (hF B hk).1; rw [hm.oB] at this; cases this)
    have HF : Hid (Apt (w.setCell ⟨B, 7, none⟩ (.slice (some ⟨g, 0, none⟩) st.length cap)) F O) := fun k hk => ⟨(hF k hk).1, by have := (hF k hk).2; simpa using this⟩
    rw [hv] at c7
    generalize st.length = n at *
    clear hm hF hst e1 hn hcut
    go_enter Try.func60, Try.ntmps60
    go_wp2
    go_ret
    exact ⟨rfl, ⟨O, _, HG.out, HF.out⟩, HB.out⟩

theorem rvalue_any (w : World) (F : Nat → Prop) (B : Nat) (c : MC) (m : M) (R : List C) (j : Nat) (hm : MRt w F B c m) (hr : CellsAt w c.ra (ccs R)) (hl : c.nr = R.length) (hj : j < R.length) :
    Calls Try.prog 61 #[pm B, .int .i64 (j : Int)] w fun e w' => e = .returned (.int .i64 (rdV (rd R j))) ∧ MRt w' F B c m ∧ Fr F w w' ∧ Go.RowKit.Below w.heap.size w w' := by
  have HM : Hid (∀ o, MRt (w.alloc o) F B c m ∧ Fr F w (w.alloc o)) := fun o => hm.kept ((Below.refl _ _).alloc (Nat.le_refl _) _)
  have HB : Hid (∀ o, Go.RowKit.Below w.heap.size w (w.alloc o)) := fun o => (Below.refl _ _).alloc (Nat.le_refl _) _
  obtain ⟨O, h, hm, hF⟩ := hm
  obtain ⟨b, off, hra, d0, d1⟩ := hr.cell j hj
  have c6 : w.cell? ⟨B, 6, none⟩ = some (.slice c.ra c.nr c.cr) := hm.cell 6
  rw [hra] at c6
  have hjn : j < c.nr := by omega
  generalize c.nr = nr at *
  generalize c.cr = cr at *
  clear hm hF hr hl hra hj
  cases hb : (rd R j).1 with
  | true =>
    rw [hb] at d0
    have HV : Hid (rdV (rd R j) = (rd R j).2) := by show rdV (rd R j) = _; simp [rdV, hb]
    generalize (rd R j).2 = z at *
    go_enter Try.func61, Try.ntmps61
    go_wp2
    go_ret
    exact ⟨by rw [HV.out]; rfl, (HM.out _).1, (HM.out _).2, HB.out _⟩
  | false =>
    rw [hb] at d0
    have HV : Hid (rdV (rd R j) = 0) := by show rdV (rd R j) = _; simp [rdV, hb]
    generalize (rd R j).2 = z at *
    go_enter Try.func61, Try.ntmps61
    go_wp2
    go_ret
    exact ⟨by rw [HV.out]; rfl, (HM.out _).1, (HM.out _).2, HB.out _⟩

theorem rput_any (w : World) (F : Nat → Prop) (B : Nat) (c : MC) (m : M) (i k1 k2 : Int) (hm : MRt w F B c m) :
    Calls Try.prog 63 #[pm B, .int .i64 i, .int .i64 k1, .int .i64 k2] w fun e w' => e = .returned (.int .i64 (putN i (k1, k2) m).2) ∧ MRt w' F B c (putN i (k1, k2) m).1 ∧ Fr F w w' := by
  have HM : Hid (MRt w F B c m) := hm
  obtain ⟨O, h, hm, hF⟩ := hm
  have c10 : w.cell? ⟨B, 10, none⟩ = some h.pv := hm.cell 10
  by_cases h0 : 0 ≤ i ∧ i < (m.pu.length : Int)
  · obtain ⟨j, rfl⟩ := Int.eq_ofNat_of_zero_le h0.1
    obtain ⟨g, cap, hv, hcap⟩ := own_some hm.puts (by omega)
    have hr := hm.puts
    rw [hv] at hr c10
    have q0 := World.ownsRow.cellAt hr (j * 2) (by omega)
    have q1 := World.ownsRow.cellAt hr (j * 2 + 1) (by omega)
    obtain ⟨e0, e1⟩ := cks_at m.pu j (by omega)
    rw [e0] at q0
    rw [e1] at q1
    have f0 := World.ownsRow.frozenAt hr (j * 2)
    have f1 := World.ownsRow.frozenAt hr (j * 2 + 1)
    have HG : Hid (MRt ((w.setCell ⟨g, j * 2, none⟩ (.int .i64 k1)).setCell ⟨g, j * 2 + 1, none⟩ (.int .i64 k2)) F B c { m with pu := m.pu.set j (k1, k2) }) := by
      refine ⟨O, h, hm.rowP ?_ ?_, fun k hk => ⟨(hF k hk).1, by have := (hF k hk).2; simpa using this⟩⟩
      · rw [hv]; exact ((Only.refl w (.slice (some ⟨g, 0, none⟩) m.pu.length cap)).set (j * 2) (.int .i64 k1)).set (j * 2 + 1) (.int .i64 k2)
      · have h1 := (World.ownsRow.stored (World.ownsRow.stored hr (j * 2) (.int .i64 k1)).1 (j * 2 + 1) (.int .i64 k2)).1
        rw [cks_set m.pu j (k1, k2)] at h1
        rw [hv]
        show World.ownsRow _ _ _ _ _ (m.pu.set j (k1, k2)).length _
        rw [List.length_set]; exact h1
    have hgF : ¬ F g := fun hk => by have := (hF g hk).1; rw [hm.op g (by rw [hv]; rfl)] at this; cases this
    have HB : Hid (Fr F w ((w.setCell ⟨g, j * 2, none⟩ (.int .i64 k1)).setCell ⟨g, j * 2 + 1, none⟩ (.int .i64 k2))) := ((Fr.refl F w).set _ _ hgF).set _ _ hgF
    have HE : Hid (putN (j : Int) (k1, k2) m = ({ m with pu := m.pu.set j (k1, k2) }, 0)) := by
      show putN (j : Int) (k1, k2) m = _
      rw [putN, if_pos h0]; rfl
    have hn0 : ¬ (j : Int) < 0 := by omega
    have hn1 : ¬ (m.pu.length : Int) ≤ (j : Int) := by omega
    generalize (kd m.pu j).1 = z1 at *
    generalize (kd m.pu j).2 = z2 at *
    generalize m.pu.length = n at *
    clear hm hF hr h0 hv e0 e1 hgF
    go_enter Try.func63, Try.ntmps63
    go_wp2
    go_ret
    exact ⟨by rw [HE.out]; rfl, by rw [HE.out]; exact HG.out, HB.out⟩
  · have HE : Hid (putN i (k1, k2) m = (m, 203)) := by
      show putN i (k1, k2) m = _
      rw [putN, if_neg h0]
    obtain ⟨ao, cap, hv, _⟩ := own_slice hm.puts
    rw [hv] at c10
    generalize m.pu.length = n at *
    clear hm hF hv
    by_cases hn0 : i < 0
    · go_enter Try.func63, Try.ntmps63
      go_wp2
      go_ret
      exact ⟨by rw [HE.out]; rfl, by rw [HE.out]; exact HM.out, Fr.refl _ _⟩
    · have hn1 : (n : Int) ≤ i := by omega
      clear h0
      go_enter Try.func63, Try.ntmps63
      go_wp2
      go_ret
      exact ⟨by rw [HE.out]; rfl, by rw [HE.out]; exact HM.out, Fr.refl _ _⟩
end Go.Proofs.Ytbpgafchagpmoaa
/-
  THE WALK OF THE DOCUMENT's fails; WHAT ITS MACHINE WAS GIVEN.
-/
namespace Go.Proofs.Ytbpgafchagpmoaa
open Go.RowKit Go.Sort

/-- WHAT A MACHINE WAS GIVEN LIES THERE, IN BLOCKS THAT STAY -/
structure Giv (w : World) (F : Nat → Prop) (c : MC) (L : List K) (A : List Int) (R : List C) : Prop where
  keys : KeysAt w c.ao L
  ln : c.n = L.length
  args : CellsAt w c.aa (A.map iv)
  la : c.na = A.length
  reads : CellsAt w c.ra (ccs R)
  lr : c.nr = R.length
  fk : L ≠ [] → ∀ g, c.ao = some g → F g.block
  fa : A ≠ [] → ∀ g, c.aa = some g → F g.block
  fr : R ≠ [] → ∀ g, c.ra = some g → F g.block
theorem CellsAt.fr {w w1 : World} {F : Nat → Prop} {ao : Option Addr} {xs : List Value} (h : CellsAt w ao xs) (hb : Fr F w w1) (hF : xs ≠ [] → ∀ g, ao = some g → F g.block) : CellsAt w1 ao xs := by
  rcases h with h | ⟨b, off, rfl, hc⟩
  · exact .inl h
  · by_cases hx : xs = []
    · exact .inl hx
    exact .inr ⟨b, off, rfl, fun j u hu => hb.cell (hF hx ⟨b, off, none⟩ rfl) (hc j u hu)⟩
theorem Giv.next {w w1 : World} {F : Nat → Prop} {c : MC} {L : List K} {A : List Int} {R : List C} (h : Giv w F c L A R) (hb : Fr F w w1) : Giv w1 F c L A R := by
  refine ⟨?_, h.ln, h.args.fr hb (fun hx => h.fa (fun e => hx (by rw [e]; rfl))), h.la, h.reads.fr hb (fun hx => h.fr (fun e => hx (by rw [e]; rfl))), h.lr, h.fk, h.fa, h.fr⟩
  rcases h.keys with h' | ⟨b, off, e, hc⟩
  · exact .inl h'
  · by_cases hx : L = []
    · exact .inl hx
    exact .inr ⟨b, off, e, fun j u hu => hb.cell (h.fk hx ⟨b, off, none⟩ e) (hc j u hu)⟩
theorem MRt.cells {w : World} {F : Nat → Prop} {B : Nat} {c : MC} {m : M} (x : MRt w F B c m) : w.cell? ⟨B, 11, none⟩ = some (.int .i64 (m.at_ : Int)) ∧ w.cell? ⟨B, 12, none⟩ = some (.int .i64 (m.steps : Int)) ∧ w.cell? ⟨B, 13, none⟩ = some (.bool m.ended) ∧ w.cell? ⟨B, 14, none⟩ = some (.int .i64 m.fault) ∧ w.cell? ⟨B, 15, none⟩ = some (.int .i64 m.user) := by
  obtain ⟨O, h, x, hF⟩ := x
  exact ⟨x.cell 11, x.cell 12, x.cell 13, x.cell 14, x.cell 15⟩
theorem MRt.nums {w : World} {F : Nat → Prop} {B : Nat} {c : MC} {m : M} (x : MRt w F B c m) : w.cell? ⟨B, 2, none⟩ = some (.int .i64 c.p.writes) ∧ w.cell? ⟨B, 3, none⟩ = some (.int .i64 c.p.locals) ∧ w.cell? ⟨B, 4, none⟩ = some (.slice c.ao c.n c.cap) ∧ w.cell? ⟨B, 5, none⟩ = some (.slice c.aa c.na c.ca) ∧ w.cell? ⟨B, 6, none⟩ = some (.slice c.ra c.nr c.cr) := by
  obtain ⟨O, h, x, hF⟩ := x
  exact ⟨x.cell 2, x.cell 3, x.cell 4, x.cell 5, x.cell 6⟩
section
variable {w : World} {F : Nat → Prop} {B : Nat} {O : Nat → Nat} {h : RH} {c : MC} {m : M}
theorem MRt.emptied (x : MRt w F B c m) : w.frozen? ⟨B, 7, none⟩ = false ∧ MRt (w.setCell ⟨B, 7, none⟩ (.slice none 0 0)) F B c { m with st := [] } ∧ Fr F w (w.setCell ⟨B, 7, none⟩ (.slice none 0 0)) := by
  obtain ⟨O, h, x, hF⟩ := x
  exact ⟨x.frozen 7, ⟨O, { h with sv := .slice none 0 0 }, x.store (w1 := w) (O' := O) 7 _ _ _ rfl x.oB rfl x.new (World.ownsRow_nil _ _ _ _) x.locs x.out x.puts (fun g e => by cases e) x.ol x.oo x.op, fun k hk => ⟨(hF k hk).1, by have := (hF k hk).2; simpa using this⟩⟩, (Fr.refl F w).set _ _ (fun hk => by have := (hF B hk).1; rw [x.oB] at this; cases this)⟩
theorem MRt.hushed (x : MRt w F B c m) : w.frozen? ⟨B, 9, none⟩ = false ∧ MRt (w.setCell ⟨B, 9, none⟩ (.slice none 0 0)) F B c { m with ou := [] } ∧ Fr F w (w.setCell ⟨B, 9, none⟩ (.slice none 0 0)) := by
  obtain ⟨O, h, x, hF⟩ := x
  exact ⟨x.frozen 9, ⟨O, { h with ov := .slice none 0 0 }, x.store (w1 := w) (O' := O) 9 _ _ _ rfl x.oB rfl x.new x.stack x.locs (World.ownsRow_nil _ _ _ _) x.puts x.os x.ol (fun g e => by cases e) x.op, fun k hk => ⟨(hF k hk).1, by have := (hF k hk).2; simpa using this⟩⟩, (Fr.refl F w).set _ _ (fun hk => by have := (hF B hk).1; rw [x.oB] at this; cases this)⟩
theorem MRt.slices (x : MRt w F B c m) : ∃ v7 v8 v9 v10, w.cell? ⟨B, 7, none⟩ = some v7 ∧ w.cell? ⟨B, 8, none⟩ = some v8 ∧ w.cell? ⟨B, 9, none⟩ = some v9 ∧ w.cell? ⟨B, 10, none⟩ = some v10 := by
  obtain ⟨O, h, x, hF⟩ := x
  exact ⟨_, _, _, _, x.cell 7, x.cell 8, x.cell 9, x.cell 10⟩
theorem MRt.froz (x : MRt w F B c m) (i : Nat) : w.frozen? ⟨B, i, none⟩ = false := by
  obtain ⟨O, h, x, hF⟩ := x
  exact x.frozen i
theorem MRt.newL (x : MRt w F B c m) (nl : Nat) (hn : nl ≤ 16) : MRt ((w.alloc (.cells (zL nl) 2)).setCell ⟨B, 8, none⟩ (.slice (some ⟨w.heap.size, 0, none⟩) nl nl)) F B c { m with lo := List.replicate nl 0 } ∧ Fr F w ((w.alloc (.cells (zL nl) 2)).setCell ⟨B, 8, none⟩ (.slice (some ⟨w.heap.size, 0, none⟩) nl nl)) := by
  obtain ⟨O, h, x, hF⟩ := x
  exact x.newL hF nl hn
theorem MRt.newP (x : MRt w F B c m) (np : Nat) (hn : np ≤ 16) : MRt ((w.alloc (.cells (zP np) 60)).setCell ⟨B, 10, none⟩ (.slice (some ⟨w.heap.size, 0, none⟩) np np)) F B c { m with pu := List.replicate np (0, 0) } ∧ Fr F w ((w.alloc (.cells (zP np) 60)).setCell ⟨B, 10, none⟩ (.slice (some ⟨w.heap.size, 0, none⟩) np np)) := by
  obtain ⟨O, h, x, hF⟩ := x
  exact x.newP hF np hn
end
/-- a stage of fails -/
structure FS (w w1 : World) (F : Nat → Prop) (B : Nat) (c : MC) (m : M) : Prop where
  mrt : MRt w1 F B c m
  fr : Fr F w w1
theorem FS.put {w w1 : World} {F : Nat → Prop} {B : Nat} {c : MC} {m : M} (x : FS w w1 F B c m) (i : Nat) (v : Value) (m' : M) (hb : ∀ h, (rbox c h m).setIfInBounds i v = rbox c h m') (hs : m'.st = m.st) (hl : m'.lo = m.lo) (ho : m'.ou = m.ou) (hp : m'.pu = m.pu) : FS w (w1.setCell ⟨B, i, none⟩ v) F B c m' :=
  ⟨(x.mrt.put i v m' hb hs hl ho hp).2.1, x.fr.trans (x.mrt.put i v m' hb hs hl ho hp).2.2⟩
def failR (f u : Int) (nl np : Nat) (m : M) : M := ⟨m.at_ - 1, [], List.replicate nl 0, [], List.replicate np (0, 0), true, f, u, m.steps⟩
set_option maxHeartbeats 1000000 in
theorem rfails_any (w : World) (F : Nat → Prop) (B : Nat) (c : MC) (m : M) (f u : Int) (nl np : Nat) (hm : MRt w F B c m) (h1 : 1 ≤ m.at_) (h2 : m.at_ ≤ 1000) (e1 : c.p.locals = (nl : Int)) (e2 : c.p.writes = (np : Int)) (l1 : nl ≤ 16) (l2 : np ≤ 16) :
    Calls Try.prog 47 #[pm B, .int .i64 f, .int .i64 u] w fun e w' => e = .returned (.tuple #[]) ∧ MRt w' F B c (failR f u nl np m) ∧ Fr F w w' := by
  obtain ⟨at_, st, lo, ou, pu, en, fa, us, sp⟩ := m
  obtain ⟨k, rfl⟩ : ∃ k, at_ = k + 1 := ⟨at_ - 1, by simp only at h1; omega⟩
  simp only at h2
  have HM : Hid (FS w w F B c ⟨k + 1, st, lo, ou, pu, en, fa, us, sp⟩) := ⟨hm, Fr.refl _ _⟩
  have HE : Hid (c.p.locals = (nl : Int) ∧ c.p.writes = (np : Int)) := ⟨e1, e2⟩
  have mk1 := make_64 nl l1
  have mk2 := make_puts np l2
  clear hm h1 e1 e2
  go_enter Try.func47, Try.ntmps47
  obtain ⟨_, _, _, c14, _⟩ := HM.out.mrt.cells
  have f14 := HM.out.mrt.froz 14
  go_upto_region 1 with fail
  have HM1 : Hid (FS w (w.setCell ⟨B, 14, none⟩ (.int .i64 f)) F B c ⟨k + 1, st, lo, ou, pu, en, f, us, sp⟩) := HM.out.put 14 _ _ (fun _ => rfl) rfl rfl rfl rfl
  clear HM c14 f14
  generalize w.setCell ⟨B, 14, none⟩ (.int .i64 f) = w1 at *
  obtain ⟨_, _, _, _, c15⟩ := HM1.out.mrt.cells
  have f15 := HM1.out.mrt.froz 15
  go_upto_region 2 with fail
  have HM2 : Hid (FS w (w1.setCell ⟨B, 15, none⟩ (.int .i64 u)) F B c ⟨k + 1, st, lo, ou, pu, en, f, u, sp⟩) := HM1.out.put 15 _ _ (fun _ => rfl) rfl rfl rfl rfl
  clear HM1 c15 f15
  generalize w1.setCell ⟨B, 15, none⟩ (.int .i64 u) = w2 at *
  obtain ⟨_, _, c13, _, _⟩ := HM2.out.mrt.cells
  have f13 := HM2.out.mrt.froz 13
  go_upto_region 3 with fail
  have HM3 : Hid (FS w (w2.setCell ⟨B, 13, none⟩ (.bool true)) F B c ⟨k + 1, st, lo, ou, pu, true, f, u, sp⟩) := HM2.out.put 13 _ _ (fun _ => rfl) rfl rfl rfl rfl
  clear HM2 c13 f13
  generalize w2.setCell ⟨B, 13, none⟩ (.bool true) = w3 at *
  obtain ⟨c11, _, _, _, _⟩ := HM3.out.mrt.cells
  have f11 := HM3.out.mrt.froz 11
  simp only at c11
  have hk : ((k + 1 : Nat) : Int) - 1 = (k : Int) := by omega
  go_upto_region 4 with fail
  have HM4 : Hid (FS w (w3.setCell ⟨B, 11, none⟩ (.int .i64 (k : Int))) F B c ⟨k, st, lo, ou, pu, true, f, u, sp⟩) := HM3.out.put 11 _ _ (fun _ => rfl) rfl rfl rfl rfl
  clear HM3 c11 f11 hk
  generalize w3.setCell ⟨B, 11, none⟩ (.int .i64 (k : Int)) = w4 at *
  obtain ⟨_, _, _, _, c7, _, _, _⟩ := HM4.out.mrt.slices
  have f7 := HM4.out.mrt.froz 7
  go_upto_region 5 with fail
  have HM5 : Hid (FS w (w4.setCell ⟨B, 7, none⟩ (.slice none 0 0)) F B c ⟨k, [], lo, ou, pu, true, f, u, sp⟩) := ⟨HM4.out.mrt.emptied.2.1, HM4.out.fr.trans HM4.out.mrt.emptied.2.2⟩
  clear HM4 c7 f7
  generalize w4.setCell ⟨B, 7, none⟩ (.slice none 0 0) = w5 at *
  obtain ⟨_, _, _, _, _, _, c9, _⟩ := HM5.out.mrt.slices
  have f9 := HM5.out.mrt.froz 9
  go_upto_region 6 with fail
  have HM6 : Hid (FS w (w5.setCell ⟨B, 9, none⟩ (.slice none 0 0)) F B c ⟨k, [], lo, [], pu, true, f, u, sp⟩) := ⟨HM5.out.mrt.hushed.2.1, HM5.out.fr.trans HM5.out.mrt.hushed.2.2⟩
  clear HM5 c9 f9
  generalize w5.setCell ⟨B, 9, none⟩ (.slice none 0 0) = w6 at *
  obtain ⟨_, _, _, _, _, c8, _, _⟩ := HM6.out.mrt.slices
  obtain ⟨_, d3, _⟩ := HM6.out.mrt.nums
  rw [HE.out.1] at d3
  have f8 := HM6.out.mrt.froz 8
  have c8' := al (o := .cells (zL nl) 2) c8
  have f8' : (w6.alloc (.cells (zL nl) 2)).frozen? ⟨B, 8, none⟩ = false := (frozen?_alloc_cells _ _ _ _).trans f8
  go_upto_region 7 with fail
  have HM7 : Hid (FS w ((w6.alloc (.cells (zL nl) 2)).setCell ⟨B, 8, none⟩ (.slice (some ⟨w6.heap.size, 0, none⟩) nl nl)) F B c ⟨k, [], List.replicate nl 0, [], pu, true, f, u, sp⟩) := ⟨(HM6.out.mrt.newL nl l1).1, HM6.out.fr.trans (HM6.out.mrt.newL nl l1).2⟩
  clear HM6 c8 f8 d3 c8' f8'
  generalize (w6.alloc (.cells (zL nl) 2)).setCell ⟨B, 8, none⟩ (.slice (some ⟨w6.heap.size, 0, none⟩) nl nl) = w7 at *
  obtain ⟨_, _, _, _, _, _, _, c10⟩ := HM7.out.mrt.slices
  obtain ⟨d2, _⟩ := HM7.out.mrt.nums
  rw [HE.out.2] at d2
  have f10 := HM7.out.mrt.froz 10
  have c10' := al (o := .cells (zP np) 60) c10
  have f10' : (w7.alloc (.cells (zP np) 60)).frozen? ⟨B, 10, none⟩ = false := (frozen?_alloc_cells _ _ _ _).trans f10
  go_wp2
  go_end0
  exact ⟨rfl, (HM7.out.mrt.newP np l2).1, HM7.out.fr.trans (HM7.out.mrt.newP np l2).2⟩
end Go.Proofs.Ytbpgafchagpmoaa
