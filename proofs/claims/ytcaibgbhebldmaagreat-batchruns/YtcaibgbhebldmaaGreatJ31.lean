import Derived.Test.YtcaibgbhebldmaaGreatJ28
import Derived.Test.YtcaibgbhebldmaaGreatJ30
import Derived.Laws.OwnMore
import Derived.Lib.SliceRun
import Derived.Laws.Tables
import Derived.Deep.MidRow
/-
  A MACHINE IN MEMORY.
-/
namespace Go.Proofs.YtcaibgbhebldmaaGreat
open Go.RowKit Go.Sort

/-- the cells of a list of cells -/
def ccs : List C → List Value
  | [] => []
  | c :: R => .bool c.1 :: .int .i64 c.2 :: ccs R
theorem ccs_length (R : List C) : (ccs R).length = R.length * 2 := by
  induction R with
  | nil => rfl
  | cons k L ih => simp only [ccs, List.length_cons, ih]; omega
theorem ccs_one (R : List C) : ∀ v ∈ ccs R, v.oneCell' = true := by
  induction R with
  | nil => simp [ccs]
  | cons k L ih =>
    intro v hv
    simp only [ccs, List.mem_cons] at hv
    rcases hv with rfl | rfl | h
    · rfl
    · rfl
    · exact ih v h
theorem ccs_at (R : List C) (j : Nat) (h : j < R.length) : (ccs R)[j * 2]? = some (.bool (rd R j).1) ∧ (ccs R)[j * 2 + 1]? = some (.int .i64 (rd R j).2) := by
  induction R generalizing j with
  | nil => simp at h
  | cons k L ih =>
    cases j with
    | zero => simp [ccs, rd]
    | succ j =>
      have := ih j (by simp at h; omega)
      rw [show rd (k :: L) (j + 1) = rd L j by simp [rd], show (j + 1) * 2 = j * 2 + 1 + 1 by omega]
      simpa [ccs] using this

abbrev Own64 (w : World) (base : Nat) (v : Value) (S : List Int) : Prop := w.ownsRow base 2 1 v S.length (S.map iv)
abbrev OwnP (w : World) (base : Nat) (v : Value) (S : List K) : Prop := w.ownsRow base 136 2 v S.length (cks S)
abbrev OwnC (w : World) (base : Nat) (v : Value) (R : List C) : Prop := w.ownsRow base 25 2 v R.length (ccs R)

theorem ownsRow_same {w w1 : World} {base e size n : Nat} {v : Value} {xs : List Value} (h : w.ownsRow base e size v n xs) (hs : ∀ g, v.ownBlock = some g → w1.heap[g]? = w.heap[g]?) : w1.ownsRow base e size v n xs := by
  obtain ⟨hl, h⟩ := h
  refine ⟨hl, ?_⟩
  rcases h with h | ⟨g, cap, cur, rfl, hg, hh, r⟩
  · exact .inl h
  · exact .inr ⟨g, cap, cur, rfl, hg, (hs g rfl).trans hh, r⟩
theorem ownsRow_mono {w : World} {base base' e size n : Nat} {v : Value} {xs : List Value} (h : w.ownsRow base e size v n xs) (hb : base' ≤ base) : w.ownsRow base' e size v n xs := by
  obtain ⟨hl, h⟩ := h
  refine ⟨hl, ?_⟩
  rcases h with h | ⟨g, cap, cur, rfl, hg, r⟩
  · exact .inl h
  · exact .inr ⟨g, cap, cur, rfl, by omega, r⟩
/-- a row with the last one off -/
theorem Own64.cut {w : World} {base g n cap : Nat} {S : List Int} {x : Int} (h : Own64 w base (.slice (some ⟨g, 0, none⟩) n cap) (S ++ [x])) : Own64 w base (.slice (some ⟨g, 0, none⟩) S.length cap) S := by
  obtain ⟨hl, h⟩ := h
  refine ⟨by simp, .inr ?_⟩
  rcases h with ⟨h, _⟩ | ⟨g', cap', cur, e, hb, hg, hn, hm, hs, ht⟩
  · cases h
  · cases e
    refine ⟨g, cap, cur, rfl, hb, hg, by simp at hn; omega, hm, hs, ?_⟩
    have : cur.toList.take (S.length * 1) = (cur.toList.take ((S ++ [x]).length * 1)).take (S.length * 1) := by
      rw [List.take_take, Nat.min_eq_left (by simp)]
    rw [this, ht]
    simp
theorem Own64.shape {w : World} {base : Nat} {v : Value} {S : List Int} (h : Own64 w base v S) (hne : S ≠ []) : ∃ g cap, v = .slice (some ⟨g, 0, none⟩) S.length cap ∧ S.length ≤ cap := by
  obtain ⟨_, ⟨rfl, h0⟩ | ⟨g, cap, cur, rfl, hb, hg, hn, _⟩⟩ := h
  · exact absurd (List.eq_nil_of_length_eq_zero h0) hne
  · exact ⟨g, cap, rfl, hn⟩
theorem own_slice {w : World} {base e size n : Nat} {v : Value} {xs : List Value} (h : w.ownsRow base e size v n xs) : ∃ ao cap, v = .slice ao n cap ∧ (ao = none → cap = 0 ∧ n = 0) ∧ n ≤ cap ∧ (∀ a, ao = some a → a = ⟨a.block, 0, none⟩ ∧ base ≤ a.block ∧ a.block < w.heap.size) := by
  obtain ⟨_, ⟨rfl, rfl⟩ | ⟨g, cap, cur, rfl, hb, hg, hn, _⟩⟩ := h
  · exact ⟨none, 0, rfl, fun _ => ⟨rfl, rfl⟩, Nat.le_refl _, fun a e => by cases e⟩
  · exact ⟨some ⟨g, 0, none⟩, cap, rfl, fun e => (by cases e), hn, fun a e => by cases e; exact ⟨rfl, hb, (Array.getElem?_eq_some_iff.1 hg).1⟩⟩
theorem Own64.cell {w : World} {base g n cap : Nat} {S : List Int} (h : Own64 w base (.slice (some ⟨g, 0, none⟩) n cap) S) (j : Nat) (hj : j < S.length) : w.cell? ⟨g, j, none⟩ = some (.int .i64 (S.getD j 0)) := by
  have hn : n = S.length := by
    obtain ⟨_, ⟨h, _⟩ | ⟨g', cap', cur, e, _⟩⟩ := h
    · cases h
    · cases e; rfl
  subst hn
  rw [World.ownsRow.cellAt h j (by omega)]
  simp [List.getD_eq_getElem?_getD, List.getElem?_eq_getElem hj]

/-- the values of a machine's slices -/
structure MH where
  cv : Value
  av : Value
  rv : Value
  sv : Value
  lv : Value
  ov : Value
  pv : Value
/-- those that never turn: code, args, reads, locals, writes -/
structure MZ where
  cv : Value
  av : Value
  rv : Value
  lv : Value
  pv : Value
def MH.z (h : MH) : MZ := ⟨h.cv, h.av, h.rv, h.lv, h.pv⟩
/-- a machine's cells -/
def boxOf (h : MH) (m : M) : Array Value := #[h.cv, h.av, h.rv, .int .i64 (m.at_ : Int), h.sv, h.lv, h.ov, h.pv, .int .i64 (m.steps : Int), .bool m.ended, .int .i64 m.fault, .int .i64 m.user]
/-- BLOCK B IS A MACHINE OF THE CALL's OWN; O: whose a block is -/
structure MS (w : World) (base B : Nat) (O : Nat → Nat) (h : MH) (L : List K) (A : List Int) (R : List C) (m : M) : Prop where
  box : w.heap[B]? = some (.cells (boxOf h m) 130 (0, 0))
  hB : base ≤ B
  oB : O B = 1
  code : OwnK w base h.cv L
  args : Own64 w base h.av A
  reads : OwnC w base h.rv R
  stack : Own64 w base h.sv m.st.reverse
  locs : Own64 w base h.lv m.lo
  out : Own64 w base h.ov m.ou
  puts : OwnP w base h.pv m.pu
  oc : ∀ g, h.cv.ownBlock = some g → O g = 6
  oa : ∀ g, h.av.ownBlock = some g → O g = 7
  or : ∀ g, h.rv.ownBlock = some g → O g = 8
  os : ∀ g, h.sv.ownBlock = some g → O g = 2
  ol : ∀ g, h.lv.ownBlock = some g → O g = 4
  oo : ∀ g, h.ov.ownBlock = some g → O g = 3
  op : ∀ g, h.pv.ownBlock = some g → O g = 5
  new : ∀ k, w.heap.size ≤ k → O k = 0
/-- WHAT STAYS: the blocks F -/
structure Fr (F : Nat → Prop) (w w' : World) : Prop where
  os : w'.os = w.os
  tape : w'.tape = w.tape
  output : w'.output = w.output
  size : w.heap.size ≤ w'.heap.size
  block : ∀ k, F k → w'.heap[k]? = w.heap[k]?
theorem Fr.refl (F : Nat → Prop) (w : World) : Fr F w w := ⟨rfl, rfl, rfl, Nat.le_refl _, fun _ _ => rfl⟩
theorem Fr.trans {F : Nat → Prop} {a b c : World} (h : Fr F a b) (k : Fr F b c) : Fr F a c := ⟨k.os.trans h.os, k.tape.trans h.tape, k.output.trans h.output, Nat.le_trans h.size k.size, fun i hi => (k.block i hi).trans (h.block i hi)⟩
theorem Fr.mono {F G : Nat → Prop} {a b : World} (h : Fr F a b) (hg : ∀ k, G k → F k) : Fr G a b := ⟨h.os, h.tape, h.output, h.size, fun k hk => h.block k (hg k hk)⟩
theorem Fr.ofBelow {F : Nat → Prop} {a b : World} {n : Nat} (h : Go.RowKit.Below n a b) (hf : ∀ k, F k → k < n) : Fr F a b := ⟨h.os, h.tape, h.output, h.size, fun k hk => h.block k (hf k hk)⟩
theorem Fr.cell {F : Nat → Prop} {a b : World} (h : Fr F a b) {p : Addr} {v : Value} (hp : F p.block) (hc : a.cell? p = some v) : b.cell? p = some v := by
  have := h.block p.block hp
  simp only [World.cell?] at hc ⊢
  rw [this]; exact hc
theorem Fr.drew {F : Nat → Prop} {a b : World} (h : Fr F a b) : Fr F a b.drew := ⟨h.os, h.tape, h.output, h.size, h.block⟩
theorem Fr.set {F : Nat → Prop} {a b : World} (h : Fr F a b) (p : Addr) (v : Value) (hp : ¬ F p.block) : Fr F a (b.setCell p v) := ⟨h.os, h.tape, h.output, by simpa using h.size, fun k hk => (heap_setCell_other b p k v (fun e => hp (by rw [← e]; exact hk))).trans (h.block k hk)⟩
/-- the machine's blocks are none of F -/
def Apt (w : World) (F : Nat → Prop) (O : Nat → Nat) : Prop := ∀ k, F k → O k = 0 ∧ k < w.heap.size
/-- A MACHINE, AND BLOCKS F THAT ARE NOT ITS OWN -/
def MSt (w : World) (F : Nat → Prop) (B : Nat) (Z : MZ) (L : List K) (A : List Int) (R : List C) (m : M) : Prop := ∃ O h, MS w 0 B O h L A R m ∧ Apt w F O ∧ h.z = Z

section
variable {w w1 : World} {base B : Nat} {O : Nat → Nat} {h : MH} {L : List K} {A : List Int} {R : List C} {m : M}
theorem MS.lt (x : MS w base B O h L A R m) : B < w.heap.size := (Array.getElem?_eq_some_iff.1 x.box).1
theorem MS.size (x : MS w base B O h L A R m) : base ≤ w.heap.size := by have := x.lt; have := x.hB; omega
theorem MS.cell (x : MS w base B O h L A R m) (i : Nat) : w.cell? ⟨B, i, none⟩ = (boxOf h m)[i]? := by simp [World.cell?, x.box]
theorem MS.frozen (x : MS w base B O h L A R m) (i : Nat) : w.frozen? ⟨B, i, none⟩ = false := frozen_of_row w B i _ _ x.box
/-- kept where all its blocks are -/
theorem MS.same (x : MS w base B O h L A R m) (hs : ∀ k, O k ≠ 0 → w1.heap[k]? = w.heap[k]?) (hz : w.heap.size ≤ w1.heap.size) : MS w1 base B O h L A R m :=
  ⟨(hs B (by rw [x.oB]; decide)).trans x.box, x.hB, x.oB, ownsRow_same x.code (fun g e => hs g (by rw [x.oc g e]; decide)), ownsRow_same x.args (fun g e => hs g (by rw [x.oa g e]; decide)), ownsRow_same x.reads (fun g e => hs g (by rw [x.or g e]; decide)),
   ownsRow_same x.stack (fun g e => hs g (by rw [x.os g e]; decide)), ownsRow_same x.locs (fun g e => hs g (by rw [x.ol g e]; decide)), ownsRow_same x.out (fun g e => hs g (by rw [x.oo g e]; decide)), ownsRow_same x.puts (fun g e => hs g (by rw [x.op g e]; decide)),
   x.oc, x.oa, x.or, x.os, x.ol, x.oo, x.op, fun k hk => x.new k (by omega)⟩
theorem MS.own (x : MS w base B O h L A R m) (k : Nat) (hk : O k ≠ 0) : k < w.heap.size := by
  by_cases h1 : k < w.heap.size
  · exact h1
  · exact absurd (x.new k (by omega)) hk
theorem MS.kept (x : MS w base B O h L A R m) (hb : Below w.heap.size w w1) : MS w1 base B O h L A R m := x.same (fun k hk => hb.block k (x.own k hk)) hb.size
/-- a store into the machine's block -/
theorem MS.store (x : MS w base B O h L A R m) (i : Nat) (v : Value) (h' : MH) (m' : M) (hb : (boxOf h m).setIfInBounds i v = boxOf h' m') (hc : h'.cv = h.cv) (ha : h'.av = h.av) (hr : h'.rv = h.rv) (hl : h'.lv = h.lv) (hp : h'.pv = h.pv)
    (hs : Own64 w base h'.sv m'.st.reverse) (hso : ∀ g, h'.sv.ownBlock = some g → O g = 2) (ho : Own64 w base h'.ov m'.ou) (hoo : ∀ g, h'.ov.ownBlock = some g → O g = 3) (hlo : m'.lo = m.lo) (hpu : m'.pu = m.pu) :
    MS (w.setCell ⟨B, i, none⟩ v) base B O h' L A R m' := by
  have hne : ∀ g, O g ≠ 1 → (w.setCell ⟨B, i, none⟩ v).heap[g]? = w.heap[g]? := fun g hg => heap_setCell_other w ⟨B, i, none⟩ g v (fun e => hg (by rw [e]; exact x.oB))
  refine ⟨?_, x.hB, x.oB, ?_, ?_, ?_, ?_, ?_, ?_, ?_, ?_, ?_, ?_, hso, ?_, hoo, ?_, ?_⟩
  · rw [heap_setCell_same w B i _ _ v x.box, hb]
  · rw [hc]; exact ownsRow_same x.code (fun g e => hne g (by rw [x.oc g e]; decide))
  · rw [ha]; exact ownsRow_same x.args (fun g e => hne g (by rw [x.oa g e]; decide))
  · rw [hr]; exact ownsRow_same x.reads (fun g e => hne g (by rw [x.or g e]; decide))
  · exact ownsRow_same hs (fun g e => hne g (by rw [hso g e]; decide))
  · rw [hl, hlo]; exact ownsRow_same x.locs (fun g e => hne g (by rw [x.ol g e]; decide))
  · exact ownsRow_same ho (fun g e => hne g (by rw [hoo g e]; decide))
  · rw [hp, hpu]; exact ownsRow_same x.puts (fun g e => hne g (by rw [x.op g e]; decide))
  · rw [hc]; exact x.oc
  · rw [ha]; exact x.oa
  · rw [hr]; exact x.or
  · rw [hl]; exact x.ol
  · rw [hp]; exact x.op
  · intro k hk
    exact x.new k (by simpa using hk)
/-- a number of the machine's is stored -/
theorem MS.put (x : MS w base B O h L A R m) (i : Nat) (v : Value) (m' : M) (hb : (boxOf h m).setIfInBounds i v = boxOf h m') (hs : m'.st = m.st) (ho : m'.ou = m.ou) (hlo : m'.lo = m.lo) (hpu : m'.pu = m.pu) :
    MS (w.setCell ⟨B, i, none⟩ v) base B O h L A R m' := x.store i v h m' hb rfl rfl rfl rfl rfl (by rw [hs]; exact x.stack) x.os (by rw [ho]; exact x.out) x.oo hlo hpu
theorem below_setCell {C : Nat} (a : Addr) (v : Value) (hC : C ≤ a.block) : Below C w (w.setCell a v) :=
  ⟨rfl, rfl, rfl, by simp, fun k hk => heap_setCell_other w a k v (by omega)⟩
/-- a row of the machine has grown: whose it was it is -/
theorem MS.regrow (x : MS w base B O h L A R m) {row : Option Nat} (hg : w.grownBy w1 row) (c : Nat) (hrow : ∀ k, row = some k → O k = c) {v' : Value} (hv : v'.ownBlock = row ∨ v'.ownBlock = some w.heap.size) (hz : ∀ k, v'.ownBlock = some k → k < w1.heap.size) :
    ∃ O' : Nat → Nat, (∀ k, v'.ownBlock = some k → O' k = c) ∧ (∀ k, k < w.heap.size → O' k = O k) ∧ (∀ k, w1.heap.size ≤ k → O' k = 0) ∧ (∀ k, O' k ≠ 0 → O' k ≠ c → w1.heap[k]? = w.heap[k]?) := by
  rcases hv with hv | hv
  · refine ⟨O, fun k hk => hrow k (by rw [← hv]; exact hk), fun _ _ => rfl, fun k hk => x.new k (by have := hg.size; omega), fun k h0 hk => hg.block k (x.own k h0) (fun e => hk (hrow k e.symm))⟩
  · have hlt : w.heap.size < w1.heap.size := hz _ hv
    refine ⟨fun k => if k = w.heap.size then c else O k, fun k hk => ?_, fun k hk => ?_, fun k hk => ?_, fun k h0 hk => ?_⟩
    · rw [hv] at hk; cases hk; simp
    · exact if_neg (by omega)
    · show (if k = w.heap.size then c else O k) = 0
      rw [if_neg (by omega)]; exact x.new k (by omega)
    · simp only at h0 hk
      by_cases e : k = w.heap.size
      · rw [if_pos e] at hk; exact absurd rfl hk
      · rw [if_neg e] at h0 hk
        exact hg.block k (x.own k h0) (fun e => hk (hrow k e.symm))
/-- the stack has grown -/
theorem MS.stacked (x : MS w base B O h L A R m) (hg : w.grownBy w1 h.sv.ownBlock) {v' : Value} {S : List Int} (ho : Own64 w1 base v' S.reverse) (hv : v'.ownBlock = h.sv.ownBlock ∨ v'.ownBlock = some w.heap.size) {F : Nat → Prop} (hF : Apt w F O) :
    MSt (w1.setCell ⟨B, 4, none⟩ v') F B h.z L A R { m with st := S } ∧ Fr F w (w1.setCell ⟨B, 4, none⟩ v') := by
  obtain ⟨O', p1, p2, p3, p4⟩ := x.regrow hg 2 x.os hv (fun k hk => (World.ownsRow.lt ho k hk).2)
  have q : ∀ k c, O k = c → c ≠ 0 → O' k = c := fun k c e hc => (p2 k (x.own k (by rw [e]; exact hc))).trans e
  have hs : ∀ k c, O k = c → c ≠ 0 → c ≠ 2 → w1.heap[k]? = w.heap[k]? := fun k c e hc h2 => p4 k (by rw [q k c e hc]; exact hc) (by rw [q k c e hc]; exact h2)
  have hne : ∀ g, O' g ≠ 1 → (w1.setCell ⟨B, 4, none⟩ v').heap[g]? = w1.heap[g]? := fun g hg => heap_setCell_other w1 ⟨B, 4, none⟩ g v' (fun e => hg (by rw [e]; exact q B 1 x.oB (by decide)))
  refine ⟨⟨O', { h with sv := v' }, ⟨?_, Nat.zero_le _, q B 1 x.oB (by decide), ?_, ?_, ?_, ?_, ?_, ?_, ?_, fun g e => q g 6 (x.oc g e) (by decide), fun g e => q g 7 (x.oa g e) (by decide), fun g e => q g 8 (x.or g e) (by decide), p1, fun g e => q g 4 (x.ol g e) (by decide), fun g e => q g 3 (x.oo g e) (by decide), fun g e => q g 5 (x.op g e) (by decide), fun k hk => p3 k (by simpa using hk)⟩, ?_, rfl⟩, ?_⟩
  · rw [heap_setCell_same w1 B 4 _ _ v' ((hs B 1 x.oB (by decide) (by decide)).trans x.box)]; rfl
  · exact ownsRow_same (ownsRow_mono x.code (Nat.zero_le _)) (fun g e => (hne g (by rw [q g 6 (x.oc g e) (by decide)]; decide)).trans (hs g 6 (x.oc g e) (by decide) (by decide)))
  · exact ownsRow_same (ownsRow_mono x.args (Nat.zero_le _)) (fun g e => (hne g (by rw [q g 7 (x.oa g e) (by decide)]; decide)).trans (hs g 7 (x.oa g e) (by decide) (by decide)))
  · exact ownsRow_same (ownsRow_mono x.reads (Nat.zero_le _)) (fun g e => (hne g (by rw [q g 8 (x.or g e) (by decide)]; decide)).trans (hs g 8 (x.or g e) (by decide) (by decide)))
  · exact ownsRow_same (ownsRow_mono ho (Nat.zero_le _)) (fun g e => hne g (by rw [p1 g e]; decide))
  · exact ownsRow_same (ownsRow_mono x.locs (Nat.zero_le _)) (fun g e => (hne g (by rw [q g 4 (x.ol g e) (by decide)]; decide)).trans (hs g 4 (x.ol g e) (by decide) (by decide)))
  · exact ownsRow_same (ownsRow_mono x.out (Nat.zero_le _)) (fun g e => (hne g (by rw [q g 3 (x.oo g e) (by decide)]; decide)).trans (hs g 3 (x.oo g e) (by decide) (by decide)))
  · exact ownsRow_same (ownsRow_mono x.puts (Nat.zero_le _)) (fun g e => (hne g (by rw [q g 5 (x.op g e) (by decide)]; decide)).trans (hs g 5 (x.op g e) (by decide) (by decide)))
  · exact fun k hk => ⟨(p2 k (hF k hk).2).trans (hF k hk).1, by have := (hF k hk).2; have := hg.size; simp; omega⟩
  · refine ⟨hg.os, hg.tape, hg.output, by simpa using hg.size, fun k hk => ?_⟩
    obtain ⟨f1, f2⟩ := hF k hk
    rw [heap_setCell_other w1 ⟨B, 4, none⟩ k v' (fun e => by rw [e, x.oB] at f1; cases f1)]
    exact hg.block k f2 (fun e => by rw [x.os k e.symm] at f1; cases f1)
/-- the outputs have grown -/
theorem MS.told (x : MS w base B O h L A R m) (hg : w.grownBy w1 h.ov.ownBlock) {v' : Value} {S : List Int} (ho : Own64 w1 base v' S) (hv : v'.ownBlock = h.ov.ownBlock ∨ v'.ownBlock = some w.heap.size) {F : Nat → Prop} (hF : Apt w F O) :
    MSt (w1.setCell ⟨B, 6, none⟩ v') F B h.z L A R { m with ou := S } ∧ Fr F w (w1.setCell ⟨B, 6, none⟩ v') := by
  obtain ⟨O', p1, p2, p3, p4⟩ := x.regrow hg 3 x.oo hv (fun k hk => (World.ownsRow.lt ho k hk).2)
  have q : ∀ k c, O k = c → c ≠ 0 → O' k = c := fun k c e hc => (p2 k (x.own k (by rw [e]; exact hc))).trans e
  have hs : ∀ k c, O k = c → c ≠ 0 → c ≠ 3 → w1.heap[k]? = w.heap[k]? := fun k c e hc h2 => p4 k (by rw [q k c e hc]; exact hc) (by rw [q k c e hc]; exact h2)
  have hne : ∀ g, O' g ≠ 1 → (w1.setCell ⟨B, 6, none⟩ v').heap[g]? = w1.heap[g]? := fun g hg => heap_setCell_other w1 ⟨B, 6, none⟩ g v' (fun e => hg (by rw [e]; exact q B 1 x.oB (by decide)))
  refine ⟨⟨O', { h with ov := v' }, ⟨?_, Nat.zero_le _, q B 1 x.oB (by decide), ?_, ?_, ?_, ?_, ?_, ?_, ?_, fun g e => q g 6 (x.oc g e) (by decide), fun g e => q g 7 (x.oa g e) (by decide), fun g e => q g 8 (x.or g e) (by decide), fun g e => q g 2 (x.os g e) (by decide), fun g e => q g 4 (x.ol g e) (by decide), p1, fun g e => q g 5 (x.op g e) (by decide), fun k hk => p3 k (by simpa using hk)⟩, ?_, rfl⟩, ?_⟩
  · rw [heap_setCell_same w1 B 6 _ _ v' ((hs B 1 x.oB (by decide) (by decide)).trans x.box)]; rfl
  · exact ownsRow_same (ownsRow_mono x.code (Nat.zero_le _)) (fun g e => (hne g (by rw [q g 6 (x.oc g e) (by decide)]; decide)).trans (hs g 6 (x.oc g e) (by decide) (by decide)))
  · exact ownsRow_same (ownsRow_mono x.args (Nat.zero_le _)) (fun g e => (hne g (by rw [q g 7 (x.oa g e) (by decide)]; decide)).trans (hs g 7 (x.oa g e) (by decide) (by decide)))
  · exact ownsRow_same (ownsRow_mono x.reads (Nat.zero_le _)) (fun g e => (hne g (by rw [q g 8 (x.or g e) (by decide)]; decide)).trans (hs g 8 (x.or g e) (by decide) (by decide)))
  · exact ownsRow_same (ownsRow_mono x.stack (Nat.zero_le _)) (fun g e => (hne g (by rw [q g 2 (x.os g e) (by decide)]; decide)).trans (hs g 2 (x.os g e) (by decide) (by decide)))
  · exact ownsRow_same (ownsRow_mono x.locs (Nat.zero_le _)) (fun g e => (hne g (by rw [q g 4 (x.ol g e) (by decide)]; decide)).trans (hs g 4 (x.ol g e) (by decide) (by decide)))
  · exact ownsRow_same (ownsRow_mono ho (Nat.zero_le _)) (fun g e => hne g (by rw [p1 g e]; decide))
  · exact ownsRow_same (ownsRow_mono x.puts (Nat.zero_le _)) (fun g e => (hne g (by rw [q g 5 (x.op g e) (by decide)]; decide)).trans (hs g 5 (x.op g e) (by decide) (by decide)))
  · exact fun k hk => ⟨(p2 k (hF k hk).2).trans (hF k hk).1, by have := (hF k hk).2; have := hg.size; simp; omega⟩
  · refine ⟨hg.os, hg.tape, hg.output, by simpa using hg.size, fun k hk => ?_⟩
    obtain ⟨f1, f2⟩ := hF k hk
    rw [heap_setCell_other w1 ⟨B, 6, none⟩ k v' (fun e => by rw [e, x.oB] at f1; cases f1)]
    exact hg.block k f2 (fun e => by rw [x.oo k e.symm] at f1; cases f1)
/-- a local, or a write, is stored -/
theorem MS.local_ (x : MS w base B O h L A R m) {g n cap : Nat} (hv : h.lv = .slice (some ⟨g, 0, none⟩) n cap) (i : Nat) (z : Int) : MS (w.setCell ⟨g, i, none⟩ (.int .i64 z)) base B O h L A R { m with lo := m.lo.set i z } := by
  have hg : O g = 4 := x.ol g (by rw [hv]; rfl)
  have hne : ∀ k, O k ≠ 4 → (w.setCell ⟨g, i, none⟩ (.int .i64 z)).heap[k]? = w.heap[k]? := fun k hk => heap_setCell_other w ⟨g, i, none⟩ k _ (fun e => hk (by rw [e]; exact hg))
  have hn : n = m.lo.length := by
    have := x.locs
    rw [hv] at this
    obtain ⟨_, ⟨h, _⟩ | ⟨g', cap', cur, e, _⟩⟩ := this
    · cases h
    · cases e; rfl
  refine ⟨(hne B (by rw [x.oB]; decide)).trans x.box, x.hB, x.oB, ownsRow_same x.code (fun k e => hne k (by rw [x.oc k e]; decide)), ownsRow_same x.args (fun k e => hne k (by rw [x.oa k e]; decide)), ownsRow_same x.reads (fun k e => hne k (by rw [x.or k e]; decide)),
   ownsRow_same x.stack (fun k e => hne k (by rw [x.os k e]; decide)), ?_, ownsRow_same x.out (fun k e => hne k (by rw [x.oo k e]; decide)), ownsRow_same x.puts (fun k e => hne k (by rw [x.op k e]; decide)),
   x.oc, x.oa, x.or, x.os, x.ol, x.oo, x.op, fun k hk => x.new k (by simpa using hk)⟩
  have hl := x.locs
  rw [hv, hn] at hl
  have hs := World.ownsRow.stored hl i (.int .i64 z)
  rw [hv, hn]
  show World.ownsRow _ _ _ _ _ (m.lo.set i z).length ((m.lo.set i z).map iv)
  rw [List.length_set, List.map_set]
  exact hs.1
end
end Go.Proofs.YtcaibgbhebldmaaGreat
/-
  THE NAMES OF THE INSTRUCTIONS.
-/
namespace Go.Proofs.YtcaibgbhebldmaaGreat
open Go.RowKit Go.Sort

def nmL : List ByteArray := [⟨#[115, 116, 111, 112]⟩, ⟨#[112, 117, 115, 104]⟩, ⟨#[112, 111, 112]⟩, ⟨#[100, 117, 112]⟩, ⟨#[108, 111, 97, 100]⟩, ⟨#[115, 97, 118, 101]⟩, ⟨#[97, 114, 103]⟩, ⟨#[103, 101, 116]⟩, ⟨#[104, 97, 115]⟩, ⟨#[103, 101, 116, 120]⟩, ⟨#[97, 100, 100]⟩, ⟨#[115, 117, 98]⟩, ⟨#[109, 117, 108]⟩, ⟨#[100, 105, 118]⟩, ⟨#[109, 111, 100]⟩, ⟨#[97, 110, 100]⟩, ⟨#[111, 114]⟩, ⟨#[120, 111, 114]⟩, ⟨#[115, 104, 108]⟩, ⟨#[115, 104, 114]⟩, ⟨#[110, 101, 103]⟩, ⟨#[110, 111, 116]⟩, ⟨#[101, 113]⟩, ⟨#[110, 101]⟩, ⟨#[108, 116]⟩, ⟨#[108, 101]⟩, ⟨#[103, 116]⟩, ⟨#[103, 101]⟩, ⟨#[109, 105, 110]⟩, ⟨#[109, 97, 120]⟩, ⟨#[106, 117, 109, 112]⟩, ⟨#[122, 101, 114, 111]⟩, ⟨#[112, 117, 116]⟩, ⟨#[100, 101, 108]⟩, ⟨#[112, 117, 116, 120]⟩, ⟨#[111, 117, 116]⟩, ⟨#[97, 98, 111, 114, 116]⟩]
def nmOf (op : Int) : ByteArray := nmL.getD op.toNat ⟨#[]⟩
def nmCells : Array Value := #[.string ⟨#[115, 116, 111, 112]⟩, .string ⟨#[112, 117, 115, 104]⟩, .string ⟨#[112, 111, 112]⟩, .string ⟨#[100, 117, 112]⟩, .string ⟨#[108, 111, 97, 100]⟩, .string ⟨#[115, 97, 118, 101]⟩, .string ⟨#[97, 114, 103]⟩, .string ⟨#[103, 101, 116]⟩, .string ⟨#[104, 97, 115]⟩, .string ⟨#[103, 101, 116, 120]⟩, .string ⟨#[97, 100, 100]⟩, .string ⟨#[115, 117, 98]⟩, .string ⟨#[109, 117, 108]⟩, .string ⟨#[100, 105, 118]⟩, .string ⟨#[109, 111, 100]⟩, .string ⟨#[97, 110, 100]⟩, .string ⟨#[111, 114]⟩, .string ⟨#[120, 111, 114]⟩, .string ⟨#[115, 104, 108]⟩, .string ⟨#[115, 104, 114]⟩, .string ⟨#[110, 101, 103]⟩, .string ⟨#[110, 111, 116]⟩, .string ⟨#[101, 113]⟩, .string ⟨#[110, 101]⟩, .string ⟨#[108, 116]⟩, .string ⟨#[108, 101]⟩, .string ⟨#[103, 116]⟩, .string ⟨#[103, 101]⟩, .string ⟨#[109, 105, 110]⟩, .string ⟨#[109, 97, 120]⟩, .string ⟨#[106, 117, 109, 112]⟩, .string ⟨#[122, 101, 114, 111]⟩, .string ⟨#[112, 117, 116]⟩, .string ⟨#[100, 101, 108]⟩, .string ⟨#[112, 117, 116, 120]⟩, .string ⟨#[111, 117, 116]⟩, .string ⟨#[97, 98, 111, 114, 116]⟩]
theorem nmCells_eq : nmCells = (nmL.map Value.string).toArray := rfl
theorem nmCells_get (i : Nat) (h : i < 37) : nmCells[i]? = some (.string (nmOf (i : Int))) := by
  have hl : nmL.length = 37 := rfl
  rw [nmCells_eq]
  simp [nmOf, List.getD_eq_getElem?_getD, List.getElem?_eq_getElem (show i < nmL.length by omega)]
theorem wpList_built {P : Program} {ops : Array Oper} {rest : List Oper} {o : Oper} {a : Act} {w : World} {Q : Exit → Act → World → Prop} (hg : o.guard = none) (t : TypeId) (parts : Array (Nat × Operand)) (ho : o.op = .build t parts) (cells : Array Value)
    (hc : P.built t (parts.map fun (i, x) => (i, a.eval x)).toList = some cells) (h : wpList P ops Q rest (a.put o.dst (.agg cells)) w) : wpList P ops Q (o :: rest) a w := by
  refine wpList_build hg t parts ho (by rw [hc]; rfl) ?_
  rw [hc]; exact h

def spellS (op : Int) : ByteArray := if isOpB op then nmOf op else ⟨#[]⟩
theorem spellS_op {op : Int} (h : isOpB op = true) : spellS op = nmOf op := by rw [spellS, h]; rfl
theorem spellS_no {op : Int} (h : isOpB op = false) : spellS op = ⟨#[]⟩ := by rw [spellS, h]; rfl
/-- texts and numbers -/
theorem nm_ne {i j : Int} (hi : isOpB i = true) (hj : isOpB j = true) : nmOf i = nmOf j ↔ i = j := by
  constructor
  · intro h
    have hd : ∀ a b : Fin 37, (nmL.getD a.val ⟨#[]⟩).data.toList = (nmL.getD b.val ⟨#[]⟩).data.toList → a = b := by decide +kernel
    simp only [isOpB, Bool.and_eq_true, decide_eq_true_eq] at hi hj
    have h2 := hd ⟨i.toNat, by omega⟩ ⟨j.toNat, by omega⟩ (by rw [show nmL.getD i.toNat ⟨#[]⟩ = nmL.getD j.toNat ⟨#[]⟩ from h])
    simp at h2
    omega
  · rintro rfl; rfl

end Go.Proofs.YtcaibgbhebldmaaGreat
/-
  THE INSTRUCTIONS WITH TWO VALUES.
-/
namespace Go.Proofs.YtcaibgbhebldmaaGreat
open Go.RowKit Go.Sort

theorem truth_any (w : World) (b : Bool) : Calls Tryz.prog 78 #[.bool b] w fun e w' => e = .returned (.int .i64 (trN b)) ∧ w' = w := by
  cases b <;>
  (go_enter Tryz.func78, Tryz.ntmps78
   go_wp2
   go_ret
   exact ⟨rfl, rfl⟩)
abbrev pairRet (op x y : Int) : Ending := .returned (.tuple #[.int .i64 (pairN op x y).1, .int .i64 (pairN op x y).2])
theorem fn10 (w : World) (x y : Int) : Calls Tryz.prog 99 #[.int .i64 x, .int .i64 y] w fun e w' => e = pairRet 10 x y ∧ w' = w := by
  go_enter Tryz.func99, Tryz.ntmps99
  go_wp2
  go_ret2
  exact ⟨rfl, rfl⟩
theorem fn11 (w : World) (x y : Int) : Calls Tryz.prog 100 #[.int .i64 x, .int .i64 y] w fun e w' => e = pairRet 11 x y ∧ w' = w := by
  go_enter Tryz.func100, Tryz.ntmps100
  go_wp2
  go_ret2
  exact ⟨rfl, rfl⟩
theorem fn12 (w : World) (x y : Int) : Calls Tryz.prog 101 #[.int .i64 x, .int .i64 y] w fun e w' => e = pairRet 12 x y ∧ w' = w := by
  go_enter Tryz.func101, Tryz.ntmps101
  go_wp2
  go_ret2
  exact ⟨rfl, rfl⟩
theorem fn13 (w : World) (x y : Int) : Calls Tryz.prog 102 #[.int .i64 x, .int .i64 y] w fun e w' => e = pairRet 13 x y ∧ w' = w := by
  by_cases h0 : y = 0
  · subst h0
    go_enter Tryz.func102, Tryz.ntmps102
    go_wp2
    go_ret2
    exact ⟨rfl, rfl⟩
  · have h1 : (y == 0) = false := by simpa using h0
    have HE : Hid (pairN 13 x y = (wrap64 (x.tdiv y), 0)) := by
      show pairN 13 x y = _
      simp [pairN, h0]
    go_enter Tryz.func102, Tryz.ntmps102
    go_wp2
    go_ret2
    exact ⟨by rw [pairRet, HE.out]; rfl, rfl⟩
theorem fn14 (w : World) (x y : Int) : Calls Tryz.prog 103 #[.int .i64 x, .int .i64 y] w fun e w' => e = pairRet 14 x y ∧ w' = w := by
  by_cases h0 : y = 0
  · subst h0
    go_enter Tryz.func103, Tryz.ntmps103
    go_wp2
    go_ret2
    exact ⟨rfl, rfl⟩
  · have h1 : (y == 0) = false := by simpa using h0
    have HE : Hid (pairN 14 x y = (x.tmod y, 0)) := by
      show pairN 14 x y = _
      simp [pairN, h0]
    go_enter Tryz.func103, Tryz.ntmps103
    go_wp2
    go_ret2
    exact ⟨by rw [pairRet, HE.out]; rfl, rfl⟩
theorem fn15 (w : World) (x y : Int) : Calls Tryz.prog 104 #[.int .i64 x, .int .i64 y] w fun e w' => e = pairRet 15 x y ∧ w' = w := by
  go_enter Tryz.func104, Tryz.ntmps104
  go_wp2
  go_ret2
  exact ⟨rfl, rfl⟩
theorem fn16 (w : World) (x y : Int) : Calls Tryz.prog 105 #[.int .i64 x, .int .i64 y] w fun e w' => e = pairRet 16 x y ∧ w' = w := by
  go_enter Tryz.func105, Tryz.ntmps105
  go_wp2
  go_ret2
  exact ⟨rfl, rfl⟩
theorem fn17 (w : World) (x y : Int) : Calls Tryz.prog 106 #[.int .i64 x, .int .i64 y] w fun e w' => e = pairRet 17 x y ∧ w' = w := by
  go_enter Tryz.func106, Tryz.ntmps106
  go_wp2
  go_ret2
  exact ⟨rfl, rfl⟩
theorem fn18 (w : World) (x y : Int) : Calls Tryz.prog 107 #[.int .i64 x, .int .i64 y] w fun e w' => e = pairRet 18 x y ∧ w' = w := by
  by_cases h0 : y < 0
  · have HE : Hid (pairN 18 x y = (0, 202)) := by
      show pairN 18 x y = _
      simp [pairN, h0]
    go_enter Tryz.func107, Tryz.ntmps107
    go_wp2
    go_ret2
    exact ⟨by rw [pairRet, HE.out]; rfl, rfl⟩
  · have HE : Hid (pairN 18 x y = (wrap64 (x * 2 ^ min (IntKind.u64.wrap y).toNat 64), 0)) := by
      show pairN 18 x y = _
      simp [pairN, h0]
    go_enter Tryz.func107, Tryz.ntmps107
    go_wp2
    go_ret2
    exact ⟨by rw [pairRet, HE.out]; rfl, rfl⟩
theorem fn19 (w : World) (x y : Int) : Calls Tryz.prog 108 #[.int .i64 x, .int .i64 y] w fun e w' => e = pairRet 19 x y ∧ w' = w := by
  by_cases h0 : y < 0
  · have HE : Hid (pairN 19 x y = (0, 202)) := by
      show pairN 19 x y = _
      simp [pairN, h0]
    go_enter Tryz.func108, Tryz.ntmps108
    go_wp2
    go_ret2
    exact ⟨by rw [pairRet, HE.out]; rfl, rfl⟩
  · have HE : Hid (pairN 19 x y = (x / 2 ^ min (IntKind.u64.wrap y).toNat 64, 0)) := by
      show pairN 19 x y = _
      simp [pairN, h0]
    go_enter Tryz.func108, Tryz.ntmps108
    go_wp2
    go_ret2
    exact ⟨by rw [pairRet, HE.out]; rfl, rfl⟩
theorem fn22 (w : World) (x y : Int) : Calls Tryz.prog 109 #[.int .i64 x, .int .i64 y] w fun e w' => e = pairRet 22 x y ∧ w' = w := by
  go_enter Tryz.func109, Tryz.ntmps109
  go_wp2_with fail
  refine (truth_any w _).mono ?_
  rintro e w1 ⟨rfl, rfl⟩
  go_wp2
  go_ret2
  exact ⟨rfl, rfl⟩
theorem fn23 (w : World) (x y : Int) : Calls Tryz.prog 110 #[.int .i64 x, .int .i64 y] w fun e w' => e = pairRet 23 x y ∧ w' = w := by
  go_enter Tryz.func110, Tryz.ntmps110
  go_wp2_with fail
  refine (truth_any w _).mono ?_
  rintro e w1 ⟨rfl, rfl⟩
  go_wp2
  go_ret2
  exact ⟨rfl, rfl⟩
theorem fn24 (w : World) (x y : Int) : Calls Tryz.prog 111 #[.int .i64 x, .int .i64 y] w fun e w' => e = pairRet 24 x y ∧ w' = w := by
  go_enter Tryz.func111, Tryz.ntmps111
  go_wp2_with fail
  refine (truth_any w _).mono ?_
  rintro e w1 ⟨rfl, rfl⟩
  go_wp2
  go_ret2
  exact ⟨rfl, rfl⟩
theorem fn25 (w : World) (x y : Int) : Calls Tryz.prog 112 #[.int .i64 x, .int .i64 y] w fun e w' => e = pairRet 25 x y ∧ w' = w := by
  go_enter Tryz.func112, Tryz.ntmps112
  go_wp2_with fail
  refine (truth_any w _).mono ?_
  rintro e w1 ⟨rfl, rfl⟩
  go_wp2
  go_ret2
  exact ⟨rfl, rfl⟩
theorem fn26 (w : World) (x y : Int) : Calls Tryz.prog 113 #[.int .i64 x, .int .i64 y] w fun e w' => e = pairRet 26 x y ∧ w' = w := by
  go_enter Tryz.func113, Tryz.ntmps113
  go_wp2_with fail
  refine (truth_any w _).mono ?_
  rintro e w1 ⟨rfl, rfl⟩
  go_wp2
  go_ret2
  exact ⟨rfl, rfl⟩
theorem fn27 (w : World) (x y : Int) : Calls Tryz.prog 114 #[.int .i64 x, .int .i64 y] w fun e w' => e = pairRet 27 x y ∧ w' = w := by
  go_enter Tryz.func114, Tryz.ntmps114
  go_wp2_with fail
  refine (truth_any w _).mono ?_
  rintro e w1 ⟨rfl, rfl⟩
  go_wp2
  go_ret2
  exact ⟨rfl, rfl⟩
theorem fn28 (w : World) (x y : Int) : Calls Tryz.prog 115 #[.int .i64 x, .int .i64 y] w fun e w' => e = pairRet 28 x y ∧ w' = w := by
  go_enter Tryz.func115, Tryz.ntmps115
  go_wp2
  go_ret2
  exact ⟨rfl, rfl⟩
theorem fn29 (w : World) (x y : Int) : Calls Tryz.prog 116 #[.int .i64 x, .int .i64 y] w fun e w' => e = pairRet 29 x y ∧ w' = w := by
  go_enter Tryz.func116, Tryz.ntmps116
  go_wp2
  go_ret2
  exact ⟨rfl, rfl⟩
def fnCells : Array Value := #[.nilFunc, .nilFunc, .nilFunc, .nilFunc, .nilFunc, .nilFunc, .nilFunc, .nilFunc, .nilFunc, .nilFunc, .func (.func 99) #[] #[], .func (.func 100) #[] #[], .func (.func 101) #[] #[], .func (.func 102) #[] #[], .func (.func 103) #[] #[], .func (.func 104) #[] #[], .func (.func 105) #[] #[], .func (.func 106) #[] #[], .func (.func 107) #[] #[], .func (.func 108) #[] #[], .nilFunc, .nilFunc, .func (.func 109) #[] #[], .func (.func 110) #[] #[], .func (.func 111) #[] #[], .func (.func 112) #[] #[], .func (.func 113) #[] #[], .func (.func 114) #[] #[], .func (.func 115) #[] #[], .func (.func 116) #[] #[], .nilFunc, .nilFunc, .nilFunc, .nilFunc, .nilFunc, .nilFunc, .nilFunc]
set_option maxHeartbeats 400000 in
set_option maxRecDepth 100000 in
theorem pairs_any (w : World) : Calls Tryz.prog 93 #[] w fun e w' => e = .returned (.agg fnCells) ∧ Below w.heap.size w w' := by
  go_enter Tryz.func93, Tryz.ntmps93
  go_wp2_with (first | (refine wpList_built rfl 163 _ rfl fnCells (by kernel_rfl) ?_) | (refine wpList_store_row rfl _ _ _ rfl w.heap.size fnCells rfl rfl 163 _ (heap_alloc_new _ _ rfl) (by kernel_rfl) (by kernel_rfl) (by kernel_rfl) ?_))
  have hh := setRow_heap _ w.heap.size _ fnCells 163 (0, 0) (heap_alloc_new (w := w) (.cells #[.nilFunc, .nilFunc, .nilFunc, .nilFunc, .nilFunc, .nilFunc, .nilFunc, .nilFunc, .nilFunc, .nilFunc, .nilFunc, .nilFunc, .nilFunc, .nilFunc, .nilFunc, .nilFunc, .nilFunc, .nilFunc, .nilFunc, .nilFunc, .nilFunc, .nilFunc, .nilFunc, .nilFunc, .nilFunc, .nilFunc, .nilFunc, .nilFunc, .nilFunc, .nilFunc, .nilFunc, .nilFunc, .nilFunc, .nilFunc, .nilFunc, .nilFunc, .nilFunc] 163) w.heap.size rfl)
  have HB : Hid (Below w.heap.size w ((w.alloc (.cells #[.nilFunc, .nilFunc, .nilFunc, .nilFunc, .nilFunc, .nilFunc, .nilFunc, .nilFunc, .nilFunc, .nilFunc, .nilFunc, .nilFunc, .nilFunc, .nilFunc, .nilFunc, .nilFunc, .nilFunc, .nilFunc, .nilFunc, .nilFunc, .nilFunc, .nilFunc, .nilFunc, .nilFunc, .nilFunc, .nilFunc, .nilFunc, .nilFunc, .nilFunc, .nilFunc, .nilFunc, .nilFunc, .nilFunc, .nilFunc, .nilFunc, .nilFunc, .nilFunc] 163)).setRow w.heap.size fnCells)) := ((Below.refl _ _).alloc (Nat.le_refl _) _).trans (below_setRow _ (Nat.le_refl _))
  generalize (w.alloc (.cells #[.nilFunc, .nilFunc, .nilFunc, .nilFunc, .nilFunc, .nilFunc, .nilFunc, .nilFunc, .nilFunc, .nilFunc, .nilFunc, .nilFunc, .nilFunc, .nilFunc, .nilFunc, .nilFunc, .nilFunc, .nilFunc, .nilFunc, .nilFunc, .nilFunc, .nilFunc, .nilFunc, .nilFunc, .nilFunc, .nilFunc, .nilFunc, .nilFunc, .nilFunc, .nilFunc, .nilFunc, .nilFunc, .nilFunc, .nilFunc, .nilFunc, .nilFunc, .nilFunc] 163)).setRow w.heap.size fnCells = W at *
  have hr := World.rangeAt_of_block hh 0 37
  have e : (fnCells.extract 0 (0 + 37)).toList = fnCells.toList := by rfl
  rw [e] at hr
  have hld := run_loadVar_mid (P := Tryz.prog) W w.heap.size 0 163 fnCells.toList _ hr Tryz.underlying163 rfl (by kernel_rfl)
  refine bodyPost_ret (v := .agg fnCells) ?_ rfl ⟨rfl, HB.out⟩
  simp [results, Tryz.results93, Act.put, asAddr, hld]
end Go.Proofs.YtcaibgbhebldmaaGreat
