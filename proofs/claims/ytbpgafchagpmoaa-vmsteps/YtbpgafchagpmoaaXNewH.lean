/-
  ROWS THAT ARE MADE ONE BEHIND THE OTHER, FOR A NEW MACHINE.
-/
import Derived.Test.YtbpgafchagpmoaaXClone
import Derived.Test.YtbpgafchagpmoaaXGood
namespace Go.Proofs.Ytbpgafchagpmoaa
open Go.RowKit Go.Sort

/-- a row: the slice's value, its length, its cells -/
structure Rw where
  v : Value
  n : Nat
  xs : List Value
def nilRw : Rw := ⟨.slice none 0 0, 0, []⟩
def Lab (X : World) (O : Nat → Nat) (e size c : Nat) (r : Rw) : Prop := X.ownsRow 0 e size r.v r.n r.xs ∧ ∀ g, r.v.ownBlock = some g → O g = c
theorem Lab.nil (X : World) (O : Nat → Nat) (e size c : Nat) : Lab X O e size c nilRw := ⟨World.ownsRow_nil _ _ _ _, fun g h => by cases h⟩
theorem Lab.grow {X Y : World} {O O' : Nat → Nat} {e size c : Nat} {r : Rw} (h : Lab X O e size c r) (hb : Go.RowKit.Below X.heap.size X Y) (ho : ∀ k, k < X.heap.size → O' k = O k) : Lab Y O' e size c r :=
  ⟨ownsRow_same h.1 (fun g hg => hb.block g (World.ownsRow.lt h.1 g hg).2), fun g hg => (ho g (World.ownsRow.lt h.1 g hg).2).trans (h.2 g hg)⟩
/-- THE ROWS THAT ARE THERE BEHIND WORLD w1: code, args, reads, locals, writes -/
structure NSO (w1 X : World) (O : Nat → Nat) (c a r l p : Rw) : Prop where
  bel : Go.RowKit.Below w1.heap.size w1 X
  new : ∀ k, X.heap.size ≤ k → O k = 0
  old : ∀ k, k < w1.heap.size → O k = 0
  lc : Lab X O 66 2 6 c
  la : Lab X O 2 1 7 a
  lr : Lab X O 64 2 8 r
  ll : Lab X O 2 1 4 l
  lp : Lab X O 60 2 5 p
def NS (w1 X : World) (c a r l p : Rw) : Prop := ∃ O, NSO w1 X O c a r l p
theorem NS.start (w1 : World) : NS w1 w1.drew nilRw nilRw nilRw nilRw nilRw :=
  ⟨fun _ => 0, ⟨rfl, rfl, rfl, Nat.le_refl _, fun _ _ => rfl⟩, fun _ _ => rfl, fun _ _ => rfl, Lab.nil _ _ _ _ _, Lab.nil _ _ _ _ _, Lab.nil _ _ _ _ _, Lab.nil _ _ _ _ _, Lab.nil _ _ _ _ _⟩
/-- labels behind a growth -/
def upO (O : Nat → Nat) (X Y : World) (c : Nat) : Nat → Nat := fun k => if X.heap.size ≤ k ∧ k < Y.heap.size then c else O k
theorem upO_old {O : Nat → Nat} {X Y : World} {c k : Nat} (h : k < X.heap.size) : upO O X Y c k = O k := if_neg (by omega)
theorem Lab.new {X Y : World} {O : Nat → Nat} {e size c n : Nat} {v : Value} {xs : List Value} (h : Y.ownsRow X.heap.size e size v n xs) : Lab Y (upO O X Y c) e size c ⟨v, n, xs⟩ :=
  ⟨ownsRow_mono h (Nat.zero_le _), fun g hg => if_pos (World.ownsRow.lt h g hg)⟩
section
variable {w1 X Y : World} {O : Nat → Nat} {c a r l p : Rw} {v : Value} {n : Nat} {xs : List Value}
theorem NSO.base (h : NSO w1 X O c a r l p) (hb : Go.RowKit.Below X.heap.size X Y) (q : Nat) : Go.RowKit.Below w1.heap.size w1 Y ∧ (∀ k, Y.heap.size ≤ k → upO O X Y q k = 0) ∧ (∀ k, k < w1.heap.size → upO O X Y q k = 0) :=
  ⟨h.bel.trans (hb.mono h.bel.size), fun k hk => (if_neg (by omega)).trans (h.new k (by have := hb.size; omega)), fun k hk => (upO_old (by have := h.bel.size; omega)).trans (h.old k hk)⟩
theorem NS.addC (h : NS w1 X c a r l p) (hb : Go.RowKit.Below X.heap.size X Y) (ho : Y.ownsRow X.heap.size 66 2 v n xs) : NS w1 Y ⟨v, n, xs⟩ a r l p := by
  obtain ⟨O, h⟩ := h
  obtain ⟨b1, b2, b3⟩ := h.base hb 6
  exact ⟨upO O X Y 6, b1, b2, b3, Lab.new ho, h.la.grow hb (fun _ => upO_old), h.lr.grow hb (fun _ => upO_old), h.ll.grow hb (fun _ => upO_old), h.lp.grow hb (fun _ => upO_old)⟩
theorem NS.addA (h : NS w1 X c a r l p) (hb : Go.RowKit.Below X.heap.size X Y) (ho : Y.ownsRow X.heap.size 2 1 v n xs) : NS w1 Y c ⟨v, n, xs⟩ r l p := by
  obtain ⟨O, h⟩ := h
  obtain ⟨b1, b2, b3⟩ := h.base hb 7
  exact ⟨upO O X Y 7, b1, b2, b3, h.lc.grow hb (fun _ => upO_old), Lab.new ho, h.lr.grow hb (fun _ => upO_old), h.ll.grow hb (fun _ => upO_old), h.lp.grow hb (fun _ => upO_old)⟩
theorem NS.addR (h : NS w1 X c a r l p) (hb : Go.RowKit.Below X.heap.size X Y) (ho : Y.ownsRow X.heap.size 64 2 v n xs) : NS w1 Y c a ⟨v, n, xs⟩ l p := by
  obtain ⟨O, h⟩ := h
  obtain ⟨b1, b2, b3⟩ := h.base hb 8
  exact ⟨upO O X Y 8, b1, b2, b3, h.lc.grow hb (fun _ => upO_old), h.la.grow hb (fun _ => upO_old), Lab.new ho, h.ll.grow hb (fun _ => upO_old), h.lp.grow hb (fun _ => upO_old)⟩
theorem NS.addL (h : NS w1 X c a r l p) (hb : Go.RowKit.Below X.heap.size X Y) (ho : Y.ownsRow X.heap.size 2 1 v n xs) : NS w1 Y c a r ⟨v, n, xs⟩ p := by
  obtain ⟨O, h⟩ := h
  obtain ⟨b1, b2, b3⟩ := h.base hb 4
  exact ⟨upO O X Y 4, b1, b2, b3, h.lc.grow hb (fun _ => upO_old), h.la.grow hb (fun _ => upO_old), h.lr.grow hb (fun _ => upO_old), Lab.new ho, h.lp.grow hb (fun _ => upO_old)⟩
theorem NS.addP (h : NS w1 X c a r l p) (hb : Go.RowKit.Below X.heap.size X Y) (ho : Y.ownsRow X.heap.size 60 2 v n xs) : NS w1 Y c a r l ⟨v, n, xs⟩ := by
  obtain ⟨O, h⟩ := h
  obtain ⟨b1, b2, b3⟩ := h.base hb 5
  exact ⟨upO O X Y 5, b1, b2, b3, h.lc.grow hb (fun _ => upO_old), h.la.grow hb (fun _ => upO_old), h.lr.grow hb (fun _ => upO_old), h.ll.grow hb (fun _ => upO_old), Lab.new ho⟩
theorem NS.bel (h : NS w1 X c a r l p) : Go.RowKit.Below w1.heap.size w1 X := by obtain ⟨O, h⟩ := h; exact h.bel
end
/-- the zero cells of n writes -/
abbrev zP (n : Nat) : Array Value := madeCells #[.int .i64 0, .int .i64 0] (n * 2)
abbrev zL (n : Nat) : Array Value := madeCells #[.int .i64 0] n
theorem zL_list (n : Nat) : (zL n).toList = (List.replicate n (0 : Int)).map iv := by rw [zL, made_cellsI]; simp [cellsI]
theorem zP_list (n : Nat) : (zP n).toList = cks (List.replicate n (0, 0)) := by
  rw [cks_replicate]
  apply List.ext_getElem?
  intro j
  simp only [zP, madeCells]
  by_cases h : j < n * 2
  · have : j % 2 = 0 ∨ j % 2 = 1 := by omega
    simp [h]
    rcases this with h1 | h1 <;> simp [h1]
  · simp [h]
def rwL (g n : Nat) : Rw := ⟨.slice (some ⟨g, 0, none⟩) n n, n, (List.replicate n (0 : Int)).map iv⟩
def rwP (g n : Nat) : Rw := ⟨.slice (some ⟨g, 0, none⟩) n n, n, cks (List.replicate n (0, 0))⟩
theorem NS.mkL {w1 X : World} {c a r l p : Rw} (h : NS w1 X c a r l p) {n : Nat} (hn : n ≤ 16) : NS w1 (X.alloc (.cells (zL n) 2)) c a r (rwL X.heap.size n) p := by
  refine h.addL ((Below.refl _ _).alloc (Nat.le_refl _) _) ⟨by simp, .inr ⟨X.heap.size, n, zL n, rfl, Nat.le_refl _, heap_alloc_new _ _ rfl, Nat.le_refl _, by unfold maxLen; omega, ?_, ?_⟩⟩
  · rw [← Array.length_toList, zL_list]; simp
  · rw [zL_list, List.take_of_length_le (by simp)]
theorem NS.mkP {w1 X : World} {c a r l p : Rw} (h : NS w1 X c a r l p) {n : Nat} (hn : n ≤ 16) : NS w1 (X.alloc (.cells (zP n) 60)) c a r l (rwP X.heap.size n) := by
  refine h.addP ((Below.refl _ _).alloc (Nat.le_refl _) _) ⟨by rw [cks_length]; simp, .inr ⟨X.heap.size, n, zP n, rfl, Nat.le_refl _, heap_alloc_new _ _ rfl, Nat.le_refl _, by unfold maxLen; omega, ?_, ?_⟩⟩
  · rw [← Array.length_toList, zP_list, cks_length]; simp
  · rw [zP_list, List.take_of_length_le (by rw [cks_length]; simp)]
theorem make_64 (c : Nat) (hc : c ≤ 16) (u : World) : (Go.Instr.makeSlice 25 (.int .i64 (c : Int)) (.int .i64 (c : Int))).run Try.prog u = .ok (.slice (some ⟨u.heap.size, 0, none⟩) c c) (u.alloc (.cells (zL c) 2)) := by
  obtain ⟨i0, hi, hz0, hz1, hz2⟩ := info_parts info64
  have h := run_make (P := Try.prog) u 25 2 i0 (.int .i64 0) Try.underlying25 hi hz0 .i64 .i64 (c : Int) (c : Int) (by omega) (Int.le_refl _) (by rw [hz2]; omega) (by omega)
  simpa [hz1, Value.cells] using h
theorem make_puts (c : Nat) (hc : c ≤ 16) (u : World) : (Go.Instr.makeSlice 31 (.int .i64 (c : Int)) (.int .i64 (c : Int))).run Try.prog u = .ok (.slice (some ⟨u.heap.size, 0, none⟩) c c) (u.alloc (.cells (zP c) 60)) := by
  obtain ⟨i0, hi, hz0, hz1, hz2⟩ := info_parts info_put
  have h := run_make (P := Try.prog) u 31 60 i0 (.agg #[.int .i64 0, .int .i64 0]) Try.underlying31 hi hz0 .i64 .i64 (c : Int) (c : Int) (by omega) (Int.le_refl _) (by rw [hz2]; omega) (by omega)
  simpa [hz1, Value.cells] using h
/-- THE NEW MACHINE -/
theorem NS.machine {w1 X : World} {L : List K} {A : List Int} {R : List C} {c a r : Value} {gl gp nl np : Nat} (h : NS w1 X ⟨c, L.length, cks L⟩ ⟨a, A.length, A.map iv⟩ ⟨r, R.length, ccs R⟩ (rwL gl nl) (rwP gp np)) {F : Nat → Prop} (hF : ∀ k, F k → k < w1.heap.size) (p : Nums) (h1 : p.locals = (nl : Int)) (h2 : p.writes = (np : Int)) :
    MSt (X.alloc (.cells #[c, a, r, .int .i64 0, .slice none 0 0, .slice (some ⟨gl, 0, none⟩) nl nl, .slice none 0 0, .slice (some ⟨gp, 0, none⟩) np np, .int .i64 0, .bool false, .int .i64 0, .int .i64 0] 81)) F X.heap.size ⟨c, a, r, .slice (some ⟨gl, 0, none⟩) nl nl, .slice (some ⟨gp, 0, none⟩) np np⟩ L A R (startM p) ∧ w1.heap.size ≤ X.heap.size ∧
    Go.RowKit.Below w1.heap.size w1 (X.alloc (.cells #[c, a, r, .int .i64 0, .slice none 0 0, .slice (some ⟨gl, 0, none⟩) nl nl, .slice none 0 0, .slice (some ⟨gp, 0, none⟩) np np, .int .i64 0, .bool false, .int .i64 0, .int .i64 0] 81)) := by
  obtain ⟨O, h⟩ := h
  have hb : ∀ o, Go.RowKit.Below X.heap.size X (X.alloc o) := fun o => (Below.refl _ _).alloc (Nat.le_refl _) _
  have ho : ∀ k, k < X.heap.size → (if k = X.heap.size then 1 else O k) = O k := fun k hk => if_neg (by omega)
  have e1 : p.locals.toNat = nl := by omega
  have e2 : p.writes.toNat = np := by omega
  refine ⟨⟨fun k => if k = X.heap.size then 1 else O k, ⟨c, a, r, .slice none 0 0, .slice (some ⟨gl, 0, none⟩) nl nl, .slice none 0 0, .slice (some ⟨gp, 0, none⟩) np np⟩, ?_, ?_, rfl⟩, h.bel.size, h.bel.trans ((hb _).mono h.bel.size)⟩
  · have hc := h.lc.grow (hb (.cells #[c, a, r, .int .i64 0, .slice none 0 0, .slice (some ⟨gl, 0, none⟩) nl nl, .slice none 0 0, .slice (some ⟨gp, 0, none⟩) np np, .int .i64 0, .bool false, .int .i64 0, .int .i64 0] 81)) ho
    have ha := h.la.grow (hb (.cells #[c, a, r, .int .i64 0, .slice none 0 0, .slice (some ⟨gl, 0, none⟩) nl nl, .slice none 0 0, .slice (some ⟨gp, 0, none⟩) np np, .int .i64 0, .bool false, .int .i64 0, .int .i64 0] 81)) ho
    have hr := h.lr.grow (hb (.cells #[c, a, r, .int .i64 0, .slice none 0 0, .slice (some ⟨gl, 0, none⟩) nl nl, .slice none 0 0, .slice (some ⟨gp, 0, none⟩) np np, .int .i64 0, .bool false, .int .i64 0, .int .i64 0] 81)) ho
    have hl := h.ll.grow (hb (.cells #[c, a, r, .int .i64 0, .slice none 0 0, .slice (some ⟨gl, 0, none⟩) nl nl, .slice none 0 0, .slice (some ⟨gp, 0, none⟩) np np, .int .i64 0, .bool false, .int .i64 0, .int .i64 0] 81)) ho
    have hp := h.lp.grow (hb (.cells #[c, a, r, .int .i64 0, .slice none 0 0, .slice (some ⟨gl, 0, none⟩) nl nl, .slice none 0 0, .slice (some ⟨gp, 0, none⟩) np np, .int .i64 0, .bool false, .int .i64 0, .int .i64 0] 81)) ho
    refine ⟨heap_alloc_new _ _ rfl, Nat.zero_le _, if_pos rfl, hc.1, ha.1, hr.1, World.ownsRow_nil _ _ _ _, ?_, World.ownsRow_nil _ _ _ _, ?_, hc.2, ha.2, hr.2, (fun g e => by cases e), hl.2, (fun g e => by cases e), hp.2, fun k hk => ?_⟩
    · have := hl.1
      show World.ownsRow _ _ _ _ _ (List.replicate p.locals.toNat (0 : Int)).length ((List.replicate p.locals.toNat (0 : Int)).map iv)
      rw [List.length_replicate, e1]; exact this
    · have := hp.1
      show World.ownsRow _ _ _ _ _ (List.replicate p.writes.toNat ((0 : Int), (0 : Int))).length (cks (List.replicate p.writes.toNat (0, 0)))
      rw [List.length_replicate, e2]; exact this
    · have : X.heap.size + 1 ≤ k := by simpa using hk
      show (if k = X.heap.size then 1 else O k) = 0
      rw [if_neg (by omega)]; exact h.new k (by omega)
  · intro k hk
    have h3 := hF k hk
    have h4 := h.bel.size
    refine ⟨?_, by simp; omega⟩
    show (if k = X.heap.size then 1 else O k) = 0
    rw [if_neg (by omega)]; exact h.old k h3
end Go.Proofs.Ytbpgafchagpmoaa
