import Derived.Test.YtkjmeknaedapjaaDoorK11
import Derived.Deep.QuietTactic
import Derived.BigQuiet
import Derived.Laws.CopyRow
import Derived.Laws.Cover3
/-
  THE WALK OF THE DOCUMENT's Longest.
-/
namespace Go.Proofs.YtkjmeknaedapjaaDoor
open Go.RowKit Go.Sort

theorem below_drewK (B : Nat) (W : World) (q : Nat) : Below B W (W.drewN q) := ⟨rfl, rfl, rfl, Nat.le_refl _, fun _ _ => rfl⟩


end Go.Proofs.YtkjmeknaedapjaaDoor
/-
  THE WALK OF roomy.
-/
namespace Go.Proofs.YtkjmeknaedapjaaDoor
open Go.RowKit Go.Sort

theorem cks_zero : ∀ c : Nat, cks (List.replicate c (0, 0)) = List.replicate (c * 2) (.int .i64 0)
  | 0 => rfl
  | c + 1 => by
    rw [List.replicate_succ, show (c + 1) * 2 = c * 2 + 1 + 1 by omega, List.replicate_succ, List.replicate_succ]
    simp only [cks, cks_zero c]
theorem toList_madeCells_two (z : Value) (n : Nat) : (madeCells #[z, z] n).toList = List.replicate n z := by
  apply List.ext_getElem?
  intro j
  by_cases hj : j < n
  · rcases Nat.mod_two_eq_zero_or_one j with h | h <;> simp [madeCells, hj, h]
  · simp [madeCells, hj]
theorem make_keys (c : Nat) (C : Int) (hC : C = c) (hc : c * 16 ≤ 281474976710656) (u : World) : (Instr.makeSlice 39 (.int .i64 C) (.int .i64 C)).run Tryd.prog u =
    .ok (.slice (some ⟨u.heap.size, 0, none⟩) c c) (u.alloc (.cells (cks (List.replicate c (0, 0))).toArray 87)) := by
  subst hC
  obtain ⟨i0, hi, hz0, hz1, hz2⟩ := info_parts infoK
  have h := run_make (P := Tryd.prog) u 39 87 i0 (.agg #[.int .i64 0, .int .i64 0]) Tryd.underlying39 hi hz0 .i64 .i64 (c : Int) (c : Int) (by omega) (Int.le_refl _) (by rw [hz2]; omega) (by omega)
  have e : madeCells (Value.agg #[.int .i64 0, .int .i64 0]).cells (c * 2) = (cks (List.replicate c (0, 0))).toArray := by
    apply Array.ext'
    rw [cks_zero]
    exact toList_madeCells_two _ _
  rw [hz1, Int.toNat_natCast, e] at h
  exact h
theorem cks_drop : ∀ (n : Nat) (Z : List K), (cks Z).drop (n * 2) = cks (Z.drop n)
  | 0, Z => by simp
  | n + 1, [] => by simp [cks]
  | n + 1, z :: Z => by
    rw [show (n + 1) * 2 = n * 2 + 1 + 1 by omega]
    simp only [cks, List.drop_succ_cons, cks_drop n Z]
theorem run_copy_keys (w : World) (ty : TypeId) (g dLen dCap : Nat) (a : Addr) (n c : Nat) (L Z : List K) (hn : n = L.length) (hz : dLen = Z.length) (hle : n ≤ dLen)
    (hg : w.heap[g]? = some (.cells (cks Z).toArray 87 (0, 0))) (hsrc : KeysAt w (some a) L) (M : List K) (hM : L ++ Z.drop n = M) :
    (Builtin.copy_ #[39, 39] ty #[.slice (some ⟨g, 0, none⟩) dLen dCap, .slice (some a) n c]).run Tryd.prog w = .ok (goInt n) (w.setRow g (cks M).toArray) := by
  subst hM
  have hl := run_loadCells_list (P := Tryd.prog) w a (cks L) (by
    intro j u hu
    rcases hsrc with h0 | ⟨b, off, e, hc⟩
    · subst h0; simp [cks] at hu
    · cases e; rw [addr_add]; exact hc j u hu)
  have hst := run_storeCells_at Tryd.prog g 0 87 (cks L) 0 (cks Z).toArray w hg (by simp [cks_length]; omega) (cks_one L)
  obtain ⟨i0, hi, hz0, hz1, hz2⟩ := info_parts infoK
  have e1 : (cks L).length = n * 2 := by rw [cks_length, hn]
  have e2 : Nat.min n dLen = n := Nat.min_eq_left hle
  rw [e1] at hl hst
  simp only [Nat.add_zero, Nat.zero_add, List.take_zero, List.nil_append, cks_drop, ← cks_append] at hst
  simp [Builtin.copy_, run_underlying Tryd.underlying39, Builtin.lenOf, Builtin.firstCells, sizeOf, typeInfo, hi, hz1, e2, hl, hst]

theorem setRow_below {w : World} {g B : Nat} {o : Array Value} {t : TypeId} {c : Array Value} (hB : B ≤ w.heap.size) (hg : B ≤ g) : Below B w ((w.alloc (.cells c t)).setRow g o) :=
  ((Below.refl B w).alloc hB _).trans ⟨rfl, rfl, rfl, by simp [World.setRow], fun k hk => setRow_other _ g k o (by omega)⟩

/-- BLOCK g IS A ROW OF INSTRUCTIONS, M -/
def RowK (W : World) (g : Nat) (M : List K) : Prop := W.heap[g]? = some (.cells (cks M).toArray 87 (0, 0))
theorem RowK.lt {W : World} {g : Nat} {M : List K} (h : RowK W g M) : g < W.heap.size := (Array.getElem?_eq_some_iff.1 h).1
theorem RowK.below {W W' : World} {g B : Nat} {M : List K} (h : RowK W g M) (hb : Below B W W') (hg : g < B) : RowK W' g M := (hb.block g hg).trans h
theorem RowK.kept {W W' : World} {g : Nat} {M : List K} (h : RowK W g M) (hb : Below W.heap.size W W') : RowK W' g M := h.below hb h.lt
theorem RowK.other {W : World} {g : Nat} {M : List K} (h : RowK W g M) {a : Addr} (v : Value) (hne : g ≠ a.block) : RowK (W.setCell a v) g M := (heap_setCell_other W a g v hne).trans h
theorem RowK.keys {W : World} {g : Nat} {L R : List K} (h : RowK W g (L ++ R)) : KeysAt W (some ⟨g, 0, none⟩) L := by
  refine .inr ⟨g, 0, rfl, fun j u hu => ?_⟩
  have h2 : (cks (L ++ R))[j]? = some u := by
    rw [cks_append, List.getElem?_append_left (by have := (List.getElem?_eq_some_iff.1 hu).1; exact this)]; exact hu
  simp [World.cell?, show W.heap[g]? = _ from h, h2]
theorem RowK.keys0 {W : World} {g : Nat} {M : List K} (h : RowK W g M) : KeysAt W (some ⟨g, 0, none⟩) M := by
  have h2 : RowK W g (M ++ []) := by rw [List.append_nil]; exact h
  exact h2.keys
theorem RowK.frozen {W : World} {g : Nat} {M : List K} (h : RowK W g M) (j : Nat) : W.frozen? ⟨g, j, none⟩ = false := frozen_of_row W g j _ _ h
theorem cks_set : ∀ (M : List K) (i : Nat) (x : Int), i < M.length → (cks M).set (i * 2) (.int .i64 x) = cks (M.set i (x, (cd M i).2))
  | [], i, x, h => by simp at h
  | k :: M, 0, x, _ => by simp [cks, cd]
  | k :: M, i + 1, x, h => by
    rw [show (i + 1) * 2 = i * 2 + 1 + 1 by omega]
    simp only [cks, List.set_cons_succ]
    rw [cks_set M i x (by simpa using h)]
    simp [cd]
theorem RowK.setOp {W : World} {g : Nat} {M : List K} (h : RowK W g M) (i : Nat) (x : Int) (hi : i < M.length) : RowK (W.setCell ⟨g, i * 2, none⟩ (.int .i64 x)) g (M.set i (x, (cd M i).2)) := by
  have := heap_setCell_same W g (i * 2) _ _ (.int .i64 x) h
  unfold RowK
  rw [this]
  have e : (cks M).toArray.setIfInBounds (i * 2) (.int .i64 x) = (cks (M.set i (x, (cd M i).2))).toArray := by
    apply Array.ext'
    rw [← cks_set M i x hi]
    simp
  rw [e]
/-- the marks behind a program -/
def marks : List K := [(-31, 0), (-32, 0)]
theorem marks_one (L : List K) : (L ++ [(0, 0), (0, 0)]).set L.length (-31, (cd (L ++ [(0, 0), (0, 0)]) L.length).2) = L ++ [(-31, 0), (0, 0)] := by
  rw [List.set_append_right _ _ (Nat.le_refl _), Nat.sub_self]
  simp [cd]
theorem marks_two (L : List K) : (L ++ [(-31, 0), (0, 0)]).set (L.length + 1) (-32, (cd (L ++ [(-31, 0), (0, 0)]) (L.length + 1)).2) = L ++ marks := by
  rw [List.set_append_right _ _ (by omega), show L.length + 1 - L.length = 1 by omega]
  simp [cd, marks]
theorem copy_nil_keys (u : World) (ty : TypeId) (g dLen dCap c : Nat) : (Builtin.copy_ #[39, 39] ty #[.slice (some ⟨g, 0, none⟩) dLen dCap, .slice none 0 c]).run Tryd.prog u = .ok (goInt 0) u := by
  obtain ⟨i0, hi, hz0, hz1, hz2⟩ := info_parts infoK
  simp [Builtin.copy_, run_underlying Tryd.underlying39, Builtin.lenOf, Builtin.firstCells, sizeOf, typeInfo, hi, storeCells]

structure RS (w W : World) (p : Nums) (ao : Option Addr) (n cap : Nat) (M : List K) : Prop where
  b0 : PBox W w.heap.size p ao n cap
  b1 : PBox W (w.heap.size + 1) ⟨0, 0, 0, 0⟩ none 0 0
  row : RowK W (w.heap.size + 1 + 1) M
  bel : Below w.heap.size w W
  sz : W.heap.size = w.heap.size + 3
theorem RS.setOp {w W : World} {p : Nums} {ao : Option Addr} {n cap : Nat} {M : List K} (h : RS w W p ao n cap M) (i : Nat) (x : Int) (hi : i < M.length) : RS w (W.setCell ⟨w.heap.size + 1 + 1, i * 2, none⟩ (.int .i64 x)) p ao n cap (M.set i (x, (cd M i).2)) :=
  ⟨(heap_setCell_other W ⟨w.heap.size + 1 + 1, i * 2, none⟩ w.heap.size _ (by simp; omega)).trans h.b0, (heap_setCell_other W ⟨w.heap.size + 1 + 1, i * 2, none⟩ (w.heap.size + 1) _ (by simp)).trans h.b1, h.row.setOp i x hi, below_set h.bel _ _ (by simp; omega), by simpa using h.sz⟩
theorem RS.copied {w W : World} {p : Nums} {ao : Option Addr} {n cap : Nat} {L : List K} (h : RS w W p ao n cap (List.replicate (n + 2) (0, 0))) (hk : KeysAt W ao L) (hn : n = L.length) :
    ∃ W1, (∀ ty, (Builtin.copy_ #[39, 39] ty #[.slice (some ⟨w.heap.size + 1 + 1, 0, none⟩) (n + 2) (n + 2), .slice ao n cap]).run Tryd.prog W = .ok (.int .i64 (n : Int)) W1) ∧ RS w W1 p ao n cap (L ++ [(0, 0), (0, 0)]) := by
  cases ao with
  | none =>
    have h0 : L = [] := by
      rcases hk with h1 | ⟨b, off, h1, _⟩
      · exact h1
      · cases h1
    subst h0
    obtain rfl : n = 0 := hn
    exact ⟨W, fun ty => copy_nil_keys W ty _ _ _ _, h⟩
  | some a =>
    refine ⟨W.setRow (w.heap.size + 1 + 1) (cks (L ++ [(0, 0), (0, 0)])).toArray, fun ty => ?_, ?_⟩
    · have := run_copy_keys W ty (w.heap.size + 1 + 1) (n + 2) (n + 2) a n cap L (List.replicate (n + 2) (0, 0)) hn (by simp) (by omega) h.row hk (L ++ [(0, 0), (0, 0)]) (by rw [List.drop_replicate, show n + 2 - n = 2 by omega]; rfl)
      rw [this]; rfl
    · exact ⟨(setRow_other _ _ _ _ (by omega)).trans h.b0, (setRow_other _ _ _ _ (by omega)).trans h.b1, setRow_heap _ _ _ _ _ _ h.row, h.bel.trans (below_setRow _ (by omega)), by simpa using h.sz⟩

set_option maxRecDepth 100000 in
set_option maxHeartbeats 1000000 in
theorem roomy_any (w : World) (p : Nums) (ao : Option Addr) (n cap : Nat) (L : List K) (h : KeysAt w ao L) (hn : n = L.length) (hm : n * 16 ≤ 140737488351232) :
    Calls Tryd.prog 22 #[pv p ao n cap] w fun e w' => ∃ G, e = .returned (.tuple #[pv p (some ⟨G, 0, none⟩) n (n + 2), .slice (some ⟨G, 0, none⟩) (n + 2) (n + 2)]) ∧ RowK w' G (L ++ marks) ∧ Below w.heap.size w w' ∧ w.heap.size ≤ G := by
  have HL : Hid (KeysAt w ao L) := h
  have HN : Hid (n = L.length) := hn
  have hmk := make_keys (n + 2) ((n : Int) + 2) (by omega) (by omega)
  clear h hn
  go_enter Tryd.func22, Tryd.ntmps22
  have HS0 : Hid (RS w (((w.alloc (.cells #[.int .i64 p.args, .int .i64 p.reads, .int .i64 p.writes, .int .i64 p.locals, .slice ao n cap] 41)).alloc (.cells #[.int .i64 0, .int .i64 0, .int .i64 0, .int .i64 0, .slice none 0 0] 41)).alloc (.cells (cks (List.replicate (n + 2) (0, 0))).toArray 87)) p ao n cap (List.replicate (n + 2) (0, 0))) := by
    have e0 := PBox.new w p ao n cap
    have e1 := PBox.new (w.alloc (.cells #[.int .i64 p.args, .int .i64 p.reads, .int .i64 p.writes, .int .i64 p.locals, .slice ao n cap] 41)) ⟨0, 0, 0, 0⟩ none 0 0
    have hA := fun (W : World) (o : Obj) => (Below.refl W.heap.size W).alloc (Nat.le_refl _) o
    refine ⟨(e0.kept (hA _ _)).kept (hA _ _), ?_, ?_, (((Below.refl _ _).alloc (Nat.le_refl _) _).alloc (by simp) _).alloc (by simp; omega) _, by simp⟩
    · have := e1.kept (hA _ (.cells (cks (List.replicate (n + 2) (0, 0))).toArray 87))
      simpa only [World.size_alloc] using this
    · have := heap_alloc_new (w := (w.alloc (.cells #[.int .i64 p.args, .int .i64 p.reads, .int .i64 p.writes, .int .i64 p.locals, .slice ao n cap] 41)).alloc (.cells #[.int .i64 0, .int .i64 0, .int .i64 0, .int .i64 0, .slice none 0 0] 41)) (.cells (cks (List.replicate (n + 2) (0, 0))).toArray 87) (w.heap.size + 1 + 1) (by simp)
      exact this
  go_upto_region 2 with fail
  generalize ((w.alloc (.cells #[.int .i64 p.args, .int .i64 p.reads, .int .i64 p.writes, .int .i64 p.locals, .slice ao n cap] 41)).alloc (.cells #[.int .i64 0, .int .i64 0, .int .i64 0, .int .i64 0, .slice none 0 0] 41)).alloc (.cells (cks (List.replicate (n + 2) (0, 0))).toArray 87) = W0 at *
  obtain ⟨W1, hcp, hs1⟩ := HS0.out.copied (HL.out.kept HS0.out.bel) HN.out
  have x4 := HS0.out.b0.cells.2.2.2.2
  have HS1 : Hid (RS w W1 p ao n cap (L ++ [(0, 0), (0, 0)])) := hs1
  have y4 := hs1.b0.cells.2.2.2.2
  have hs2 := hs1.setOp n (-31) (by have := HN.out; simp; omega)
  have e1 : (L ++ [(0, 0), (0, 0)]).set n (-31, (cd (L ++ [(0, 0), (0, 0)]) n).2) = L ++ [(-31, 0), (0, 0)] := by rw [HN.out]; exact marks_one L
  rw [e1] at hs2
  have hs3 := hs2.setOp (n + 1) (-32) (by have := HN.out; simp; omega)
  have e2 : (L ++ [(-31, 0), (0, 0)]).set (n + 1) (-32, (cd (L ++ [(-31, 0), (0, 0)]) (n + 1)).2) = L ++ marks := by rw [HN.out]; exact marks_two L
  rw [e2] at hs3
  have z4 := hs2.b0.cells.2.2.2.2
  have f1 := hs1.row.frozen (n * 2)
  have f2 := hs2.row.frozen ((n + 1) * 2)
  obtain ⟨b, off, e, c1, _⟩ := (RowK.keys0 hs1.row).get n (by have := HN.out; simp; omega)
  cases e
  obtain ⟨b, off, e, c2, _⟩ := (RowK.keys0 hs2.row).get (n + 1) (by have := HN.out; simp; omega)
  cases e
  rw [Nat.zero_add] at c1 c2
  have HS3 : Hid (RS w ((W1.setCell ⟨w.heap.size + 1 + 1, n * 2, none⟩ (.int .i64 (-31))).setCell ⟨w.heap.size + 1 + 1, (n + 1) * 2, none⟩ (.int .i64 (-32))) p ao n cap (L ++ marks)) := hs3
  clear hs1 hs2 hs3 e1 e2 HS0 HS1 hmk
  go_upto_region 5 with fail
  clear hcp x4 y4 z4 f1 f2 c1 c2
  generalize (W1.setCell ⟨w.heap.size + 1 + 1, n * 2, none⟩ (.int .i64 (-31))).setCell ⟨w.heap.size + 1 + 1, (n + 1) * 2, none⟩ (.int .i64 (-32)) = W3 at *
  obtain ⟨x0, x1, x2, x3, x4⟩ := HS3.out.b0.cells
  obtain ⟨y0, y1, y2, y3, y4⟩ := HS3.out.b1.cells
  have fy := fun j => frozen_of_row W3 (w.heap.size + 1) j _ _ HS3.out.b1
  have hlt : w.heap.size < W3.heap.size := HS3.out.b0.lt
  have hlt1 : w.heap.size + 1 < W3.heap.size := HS3.out.b1.lt
  simp only at y0 y1 y2 y3 y4
  have HP5 : Hid (PBox ((((((W3.setCell ⟨w.heap.size + 1, 0, none⟩ (.int .i64 p.args)).setCell ⟨w.heap.size + 1, 1, none⟩ (.int .i64 p.reads)).setCell ⟨w.heap.size + 1, 2, none⟩ (.int .i64 p.writes)).setCell ⟨w.heap.size + 1, 3, none⟩ (.int .i64 p.locals)).setCell ⟨w.heap.size + 1, 4, none⟩ (.slice (some ⟨w.heap.size + 1 + 1, 0, none⟩) n (n + 2))).alloc (.cells #[.int .i64 p.args, .int .i64 p.reads, .int .i64 p.writes, .int .i64 p.locals, .slice (some ⟨w.heap.size + 1 + 1, 0, none⟩) n (n + 2)] 41)) (w.heap.size + 1) p (some ⟨w.heap.size + 1 + 1, 0, none⟩) n (n + 2)) := by
    have e0 := heap_setCell_same W3 (w.heap.size + 1) 0 _ _ (.int .i64 p.args) HS3.out.b1
    have e1 := heap_setCell_same _ (w.heap.size + 1) 1 _ _ (.int .i64 p.reads) e0
    have e2 := heap_setCell_same _ (w.heap.size + 1) 2 _ _ (.int .i64 p.writes) e1
    have e3 := heap_setCell_same _ (w.heap.size + 1) 3 _ _ (.int .i64 p.locals) e2
    have e4 := heap_setCell_same _ (w.heap.size + 1) 4 _ _ (.slice (some ⟨w.heap.size + 1 + 1, 0, none⟩) n (n + 2)) e3
    exact PBox.kept (show PBox _ _ _ _ _ _ from e4) ((Below.refl _ _).alloc (Nat.le_refl _) _)
  have HR5 : Hid (RowK ((((((W3.setCell ⟨w.heap.size + 1, 0, none⟩ (.int .i64 p.args)).setCell ⟨w.heap.size + 1, 1, none⟩ (.int .i64 p.reads)).setCell ⟨w.heap.size + 1, 2, none⟩ (.int .i64 p.writes)).setCell ⟨w.heap.size + 1, 3, none⟩ (.int .i64 p.locals)).setCell ⟨w.heap.size + 1, 4, none⟩ (.slice (some ⟨w.heap.size + 1 + 1, 0, none⟩) n (n + 2))).alloc (.cells #[.int .i64 p.args, .int .i64 p.reads, .int .i64 p.writes, .int .i64 p.locals, .slice (some ⟨w.heap.size + 1 + 1, 0, none⟩) n (n + 2)] 41)) (w.heap.size + 1 + 1) (L ++ marks)) :=
    (((((HS3.out.row.other _ (by simp)).other _ (by simp)).other _ (by simp)).other _ (by simp)).other _ (by simp)).kept ((Below.refl _ _).alloc (Nat.le_refl _) _)
  have HB5 : Hid (Below w.heap.size w ((((((W3.setCell ⟨w.heap.size + 1, 0, none⟩ (.int .i64 p.args)).setCell ⟨w.heap.size + 1, 1, none⟩ (.int .i64 p.reads)).setCell ⟨w.heap.size + 1, 2, none⟩ (.int .i64 p.writes)).setCell ⟨w.heap.size + 1, 3, none⟩ (.int .i64 p.locals)).setCell ⟨w.heap.size + 1, 4, none⟩ (.slice (some ⟨w.heap.size + 1 + 1, 0, none⟩) n (n + 2))).alloc (.cells #[.int .i64 p.args, .int .i64 p.reads, .int .i64 p.writes, .int .i64 p.locals, .slice (some ⟨w.heap.size + 1 + 1, 0, none⟩) n (n + 2)] 41))) := by
    refine Below.alloc ?_ (by simp; omega) _
    repeat (first | exact HS3.out.bel | refine below_set ?_ _ _ (by simp))
  go_wp2
  generalize ((((((W3.setCell ⟨w.heap.size + 1, 0, none⟩ (.int .i64 p.args)).setCell ⟨w.heap.size + 1, 1, none⟩ (.int .i64 p.reads)).setCell ⟨w.heap.size + 1, 2, none⟩ (.int .i64 p.writes)).setCell ⟨w.heap.size + 1, 3, none⟩ (.int .i64 p.locals)).setCell ⟨w.heap.size + 1, 4, none⟩ (.slice (some ⟨w.heap.size + 1 + 1, 0, none⟩) n (n + 2))).alloc (.cells #[.int .i64 p.args, .int .i64 p.reads, .int .i64 p.writes, .int .i64 p.locals, .slice (some ⟨w.heap.size + 1 + 1, 0, none⟩) n (n + 2)] 41)) = W5 at *
  obtain ⟨q0, q1, q2, q3, q4⟩ := HP5.out.cells
  refine bodyPost_ret (v := .tuple #[pv p (some ⟨w.heap.size + 1 + 1, 0, none⟩) n (n + 2), .slice (some ⟨w.heap.size + 1 + 1, 0, none⟩) (n + 2) (n + 2)]) (by simp [results, Tryd.results22, go_sem, q0, q1, q2, q3, q4]) rfl ⟨w.heap.size + 1 + 1, rfl, HR5.out, HB5.out, by omega⟩

end Go.Proofs.YtkjmeknaedapjaaDoor
/-
  THE WALKS OF sameProgram, intact, sameInts.
-/
namespace Go.Proofs.YtkjmeknaedapjaaDoor
open Go.RowKit Go.Sort

theorem run_neKey (x1 x2 y1 y2 : Int) (w : World) : Sem.run Tryd.prog (binOp .neq 87 (.agg #[.int .i64 x1, .int .i64 x2]) (.agg #[.int .i64 y1, .int .i64 y2])) w = .ok (.bool (!decide ((x1, x2) = (y1, y2)))) w := by
  have u3 := Tryd.underlying3
  have a3 := Tryd.isAgg3
  have z3 := Tryd.sizeOf3
  have u2 := Tryd.underlying2
  have a2 := Tryd.isAgg2
  have z2 := Tryd.sizeOf2
  have hS : Tryd.prog.underlying 87 = some (.struct (Tryd.prog.fieldsOf 87)) := by kernel_rfl
  have hp : Tryd.prog.stoodInHeld 87 = false := by kernel_rfl
  rw [run_neq_struct, show (10000 : Nat) = 9999 + 1 from rfl, run_equalIn_agg w 9999 87 _ _ hS hp]
  simp only [Program.fieldsOf, Tryd.underlying87]
  go_simp
  by_cases h1 : x1 = y1 <;> by_cases h2 : x2 = y2 <;> simp [h1, h2]
theorem run_neSame (x1 x2 : Int) (w : World) : Sem.run Tryd.prog (binOp .neq 87 (.agg #[.int .i64 x1, .int .i64 x2]) (.agg #[.int .i64 x1, .int .i64 x2])) w = .ok (.bool false) w := by
  have h := run_neKey x1 x2 x1 x2 w
  rw [h]; simp

set_option maxHeartbeats 1000000 in
theorem sameProgram_eq (w : World) (p : Nums) (a1 a2 : Option Addr) (n c1 c2 : Nat) (L : List K) (h1 : KeysAt w a1 L) (h2 : KeysAt w a2 L) (hn : n = L.length) (hm : n * 16 ≤ 140737488355328) :
    Calls Tryd.prog 35 #[pv p a1 n c1, pv p a2 n c2] w fun e w' => e = .returned (.bool true) ∧ ∃ q os, w' = grow (w.drewN q) os := by
  have H1 : Hid (KeysAt w a1 L) := h1
  have H2 : Hid (KeysAt w a2 L) := h2
  have HN : Hid (n = L.length) := hn
  clear h1 h2 hn
  obtain ⟨y1, y2, y3, y4⟩ := p
  go_enter Tryd.func35, Tryd.ntmps35
  go_wp2_with fail
  have HG : Hid (Grew w ((w.alloc (.cells #[.int .i64 y1, .int .i64 y2, .int .i64 y3, .int .i64 y4, .slice a1 n c1] 41)).alloc (.cells #[.int .i64 y1, .int .i64 y2, .int .i64 y3, .int .i64 y4, .slice a2 n c2] 41))) := ((Grew.refl _).alloc _).alloc _
  have HP1 : Hid (PBox ((w.alloc (.cells #[.int .i64 y1, .int .i64 y2, .int .i64 y3, .int .i64 y4, .slice a1 n c1] 41)).alloc (.cells #[.int .i64 y1, .int .i64 y2, .int .i64 y3, .int .i64 y4, .slice a2 n c2] 41)) w.heap.size ⟨y1, y2, y3, y4⟩ a1 n c1) := (PBox.new w ⟨y1, y2, y3, y4⟩ a1 n c1).kept ((Below.refl _ _).alloc (Nat.le_refl _) _)
  have HP2 : Hid (PBox ((w.alloc (.cells #[.int .i64 y1, .int .i64 y2, .int .i64 y3, .int .i64 y4, .slice a1 n c1] 41)).alloc (.cells #[.int .i64 y1, .int .i64 y2, .int .i64 y3, .int .i64 y4, .slice a2 n c2] 41)) (w.heap.size + 1) ⟨y1, y2, y3, y4⟩ a2 n c2) := by
    have := PBox.new (w.alloc (.cells #[.int .i64 y1, .int .i64 y2, .int .i64 y3, .int .i64 y4, .slice a1 n c1] 41)) ⟨y1, y2, y3, y4⟩ a2 n c2
    rw [World.size_alloc] at this
    exact this
  generalize (w.alloc (.cells #[.int .i64 y1, .int .i64 y2, .int .i64 y3, .int .i64 y4, .slice a1 n c1] 41)).alloc (.cells #[.int .i64 y1, .int .i64 y2, .int .i64 y3, .int .i64 y4, .slice a2 n c2] 41) = W0 at *
  go_loopw [5] (fun x wr => ∃ k : Nat, k ≤ n ∧ x = .int .i64 (k : Int) ∧ Hid (Grew w wr) ∧ Hid (PBox wr w.heap.size ⟨y1, y2, y3, y4⟩ a1 n c1) ∧ Hid (PBox wr (w.heap.size + 1) ⟨y1, y2, y3, y4⟩ a2 n c2)) (fun x _ => n - (intOf x).toNat)
  case atStart => exact ⟨0, by omega, rfl, HG, HP1, HP2⟩
  case round =>
    clear HG HP1 HP2
    obtain ⟨k, hk, rfl, HG, HP1, HP2⟩ := hrel
    have x4 := HP1.out.cells.2.2.2.2
    have z4 := HP2.out.cells.2.2.2.2
    by_cases hlt : k < n
    · obtain ⟨b1, o1, rfl, c11, c12⟩ := (H1.out.grew HG.out).get k (by have := HN.out; omega)
      obtain ⟨b2, o2, rfl, c21, c22⟩ := (H2.out.grew HG.out).get k (by have := HN.out; omega)
      generalize cd L k = kk at *
      obtain ⟨t, r⟩ := kk
      simp only at c11 c12 c21 c22
      have hq := run_neSame t r
      have hgd := fun op x y => run_eqGuard op x y t r t r
      go_wp2_with fail
      go_quiet (fail)
      go_wp2
      go_roundw
      case rel => exact ⟨k + 1, by omega, by go_num, HG.out.drewN nq, HP1, HP2⟩
      case measure => simp [intOf]; omega
    · obtain rfl : k = n := by omega
      go_wp2
      go_ret
      exact ⟨rfl, HG.out⟩



end Go.Proofs.YtkjmeknaedapjaaDoor
