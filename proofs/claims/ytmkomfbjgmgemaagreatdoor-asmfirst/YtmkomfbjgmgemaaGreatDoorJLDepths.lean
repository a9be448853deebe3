import Derived.Test.YtmkomfbjgmgemaaGreatDoorJLSearch
import Derived.Laws.Tables
import Derived.Deep.MidRow
/-
  THE WALKS OF Depths, Verify.
-/
namespace Go.Proofs.YtmkomfbjgmgemaaGreatDoor
open Go.RowKit Go.Sort

/-- A PROGRAM IN A BOX -/
def PBox (W : World) (B : Nat) (p : Nums) (ao : Option Addr) (n cap : Nat) : Prop := W.heap[B]? = some (.cells #[.int .i64 p.args, .int .i64 p.reads, .int .i64 p.writes, .int .i64 p.locals, .slice ao n cap] 36 (0, 0))
theorem PBox.new (w : World) (p : Nums) (ao : Option Addr) (n cap : Nat) : PBox (w.alloc (.cells #[.int .i64 p.args, .int .i64 p.reads, .int .i64 p.writes, .int .i64 p.locals, .slice ao n cap] 36)) w.heap.size p ao n cap := heap_alloc_new _ _ rfl
theorem PBox.lt {W : World} {B : Nat} {p : Nums} {ao : Option Addr} {n cap : Nat} (h : PBox W B p ao n cap) : B < W.heap.size := (Array.getElem?_eq_some_iff.1 h).1
theorem PBox.below {W W' : World} {B C : Nat} {p : Nums} {ao : Option Addr} {n cap : Nat} (h : PBox W B p ao n cap) (hb : Below C W W') (hc : B < C) : PBox W' B p ao n cap := (hb.block B hc).trans h
theorem PBox.kept {W W' : World} {B : Nat} {p : Nums} {ao : Option Addr} {n cap : Nat} (h : PBox W B p ao n cap) (hb : Below W.heap.size W W') : PBox W' B p ao n cap := h.below hb h.lt
theorem PBox.cells {W : World} {B : Nat} {p : Nums} {ao : Option Addr} {n cap : Nat} (h : PBox W B p ao n cap) :
    W.cell? ⟨B, 0, none⟩ = some (.int .i64 p.args) ∧ W.cell? ⟨B, 1, none⟩ = some (.int .i64 p.reads) ∧ W.cell? ⟨B, 2, none⟩ = some (.int .i64 p.writes) ∧ W.cell? ⟨B, 3, none⟩ = some (.int .i64 p.locals) ∧ W.cell? ⟨B, 4, none⟩ = some (.slice ao n cap) := by
  refine ⟨?_, ?_, ?_, ?_, ?_⟩ <;> simp [World.cell?, show W.heap[B]? = _ from h]

def DPost (p : Nums) (L : List K) (B : Nat) (e : Ending) (w' : World) : Prop :=
  (verifyN p L ≠ 0 ∧ e = .returned (.tuple #[.slice none 0 0, .int .i64 (verifyN p L)])) ∨
  (verifyN p L = 0 ∧ ∃ g, e = .returned (.tuple #[.slice (some ⟨g, 0, none⟩) (L.length + 1) (L.length + 1), .int .i64 0]) ∧ RowI w' g (depthsN p L).1 ∧ B ≤ g)
theorem look_bound (p : Nums) (n i : Nat) (k : K) : 0 ≤ lookN p n i k ∧ lookN p n i k ≤ 33 := by
  unfold lookN; split; omega; split; omega; split <;> omega

set_option maxRecDepth 100000 in
set_option maxHeartbeats 1000000 in
theorem depths_any (w : World) (p : Nums) (ao : Option Addr) (n cap : Nat) (L : List K) (hp : NIn p) (h : KeysAt w ao L) (hn : n = L.length) :
    Calls Tryz.prog 61 #[pv p ao n cap] w fun e w' => DPost p L w.heap.size e w' ∧ Below w.heap.size w w' := by
  have HL : Hid (KeysAt w ao L) := h
  have HN : Hid (n = L.length) := hn
  have HP : Hid (NIn p) := hp
  clear h hn hp
  go_enter Tryz.func61, Tryz.ntmps61
  go_wp2_with fail
  refine (withinLimits_any _ p ao n cap).mono ?_
  rintro e w1 ⟨rfl, g1⟩
  have HB1 : Hid (PBox w1 w.heap.size p ao n cap) := (PBox.new w p ao n cap).kept (Grew.below g1)
  have HW1 : Hid (Below w.heap.size w w1) := ((Below.refl _ _).alloc (Nat.le_refl _) _).trans ((Grew.below g1).mono (by simp))
  clear g1
  obtain ⟨x0, x1, x2, x3, x4⟩ := HB1.out.cells
  cases hl : limB p n with
  | false =>
    have HV : Hid (verifyN p L = 30) := by unfold verifyN depthsN; rw [← HN.out, hl]; rfl
    go_wp2
    go_ret2
    exact ⟨.inl ⟨by rw [HV.out]; decide, by rw [HV.out]; rfl⟩, HW1.out⟩
  | true =>
    have hm : n ≤ 256 := ((limB_iff p n).1 hl).2.2.2.2
    have HLim : Hid (limB p L.length = true) := by rw [← HN.out]; exact hl
    clear hl
    go_wp2_with fail
    clear x0 x1 x2 x3 x4
    go_loopw [12] (fun x wr => ∃ k : Nat, k ≤ n ∧ x = .int .i64 (k : Int) ∧ Hid (lookAll p L k = 0) ∧ Hid (PBox wr w.heap.size p ao n cap) ∧ Hid (Below w.heap.size w wr)) (fun x _ => n - (intOf x).toNat)
    case atStart => exact ⟨0, by omega, rfl, rfl, HB1, HW1⟩
    case round =>
      clear HB1 HW1
      obtain ⟨k, hk, rfl, HA, HB, HW⟩ := hrel
      obtain ⟨x0, x1, x2, x3, x4⟩ := HB.out.cells
      by_cases hlt : k < n
      · go_wp2_with fail
        refine (look_any wr p ao n cap k L HP.out (HL.out.kept HW.out) HN.out hlt).mono ?_
        rintro e w2 ⟨rfl, hb2⟩
        have HB2 : Hid (PBox w2 w.heap.size p ao n cap) := HB.out.kept hb2
        have HW2 : Hid (Below w.heap.size w w2) := HW.out.trans (hb2.mono HW.out.size)
        have HLk : Hid (lookN p n k (cd L k) = 0 → lookAll p L (k + 1) = 0) := fun h => by
          unfold lookAll firstE
          rw [show firstE _ k = 0 from HA.out, if_neg (by simp), ← HN.out]; exact h
        have HLe : Hid (lookN p n k (cd L k) ≠ 0 → verifyN p L = lookN p n k (cd L k)) := fun h => by
          have e : lookAll p L L.length = lookN p n k (cd L k) := by
            have := firstE_stop (n := L.length) (f := fun i => lookN p L.length i (cd L i)) HA.out (by rw [← HN.out]; exact h) (by rw [← HN.out]; exact hlt)
            unfold lookAll; rw [this, ← HN.out]
          unfold verifyN depthsN
          rw [HLim.out, if_neg (by simp), if_pos (by rw [e]; exact h)]; exact e
        obtain ⟨lb0, lb1⟩ := look_bound p n k (cd L k)
        generalize lookN p n k (cd L k) = le at *
        clear hb2 x0 x1 x2 x3 x4
        by_cases h0 : le = 0
        · subst h0
          have HN2 : Hid (lookAll p L (k + 1) = 0) := HLk.out rfl
          go_wp2
          go_roundw
          case rel => exact ⟨k + 1, by omega, by go_num, HN2, HB2, HW2⟩
          case measure => simp [intOf]; omega
        · have h0' : (le != 0) = true := by simpa using h0
          have HV : Hid (verifyN p L = le) := HLe.out h0
          go_wp2
          go_ret2
          exact ⟨.inl ⟨by rw [HV.out]; exact h0, by rw [HV.out]; rfl⟩, HW2.out⟩
      · obtain rfl : k = n := by omega
        have HS : Hid (lookAll p L L.length = 0) := by rw [← HN.out]; exact HA.out
        go_wp2_with fail
        refine (search_any wr ao k cap L (HL.out.kept HW.out) HN.out hm (sane_of HS.out)).mono ?_
        rintro e w2 ⟨hs, hb2⟩
        have HW2 : Hid (Below w.heap.size w w2) := HW.out.trans (hb2.mono HW.out.size)
        rcases hs with ⟨h1, rfl⟩ | ⟨d, g, h1, rfl, h2, h3⟩
        · have HV : Hid (verifyN p L = 34) := by unfold verifyN depthsN; rw [HLim.out, if_neg (by simp), HS.out, if_neg (by simp), h1]; rfl
          go_wp2
          go_ret2
          exact ⟨.inl ⟨by rw [HV.out]; decide, by rw [HV.out]; rfl⟩, HW2.out⟩
        · have HV : Hid (depthsN p L = (d, 0)) := by unfold depthsN; rw [HLim.out, if_neg (by simp), HS.out, if_neg (by simp), h1]; rfl
          have HR : Hid (RowI w2 g d ∧ wr.heap.size ≤ g) := ⟨h2, h3⟩
          clear h1 h2 h3
          go_wp2
          go_ret2
          refine ⟨.inr ⟨by unfold verifyN; rw [HV.out], g, rfl, by rw [HV.out]; exact HR.out.1, Nat.le_trans HW.out.size HR.out.2⟩, HW2.out⟩

theorem verify_any (w : World) (p : Nums) (ao : Option Addr) (n cap : Nat) (L : List K) (hp : NIn p) (h : KeysAt w ao L) (hn : n = L.length) :
    Calls Tryz.prog 33 #[pv p ao n cap] w fun e w' => e = .returned (.int .i64 (verifyN p L)) ∧ Below w.heap.size w w' := by
  go_enter Tryz.func33, Tryz.ntmps33
  have hb0 : Below w.heap.size w (w.alloc (.cells #[.int .i64 p.args, .int .i64 p.reads, .int .i64 p.writes, .int .i64 p.locals, .slice ao n cap] 36)) := (Below.refl _ _).alloc (Nat.le_refl _) _
  have HC := depths_any (w.alloc (.cells #[.int .i64 p.args, .int .i64 p.reads, .int .i64 p.writes, .int .i64 p.locals, .slice ao n cap] 36)) p ao n cap L hp (h.kept hb0) hn
  have HB0 : Hid (Below w.heap.size w (w.alloc (.cells #[.int .i64 p.args, .int .i64 p.reads, .int .i64 p.writes, .int .i64 p.locals, .slice ao n cap] 36))) := hb0
  clear h hn hp hb0
  go_wp2_with fail
  refine HC.mono ?_
  rintro e w1 ⟨hd, hb1⟩
  have HB : Hid (Below w.heap.size w w1) := HB0.out.trans (hb1.mono HB0.out.size)
  rcases hd with ⟨h1, rfl⟩ | ⟨h1, g, rfl, h2, h3⟩
  · have HV : Hid (verifyN p L ≠ 0) := h1
    clear h1
    go_wp2
    go_ret
    exact ⟨rfl, HB.out⟩
  · have HV : Hid (verifyN p L = 0) := h1
    clear h1 h2 h3
    go_wp2
    go_ret
    exact ⟨by rw [HV.out]; rfl, HB.out⟩

end Go.Proofs.YtmkomfbjgmgemaaGreatDoor
/-
  THE NAMES OF THE INSTRUCTIONS.
-/
namespace Go.Proofs.YtmkomfbjgmgemaaGreatDoor
open Go.RowKit Go.Sort

def nmL : List ByteArray := [⟨#[115, 116, 111, 112]⟩, ⟨#[112, 117, 115, 104]⟩, ⟨#[112, 111, 112]⟩, ⟨#[100, 117, 112]⟩, ⟨#[108, 111, 97, 100]⟩, ⟨#[115, 97, 118, 101]⟩, ⟨#[97, 114, 103]⟩, ⟨#[103, 101, 116]⟩, ⟨#[104, 97, 115]⟩, ⟨#[103, 101, 116, 120]⟩, ⟨#[97, 100, 100]⟩, ⟨#[115, 117, 98]⟩, ⟨#[109, 117, 108]⟩, ⟨#[100, 105, 118]⟩, ⟨#[109, 111, 100]⟩, ⟨#[97, 110, 100]⟩, ⟨#[111, 114]⟩, ⟨#[120, 111, 114]⟩, ⟨#[115, 104, 108]⟩, ⟨#[115, 104, 114]⟩, ⟨#[110, 101, 103]⟩, ⟨#[110, 111, 116]⟩, ⟨#[101, 113]⟩, ⟨#[110, 101]⟩, ⟨#[108, 116]⟩, ⟨#[108, 101]⟩, ⟨#[103, 116]⟩, ⟨#[103, 101]⟩, ⟨#[109, 105, 110]⟩, ⟨#[109, 97, 120]⟩, ⟨#[106, 117, 109, 112]⟩, ⟨#[122, 101, 114, 111]⟩, ⟨#[112, 117, 116]⟩, ⟨#[100, 101, 108]⟩, ⟨#[112, 117, 116, 120]⟩, ⟨#[111, 117, 116]⟩, ⟨#[97, 98, 111, 114, 116]⟩]
def nmOf (op : Int) : ByteArray := nmL.getD op.toNat ⟨#[]⟩
def nmCells : Array Value := #[.string ⟨#[115, 116, 111, 112]⟩, .string ⟨#[112, 117, 115, 104]⟩, .string ⟨#[112, 111, 112]⟩, .string ⟨#[100, 117, 112]⟩, .string ⟨#[108, 111, 97, 100]⟩, .string ⟨#[115, 97, 118, 101]⟩, .string ⟨#[97, 114, 103]⟩, .string ⟨#[103, 101, 116]⟩, .string ⟨#[104, 97, 115]⟩, .string ⟨#[103, 101, 116, 120]⟩, .string ⟨#[97, 100, 100]⟩, .string ⟨#[115, 117, 98]⟩, .string ⟨#[109, 117, 108]⟩, .string ⟨#[100, 105, 118]⟩, .string ⟨#[109, 111, 100]⟩, .string ⟨#[97, 110, 100]⟩, .string ⟨#[111, 114]⟩, .string ⟨#[120, 111, 114]⟩, .string ⟨#[115, 104, 108]⟩, .string ⟨#[115, 104, 114]⟩, .string ⟨#[110, 101, 103]⟩, .string ⟨#[110, 111, 116]⟩, .string ⟨#[101, 113]⟩, .string ⟨#[110, 101]⟩, .string ⟨#[108, 116]⟩, .string ⟨#[108, 101]⟩, .string ⟨#[103, 116]⟩, .string ⟨#[103, 101]⟩, .string ⟨#[109, 105, 110]⟩, .string ⟨#[109, 97, 120]⟩, .string ⟨#[106, 117, 109, 112]⟩, .string ⟨#[122, 101, 114, 111]⟩, .string ⟨#[112, 117, 116]⟩, .string ⟨#[100, 101, 108]⟩, .string ⟨#[112, 117, 116, 120]⟩, .string ⟨#[111, 117, 116]⟩, .string ⟨#[97, 98, 111, 114, 116]⟩]
theorem nmCells_eq : nmCells = (nmL.map Value.string).toArray := rfl
theorem nmCells_get (i : Nat) (h : i < 37) : nmCells[i]? = some (.string (nmOf (i : Int))) := by
  have hl : nmL.length = 37 := rfl
  rw [nmCells_eq]
  simp [nmOf, List.getD_eq_getElem?_getD, List.getElem?_eq_getElem (show i < nmL.length by omega)]
theorem wpList_built {P : Program} {ops : Array Oper} {rest : List Oper} {o : Oper} {a : Act} {w : World} {Q : Exit → Act → World → Prop} (hg : o.guard = none) (t : TypeId) (parts : Array (Nat × Operand)) (ho : o.op = .build t parts) (cells : Array Value)
    (hc : P.built t (parts.map fun (i, x) => (i, a.eval x)).toList = some cells) (h : wpList P ops Q rest (a.put o.dst (.agg cells)) w) : wpList P ops Q (o :: rest) a w := by
  refine wpList_build hg t parts ho (by rw [hc]; rfl) ?_
  rw [hc]; exact h

def spellS (op : Int) : ByteArray := if isOpB op then nmOf op else ⟨#[]⟩
theorem spellS_op {op : Int} (h : isOpB op = true) : spellS op = nmOf op := by rw [spellS, h]; rfl
theorem spellS_no {op : Int} (h : isOpB op = false) : spellS op = ⟨#[]⟩ := by rw [spellS, h]; rfl
/-- texts and numbers -/
theorem nm_ne {i j : Int} (hi : isOpB i = true) (hj : isOpB j = true) : nmOf i = nmOf j ↔ i = j := by
  constructor
  · intro h
    have hd : ∀ a b : Fin 37, (nmL.getD a.val ⟨#[]⟩).data.toList = (nmL.getD b.val ⟨#[]⟩).data.toList → a = b := by decide +kernel
    simp only [isOpB, Bool.and_eq_true, decide_eq_true_eq] at hi hj
    have h2 := hd ⟨i.toNat, by omega⟩ ⟨j.toNat, by omega⟩ (by rw [show nmL.getD i.toNat ⟨#[]⟩ = nmL.getD j.toNat ⟨#[]⟩ from h])
    simp at h2
    omega
  · rintro rfl; rfl

end Go.Proofs.YtmkomfbjgmgemaaGreatDoor
/-
  THE WALKS OF Spell, Op, Wants.
-/
namespace Go.Proofs.YtmkomfbjgmgemaaGreatDoor
open Go.RowKit Go.Sort

/-- THE TABLE OF NAMES -/
def NmAt (W : World) : Prop := ∀ i, i < 37 → W.cell? ⟨2, i, none⟩ = some (.string (nmOf (i : Int)))
theorem NmAt.kept {W W' : World} (h : NmAt W) (hb : Below W.heap.size W W') : NmAt W' := fun i hi => by
  rw [hb.cell (p := ⟨2, i, none⟩) (cell_lt (h i hi))]; exact h i hi
theorem NmAt.range {W : World} (h : NmAt W) : W.rangeAt 2 0 nmCells.toList := by
  intro j v hv
  have hj : j < 37 := (List.getElem?_eq_some_iff.1 hv).1
  have e := nmCells_get j hj
  rw [Array.getElem?_toList] at hv
  rw [e] at hv
  rw [Nat.zero_add, h j hj]
  exact hv
set_option maxRecDepth 100000 in
theorem nm_index (k : Nat) (hk : k < 37) : ∀ w, (Go.Instr.index 149 (.agg nmCells) (.int .i64 (k : Int))).run Tryz.prog w = .ok (.string (nmOf (k : Int))) w := by
  obtain rfl | rfl | rfl | rfl | rfl | rfl | rfl | rfl | rfl | rfl | rfl | rfl | rfl | rfl | rfl | rfl | rfl | rfl | rfl | rfl | rfl | rfl | rfl | rfl | rfl | rfl | rfl | rfl | rfl | rfl | rfl | rfl | rfl | rfl | rfl | rfl | rfl : k = 0 ∨ k = 1 ∨ k = 2 ∨ k = 3 ∨ k = 4 ∨ k = 5 ∨ k = 6 ∨ k = 7 ∨ k = 8 ∨ k = 9 ∨ k = 10 ∨ k = 11 ∨ k = 12 ∨ k = 13 ∨ k = 14 ∨ k = 15 ∨ k = 16 ∨ k = 17 ∨ k = 18 ∨ k = 19 ∨ k = 20 ∨ k = 21 ∨ k = 22 ∨ k = 23 ∨ k = 24 ∨ k = 25 ∨ k = 26 ∨ k = 27 ∨ k = 28 ∨ k = 29 ∨ k = 30 ∨ k = 31 ∨ k = 32 ∨ k = 33 ∨ k = 34 ∨ k = 35 ∨ k = 36 := by omega
  all_goals exact fun _ => by kernel_rfl
set_option maxHeartbeats 400000 in
theorem spell_any (w : World) (op : Int) (h : NmAt w) : Calls Tryz.prog 63 #[.int .i64 op] w fun e w' => e = .returned (.string (spellS op)) ∧ w' = w := by
  cases ho : isOpB op with
  | false =>
    have HE : Hid (spellS op = ⟨#[]⟩) := spellS_no ho
    go_enter Tryz.func63, Tryz.ntmps63
    go_wp2_with fail
    refine (isOp_any w op).mono ?_
    rintro e w1 ⟨rfl, rfl⟩
    rw [ho]
    go_wp2
    go_ret
    exact ⟨by rw [HE.out]; rfl, rfl⟩
  | true =>
    have HE : Hid (spellS op = nmOf op) := spellS_op ho
    have ho' := ho
    simp only [isOpB, Bool.and_eq_true, decide_eq_true_eq] at ho'
    obtain ⟨i, rfl⟩ := Int.eq_ofNat_of_zero_le ho'.1
    have hi : i < 37 := by omega
    have c := h i hi
    generalize nmOf (i : Int) = s at *
    go_enter Tryz.func63, Tryz.ntmps63
    go_wp2_with fail
    refine (isOp_any w i).mono ?_
    rintro e w1 ⟨rfl, rfl⟩
    rw [ho]
    go_wp2
    go_ret
    exact ⟨by rw [HE.out]; rfl, rfl⟩
/-- the first instruction of a name -/
def findN (s : ByteArray) : Nat → Option Nat
  | 0 => none
  | k + 1 => match findN s k with
    | some i => some i
    | none => if ((nmOf (k : Int)).toList == s.toList) = true then some k else none
def opR (s : ByteArray) : Nat × Bool := match findN s 37 with
  | some i => (i, true)
  | none => (0, false)
theorem find_stop {s : ByteArray} {k n : Nat} (h : findN s k = none) (hk : ((nmOf (k : Int)).toList == s.toList) = true) (hn : k < n) : findN s n = some k := by
  induction n with
  | zero => omega
  | succ n ih =>
    unfold findN
    by_cases e : k = n
    · subst e; rw [h]; simp only [hk, if_true]
    · rw [ih (by omega)]
theorem find_next {s : ByteArray} {k : Nat} (h : findN s k = none) (hk : ((nmOf (k : Int)).toList == s.toList) = false) : findN s (k + 1) = none := by
  unfold findN; rw [h]; simp [hk]
set_option maxRecDepth 100000 in
set_option maxHeartbeats 1000000 in
theorem op_any (w : World) (s : ByteArray) (h : NmAt w) : Calls Tryz.prog 43 #[.string s] w fun e w' => e = .returned (.tuple #[.int .i64 ((opR s).1 : Int), .bool (opR s).2]) ∧ w' = w := by
  have HR : Hid (w.rangeAt 2 0 nmCells.toList) := h.range
  clear h
  go_enter Tryz.func43, Tryz.ntmps43
  go_wp2_with (refine wpList_load_mid rfl 149 _ rfl 2 0 rfl nmCells.toList _ HR.out Tryz.underlying149 rfl (by kernel_rfl) ?_)
  obtain ⟨nc, hnc⟩ : ∃ nc, nc = nmCells := ⟨_, rfl⟩
  rw [← hnc]
  have HNc : Hid (nmCells = nc) := hnc.symm
  clear hnc
  go_loop [7] (fun x => ∃ k : Nat, k ≤ 37 ∧ x = .int .i64 (k : Int) ∧ Hid (findN s k = none)) (fun x => 37 - (intOf x).toNat)
  case atStart => exact ⟨0, by omega, rfl, rfl⟩
  case round =>
    obtain ⟨k, hk, rfl, HA⟩ := hrel
    by_cases hlt : k < 37
    · have hix := nm_index k hlt
      rw [HNc.out] at hix
      have HS : Hid (((nmOf (k : Int)).toList == s.toList) = true → opR s = (k, true)) := fun h => by unfold opR; rw [find_stop HA.out h hlt]
      have HT : Hid (((nmOf (k : Int)).toList == s.toList) = false → findN s (k + 1) = none) := find_next HA.out
      generalize nmOf (k : Int) = nm at *
      cases hq : nm.toList == s.toList with
      | true =>
        have HV : Hid (opR s = (k, true)) := HS.out hq
        go_wp2
        go_ret2
        exact ⟨by rw [HV.out]; rfl, rfl⟩
      | false =>
        have HV : Hid (findN s (k + 1) = none) := HT.out hq
        go_wp2
        go_round
        case rel => exact ⟨k + 1, by omega, by go_num, HV⟩
        case measure => simp [intOf]; omega
    · obtain rfl : k = 37 := by omega
      have HV : Hid (opR s = (0, false)) := by show opR s = _; unfold opR; rw [HA.out]
      go_wp2
      go_ret2
      exact ⟨by rw [HV.out]; rfl, rfl⟩
end Go.Proofs.YtmkomfbjgmgemaaGreatDoor
/-
  THE WALKS OF THE DOCUMENT's Takes, is, argument, Next, limits.
-/
namespace Go.Proofs.YtmkomfbjgmgemaaGreatDoor
open Go.RowKit Go.Sort

theorem ba_toList {a b : ByteArray} (h : a.toList = b.toList) : a = b := by
  rw [ByteArray.toList_eq, ByteArray.toList_eq] at h
  have h2 : a.data = b.data := Array.toList_inj.1 h
  cases a; cases b; simp only at h2; rw [h2]
theorem nm_at {op : Int} (h : isOpB op = true) (j : Int) (hj : isOpB j = true) (l : List UInt8) (hl : (nmOf j).toList = l) : ((nmOf op).toList == l) = decide (op = j) := by
  subst hl
  by_cases e : op = j
  · subst e; simp
  · rw [decide_eq_false e, beq_eq_false_iff_ne]
    intro h2
    exact e ((nm_ne h hj).1 (ba_toList h2))
theorem nm_some {op : Int} (h : isOpB op = true) : ((nmOf op).toList == []) = false := by
  rw [beq_eq_false_iff_ne]
  intro h2
  rcases op_cases h with rfl | rfl | rfl | rfl | rfl | rfl | rfl | rfl | rfl | rfl | rfl | rfl | rfl | rfl | rfl | rfl | rfl | rfl | rfl | rfl | rfl | rfl | rfl | rfl | rfl | rfl | rfl | rfl | rfl | rfl | rfl | rfl | rfl | rfl | rfl | rfl | rfl <;> revert h2 <;> decide +kernel

theorem lim_ref (p : Nums) (n : Nat) : limB p n = true ↔ ¬ (p.args < 0) ∧ ¬ (16 < p.args) ∧ ¬ (p.reads < 0) ∧ ¬ (16 < p.reads) ∧ ¬ (p.writes < 0) ∧ ¬ (16 < p.writes) ∧ 0 ≤ p.locals ∧ p.locals ≤ 16 ∧ (n : Int) ≤ 256 := by rw [limB_iff]; omega
end Go.Proofs.YtmkomfbjgmgemaaGreatDoor
