import Derived.Shelf.SlLaysE
import Derived.Shelf.SlLaysO
import Derived.Shelf.SlicesE.Delete
import Derived.Shelf.SlSorted.Search
import Derived.Test.YtbcmmeajglilbaaGreatProg
import Derived.Test.YtbcmmeajglilbaaGreatKSIns
import Derived.BigQuiet
import Derived.Laws.CopyRow
import Derived.Deep.RegionHeld3
/-
  THE LIBRARY's CONTRACTS OF sort.Search AND slices.Delete AT THIS DUMP: tables of numbers and theorems of closed facts, by program.
-/
namespace Go.Proofs.YtbcmmeajglilbaaGreat
open Go.Shelf
def laysSearch_ren : Go.Shelf.Ren := ⟨fun | 16 => 77 | n => n, fun | 3 => 3 | 35 => 140 | 4 => 4 | 38 => 128 | n => n, fun | n => n⟩
theorem laysSearch : Go.Proofs.SlLaysO.n16 Tryz.prog laysSearch_ren := {
  mixed := by kernel_rfl
  f16 := Tryz.func77.trans (congrArg some (by kernel_rfl))
  t3 := Tryz.underlying3
  a3 := Tryz.isAgg3
  z3 := Tryz.sizeOf3
  v3 := Tryz.zeroValue3
  t4 := Tryz.underlying4
  a4 := Tryz.isAgg4
  z4 := Tryz.sizeOf4
  v4 := Tryz.zeroValue4
  t35 := Tryz.underlying140
  a35 := Tryz.isAgg140
  z35 := Tryz.sizeOf140
  v35 := Tryz.zeroValue140
  t38 := Tryz.underlying128
  a38 := Tryz.isAgg128
  z38 := Tryz.sizeOf128
  v38 := Tryz.zeroValue128 }
def laysDelete_ren : Go.Shelf.Ren := ⟨fun | 45 => 73 | n => n, fun | 22 => 115 | 23 => 98 | 3 => 3 | 4 => 4 | 0 => 0 | n => n, fun | n => n⟩
theorem laysDelete : Go.Proofs.SlLaysE.n45 Tryz.prog laysDelete_ren := {
  mixed := by kernel_rfl
  f45 := ⟨Tryz.f73.name, by decide, Tryz.func73.trans (congrArg some (by kernel_rfl))⟩
  t0 := Tryz.underlying0
  a0 := Tryz.isAgg0
  z0 := Tryz.sizeOf0
  v0 := Tryz.zeroValue0
  t3 := Tryz.underlying3
  a3 := Tryz.isAgg3
  z3 := Tryz.sizeOf3
  v3 := Tryz.zeroValue3
  t4 := Tryz.underlying4
  a4 := Tryz.isAgg4
  z4 := Tryz.sizeOf4
  v4 := Tryz.zeroValue4
  t22 := Tryz.underlying115
  a22 := Tryz.isAgg115
  z22 := Tryz.sizeOf115
  v22 := Tryz.zeroValue115
  a23 := Tryz.isAgg98
  z23 := Tryz.sizeOf98 }
end Go.Proofs.YtbcmmeajglilbaaGreat
/-
  A CHAIN's LINE; sort.Search IN IT: at, visible; numberAhead.
-/
namespace Go.Proofs.YtbcmmeajglilbaaGreat
open Go.RowKit Go.Sort

instance : Inhabited Vr := ⟨v0⟩
/-- the chain in block c: its list from off on in g, with room for cc; ys its versions, the oldest first -/
structure Line (w : World) (c g off cc : Nat) (ys : List Vr) : Prop where
  ch : w.heap[c]? = some (.cells #[.slice (some ⟨g, off, none⟩) ys.length cc] 117 (0, 0))
  rw : RwV w g off cc (ys.map Vr.b)
  vb : ∀ v ∈ ys, w.heap[v.b]? = some (.cells (cellsV v) 102 (0, 0))
  nn : ys.Pairwise (fun a b => a.n < b.n)
  pl : ys.Pairwise (fun a b => later b a)
  sz : ys.length ≤ 65536
theorem SA.line {w : World} {S V D M L P : Nat} {hf : Value} {cap last : Int} {vs : List Vr} {es : List En} {R : K → Nat × Nat × Nat} (h : SA w S V D M L P hf cap last vs es R) {e : En} (he : e ∈ es) : Line w e.v (R e.k).1 (R e.k).2.1 (R e.k).2.2 (ofK e.k vs) :=
  ⟨h.ch e he, h.rwv he, fun v hv => h.vb v (List.mem_filter.1 hv).1, h.nn.filter _, h.pl e.k, by have h1 : (ofK e.k vs).length ≤ vs.length := List.length_filter_le _ _; have := h.lt; omega⟩
theorem Line.same {w w' : World} {c g off cc : Nat} {ys : List Vr} (h : Line w c g off cc ys) (hs : ∀ k, (k = c ∨ k = g ∨ ∃ v ∈ ys, v.b = k) → w'.heap[k]? = w.heap[k]?) : Line w' c g off cc ys :=
  ⟨(hs c (.inl rfl)).trans h.ch, h.rw.same (hs g (.inr (.inl rfl))), fun v hv => (hs _ (.inr (.inr ⟨v, hv, rfl⟩))).trans (h.vb v hv), h.nn, h.pl, h.sz⟩
theorem Line.lt {w : World} {c g off cc : Nat} {ys : List Vr} (h : Line w c g off cc ys) {k : Nat} (hk : k = c ∨ k = g ∨ ∃ v ∈ ys, v.b = k) : k < w.heap.size := by
  rcases hk with rfl | rfl | ⟨v, hv, rfl⟩
  · exact blk_lt h.ch
  · obtain ⟨⟨_, h1, _⟩, _⟩ := h.rw; exact blk_lt h1
  · exact blk_lt (h.vb v hv)
theorem Line.kept {w w' : World} {c g off cc : Nat} {ys : List Vr} (h : Line w c g off cc ys) (hb : Below w.heap.size w w') : Line w' c g off cc ys := h.same (fun _ hk => hb.block _ (h.lt hk))
theorem Line.chc {w : World} {c g off cc : Nat} {ys : List Vr} (h : Line w c g off cc ys) : w.cell? ⟨c, 0, none⟩ = some (.slice (some ⟨g, off, none⟩) ys.length cc) := by rw [World.cell?, h.ch]; rfl
theorem Line.rwc {w : World} {c g off cc : Nat} {ys : List Vr} (h : Line w c g off cc ys) {i : Nat} (hi : i < ys.length) : w.cell? ⟨g, off + i, none⟩ = some (ptr ys[i]!.b) := by
  have := h.rw.cell (j := i) (by rw [List.length_map]; exact hi)
  rw [this, List.getElem_map, getElem!_pos ys i hi]
theorem Line.vbc {w : World} {c g off cc : Nat} {ys : List Vr} (h : Line w c g off cc ys) {i : Nat} (hi : i < ys.length) : w.cell? ⟨ys[i]!.b, 0, none⟩ = some (.int .i64 ys[i]!.ba) ∧ w.cell? ⟨ys[i]!.b, 2, none⟩ = some (.int .i64 ys[i]!.n) := by
  have := h.vb ys[i]! (by rw [getElem!_pos ys i hi]; exact List.getElem_mem hi)
  refine ⟨?_, ?_⟩ <;> (rw [World.cell?, this]; rfl)
set_option maxRecDepth 100000 in
set_option maxHeartbeats 1000000 in
theorem at1_any (w : World) (Bc Bv c g off cc b : Nat) (ys : List Vr) (n : Int) (i : Nat) (h : Line w c g off cc ys) (hi : i < ys.length) (hc : w.cell? ⟨Bc, 0, none⟩ = some (ptr c)) (hv : w.cell? ⟨Bv, 0, none⟩ = some (ptr b)) (hb : w.cell? ⟨b, 2, none⟩ = some (.int .i64 n)) :
    Calls Tryz.prog 90 #[.int .i64 (i : Int), ptr Bc, ptr Bv] w fun e w' => e = .returned (.bool (decide (n ≤ ys[i]!.n))) ∧ ∃ q, w' = w.drewN q := by
  have c0 := h.chc
  have c1 := h.rwc hi
  obtain ⟨_, c2⟩ := h.vbc hi
  generalize ys[i]! = y at *
  generalize ys.length = m at *
  clear h
  obtain ⟨yb, yn, _, _, _, _, _, _⟩ := y
  simp only at c1 c2 ⊢
  cases hd : decide (n ≤ yn) with
  | true =>
    have h' := of_decide_eq_true hd
    go_enter Tryz.func90, Tryz.ntmps90
    go_wp2_with fail
    go_quiet (fail)
    go_wp2
    go_ret
    exact ⟨by simp, nq, rfl⟩
  | false =>
    have h' := of_decide_eq_false hd
    go_enter Tryz.func90, Tryz.ntmps90
    go_wp2_with fail
    go_quiet (fail)
    go_wp2
    go_ret
    exact ⟨by simp, nq, rfl⟩
set_option maxRecDepth 100000 in
set_option maxHeartbeats 1000000 in
theorem vis1_any (w : World) (Bc Bv c g off cc : Nat) (ys : List Vr) (n : Int) (i : Nat) (h : Line w c g off cc ys) (hi : i < ys.length) (hc : w.cell? ⟨Bc, 0, none⟩ = some (ptr c)) (hv : w.cell? ⟨Bv, 0, none⟩ = some (.int .i64 n)) :
    Calls Tryz.prog 78 #[.int .i64 (i : Int), ptr Bc, ptr Bv] w fun e w' => e = .returned (.bool (decide (n < ys[i]!.ba))) ∧ ∃ q, w' = w.drewN q := by
  have c0 := h.chc
  have c1 := h.rwc hi
  obtain ⟨c2, _⟩ := h.vbc hi
  generalize ys[i]! = y at *
  generalize ys.length = m at *
  clear h
  obtain ⟨yb, yn, _, yba, _, _, _, _⟩ := y
  simp only at c1 c2 ⊢
  cases hd : decide (n < yba) with
  | true =>
    have h' := of_decide_eq_true hd
    go_enter Tryz.func78, Tryz.ntmps78
    go_wp2_with fail
    go_quiet (fail)
    go_wp2
    go_ret
    exact ⟨by simp, nq, rfl⟩
  | false =>
    have h' := of_decide_eq_false hd
    go_enter Tryz.func78, Tryz.ntmps78
    go_wp2_with fail
    go_quiet (fail)
    go_wp2
    go_ret
    exact ⟨by simp, nq, rfl⟩
theorem count_split {f : Vr → Bool} {A C : List Vr} (hA : ∀ x ∈ A, f x = true) (hC : ∀ x ∈ C, f x = false) : (List.range (A ++ C).length).countP (fun i => f (A ++ C)[i]!) = A.length := by
  have h := Lib.countP_range (A ++ C).toArray f
  have e : (fun i : Nat => f (A ++ C).toArray[i]!) = (fun i : Nat => f (A ++ C)[i]!) := by funext i; simp
  rw [e] at h
  rw [show (A ++ C).toArray.size = (A ++ C).length by simp] at h
  rw [h]
  simp only [List.countP_append]
  rw [List.countP_eq_length.2 hA, List.countP_eq_zero.2 (fun x hx => by simp [hC x hx])]
  rfl
end Go.Proofs.YtbcmmeajglilbaaGreat
/-
  at, numberAhead, visible, before.
-/
namespace Go.Proofs.YtbcmmeajglilbaaGreat
open Go.RowKit Go.Sort

theorem split_at {l : List Vr} {i : Nat} (hi : i < l.length) : l = l.take i ++ l[i]! :: l.drop (i + 1) := by
  rw [getElem!_pos l i hi, ← List.drop_eq_getElem_cons hi, List.take_append_drop]
/-- the place of a version in its chain -/
theorem Line.below_at {w : World} {c g off cc : Nat} {A C : List Vr} {v : Vr} (h : Line w c g off cc (A ++ v :: C)) : (∀ x ∈ A, x.n < v.n) ∧ (∀ x ∈ C, v.n < x.n) := by
  have hp := List.pairwise_append.1 h.nn
  exact ⟨fun x hx => hp.2.2 x hx v (by simp), fun x hx => (List.pairwise_cons.1 hp.2.1).1 x hx⟩
set_option maxRecDepth 100000 in
set_option maxHeartbeats 1000000 in
theorem at_any (w : World) (c g off cc : Nat) (A C : List Vr) (v : Vr) (h : Line w c g off cc (A ++ v :: C)) :
    Calls Tryz.prog 72 #[ptr c, ptr v.b] w fun e w' => e = .returned (.int .i64 (A.length : Int)) ∧ Below w.heap.size w w' := by
  have hlt := h.below_at
  have hmf : ∀ (fn : Fn) (first cap : Array Value) (w : World), (Instr.makeFunc fn first cap).run Tryz.prog w = .ok (.func fn first cap) w := fun _ _ _ _ => rfl
  have hc0 := h.chc
  have hcl := blk_lt h.ch
  obtain ⟨W, hW⟩ : ∃ W, W = (w.alloc (.cells #[ptr c] 57)).alloc (.cells #[ptr v.b] 98) := ⟨_, rfl⟩
  have HB : Hid (Below w.heap.size w W) := by
    show Below _ _ _
    rw [hW]
    exact ((Below.refl _ _).alloc (Nat.le_refl _) _).alloc (by simp) _
  have k1 : W.cell? ⟨w.heap.size, 0, none⟩ = some (ptr c) := by
    rw [World.cell?, hW, heap_alloc_old _ _ (by simp), heap_alloc_new _ _ rfl]; rfl
  have k2 : W.cell? ⟨w.heap.size + 1, 0, none⟩ = some (ptr v.b) := by
    rw [World.cell?, hW, heap_alloc_new _ _ (by simp)]; rfl
  have HL : Hid (Line W c g off cc (A ++ v :: C)) := h.kept HB.out
  have hcW := HL.out.chc
  have HS : Hid (Calls Tryz.prog 77 #[.int .i64 ((A ++ v :: C).length : Int), .func (.func 90) #[] #[ptr w.heap.size, ptr (w.heap.size + 1)]] W fun e w' => e = .returned (.int .i64 (A.length : Int)) ∧ Below w.heap.size w w') := by
    have hs := Any.sort_Search laysSearch 90 #[ptr w.heap.size, ptr (w.heap.size + 1)] (A ++ v :: C).length (fun i => decide (v.n ≤ (A ++ v :: C)[i]!.n)) W (enters_of Tryz.func90 (by kernel_rfl) rfl) (by have := HL.out.sz; omega)
      (fun m os i hi => by
        have hg : Below W.heap.size W (grow (W.drewN m) os) := below_grown_sl _ W m os (Nat.le_refl _)
        have hvb : (grow (W.drewN m) os).cell? ⟨v.b, 2, none⟩ = some (.int .i64 v.n) := by
          rw [World.cell?, (HL.out.kept hg).vb v (by simp)]; rfl
        refine (at1_any _ w.heap.size (w.heap.size + 1) c g off cc v.b (A ++ v :: C) v.n i (HL.out.kept hg) hi ((hg.cell (p := ⟨w.heap.size, 0, none⟩) (by rw [hW]; simp; omega)).trans k1) ((hg.cell (p := ⟨w.heap.size + 1, 0, none⟩) (by rw [hW]; simp)).trans k2) hvb).mono ?_
        rintro e w' ⟨rfl, q, rfl⟩
        exact ⟨rfl, q, #[], by rw [grow_empty]⟩)
      (fun a b hab hb ha => by
        have ha' := of_decide_eq_true ha
        refine decide_eq_true ?_
        by_cases e : a = b
        · rw [← e]; exact ha'
        · have hp := List.pairwise_iff_getElem.1 HL.out.nn a b (by omega) hb (by omega)
          rw [getElem!_pos _ a (by omega)] at ha'
          rw [getElem!_pos _ b hb]
          omega)
    have hc : (List.range (A ++ v :: C).length).countP (fun i => !(fun i : Nat => decide (v.n ≤ (A ++ v :: C)[i]!.n)) i) = A.length := by
      refine count_split (f := fun x => !decide (v.n ≤ x.n)) (fun x hx => ?_) (fun x hx => ?_)
      · have := hlt.1 x hx; simp; omega
      · rcases List.mem_cons.1 hx with rfl | hx
        · simp
        · have := hlt.2 x hx; simp; omega
    rw [hc] at hs
    refine Calls.mono hs ?_
    rintro e w' ⟨rfl, q, os, rfl⟩
    exact ⟨rfl, HB.out.trans ((below_grown_sl _ W q os (Nat.le_refl _)).mono HB.out.size)⟩
  clear hlt h
  generalize (A ++ v :: C).length = m at *
  go_enter Tryz.func72, Tryz.ntmps72
  go_wp2_with fail
  rw [← hW]
  refine HS.out.mono ?_
  rintro e w2 ⟨rfl, hb2⟩
  have HB2 : Hid (Below w.heap.size w w2) := hb2
  clear hb2 HS HL HB hW k1 k2 hc0 hcW
  go_wp2
  go_ret
  exact ⟨rfl, HB2.out⟩
/-- the number of the version ahead of a place -/
def aheadN (ys : List Vr) (i : Nat) : Int := if i = 0 then 0 else ys[i - 1]!.n
set_option maxRecDepth 100000 in
set_option maxHeartbeats 1000000 in
theorem numberAhead_any (w : World) (c g off cc : Nat) (ys : List Vr) (i : Nat) (h : Line w c g off cc ys) (hi : i ≤ ys.length) :
    Calls Tryz.prog 76 #[ptr c, .int .i64 (i : Int)] w fun e w' => e = .returned (.int .i64 (aheadN ys i)) ∧ w' = w := by
  have hsz := h.sz
  rcases Nat.eq_zero_or_pos i with rfl | hp
  · clear h hsz hi
    go_enter Tryz.func76, Tryz.ntmps76
    go_wp2
    go_ret
    exact ⟨rfl, rfl⟩
  · obtain ⟨j, rfl⟩ : ∃ j, i = j + 1 := ⟨i - 1, by omega⟩
    have c0 := h.chc
    have c1 := h.rwc (i := j) (by omega)
    obtain ⟨_, c2⟩ := h.vbc (i := j) (by omega)
    have ea : aheadN ys (j + 1) = ys[j]!.n := by simp [aheadN]
    rw [ea]
    clear h ea
    generalize ys[j]! = y at *
    generalize ys.length = m at *
    have hne : ¬ ((j + 1 : Nat) : Int) = 0 := by omega
    have hs1 : ((j + 1 : Nat) : Int) - 1 = (j : Int) := by omega
    have hw1 : wrap64 (j : Int) = (j : Int) := by unfold wrap64; omega
    have hjm : (j : Int) < (m : Int) := by omega
    have hj2 : j < m := by omega
    generalize hz : ((j + 1 : Nat) : Int) = z at *
    clear hz hi hsz
    go_enter Tryz.func76, Tryz.ntmps76
    go_wp2
    all_goals (go_ret; exact ⟨rfl, rfl⟩)
end Go.Proofs.YtbcmmeajglilbaaGreat
/-
  ONE LESS IN A CHAIN's LIST: the rows.
-/
namespace Go.Proofs.YtbcmmeajglilbaaGreat
open Go.RowKit Go.Sort

/-- what drop leaves -/
structure Drp (w w' : World) (c g off cc : Nat) (xs : List Nat) : Prop where
  ch : w'.heap[c]? = some (.cells #[.slice (some ⟨g, off, none⟩) xs.length cc] 117 (0, 0))
  rw : RwV w' g off cc xs
  fr : Fr (fun k => k = c ∨ k = g) w w'
/-- the front closes up -/
theorem shift_row {cur : Array Value} {off cc : Nat} {A C : List Nat} {b : Nat} (hs : cur.size = off + cc) (hl : (A ++ b :: C).length ≤ cc) (h : ∀ j (hj : j < (A ++ b :: C).length), cur[off + j]? = some (ptr (A ++ b :: C)[j])) :
    ∃ cur2, cur2 = ((cur.toList.take (off + 1) ++ A.map ptr ++ cur.toList.drop (off + 1 + (A.map ptr).length)).toArray).setIfInBounds off (.pointer none) ∧ cur2.size = (off + 1) + (cc - 1) ∧ ∀ j (hj : j < (A ++ C).length), cur2[off + 1 + j]? = some (ptr (A ++ C)[j]) := by
  have hl' : A.length + (C.length + 1) ≤ cc := by simpa using hl
  refine ⟨_, rfl, ?_, fun j hj => ?_⟩
  · simp; omega
  · rw [Array.getElem?_setIfInBounds_ne (by omega)]
    simp only [List.getElem?_toArray]
    have e1 : (cur.toList.take (off + 1)).length = off + 1 := by simp; omega
    rw [List.append_assoc, List.getElem?_append_right (by omega), e1, show off + 1 + j - (off + 1) = j by omega]
    by_cases hjA : j < A.length
    · rw [List.getElem?_append_left (by simpa using hjA), List.getElem?_map, List.getElem?_eq_getElem hjA, List.getElem_append_left hjA]; rfl
    · have hjC : j - A.length < C.length := by simp at hj; omega
      rw [List.getElem?_append_right (by simpa using hjA), List.length_map, List.getElem?_drop, Array.getElem?_toList, show off + 1 + A.length + (j - A.length) = off + (j + 1) by omega]
      rw [h (j + 1) (by simp; omega)]
      congr 2
      rw [List.getElem_append_right (by omega), List.getElem_append_right (by omega)]
      simp only [show j + 1 - A.length = (j - A.length) + 1 by omega, List.getElem_cons_succ]
/-- a list's elements as the library has them -/
def encP : Option Nat → Value
  | none => .pointer none
  | some b => ptr b
theorem encP_one : OneCell encP := fun x => by cases x <;> rfl
theorem blk_putRow {w : World} {g off q : Nat} {cur : Array Value} {t : TypeId} (d : Array (Option Nat)) (hg : w.heap[g]? = some (.cells cur t (0, 0))) :
    (putRow encP (Sort.ahead w q) g off d).heap[g]? = some (.cells (putCells encP off d cur) t (0, 0)) := by
  simp [putRow, mapBlock, Sort.ahead, Array.getElem?_modify, hg, onCells]
theorem oth_putRow {w : World} {g off q k : Nat} (d : Array (Option Nat)) (hk : k ≠ g) : (putRow encP (Sort.ahead w q) g off d).heap[k]? = w.heap[k]? := by
  have : ¬ g = k := fun e => hk e.symm
  simp [putRow, mapBlock, Sort.ahead, Array.getElem?_modify, this]
/-- slices.Delete of one -/
theorem delete_one (w : World) (g off cc : Nat) (A C : List Nat) (b : Nat) (h : RwV w g off cc (A ++ b :: C)) :
    Calls Tryz.prog 73 #[.slice (some ⟨g, off, none⟩) (A ++ b :: C).length cc, .int .i64 (A.length : Int), .int .i64 ((A.length + 1 : Nat) : Int)] w fun e w' => e = .returned (.slice (some ⟨g, off, none⟩) (A ++ C).length cc) ∧ RwV w' g off cc (A ++ C) ∧ Fr (fun k => k = g) w w' := by
  obtain ⟨⟨cur, hg, hsz, hat⟩, hle, hm⟩ := h
  obtain ⟨i0, hi, hz0, hz1, hz2⟩ := info_parts infoVp
  obtain ⟨d, hd⟩ : ∃ d, d = ((A ++ b :: C).map some).toArray := ⟨_, rfl⟩
  have hds : d.size = (A ++ b :: C).length := by rw [hd]; simp
  have hH : Holds encP w g off d := fun j hj => by
    refine ⟨?_, frozen_of_row _ _ _ _ _ hg⟩
    rw [World.cell?, hg]
    show cur[off + j]? = _
    rw [hds] at hj
    rw [hat j hj, getElem!_pos d j (by omega)]
    simp only [hd, List.getElem_toArray, List.getElem_map]
    rfl
  have hcall := AnyE.slices_Delete laysDelete encP encP_one none run_zeroV i0 hi hz1 g off cc A.length (A.length + 1) d w hH (by omega) hm (by omega) (by rw [hds]; simp)
  rw [hds] at hcall
  refine Calls.mono hcall ?_
  have eL : (d.toList.take A.length ++ d.toList.drop (A.length + 1) ++ List.replicate (A.length + 1 - A.length) none) = (A ++ C).map some ++ [none] := by
    rw [hd, show A.length + 1 - A.length = 1 by omega]
    have e3 : ((A ++ b :: C).map some).drop (A.length + 1) = C.map some := by
      rw [List.map_append, List.map_cons, show A.map some ++ some b :: C.map some = (A.map some ++ [some b]) ++ C.map some by simp]
      exact List.drop_left' (by simp)
    rw [show (((A ++ b :: C).map some).toArray).toList = (A ++ b :: C).map some from rfl, e3]
    simp
  rw [eL]
  rintro e w' ⟨rfl, q, rfl⟩
  refine ⟨?_, ⟨⟨_, blk_putRow _ hg, ?_, fun j hj => ?_⟩, ?_, ?_⟩, ⟨rfl, rfl, rfl, by simp [Sort.ahead], fun k _ hk => oth_putRow _ hk⟩⟩
  · have e4 : (A ++ b :: C).length - (A.length + 1 - A.length) = (A ++ C).length := by simp
    rw [e4]
  · simp [putCells, hsz]
  · have hj' : j < (A ++ b :: C).length := by simp at hj ⊢; omega
    have hsz2 : (((A ++ C).map some ++ [none]).toArray).size = (A ++ b :: C).length := by simp
    simp only [putCells, Array.getElem?_mapIdx, hat j hj', Option.map_some]
    rw [if_pos ⟨by omega, by rw [hsz2]; omega⟩, show off + j - off = j by omega, getElem!_pos _ j (by rw [hsz2]; exact hj')]
    simp only [List.getElem_toArray]
    rw [List.getElem_append_left (by simpa using hj), List.getElem_map]
    rfl
  · have : (A ++ C).length ≤ (A ++ b :: C).length := by simp
    omega
  · exact hm
end Go.Proofs.YtbcmmeajglilbaaGreat
/-
  drop.
-/
namespace Go.Proofs.YtbcmmeajglilbaaGreat
open Go.RowKit Go.Sort

set_option maxRecDepth 100000 in
set_option maxHeartbeats 1000000 in
theorem drop_any (w : World) (c g off cc : Nat) (A C : List Vr) (v : Vr) (h : Line w c g off cc (A ++ v :: C)) :
    Calls Tryz.prog 54 #[ptr c, ptr v.b] w fun e w' => e = .returned (.tuple #[]) ∧ ∃ off' cc', Drp w w' c g off' cc' ((A ++ C).map Vr.b) := by
  have hAt := at_any w c g off cc A C v h
  have HL : Hid (Line w c g off cc (A ++ v :: C)) := h
  have hml : (A ++ v :: C).length = A.length + 1 + C.length := by simp; omega
  have HZ : Hid (A.length + 1 + C.length ≤ 65536 ∧ cc ≤ 9223372036854775807 ∧ A.length + 1 + C.length ≤ cc) := ⟨by have := h.sz; omega, h.rw.cm, by have := h.rw.le; rw [List.length_map] at this; omega⟩
  clear h
  go_enter Tryz.func54, Tryz.ntmps54
  go_wp2_with fail
  refine hAt.mono ?_
  rintro e w1 ⟨rfl, hb1⟩
  have HB1 : Hid (Below w.heap.size w w1) := hb1
  have HL1 : Hid (Line w1 c g off cc (A ++ v :: C)) := HL.out.kept hb1
  have c0 := HL1.out.chc
  rw [hml] at c0
  clear hb1 hAt
  obtain ⟨a, ha⟩ : ∃ a, a = A.length := ⟨_, rfl⟩
  obtain ⟨m, hm⟩ : ∃ m, m = A.length + 1 + C.length := ⟨_, rfl⟩
  rw [← hm] at c0 hml
  rw [← ha]
  have HA : Hid (a = A.length ∧ m = A.length + 1 + C.length) := ⟨ha, hm⟩
  have hsz : m ≤ 65536 ∧ m ≤ cc := by have := HZ.out; omega
  have HZ2 : Hid (m ≤ 65536 ∧ m ≤ cc ∧ a < m) := ⟨hsz.1, hsz.2, by omega⟩
  clear ha hm
  have hmb : m ≤ 65536 := hsz.1
  clear hsz
  have hcg : c ≠ g := fun e => by
    obtain ⟨⟨cur, h1, _⟩, _⟩ := HL1.out.rw
    have h2 := HL1.out.ch
    rw [e, h1] at h2
    exact ty_ne h2 (by decide)
  have HCG : Hid (c ≠ g) := hcg
  have ham : a < m := HZ2.out.2.2
  clear hcg
  by_cases hc : m / 2 ≤ a
  · have hc1 : (m : Int) / 2 ≤ (a : Int) := by omega
    have HDel : Hid (Calls Tryz.prog 73 #[.slice (some ⟨g, off, none⟩) m cc, .int .i64 (a : Int), .int .i64 ((a : Int) + 1)] w1 fun e w' => e = .returned (.slice (some ⟨g, off, none⟩) (m - 1) cc) ∧ RwV w' g off cc ((A ++ C).map Vr.b) ∧ Fr (fun k => k = g) w1 w') := by
      have h1 := HL1.out.rw
      rw [List.map_append, List.map_cons] at h1
      have h2 := delete_one w1 g off cc (A.map Vr.b) (C.map Vr.b) v.b h1
      rw [List.length_map, ← HA.out.1, show (A.map Vr.b ++ v.b :: C.map Vr.b).length = m by rw [HA.out.2, List.length_append, List.length_cons, List.length_map, List.length_map]; omega, show ((a + 1 : Nat) : Int) = (a : Int) + 1 by omega, show (A.map Vr.b ++ C.map Vr.b).length = m - 1 by rw [HA.out.2, List.length_append, List.length_map, List.length_map]; omega, ← List.map_append] at h2
      exact h2
    have HM : Hid (m - 1 = ((A ++ C).map Vr.b).length) := by show _ = _; rw [HA.out.2, List.length_map, List.length_append]; omega
    clear hml HZ HZ2 HA
    go_wp2_with fail
    refine HDel.out.mono ?_
    rintro e w2 ⟨rfl, hr2, hf2⟩
    have hc2 : w2.heap[c]? = some (.cells #[.slice (some ⟨g, off, none⟩) (A ++ v :: C).length cc] 117 (0, 0)) := (hf2.block c (blk_lt HL1.out.ch) HCG.out).trans HL1.out.ch
    have x0 : w2.cell? ⟨c, 0, none⟩ = some (.slice (some ⟨g, off, none⟩) (A ++ v :: C).length cc) := by rw [World.cell?, hc2]; rfl
    have f0 : w2.frozen? ⟨c, 0, none⟩ = false := frozen_of_row _ _ _ _ _ hc2
    have HD : Hid (Drp w (w2.setCell ⟨c, 0, none⟩ (.slice (some ⟨g, off, none⟩) (m - 1) cc)) c g off cc ((A ++ C).map Vr.b)) := by
      refine ⟨?_, hr2.same (heap_setCell_other _ _ _ _ (Ne.symm HCG.out)), ?_⟩
      · rw [← HM.out]; exact blk_set _ hc2
      · have hb1 := HB1.out
        refine Fr.set ⟨hf2.os.trans hb1.os, hf2.tape.trans hb1.tape, hf2.output.trans hb1.output, Nat.le_trans hb1.size hf2.size, fun k hk hn => (hf2.block k (Nat.lt_of_lt_of_le hk hb1.size) (fun e => hn (.inr e))).trans (hb1.block k hk)⟩ _ _ (.inr (.inl rfl))
    clear hr2 hf2 hc2 HDel HL HL1 HB1
    generalize (A ++ v :: C).length = mm at x0
    go_wp2
    refine bodyPost_ret (v := .tuple #[]) (by simp [results, Tryz.results54]) rfl ?_
    exact ⟨rfl, _, _, HD.out⟩
  · have hc1 : ¬ (m : Int) / 2 ≤ (a : Int) := by omega
    have hm2 : 2 ≤ m := by omega
    have hcc1 : ¬ cc = 1 := by have := HZ2.out; omega
    have hcc2 : m ≤ cc := HZ2.out.2.1
    obtain ⟨⟨cur, hg, hsz, hat⟩, hle, hcm⟩ := HL1.out.rw
    rw [List.map_append, List.map_cons] at hat hle
    obtain ⟨cur2, hcur2, hs2, hat2⟩ := shift_row hsz hle hat
    have hcp := fun ty => run_copy_row (P := Tryz.prog) w1.drew 115 115 ty 98 g (off + 1) a (cc - 1) ⟨g, off, none⟩ a cc cur 98 ((A.map Vr.b).map ptr) Tryz.underlying115 (by kernel_rfl) hg (by simp [HA.out.1]) (fun j u hu => by
      obtain ⟨hj, rfl⟩ := List.getElem?_eq_some_iff.1 hu
      simp at hj
      rw [addr_add, World.cell?]
      show (match w1.heap[g]? with | some (.cells cs _ _) => cs[off + j]? | _ => none) = _
      rw [hg]
      show cur[off + j]? = _
      rw [hat j (by simp; omega), List.getElem_append_left (by simpa using hj)]
      simp) (by rw [hsz]; simp; have := HA.out; omega) (fun u hu => by obtain ⟨x, _, rfl⟩ := List.mem_map.1 hu; rfl)
    obtain ⟨W2, hW2⟩ : ∃ W2, W2 = w1.drew.setRow g (cur.toList.take (off + 1) ++ (A.map Vr.b).map ptr ++ cur.toList.drop (off + 1 + ((A.map Vr.b).map ptr).length)).toArray := ⟨_, rfl⟩
    rw [← hW2] at hcp
    have hg2 : W2.heap[g]? = some (.cells (cur.toList.take (off + 1) ++ (A.map Vr.b).map ptr ++ cur.toList.drop (off + 1 + ((A.map Vr.b).map ptr).length)).toArray 98 (0, 0)) := by rw [hW2]; exact setRow_heap _ _ _ _ _ _ hg
    have HO2 : Hid (∀ k, k ≠ g → W2.heap[k]? = w1.heap[k]?) := fun k hk => by rw [hW2]; exact setRow_other _ _ _ _ hk
    have HF2 : Hid (W2.os = w1.os ∧ W2.tape = w1.tape ∧ W2.output = w1.output ∧ W2.heap.size = w1.heap.size) := by show _; rw [hW2]; exact ⟨rfl, rfl, rfl, by simp [World.setRow]⟩
    clear hW2
    have hc2 := (HO2.out c HCG.out).trans HL1.out.ch
    rw [hml] at hc2
    have y0 : W2.cell? ⟨c, 0, none⟩ = some (.slice (some ⟨g, off, none⟩) m cc) := by rw [World.cell?, hc2]; rfl
    have z0 : ∃ u, W2.cell? ⟨g, off, none⟩ = some u := by
      rw [World.cell?, hg2]
      show ∃ u, (cur.toList.take (off + 1) ++ (A.map Vr.b).map ptr ++ cur.toList.drop (off + 1 + ((A.map Vr.b).map ptr).length)).toArray[off]? = some u
      exact ⟨_, Array.getElem?_eq_getElem (by simp; omega)⟩
    obtain ⟨u0, z0⟩ := z0
    have f0 : W2.frozen? ⟨g, off, none⟩ = false := frozen_of_row _ _ _ _ _ hg2
    have hg3 : (W2.setCell ⟨g, off, none⟩ (.pointer none)).heap[g]? = some (.cells cur2 98 (0, 0)) := by rw [hcur2]; exact blk_set _ hg2
    have hc3 : (W2.setCell ⟨g, off, none⟩ (.pointer none)).heap[c]? = some (.cells #[.slice (some ⟨g, off, none⟩) m cc] 117 (0, 0)) := (heap_setCell_other _ _ _ _ HCG.out).trans hc2
    have y1 : (W2.setCell ⟨g, off, none⟩ (.pointer none)).cell? ⟨c, 0, none⟩ = some (.slice (some ⟨g, off, none⟩) m cc) := by rw [World.cell?, hc3]; rfl
    have f1 : (W2.setCell ⟨g, off, none⟩ (.pointer none)).frozen? ⟨c, 0, none⟩ = false := frozen_of_row _ _ _ _ _ hc3
    have HD : Hid (Drp w ((W2.setCell ⟨g, off, none⟩ (.pointer none)).setCell ⟨c, 0, none⟩ (.slice (some ⟨g, off + 1, none⟩) (m - 1) (cc - 1))) c g (off + 1) (cc - 1) ((A ++ C).map Vr.b)) := by
      have hml2 : m - 1 = ((A ++ C).map Vr.b).length := by rw [HA.out.2, List.length_map, List.length_append]; omega
      refine ⟨by rw [← hml2]; exact blk_set _ hc3, ⟨⟨cur2, (heap_setCell_other _ _ _ _ (Ne.symm HCG.out)).trans hg3, hs2, ?_⟩, by rw [← hml2]; omega, by omega⟩, ?_⟩
      · rw [List.map_append]; exact hat2
      · have hb1 := HB1.out
        obtain ⟨q1, q2, q3, q4⟩ := HF2.out
        refine Fr.set (Fr.set ⟨q1.trans hb1.os, q2.trans hb1.tape, q3.trans hb1.output, by rw [q4]; exact hb1.size, fun k hk hn => (HO2.out k (fun e => hn (.inr e))).trans (hb1.block k hk)⟩ _ _ (.inr (.inr rfl))) _ _ (.inr (.inl rfl))
    clear hml HZ HZ2 HA hg hsz hat hle hcur2 hs2 hat2 hg2 HO2 HF2 hc2 hg3 hc3 HL HL1 HB1
    go_upto_region 3 with fail
    go_region
    go_wp2
    go_end0
    exact ⟨rfl, _, _, HD.out⟩
end Go.Proofs.YtbcmmeajglilbaaGreat
/-
  WHAT Remove LEAVES.
-/
namespace Go.Proofs.YtbcmmeajglilbaaGreat
open Go.RowKit Go.Sort

theorem ofK_app (k : K) (A C : List Vr) : ofK k (A ++ C) = ofK k A ++ ofK k C := by simp [ofK]
theorem ofK_cons_same {k : K} {v : Vr} (h : v.k = k) (C : List Vr) : ofK k (v :: C) = v :: ofK k C := by simp [ofK, h]
theorem ofK_cons_other {k : K} {v : Vr} (h : v.k ≠ k) (C : List Vr) : ofK k (v :: C) = ofK k C := by simp [ofK, h]
theorem ofK_mid (A C : List Vr) (v : Vr) : ofK v.k (A ++ v :: C) = ofK v.k A ++ v :: ofK v.k C := by rw [ofK_app, ofK_cons_same rfl]
theorem ofK_mid_other {k : K} {A C : List Vr} {v : Vr} (h : k ≠ v.k) : ofK k (A ++ v :: C) = ofK k (A ++ C) := by rw [ofK_app, ofK_cons_other (fun e => h e.symm), ofK_app]
theorem len_of_sub {α : Type} [DecidableEq α] : ∀ (l m : List α), l.Nodup → (∀ x ∈ l, x ∈ m) → l.length ≤ m.length
  | [], _, _, _ => by simp
  | a :: l, m, hn, hs => by
    have ha : a ∈ m := hs a (by simp)
    have h1 := len_of_sub l (m.erase a) (List.nodup_cons.1 hn).2 (fun x hx => by
      have hne : x ≠ a := fun e => (List.nodup_cons.1 hn).1 (e ▸ hx)
      exact (List.mem_erase_of_ne hne).2 (hs x (by simp [hx])))
    rw [List.length_erase_of_mem ha] at h1
    have : 0 < m.length := List.length_pos_of_mem ha
    simp
    omega
theorem SA.rem {w W' : World} {S V D M L P : Nat} {hf : Value} {cap last : Int} {A C : List Vr} {v : Vr} {es es' : List En} {R : K → Nat × Nat × Nat} (h : SA w S V D M L P hf cap last (A ++ v :: C) es R) (off cc : Nat)
    (st' : W'.heap[S]? = w.heap[S]?)
    (vm' : ∃ ms clock, W'.heap[V]? = some (.map ms clock) ∧ ms.toList.map (fun x => (x.key, x.val)) = (A ++ C).map (fun v => (.int .i64 v.n, ptr v.b)))
    (vb' : ∀ x ∈ A ++ C, W'.heap[x.b]? = w.heap[x.b]?) (da' : DA W' D M L hf P es')
    (hsub : es'.Sublist es) (hoth : ∀ e ∈ es, e.k ≠ v.k → e ∈ es')
    (hown : ∀ e ∈ es', e.k = v.k → ofK v.k (A ++ C) ≠ [] ∧ W'.heap[e.v]? = some (.cells #[.slice (some ⟨(R v.k).1, off, none⟩) (ofK v.k (A ++ C)).length cc] 117 (0, 0)) ∧ RwV W' (R v.k).1 off cc ((ofK v.k (A ++ C)).map Vr.b))
    (hkeep : ofK v.k (A ++ C) ≠ [] → ∃ e ∈ es', e.k = v.k)
    (hold : ∀ e ∈ es', e.k ≠ v.k → W'.heap[e.v]? = w.heap[e.v]? ∧ W'.heap[(R e.k).1]? = w.heap[(R e.k).1]?) :
    SA W' S V D M L P hf cap last (A ++ C) es' (fun k => if k = v.k then ((R v.k).1, off, cc) else R k) := by
  have hsl : (A ++ C).Sublist (A ++ v :: C) := List.Sublist.append_left (List.sublist_cons_self v C) A
  have hm : ∀ x ∈ A ++ C, x ∈ A ++ v :: C := fun x hx => hsl.subset hx
  have hme : ∀ e ∈ es', e ∈ es := fun e he => hsub.subset he
  have hR1 : ∀ k, (if k = v.k then ((R v.k).1, off, cc) else R k).1 = (R k).1 := fun k => by split <;> simp_all
  have hne : ∀ e ∈ es', ofK e.k (A ++ C) ≠ [] := fun e he => by
    by_cases hk : e.k = v.k
    · rw [hk]; exact (hown e he hk).1
    · have := h.ne e (hme e he)
      rwa [ofK_mid_other hk] at this
  refine ⟨st'.trans h.st, vm', fun x hx => (vb' x hx).trans (h.vb x (hm x hx)), da', fun e he => ?_, fun e he => ?_, fun e he => ?_, hne, fun x hx => ?_, ?_, fun e he e' he' heq => ?_, h.nn.sublist hsl, fun x hx => h.nl x (hm x hx), ?_, fun k => ?_, fun x hx => h.inn x (hm x hx), h.VM, ?_, ?_, fun e he => ?_, fun e he => h.ph e (hme e he), fun x hx => h.ik x (hm x hx)⟩
  · by_cases hk : e.k = v.k
    · rw [hk, if_pos rfl]; exact (hown e he hk).2.1
    · rw [if_neg hk, (hold e he hk).1, h.ch e (hme e he), ofK_mid_other hk]
  · by_cases hk : e.k = v.k
    · rw [hk, if_pos rfl]
      obtain ⟨⟨cur, k1, k2, k3⟩, _⟩ := (hown e he hk).2.2
      refine ⟨cur, k1, k2, fun j hj => ?_⟩
      rw [k3 j (by rw [List.length_map]; exact hj), List.getElem_map]
    · rw [if_neg hk]
      obtain ⟨cur, k1, k2, k3⟩ := h.rw e (hme e he)
      simp only [ofK_mid_other hk] at k3
      exact ⟨cur, (hold e he hk).2.trans k1, k2, k3⟩
  · by_cases hk : e.k = v.k
    · rw [hk, if_pos rfl]
      have := (hown e he hk).2.2.le
      simpa using this
    · rw [if_neg hk, ← ofK_mid_other hk]
      exact h.rl e (hme e he)
  · by_cases hk : x.k = v.k
    · obtain ⟨e, he, hek⟩ := hkeep (List.ne_nil_of_mem (a := x) (by simp [ofK, hk]; simpa using hx))
      exact ⟨e, he, hek.trans hk.symm⟩
    · obtain ⟨e, he, hek⟩ := h.all x (hm x hx)
      exact ⟨e, hoth e he (by rw [hek]; exact hk), hek⟩
  · exact h.cb.sublist (hsub.map _)
  · rw [hR1, hR1] at heq
    exact h.rn e (hme e he) e' (hme e' he') heq
  · exact h.bn.sublist (hsl.map _)
  · exact (h.pl k).sublist (hsl.filter _)
  · have h1 := h.lt
    have := hsl.length_le
    omega
  · have h1 := len_of_sub (es'.map En.k) ((A ++ C).map Vr.k) (h.da.kn.sublist (hsub.map _)) (fun k hk => by
      obtain ⟨e, he, rfl⟩ := List.mem_map.1 hk
      obtain ⟨x, xs, hx⟩ := List.exists_cons_of_ne_nil (hne e he)
      have hxm : x ∈ ofK e.k (A ++ C) := by rw [hx]; simp
      have hxf := List.mem_filter.1 hxm
      exact List.mem_map.2 ⟨x, hxf.1, by simpa using hxf.2⟩)
    simpa using h1
  · by_cases hk : e.k = v.k
    · rw [if_pos hk]; exact (hown e he hk).2.2.cm
    · rw [if_neg hk]; exact h.cm e (hme e he)
end Go.Proofs.YtbcmmeajglilbaaGreat
/-
  chainOf, Remove.
-/
namespace Go.Proofs.YtbcmmeajglilbaaGreat
open Go.RowKit Go.Sort

theorem SA.find {w : World} {S V D M L P : Nat} {hf : Value} {cap last : Int} {vs : List Vr} {es : List En} {R : K → Nat × Nat × Nat} (h : SA w S V D M L P hf cap last vs es R) {v : Vr} (hv : v ∈ vs) : ∃ e0 ∈ es, e0.k = v.k ∧ fd es v.k = some e0 := by
  obtain ⟨e, he, hek⟩ := h.all v hv
  exact ⟨e, he, hek, by rw [← hek]; exact fd_of h.da.kn he⟩
set_option maxRecDepth 100000 in
set_option maxHeartbeats 1000000 in
theorem chainOf_any (w : World) (S V D M L P : Nat) (hf : Value) (cap last : Int) (vs : List Vr) (es : List En) (R : K → Nat × Nat × Nat) (v : Vr) (h : SA w S V D M L P hf cap last vs es R) (hv : v ∈ vs) (e0 : En) (hfd : fd es v.k = some e0) :
    Calls Tryz.prog 53 #[ptr S, ptr v.b] w fun e w' => e = .returned (ptr e0.v) ∧ Below w.heap.size w w' := by
  have HKn : Hid (∀ W, Below w.heap.size w W → W.cell? ⟨S, 4, none⟩ = some (ptr D) ∧ W.cell? ⟨v.b, 3, none⟩ = some (.int .i64 v.k.1) ∧ W.cell? ⟨v.b, 4, none⟩ = some (.int .i64 v.k.2)) := fun W hW => by
    have h2 := h.kept hW
    have := h2.vcells hv
    exact ⟨h2.cells.2.2.2.2, this.2.2.2.1, this.2.2.2.2.1⟩
  have HG : Hid (Calls Tryz.prog 59 #[ptr D, .agg #[.int .i64 v.k.1, .int .i64 v.k.2]] w.drew fun e w' => e = .returned (.tuple #[ptr e0.v, .bool true]) ∧ Below w.heap.size w w') := by
    have hd : Below w.heap.size w w.drew := ⟨rfl, rfl, rfl, Nat.le_refl _, fun _ _ => rfl⟩
    have hg := get_any w.drew D M L P hf es v.k (h.da.kept hd) (h.inn v hv).1
    rw [hfd] at hg
    exact hg.mono fun e w' ⟨h1, h2⟩ => ⟨h1, hd.trans h2⟩
  obtain ⟨c4, c3, c5⟩ := HKn.out w (Below.refl _ _)
  clear h hfd
  generalize v.k.1 = k1 at *
  generalize v.k.2 = k2 at *
  go_enter Tryz.func53, Tryz.ntmps53
  go_upto_region 1 with fail
  go_region_held3 (fun w' => w'.cell? ⟨S, 4, none⟩ = some (ptr D) ∧ w'.cell? ⟨v.b, 3, none⟩ = some (.int .i64 k1) ∧ w'.cell? ⟨v.b, 4, none⟩ = some (.int .i64 k2)) (first | exact HKn.out _ HB3.out | go_keep) (first | (go_at_call 59; refine HG.out.mono ?_; rintro e w3 ⟨rfl, hb3⟩; have HB3 : Hid (Below w.heap.size w w3) := hb3; clear hb3))
  clear c4 c3 c5 HG HKn
  go_wp2
  go_ret
  exact ⟨rfl, HB3.out⟩
/-- what Remove leaves -/
def RemPost (w : World) (S V D M L P : Nat) (hf : Value) (cap last : Int) (vs : List Vr) (es : List En) (R : K → Nat × Nat × Nat) (n : Int) (e : Ending) (w' : World) : Prop :=
  (fv vs n = none ∧ e = .returned (.int .i64 93) ∧ w' = w) ∨
  (∃ A v C es' R', vs = A ++ v :: C ∧ v.n = n ∧ e = .returned (.int .i64 0) ∧ SA w' S V D M L P hf cap last (A ++ C) es' R' ∧ Fr (Fs S V D M L vs es R) w w' ∧ ∀ k', Fs S V D M L (A ++ C) es' R' k' → Fs S V D M L vs es R k')
/-- behind drop, and behind Take if it was the last one -/
structure Gone (w W : World) (S V D M L P : Nat) (hf : Value) (A C : List Vr) (v : Vr) (es es' : List En) (R : K → Nat × Nat × Nat) (off cc : Nat) : Prop where
  da : DA W D M L hf P es'
  sub : es'.Sublist es
  oth : ∀ e ∈ es, e.k ≠ v.k → e ∈ es'
  own : ∀ e ∈ es', e.k = v.k → ofK v.k (A ++ C) ≠ [] ∧ W.heap[e.v]? = some (.cells #[.slice (some ⟨(R v.k).1, off, none⟩) (ofK v.k (A ++ C)).length cc] 117 (0, 0)) ∧ RwV W (R v.k).1 off cc ((ofK v.k (A ++ C)).map Vr.b)
  keep : ofK v.k (A ++ C) ≠ [] → ∃ e ∈ es', e.k = v.k
  old : ∀ e ∈ es', e.k ≠ v.k → W.heap[e.v]? = w.heap[e.v]? ∧ W.heap[(R e.k).1]? = w.heap[(R e.k).1]?
  st : W.heap[S]? = w.heap[S]?
  vm : W.heap[V]? = w.heap[V]?
  vb : ∀ x ∈ A ++ v :: C, W.heap[x.b]? = w.heap[x.b]?
  fr : Fr (Fs S V D M L (A ++ v :: C) es R) w W
section
variable {w w1 w2 : World} {S V D M L P : Nat} {hf : Value} {cap last : Int} {A C : List Vr} {v : Vr} {es : List En} {R : K → Nat × Nat × Nat} {off cc : Nat}
theorem SA.keyEq (h : SA w S V D M L P hf cap last (A ++ v :: C) es R) {e e0 : En} (he : e ∈ es) (he0 : e0 ∈ es) (hk : e.k = e0.k) : e = e0 := by
  have a := fd_of h.da.kn he
  have b := fd_of h.da.kn he0
  rw [hk, b] at a
  exact (Option.some.inj a).symm
/-- what drop leaves of the rest -/
theorem SA.dropped (h : SA w S V D M L P hf cap last (A ++ v :: C) es R) {e0 : En} (he0 : e0 ∈ es) (hk0 : e0.k = v.k) (hb1 : Below w.heap.size w w1) (hd : Drp w1 w2 e0.v (R v.k).1 off cc ((ofK v.k (A ++ C)).map Vr.b)) :
    DA w2 D M L hf P es ∧ (∀ e ∈ es, e.k ≠ v.k → w2.heap[e.v]? = w.heap[e.v]? ∧ w2.heap[(R e.k).1]? = w.heap[(R e.k).1]?) ∧ w2.heap[S]? = w.heap[S]? ∧ w2.heap[V]? = w.heap[V]? ∧ (∀ x ∈ A ++ v :: C, w2.heap[x.b]? = w.heap[x.b]?) ∧ Fr (Fs S V D M L (A ++ v :: C) es R) w w2 := by
  have hb : ∀ k, k < w.heap.size → k ≠ e0.v → k ≠ (R v.k).1 → w2.heap[k]? = w.heap[k]? := fun k hk n1 n2 => (hd.fr.block k (Nat.lt_of_lt_of_le hk hb1.size) (fun e => e.elim n1 n2)).trans (hb1.block k hk)
  obtain ⟨⟨o1, o2, o3⟩, ⟨o4, o5, o6⟩, o7⟩ := h.oth_ne he0
  rw [hk0] at o4 o5 o6 o7
  refine ⟨h.da.same (fun k hk => hb k (h.da.lt hk) (fun e => (h.dict_ne hk).1 e0 he0 e.symm) (fun e => (h.dict_ne hk).2.1 e0 he0 (by rw [hk0]; exact e.symm))), fun e he hne => ⟨?_, ?_⟩, hb S (blk_lt h.st) o1 o4, ?_, fun x hx => hb x.b (blk_lt (h.vb x hx)) (o3 x hx) (o6 x hx), ?_⟩
  · refine hb _ (blk_lt (h.ch e he)) (fun e2 => ?_) (o7 e he)
    have a := h.cb
    obtain ⟨A1, C1, rfl⟩ := List.append_of_mem he
    have hs := nodup_split a
    rcases List.mem_append.1 he0 with m | m
    · exact hs.1 e0 m e2.symm
    · rcases List.mem_cons.1 m with rfl | m
      · exact hne hk0
      · exact hs.2 e0 m e2.symm
  · obtain ⟨_, k1, _⟩ := h.rw e he
    exact hb _ (blk_lt k1) (fun e2 => (h.oth_ne he).2.2 e0 he0 e2.symm) (fun e2 => hne (by rw [h.rn e he e0 he0 (by rw [e2, hk0])]; exact hk0))
  · obtain ⟨_, _, k1, _⟩ := h.vm
    exact hb V (blk_lt k1) o2 o5
  · have z := hd.fr.size
    refine ⟨hd.fr.os.trans hb1.os, hd.fr.tape.trans hb1.tape, hd.fr.output.trans hb1.output, Nat.le_trans hb1.size z, fun k hk hn => hb k hk (fun e => hn (.inr (.inr (.inr (.inr (.inl ⟨e0, he0, e.symm⟩)))))) (fun e => hn (.inr (.inr (.inr (.inr (.inr ⟨e0, he0, by rw [hk0]; exact e.symm⟩))))))⟩
theorem SA.gone1 (h : SA w S V D M L P hf cap last (A ++ v :: C) es R) {e0 : En} (he0 : e0 ∈ es) (hk0 : e0.k = v.k) (hb1 : Below w.heap.size w w1) (hd : Drp w1 w2 e0.v (R v.k).1 off cc ((ofK v.k (A ++ C)).map Vr.b)) (hne : ofK v.k (A ++ C) ≠ []) : Gone w w2 S V D M L P hf A C v es es R off cc := by
  obtain ⟨h1, h2, h3, h4, h5, h6⟩ := h.dropped he0 hk0 hb1 hd
  refine ⟨h1, List.Sublist.refl _, fun e he _ => he, fun e he hk => ⟨hne, ?_, hd.rw⟩, fun _ => ⟨e0, he0, hk0⟩, h2, h3, h4, h5, h6⟩
  rw [h.keyEq he he0 (hk.trans hk0.symm)]
  have := hd.ch
  rwa [List.length_map] at this
theorem SA.gone2 {w3 : World} {A1 C1 : List En} {e0 : En} (h : SA w S V D M L P hf cap last (A ++ v :: C) es R) (hes : es = A1 ++ e0 :: C1) (hk0 : e0.k = v.k) (hb1 : Below w.heap.size w w1) (hd : Drp w1 w2 e0.v (R v.k).1 off cc ((ofK v.k (A ++ C)).map Vr.b)) (hn : ofK v.k (A ++ C) = []) (hda : DA w3 D M L hf P (A1 ++ C1)) (hf3 : Fr (Ft M L es) w2 w3) : Gone w w3 S V D M L P hf A C v es (A1 ++ C1) R off cc := by
  have he0 : e0 ∈ es := by rw [hes]; simp
  obtain ⟨h1, h2, h3, h4, h5, h6⟩ := h.dropped he0 hk0 hb1 hd
  have hsub : (A1 ++ C1).Sublist es := by rw [hes]; exact List.Sublist.append_left (List.sublist_cons_self e0 C1) A1
  have hnk : ∀ e ∈ A1 ++ C1, e.k ≠ v.k := fun e he hk => by
    have a := h.da.kn
    rw [hes] at a
    have hs := nodup_split a
    rcases List.mem_append.1 he with m | m
    · exact hs.1 e m (hk.trans hk0.symm)
    · exact hs.2 e m (hk.trans hk0.symm)
  have hz : w.heap.size ≤ w2.heap.size := h6.size
  have hb3 : ∀ k, k < w.heap.size → ¬ Ft M L es k → w3.heap[k]? = w2.heap[k]? := fun k hk hn => hf3.block k (by omega) hn
  have hnF : ∀ {k}, Ft M L es k → (∀ e ∈ es, e.v ≠ k) ∧ (∀ e ∈ es, (R e.k).1 ≠ k) ∧ (∀ v' ∈ A ++ v :: C, v'.b ≠ k) ∧ S ≠ k ∧ V ≠ k := fun hk => h.dict_ne (.inr hk)
  refine ⟨hda, hsub, fun e he hne => ?_, fun e he hk => absurd hk (hnk e he), fun hne => absurd hn hne, fun e he hne => ?_, (hb3 S (blk_lt h.st) (fun hF => (hnF hF).2.2.2.1 rfl)).trans h3, ?_, fun x hx => (hb3 x.b (blk_lt (h.vb x hx)) (fun hF => (hnF hF).2.2.1 x hx rfl)).trans (h5 x hx), ?_⟩
  · rw [hes] at he
    rcases List.mem_append.1 he with m | m
    · exact List.mem_append.2 (.inl m)
    · rcases List.mem_cons.1 m with rfl | m
      · exact absurd hk0 hne
      · exact List.mem_append.2 (.inr m)
  · have hee := hsub.subset he
    obtain ⟨q1, q2⟩ := h2 e hee hne
    obtain ⟨_, k1, _⟩ := h.rw e hee
    exact ⟨(hb3 _ (blk_lt (h.ch e hee)) (fun hF => (hnF hF).1 e hee rfl)).trans q1, (hb3 _ (blk_lt k1) (fun hF => (hnF hF).2.1 e hee rfl)).trans q2⟩
  · obtain ⟨_, _, k1, _⟩ := h.vm
    exact (hb3 V (blk_lt k1) (fun hF => (hnF hF).2.2.2.2 rfl)).trans h4
  · exact h6.trans hf3 (fun k _ hk => .inr (.inr (.inr (.inl (.inr hk)))))
/-- the number is struck out -/
theorem Gone.fin {W W' : World} {es' : List En} (h : SA w S V D M L P hf cap last (A ++ v :: C) es R) (a : Gone w W S V D M L P hf A C v es es' R off cc)
    (vm' : ∃ ms clock, W'.heap[V]? = some (.map ms clock) ∧ ms.toList.map (fun x => (x.key, x.val)) = (A ++ C).map (fun v => (.int .i64 v.n, ptr v.b)))
    (hs : ∀ k, k ≠ V → W'.heap[k]? = W.heap[k]?) (hos : W'.os = W.os ∧ W'.tape = W.tape ∧ W'.output = W.output ∧ W.heap.size ≤ W'.heap.size) :
    SA W' S V D M L P hf cap last (A ++ C) es' (fun k => if k = v.k then ((R v.k).1, off, cc) else R k) ∧ Fr (Fs S V D M L (A ++ v :: C) es R) w W' ∧ ∀ k', Fs S V D M L (A ++ C) es' (fun k => if k = v.k then ((R v.k).1, off, cc) else R k) k' → Fs S V D M L (A ++ v :: C) es R k' := by
  obtain ⟨sv1, sv2⟩ := h.sv_ne
  obtain ⟨ms0, cl0, v0, _⟩ := h.vm
  have vW : W.heap[V]? = some (.map ms0 cl0) := a.vm.trans v0
  have hD : ∀ k, (k = D ∨ Ft M L es' k) → k ≠ V := fun k hk => by
    have hlt := a.da
    rcases hk with rfl | rfl | rfl | ⟨e', he', rfl⟩
    · exact fun e => by (have := hlt.dc; rw [e, vW] at this; cases this)
    · exact fun e => h.VM e.symm
    · obtain ⟨_, k1, _⟩ := hlt.ln
      exact fun e => by (rw [e, vW] at k1; cases k1)
    · obtain ⟨_, _, k1⟩ := hlt.entry he'
      exact fun e => by (rw [e, vW] at k1; cases k1)
  have hC : ∀ {k : Nat} {cs : Array Value} {t : TypeId}, W.heap[k]? = some (.cells cs t (0, 0)) → k ≠ V := fun {k cs t} hk => fun e => by (rw [e, vW] at hk; cases hk)
  have hm : ∀ x ∈ A ++ C, x ∈ A ++ v :: C := fun x hx => by simp at hx ⊢; exact hx.elim .inl (fun h => .inr (.inr h))
  refine ⟨h.rem off cc ((hs S sv1).trans a.st) vm' (fun x hx => (hs _ (sv2 x (hm x hx)).2).trans (a.vb x (hm x hx))) (a.da.same (fun k hk => hs k (hD k hk))) a.sub a.oth (fun e he hk => ?_) a.keep (fun e he hne => ?_), ?_, ?_⟩
  · obtain ⟨q1, q2, q3⟩ := a.own e he hk
    obtain ⟨⟨cur, k1, _⟩, _⟩ := q3
    exact ⟨q1, (hs _ (hC q2)).trans q2, (a.own e he hk).2.2.same (hs _ (hC k1))⟩
  · obtain ⟨q1, q2⟩ := a.old e he hne
    have hee := a.sub.subset he
    obtain ⟨_, k1, _⟩ := h.rw e hee
    exact ⟨(hs _ (hC (q1.trans (h.ch e hee)))).trans q1, (hs _ (hC (q2.trans k1))).trans q2⟩
  · have := a.fr.size
    exact ⟨hos.1.trans a.fr.os, hos.2.1.trans a.fr.tape, hos.2.2.1.trans a.fr.output, by have := hos.2.2.2; omega, fun k hk hn => (hs k (fun e => hn (.inr (.inl e)))).trans (a.fr.block k hk hn)⟩
  · intro k hk
    rcases hk with rfl | rfl | ⟨x, hx, rfl⟩ | hd | ⟨e, he, rfl⟩ | ⟨e, he, rfl⟩
    · exact .inl rfl
    · exact .inr (.inl rfl)
    · exact .inr (.inr (.inl ⟨x, hm x hx, rfl⟩))
    · refine .inr (.inr (.inr (.inl ?_)))
      rcases hd with rfl | rfl | rfl | ⟨e, he, rfl⟩
      · exact .inl rfl
      · exact .inr (.inl rfl)
      · exact .inr (.inr (.inl rfl))
      · exact .inr (.inr (.inr ⟨e, a.sub.subset he, rfl⟩))
    · exact .inr (.inr (.inr (.inr (.inl ⟨e, a.sub.subset he, rfl⟩))))
    · refine .inr (.inr (.inr (.inr (.inr ⟨e, a.sub.subset he, ?_⟩))))
      simp only
      by_cases hk : e.k = v.k
      · rw [if_pos hk, hk]
      · rw [if_neg hk]
end
end Go.Proofs.YtbcmmeajglilbaaGreat
