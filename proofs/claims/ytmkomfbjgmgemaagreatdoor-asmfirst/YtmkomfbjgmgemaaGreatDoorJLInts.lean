import Derived.Test.YtmkomfbjgmgemaaGreatDoorJLFits
import Derived.Laws.CopyOwn
import Derived.Laws.CopyRow
import Derived.WalkSmall
import Derived.Deep.RegionLaw
/-
  ROWS OF NUMBERS THAT A CALL HAS MADE; make, copy, append.
-/
namespace Go.Proofs.YtmkomfbjgmgemaaGreatDoor
open Go.RowKit Go.Sort

abbrev iv (z : Int) : Value := .int .i64 z
def cellsI (L : List Int) : Array Value := (L.map iv).toArray
theorem size_cellsI (L : List Int) : (cellsI L).size = L.length := by simp [cellsI]
theorem get_cellsI (L : List Int) (j : Nat) (h : j < L.length) : (cellsI L)[j]? = some (.int .i64 (L.getD j 0)) := by
  simp [cellsI, List.getD_eq_getElem?_getD, List.getElem?_eq_getElem h]
theorem set_cellsI (L : List Int) (i : Nat) (z : Int) : (cellsI L).setIfInBounds i (.int .i64 z) = cellsI (L.set i z) := by
  apply Array.ext'
  simp [cellsI, List.map_set]
theorem made_cellsI (n : Nat) : madeCells #[.int .i64 0] n = cellsI (List.replicate n 0) := by
  apply Array.ext'
  rw [toList_madeCells_one]
  simp [cellsI]
theorem oneI (L : List Int) : ∀ v ∈ L.map iv, v.oneCell' = true := by
  intro v hv
  obtain ⟨z, _, rfl⟩ := List.mem_map.1 hv
  rfl

/-- BLOCK g IS A ROW OF NUMBERS, L -/
def RowI (w : World) (g : Nat) (L : List Int) : Prop := w.heap[g]? = some (.cells (cellsI L) 3 (0, 0))
theorem RowI.cell {w : World} {g : Nat} {L : List Int} (h : RowI w g L) (j : Nat) (hj : j < L.length) : w.cell? ⟨g, j, none⟩ = some (.int .i64 (L.getD j 0)) := by
  have := get_cellsI L j hj
  simp [World.cell?, show w.heap[g]? = _ from h, this]
theorem RowI.frozen {w : World} {g : Nat} {L : List Int} (h : RowI w g L) (j : Nat) : w.frozen? ⟨g, j, none⟩ = false := frozen_of_row w g j _ _ h
theorem RowI.set {w : World} {g : Nat} {L : List Int} (h : RowI w g L) (i : Nat) (z : Int) : RowI (w.setCell ⟨g, i, none⟩ (.int .i64 z)) g (L.set i z) := by
  have := heap_setCell_same w g i _ _ (.int .i64 z) h
  rw [set_cellsI] at this
  exact this
theorem RowI.lt {w : World} {g : Nat} {L : List Int} (h : RowI w g L) : g < w.heap.size := (Array.getElem?_eq_some_iff.1 h).1
theorem RowI.other {w : World} {g : Nat} {L : List Int} (h : RowI w g L) {a : Addr} (v : Value) (hne : g ≠ a.block) : RowI (w.setCell a v) g L := by
  unfold RowI; rw [heap_setCell_other w a g v hne]; exact h
theorem RowI.below {w w1 : World} {g B : Nat} {L : List Int} (h : RowI w g L) (hb : Below B w w1) (hg : g < B) : RowI w1 g L := by
  unfold RowI; rw [hb.block g hg]; exact h
theorem RowI.kept {w w1 : World} {g : Nat} {L : List Int} (h : RowI w g L) (hb : Below w.heap.size w w1) : RowI w1 g L := h.below hb h.lt
theorem RowI.alloc {w : World} {g : Nat} {L : List Int} (h : RowI w g L) (o : Obj) : RowI (w.alloc o) g L := h.kept ((Below.refl _ _).alloc (Nat.le_refl _) _)
theorem RowI.new (w : World) (L : List Int) : RowI (w.alloc (.cells (cellsI L) 3)) w.heap.size L := by
  show (w.heap.push _)[w.heap.size]? = _
  simp
theorem RowI.setRow {w : World} {g : Nat} {L : List Int} (h : RowI w g L) (M : List Int) : RowI (w.setRow g (cellsI M)) g M := by
  unfold RowI at *
  simp [World.setRow, Array.getElem?_modify, h]
theorem below_setRow {w : World} {g B : Nat} (c : Array Value) (hg : B ≤ g) : Below B w (w.setRow g c) := by
  refine ⟨rfl, rfl, rfl, by simp [World.setRow], fun k hk => ?_⟩
  simp [World.setRow, Array.getElem?_modify, show g ≠ k by omega]

theorem infoI : (Tryz.prog.info? 3).map (fun i => (i.zero, i.size, i.bytes)) = some (some (.int .i64 0), 1, 8) := by kernel_rfl
theorem sizeI : (Tryz.prog.info? 3).map (·.size) = some 1 := by kernel_rfl
/-- make([]int, n) -/
theorem make_ints (c : Nat) (C : Int) (hC : C = c) (hc : c ≤ 1000000) (u : World) : (Instr.makeSlice 140 (.int .i64 C) (.int .i64 C)).run Tryz.prog u =
    .ok (.slice (some ⟨u.heap.size, 0, none⟩) c c) (u.alloc (.cells (cellsI (List.replicate c 0)) 3)) := by
  obtain ⟨i0, hi, hz0, hz1, hz2⟩ := info_parts infoI
  subst hC
  have h := run_make (P := Tryz.prog) u 140 3 i0 (.int .i64 0) Tryz.underlying140 hi hz0 .i64 .i64 (c : Int) (c : Int) (by omega) (Int.le_refl _) (by rw [hz2]; omega) (by omega)
  rw [← made_cellsI]
  simpa [hz1, Value.cells] using h

theorem step_copy_ints {w : World} {ops : Array Oper} {o : Oper} {a : Act} {K' : Act → World → Prop} {Q : Exit → Act → World → Prop} {E : Prop} (hgd : o.guard = none) (s x : Operand)
    (ho : o.op = .call { callee := .builtin .copy, args := #[s, x], argTypes := #[140, 140] }) (v1 v2 r : Value) (w' : World) (hs : a.eval s = v1) (hx : a.eval x = v2)
    (hr : (Builtin.copy_ #[140, 140] o.type #[v1, v2]).run Tryz.prog w = .ok r w') (h : K' (a.put o.dst r) w') :
    if Region.wanted o (yielded ops a.tmps) = true then Oper.wp Tryz.prog o a w K' Q else E := by
  have hw : Region.wanted o (yielded ops a.tmps) = true := by simp [Region.wanted, hgd]
  rw [if_pos hw]
  unfold Oper.wp execOp
  simp only [ho, resolve, invoke, builtin, Sem.run_bind, Sem.run_pure, Result.andThen_ok, List.map_toArray, List.map_cons, List.map_nil, hs, hx, hr]
  exact h

/-- copy of a row's beginning behind it -/
def half (m k : Nat) : List Int := List.replicate k (-1) ++ List.replicate (m - k) 0
theorem half_length (m k : Nat) (h : k ≤ m) : (half m k).length = m := by simp [half]; omega
theorem half_full (m : Nat) : half m m = List.replicate m (-1) := by simp [half]
theorem half_get (m k j : Nat) (h : j < k) : (half m k).getD j 0 = -1 := by
  simp [half, List.getD_eq_getElem?_getD, List.getElem?_append_left, h]
theorem half_copy (m k c : Nat) : (half m k).take k ++ List.replicate c (-1) ++ (half m k).drop (k + c) = half m (k + c) := by
  unfold half
  rw [List.take_left' (by simp), List.replicate_append_replicate, List.drop_append, List.drop_eq_nil_of_le (by simp), List.nil_append, List.drop_replicate]
  congr 2
  simp; omega
theorem copy_half (w : World) (ty : TypeId) (g m k dLen dCap sCap : Nat) (h : RowI w g (half m k)) (hk : k < m) (hd : dLen = m - k) :
    (Builtin.copy_ #[140, 140] ty #[.slice (some ⟨g, k, none⟩) dLen dCap, .slice (some ⟨g, 0, none⟩) k sCap]).run Tryz.prog w =
      .ok (.int .i64 ((min k (m - k) : Nat) : Int)) (w.setRow g (cellsI (half m (k + min k (m - k))))) := by
  have h1 := run_copy_row (P := Tryz.prog) w 140 140 ty 3 g k dLen dCap ⟨g, 0, none⟩ k sCap (cellsI (half m k)) 3 (List.replicate (min k (m - k)) (iv (-1))) Tryz.underlying140 sizeI h
    (by rw [List.length_replicate, hd])
    (fun j v hv => by
      have hj : j < min k (m - k) := by have := (List.getElem?_eq_some_iff.1 hv).1; simpa using this
      rw [List.getElem?_replicate, if_pos hj] at hv
      cases hv
      rw [addr_add, Nat.zero_add, h.cell j (by rw [half_length m k (by omega)]; omega), half_get m k j (by omega)])
    (by rw [size_cellsI, half_length m k (by omega), List.length_replicate]; omega)
    (by intro v hv; rw [List.eq_of_mem_replicate hv]; rfl)
  have e : ((cellsI (half m k)).toList.take k ++ List.replicate (min k (m - k)) (iv (-1)) ++ (cellsI (half m k)).toList.drop (k + (List.replicate (min k (m - k)) (iv (-1))).length)).toArray = cellsI (half m (k + min k (m - k))) := by
    rw [List.length_replicate, ← half_copy m k (min k (m - k))]
    simp [cellsI, List.map_append, List.map_take, List.map_drop]
  rw [h1, e, List.length_replicate]
  rfl

end Go.Proofs.YtmkomfbjgmgemaaGreatDoor
/-
  THE WALKS OF bits.Mul, slices.Repeat.
-/
namespace Go.Proofs.YtmkomfbjgmgemaaGreatDoor
open Go.RowKit Go.Sort

theorem and32 (m : Nat) (h : m < 4294967296) : bits .and .u64 (m : Int) 4294967295 = (m : Int) := by
  have := u64_and_nat m 4294967295 (by omega) (by omega)
  rw [show (4294967295 : Nat) = 2 ^ 32 - 1 from rfl, Nat.and_two_pow_sub_one_eq_mod, Nat.mod_eq_of_lt (by omega)] at this
  exact this
theorem mul64_any (w : World) (m : Nat) (hm : m ≤ 1000000) :
    Calls Tryz.prog 98 #[.int .u64 1, .int .u64 (m : Int)] w fun e w' => e = .returned (.tuple #[.int .u64 0, .int .u64 (m : Int)]) ∧ w' = w := by
  have h1 := and32 m (by omega)
  have h2 : bits .and .u64 1 4294967295 = 1 := by decide +kernel
  have h3 : bits .and .u64 0 4294967295 = 0 := by decide +kernel
  have h4 : (m : Int) / 4294967296 = 0 := by omega
  go_enter Tryz.func98, Tryz.ntmps98
  go_wp2
  go_ret2
  exact ⟨rfl, rfl⟩
theorem mul_any (w : World) (m : Nat) (hm : m ≤ 1000000) :
    Calls Tryz.prog 96 #[.int .u64 1, .int .u64 (m : Int)] w fun e w' => e = .returned (.tuple #[.int .u64 0, .int .u64 (m : Int)]) ∧ w' = w := by
  go_enter Tryz.func96, Tryz.ntmps96
  go_wp2_with fail
  refine (mul64_any _ m hm).mono ?_
  rintro e w1 ⟨rfl, rfl⟩
  go_wp2
  go_ret2
  exact ⟨rfl, rfl⟩

theorem copy_first (w : World) (ty : TypeId) (g b m dCap sCap : Nat) (h : RowI w g (half m 0)) (hc : w.cell? ⟨b, 0, none⟩ = some (.int .i64 (-1))) (hm : 1 ≤ m) :
    (Builtin.copy_ #[140, 140] ty #[.slice (some ⟨g, 0, none⟩) m dCap, .slice (some ⟨b, 0, none⟩) 1 sCap]).run Tryz.prog w = .ok (.int .i64 1) (w.setRow g (cellsI (half m 1))) := by
  have h1 := run_copy_row (P := Tryz.prog) w 140 140 ty 3 g 0 m dCap ⟨b, 0, none⟩ 1 sCap (cellsI (half m 0)) 3 [iv (-1)] Tryz.underlying140 sizeI h
    (by show 1 = min 1 m; omega)
    (fun j v hv => by
      match j, hv with
      | 0, hv => simp at hv; rw [← hv, addr_add]; exact hc
      | j + 1, hv => simp at hv)
    (by rw [size_cellsI, half_length m 0 (by omega)]; simpa using hm)
    (by intro v hv; simp at hv; rw [hv]; rfl)
  have e : ((cellsI (half m 0)).toList.take 0 ++ [iv (-1)] ++ (cellsI (half m 0)).toList.drop (0 + [iv (-1)].length)).toArray = cellsI (half m 1) := by
    have := half_copy m 0 1
    rw [show half m 1 = half m (0 + 1) from rfl, ← this]
    simp [cellsI]
  rw [h1, e]
  rfl

set_option maxHeartbeats 300000 in
theorem repeat_any (w : World) (b m : Nat) (hc : w.cell? ⟨b, 0, none⟩ = some (.int .i64 (-1))) (h1 : 1 ≤ m) (hm : m ≤ 1000000) :
    Calls Tryz.prog 90 #[.slice (some ⟨b, 0, none⟩) 1 1, .int .i64 (m : Int)] w fun e w' => e = .returned (.slice (some ⟨w.heap.size, 0, none⟩) m m) ∧ RowI w' w.heap.size (List.replicate m (-1)) ∧ Below w.heap.size w w' := by
  have hlt : b < w.heap.size := cell_lt hc
  have hmk := make_ints m (m : Int) rfl hm
  have hr0 : RowI (w.alloc (.cells (cellsI (List.replicate m 0)) 3)) w.heap.size (half m 0) := by have := RowI.new w (List.replicate m 0); simpa [half] using this
  have hcp := fun ty => copy_first (w.alloc (.cells (cellsI (List.replicate m 0)) 3)) ty w.heap.size b m m 1 hr0 (((Grew.refl w).alloc _).cell hc) h1
  have HR1 : Hid (RowI ((w.alloc (.cells (cellsI (List.replicate m 0)) 3)).setRow w.heap.size (cellsI (half m 1))) w.heap.size (half m 1)) := hr0.setRow _
  have HB1 : Hid (Below w.heap.size w ((w.alloc (.cells (cellsI (List.replicate m 0)) 3)).setRow w.heap.size (cellsI (half m 1)))) := ((Below.refl _ _).alloc (Nat.le_refl _) _).trans (below_setRow _ (Nat.le_refl _))
  have hk0 : ¬ ((m : Int) < 0) := by omega
  clear hr0
  go_enter Tryz.func90, Tryz.ntmps90
  go_wp2_with fail
  refine (mul_any _ m hm).mono ?_
  rintro e w1 ⟨rfl, rfl⟩
  go_wp2_with fail
  generalize (w1.alloc (.cells (cellsI (List.replicate m 0)) 3)).setRow w1.heap.size (cellsI (half m 1)) = W1 at *
  obtain ⟨G, hG⟩ : ∃ G, G = w1.heap.size := ⟨_, rfl⟩
  rw [← hG] at HR1 ⊢
  have HG : Hid (G = w1.heap.size) := hG
  clear hG hcp hmk
  go_loopw [8] (fun x wr => ∃ k : Nat, 1 ≤ k ∧ k ≤ m ∧ x = .int .i64 (k : Int) ∧ Hid (RowI wr G (half m k)) ∧ Hid (Below w1.heap.size w1 wr)) (fun x _ => m - (intOf x).toNat)
  case atStart => exact ⟨1, by omega, h1, rfl, HR1, HB1⟩
  case round =>
    clear HR1 HB1
    obtain ⟨k, hk1, hk, rfl, HR, HB⟩ := hrel
    by_cases hlt : k < m
    · have hne : k ≠ m := by omega
      have hlt' : (k : Int) < (m : Int) := by omega
      have HR2 : Hid (RowI (wr.drew.setRow G (cellsI (half m (k + min k (m - k))))) G (half m (k + min k (m - k)))) := RowI.setRow (w := wr.drew) HR.out _
      have HB2 : Hid (Below w1.heap.size w1 (wr.drew.setRow G (cellsI (half m (k + min k (m - k)))))) := HB.out.trans ((show Below w1.heap.size wr wr.drew from ⟨rfl, rfl, rfl, Nat.le_refl _, fun _ _ => rfl⟩).trans (below_setRow _ (by rw [HG.out]; exact Nat.le_refl _)))
      go_wp2_with fail
      have hne' : ¬ m = k := by omega
      have hcp := fun ty => copy_half wr.drew ty G m k (m - k) (m - k) m HR.out hlt rfl
      go_region
      all_goals go_wp2
      all_goals go_roundw
      all_goals first | exact ⟨k + min k (m - k), by omega, by omega, by go_num, HR2, HB2⟩ | (simp [intOf]; omega)
    · obtain rfl : k = m := by omega
      go_wp2
      go_ret
      refine ⟨by rw [HG.out]; rfl, ?_, HB.out⟩
      have := HR.out
      rwa [half_full, HG.out] at this

end Go.Proofs.YtmkomfbjgmgemaaGreatDoor
/-
  THE WALKS OF look, Depths' first loop.
-/
namespace Go.Proofs.YtmkomfbjgmgemaaGreatDoor
open Go.RowKit Go.Sort

theorem KeysAt.get {w : World} {ao : Option Addr} {L : List K} (h : KeysAt w ao L) (j : Nat) (hj : j < L.length) : ∃ b off, ao = some ⟨b, off, none⟩ ∧ w.cell? ⟨b, off + j * 2, none⟩ = some (.int .i64 (cd L j).1) ∧ w.cell? ⟨b, off + j * 2 + 1, none⟩ = some (.int .i64 (cd L j).2) := by
  rcases h with rfl | ⟨b, off, rfl, hc⟩
  · simp at hj
  · exact ⟨b, off, rfl, KeysAt.at hc j hj⟩

set_option maxHeartbeats 2000000 in
theorem look_any (w : World) (p : Nums) (ao : Option Addr) (n cap i : Nat) (L : List K) (hp : NIn p) (h : KeysAt w ao L) (hn : n = L.length) (hi : i < n) :
    Calls Tryz.prog 79 #[pv p ao n cap, .int .i64 (i : Int)] w fun e w' => e = .returned (.int .i64 (lookN p n i (cd L i))) ∧ Below w.heap.size w w' := by
  obtain ⟨b, off, rfl, c1, c2⟩ := h.get i (by omega)
  have hlt : b < w.heap.size := cell_lt c1
  have HP : Hid (NIn p) := hp
  clear hp h hn
  generalize hk : cd L i = k at *
  obtain ⟨op, a⟩ := k
  simp only at c1 c2
  have HE : Hid (∀ x, lookN p n i (op, a) = x → lookN p n i (op, a) = x) := fun x h => h
  clear hk
  have HB : ∀ (q : Nat) (os : Array Obj) (W : World), Below w.heap.size w W → Below w.heap.size w (grow (W.drewN q) os) := fun q os W h => h.trans ((Grew.grow (Grew.refl W) q os).below.mono h.size)
  go_enter Tryz.func79, Tryz.ntmps79
  go_wp2_with fail
  refine (isOp_any _ _).mono ?_
  rintro e w1 ⟨rfl, rfl⟩
  cases ho : isOpB op with
  | false =>
    go_wp2
    go_ret
    refine ⟨by rw [HE.out 31 (by simp [lookN, ho])]; rfl, ?_⟩
    repeat (first | exact Below.refl _ _ | refine below_set ?_ _ _ (by simp <;> omega) | refine Below.alloc ?_ (by simp <;> omega) _)
  | true =>
    by_cases hj : op = 30 ∨ op = 31
    · by_cases ha : a ≤ (i : Int)
      · have HX : Hid (lookN p n i (op, a) = 33) := by rcases hj with rfl | rfl <;> simp [lookN, ho, jumpB, Hid] <;> omega
        rcases hj with rfl | rfl <;>
        (go_wp2
         go_ret
         refine ⟨by rw [HE.out 33 HX.out]; rfl, ?_⟩
         repeat (first | exact Below.refl _ _ | refine below_set ?_ _ _ (by simp <;> omega) | refine Below.alloc ?_ (by simp <;> omega) _))
      · have ha' : decide (a ≤ (i : Int)) = false := by simpa using ha
        by_cases hb : (n : Int) < a
        · have HX : Hid (lookN p n i (op, a) = 33) := by rcases hj with rfl | rfl <;> simp [lookN, ho, jumpB, Hid] <;> omega
          rcases hj with rfl | rfl <;>
          (go_wp2
           go_ret
           refine ⟨by rw [HE.out 33 HX.out]; rfl, ?_⟩
           repeat (first | exact Below.refl _ _ | refine below_set ?_ _ _ (by simp <;> omega) | refine Below.alloc ?_ (by simp <;> omega) _))
        · have hb' : decide ((n : Int) < a) = false := by simpa using hb
          have HX : Hid (lookN p n i (op, a) = 0) := by rcases hj with rfl | rfl <;> simp [lookN, ho, jumpB, fitsB, Hid] <;> omega
          have HF : Hid (fitsB p op a = true) := by rcases hj with rfl | rfl <;> simp [fitsB, Hid]
          rcases hj with rfl | rfl <;>
          (go_wp2_with fail
           refine (fits_any _ p _ _ _ _ _ HP.out).mono ?_
           rintro e w2 ⟨rfl, q, os, rfl⟩
           rw [HF.out]
           go_wp2
           go_ret
           refine ⟨by rw [HE.out 0 HX.out]; rfl, HB _ _ _ ?_⟩
           repeat (first | exact Below.refl _ _ | refine below_set ?_ _ _ (by simp <;> omega) | refine Below.alloc ?_ (by simp <;> omega) _))
    · have h30 : (op == 30) = false := by simp; omega
      have h31 : (op == 31) = false := by simp; omega
      have h30' : op ≠ 30 := by omega
      have h31' : op ≠ 31 := by omega
      clear hj
      go_wp2_with fail
      refine (fits_any _ p _ _ _ _ _ HP.out).mono ?_
      rintro e w2 ⟨rfl, q, os, rfl⟩
      cases hf : fitsB p op a with
      | false =>
        have HX : Hid (lookN p n i (op, a) = 32) := by simp [lookN, ho, jumpB, hf, h30', h31', Hid]
        go_wp2
        go_ret
        refine ⟨by rw [HE.out 32 HX.out]; rfl, HB _ _ _ ?_⟩
        repeat (first | exact Below.refl _ _ | refine below_set ?_ _ _ (by simp <;> omega) | refine Below.alloc ?_ (by simp <;> omega) _)
      | true =>
        have HX : Hid (lookN p n i (op, a) = 0) := by simp [lookN, ho, jumpB, hf, h30', h31', Hid]
        go_wp2
        go_ret
        refine ⟨by rw [HE.out 0 HX.out]; rfl, HB _ _ _ ?_⟩
        repeat (first | exact Below.refl _ _ | refine below_set ?_ _ _ (by simp <;> omega) | refine Below.alloc ?_ (by simp <;> omega) _)

end Go.Proofs.YtmkomfbjgmgemaaGreatDoor
/-
  DEPTHS: what the search keeps.
-/
namespace Go.Proofs.YtmkomfbjgmgemaaGreatDoor
open Go.RowKit Go.Sort

/-- instructions that were looked over -/
def Sane (L : List K) : Prop := ∀ i, i < L.length → isOpB (cd L i).1 = true ∧ (jumpB (cd L i).1 = true → (i : Int) < (cd L i).2 ∧ (cd L i).2 ≤ (L.length : Int))
theorem sane_of {p : Nums} {L : List K} (h : lookAll p L L.length = 0) : Sane L := by
  intro i hi
  have h1 := firstE_zero h i hi
  simp only [lookN] at h1
  cases ho : isOpB (cd L i).1 with
  | false => rw [if_pos ho] at h1; simp at h1
  | true =>
    rw [if_neg (by simp [ho])] at h1
    refine ⟨rfl, fun hj => ?_⟩
    by_cases hc : (cd L i).2 ≤ (i : Int) ∨ (L.length : Int) < (cd L i).2
    · rw [if_pos ⟨hj, hc⟩] at h1; simp at h1
    · omega
theorem next_lt {L : List K} (h : Sane L) {i : Nat} (hi : i < L.length) : ∀ t ∈ nextN i (cd L i).1 (cd L i).2, i < t ∧ t ≤ L.length := by
  obtain ⟨h1, h2⟩ := h i hi
  intro t ht
  unfold nextN at ht
  by_cases c1 : (cd L i).1 = 0 ∨ (cd L i).1 = 36
  · rw [if_pos c1] at ht; simp at ht
  · rw [if_neg c1] at ht
    by_cases c2 : (cd L i).1 = 31
    · have h3 := h2 (by simp [jumpB, c2])
      rw [if_pos c2] at ht
      simp at ht
      omega
    · rw [if_neg c2] at ht
      by_cases c3 : (cd L i).1 = 30
      · have h3 := h2 (by simp [jumpB, c3])
        rw [if_pos c3] at ht
        simp at ht
        omega
      · rw [if_neg c3] at ht
        simp at ht
        omega
theorem onw_next {L : List K} (h : Sane L) {i : Nat} (hi : i < L.length) : (onw i (cd L i).1 (cd L i).2).2.2 = ((nextN i (cd L i).1 (cd L i).2).length : Int) ∧
    (∀ t r, nextN i (cd L i).1 (cd L i).2 = t :: r → (onw i (cd L i).1 (cd L i).2).1 = (t : Int)) ∧ (∀ t u r, nextN i (cd L i).1 (cd L i).2 = t :: u :: r → (onw i (cd L i).1 (cd L i).2).2.1 = (u : Int)) := by
  obtain ⟨h1, h2⟩ := h i hi
  unfold nextN onw
  by_cases c1 : (cd L i).1 = 0 ∨ (cd L i).1 = 36
  · rw [if_pos c1, if_pos c1]; simp
  · rw [if_neg c1, if_neg c1]
    by_cases c2 : (cd L i).1 = 31
    · have h3 := h2 (by simp [jumpB, c2])
      rw [if_pos c2, if_pos c2]
      simp
      intro t u r _ h5 _
      omega
    · rw [if_neg c2, if_neg c2]
      by_cases c3 : (cd L i).1 = 30
      · have h3 := h2 (by simp [jumpB, c3])
        rw [if_pos c3, if_pos c3]
        simp
        omega
      · rw [if_neg c3, if_neg c3]
        simp
theorem next_two (i : Nat) (op a : Int) : (nextN i op a).length ≤ 2 := by
  unfold nextN; repeat (split; simp)
  simp
theorem putD_length {d d' : List Int} {x : Int} {r : List Nat} (h : putD d x r = some d') : d'.length = d.length := by
  induction r generalizing d with
  | nil => simp [putD] at h; rw [h]
  | cons t r ih =>
    unfold putD at h
    split at h
    · simp at h
    · rw [ih h, List.length_set]
theorem stepD_length {d d' : List Int} {k : K} {i : Nat} (h : stepD k i d = some d') : d'.length = d.length := by
  unfold stepD at h
  split at h
  · simp at h; rw [h]
  · split at h
    · simp at h
    · exact putD_length h
theorem runD_length {L : List K} {k : Nat} {d : List Int} (h : runD L k = some d) : d.length = L.length + 1 := by
  induction k generalizing d with
  | zero => simp [runD, startD] at h; rw [← h]; simp
  | succ k ih =>
    unfold runD at h
    cases h1 : runD L k with
    | none => rw [h1] at h; simp at h
    | some d1 => rw [h1] at h; simp at h; rw [stepD_length h, ih h1]
/-- depths are at least -1, at most 32 -/
def Mild (d : List Int) : Prop := ∀ j, j < d.length → -1 ≤ d.getD j 0 ∧ d.getD j 0 ≤ 32
theorem getD_set (d : List Int) (t j : Nat) (x : Int) (h : j < d.length) : (d.set t x).getD j 0 = if t = j then x else d.getD j 0 := by
  simp only [List.getD_eq_getElem?_getD, List.getElem?_set]
  by_cases e : t = j
  · subst e; simp [h]
  · simp [e]
theorem Mild.set {d : List Int} (h : Mild d) (t : Nat) {x : Int} (hx : -1 ≤ x ∧ x ≤ 32) : Mild (d.set t x) := by
  intro j hj
  rw [List.length_set] at hj
  rw [getD_set d t j x hj]
  split
  · exact hx
  · exact h j hj
theorem Mild.put {d d' : List Int} {x : Int} {r : List Nat} (h : Mild d) (hx : -1 ≤ x ∧ x ≤ 32) (hp : putD d x r = some d') : Mild d' := by
  induction r generalizing d with
  | nil => simp [putD] at hp; rw [← hp]; exact h
  | cons t r ih =>
    unfold putD at hp
    split at hp
    · simp at hp
    · exact ih (h.set t hx) hp
theorem Mild.step {d d' : List Int} {k : K} {i : Nat} (h : Mild d) (hk : isOpB k.1 = true) (hp : stepD k i d = some d') : Mild d' := by
  unfold stepD at hp
  split at hp
  · simp at hp; rw [← hp]; exact h
  · split at hp
    · simp at hp
    · have := leaves_bound hk
      exact h.put (by omega) hp
theorem Mild.run {L : List K} (hs : Sane L) {k : Nat} (hk : k ≤ L.length) {d : List Int} (h : runD L k = some d) : Mild d := by
  induction k generalizing d with
  | zero =>
    simp [runD, startD] at h
    rw [← h]
    intro j hj
    cases j with
    | zero => simp
    | succ j => simp at hj; simp [List.getD_eq_getElem?_getD, hj]
  | succ k ih =>
    unfold runD at h
    cases h1 : runD L k with
    | none => rw [h1] at h; simp at h
    | some d1 => rw [h1] at h; simp at h; exact (ih (by omega) h1).step (hs k (by omega)).1 h
theorem runD_stuck {L : List K} {k : Nat} (h : runD L k = none) (n : Nat) (hn : k ≤ n) : runD L n = none := by
  induction n with
  | zero => obtain rfl : k = 0 := by omega
            exact h
  | succ n ih =>
    by_cases e : k = n + 1
    · rw [← e]; exact h
    · unfold runD; rw [ih (by omega)]; rfl

end Go.Proofs.YtmkomfbjgmgemaaGreatDoor
