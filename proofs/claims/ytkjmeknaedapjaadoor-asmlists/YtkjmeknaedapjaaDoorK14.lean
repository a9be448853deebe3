import Derived.Test.YtkjmeknaedapjaaDoorK13
import Derived.Test.YtkjmeknaedapjaaDoorK12
import Derived.Deep.DeepCutAuto
/-
  LIBRARIES: wide, library, sameLibrary.
-/
namespace Go.Proofs.YtkjmeknaedapjaaDoor
open Go.RowKit Go.Sort

/-- parts of the first k -/
def totN (n : Nat) (Ps : List Pr) : Nat → Nat
  | 0 => n
  | k + 1 => totN n Ps k + (pd Ps k).n
theorem totN_le {n : Nat} {Ps : List Pr} {k : Nat} (h : totN n Ps k ≤ 100000) : n ≤ 100000 ∧ ∀ i, i < k → (pd Ps i).n ≤ 100000 := by
  induction k with
  | zero => exact ⟨h, fun i hi => by omega⟩
  | succ k ih =>
    simp only [totN] at h
    obtain ⟨h1, h2⟩ := ih (by omega)
    refine ⟨h1, fun i hi => ?_⟩
    by_cases e : i = k
    · subst e; omega
    · exact h2 i (by omega)
def WidePost (n : Nat) (Ps : List Pr) (e : Ending) : Prop := ∃ b, e = .returned (.bool b) ∧ (b = false → n ≤ 100000 ∧ ∀ x ∈ Ps, x.n ≤ 100000)
set_option maxHeartbeats 1000000 in
theorem wide_any (w : World) (ao : Option Addr) (n cap : Nat) (Ps : List Pr) (h : LibAt w ao Ps) (hn : n = Ps.length) (hm : n ≤ 140737488351232) :
    Calls Tryd.prog 5 #[.slice ao n cap] w fun e w' => WidePost n Ps e ∧ w' = w := by
  have H : Hid (LibAt w ao Ps) := h
  have HN : Hid (n = Ps.length) := hn
  clear h hn
  go_enter Tryd.func5, Tryd.ntmps5
  go_wp2
  go_loop [3, 4] (fun y x => ∃ k : Nat, k ≤ n ∧ x = .int .i64 (k : Int) ∧ y = .int .i64 (totN n Ps k : Int) ∧ totN n Ps k ≤ 100000 + 140737488351232) (fun _ x => n - (intOf x).toNat)
  case atStart => exact ⟨0, Nat.zero_le _, rfl, rfl, by show n ≤ _; omega⟩
  case round =>
    obtain ⟨k, hk, rfl, rfl, ht⟩ := hrel
    by_cases h1 : k < n
    · by_cases h2 : totN n Ps k ≤ 100000
      · have hlt' : k < Ps.length := by have := HN.out; omega
        obtain ⟨b, off, rfl, _, _, _, _, _, c5⟩ := H.out.at_.get k hlt'
        have hb := (H.out.ok _ (pd_mem hlt')).big
        have e1 : totN n Ps (k + 1) = totN n Ps k + (pd Ps k).n := rfl
        have HE : Hid (totN n Ps (k + 1) = totN n Ps k + (pd Ps k).n) := e1
        have h2' : (totN n Ps k : Int) ≤ 100000 := by omega
        have h1' : (k : Int) < (n : Int) := by omega
        clear e1
        generalize pd Ps k = x at *
        generalize totN n Ps k = t at *
        go_wp2
        go_round
        case rel => exact ⟨k + 1, by omega, by go_num, by rw [HE.out]; go_num, by rw [HE.out]; omega⟩
        case measure => simp [intOf]; omega
      · have h2' : ¬ (totN n Ps k : Int) ≤ 100000 := by omega
        have h2'' : (100000 : Int) < (totN n Ps k : Int) := by omega
        have h1' : (k : Int) < (n : Int) := by omega
        generalize totN n Ps k = t at *
        go_wp2
        go_ret
        exact ⟨⟨true, rfl, fun h => by cases h⟩, rfl⟩
    · obtain rfl : k = n := by omega
      have h1' : ¬ (k : Int) < (k : Int) := by omega
      by_cases h2 : totN k Ps k ≤ 100000
      · have h2' : ¬ (100000 : Int) < (totN k Ps k : Int) := by omega
        have HT : Hid (k ≤ 100000 ∧ ∀ x ∈ Ps, x.n ≤ 100000) := by
          obtain ⟨a1, a2⟩ := totN_le h2
          refine ⟨a1, fun x hx => ?_⟩
          obtain ⟨i, hi, rfl⟩ := List.mem_iff_getElem.1 hx
          have := a2 i (by have := HN.out; omega)
          simpa [pd, List.getD_eq_getElem?_getD, List.getElem?_eq_getElem hi] using this
        generalize totN k Ps k = t at *
        go_wp2
        go_ret
        exact ⟨⟨false, rfl, fun _ => HT.out⟩, rfl⟩
      · have h2' : (100000 : Int) < (totN k Ps k : Int) := by omega
        generalize totN k Ps k = t at *
        go_wp2
        go_ret
        exact ⟨⟨true, rfl, fun h => by cases h⟩, rfl⟩

/-- BLOCK g IS A ROW OF PROCEDURES -/
def RowP (W : World) (g : Nat) (Qs : List Pr) : Prop := W.heap[g]? = some (.cells (prcs Qs).toArray 43 (0, 0))
theorem RowP.lt {W : World} {g : Nat} {Qs : List Pr} (h : RowP W g Qs) : g < W.heap.size := (Array.getElem?_eq_some_iff.1 h).1
theorem RowP.below {W W' : World} {g B : Nat} {Qs : List Pr} (h : RowP W g Qs) (hb : Below B W W') (hg : g < B) : RowP W' g Qs := (hb.block g hg).trans h
theorem RowP.kept {W W' : World} {g : Nat} {Qs : List Pr} (h : RowP W g Qs) (hb : Below W.heap.size W W') : RowP W' g Qs := h.below hb h.lt
theorem RowP.procs {W : World} {g : Nat} {Qs : List Pr} (h : RowP W g Qs) : ProcsAt W (some ⟨g, 0, none⟩) Qs := by
  refine .inr ⟨g, 0, rfl, fun j u hu => ?_⟩
  simp only [World.cell?, show W.heap[g]? = _ from h, Nat.zero_add]
  simpa using hu
theorem RowP.frozen {W : World} {g : Nat} {Qs : List Pr} (h : RowP W g Qs) (j : Nat) : W.frozen? ⟨g, j, none⟩ = false := frozen_of_row W g j _ _ h
theorem infoP : (Tryd.prog.info? 43).map (fun i => (i.zero, i.size, i.bytes)) = some (some (.agg #[.string ⟨#[]⟩, .int .i64 0, .int .i64 0, .int .i64 0, .int .i64 0, .slice none 0 0]), 6, 72) := by kernel_rfl
theorem prcs_zero (c : Nat) : madeCells (Value.agg #[.string ⟨#[]⟩, .int .i64 0, .int .i64 0, .int .i64 0, .int .i64 0, .slice none 0 0]).cells (c * 6) = (prcs (List.replicate c prD)).toArray := by
  apply Array.ext'
  apply List.ext_getElem?
  intro j
  by_cases hj : j < c * 6
  · obtain ⟨q, i, rfl, hi⟩ : ∃ q i, j = q * 6 + i ∧ i < 6 := ⟨j / 6, j % 6, by omega, Nat.mod_lt _ (by omega)⟩
    have hq : q < c := by omega
    have e : pd (List.replicate c prD) q = prD := by simp [pd, List.getD_eq_getElem?_getD, hq]
    rw [show (prcs (List.replicate c prD)).toArray.toList = prcs (List.replicate c prD) from rfl, prcs_at _ q i (by simpa using hq) hi, e]
    have hm : (q * 6 + i) % 6 = i := by omega
    obtain rfl | rfl | rfl | rfl | rfl | rfl : i = 0 ∨ i = 1 ∨ i = 2 ∨ i = 3 ∨ i = 4 ∨ i = 5 := by omega
    · simp only [Nat.add_zero] at hj hm ⊢
      simp [madeCells, Value.cells, hj, hm, prc, prD]
    all_goals simp [madeCells, Value.cells, hj, hm, prc, prD]
  · rw [show (prcs (List.replicate c prD)).toArray.toList = prcs (List.replicate c prD) from rfl, List.getElem?_eq_none (by simp [madeCells]; omega), List.getElem?_eq_none (by rw [prcs_length]; simp; omega)]
theorem make_procs (c : Nat) (C : Int) (hC : C = c) (hc : c * 72 ≤ 281474976710656) (u : World) : (Go.Instr.makeSlice 22 (.int .i64 C) (.int .i64 C)).run Tryd.prog u =
    .ok (.slice (some ⟨u.heap.size, 0, none⟩) c c) (u.alloc (.cells (prcs (List.replicate c prD)).toArray 43)) := by
  subst hC
  obtain ⟨i0, hi, hz0, hz1, hz2⟩ := info_parts infoP
  have h := run_make (P := Tryd.prog) u 22 43 i0 (.agg #[.string ⟨#[]⟩, .int .i64 0, .int .i64 0, .int .i64 0, .int .i64 0, .slice none 0 0]) Tryd.underlying22 hi hz0 .i64 .i64 (c : Int) (c : Int) (by omega) (Int.le_refl _) (by rw [hz2]; omega) (by omega)
  rw [hz1, Int.toNat_natCast, prcs_zero] at h
  exact h
/-- the procedure of a copy -/
def cpP (x : Pr) (G : Nat) : Pr := ⟨x.name, x.p, some ⟨G, 0, none⟩, x.n, x.n + 2, x.L⟩
theorem prcs_set : ∀ (Qs : List Pr) (i : Nat) (y : Pr), i < Qs.length → ((((((prcs Qs).set (i * 6) (.string y.name)).set (i * 6 + 1) (.int .i64 y.p.args)).set (i * 6 + 2) (.int .i64 y.p.reads)).set (i * 6 + 3) (.int .i64 y.p.writes)).set (i * 6 + 4) (.int .i64 y.p.locals)).set (i * 6 + 5) (.slice y.ao y.n y.cap) = prcs (Qs.set i y)
  | [], i, y, h => by simp at h
  | x :: Qs, 0, y, _ => by
    simp only [List.set_cons_zero, prcs, prc, List.cons_append, List.nil_append, Nat.zero_mul, Nat.zero_add, List.set_cons_succ]
  | x :: Qs, i + 1, y, h => by
    have ih := prcs_set Qs i y (by simp at h; omega)
    rw [show (i + 1) * 6 = i * 6 + 1 + 1 + 1 + 1 + 1 + 1 by omega, show i * 6 + 1 + 1 + 1 + 1 + 1 + 1 + 1 = (i * 6 + 1) + 1 + 1 + 1 + 1 + 1 + 1 by omega, show i * 6 + 1 + 1 + 1 + 1 + 1 + 1 + 2 = (i * 6 + 2) + 1 + 1 + 1 + 1 + 1 + 1 by omega,
      show i * 6 + 1 + 1 + 1 + 1 + 1 + 1 + 3 = (i * 6 + 3) + 1 + 1 + 1 + 1 + 1 + 1 by omega, show i * 6 + 1 + 1 + 1 + 1 + 1 + 1 + 4 = (i * 6 + 4) + 1 + 1 + 1 + 1 + 1 + 1 by omega, show i * 6 + 1 + 1 + 1 + 1 + 1 + 1 + 5 = (i * 6 + 5) + 1 + 1 + 1 + 1 + 1 + 1 by omega]
    simp only [List.set_cons_succ, prcs, prc, List.cons_append, List.nil_append, ih]
theorem RowP.put {W : World} {g k : Nat} {Qs : List Pr} (h : RowP W g Qs) (hk : k < Qs.length) (y : Pr) :
    RowP ((((((W.setCell ⟨g, k * 6, none⟩ (.string y.name)).setCell ⟨g, k * 6 + 1, none⟩ (.int .i64 y.p.args)).setCell ⟨g, k * 6 + 2, none⟩ (.int .i64 y.p.reads)).setCell ⟨g, k * 6 + 3, none⟩ (.int .i64 y.p.writes)).setCell ⟨g, k * 6 + 4, none⟩ (.int .i64 y.p.locals)).setCell ⟨g, k * 6 + 5, none⟩ (.slice y.ao y.n y.cap)) g (Qs.set k y) := by
  have h1 := heap_setCell_same W g (k * 6) _ _ (.string y.name) h
  have h2 := heap_setCell_same _ g (k * 6 + 1) _ _ (.int .i64 y.p.args) h1
  have h3 := heap_setCell_same _ g (k * 6 + 2) _ _ (.int .i64 y.p.reads) h2
  have h4 := heap_setCell_same _ g (k * 6 + 3) _ _ (.int .i64 y.p.writes) h3
  have h5 := heap_setCell_same _ g (k * 6 + 4) _ _ (.int .i64 y.p.locals) h4
  have h6 := heap_setCell_same _ g (k * 6 + 5) _ _ (.slice y.ao y.n y.cap) h5
  unfold RowP
  rw [h6, ← prcs_set Qs k y hk]
  simp

theorem prcs_name : ∀ (Qs : List Pr) (i : Nat) (nm : ByteArray), i < Qs.length → (prcs Qs).set (i * 6) (.string nm) = prcs (Qs.set i { pd Qs i with name := nm })
  | [], i, y, h => by simp at h
  | x :: Qs, 0, y, _ => by
    simp only [List.set_cons_zero, prcs, prc, List.cons_append, List.nil_append, Nat.zero_mul]
    rfl
  | x :: Qs, i + 1, y, h => by
    have ih := prcs_name Qs i y (by simp at h; omega)
    rw [show (i + 1) * 6 = i * 6 + 1 + 1 + 1 + 1 + 1 + 1 by omega]
    have e : pd (x :: Qs) (i + 1) = pd Qs i := by simp [pd]
    simp only [List.set_cons_succ, prcs, prc, List.cons_append, List.nil_append, ih, e]
theorem RowP.setName {W : World} {g k : Nat} {Qs : List Pr} (h : RowP W g Qs) (hk : k < Qs.length) (nm : ByteArray) : RowP (W.setCell ⟨g, k * 6, none⟩ (.string nm)) g (Qs.set k { pd Qs k with name := nm }) := by
  have h1 := heap_setCell_same W g (k * 6) _ _ (.string nm) h
  unfold RowP
  rw [h1, ← prcs_name Qs k nm hk]
  simp
theorem KeysAt.sameB {W W' : World} {ao : Option Addr} {L : List K} (h : KeysAt W ao L) (hs : ∀ a, ao = some a → W'.heap[a.block]? = W.heap[a.block]?) : KeysAt W' ao L := by
  rcases h with rfl | ⟨b, off, rfl, hc⟩
  · exact .inl rfl
  · refine .inr ⟨b, off, rfl, fun j u hu => ?_⟩
    have h1 := hc j u hu
    simp only [World.cell?] at h1 ⊢
    rw [hs _ rfl]; exact h1
/-- what a store into one block leaves -/
structure OneB (g : Nat) (W W' : World) : Prop where
  os : W'.os = W.os
  tape : W'.tape = W.tape
  output : W'.output = W.output
  size : W.heap.size ≤ W'.heap.size
  block : ∀ b, b ≠ g → W'.heap[b]? = W.heap[b]?
theorem OneB.refl (g : Nat) (W : World) : OneB g W W := ⟨rfl, rfl, rfl, Nat.le_refl _, fun _ _ => rfl⟩
theorem OneB.set {g : Nat} {W W' : World} (h : OneB g W W') (i : Nat) (v : Value) : OneB g W (W'.setCell ⟨g, i, none⟩ v) := by
  have hb : Below 0 W' (W'.setCell ⟨g, i, none⟩ v) := below_set (Below.refl _ _) _ _ (Nat.zero_le _)
  exact ⟨hb.os.trans h.os, hb.tape.trans h.tape, hb.output.trans h.output, Nat.le_trans h.size hb.size, fun b hne => (heap_setCell_other W' ⟨g, i, none⟩ b v hne).trans (h.block b hne)⟩
theorem OneB.drew {g : Nat} {W W' : World} (h : OneB g W W') : OneB g W W'.drew := ⟨h.os, h.tape, h.output, h.size, h.block⟩
theorem OneB.below {g : Nat} {W W' : World} (h : OneB g W W') : Below g W W' := ⟨h.os, h.tape, h.output, h.size, fun b hb => h.block b (by omega)⟩
def behind : ByteArray := ⟨#[98, 101, 104, 105, 110, 100]⟩
/-- what stands while a library is copied -/
structure LS (w W : World) (n k : Nat) (Ps Qs : List Pr) : Prop where
  row : RowP W w.heap.size Qs
  len : Qs.length = n + 1
  bel : Below w.heap.size w W
  cop : ∀ i, i < k → ∃ G, pd Qs i = cpP (pd Ps i) G ∧ KeysAt W (some ⟨G, 0, none⟩) (pd Ps i).L ∧ w.heap.size < G ∧ G < W.heap.size
theorem LS.kept {w W W' : World} {n k : Nat} {Ps Qs : List Pr} (h : LS w W n k Ps Qs) (hb : Below W.heap.size W W') : LS w W' n k Ps Qs :=
  ⟨h.row.kept hb, h.len, h.bel.trans (hb.mono h.bel.size), fun i hi => let ⟨G, a, b, c, d⟩ := h.cop i hi; ⟨G, a, b.kept hb, c, Nat.lt_of_lt_of_le d hb.size⟩⟩
theorem pd_set_ne (Qs : List Pr) (k i : Nat) (y : Pr) (h : i ≠ k) : pd (Qs.set k y) i = pd Qs i := by
  simp only [pd, List.getD_eq_getElem?_getD, List.getElem?_set]; rw [if_neg (fun e => h e.symm)]
theorem pd_set_eq (Qs : List Pr) (k : Nat) (y : Pr) (h : k < Qs.length) : pd (Qs.set k y) k = y := by
  simp [pd, List.getD_eq_getElem?_getD, h]
theorem RowP.drew {W : World} {g : Nat} {Qs : List Pr} (h : RowP W g Qs) : RowP W.drew g Qs := h
theorem RowP.putX {W : World} {g k : Nat} {Qs : List Pr} (h : RowP W g Qs) (hk : k < Qs.length) (x : Pr) (G : Nat) :
    RowP ((((((W.setCell ⟨g, k * 6, none⟩ (.string x.name)).setCell ⟨g, k * 6 + 1, none⟩ (.int .i64 x.p.args)).setCell ⟨g, k * 6 + 2, none⟩ (.int .i64 x.p.reads)).setCell ⟨g, k * 6 + 3, none⟩ (.int .i64 x.p.writes)).setCell ⟨g, k * 6 + 4, none⟩ (.int .i64 x.p.locals)).setCell ⟨g, k * 6 + 5, none⟩ (.slice (some ⟨G, 0, none⟩) x.n (x.n + 2))) g (Qs.set k (cpP x G)) := by
  have := h.put hk (cpP x G)
  simp only [cpP] at this
  exact this
theorem LS.put {w W : World} {n k : Nat} {Ps Qs : List Pr} (h : LS w W n k Ps Qs) (hk : k < n) (x : Pr) (hx : pd Ps k = x) (G : Nat) (hG : KeysAt W (some ⟨G, 0, none⟩) x.L) (h1 : w.heap.size < G) (h2 : G < W.heap.size) :
    ∃ Qs', LS w (((((((W.setCell ⟨w.heap.size, k * 6, none⟩ (.string x.name)).setCell ⟨w.heap.size, k * 6 + 1, none⟩ (.int .i64 x.p.args)).setCell ⟨w.heap.size, k * 6 + 2, none⟩ (.int .i64 x.p.reads)).setCell ⟨w.heap.size, k * 6 + 3, none⟩ (.int .i64 x.p.writes)).setCell ⟨w.heap.size, k * 6 + 4, none⟩ (.int .i64 x.p.locals)).setCell ⟨w.heap.size, k * 6 + 5, none⟩ (.slice (some ⟨G, 0, none⟩) x.n (x.n + 2))).drew) n (k + 1) Ps Qs' := by
  have hkl : k < Qs.length := by have := h.len; omega
  have hR := (h.row.putX hkl x G).drew
  have hO : OneB w.heap.size W (((((((W.setCell ⟨w.heap.size, k * 6, none⟩ (.string x.name)).setCell ⟨w.heap.size, k * 6 + 1, none⟩ (.int .i64 x.p.args)).setCell ⟨w.heap.size, k * 6 + 2, none⟩ (.int .i64 x.p.reads)).setCell ⟨w.heap.size, k * 6 + 3, none⟩ (.int .i64 x.p.writes)).setCell ⟨w.heap.size, k * 6 + 4, none⟩ (.int .i64 x.p.locals)).setCell ⟨w.heap.size, k * 6 + 5, none⟩ (.slice (some ⟨G, 0, none⟩) x.n (x.n + 2))).drew) := ((((((OneB.refl _ W).set _ _).set _ _).set _ _).set _ _).set _ _).set _ _ |>.drew
  generalize (((((((W.setCell ⟨w.heap.size, k * 6, none⟩ (.string x.name)).setCell ⟨w.heap.size, k * 6 + 1, none⟩ (.int .i64 x.p.args)).setCell ⟨w.heap.size, k * 6 + 2, none⟩ (.int .i64 x.p.reads)).setCell ⟨w.heap.size, k * 6 + 3, none⟩ (.int .i64 x.p.writes)).setCell ⟨w.heap.size, k * 6 + 4, none⟩ (.int .i64 x.p.locals)).setCell ⟨w.heap.size, k * 6 + 5, none⟩ (.slice (some ⟨G, 0, none⟩) x.n (x.n + 2))).drew) = W' at *
  refine ⟨_, hR, by rw [List.length_set]; exact h.len, h.bel.trans hO.below, fun i hi => ?_⟩
  by_cases e : i = k
  · subst e
    refine ⟨G, by rw [pd_set_eq _ _ _ hkl, hx], ?_, h1, Nat.lt_of_lt_of_le h2 hO.size⟩
    rw [hx]
    exact hG.sameB (fun a ea => by cases ea; exact hO.block G (by omega))
  · obtain ⟨G', a1, a2, a3, a4⟩ := h.cop i (by omega)
    exact ⟨G', by rw [pd_set_ne _ _ _ _ e]; exact a1, a2.sameB (fun a ea => by cases ea; exact hO.block G' (by omega)), a3, Nat.lt_of_lt_of_le a4 hO.size⟩
def LibPost (n : Nat) (Ps : List Pr) (e : Ending) (w' : World) : Prop := ∃ (g : Nat) (Qs : List Pr), e = .returned (.tuple #[.slice (some ⟨g, 0, none⟩) n (n + 1), .slice (some ⟨g, 0, none⟩) (n + 1) (n + 1)]) ∧ RowP w' g Qs ∧ Qs.length = n + 1 ∧ (pd Qs n).name = behind ∧
  ∀ i, i < n → ∃ G, pd Qs i = cpP (pd Ps i) G ∧ KeysAt w' (some ⟨G, 0, none⟩) (pd Ps i).L

set_option maxRecDepth 100000 in
set_option maxHeartbeats 2000000 in
theorem library_any (w : World) (ao : Option Addr) (n cap : Nat) (Ps : List Pr) (h : LibAt w ao Ps) (hn : n = Ps.length) (hm : n ≤ 100000) :
    Calls Tryd.prog 6 #[.slice ao n cap] w fun e w' => LibPost n Ps e w' ∧ Below w.heap.size w w' := by
  have H : Hid (LibAt w ao Ps) := h
  have HN : Hid (n = Ps.length) := hn
  clear h hn
  have hmk := make_procs (n + 1) ((n : Int) + 1) (by omega) (by omega)
  go_enter Tryd.func6, Tryd.ntmps6
  go_wp2_with fail
  have HR0 : Hid (LS w (w.alloc (.cells (prcs (List.replicate (n + 1) prD)).toArray 43)) n 0 Ps (List.replicate (n + 1) prD)) := ⟨heap_alloc_new _ _ rfl, by simp, (Below.refl _ _).alloc (Nat.le_refl _) _, fun i hi => by omega⟩
  generalize w.alloc (.cells (prcs (List.replicate (n + 1) prD)).toArray 43) = W0 at *
  clear hmk
  go_loopw [5] (fun x wr => ∃ k : Nat, k ≤ n ∧ x = .int .i64 (k : Int) ∧ ∃ Qs, Hid (LS w wr n k Ps Qs)) (fun x _ => n - (intOf x).toNat)
  case atStart => exact ⟨0, Nat.zero_le _, rfl, _, HR0⟩
  case round =>
    clear HR0
    obtain ⟨k, hk, rfl, Qs, HQ⟩ := hrel
    by_cases hlt : k < n
    · have hlt' : k < Ps.length := by have := HN.out; omega
      obtain ⟨b, off, rfl, c0, c1, c2, c3, c4, c5⟩ := (H.out.at_.kept HQ.out.bel).get k hlt'
      have HO : Hid (PrOK wr (pd Ps k)) := (H.out.ok _ (pd_mem hlt')).kept HQ.out.bel
      have HX : Hid (∃ x, pd Ps k = x) := ⟨_, rfl⟩
      generalize hx : pd Ps k = x at *
      have HXe : Hid (pd Ps k = x) := hx
      clear hx HX
      go_wp2_with fail
      refine (roomy_any wr x.p x.ao x.n x.cap x.L HO.out.ks HO.out.len HO.out.big).mono ?_
      rintro e w1 ⟨G, rfl, hrow, hb1, hG⟩
      have d0 : w1.cell? ⟨b, off + k * 6, none⟩ = some (.string x.name) := by
        rw [hb1.cell (p := ⟨b, off + k * 6, none⟩) (cell_lt c0)]; exact c0
      have HA1 : Grew w1 (w1.alloc (.cells #[.int .i64 x.p.args, .int .i64 x.p.reads, .int .i64 x.p.writes, .int .i64 x.p.locals, .slice (some ⟨G, 0, none⟩) x.n (x.n + 2)] 41)) := (Grew.refl w1).alloc _
      have HQ2 : Hid (LS w (w1.alloc (.cells #[.int .i64 x.p.args, .int .i64 x.p.reads, .int .i64 x.p.writes, .int .i64 x.p.locals, .slice (some ⟨G, 0, none⟩) x.n (x.n + 2)] 41)) n k Ps Qs) := (HQ.out.kept hb1).kept HA1.below
      have HG2 : Hid (KeysAt (w1.alloc (.cells #[.int .i64 x.p.args, .int .i64 x.p.reads, .int .i64 x.p.writes, .int .i64 x.p.locals, .slice (some ⟨G, 0, none⟩) x.n (x.n + 2)] 41)) (some ⟨G, 0, none⟩) x.L ∧ w.heap.size < G ∧ G < w1.heap.size + 1) := ⟨(RowK.keys hrow).kept HA1.below, by have := HQ.out.row.lt; omega, by have := hrow.lt; omega⟩
      have q0 := HA1.cell d0
      clear d0 hrow hb1 hG HQ
      go_wp2_with fail
      obtain ⟨_, _, e, s0, s1, s2, s3, s4, s5⟩ := HQ2.out.row.procs.get k (by have := HQ2.out.len; omega)
      cases e
      simp only [Nat.zero_add] at s0 s1 s2 s3 s4 s5
      have f0 := HQ2.out.row.frozen (k * 6)
      have f1 := HQ2.out.row.frozen (k * 6 + 1)
      have f2 := HQ2.out.row.frozen (k * 6 + 2)
      have f3 := HQ2.out.row.frozen (k * 6 + 3)
      have f4 := HQ2.out.row.frozen (k * 6 + 4)
      have f5 := HQ2.out.row.frozen (k * 6 + 5)
      obtain ⟨W2, hW2⟩ : ∃ X, X = w1.alloc (.cells #[.int .i64 x.p.args, .int .i64 x.p.reads, .int .i64 x.p.writes, .int .i64 x.p.locals, .slice (some ⟨G, 0, none⟩) x.n (x.n + 2)] 41) := ⟨_, rfl⟩
      have HS2 : Hid (w1.heap.size + 1 = W2.heap.size) := by rw [hW2]; simp [Hid]
      have HP3 : Hid (∃ Qs', LS w (((((((W2.setCell ⟨w.heap.size, k * 6, none⟩ (.string x.name)).setCell ⟨w.heap.size, k * 6 + 1, none⟩ (.int .i64 x.p.args)).setCell ⟨w.heap.size, k * 6 + 2, none⟩ (.int .i64 x.p.reads)).setCell ⟨w.heap.size, k * 6 + 3, none⟩ (.int .i64 x.p.writes)).setCell ⟨w.heap.size, k * 6 + 4, none⟩ (.int .i64 x.p.locals)).setCell ⟨w.heap.size, k * 6 + 5, none⟩ (.slice (some ⟨G, 0, none⟩) x.n (x.n + 2))).drew) n (k + 1) Ps Qs') := by
        rw [← hW2] at HQ2 HG2
        exact HQ2.out.put hlt x HXe.out G HG2.out.1 HG2.out.2.1 (by have := HG2.out.2.2; have := HS2.out; omega)
      rw [← hW2]
      rw [← hW2] at s0 s1 s2 s3 s4 s5 f0 f1 f2 f3 f4 f5 q0
      have p0 : W2.cell? ⟨w1.heap.size, 0, none⟩ = some (.int .i64 x.p.args) ∧ W2.cell? ⟨w1.heap.size, 1, none⟩ = some (.int .i64 x.p.reads) ∧ W2.cell? ⟨w1.heap.size, 2, none⟩ = some (.int .i64 x.p.writes) ∧ W2.cell? ⟨w1.heap.size, 3, none⟩ = some (.int .i64 x.p.locals) ∧ W2.cell? ⟨w1.heap.size, 4, none⟩ = some (.slice (some ⟨G, 0, none⟩) x.n (x.n + 2)) := by
        rw [hW2]; exact (PBox.new w1 x.p (some ⟨G, 0, none⟩) x.n (x.n + 2)).cells
      obtain ⟨p0, p1, p2, p3, p4⟩ := p0
      clear hW2 HQ2 HG2 HA1 HS2
      go_region
      obtain ⟨Qs', hq⟩ := HP3.out
      have HQ3 : Hid (LS w ((((((W2.setCell ⟨w.heap.size, k * 6, none⟩ (.string x.name)).setCell ⟨w.heap.size, k * 6 + 1, none⟩ (.int .i64 x.p.args)).setCell ⟨w.heap.size, k * 6 + 2, none⟩ (.int .i64 x.p.reads)).setCell ⟨w.heap.size, k * 6 + 3, none⟩ (.int .i64 x.p.writes)).setCell ⟨w.heap.size, k * 6 + 4, none⟩ (.int .i64 x.p.locals)).setCell ⟨w.heap.size, k * 6 + 5, none⟩ (.slice (some ⟨G, 0, none⟩) x.n (x.n + 2))).drew n (k + 1) Ps Qs') := hq
      clear hq HP3
      generalize ((((((W2.setCell ⟨w.heap.size, k * 6, none⟩ (.string x.name)).setCell ⟨w.heap.size, k * 6 + 1, none⟩ (.int .i64 x.p.args)).setCell ⟨w.heap.size, k * 6 + 2, none⟩ (.int .i64 x.p.reads)).setCell ⟨w.heap.size, k * 6 + 3, none⟩ (.int .i64 x.p.writes)).setCell ⟨w.heap.size, k * 6 + 4, none⟩ (.int .i64 x.p.locals)).setCell ⟨w.heap.size, k * 6 + 5, none⟩ (.slice (some ⟨G, 0, none⟩) x.n (x.n + 2))).drew = W3 at *
      go_wp2
      go_roundw
      case rel => exact ⟨k + 1, by omega, by go_num, Qs', HQ3⟩
      case measure => simp [intOf]; omega
    · obtain rfl : k = n := by omega
      have hkl : k < Qs.length := by have := HQ.out.len; omega
      have HP : Hid (LibPost k Ps (.returned (.tuple #[.slice (some ⟨w.heap.size, 0, none⟩) k (k + 1), .slice (some ⟨w.heap.size, 0, none⟩) (k + 1) (k + 1)])) (wr.setCell ⟨w.heap.size, k * 6, none⟩ (.string ⟨#[98, 101, 104, 105, 110, 100]⟩)) ∧ Below w.heap.size w (wr.setCell ⟨w.heap.size, k * 6, none⟩ (.string ⟨#[98, 101, 104, 105, 110, 100]⟩))) := by
        have hO := (OneB.refl w.heap.size wr).set (k * 6) (.string ⟨#[98, 101, 104, 105, 110, 100]⟩)
        refine ⟨⟨_, _, rfl, HQ.out.row.setName hkl _, by rw [List.length_set]; exact HQ.out.len, by rw [pd_set_eq _ _ _ hkl]; rfl, fun i hi => ?_⟩, HQ.out.bel.trans hO.below⟩
        obtain ⟨G', a1, a2, a3, a4⟩ := HQ.out.cop i hi
        exact ⟨G', by rw [pd_set_ne _ _ _ _ (by omega)]; exact a1, a2.sameB (fun a ea => by cases ea; exact hO.block _ (by simp; omega))⟩
      obtain ⟨_, _, e, s0, s1, s2, s3, s4, s5⟩ := HQ.out.row.procs.get k hkl
      cases e
      simp only [Nat.zero_add] at s0 s1 s2 s3 s4 s5
      have f0 := HQ.out.row.frozen (k * 6)
      go_wp2
      go_ret2
      exact HP.out
end Go.Proofs.YtkjmeknaedapjaaDoor
/-
  WHAT STANDS WHILE layer 4's lent LAYS A LIBRARY.
-/
namespace Go.Proofs.YtkjmeknaedapjaaDoor
open Go.RowKit Go.Sort

def padP (i : Nat) : Pr := ⟨⟨#[45]⟩, ⟨-(i : Int), 0, 0, 0⟩, none, 0, 0, []⟩
def cp3 (x : Pr) (G : Nat) : Pr := ⟨x.name, x.p, some ⟨G, 0, none⟩, x.n, x.n + 3, x.L⟩
structure Pads (n : Nat) (L M : List K) : Prop where
  len : M.length = n + 3
  take : M.take n = L
  pad : ∀ j, n ≤ j → j < n + 3 → cd M j = (-7, (j : Int))
/-- a procedure that was laid -/
def CopL (W : World) (B : Nat) (x y : Pr) : Prop := (x.ao = none ∧ y = x) ∨ ∃ G M, y = cp3 x G ∧ RowK W G M ∧ Pads x.n x.L M ∧ B < G
theorem CopL.kept {W W' : World} {B : Nat} {x y : Pr} (h : CopL W B x y) (hb : Below W.heap.size W W') : CopL W' B x y := by
  rcases h with h | ⟨G, M, a, b, c, d⟩
  · exact .inl h
  · exact .inr ⟨G, M, a, b.kept hb, c, d⟩
theorem CopL.one {W W' : World} {B : Nat} {x y : Pr} (h : CopL W B x y) (hb : OneB B W W') : CopL W' B x y := by
  rcases h with h | ⟨G, M, a, b, c, d⟩
  · exact .inl h
  · exact .inr ⟨G, M, a, (hb.block G (by omega)).trans b, c, d⟩
theorem CopL.other {W W' : World} {B g : Nat} {x y : Pr} (h : CopL W B x y) (hb : Below g W W') (hl : ∀ G M, y = cp3 x G → RowK W G M → G < g) : CopL W' B x y := by
  rcases h with h | ⟨G, M, a, b, c, d⟩
  · exact .inl h
  · exact .inr ⟨G, M, a, b.below hb (hl G M a b), c, d⟩
structure L1 (w W : World) (n k : Nat) (Qs : List Pr) : Prop where
  row : RowP W w.heap.size Qs
  len : Qs.length = n + 3
  bel : Below w.heap.size w W
  pad : ∀ i, i < k → pd Qs i = padP i
theorem L1.put {w W : World} {n k : Nat} {Qs : List Pr} (h : L1 w W n k Qs) (hk : k < n + 3) :
    ∃ Qs', L1 w ((((((W.setCell ⟨w.heap.size, k * 6, none⟩ (.string ⟨#[45]⟩)).setCell ⟨w.heap.size, k * 6 + 1, none⟩ (.int .i64 (-(k : Int)))).setCell ⟨w.heap.size, k * 6 + 2, none⟩ (.int .i64 0)).setCell ⟨w.heap.size, k * 6 + 3, none⟩ (.int .i64 0)).setCell ⟨w.heap.size, k * 6 + 4, none⟩ (.int .i64 0)).setCell ⟨w.heap.size, k * 6 + 5, none⟩ (.slice none 0 0)) n (k + 1) Qs' := by
  have hkl : k < Qs.length := by have := h.len; omega
  have hR := h.row.put hkl (padP k)
  simp only [padP] at hR
  have hO : OneB w.heap.size W ((((((W.setCell ⟨w.heap.size, k * 6, none⟩ (.string ⟨#[45]⟩)).setCell ⟨w.heap.size, k * 6 + 1, none⟩ (.int .i64 (-(k : Int)))).setCell ⟨w.heap.size, k * 6 + 2, none⟩ (.int .i64 0)).setCell ⟨w.heap.size, k * 6 + 3, none⟩ (.int .i64 0)).setCell ⟨w.heap.size, k * 6 + 4, none⟩ (.int .i64 0)).setCell ⟨w.heap.size, k * 6 + 5, none⟩ (.slice none 0 0)) := ((((((OneB.refl _ W).set _ _).set _ _).set _ _).set _ _).set _ _).set _ _
  refine ⟨_, hR, by rw [List.length_set]; exact h.len, h.bel.trans hO.below, fun i hi => ?_⟩
  by_cases e : i = k
  · subst e; rw [pd_set_eq _ _ _ hkl]; rfl
  · rw [pd_set_ne _ _ _ _ e]; exact h.pad i (by omega)
structure LT (w W : World) (n k : Nat) (Ps Qs : List Pr) : Prop where
  row : RowP W w.heap.size Qs
  len : Qs.length = n + 3
  bel : Below w.heap.size w W
  pad : ∀ i, n ≤ i → i < n + 3 → pd Qs i = padP i
  cop : ∀ i, i < k → CopL W w.heap.size (pd Ps i) (pd Qs i)
theorem L1.fin {w W : World} {n : Nat} {Ps Qs : List Pr} (h : L1 w W n (n + 3) Qs) : LT w W n 0 Ps Qs := ⟨h.row, h.len, h.bel, fun i _ hi => h.pad i hi, fun i hi => by omega⟩
theorem LT.kept {w W W' : World} {n k : Nat} {Ps Qs : List Pr} (h : LT w W n k Ps Qs) (hb : Below W.heap.size W W') : LT w W' n k Ps Qs :=
  ⟨h.row.kept hb, h.len, h.bel.trans (hb.mono h.bel.size), h.pad, fun i hi => (h.cop i hi).kept hb⟩
/-- the whole procedure is stored -/
theorem LT.put {w W : World} {n k : Nat} {Ps Qs : List Pr} (h : LT w W n k Ps Qs) (hk : k < n) (x : Pr) :
    LT w ((((((W.setCell ⟨w.heap.size, k * 6, none⟩ (.string x.name)).setCell ⟨w.heap.size, k * 6 + 1, none⟩ (.int .i64 x.p.args)).setCell ⟨w.heap.size, k * 6 + 2, none⟩ (.int .i64 x.p.reads)).setCell ⟨w.heap.size, k * 6 + 3, none⟩ (.int .i64 x.p.writes)).setCell ⟨w.heap.size, k * 6 + 4, none⟩ (.int .i64 x.p.locals)).setCell ⟨w.heap.size, k * 6 + 5, none⟩ (.slice x.ao x.n x.cap)) n k Ps (Qs.set k x) := by
  have hkl : k < Qs.length := by have := h.len; omega
  have hR := h.row.put hkl x
  have hO : OneB w.heap.size W ((((((W.setCell ⟨w.heap.size, k * 6, none⟩ (.string x.name)).setCell ⟨w.heap.size, k * 6 + 1, none⟩ (.int .i64 x.p.args)).setCell ⟨w.heap.size, k * 6 + 2, none⟩ (.int .i64 x.p.reads)).setCell ⟨w.heap.size, k * 6 + 3, none⟩ (.int .i64 x.p.writes)).setCell ⟨w.heap.size, k * 6 + 4, none⟩ (.int .i64 x.p.locals)).setCell ⟨w.heap.size, k * 6 + 5, none⟩ (.slice x.ao x.n x.cap)) := ((((((OneB.refl _ W).set _ _).set _ _).set _ _).set _ _).set _ _).set _ _
  refine ⟨hR, by rw [List.length_set]; exact h.len, h.bel.trans hO.below, fun i hi h3 => ?_, fun i hi => ?_⟩
  · rw [pd_set_ne _ _ _ _ (by omega)]; exact h.pad i hi h3
  · rw [pd_set_ne _ _ _ _ (by omega)]; exact (h.cop i hi).one hO
/-- its code was nil -/
theorem LT.nil {w W : World} {n k : Nat} {Ps Qs : List Pr} (h : LT w W n k Ps Qs) (hx : (pd Ps k).ao = none) (hq : pd Qs k = pd Ps k) : LT w W n (k + 1) Ps Qs := by
  refine ⟨h.row, h.len, h.bel, h.pad, fun i hi => ?_⟩
  by_cases e : i = k
  · subst e; exact .inl ⟨hx, hq⟩
  · exact h.cop i (by omega)
theorem prcs_code : ∀ (Qs : List Pr) (i : Nat) (ao : Option Addr) (n c : Nat), i < Qs.length → (prcs Qs).set (i * 6 + 5) (.slice ao n c) = prcs (Qs.set i { pd Qs i with ao := ao, n := n, cap := c })
  | [], i, _, _, _, h => by simp at h
  | x :: Qs, 0, _, _, _, _ => by
    simp only [List.set_cons_zero, prcs, prc, List.cons_append, List.nil_append, Nat.zero_mul, Nat.zero_add, List.set_cons_succ]
    rfl
  | x :: Qs, i + 1, ao, n, c, h => by
    have ih := prcs_code Qs i ao n c (by simp at h; omega)
    rw [show (i + 1) * 6 + 5 = (i * 6 + 5) + 1 + 1 + 1 + 1 + 1 + 1 by omega]
    have e : pd (x :: Qs) (i + 1) = pd Qs i := by simp [pd]
    simp only [List.set_cons_succ, prcs, prc, List.cons_append, List.nil_append, ih, e]
/-- its code lies in a row of its own -/
theorem LT.code {w W : World} {n k : Nat} {Ps Qs : List Pr} (h : LT w W n k Ps Qs) (hk : k < n) (x : Pr) (hx : pd Ps k = x) (hq : pd Qs k = x) (G : Nat) (M : List K) (hG : RowK W G M) (hp : Pads x.n x.L M) (h1 : w.heap.size < G) :
    ∃ Qs', LT w (W.setCell ⟨w.heap.size, k * 6 + 5, none⟩ (.slice (some ⟨G, 0, none⟩) x.n (x.n + 3))) n (k + 1) Ps Qs' := by
  have hkl : k < Qs.length := by have := h.len; omega
  have hO := (OneB.refl w.heap.size W).set (k * 6 + 5) (.slice (some ⟨G, 0, none⟩) x.n (x.n + 3))
  have hc := prcs_code Qs k (some ⟨G, 0, none⟩) x.n (x.n + 3) hkl
  rw [hq] at hc
  have hR : RowP (W.setCell ⟨w.heap.size, k * 6 + 5, none⟩ (.slice (some ⟨G, 0, none⟩) x.n (x.n + 3))) w.heap.size (Qs.set k (cp3 x G)) := by
    have h1 := heap_setCell_same W w.heap.size (k * 6 + 5) _ _ (.slice (some ⟨G, 0, none⟩) x.n (x.n + 3)) h.row
    unfold RowP
    rw [h1, show prcs (Qs.set k (cp3 x G)) = _ from hc.symm]
    simp
  refine ⟨_, hR, by rw [List.length_set]; exact h.len, h.bel.trans hO.below, fun i hi h3 => ?_, fun i hi => ?_⟩
  · rw [pd_set_ne _ _ _ _ (by omega)]; exact h.pad i hi h3
  · by_cases e : i = k
    · subst e
      rw [pd_set_eq _ _ _ hkl, hx]
      exact .inr ⟨G, M, rfl, (hO.block G (by omega)).trans hG, hp, h1⟩
    · rw [pd_set_ne _ _ _ _ e]; exact (h.cop i (by omega)).one hO
/-- a row of code while it is written full -/
structure KP (W : World) (G c k : Nat) (M : List K) : Prop where
  row : RowK W G M
  len : M.length = c
  pad : ∀ j, j < k → cd M j = (-7, (j : Int))
theorem cks_put : ∀ (M : List K) (i : Nat) (x y : Int), i < M.length → ((cks M).set (i * 2) (.int .i64 x)).set (i * 2 + 1) (.int .i64 y) = cks (M.set i (x, y))
  | [], i, x, y, h => by simp at h
  | k :: M, 0, x, y, _ => by simp [cks]
  | k :: M, i + 1, x, y, h => by
    have ih := cks_put M i x y (by simpa using h)
    rw [show (i + 1) * 2 = i * 2 + 1 + 1 by omega, show i * 2 + 1 + 1 + 1 = (i * 2 + 1) + 1 + 1 by omega]
    simp only [cks, List.set_cons_succ, ih]
theorem cd_set_ne (M : List K) (k i : Nat) (y : K) (h : i ≠ k) : cd (M.set k y) i = cd M i := by
  simp only [cd, List.getD_eq_getElem?_getD, List.getElem?_set]; rw [if_neg (fun e => h e.symm)]
theorem cd_set_eq (M : List K) (k : Nat) (y : K) (h : k < M.length) : cd (M.set k y) k = y := by
  simp [cd, List.getD_eq_getElem?_getD, h]
theorem KP.put {W : World} {G c k : Nat} {M : List K} (h : KP W G c k M) (hk : k < c) :
    KP ((W.setCell ⟨G, k * 2, none⟩ (.int .i64 (-7))).setCell ⟨G, k * 2 + 1, none⟩ (.int .i64 (k : Int))) G c (k + 1) (M.set k (-7, (k : Int))) := by
  have hkl : k < M.length := by have := h.len; omega
  have h1 := heap_setCell_same W G (k * 2) _ _ (.int .i64 (-7)) h.row
  have h2 := heap_setCell_same _ G (k * 2 + 1) _ _ (.int .i64 (k : Int)) h1
  refine ⟨?_, by rw [List.length_set]; exact h.len, fun j hj => ?_⟩
  · unfold RowK
    rw [h2, ← cks_put M k (-7) (k : Int) hkl]
    simp
  · by_cases e : j = k
    · subst e; rw [cd_set_eq _ _ _ hkl]
    · rw [cd_set_ne _ _ _ _ e]; exact h.pad j (by omega)
theorem KP.pads {W : World} {G n : Nat} {L M : List K} (h : KP W G (n + 3) (n + 3) M) (hn : n = L.length) : Pads n L (L ++ M.drop n) := by
  subst hn
  refine ⟨by simp [h.len], by simp, fun j h1 h2 => ?_⟩
  rw [← h.pad j h2]
  simp only [cd, List.getD_eq_getElem?_getD]
  rw [List.getElem?_append_right h1, List.getElem?_drop, show L.length + (j - L.length) = j by omega]
end Go.Proofs.YtkjmeknaedapjaaDoor
