import Derived.Test.YtcaibgbhebldmaaGreatJ32
import Derived.Deep.RegionHeld
/-
  slices.Clone.
-/
namespace Go.Proofs.YtcaibgbhebldmaaGreat
open Go.RowKit Go.Sort

theorem wpList_append_gen {w : World} {ops : Array Oper} {rest : List Oper} {o : Oper} {a : Act} {Q : Exit → Act → World → Prop} (hgd : o.guard = none) (s x : Operand) (t e : TypeId) (i0 : TypeInfo) (z : Value) (size bytes : Nat) (ht : Tryz.prog.underlying t = some (.slice e)) (hi : Tryz.prog.info? e = some i0) (hz0 : i0.zero = some z) (hz1 : i0.size = size) (hz2 : i0.bytes = bytes) (hzs : z.cells.size = size) (hsz : 0 < size)
    (ho : o.op = .call { callee := .builtin .append, args := #[s, x], argTypes := #[t, t] }) (base : Nat) (v : Value) (n : Nat) (xs : List Value) (hs : a.eval s = v) (hown : w.ownsRow base e size v n xs)
    (ad : Addr) (m c : Nat) (ys : List Value) (hx : a.eval x = .slice (some ad) m c) (hl : ys.length = m * size) (hc : ∀ j u, ys[j]? = some u → w.cell? (ad.add j) = some u) (h1 : ∀ u ∈ ys, u.oneCell' = true) (hm : n + m ≤ maxLen) (hb : (n + m) * bytes ≤ 140737488355328) (hbase : base ≤ w.heap.size)
    (h : ∀ v' w', w'.ownsRow base e size v' (n + m) (xs ++ ys) → w.grownBy w' v.ownBlock → wpList Tryz.prog ops Q rest (a.put o.dst v') w') : wpList Tryz.prog ops Q (o :: rest) a w := by
  obtain ⟨v', w', hr, h2, h3, _, h5⟩ := run_append_own_at (P := Tryz.prog) w base t o.type e i0 z size bytes ht hi hz0 hz1 hz2 hzs hsz v n xs hown ad m c ys hl hc h1 hm hb hbase
  refine wpList_plain hgd fun K hK' => ?_
  unfold Oper.wp
  simp [execOp, ho, resolve, invoke, builtin, hs, hx, hr, Result.andThen]
  exact hK' _ _ (h v' w' h2 h3)
/-- what a slice's cells hold -/
def CellsAt (w : World) (ao : Option Addr) (xs : List Value) : Prop := xs = [] ∨ ∃ b off, ao = some ⟨b, off, none⟩ ∧ ∀ j u, xs[j]? = some u → w.cell? ⟨b, off + j, none⟩ = some u
theorem CellsAt.below {w w1 : World} {ao : Option Addr} {xs : List Value} (h : CellsAt w ao xs) (hb : Go.RowKit.Below w.heap.size w w1) : CellsAt w1 ao xs := by
  rcases h with h | ⟨b, off, rfl, hc⟩
  · exact .inl h
  · refine .inr ⟨b, off, rfl, fun j u hu => ?_⟩
    have := hc j u hu
    exact (hb.cell (p := ⟨b, off + j, none⟩) (cell_lt this)).trans this
theorem own_read {w : World} {base e size n cap : Nat} {ao : Option Addr} {xs : List Value} (h : w.ownsRow base e size (.slice ao n cap) n xs) : CellsAt w ao xs := by
  have h0 := h
  obtain ⟨hl, ⟨h1, h2⟩ | ⟨g, cap', cur, e1, _⟩⟩ := h
  · subst h2; exact .inl (List.eq_nil_of_length_eq_zero (by rw [hl, Nat.zero_mul]))
  · cases e1
    refine .inr ⟨g, 0, rfl, fun j u hu => ?_⟩
    have hj : j < n * size := by rw [← hl]; exact (List.getElem?_eq_some_iff.1 hu).1
    rw [Nat.zero_add, World.ownsRow.cellAt h0 j hj, hu]
theorem KeysAt.cells {w : World} {ao : Option Addr} {L : List K} (h : KeysAt w ao L) : CellsAt w ao (cks L) := by
  rcases h with rfl | h
  · exact .inl rfl
  · exact .inr h
theorem info_instr : (Tryz.prog.info? 102).map (fun i => (i.zero, i.size, i.bytes)) = some (some (.agg #[.int .i64 0, .int .i64 0]), 2, 16) := by kernel_rfl
theorem clone_instr (w : World) (ao : Option Addr) (n cap : Nat) (xs : List Value) (hl : xs.length = n * 2) (h : CellsAt w ao xs) (hnil : ao = none → n = 0 ∧ cap = 0) (h1 : ∀ u ∈ xs, u.oneCell' = true) (hm : n * 16 ≤ 140737488355328) :
    Calls Tryz.prog 58 #[.slice ao n cap] w fun e w' => ∃ v, e = .returned v ∧ w'.ownsRow w.heap.size 102 2 v n xs ∧ Go.RowKit.Below w.heap.size w w' := by
  have q22 : ∀ (w : World) (a : Option Addr) (n c n' c' : Nat), (binOp .eql 48 (.slice a n c) (.slice none n' c')).run Tryz.prog w = .ok (.bool a.isNone) w := fun w a n c n' c' => Lib.run_eql_slice_nil w _ _ a n c n' c' Tryz.underlying48
  cases ao with
  | none =>
    obtain ⟨rfl, rfl⟩ := hnil rfl
    have h0 : xs = [] := List.eq_nil_of_length_eq_zero (by rw [hl, Nat.zero_mul])
    subst h0
    clear h hl hnil h1
    go_enter Tryz.func58, Tryz.ntmps58
    go_wp2
    go_ret
    exact ⟨_, rfl, World.ownsRow_nil _ _ _ _, Below.refl _ _⟩
  | some ad =>
    obtain ⟨i0, hi, hz0, hz1, hz2⟩ := info_parts info_instr
    have HX : Hid (∀ j u, xs[j]? = some u → (w.alloc (.cells #[] 102)).cell? (ad.add j) = some u) := fun j u hu => by
      rcases h with h0 | ⟨b, off, e, hc⟩
      · subst h0; simp at hu
      · cases e; rw [addr_add]; exact Lib.cell?_alloc_some _ (hc j u hu)
    have HL : Hid (xs.length = n * 2 ∧ (∀ u ∈ xs, u.oneCell' = true) ∧ n * 16 ≤ 140737488355328) := ⟨hl, h1, hm⟩
    have HO : Hid ((w.alloc (.cells #[] 102)).ownsRow w.heap.size 102 2 (.slice (some ⟨w.heap.size, 0, none⟩) 0 0) 0 []) := World.ownsRow_made w #[] 0 (Nat.le_refl _) (Nat.zero_le _) (by simp)
    clear h hl hnil h1 hm
    go_enter Tryz.func58, Tryz.ntmps58
    go_wp2_with (at_builtin; refine wpList_append_gen rfl _ _ 48 102 i0 (.agg #[.int .i64 0, .int .i64 0]) 2 16 Tryz.underlying48 hi hz0 hz1 hz2 rfl (by decide) rfl w.heap.size (.slice (some ⟨w.heap.size, 0, none⟩) 0 0) 0 [] rfl HO.out ad n cap xs rfl HL.out.1 HX.out HL.out.2.1 (by have := HL.out.2.2; unfold maxLen; omega) (by have := HL.out.2.2; omega) (by simp) ?_; intro v' w1 hown hgrow)
    go_ret
    exact ⟨v', rfl, by simpa using hown, ((Below.refl _ w).alloc (Nat.le_refl _) _).grown hgrow (by simp) (by intro k hk; simp [Value.ownBlock] at hk; omega)⟩
theorem info_i64 : (Tryz.prog.info? 2).map (fun i => (i.zero, i.size, i.bytes)) = some (some (.int .i64 0), 1, 8) := by kernel_rfl
theorem clone_i64 (w : World) (ao : Option Addr) (n cap : Nat) (xs : List Value) (hl : xs.length = n * 1) (h : CellsAt w ao xs) (hnil : ao = none → n = 0 ∧ cap = 0) (h1 : ∀ u ∈ xs, u.oneCell' = true) (hm : n * 8 ≤ 140737488355328) :
    Calls Tryz.prog 59 #[.slice ao n cap] w fun e w' => ∃ v, e = .returned v ∧ w'.ownsRow w.heap.size 2 1 v n xs ∧ Go.RowKit.Below w.heap.size w w' := by
  have q22 : ∀ (w : World) (a : Option Addr) (n c n' c' : Nat), (binOp .eql 43 (.slice a n c) (.slice none n' c')).run Tryz.prog w = .ok (.bool a.isNone) w := fun w a n c n' c' => Lib.run_eql_slice_nil w _ _ a n c n' c' Tryz.underlying43
  cases ao with
  | none =>
    obtain ⟨rfl, rfl⟩ := hnil rfl
    have h0 : xs = [] := List.eq_nil_of_length_eq_zero (by rw [hl, Nat.zero_mul])
    subst h0
    clear h hl hnil h1
    go_enter Tryz.func59, Tryz.ntmps59
    go_wp2
    go_ret
    exact ⟨_, rfl, World.ownsRow_nil _ _ _ _, Below.refl _ _⟩
  | some ad =>
    obtain ⟨i0, hi, hz0, hz1, hz2⟩ := info_parts info_i64
    have HX : Hid (∀ j u, xs[j]? = some u → (w.alloc (.cells #[] 2)).cell? (ad.add j) = some u) := fun j u hu => by
      rcases h with h0 | ⟨b, off, e, hc⟩
      · subst h0; simp at hu
      · cases e; rw [addr_add]; exact Lib.cell?_alloc_some _ (hc j u hu)
    have HL : Hid (xs.length = n * 1 ∧ (∀ u ∈ xs, u.oneCell' = true) ∧ n * 8 ≤ 140737488355328) := ⟨hl, h1, hm⟩
    have HO : Hid ((w.alloc (.cells #[] 2)).ownsRow w.heap.size 2 1 (.slice (some ⟨w.heap.size, 0, none⟩) 0 0) 0 []) := World.ownsRow_made w #[] 0 (Nat.le_refl _) (Nat.zero_le _) (by simp)
    clear h hl hnil h1 hm
    go_enter Tryz.func59, Tryz.ntmps59
    go_wp2_with (at_builtin; refine wpList_append_gen rfl _ _ 43 2 i0 (.int .i64 0) 1 8 Tryz.underlying43 hi hz0 hz1 hz2 rfl (by decide) rfl w.heap.size (.slice (some ⟨w.heap.size, 0, none⟩) 0 0) 0 [] rfl HO.out ad n cap xs rfl HL.out.1 HX.out HL.out.2.1 (by have := HL.out.2.2; unfold maxLen; omega) (by have := HL.out.2.2; omega) (by simp) ?_; intro v' w1 hown hgrow)
    go_ret
    exact ⟨v', rfl, by simpa using hown, ((Below.refl _ w).alloc (Nat.le_refl _) _).grown hgrow (by simp) (by intro k hk; simp [Value.ownBlock] at hk; omega)⟩
theorem info_cell : (Tryz.prog.info? 25).map (fun i => (i.zero, i.size, i.bytes)) = some (some (.agg #[.bool false, .int .i64 0]), 2, 16) := by kernel_rfl
theorem clone_cell (w : World) (ao : Option Addr) (n cap : Nat) (xs : List Value) (hl : xs.length = n * 2) (h : CellsAt w ao xs) (hnil : ao = none → n = 0 ∧ cap = 0) (h1 : ∀ u ∈ xs, u.oneCell' = true) (hm : n * 16 ≤ 140737488355328) :
    Calls Tryz.prog 60 #[.slice ao n cap] w fun e w' => ∃ v, e = .returned v ∧ w'.ownsRow w.heap.size 25 2 v n xs ∧ Go.RowKit.Below w.heap.size w w' := by
  have q22 : ∀ (w : World) (a : Option Addr) (n c n' c' : Nat), (binOp .eql 53 (.slice a n c) (.slice none n' c')).run Tryz.prog w = .ok (.bool a.isNone) w := fun w a n c n' c' => Lib.run_eql_slice_nil w _ _ a n c n' c' Tryz.underlying53
  cases ao with
  | none =>
    obtain ⟨rfl, rfl⟩ := hnil rfl
    have h0 : xs = [] := List.eq_nil_of_length_eq_zero (by rw [hl, Nat.zero_mul])
    subst h0
    clear h hl hnil h1
    go_enter Tryz.func60, Tryz.ntmps60
    go_wp2
    go_ret
    exact ⟨_, rfl, World.ownsRow_nil _ _ _ _, Below.refl _ _⟩
  | some ad =>
    obtain ⟨i0, hi, hz0, hz1, hz2⟩ := info_parts info_cell
    have HX : Hid (∀ j u, xs[j]? = some u → (w.alloc (.cells #[] 25)).cell? (ad.add j) = some u) := fun j u hu => by
      rcases h with h0 | ⟨b, off, e, hc⟩
      · subst h0; simp at hu
      · cases e; rw [addr_add]; exact Lib.cell?_alloc_some _ (hc j u hu)
    have HL : Hid (xs.length = n * 2 ∧ (∀ u ∈ xs, u.oneCell' = true) ∧ n * 16 ≤ 140737488355328) := ⟨hl, h1, hm⟩
    have HO : Hid ((w.alloc (.cells #[] 25)).ownsRow w.heap.size 25 2 (.slice (some ⟨w.heap.size, 0, none⟩) 0 0) 0 []) := World.ownsRow_made w #[] 0 (Nat.le_refl _) (Nat.zero_le _) (by simp)
    clear h hl hnil h1 hm
    go_enter Tryz.func60, Tryz.ntmps60
    go_wp2_with (at_builtin; refine wpList_append_gen rfl _ _ 53 25 i0 (.agg #[.bool false, .int .i64 0]) 2 16 Tryz.underlying53 hi hz0 hz1 hz2 rfl (by decide) rfl w.heap.size (.slice (some ⟨w.heap.size, 0, none⟩) 0 0) 0 [] rfl HO.out ad n cap xs rfl HL.out.1 HX.out HL.out.2.1 (by have := HL.out.2.2; unfold maxLen; omega) (by have := HL.out.2.2; omega) (by simp) ?_; intro v' w1 hown hgrow)
    go_ret
    exact ⟨v', rfl, by simpa using hown, ((Below.refl _ w).alloc (Nat.le_refl _) _).grown hgrow (by simp) (by intro k hk; simp [Value.ownBlock] at hk; omega)⟩
theorem info_put : (Tryz.prog.info? 136).map (fun i => (i.zero, i.size, i.bytes)) = some (some (.agg #[.int .i64 0, .int .i64 0]), 2, 16) := by kernel_rfl
theorem clone_put (w : World) (ao : Option Addr) (n cap : Nat) (xs : List Value) (hl : xs.length = n * 2) (h : CellsAt w ao xs) (hnil : ao = none → n = 0 ∧ cap = 0) (h1 : ∀ u ∈ xs, u.oneCell' = true) (hm : n * 16 ≤ 140737488355328) :
    Calls Tryz.prog 65 #[.slice ao n cap] w fun e w' => ∃ v, e = .returned v ∧ w'.ownsRow w.heap.size 136 2 v n xs ∧ Go.RowKit.Below w.heap.size w w' := by
  have q22 : ∀ (w : World) (a : Option Addr) (n c n' c' : Nat), (binOp .eql 54 (.slice a n c) (.slice none n' c')).run Tryz.prog w = .ok (.bool a.isNone) w := fun w a n c n' c' => Lib.run_eql_slice_nil w _ _ a n c n' c' Tryz.underlying54
  cases ao with
  | none =>
    obtain ⟨rfl, rfl⟩ := hnil rfl
    have h0 : xs = [] := List.eq_nil_of_length_eq_zero (by rw [hl, Nat.zero_mul])
    subst h0
    clear h hl hnil h1
    go_enter Tryz.func65, Tryz.ntmps65
    go_wp2
    go_ret
    exact ⟨_, rfl, World.ownsRow_nil _ _ _ _, Below.refl _ _⟩
  | some ad =>
    obtain ⟨i0, hi, hz0, hz1, hz2⟩ := info_parts info_put
    have HX : Hid (∀ j u, xs[j]? = some u → (w.alloc (.cells #[] 136)).cell? (ad.add j) = some u) := fun j u hu => by
      rcases h with h0 | ⟨b, off, e, hc⟩
      · subst h0; simp at hu
      · cases e; rw [addr_add]; exact Lib.cell?_alloc_some _ (hc j u hu)
    have HL : Hid (xs.length = n * 2 ∧ (∀ u ∈ xs, u.oneCell' = true) ∧ n * 16 ≤ 140737488355328) := ⟨hl, h1, hm⟩
    have HO : Hid ((w.alloc (.cells #[] 136)).ownsRow w.heap.size 136 2 (.slice (some ⟨w.heap.size, 0, none⟩) 0 0) 0 []) := World.ownsRow_made w #[] 0 (Nat.le_refl _) (Nat.zero_le _) (by simp)
    clear h hl hnil h1 hm
    go_enter Tryz.func65, Tryz.ntmps65
    go_wp2_with (at_builtin; refine wpList_append_gen rfl _ _ 54 136 i0 (.agg #[.int .i64 0, .int .i64 0]) 2 16 Tryz.underlying54 hi hz0 hz1 hz2 rfl (by decide) rfl w.heap.size (.slice (some ⟨w.heap.size, 0, none⟩) 0 0) 0 [] rfl HO.out ad n cap xs rfl HL.out.1 HX.out HL.out.2.1 (by have := HL.out.2.2; unfold maxLen; omega) (by have := HL.out.2.2; omega) (by simp) ?_; intro v' w1 hown hgrow)
    go_ret
    exact ⟨v', rfl, by simpa using hown, ((Below.refl _ w).alloc (Nat.le_refl _) _).grown hgrow (by simp) (by intro k hk; simp [Value.ownBlock] at hk; omega)⟩
end Go.Proofs.YtcaibgbhebldmaaGreat
/-
  THE WALK OF pair.
-/
namespace Go.Proofs.YtcaibgbhebldmaaGreat
open Go.RowKit Go.Sort

abbrev PairOK (op : Int) : Prop := ∀ (w : World) (F : Nat → Prop) (B : Nat) (Z : MZ) (L : List K) (A : List Int) (R : List C) (m : M), MSt w F B Z L A R m → 2 ≤ m.st.length → m.st.length ≤ 1000 →
    Calls Tryz.prog 81 #[pm B, .int .i64 op] w fun e w' => e = .returned (.int .i64 (pairM op m).2) ∧ MSt w' F B Z L A R (pairM op m).1 ∧ Fr F w w'
set_option maxRecDepth 100000 in
theorem pair10 : PairOK 10 := by
  intro w F B Z L A R m hm h2 hl
  have hi : ∀ w, (Go.Instr.index 163 (.agg fnCells) (.int .i64 10)).run Tryz.prog w = .ok (.func (.func 99) #[] #[]) w := fun w => by kernel_rfl
  have HP := pop_any w F B Z L A R m hm (by omega) hl
  have HL : Hid (0 < m.pop.st.length ∧ m.pop.st.length ≤ 1000 ∧ m.pop.pop.st.length ≤ 1000) := by simp only [M.pop, List.length_tail]; exact ⟨by omega, by omega, by omega⟩
  clear hm h2 hl
  go_enter Tryz.func81, Tryz.ntmps81
  go_wp2_with fail
  refine HP.mono ?_
  rintro e w1 ⟨rfl, hm1, hb1⟩
  have HM1 : Hid (MSt w1 F B Z L A R m.pop) := hm1
  have HB1 : Hid (Fr F w w1) := hb1
  clear hm1 hb1 HP
  go_wp2_with fail
  refine (pop_any w1 F B Z L A R m.pop HM1.out HL.out.1 HL.out.2.1).mono ?_
  rintro e w2 ⟨rfl, hm2, hb2⟩
  have HM2 : Hid (MSt w2 F B Z L A R m.pop.pop) := hm2
  have HB2 : Hid (Fr F w w2) := HB1.out.trans hb2
  clear hm2 hb2 HM1 HB1
  go_wp2_with fail
  refine (pairs_any w2).mono ?_
  rintro e w3 ⟨rfl, hb3⟩
  have HM3 : Hid (MSt w3 F B Z L A R m.pop.pop) := (HM2.out.kept hb3).1
  have HB3 : Hid (Fr F w w3) := HB2.out.trans (HM2.out.kept hb3).2
  clear hb3 HM2 HB2
  go_wp2_with (go_at_fn 99; refine (fn10 w3 m.pop.top m.top).mono ?_; rintro e w4 ⟨rfl, rfl⟩; fail)
  refine (fn10 w3 m.pop.top m.top).mono ?_
  rintro e w4 ⟨rfl, rfl⟩
  by_cases h0 : (pairN 10 m.pop.top m.top).2 = 0
  · have HE : Hid (pairM 10 m = (m.pop.pop.push (pairN 10 m.pop.top m.top).1, 0)) := by
      show pairM 10 m = _
      rw [pairM, if_pos h0]
    rw [pairRet, h0]
    generalize (pairN 10 m.pop.top m.top).1 = z at *
    go_wp2_with fail
    refine (push_any w4 F B Z L A R m.pop.pop z HM3.out HL.out.2.2).mono ?_
    rintro e w5 ⟨rfl, hm5, hb5⟩
    have HM5 : Hid (MSt w5 F B Z L A R (m.pop.pop.push z)) := hm5
    have HB5 : Hid (Fr F w w5) := HB3.out.trans hb5
    clear hm5 hb5
    go_wp2
    go_ret
    exact ⟨by rw [HE.out]; rfl, by rw [HE.out]; exact HM5.out, HB5.out⟩
  · have HE : Hid (pairM 10 m = (m.pop.pop, (pairN 10 m.pop.top m.top).2)) := by
      show pairM 10 m = _
      rw [pairM, if_neg h0]
    have h0' : ((pairN 10 m.pop.top m.top).2 != 0) = true := by simpa using h0
    rw [pairRet]
    generalize (pairN 10 m.pop.top m.top).2 = z at *
    generalize (pairN 10 m.pop.top m.top).1 = y at *
    go_wp2
    go_ret
    exact ⟨by rw [HE.out]; rfl, by rw [HE.out]; exact HM3.out, HB3.out⟩
set_option maxRecDepth 100000 in
theorem pair11 : PairOK 11 := by
  intro w F B Z L A R m hm h2 hl
  have hi : ∀ w, (Go.Instr.index 163 (.agg fnCells) (.int .i64 11)).run Tryz.prog w = .ok (.func (.func 100) #[] #[]) w := fun w => by kernel_rfl
  have HP := pop_any w F B Z L A R m hm (by omega) hl
  have HL : Hid (0 < m.pop.st.length ∧ m.pop.st.length ≤ 1000 ∧ m.pop.pop.st.length ≤ 1000) := by simp only [M.pop, List.length_tail]; exact ⟨by omega, by omega, by omega⟩
  clear hm h2 hl
  go_enter Tryz.func81, Tryz.ntmps81
  go_wp2_with fail
  refine HP.mono ?_
  rintro e w1 ⟨rfl, hm1, hb1⟩
  have HM1 : Hid (MSt w1 F B Z L A R m.pop) := hm1
  have HB1 : Hid (Fr F w w1) := hb1
  clear hm1 hb1 HP
  go_wp2_with fail
  refine (pop_any w1 F B Z L A R m.pop HM1.out HL.out.1 HL.out.2.1).mono ?_
  rintro e w2 ⟨rfl, hm2, hb2⟩
  have HM2 : Hid (MSt w2 F B Z L A R m.pop.pop) := hm2
  have HB2 : Hid (Fr F w w2) := HB1.out.trans hb2
  clear hm2 hb2 HM1 HB1
  go_wp2_with fail
  refine (pairs_any w2).mono ?_
  rintro e w3 ⟨rfl, hb3⟩
  have HM3 : Hid (MSt w3 F B Z L A R m.pop.pop) := (HM2.out.kept hb3).1
  have HB3 : Hid (Fr F w w3) := HB2.out.trans (HM2.out.kept hb3).2
  clear hb3 HM2 HB2
  go_wp2_with (go_at_fn 100; refine (fn11 w3 m.pop.top m.top).mono ?_; rintro e w4 ⟨rfl, rfl⟩; fail)
  refine (fn11 w3 m.pop.top m.top).mono ?_
  rintro e w4 ⟨rfl, rfl⟩
  by_cases h0 : (pairN 11 m.pop.top m.top).2 = 0
  · have HE : Hid (pairM 11 m = (m.pop.pop.push (pairN 11 m.pop.top m.top).1, 0)) := by
      show pairM 11 m = _
      rw [pairM, if_pos h0]
    rw [pairRet, h0]
    generalize (pairN 11 m.pop.top m.top).1 = z at *
    go_wp2_with fail
    refine (push_any w4 F B Z L A R m.pop.pop z HM3.out HL.out.2.2).mono ?_
    rintro e w5 ⟨rfl, hm5, hb5⟩
    have HM5 : Hid (MSt w5 F B Z L A R (m.pop.pop.push z)) := hm5
    have HB5 : Hid (Fr F w w5) := HB3.out.trans hb5
    clear hm5 hb5
    go_wp2
    go_ret
    exact ⟨by rw [HE.out]; rfl, by rw [HE.out]; exact HM5.out, HB5.out⟩
  · have HE : Hid (pairM 11 m = (m.pop.pop, (pairN 11 m.pop.top m.top).2)) := by
      show pairM 11 m = _
      rw [pairM, if_neg h0]
    have h0' : ((pairN 11 m.pop.top m.top).2 != 0) = true := by simpa using h0
    rw [pairRet]
    generalize (pairN 11 m.pop.top m.top).2 = z at *
    generalize (pairN 11 m.pop.top m.top).1 = y at *
    go_wp2
    go_ret
    exact ⟨by rw [HE.out]; rfl, by rw [HE.out]; exact HM3.out, HB3.out⟩
set_option maxRecDepth 100000 in
theorem pair12 : PairOK 12 := by
  intro w F B Z L A R m hm h2 hl
  have hi : ∀ w, (Go.Instr.index 163 (.agg fnCells) (.int .i64 12)).run Tryz.prog w = .ok (.func (.func 101) #[] #[]) w := fun w => by kernel_rfl
  have HP := pop_any w F B Z L A R m hm (by omega) hl
  have HL : Hid (0 < m.pop.st.length ∧ m.pop.st.length ≤ 1000 ∧ m.pop.pop.st.length ≤ 1000) := by simp only [M.pop, List.length_tail]; exact ⟨by omega, by omega, by omega⟩
  clear hm h2 hl
  go_enter Tryz.func81, Tryz.ntmps81
  go_wp2_with fail
  refine HP.mono ?_
  rintro e w1 ⟨rfl, hm1, hb1⟩
  have HM1 : Hid (MSt w1 F B Z L A R m.pop) := hm1
  have HB1 : Hid (Fr F w w1) := hb1
  clear hm1 hb1 HP
  go_wp2_with fail
  refine (pop_any w1 F B Z L A R m.pop HM1.out HL.out.1 HL.out.2.1).mono ?_
  rintro e w2 ⟨rfl, hm2, hb2⟩
  have HM2 : Hid (MSt w2 F B Z L A R m.pop.pop) := hm2
  have HB2 : Hid (Fr F w w2) := HB1.out.trans hb2
  clear hm2 hb2 HM1 HB1
  go_wp2_with fail
  refine (pairs_any w2).mono ?_
  rintro e w3 ⟨rfl, hb3⟩
  have HM3 : Hid (MSt w3 F B Z L A R m.pop.pop) := (HM2.out.kept hb3).1
  have HB3 : Hid (Fr F w w3) := HB2.out.trans (HM2.out.kept hb3).2
  clear hb3 HM2 HB2
  go_wp2_with (go_at_fn 101; refine (fn12 w3 m.pop.top m.top).mono ?_; rintro e w4 ⟨rfl, rfl⟩; fail)
  refine (fn12 w3 m.pop.top m.top).mono ?_
  rintro e w4 ⟨rfl, rfl⟩
  by_cases h0 : (pairN 12 m.pop.top m.top).2 = 0
  · have HE : Hid (pairM 12 m = (m.pop.pop.push (pairN 12 m.pop.top m.top).1, 0)) := by
      show pairM 12 m = _
      rw [pairM, if_pos h0]
    rw [pairRet, h0]
    generalize (pairN 12 m.pop.top m.top).1 = z at *
    go_wp2_with fail
    refine (push_any w4 F B Z L A R m.pop.pop z HM3.out HL.out.2.2).mono ?_
    rintro e w5 ⟨rfl, hm5, hb5⟩
    have HM5 : Hid (MSt w5 F B Z L A R (m.pop.pop.push z)) := hm5
    have HB5 : Hid (Fr F w w5) := HB3.out.trans hb5
    clear hm5 hb5
    go_wp2
    go_ret
    exact ⟨by rw [HE.out]; rfl, by rw [HE.out]; exact HM5.out, HB5.out⟩
  · have HE : Hid (pairM 12 m = (m.pop.pop, (pairN 12 m.pop.top m.top).2)) := by
      show pairM 12 m = _
      rw [pairM, if_neg h0]
    have h0' : ((pairN 12 m.pop.top m.top).2 != 0) = true := by simpa using h0
    rw [pairRet]
    generalize (pairN 12 m.pop.top m.top).2 = z at *
    generalize (pairN 12 m.pop.top m.top).1 = y at *
    go_wp2
    go_ret
    exact ⟨by rw [HE.out]; rfl, by rw [HE.out]; exact HM3.out, HB3.out⟩
set_option maxRecDepth 100000 in
theorem pair13 : PairOK 13 := by
  intro w F B Z L A R m hm h2 hl
  have hi : ∀ w, (Go.Instr.index 163 (.agg fnCells) (.int .i64 13)).run Tryz.prog w = .ok (.func (.func 102) #[] #[]) w := fun w => by kernel_rfl
  have HP := pop_any w F B Z L A R m hm (by omega) hl
  have HL : Hid (0 < m.pop.st.length ∧ m.pop.st.length ≤ 1000 ∧ m.pop.pop.st.length ≤ 1000) := by simp only [M.pop, List.length_tail]; exact ⟨by omega, by omega, by omega⟩
  clear hm h2 hl
  go_enter Tryz.func81, Tryz.ntmps81
  go_wp2_with fail
  refine HP.mono ?_
  rintro e w1 ⟨rfl, hm1, hb1⟩
  have HM1 : Hid (MSt w1 F B Z L A R m.pop) := hm1
  have HB1 : Hid (Fr F w w1) := hb1
  clear hm1 hb1 HP
  go_wp2_with fail
  refine (pop_any w1 F B Z L A R m.pop HM1.out HL.out.1 HL.out.2.1).mono ?_
  rintro e w2 ⟨rfl, hm2, hb2⟩
  have HM2 : Hid (MSt w2 F B Z L A R m.pop.pop) := hm2
  have HB2 : Hid (Fr F w w2) := HB1.out.trans hb2
  clear hm2 hb2 HM1 HB1
  go_wp2_with fail
  refine (pairs_any w2).mono ?_
  rintro e w3 ⟨rfl, hb3⟩
  have HM3 : Hid (MSt w3 F B Z L A R m.pop.pop) := (HM2.out.kept hb3).1
  have HB3 : Hid (Fr F w w3) := HB2.out.trans (HM2.out.kept hb3).2
  clear hb3 HM2 HB2
  go_wp2_with (go_at_fn 102; refine (fn13 w3 m.pop.top m.top).mono ?_; rintro e w4 ⟨rfl, rfl⟩; fail)
  refine (fn13 w3 m.pop.top m.top).mono ?_
  rintro e w4 ⟨rfl, rfl⟩
  by_cases h0 : (pairN 13 m.pop.top m.top).2 = 0
  · have HE : Hid (pairM 13 m = (m.pop.pop.push (pairN 13 m.pop.top m.top).1, 0)) := by
      show pairM 13 m = _
      rw [pairM, if_pos h0]
    rw [pairRet, h0]
    generalize (pairN 13 m.pop.top m.top).1 = z at *
    go_wp2_with fail
    refine (push_any w4 F B Z L A R m.pop.pop z HM3.out HL.out.2.2).mono ?_
    rintro e w5 ⟨rfl, hm5, hb5⟩
    have HM5 : Hid (MSt w5 F B Z L A R (m.pop.pop.push z)) := hm5
    have HB5 : Hid (Fr F w w5) := HB3.out.trans hb5
    clear hm5 hb5
    go_wp2
    go_ret
    exact ⟨by rw [HE.out]; rfl, by rw [HE.out]; exact HM5.out, HB5.out⟩
  · have HE : Hid (pairM 13 m = (m.pop.pop, (pairN 13 m.pop.top m.top).2)) := by
      show pairM 13 m = _
      rw [pairM, if_neg h0]
    have h0' : ((pairN 13 m.pop.top m.top).2 != 0) = true := by simpa using h0
    rw [pairRet]
    generalize (pairN 13 m.pop.top m.top).2 = z at *
    generalize (pairN 13 m.pop.top m.top).1 = y at *
    go_wp2
    go_ret
    exact ⟨by rw [HE.out]; rfl, by rw [HE.out]; exact HM3.out, HB3.out⟩
set_option maxRecDepth 100000 in
theorem pair14 : PairOK 14 := by
  intro w F B Z L A R m hm h2 hl
  have hi : ∀ w, (Go.Instr.index 163 (.agg fnCells) (.int .i64 14)).run Tryz.prog w = .ok (.func (.func 103) #[] #[]) w := fun w => by kernel_rfl
  have HP := pop_any w F B Z L A R m hm (by omega) hl
  have HL : Hid (0 < m.pop.st.length ∧ m.pop.st.length ≤ 1000 ∧ m.pop.pop.st.length ≤ 1000) := by simp only [M.pop, List.length_tail]; exact ⟨by omega, by omega, by omega⟩
  clear hm h2 hl
  go_enter Tryz.func81, Tryz.ntmps81
  go_wp2_with fail
  refine HP.mono ?_
  rintro e w1 ⟨rfl, hm1, hb1⟩
  have HM1 : Hid (MSt w1 F B Z L A R m.pop) := hm1
  have HB1 : Hid (Fr F w w1) := hb1
  clear hm1 hb1 HP
  go_wp2_with fail
  refine (pop_any w1 F B Z L A R m.pop HM1.out HL.out.1 HL.out.2.1).mono ?_
  rintro e w2 ⟨rfl, hm2, hb2⟩
  have HM2 : Hid (MSt w2 F B Z L A R m.pop.pop) := hm2
  have HB2 : Hid (Fr F w w2) := HB1.out.trans hb2
  clear hm2 hb2 HM1 HB1
  go_wp2_with fail
  refine (pairs_any w2).mono ?_
  rintro e w3 ⟨rfl, hb3⟩
  have HM3 : Hid (MSt w3 F B Z L A R m.pop.pop) := (HM2.out.kept hb3).1
  have HB3 : Hid (Fr F w w3) := HB2.out.trans (HM2.out.kept hb3).2
  clear hb3 HM2 HB2
  go_wp2_with (go_at_fn 103; refine (fn14 w3 m.pop.top m.top).mono ?_; rintro e w4 ⟨rfl, rfl⟩; fail)
  refine (fn14 w3 m.pop.top m.top).mono ?_
  rintro e w4 ⟨rfl, rfl⟩
  by_cases h0 : (pairN 14 m.pop.top m.top).2 = 0
  · have HE : Hid (pairM 14 m = (m.pop.pop.push (pairN 14 m.pop.top m.top).1, 0)) := by
      show pairM 14 m = _
      rw [pairM, if_pos h0]
    rw [pairRet, h0]
    generalize (pairN 14 m.pop.top m.top).1 = z at *
    go_wp2_with fail
    refine (push_any w4 F B Z L A R m.pop.pop z HM3.out HL.out.2.2).mono ?_
    rintro e w5 ⟨rfl, hm5, hb5⟩
    have HM5 : Hid (MSt w5 F B Z L A R (m.pop.pop.push z)) := hm5
    have HB5 : Hid (Fr F w w5) := HB3.out.trans hb5
    clear hm5 hb5
    go_wp2
    go_ret
    exact ⟨by rw [HE.out]; rfl, by rw [HE.out]; exact HM5.out, HB5.out⟩
  · have HE : Hid (pairM 14 m = (m.pop.pop, (pairN 14 m.pop.top m.top).2)) := by
      show pairM 14 m = _
      rw [pairM, if_neg h0]
    have h0' : ((pairN 14 m.pop.top m.top).2 != 0) = true := by simpa using h0
    rw [pairRet]
    generalize (pairN 14 m.pop.top m.top).2 = z at *
    generalize (pairN 14 m.pop.top m.top).1 = y at *
    go_wp2
    go_ret
    exact ⟨by rw [HE.out]; rfl, by rw [HE.out]; exact HM3.out, HB3.out⟩
set_option maxRecDepth 100000 in
theorem pair15 : PairOK 15 := by
  intro w F B Z L A R m hm h2 hl
  have hi : ∀ w, (Go.Instr.index 163 (.agg fnCells) (.int .i64 15)).run Tryz.prog w = .ok (.func (.func 104) #[] #[]) w := fun w => by kernel_rfl
  have HP := pop_any w F B Z L A R m hm (by omega) hl
  have HL : Hid (0 < m.pop.st.length ∧ m.pop.st.length ≤ 1000 ∧ m.pop.pop.st.length ≤ 1000) := by simp only [M.pop, List.length_tail]; exact ⟨by omega, by omega, by omega⟩
  clear hm h2 hl
  go_enter Tryz.func81, Tryz.ntmps81
  go_wp2_with fail
  refine HP.mono ?_
  rintro e w1 ⟨rfl, hm1, hb1⟩
  have HM1 : Hid (MSt w1 F B Z L A R m.pop) := hm1
  have HB1 : Hid (Fr F w w1) := hb1
  clear hm1 hb1 HP
  go_wp2_with fail
  refine (pop_any w1 F B Z L A R m.pop HM1.out HL.out.1 HL.out.2.1).mono ?_
  rintro e w2 ⟨rfl, hm2, hb2⟩
  have HM2 : Hid (MSt w2 F B Z L A R m.pop.pop) := hm2
  have HB2 : Hid (Fr F w w2) := HB1.out.trans hb2
  clear hm2 hb2 HM1 HB1
  go_wp2_with fail
  refine (pairs_any w2).mono ?_
  rintro e w3 ⟨rfl, hb3⟩
  have HM3 : Hid (MSt w3 F B Z L A R m.pop.pop) := (HM2.out.kept hb3).1
  have HB3 : Hid (Fr F w w3) := HB2.out.trans (HM2.out.kept hb3).2
  clear hb3 HM2 HB2
  go_wp2_with (go_at_fn 104; refine (fn15 w3 m.pop.top m.top).mono ?_; rintro e w4 ⟨rfl, rfl⟩; fail)
  refine (fn15 w3 m.pop.top m.top).mono ?_
  rintro e w4 ⟨rfl, rfl⟩
  by_cases h0 : (pairN 15 m.pop.top m.top).2 = 0
  · have HE : Hid (pairM 15 m = (m.pop.pop.push (pairN 15 m.pop.top m.top).1, 0)) := by
      show pairM 15 m = _
      rw [pairM, if_pos h0]
    rw [pairRet, h0]
    generalize (pairN 15 m.pop.top m.top).1 = z at *
    go_wp2_with fail
    refine (push_any w4 F B Z L A R m.pop.pop z HM3.out HL.out.2.2).mono ?_
    rintro e w5 ⟨rfl, hm5, hb5⟩
    have HM5 : Hid (MSt w5 F B Z L A R (m.pop.pop.push z)) := hm5
    have HB5 : Hid (Fr F w w5) := HB3.out.trans hb5
    clear hm5 hb5
    go_wp2
    go_ret
    exact ⟨by rw [HE.out]; rfl, by rw [HE.out]; exact HM5.out, HB5.out⟩
  · have HE : Hid (pairM 15 m = (m.pop.pop, (pairN 15 m.pop.top m.top).2)) := by
      show pairM 15 m = _
      rw [pairM, if_neg h0]
    have h0' : ((pairN 15 m.pop.top m.top).2 != 0) = true := by simpa using h0
    rw [pairRet]
    generalize (pairN 15 m.pop.top m.top).2 = z at *
    generalize (pairN 15 m.pop.top m.top).1 = y at *
    go_wp2
    go_ret
    exact ⟨by rw [HE.out]; rfl, by rw [HE.out]; exact HM3.out, HB3.out⟩
set_option maxRecDepth 100000 in
theorem pair16 : PairOK 16 := by
  intro w F B Z L A R m hm h2 hl
  have hi : ∀ w, (Go.Instr.index 163 (.agg fnCells) (.int .i64 16)).run Tryz.prog w = .ok (.func (.func 105) #[] #[]) w := fun w => by kernel_rfl
  have HP := pop_any w F B Z L A R m hm (by omega) hl
  have HL : Hid (0 < m.pop.st.length ∧ m.pop.st.length ≤ 1000 ∧ m.pop.pop.st.length ≤ 1000) := by simp only [M.pop, List.length_tail]; exact ⟨by omega, by omega, by omega⟩
  clear hm h2 hl
  go_enter Tryz.func81, Tryz.ntmps81
  go_wp2_with fail
  refine HP.mono ?_
  rintro e w1 ⟨rfl, hm1, hb1⟩
  have HM1 : Hid (MSt w1 F B Z L A R m.pop) := hm1
  have HB1 : Hid (Fr F w w1) := hb1
  clear hm1 hb1 HP
  go_wp2_with fail
  refine (pop_any w1 F B Z L A R m.pop HM1.out HL.out.1 HL.out.2.1).mono ?_
  rintro e w2 ⟨rfl, hm2, hb2⟩
  have HM2 : Hid (MSt w2 F B Z L A R m.pop.pop) := hm2
  have HB2 : Hid (Fr F w w2) := HB1.out.trans hb2
  clear hm2 hb2 HM1 HB1
  go_wp2_with fail
  refine (pairs_any w2).mono ?_
  rintro e w3 ⟨rfl, hb3⟩
  have HM3 : Hid (MSt w3 F B Z L A R m.pop.pop) := (HM2.out.kept hb3).1
  have HB3 : Hid (Fr F w w3) := HB2.out.trans (HM2.out.kept hb3).2
  clear hb3 HM2 HB2
  go_wp2_with (go_at_fn 105; refine (fn16 w3 m.pop.top m.top).mono ?_; rintro e w4 ⟨rfl, rfl⟩; fail)
  refine (fn16 w3 m.pop.top m.top).mono ?_
  rintro e w4 ⟨rfl, rfl⟩
  by_cases h0 : (pairN 16 m.pop.top m.top).2 = 0
  · have HE : Hid (pairM 16 m = (m.pop.pop.push (pairN 16 m.pop.top m.top).1, 0)) := by
      show pairM 16 m = _
      rw [pairM, if_pos h0]
    rw [pairRet, h0]
    generalize (pairN 16 m.pop.top m.top).1 = z at *
    go_wp2_with fail
    refine (push_any w4 F B Z L A R m.pop.pop z HM3.out HL.out.2.2).mono ?_
    rintro e w5 ⟨rfl, hm5, hb5⟩
    have HM5 : Hid (MSt w5 F B Z L A R (m.pop.pop.push z)) := hm5
    have HB5 : Hid (Fr F w w5) := HB3.out.trans hb5
    clear hm5 hb5
    go_wp2
    go_ret
    exact ⟨by rw [HE.out]; rfl, by rw [HE.out]; exact HM5.out, HB5.out⟩
  · have HE : Hid (pairM 16 m = (m.pop.pop, (pairN 16 m.pop.top m.top).2)) := by
      show pairM 16 m = _
      rw [pairM, if_neg h0]
    have h0' : ((pairN 16 m.pop.top m.top).2 != 0) = true := by simpa using h0
    rw [pairRet]
    generalize (pairN 16 m.pop.top m.top).2 = z at *
    generalize (pairN 16 m.pop.top m.top).1 = y at *
    go_wp2
    go_ret
    exact ⟨by rw [HE.out]; rfl, by rw [HE.out]; exact HM3.out, HB3.out⟩
set_option maxRecDepth 100000 in
theorem pair17 : PairOK 17 := by
  intro w F B Z L A R m hm h2 hl
  have hi : ∀ w, (Go.Instr.index 163 (.agg fnCells) (.int .i64 17)).run Tryz.prog w = .ok (.func (.func 106) #[] #[]) w := fun w => by kernel_rfl
  have HP := pop_any w F B Z L A R m hm (by omega) hl
  have HL : Hid (0 < m.pop.st.length ∧ m.pop.st.length ≤ 1000 ∧ m.pop.pop.st.length ≤ 1000) := by simp only [M.pop, List.length_tail]; exact ⟨by omega, by omega, by omega⟩
  clear hm h2 hl
  go_enter Tryz.func81, Tryz.ntmps81
  go_wp2_with fail
  refine HP.mono ?_
  rintro e w1 ⟨rfl, hm1, hb1⟩
  have HM1 : Hid (MSt w1 F B Z L A R m.pop) := hm1
  have HB1 : Hid (Fr F w w1) := hb1
  clear hm1 hb1 HP
  go_wp2_with fail
  refine (pop_any w1 F B Z L A R m.pop HM1.out HL.out.1 HL.out.2.1).mono ?_
  rintro e w2 ⟨rfl, hm2, hb2⟩
  have HM2 : Hid (MSt w2 F B Z L A R m.pop.pop) := hm2
  have HB2 : Hid (Fr F w w2) := HB1.out.trans hb2
  clear hm2 hb2 HM1 HB1
  go_wp2_with fail
  refine (pairs_any w2).mono ?_
  rintro e w3 ⟨rfl, hb3⟩
  have HM3 : Hid (MSt w3 F B Z L A R m.pop.pop) := (HM2.out.kept hb3).1
  have HB3 : Hid (Fr F w w3) := HB2.out.trans (HM2.out.kept hb3).2
  clear hb3 HM2 HB2
  go_wp2_with (go_at_fn 106; refine (fn17 w3 m.pop.top m.top).mono ?_; rintro e w4 ⟨rfl, rfl⟩; fail)
  refine (fn17 w3 m.pop.top m.top).mono ?_
  rintro e w4 ⟨rfl, rfl⟩
  by_cases h0 : (pairN 17 m.pop.top m.top).2 = 0
  · have HE : Hid (pairM 17 m = (m.pop.pop.push (pairN 17 m.pop.top m.top).1, 0)) := by
      show pairM 17 m = _
      rw [pairM, if_pos h0]
    rw [pairRet, h0]
    generalize (pairN 17 m.pop.top m.top).1 = z at *
    go_wp2_with fail
    refine (push_any w4 F B Z L A R m.pop.pop z HM3.out HL.out.2.2).mono ?_
    rintro e w5 ⟨rfl, hm5, hb5⟩
    have HM5 : Hid (MSt w5 F B Z L A R (m.pop.pop.push z)) := hm5
    have HB5 : Hid (Fr F w w5) := HB3.out.trans hb5
    clear hm5 hb5
    go_wp2
    go_ret
    exact ⟨by rw [HE.out]; rfl, by rw [HE.out]; exact HM5.out, HB5.out⟩
  · have HE : Hid (pairM 17 m = (m.pop.pop, (pairN 17 m.pop.top m.top).2)) := by
      show pairM 17 m = _
      rw [pairM, if_neg h0]
    have h0' : ((pairN 17 m.pop.top m.top).2 != 0) = true := by simpa using h0
    rw [pairRet]
    generalize (pairN 17 m.pop.top m.top).2 = z at *
    generalize (pairN 17 m.pop.top m.top).1 = y at *
    go_wp2
    go_ret
    exact ⟨by rw [HE.out]; rfl, by rw [HE.out]; exact HM3.out, HB3.out⟩
set_option maxRecDepth 100000 in
theorem pair18 : PairOK 18 := by
  intro w F B Z L A R m hm h2 hl
  have hi : ∀ w, (Go.Instr.index 163 (.agg fnCells) (.int .i64 18)).run Tryz.prog w = .ok (.func (.func 107) #[] #[]) w := fun w => by kernel_rfl
  have HP := pop_any w F B Z L A R m hm (by omega) hl
  have HL : Hid (0 < m.pop.st.length ∧ m.pop.st.length ≤ 1000 ∧ m.pop.pop.st.length ≤ 1000) := by simp only [M.pop, List.length_tail]; exact ⟨by omega, by omega, by omega⟩
  clear hm h2 hl
  go_enter Tryz.func81, Tryz.ntmps81
  go_wp2_with fail
  refine HP.mono ?_
  rintro e w1 ⟨rfl, hm1, hb1⟩
  have HM1 : Hid (MSt w1 F B Z L A R m.pop) := hm1
  have HB1 : Hid (Fr F w w1) := hb1
  clear hm1 hb1 HP
  go_wp2_with fail
  refine (pop_any w1 F B Z L A R m.pop HM1.out HL.out.1 HL.out.2.1).mono ?_
  rintro e w2 ⟨rfl, hm2, hb2⟩
  have HM2 : Hid (MSt w2 F B Z L A R m.pop.pop) := hm2
  have HB2 : Hid (Fr F w w2) := HB1.out.trans hb2
  clear hm2 hb2 HM1 HB1
  go_wp2_with fail
  refine (pairs_any w2).mono ?_
  rintro e w3 ⟨rfl, hb3⟩
  have HM3 : Hid (MSt w3 F B Z L A R m.pop.pop) := (HM2.out.kept hb3).1
  have HB3 : Hid (Fr F w w3) := HB2.out.trans (HM2.out.kept hb3).2
  clear hb3 HM2 HB2
  go_wp2_with (go_at_fn 107; refine (fn18 w3 m.pop.top m.top).mono ?_; rintro e w4 ⟨rfl, rfl⟩; fail)
  refine (fn18 w3 m.pop.top m.top).mono ?_
  rintro e w4 ⟨rfl, rfl⟩
  by_cases h0 : (pairN 18 m.pop.top m.top).2 = 0
  · have HE : Hid (pairM 18 m = (m.pop.pop.push (pairN 18 m.pop.top m.top).1, 0)) := by
      show pairM 18 m = _
      rw [pairM, if_pos h0]
    rw [pairRet, h0]
    generalize (pairN 18 m.pop.top m.top).1 = z at *
    go_wp2_with fail
    refine (push_any w4 F B Z L A R m.pop.pop z HM3.out HL.out.2.2).mono ?_
    rintro e w5 ⟨rfl, hm5, hb5⟩
    have HM5 : Hid (MSt w5 F B Z L A R (m.pop.pop.push z)) := hm5
    have HB5 : Hid (Fr F w w5) := HB3.out.trans hb5
    clear hm5 hb5
    go_wp2
    go_ret
    exact ⟨by rw [HE.out]; rfl, by rw [HE.out]; exact HM5.out, HB5.out⟩
  · have HE : Hid (pairM 18 m = (m.pop.pop, (pairN 18 m.pop.top m.top).2)) := by
      show pairM 18 m = _
      rw [pairM, if_neg h0]
    have h0' : ((pairN 18 m.pop.top m.top).2 != 0) = true := by simpa using h0
    rw [pairRet]
    generalize (pairN 18 m.pop.top m.top).2 = z at *
    generalize (pairN 18 m.pop.top m.top).1 = y at *
    go_wp2
    go_ret
    exact ⟨by rw [HE.out]; rfl, by rw [HE.out]; exact HM3.out, HB3.out⟩
set_option maxRecDepth 100000 in
theorem pair19 : PairOK 19 := by
  intro w F B Z L A R m hm h2 hl
  have hi : ∀ w, (Go.Instr.index 163 (.agg fnCells) (.int .i64 19)).run Tryz.prog w = .ok (.func (.func 108) #[] #[]) w := fun w => by kernel_rfl
  have HP := pop_any w F B Z L A R m hm (by omega) hl
  have HL : Hid (0 < m.pop.st.length ∧ m.pop.st.length ≤ 1000 ∧ m.pop.pop.st.length ≤ 1000) := by simp only [M.pop, List.length_tail]; exact ⟨by omega, by omega, by omega⟩
  clear hm h2 hl
  go_enter Tryz.func81, Tryz.ntmps81
  go_wp2_with fail
  refine HP.mono ?_
  rintro e w1 ⟨rfl, hm1, hb1⟩
  have HM1 : Hid (MSt w1 F B Z L A R m.pop) := hm1
  have HB1 : Hid (Fr F w w1) := hb1
  clear hm1 hb1 HP
  go_wp2_with fail
  refine (pop_any w1 F B Z L A R m.pop HM1.out HL.out.1 HL.out.2.1).mono ?_
  rintro e w2 ⟨rfl, hm2, hb2⟩
  have HM2 : Hid (MSt w2 F B Z L A R m.pop.pop) := hm2
  have HB2 : Hid (Fr F w w2) := HB1.out.trans hb2
  clear hm2 hb2 HM1 HB1
  go_wp2_with fail
  refine (pairs_any w2).mono ?_
  rintro e w3 ⟨rfl, hb3⟩
  have HM3 : Hid (MSt w3 F B Z L A R m.pop.pop) := (HM2.out.kept hb3).1
  have HB3 : Hid (Fr F w w3) := HB2.out.trans (HM2.out.kept hb3).2
  clear hb3 HM2 HB2
  go_wp2_with (go_at_fn 108; refine (fn19 w3 m.pop.top m.top).mono ?_; rintro e w4 ⟨rfl, rfl⟩; fail)
  refine (fn19 w3 m.pop.top m.top).mono ?_
  rintro e w4 ⟨rfl, rfl⟩
  by_cases h0 : (pairN 19 m.pop.top m.top).2 = 0
  · have HE : Hid (pairM 19 m = (m.pop.pop.push (pairN 19 m.pop.top m.top).1, 0)) := by
      show pairM 19 m = _
      rw [pairM, if_pos h0]
    rw [pairRet, h0]
    generalize (pairN 19 m.pop.top m.top).1 = z at *
    go_wp2_with fail
    refine (push_any w4 F B Z L A R m.pop.pop z HM3.out HL.out.2.2).mono ?_
    rintro e w5 ⟨rfl, hm5, hb5⟩
    have HM5 : Hid (MSt w5 F B Z L A R (m.pop.pop.push z)) := hm5
    have HB5 : Hid (Fr F w w5) := HB3.out.trans hb5
    clear hm5 hb5
    go_wp2
    go_ret
    exact ⟨by rw [HE.out]; rfl, by rw [HE.out]; exact HM5.out, HB5.out⟩
  · have HE : Hid (pairM 19 m = (m.pop.pop, (pairN 19 m.pop.top m.top).2)) := by
      show pairM 19 m = _
      rw [pairM, if_neg h0]
    have h0' : ((pairN 19 m.pop.top m.top).2 != 0) = true := by simpa using h0
    rw [pairRet]
    generalize (pairN 19 m.pop.top m.top).2 = z at *
    generalize (pairN 19 m.pop.top m.top).1 = y at *
    go_wp2
    go_ret
    exact ⟨by rw [HE.out]; rfl, by rw [HE.out]; exact HM3.out, HB3.out⟩
set_option maxRecDepth 100000 in
theorem pair22 : PairOK 22 := by
  intro w F B Z L A R m hm h2 hl
  have hi : ∀ w, (Go.Instr.index 163 (.agg fnCells) (.int .i64 22)).run Tryz.prog w = .ok (.func (.func 109) #[] #[]) w := fun w => by kernel_rfl
  have HP := pop_any w F B Z L A R m hm (by omega) hl
  have HL : Hid (0 < m.pop.st.length ∧ m.pop.st.length ≤ 1000 ∧ m.pop.pop.st.length ≤ 1000) := by simp only [M.pop, List.length_tail]; exact ⟨by omega, by omega, by omega⟩
  clear hm h2 hl
  go_enter Tryz.func81, Tryz.ntmps81
  go_wp2_with fail
  refine HP.mono ?_
  rintro e w1 ⟨rfl, hm1, hb1⟩
  have HM1 : Hid (MSt w1 F B Z L A R m.pop) := hm1
  have HB1 : Hid (Fr F w w1) := hb1
  clear hm1 hb1 HP
  go_wp2_with fail
  refine (pop_any w1 F B Z L A R m.pop HM1.out HL.out.1 HL.out.2.1).mono ?_
  rintro e w2 ⟨rfl, hm2, hb2⟩
  have HM2 : Hid (MSt w2 F B Z L A R m.pop.pop) := hm2
  have HB2 : Hid (Fr F w w2) := HB1.out.trans hb2
  clear hm2 hb2 HM1 HB1
  go_wp2_with fail
  refine (pairs_any w2).mono ?_
  rintro e w3 ⟨rfl, hb3⟩
  have HM3 : Hid (MSt w3 F B Z L A R m.pop.pop) := (HM2.out.kept hb3).1
  have HB3 : Hid (Fr F w w3) := HB2.out.trans (HM2.out.kept hb3).2
  clear hb3 HM2 HB2
  go_wp2_with (go_at_fn 109; refine (fn22 w3 m.pop.top m.top).mono ?_; rintro e w4 ⟨rfl, rfl⟩; fail)
  refine (fn22 w3 m.pop.top m.top).mono ?_
  rintro e w4 ⟨rfl, rfl⟩
  by_cases h0 : (pairN 22 m.pop.top m.top).2 = 0
  · have HE : Hid (pairM 22 m = (m.pop.pop.push (pairN 22 m.pop.top m.top).1, 0)) := by
      show pairM 22 m = _
      rw [pairM, if_pos h0]
    rw [pairRet, h0]
    generalize (pairN 22 m.pop.top m.top).1 = z at *
    go_wp2_with fail
    refine (push_any w4 F B Z L A R m.pop.pop z HM3.out HL.out.2.2).mono ?_
    rintro e w5 ⟨rfl, hm5, hb5⟩
    have HM5 : Hid (MSt w5 F B Z L A R (m.pop.pop.push z)) := hm5
    have HB5 : Hid (Fr F w w5) := HB3.out.trans hb5
    clear hm5 hb5
    go_wp2
    go_ret
    exact ⟨by rw [HE.out]; rfl, by rw [HE.out]; exact HM5.out, HB5.out⟩
  · have HE : Hid (pairM 22 m = (m.pop.pop, (pairN 22 m.pop.top m.top).2)) := by
      show pairM 22 m = _
      rw [pairM, if_neg h0]
    have h0' : ((pairN 22 m.pop.top m.top).2 != 0) = true := by simpa using h0
    rw [pairRet]
    generalize (pairN 22 m.pop.top m.top).2 = z at *
    generalize (pairN 22 m.pop.top m.top).1 = y at *
    go_wp2
    go_ret
    exact ⟨by rw [HE.out]; rfl, by rw [HE.out]; exact HM3.out, HB3.out⟩
set_option maxRecDepth 100000 in
theorem pair23 : PairOK 23 := by
  intro w F B Z L A R m hm h2 hl
  have hi : ∀ w, (Go.Instr.index 163 (.agg fnCells) (.int .i64 23)).run Tryz.prog w = .ok (.func (.func 110) #[] #[]) w := fun w => by kernel_rfl
  have HP := pop_any w F B Z L A R m hm (by omega) hl
  have HL : Hid (0 < m.pop.st.length ∧ m.pop.st.length ≤ 1000 ∧ m.pop.pop.st.length ≤ 1000) := by simp only [M.pop, List.length_tail]; exact ⟨by omega, by omega, by omega⟩
  clear hm h2 hl
  go_enter Tryz.func81, Tryz.ntmps81
  go_wp2_with fail
  refine HP.mono ?_
  rintro e w1 ⟨rfl, hm1, hb1⟩
  have HM1 : Hid (MSt w1 F B Z L A R m.pop) := hm1
  have HB1 : Hid (Fr F w w1) := hb1
  clear hm1 hb1 HP
  go_wp2_with fail
  refine (pop_any w1 F B Z L A R m.pop HM1.out HL.out.1 HL.out.2.1).mono ?_
  rintro e w2 ⟨rfl, hm2, hb2⟩
  have HM2 : Hid (MSt w2 F B Z L A R m.pop.pop) := hm2
  have HB2 : Hid (Fr F w w2) := HB1.out.trans hb2
  clear hm2 hb2 HM1 HB1
  go_wp2_with fail
  refine (pairs_any w2).mono ?_
  rintro e w3 ⟨rfl, hb3⟩
  have HM3 : Hid (MSt w3 F B Z L A R m.pop.pop) := (HM2.out.kept hb3).1
  have HB3 : Hid (Fr F w w3) := HB2.out.trans (HM2.out.kept hb3).2
  clear hb3 HM2 HB2
  go_wp2_with (go_at_fn 110; refine (fn23 w3 m.pop.top m.top).mono ?_; rintro e w4 ⟨rfl, rfl⟩; fail)
  refine (fn23 w3 m.pop.top m.top).mono ?_
  rintro e w4 ⟨rfl, rfl⟩
  by_cases h0 : (pairN 23 m.pop.top m.top).2 = 0
  · have HE : Hid (pairM 23 m = (m.pop.pop.push (pairN 23 m.pop.top m.top).1, 0)) := by
      show pairM 23 m = _
      rw [pairM, if_pos h0]
    rw [pairRet, h0]
    generalize (pairN 23 m.pop.top m.top).1 = z at *
    go_wp2_with fail
    refine (push_any w4 F B Z L A R m.pop.pop z HM3.out HL.out.2.2).mono ?_
    rintro e w5 ⟨rfl, hm5, hb5⟩
    have HM5 : Hid (MSt w5 F B Z L A R (m.pop.pop.push z)) := hm5
    have HB5 : Hid (Fr F w w5) := HB3.out.trans hb5
    clear hm5 hb5
    go_wp2
    go_ret
    exact ⟨by rw [HE.out]; rfl, by rw [HE.out]; exact HM5.out, HB5.out⟩
  · have HE : Hid (pairM 23 m = (m.pop.pop, (pairN 23 m.pop.top m.top).2)) := by
      show pairM 23 m = _
      rw [pairM, if_neg h0]
    have h0' : ((pairN 23 m.pop.top m.top).2 != 0) = true := by simpa using h0
    rw [pairRet]
    generalize (pairN 23 m.pop.top m.top).2 = z at *
    generalize (pairN 23 m.pop.top m.top).1 = y at *
    go_wp2
    go_ret
    exact ⟨by rw [HE.out]; rfl, by rw [HE.out]; exact HM3.out, HB3.out⟩
set_option maxRecDepth 100000 in
theorem pair24 : PairOK 24 := by
  intro w F B Z L A R m hm h2 hl
  have hi : ∀ w, (Go.Instr.index 163 (.agg fnCells) (.int .i64 24)).run Tryz.prog w = .ok (.func (.func 111) #[] #[]) w := fun w => by kernel_rfl
  have HP := pop_any w F B Z L A R m hm (by omega) hl
  have HL : Hid (0 < m.pop.st.length ∧ m.pop.st.length ≤ 1000 ∧ m.pop.pop.st.length ≤ 1000) := by simp only [M.pop, List.length_tail]; exact ⟨by omega, by omega, by omega⟩
  clear hm h2 hl
  go_enter Tryz.func81, Tryz.ntmps81
  go_wp2_with fail
  refine HP.mono ?_
  rintro e w1 ⟨rfl, hm1, hb1⟩
  have HM1 : Hid (MSt w1 F B Z L A R m.pop) := hm1
  have HB1 : Hid (Fr F w w1) := hb1
  clear hm1 hb1 HP
  go_wp2_with fail
  refine (pop_any w1 F B Z L A R m.pop HM1.out HL.out.1 HL.out.2.1).mono ?_
  rintro e w2 ⟨rfl, hm2, hb2⟩
  have HM2 : Hid (MSt w2 F B Z L A R m.pop.pop) := hm2
  have HB2 : Hid (Fr F w w2) := HB1.out.trans hb2
  clear hm2 hb2 HM1 HB1
  go_wp2_with fail
  refine (pairs_any w2).mono ?_
  rintro e w3 ⟨rfl, hb3⟩
  have HM3 : Hid (MSt w3 F B Z L A R m.pop.pop) := (HM2.out.kept hb3).1
  have HB3 : Hid (Fr F w w3) := HB2.out.trans (HM2.out.kept hb3).2
  clear hb3 HM2 HB2
  go_wp2_with (go_at_fn 111; refine (fn24 w3 m.pop.top m.top).mono ?_; rintro e w4 ⟨rfl, rfl⟩; fail)
  refine (fn24 w3 m.pop.top m.top).mono ?_
  rintro e w4 ⟨rfl, rfl⟩
  by_cases h0 : (pairN 24 m.pop.top m.top).2 = 0
  · have HE : Hid (pairM 24 m = (m.pop.pop.push (pairN 24 m.pop.top m.top).1, 0)) := by
      show pairM 24 m = _
      rw [pairM, if_pos h0]
    rw [pairRet, h0]
    generalize (pairN 24 m.pop.top m.top).1 = z at *
    go_wp2_with fail
    refine (push_any w4 F B Z L A R m.pop.pop z HM3.out HL.out.2.2).mono ?_
    rintro e w5 ⟨rfl, hm5, hb5⟩
    have HM5 : Hid (MSt w5 F B Z L A R (m.pop.pop.push z)) := hm5
    have HB5 : Hid (Fr F w w5) := HB3.out.trans hb5
    clear hm5 hb5
    go_wp2
    go_ret
    exact ⟨by rw [HE.out]; rfl, by rw [HE.out]; exact HM5.out, HB5.out⟩
  · have HE : Hid (pairM 24 m = (m.pop.pop, (pairN 24 m.pop.top m.top).2)) := by
      show pairM 24 m = _
      rw [pairM, if_neg h0]
    have h0' : ((pairN 24 m.pop.top m.top).2 != 0) = true := by simpa using h0
    rw [pairRet]
    generalize (pairN 24 m.pop.top m.top).2 = z at *
    generalize (pairN 24 m.pop.top m.top).1 = y at *
    go_wp2
    go_ret
    exact ⟨by rw [HE.out]; rfl, by rw [HE.out]; exact HM3.out, HB3.out⟩
set_option maxRecDepth 100000 in
theorem pair25 : PairOK 25 := by
  intro w F B Z L A R m hm h2 hl
  have hi : ∀ w, (Go.Instr.index 163 (.agg fnCells) (.int .i64 25)).run Tryz.prog w = .ok (.func (.func 112) #[] #[]) w := fun w => by kernel_rfl
  have HP := pop_any w F B Z L A R m hm (by omega) hl
  have HL : Hid (0 < m.pop.st.length ∧ m.pop.st.length ≤ 1000 ∧ m.pop.pop.st.length ≤ 1000) := by simp only [M.pop, List.length_tail]; exact ⟨by omega, by omega, by omega⟩
  clear hm h2 hl
  go_enter Tryz.func81, Tryz.ntmps81
  go_wp2_with fail
  refine HP.mono ?_
  rintro e w1 ⟨rfl, hm1, hb1⟩
  have HM1 : Hid (MSt w1 F B Z L A R m.pop) := hm1
  have HB1 : Hid (Fr F w w1) := hb1
  clear hm1 hb1 HP
  go_wp2_with fail
  refine (pop_any w1 F B Z L A R m.pop HM1.out HL.out.1 HL.out.2.1).mono ?_
  rintro e w2 ⟨rfl, hm2, hb2⟩
  have HM2 : Hid (MSt w2 F B Z L A R m.pop.pop) := hm2
  have HB2 : Hid (Fr F w w2) := HB1.out.trans hb2
  clear hm2 hb2 HM1 HB1
  go_wp2_with fail
  refine (pairs_any w2).mono ?_
  rintro e w3 ⟨rfl, hb3⟩
  have HM3 : Hid (MSt w3 F B Z L A R m.pop.pop) := (HM2.out.kept hb3).1
  have HB3 : Hid (Fr F w w3) := HB2.out.trans (HM2.out.kept hb3).2
  clear hb3 HM2 HB2
  go_wp2_with (go_at_fn 112; refine (fn25 w3 m.pop.top m.top).mono ?_; rintro e w4 ⟨rfl, rfl⟩; fail)
  refine (fn25 w3 m.pop.top m.top).mono ?_
  rintro e w4 ⟨rfl, rfl⟩
  by_cases h0 : (pairN 25 m.pop.top m.top).2 = 0
  · have HE : Hid (pairM 25 m = (m.pop.pop.push (pairN 25 m.pop.top m.top).1, 0)) := by
      show pairM 25 m = _
      rw [pairM, if_pos h0]
    rw [pairRet, h0]
    generalize (pairN 25 m.pop.top m.top).1 = z at *
    go_wp2_with fail
    refine (push_any w4 F B Z L A R m.pop.pop z HM3.out HL.out.2.2).mono ?_
    rintro e w5 ⟨rfl, hm5, hb5⟩
    have HM5 : Hid (MSt w5 F B Z L A R (m.pop.pop.push z)) := hm5
    have HB5 : Hid (Fr F w w5) := HB3.out.trans hb5
    clear hm5 hb5
    go_wp2
    go_ret
    exact ⟨by rw [HE.out]; rfl, by rw [HE.out]; exact HM5.out, HB5.out⟩
  · have HE : Hid (pairM 25 m = (m.pop.pop, (pairN 25 m.pop.top m.top).2)) := by
      show pairM 25 m = _
      rw [pairM, if_neg h0]
    have h0' : ((pairN 25 m.pop.top m.top).2 != 0) = true := by simpa using h0
    rw [pairRet]
    generalize (pairN 25 m.pop.top m.top).2 = z at *
    generalize (pairN 25 m.pop.top m.top).1 = y at *
    go_wp2
    go_ret
    exact ⟨by rw [HE.out]; rfl, by rw [HE.out]; exact HM3.out, HB3.out⟩
set_option maxRecDepth 100000 in
theorem pair26 : PairOK 26 := by
  intro w F B Z L A R m hm h2 hl
  have hi : ∀ w, (Go.Instr.index 163 (.agg fnCells) (.int .i64 26)).run Tryz.prog w = .ok (.func (.func 113) #[] #[]) w := fun w => by kernel_rfl
  have HP := pop_any w F B Z L A R m hm (by omega) hl
  have HL : Hid (0 < m.pop.st.length ∧ m.pop.st.length ≤ 1000 ∧ m.pop.pop.st.length ≤ 1000) := by simp only [M.pop, List.length_tail]; exact ⟨by omega, by omega, by omega⟩
  clear hm h2 hl
  go_enter Tryz.func81, Tryz.ntmps81
  go_wp2_with fail
  refine HP.mono ?_
  rintro e w1 ⟨rfl, hm1, hb1⟩
  have HM1 : Hid (MSt w1 F B Z L A R m.pop) := hm1
  have HB1 : Hid (Fr F w w1) := hb1
  clear hm1 hb1 HP
  go_wp2_with fail
  refine (pop_any w1 F B Z L A R m.pop HM1.out HL.out.1 HL.out.2.1).mono ?_
  rintro e w2 ⟨rfl, hm2, hb2⟩
  have HM2 : Hid (MSt w2 F B Z L A R m.pop.pop) := hm2
  have HB2 : Hid (Fr F w w2) := HB1.out.trans hb2
  clear hm2 hb2 HM1 HB1
  go_wp2_with fail
  refine (pairs_any w2).mono ?_
  rintro e w3 ⟨rfl, hb3⟩
  have HM3 : Hid (MSt w3 F B Z L A R m.pop.pop) := (HM2.out.kept hb3).1
  have HB3 : Hid (Fr F w w3) := HB2.out.trans (HM2.out.kept hb3).2
  clear hb3 HM2 HB2
  go_wp2_with (go_at_fn 113; refine (fn26 w3 m.pop.top m.top).mono ?_; rintro e w4 ⟨rfl, rfl⟩; fail)
  refine (fn26 w3 m.pop.top m.top).mono ?_
  rintro e w4 ⟨rfl, rfl⟩
  by_cases h0 : (pairN 26 m.pop.top m.top).2 = 0
  · have HE : Hid (pairM 26 m = (m.pop.pop.push (pairN 26 m.pop.top m.top).1, 0)) := by
      show pairM 26 m = _
      rw [pairM, if_pos h0]
    rw [pairRet, h0]
    generalize (pairN 26 m.pop.top m.top).1 = z at *
    go_wp2_with fail
    refine (push_any w4 F B Z L A R m.pop.pop z HM3.out HL.out.2.2).mono ?_
    rintro e w5 ⟨rfl, hm5, hb5⟩
    have HM5 : Hid (MSt w5 F B Z L A R (m.pop.pop.push z)) := hm5
    have HB5 : Hid (Fr F w w5) := HB3.out.trans hb5
    clear hm5 hb5
    go_wp2
    go_ret
    exact ⟨by rw [HE.out]; rfl, by rw [HE.out]; exact HM5.out, HB5.out⟩
  · have HE : Hid (pairM 26 m = (m.pop.pop, (pairN 26 m.pop.top m.top).2)) := by
      show pairM 26 m = _
      rw [pairM, if_neg h0]
    have h0' : ((pairN 26 m.pop.top m.top).2 != 0) = true := by simpa using h0
    rw [pairRet]
    generalize (pairN 26 m.pop.top m.top).2 = z at *
    generalize (pairN 26 m.pop.top m.top).1 = y at *
    go_wp2
    go_ret
    exact ⟨by rw [HE.out]; rfl, by rw [HE.out]; exact HM3.out, HB3.out⟩
set_option maxRecDepth 100000 in
theorem pair27 : PairOK 27 := by
  intro w F B Z L A R m hm h2 hl
  have hi : ∀ w, (Go.Instr.index 163 (.agg fnCells) (.int .i64 27)).run Tryz.prog w = .ok (.func (.func 114) #[] #[]) w := fun w => by kernel_rfl
  have HP := pop_any w F B Z L A R m hm (by omega) hl
  have HL : Hid (0 < m.pop.st.length ∧ m.pop.st.length ≤ 1000 ∧ m.pop.pop.st.length ≤ 1000) := by simp only [M.pop, List.length_tail]; exact ⟨by omega, by omega, by omega⟩
  clear hm h2 hl
  go_enter Tryz.func81, Tryz.ntmps81
  go_wp2_with fail
  refine HP.mono ?_
  rintro e w1 ⟨rfl, hm1, hb1⟩
  have HM1 : Hid (MSt w1 F B Z L A R m.pop) := hm1
  have HB1 : Hid (Fr F w w1) := hb1
  clear hm1 hb1 HP
  go_wp2_with fail
  refine (pop_any w1 F B Z L A R m.pop HM1.out HL.out.1 HL.out.2.1).mono ?_
  rintro e w2 ⟨rfl, hm2, hb2⟩
  have HM2 : Hid (MSt w2 F B Z L A R m.pop.pop) := hm2
  have HB2 : Hid (Fr F w w2) := HB1.out.trans hb2
  clear hm2 hb2 HM1 HB1
  go_wp2_with fail
  refine (pairs_any w2).mono ?_
  rintro e w3 ⟨rfl, hb3⟩
  have HM3 : Hid (MSt w3 F B Z L A R m.pop.pop) := (HM2.out.kept hb3).1
  have HB3 : Hid (Fr F w w3) := HB2.out.trans (HM2.out.kept hb3).2
  clear hb3 HM2 HB2
  go_wp2_with (go_at_fn 114; refine (fn27 w3 m.pop.top m.top).mono ?_; rintro e w4 ⟨rfl, rfl⟩; fail)
  refine (fn27 w3 m.pop.top m.top).mono ?_
  rintro e w4 ⟨rfl, rfl⟩
  by_cases h0 : (pairN 27 m.pop.top m.top).2 = 0
  · have HE : Hid (pairM 27 m = (m.pop.pop.push (pairN 27 m.pop.top m.top).1, 0)) := by
      show pairM 27 m = _
      rw [pairM, if_pos h0]
    rw [pairRet, h0]
    generalize (pairN 27 m.pop.top m.top).1 = z at *
    go_wp2_with fail
    refine (push_any w4 F B Z L A R m.pop.pop z HM3.out HL.out.2.2).mono ?_
    rintro e w5 ⟨rfl, hm5, hb5⟩
    have HM5 : Hid (MSt w5 F B Z L A R (m.pop.pop.push z)) := hm5
    have HB5 : Hid (Fr F w w5) := HB3.out.trans hb5
    clear hm5 hb5
    go_wp2
    go_ret
    exact ⟨by rw [HE.out]; rfl, by rw [HE.out]; exact HM5.out, HB5.out⟩
  · have HE : Hid (pairM 27 m = (m.pop.pop, (pairN 27 m.pop.top m.top).2)) := by
      show pairM 27 m = _
      rw [pairM, if_neg h0]
    have h0' : ((pairN 27 m.pop.top m.top).2 != 0) = true := by simpa using h0
    rw [pairRet]
    generalize (pairN 27 m.pop.top m.top).2 = z at *
    generalize (pairN 27 m.pop.top m.top).1 = y at *
    go_wp2
    go_ret
    exact ⟨by rw [HE.out]; rfl, by rw [HE.out]; exact HM3.out, HB3.out⟩
set_option maxRecDepth 100000 in
theorem pair28 : PairOK 28 := by
  intro w F B Z L A R m hm h2 hl
  have hi : ∀ w, (Go.Instr.index 163 (.agg fnCells) (.int .i64 28)).run Tryz.prog w = .ok (.func (.func 115) #[] #[]) w := fun w => by kernel_rfl
  have HP := pop_any w F B Z L A R m hm (by omega) hl
  have HL : Hid (0 < m.pop.st.length ∧ m.pop.st.length ≤ 1000 ∧ m.pop.pop.st.length ≤ 1000) := by simp only [M.pop, List.length_tail]; exact ⟨by omega, by omega, by omega⟩
  clear hm h2 hl
  go_enter Tryz.func81, Tryz.ntmps81
  go_wp2_with fail
  refine HP.mono ?_
  rintro e w1 ⟨rfl, hm1, hb1⟩
  have HM1 : Hid (MSt w1 F B Z L A R m.pop) := hm1
  have HB1 : Hid (Fr F w w1) := hb1
  clear hm1 hb1 HP
  go_wp2_with fail
  refine (pop_any w1 F B Z L A R m.pop HM1.out HL.out.1 HL.out.2.1).mono ?_
  rintro e w2 ⟨rfl, hm2, hb2⟩
  have HM2 : Hid (MSt w2 F B Z L A R m.pop.pop) := hm2
  have HB2 : Hid (Fr F w w2) := HB1.out.trans hb2
  clear hm2 hb2 HM1 HB1
  go_wp2_with fail
  refine (pairs_any w2).mono ?_
  rintro e w3 ⟨rfl, hb3⟩
  have HM3 : Hid (MSt w3 F B Z L A R m.pop.pop) := (HM2.out.kept hb3).1
  have HB3 : Hid (Fr F w w3) := HB2.out.trans (HM2.out.kept hb3).2
  clear hb3 HM2 HB2
  go_wp2_with (go_at_fn 115; refine (fn28 w3 m.pop.top m.top).mono ?_; rintro e w4 ⟨rfl, rfl⟩; fail)
  refine (fn28 w3 m.pop.top m.top).mono ?_
  rintro e w4 ⟨rfl, rfl⟩
  by_cases h0 : (pairN 28 m.pop.top m.top).2 = 0
  · have HE : Hid (pairM 28 m = (m.pop.pop.push (pairN 28 m.pop.top m.top).1, 0)) := by
      show pairM 28 m = _
      rw [pairM, if_pos h0]
    rw [pairRet, h0]
    generalize (pairN 28 m.pop.top m.top).1 = z at *
    go_wp2_with fail
    refine (push_any w4 F B Z L A R m.pop.pop z HM3.out HL.out.2.2).mono ?_
    rintro e w5 ⟨rfl, hm5, hb5⟩
    have HM5 : Hid (MSt w5 F B Z L A R (m.pop.pop.push z)) := hm5
    have HB5 : Hid (Fr F w w5) := HB3.out.trans hb5
    clear hm5 hb5
    go_wp2
    go_ret
    exact ⟨by rw [HE.out]; rfl, by rw [HE.out]; exact HM5.out, HB5.out⟩
  · have HE : Hid (pairM 28 m = (m.pop.pop, (pairN 28 m.pop.top m.top).2)) := by
      show pairM 28 m = _
      rw [pairM, if_neg h0]
    have h0' : ((pairN 28 m.pop.top m.top).2 != 0) = true := by simpa using h0
    rw [pairRet]
    generalize (pairN 28 m.pop.top m.top).2 = z at *
    generalize (pairN 28 m.pop.top m.top).1 = y at *
    go_wp2
    go_ret
    exact ⟨by rw [HE.out]; rfl, by rw [HE.out]; exact HM3.out, HB3.out⟩
set_option maxRecDepth 100000 in
theorem pair29 : PairOK 29 := by
  intro w F B Z L A R m hm h2 hl
  have hi : ∀ w, (Go.Instr.index 163 (.agg fnCells) (.int .i64 29)).run Tryz.prog w = .ok (.func (.func 116) #[] #[]) w := fun w => by kernel_rfl
  have HP := pop_any w F B Z L A R m hm (by omega) hl
  have HL : Hid (0 < m.pop.st.length ∧ m.pop.st.length ≤ 1000 ∧ m.pop.pop.st.length ≤ 1000) := by simp only [M.pop, List.length_tail]; exact ⟨by omega, by omega, by omega⟩
  clear hm h2 hl
  go_enter Tryz.func81, Tryz.ntmps81
  go_wp2_with fail
  refine HP.mono ?_
  rintro e w1 ⟨rfl, hm1, hb1⟩
  have HM1 : Hid (MSt w1 F B Z L A R m.pop) := hm1
  have HB1 : Hid (Fr F w w1) := hb1
  clear hm1 hb1 HP
  go_wp2_with fail
  refine (pop_any w1 F B Z L A R m.pop HM1.out HL.out.1 HL.out.2.1).mono ?_
  rintro e w2 ⟨rfl, hm2, hb2⟩
  have HM2 : Hid (MSt w2 F B Z L A R m.pop.pop) := hm2
  have HB2 : Hid (Fr F w w2) := HB1.out.trans hb2
  clear hm2 hb2 HM1 HB1
  go_wp2_with fail
  refine (pairs_any w2).mono ?_
  rintro e w3 ⟨rfl, hb3⟩
  have HM3 : Hid (MSt w3 F B Z L A R m.pop.pop) := (HM2.out.kept hb3).1
  have HB3 : Hid (Fr F w w3) := HB2.out.trans (HM2.out.kept hb3).2
  clear hb3 HM2 HB2
  go_wp2_with (go_at_fn 116; refine (fn29 w3 m.pop.top m.top).mono ?_; rintro e w4 ⟨rfl, rfl⟩; fail)
  refine (fn29 w3 m.pop.top m.top).mono ?_
  rintro e w4 ⟨rfl, rfl⟩
  by_cases h0 : (pairN 29 m.pop.top m.top).2 = 0
  · have HE : Hid (pairM 29 m = (m.pop.pop.push (pairN 29 m.pop.top m.top).1, 0)) := by
      show pairM 29 m = _
      rw [pairM, if_pos h0]
    rw [pairRet, h0]
    generalize (pairN 29 m.pop.top m.top).1 = z at *
    go_wp2_with fail
    refine (push_any w4 F B Z L A R m.pop.pop z HM3.out HL.out.2.2).mono ?_
    rintro e w5 ⟨rfl, hm5, hb5⟩
    have HM5 : Hid (MSt w5 F B Z L A R (m.pop.pop.push z)) := hm5
    have HB5 : Hid (Fr F w w5) := HB3.out.trans hb5
    clear hm5 hb5
    go_wp2
    go_ret
    exact ⟨by rw [HE.out]; rfl, by rw [HE.out]; exact HM5.out, HB5.out⟩
  · have HE : Hid (pairM 29 m = (m.pop.pop, (pairN 29 m.pop.top m.top).2)) := by
      show pairM 29 m = _
      rw [pairM, if_neg h0]
    have h0' : ((pairN 29 m.pop.top m.top).2 != 0) = true := by simpa using h0
    rw [pairRet]
    generalize (pairN 29 m.pop.top m.top).2 = z at *
    generalize (pairN 29 m.pop.top m.top).1 = y at *
    go_wp2
    go_ret
    exact ⟨by rw [HE.out]; rfl, by rw [HE.out]; exact HM3.out, HB3.out⟩
theorem pair_any (op : Int) (hp : (10 ≤ op ∧ op ≤ 19) ∨ (22 ≤ op ∧ op ≤ 29)) : PairOK op := by
  have : op = 10 ∨ op = 11 ∨ op = 12 ∨ op = 13 ∨ op = 14 ∨ op = 15 ∨ op = 16 ∨ op = 17 ∨ op = 18 ∨ op = 19 ∨ op = 22 ∨ op = 23 ∨ op = 24 ∨ op = 25 ∨ op = 26 ∨ op = 27 ∨ op = 28 ∨ op = 29 := by omega
  rcases this with rfl | rfl | rfl | rfl | rfl | rfl | rfl | rfl | rfl | rfl | rfl | rfl | rfl | rfl | rfl | rfl | rfl | rfl
  · exact pair10
  · exact pair11
  · exact pair12
  · exact pair13
  · exact pair14
  · exact pair15
  · exact pair16
  · exact pair17
  · exact pair18
  · exact pair19
  · exact pair22
  · exact pair23
  · exact pair24
  · exact pair25
  · exact pair26
  · exact pair27
  · exact pair28
  · exact pair29
end Go.Proofs.YtcaibgbhebldmaaGreat
/-
  THE WALK OF do, INSTRUCTION BY INSTRUCTION.
-/
namespace Go.Proofs.YtcaibgbhebldmaaGreat
open Go.RowKit Go.Sort

/-- what fits a machine's rows -/
def fitN (A : List Int) (R : List C) (m : M) (op a : Int) : Prop :=
  ((op = 4 ∨ op = 5) → 0 ≤ a ∧ a < (m.lo.length : Int)) ∧ (op = 6 → 0 ≤ a ∧ a < (A.length : Int)) ∧ (op = 8 → 0 ≤ a ∧ a < (R.length : Int))
abbrev DoOK (op : Int) : Prop := ∀ (w : World) (F : Nat → Prop) (B : Nat) (Z : MZ) (L : List K) (A : List Int) (R : List C) (m : M) (a : Int), MSt w F B Z L A R m → takesN op ≤ (m.st.length : Int) → m.st.length ≤ 100 → m.ou.length ≤ 100 → fitN A R m op a →
    Calls Tryz.prog 63 #[pm B, .agg #[.int .i64 op, .int .i64 a]] w fun e w' => e = .returned (.int .i64 (doN A R op a m).2) ∧ MSt w' F B Z L A R (doN A R op a m).1 ∧ Fr F w w'
/-- a world with the instruction's box -/
abbrev wb (w : World) (op a : Int) : World := w.alloc (.cells #[.int .i64 op, .int .i64 a] 102)
abbrev FB (F : Nat → Prop) (w : World) : Nat → Prop := fun k => F k ∨ k = w.heap.size
/-- the state inside do: the machine, and the box -/
structure DS (w w1 : World) (F : Nat → Prop) (B : Nat) (Z : MZ) (L : List K) (A : List Int) (R : List C) (a : Int) (m : M) : Prop where
  mst : MSt w1 (FB F w) B Z L A R m
  fr : Fr F w w1
  d1 : w1.cell? ⟨w.heap.size, 1, none⟩ = some (.int .i64 a)
section
variable {w w1 w2 : World} {F : Nat → Prop} {B : Nat} {Z : MZ} {L : List K} {A : List Int} {R : List C} {a : Int} {m m' : M}
theorem DS.start (hm : MSt w F B Z L A R m) (op a : Int) : DS w (wb w op a) F B Z L A R a m :=
  ⟨hm.add _, (hm.alloc _).2, (Box.new (w := w) (x := op) (y := a) rfl).2⟩
theorem DS.next (h : DS w w1 F B Z L A R a m) (hm : MSt w2 (FB F w) B Z L A R m') (hf : Fr (FB F w) w1 w2) : DS w w2 F B Z L A R a m' :=
  ⟨hm, h.fr.trans (hf.mono fun _ hk => .inl hk), hf.cell (.inr rfl) h.d1⟩
theorem DS.end (h : DS w w1 F B Z L A R a m) : MSt w1 F B Z L A R m ∧ Fr F w w1 := ⟨h.mst.mono fun _ hk => .inl hk, h.fr⟩
theorem DS.drew (h : DS w w1 F B Z L A R a m) : DS w w1.drew F B Z L A R a m := h.next (h.mst.drewN 1).1 (h.mst.drewN 1).2
/-- a number of the machine's is stored -/
theorem MSt.put (x : MSt w F B Z L A R m) (i : Nat) (v : Value) (m' : M) (hb : ∀ h, (boxOf h m).setIfInBounds i v = boxOf h m') (hs : m'.st = m.st) (ho : m'.ou = m.ou) (hlo : m'.lo = m.lo) (hpu : m'.pu = m.pu) :
    w.frozen? ⟨B, i, none⟩ = false ∧ MSt (w.setCell ⟨B, i, none⟩ v) F B Z L A R m' ∧ Fr F w (w.setCell ⟨B, i, none⟩ v) := by
  obtain ⟨O, h, x, hF, hz⟩ := x
  exact ⟨x.frozen i, ⟨O, h, x.put i v m' (hb h) hs ho hlo hpu, fun k hk => ⟨(hF k hk).1, by have := (hF k hk).2; simpa using this⟩, hz⟩, (Fr.refl F w).set _ _ (fun hk => by have := (hF B hk).1; rw [x.oB] at this; cases this)⟩
theorem MSt.cells (x : MSt w F B Z L A R m) : w.cell? ⟨B, 3, none⟩ = some (.int .i64 (m.at_ : Int)) ∧ w.cell? ⟨B, 8, none⟩ = some (.int .i64 (m.steps : Int)) ∧ w.cell? ⟨B, 9, none⟩ = some (.bool m.ended) ∧ w.cell? ⟨B, 10, none⟩ = some (.int .i64 m.fault) ∧ w.cell? ⟨B, 11, none⟩ = some (.int .i64 m.user) := by
  obtain ⟨O, h, x, hF, hz⟩ := x
  exact ⟨x.cell 3, x.cell 8, x.cell 9, x.cell 10, x.cell 11⟩
theorem MSt.slices (x : MSt w F B Z L A R m) : w.cell? ⟨B, 0, none⟩ = some Z.cv ∧ w.cell? ⟨B, 1, none⟩ = some Z.av ∧ w.cell? ⟨B, 2, none⟩ = some Z.rv ∧ w.cell? ⟨B, 5, none⟩ = some Z.lv ∧ w.cell? ⟨B, 7, none⟩ = some Z.pv := by
  obtain ⟨O, h, x, hF, rfl⟩ := x
  exact ⟨x.cell 0, x.cell 1, x.cell 2, x.cell 5, x.cell 7⟩
/-- a local -/
theorem MSt.loc (x : MSt w F B Z L A R m) (j : Nat) (hj : j < m.lo.length) : ∃ g cap, Z.lv = .slice (some ⟨g, 0, none⟩) m.lo.length cap ∧ m.lo.length ≤ cap ∧ w.cell? ⟨g, j, none⟩ = some (.int .i64 (m.lo.getD j 0)) := by
  obtain ⟨O, h, x, hF, rfl⟩ := x
  obtain ⟨g, cap, hv, hc⟩ := own_some x.locs (by omega)
  have hl := x.locs
  rw [hv] at hl
  exact ⟨g, cap, hv, hc, hl.cell j hj⟩
theorem MSt.arg (x : MSt w F B Z L A R m) (j : Nat) (hj : j < A.length) : ∃ g cap, Z.av = .slice (some ⟨g, 0, none⟩) A.length cap ∧ A.length ≤ cap ∧ w.cell? ⟨g, j, none⟩ = some (.int .i64 (A.getD j 0)) := by
  obtain ⟨O, h, x, hF, rfl⟩ := x
  obtain ⟨g, cap, hv, hc⟩ := own_some x.args (by omega)
  have hl := x.args
  rw [hv] at hl
  exact ⟨g, cap, hv, hc, hl.cell j hj⟩
theorem MSt.rd (x : MSt w F B Z L A R m) (j : Nat) (hj : j < R.length) : ∃ g cap, Z.rv = .slice (some ⟨g, 0, none⟩) R.length cap ∧ R.length ≤ cap ∧ w.cell? ⟨g, j * 2, none⟩ = some (.bool (rd R j).1) := by
  obtain ⟨O, h, x, hF, rfl⟩ := x
  obtain ⟨g, cap, hv, hc⟩ := own_some x.reads (by omega)
  have hl := x.reads
  rw [hv] at hl
  exact ⟨g, cap, hv, hc, (hl.cell j hj).1⟩
/-- a local is stored -/
theorem MSt.save (x : MSt w F B Z L A R m) {g n cap : Nat} (hv : Z.lv = .slice (some ⟨g, 0, none⟩) n cap) (j : Nat) (hj : j < m.lo.length) (z : Int) :
    w.cell? ⟨g, j, none⟩ = some (.int .i64 (m.lo.getD j 0)) ∧ w.frozen? ⟨g, j, none⟩ = false ∧ MSt (w.setCell ⟨g, j, none⟩ (.int .i64 z)) F B Z L A R { m with lo := m.lo.set j z } ∧ Fr F w (w.setCell ⟨g, j, none⟩ (.int .i64 z)) := by
  obtain ⟨O, h, x, hF, rfl⟩ := x
  have hv' : h.lv = .slice (some ⟨g, 0, none⟩) n cap := hv
  have hl := x.locs
  rw [hv'] at hl
  refine ⟨hl.cell j hj, ?_, ⟨O, h, x.local_ hv' j z, fun k hk => ⟨(hF k hk).1, by have := (hF k hk).2; simpa using this⟩, rfl⟩, (Fr.refl F w).set _ _ (fun hk => by have := (hF g hk).1; rw [x.ol g (by rw [hv']; rfl)] at this; cases this)⟩
  obtain ⟨_, ⟨h', _⟩ | ⟨g', cap', cur, e, hb, hg, _⟩⟩ := hl
  · cases h'
  · cases e; exact frozen_of_row w g j _ _ hg
end
theorem len_pop (m : M) : m.pop.st.length = m.st.length - 1 := by simp [M.pop]
theorem len_push (m : M) (x : Int) : (m.push x).st.length = m.st.length + 1 := rfl
end Go.Proofs.YtcaibgbhebldmaaGreat
