/-
  slices.Clone.
-/
import Derived.Test.YtbpgafchagpmoaaXSmall
namespace Go.Proofs.Ytbpgafchagpmoaa
open Go.RowKit Go.Sort

theorem wpList_append_gen {w : World} {ops : Array Oper} {rest : List Oper} {o : Oper} {a : Act} {Q : Exit → Act → World → Prop} (hgd : o.guard = none) (s x : Operand) (t e : TypeId) (i0 : TypeInfo) (z : Value) (size bytes : Nat) (ht : Try.prog.underlying t = some (.slice e)) (hi : Try.prog.info? e = some i0) (hz0 : i0.zero = some z) (hz1 : i0.size = size) (hz2 : i0.bytes = bytes) (hzs : z.cells.size = size) (hsz : 0 < size)
    (ho : o.op = .call { callee := .builtin .append, args := #[s, x], argTypes := #[t, t] }) (base : Nat) (v : Value) (n : Nat) (xs : List Value) (hs : a.eval s = v) (hown : w.ownsRow base e size v n xs)
    (ad : Addr) (m c : Nat) (ys : List Value) (hx : a.eval x = .slice (some ad) m c) (hl : ys.length = m * size) (hc : ∀ j u, ys[j]? = some u → w.cell? (ad.add j) = some u) (h1 : ∀ u ∈ ys, u.oneCell' = true) (hm : n + m ≤ maxLen) (hb : (n + m) * bytes ≤ 140737488355328) (hbase : base ≤ w.heap.size)
    (h : ∀ v' w', w'.ownsRow base e size v' (n + m) (xs ++ ys) → w.grownBy w' v.ownBlock → wpList Try.prog ops Q rest (a.put o.dst v') w') : wpList Try.prog ops Q (o :: rest) a w := by
  obtain ⟨v', w', hr, h2, h3, _, h5⟩ := run_append_own_at (P := Try.prog) w base t o.type e i0 z size bytes ht hi hz0 hz1 hz2 hzs hsz v n xs hown ad m c ys hl hc h1 hm hb hbase
  refine wpList_plain hgd fun K hK' => ?_
  unfold Oper.wp
  simp [execOp, ho, resolve, invoke, builtin, hs, hx, hr, Result.andThen]
  exact hK' _ _ (h v' w' h2 h3)
/-- what a slice's cells hold -/
def CellsAt (w : World) (ao : Option Addr) (xs : List Value) : Prop := xs = [] ∨ ∃ b off, ao = some ⟨b, off, none⟩ ∧ ∀ j u, xs[j]? = some u → w.cell? ⟨b, off + j, none⟩ = some u
theorem CellsAt.below {w w1 : World} {ao : Option Addr} {xs : List Value} (h : CellsAt w ao xs) (hb : Go.RowKit.Below w.heap.size w w1) : CellsAt w1 ao xs := by
  rcases h with h | ⟨b, off, rfl, hc⟩
  · exact .inl h
  · refine .inr ⟨b, off, rfl, fun j u hu => ?_⟩
    have := hc j u hu
    exact (hb.cell (p := ⟨b, off + j, none⟩) (cell_lt this)).trans this
theorem own_read {w : World} {base e size n cap : Nat} {ao : Option Addr} {xs : List Value} (h : w.ownsRow base e size (.slice ao n cap) n xs) : CellsAt w ao xs := by
  have h0 := h
  obtain ⟨hl, ⟨h1, h2⟩ | ⟨g, cap', cur, e1, _⟩⟩ := h
  · subst h2; exact .inl (List.eq_nil_of_length_eq_zero (by rw [hl, Nat.zero_mul]))
  · cases e1
    refine .inr ⟨g, 0, rfl, fun j u hu => ?_⟩
    have hj : j < n * size := by rw [← hl]; exact (List.getElem?_eq_some_iff.1 hu).1
    rw [Nat.zero_add, World.ownsRow.cellAt h0 j hj, hu]
theorem KeysAt.cells {w : World} {ao : Option Addr} {L : List K} (h : KeysAt w ao L) : CellsAt w ao (cks L) := by
  rcases h with rfl | h
  · exact .inl rfl
  · exact .inr h
theorem info_instr : (Try.prog.info? 66).map (fun i => (i.zero, i.size, i.bytes)) = some (some (.agg #[.int .i64 0, .int .i64 0]), 2, 16) := by kernel_rfl
theorem clone_instr (w : World) (ao : Option Addr) (n cap : Nat) (xs : List Value) (hl : xs.length = n * 2) (h : CellsAt w ao xs) (hnil : ao = none → n = 0 ∧ cap = 0) (h1 : ∀ u ∈ xs, u.oneCell' = true) (hm : n * 16 ≤ 140737488355328) :
    Calls Try.prog 31 #[.slice ao n cap] w fun e w' => ∃ v, e = .returned v ∧ w'.ownsRow w.heap.size 66 2 v n xs ∧ Go.RowKit.Below w.heap.size w w' := by
  have q22 : ∀ (w : World) (a : Option Addr) (n c n' c' : Nat), (binOp .eql 22 (.slice a n c) (.slice none n' c')).run Try.prog w = .ok (.bool a.isNone) w := fun w a n c n' c' => Lib.run_eql_slice_nil w _ _ a n c n' c' Try.underlying22
  cases ao with
  | none =>
    obtain ⟨rfl, rfl⟩ := hnil rfl
    have h0 : xs = [] := List.eq_nil_of_length_eq_zero (by rw [hl, Nat.zero_mul])
    subst h0
    clear h hl hnil h1
    go_enter Try.func31, Try.ntmps31
    go_wp2
    go_ret
    exact ⟨_, rfl, World.ownsRow_nil _ _ _ _, Below.refl _ _⟩
  | some ad =>
    obtain ⟨i0, hi, hz0, hz1, hz2⟩ := info_parts info_instr
    have HX : Hid (∀ j u, xs[j]? = some u → (w.alloc (.cells #[] 66)).cell? (ad.add j) = some u) := fun j u hu => by
      rcases h with h0 | ⟨b, off, e, hc⟩
      · subst h0; simp at hu
      · cases e; rw [addr_add]; exact Lib.cell?_alloc_some _ (hc j u hu)
    have HL : Hid (xs.length = n * 2 ∧ (∀ u ∈ xs, u.oneCell' = true) ∧ n * 16 ≤ 140737488355328) := ⟨hl, h1, hm⟩
    have HO : Hid ((w.alloc (.cells #[] 66)).ownsRow w.heap.size 66 2 (.slice (some ⟨w.heap.size, 0, none⟩) 0 0) 0 []) := World.ownsRow_made w #[] 0 (Nat.le_refl _) (Nat.zero_le _) (by simp)
    clear h hl hnil h1 hm
    go_enter Try.func31, Try.ntmps31
    go_wp2_with (at_builtin; refine wpList_append_gen rfl _ _ 22 66 i0 (.agg #[.int .i64 0, .int .i64 0]) 2 16 Try.underlying22 hi hz0 hz1 hz2 rfl (by decide) rfl w.heap.size (.slice (some ⟨w.heap.size, 0, none⟩) 0 0) 0 [] rfl HO.out ad n cap xs rfl HL.out.1 HX.out HL.out.2.1 (by have := HL.out.2.2; unfold maxLen; omega) (by have := HL.out.2.2; omega) (by simp) ?_; intro v' w1 hown hgrow)
    go_ret
    exact ⟨v', rfl, by simpa using hown, ((Below.refl _ w).alloc (Nat.le_refl _) _).grown hgrow (by simp) (by intro k hk; simp [Value.ownBlock] at hk; omega)⟩
theorem info_i64 : (Try.prog.info? 2).map (fun i => (i.zero, i.size, i.bytes)) = some (some (.int .i64 0), 1, 8) := by kernel_rfl
theorem clone_i64 (w : World) (ao : Option Addr) (n cap : Nat) (xs : List Value) (hl : xs.length = n * 1) (h : CellsAt w ao xs) (hnil : ao = none → n = 0 ∧ cap = 0) (h1 : ∀ u ∈ xs, u.oneCell' = true) (hm : n * 8 ≤ 140737488355328) :
    Calls Try.prog 32 #[.slice ao n cap] w fun e w' => ∃ v, e = .returned v ∧ w'.ownsRow w.heap.size 2 1 v n xs ∧ Go.RowKit.Below w.heap.size w w' := by
  have q22 : ∀ (w : World) (a : Option Addr) (n c n' c' : Nat), (binOp .eql 25 (.slice a n c) (.slice none n' c')).run Try.prog w = .ok (.bool a.isNone) w := fun w a n c n' c' => Lib.run_eql_slice_nil w _ _ a n c n' c' Try.underlying25
  cases ao with
  | none =>
    obtain ⟨rfl, rfl⟩ := hnil rfl
    have h0 : xs = [] := List.eq_nil_of_length_eq_zero (by rw [hl, Nat.zero_mul])
    subst h0
    clear h hl hnil h1
    go_enter Try.func32, Try.ntmps32
    go_wp2
    go_ret
    exact ⟨_, rfl, World.ownsRow_nil _ _ _ _, Below.refl _ _⟩
  | some ad =>
    obtain ⟨i0, hi, hz0, hz1, hz2⟩ := info_parts info_i64
    have HX : Hid (∀ j u, xs[j]? = some u → (w.alloc (.cells #[] 2)).cell? (ad.add j) = some u) := fun j u hu => by
      rcases h with h0 | ⟨b, off, e, hc⟩
      · subst h0; simp at hu
      · cases e; rw [addr_add]; exact Lib.cell?_alloc_some _ (hc j u hu)
    have HL : Hid (xs.length = n * 1 ∧ (∀ u ∈ xs, u.oneCell' = true) ∧ n * 8 ≤ 140737488355328) := ⟨hl, h1, hm⟩
    have HO : Hid ((w.alloc (.cells #[] 2)).ownsRow w.heap.size 2 1 (.slice (some ⟨w.heap.size, 0, none⟩) 0 0) 0 []) := World.ownsRow_made w #[] 0 (Nat.le_refl _) (Nat.zero_le _) (by simp)
    clear h hl hnil h1 hm
    go_enter Try.func32, Try.ntmps32
    go_wp2_with (at_builtin; refine wpList_append_gen rfl _ _ 25 2 i0 (.int .i64 0) 1 8 Try.underlying25 hi hz0 hz1 hz2 rfl (by decide) rfl w.heap.size (.slice (some ⟨w.heap.size, 0, none⟩) 0 0) 0 [] rfl HO.out ad n cap xs rfl HL.out.1 HX.out HL.out.2.1 (by have := HL.out.2.2; unfold maxLen; omega) (by have := HL.out.2.2; omega) (by simp) ?_; intro v' w1 hown hgrow)
    go_ret
    exact ⟨v', rfl, by simpa using hown, ((Below.refl _ w).alloc (Nat.le_refl _) _).grown hgrow (by simp) (by intro k hk; simp [Value.ownBlock] at hk; omega)⟩
theorem info_cell : (Try.prog.info? 64).map (fun i => (i.zero, i.size, i.bytes)) = some (some (.agg #[.bool false, .int .i64 0]), 2, 16) := by kernel_rfl
theorem clone_cell (w : World) (ao : Option Addr) (n cap : Nat) (xs : List Value) (hl : xs.length = n * 2) (h : CellsAt w ao xs) (hnil : ao = none → n = 0 ∧ cap = 0) (h1 : ∀ u ∈ xs, u.oneCell' = true) (hm : n * 16 ≤ 140737488355328) :
    Calls Try.prog 33 #[.slice ao n cap] w fun e w' => ∃ v, e = .returned v ∧ w'.ownsRow w.heap.size 64 2 v n xs ∧ Go.RowKit.Below w.heap.size w w' := by
  have q22 : ∀ (w : World) (a : Option Addr) (n c n' c' : Nat), (binOp .eql 26 (.slice a n c) (.slice none n' c')).run Try.prog w = .ok (.bool a.isNone) w := fun w a n c n' c' => Lib.run_eql_slice_nil w _ _ a n c n' c' Try.underlying26
  cases ao with
  | none =>
    obtain ⟨rfl, rfl⟩ := hnil rfl
    have h0 : xs = [] := List.eq_nil_of_length_eq_zero (by rw [hl, Nat.zero_mul])
    subst h0
    clear h hl hnil h1
    go_enter Try.func33, Try.ntmps33
    go_wp2
    go_ret
    exact ⟨_, rfl, World.ownsRow_nil _ _ _ _, Below.refl _ _⟩
  | some ad =>
    obtain ⟨i0, hi, hz0, hz1, hz2⟩ := info_parts info_cell
    have HX : Hid (∀ j u, xs[j]? = some u → (w.alloc (.cells #[] 64)).cell? (ad.add j) = some u) := fun j u hu => by
      rcases h with h0 | ⟨b, off, e, hc⟩
      · subst h0; simp at hu
      · cases e; rw [addr_add]; exact Lib.cell?_alloc_some _ (hc j u hu)
    have HL : Hid (xs.length = n * 2 ∧ (∀ u ∈ xs, u.oneCell' = true) ∧ n * 16 ≤ 140737488355328) := ⟨hl, h1, hm⟩
    have HO : Hid ((w.alloc (.cells #[] 64)).ownsRow w.heap.size 64 2 (.slice (some ⟨w.heap.size, 0, none⟩) 0 0) 0 []) := World.ownsRow_made w #[] 0 (Nat.le_refl _) (Nat.zero_le _) (by simp)
    clear h hl hnil h1 hm
    go_enter Try.func33, Try.ntmps33
    go_wp2_with (at_builtin; refine wpList_append_gen rfl _ _ 26 64 i0 (.agg #[.bool false, .int .i64 0]) 2 16 Try.underlying26 hi hz0 hz1 hz2 rfl (by decide) rfl w.heap.size (.slice (some ⟨w.heap.size, 0, none⟩) 0 0) 0 [] rfl HO.out ad n cap xs rfl HL.out.1 HX.out HL.out.2.1 (by have := HL.out.2.2; unfold maxLen; omega) (by have := HL.out.2.2; omega) (by simp) ?_; intro v' w1 hown hgrow)
    go_ret
    exact ⟨v', rfl, by simpa using hown, ((Below.refl _ w).alloc (Nat.le_refl _) _).grown hgrow (by simp) (by intro k hk; simp [Value.ownBlock] at hk; omega)⟩
theorem info_put : (Try.prog.info? 60).map (fun i => (i.zero, i.size, i.bytes)) = some (some (.agg #[.int .i64 0, .int .i64 0]), 2, 16) := by kernel_rfl
theorem clone_put (w : World) (ao : Option Addr) (n cap : Nat) (xs : List Value) (hl : xs.length = n * 2) (h : CellsAt w ao xs) (hnil : ao = none → n = 0 ∧ cap = 0) (h1 : ∀ u ∈ xs, u.oneCell' = true) (hm : n * 16 ≤ 140737488355328) :
    Calls Try.prog 40 #[.slice ao n cap] w fun e w' => ∃ v, e = .returned v ∧ w'.ownsRow w.heap.size 60 2 v n xs ∧ Go.RowKit.Below w.heap.size w w' := by
  have q22 : ∀ (w : World) (a : Option Addr) (n c n' c' : Nat), (binOp .eql 31 (.slice a n c) (.slice none n' c')).run Try.prog w = .ok (.bool a.isNone) w := fun w a n c n' c' => Lib.run_eql_slice_nil w _ _ a n c n' c' Try.underlying31
  cases ao with
  | none =>
    obtain ⟨rfl, rfl⟩ := hnil rfl
    have h0 : xs = [] := List.eq_nil_of_length_eq_zero (by rw [hl, Nat.zero_mul])
    subst h0
    clear h hl hnil h1
    go_enter Try.func40, Try.ntmps40
    go_wp2
    go_ret
    exact ⟨_, rfl, World.ownsRow_nil _ _ _ _, Below.refl _ _⟩
  | some ad =>
    obtain ⟨i0, hi, hz0, hz1, hz2⟩ := info_parts info_put
    have HX : Hid (∀ j u, xs[j]? = some u → (w.alloc (.cells #[] 60)).cell? (ad.add j) = some u) := fun j u hu => by
      rcases h with h0 | ⟨b, off, e, hc⟩
      · subst h0; simp at hu
      · cases e; rw [addr_add]; exact Lib.cell?_alloc_some _ (hc j u hu)
    have HL : Hid (xs.length = n * 2 ∧ (∀ u ∈ xs, u.oneCell' = true) ∧ n * 16 ≤ 140737488355328) := ⟨hl, h1, hm⟩
    have HO : Hid ((w.alloc (.cells #[] 60)).ownsRow w.heap.size 60 2 (.slice (some ⟨w.heap.size, 0, none⟩) 0 0) 0 []) := World.ownsRow_made w #[] 0 (Nat.le_refl _) (Nat.zero_le _) (by simp)
    clear h hl hnil h1 hm
    go_enter Try.func40, Try.ntmps40
    go_wp2_with (at_builtin; refine wpList_append_gen rfl _ _ 31 60 i0 (.agg #[.int .i64 0, .int .i64 0]) 2 16 Try.underlying31 hi hz0 hz1 hz2 rfl (by decide) rfl w.heap.size (.slice (some ⟨w.heap.size, 0, none⟩) 0 0) 0 [] rfl HO.out ad n cap xs rfl HL.out.1 HX.out HL.out.2.1 (by have := HL.out.2.2; unfold maxLen; omega) (by have := HL.out.2.2; omega) (by simp) ?_; intro v' w1 hown hgrow)
    go_ret
    exact ⟨v', rfl, by simpa using hown, ((Below.refl _ w).alloc (Nat.le_refl _) _).grown hgrow (by simp) (by intro k hk; simp [Value.ownBlock] at hk; omega)⟩
end Go.Proofs.Ytbpgafchagpmoaa
