/-
  ROWS OF LISTS; mark, full, sameLists.
-/
import Derived.Test.YtnjgaibcpcpmcabKLst
namespace Go.Proofs.Ytnjgaibcpcpmcab
open Go.RowKit Go.Sort

/-- a row of lists of the call's own -/
def OwnR (w : World) (base : Nat) (v : Value) (xs : List Value) : Prop := w.ownsRow base 29 1 v xs.length xs
theorem OwnR.nil (w : World) (base : Nat) : OwnR w base (.slice none 0 0) [] := World.ownsRow_nil _ _ _ _
theorem OwnR.shape {w : World} {base : Nat} {v : Value} {xs : List Value} (h : OwnR w base v xs) :
    (v = .slice none 0 0 ∧ xs = []) ∨ ∃ g cap, v = .slice (some ⟨g, 0, none⟩) xs.length cap ∧ base ≤ g ∧ g < w.heap.size ∧ xs.length ≤ cap ∧ ∀ j x, xs[j]? = some x → w.cell? ⟨g, j, none⟩ = some x := by
  obtain ⟨hl, h⟩ := h
  rcases h with ⟨rfl, h0⟩ | ⟨g, cap, cur, rfl, hb, hg, hn, hm, hs, ht⟩
  · exact .inl ⟨rfl, List.eq_nil_of_length_eq_zero h0⟩
  · refine .inr ⟨g, cap, rfl, hb, (Array.getElem?_eq_some_iff.1 hg).1, hn, fun j u hu => ?_⟩
    have hj : j < xs.length * 1 := by rw [Nat.mul_one]; exact (List.getElem?_eq_some_iff.1 hu).1
    have e := World.ownsRow.cellAt (w := w) (base := base) (e := 29) (size := 1) (g := g) (cap := cap) ⟨hl, .inr ⟨g, cap, cur, rfl, hb, hg, hn, hm, hs, ht⟩⟩ j hj
    rw [e, hu]
theorem OwnR.lt {w : World} {base : Nat} {v : Value} {xs : List Value} (h : OwnR w base v xs) : ∀ k, v.ownBlock = some k → base ≤ k ∧ k < w.heap.size := World.ownsRow.lt h
theorem OwnR.same {w w1 : World} {base : Nat} {v : Value} {xs : List Value} (h : OwnR w base v xs) (hs : ∀ g, v.ownBlock = some g → w1.heap[g]? = w.heap[g]?) : OwnR w1 base v xs := by
  obtain ⟨hl, h⟩ := h
  refine ⟨hl, ?_⟩
  rcases h with h | ⟨g, cap, cur, rfl, hg, hh, r⟩
  · exact .inl h
  · exact .inr ⟨g, cap, cur, rfl, hg, (hs g rfl).trans hh, r⟩
theorem OwnR.kept {w w1 : World} {base : Nat} {v : Value} {xs : List Value} (h : OwnR w base v xs) (hb : Below w.heap.size w w1) : OwnR w1 base v xs := h.same fun g hg => hb.block g (h.lt g hg).2
theorem OwnR.grown {w w1 : World} {base : Nat} {v : Value} {xs : List Value} {row : Option Nat} (h : OwnR w base v xs) (hg : w.grownBy w1 row) (hne : ∀ b, v.ownBlock = some b → row ≠ some b) : OwnR w1 base v xs :=
  h.same fun g hgg => hg.block g (h.lt g hgg).2 (fun e => hne g hgg e.symm)
theorem OwnK.grown {w w1 : World} {base : Nat} {v : Value} {L : List K} {row : Option Nat} (h : OwnK w base v L) (hg : w.grownBy w1 row) (hne : ∀ b, v.ownBlock = some b → row ≠ some b) : OwnK w1 base v L :=
  h.same fun g hgg => hg.block g (h.lt g hgg).2 (fun e => hne g hgg e.symm)

theorem infoR : (Try.prog.info? 29).map (fun i => (i.zero, i.size, i.bytes)) = some (some (.slice none 0 0), 1, 24) := by kernel_rfl
theorem run_append_rows {w : World} (ty : TypeId) (base : Nat) (v : Value) (xs : List Value) (hown : OwnR w base v xs) (B : Nat) (x : Value) (hx : w.cell? ⟨B, 0, none⟩ = some x) (h1 : x.oneCell' = true)
    (hlen : (xs.length + 1) * 24 ≤ 140737488355328) (hbase : base ≤ w.heap.size) :
    ∃ v' w', (Builtin.append_ #[23, 23] ty #[v, .slice (some ⟨B, 0, none⟩) 1 1]).run Try.prog w = .ok v' w' ∧ OwnR w' base v' (xs ++ [x]) ∧ w.grownBy w' v.ownBlock ∧ (v'.ownBlock = v.ownBlock ∨ v'.ownBlock = some w.heap.size) := by
  obtain ⟨i0, hi, hz0, hz1, hz2⟩ := info_parts infoR
  obtain ⟨v', w', hr, h2, h3, _, h5⟩ := run_append_own_at (P := Try.prog) w base 23 ty 29 i0 (.slice none 0 0) 1 24 Try.underlying23 hi hz0 hz1 hz2 rfl (by decide) v xs.length xs hown ⟨B, 0, none⟩ 1 1 [x] rfl
    (by
      intro j u hu
      match j, hu with
      | 0, hu => simp at hu; rw [addr_add, ← hu]; exact hx
      | j + 1, hu => simp at hu) (by simpa using h1) (by unfold maxLen; omega) hlen hbase
  exact ⟨v', w', hr, by unfold OwnR; rw [List.length_append]; exact h2, h3, h5⟩
theorem wpList_append_rows {w : World} {ops : Array Oper} {rest : List Oper} {o : Oper} {a : Act} {Q : Exit → Act → World → Prop} (hgd : o.guard = none) (s x : Operand)
    (ho : o.op = .call { callee := .builtin .append, args := #[s, x], argTypes := #[23, 23] }) (base : Nat) (v : Value) (xs : List Value) (hs : a.eval s = v) (hown : OwnR w base v xs)
    (B : Nat) (y : Value) (hx : a.eval x = .slice (some ⟨B, 0, none⟩) 1 1) (hy : w.cell? ⟨B, 0, none⟩ = some y) (h1 : y.oneCell' = true) (hlen : (xs.length + 1) * 24 ≤ 140737488355328) (hbase : base ≤ w.heap.size)
    (h : ∀ v' w', OwnR w' base v' (xs ++ [y]) → w.grownBy w' v.ownBlock → (v'.ownBlock = v.ownBlock ∨ v'.ownBlock = some w.heap.size) → wpList Try.prog ops Q rest (a.put o.dst v') w') : wpList Try.prog ops Q (o :: rest) a w := by
  obtain ⟨v', w', hr, h2, h3, h4⟩ := run_append_rows o.type base v xs hown B y hy h1 hlen hbase
  refine wpList_plain hgd fun K hK' => ?_
  unfold Oper.wp
  simp [execOp, ho, resolve, invoke, builtin, hs, hx, hr, Result.andThen]
  exact hK' _ _ (h v' w' h2 h3 h4)

/-- the mark of the i-th list -/
def mkK (i : Nat) : K := (-20 - (i : Int), (i : Int))
theorem mark_any (w : World) (i : Nat) (hi : i ≤ 8796093022208) :
    Calls Try.prog 39 #[.int .i64 (i : Int)] w fun e w' => e = .returned (.agg #[.int .i64 (mkK i).1, .int .i64 (mkK i).2]) ∧ ∃ q os, w' = grow (w.drewN q) os := by
  go_enter Try.func39, Try.ntmps39
  go_wp2
  refine bodyPost_ret (v := .agg #[.int .i64 (mkK i).1, .int .i64 (mkK i).2]) (by simp [results, Try.results39, go_sem, mkK]) rfl ?_
  exact ⟨rfl, Grew.alloc (Grew.refl _) _⟩

theorem kd_replicate {n j : Nat} {x : K} (h : j < n) : kd (List.replicate n x) j = x := by simp [kd, List.getD_eq_getElem?_getD, h]

set_option maxHeartbeats 1000000 in
theorem full_any (w : World) (ao : Option Addr) (n cap i : Nat) (h : Lst w ao n cap (List.replicate n (mkK i))) (hm : n ≤ 8796093022208) (hi : i ≤ 8796093022208) :
    Calls Try.prog 55 #[.slice ao n cap, .int .i64 (i : Int)] w fun e w' => e = .returned (.bool true) ∧ ∃ q os, w' = grow (w.drewN q) os := by
  have mx := mixed
  have HK : Hid (Lst w ao n cap (List.replicate n (mkK i))) := h
  have HM : Hid (∀ w, Calls Try.prog 39 #[.int .i64 (i : Int)] w fun e w' => e = .returned (.agg #[.int .i64 (mkK i).1, .int .i64 (mkK i).2]) ∧ ∃ q os, w' = grow (w.drewN q) os) := fun w => mark_any w i hi
  have HD : Hid (∀ j, j < n → kd (List.replicate n (mkK i)) j = mkK i) := fun j hj => kd_replicate hj
  clear h
  generalize List.replicate n (mkK i) = L at *
  generalize mkK i = x at *
  obtain ⟨x1, x2⟩ := x
  go_enter Try.func55, Try.ntmps55
  go_wp2_with fail
  go_loopw [5] (fun x wr => ∃ k : Nat, k ≤ n ∧ x = .int .i64 (k : Int) ∧ Hid (Grew w wr)) (fun x _ => n - (intOf x).toNat)
  case atStart => exact ⟨0, Nat.zero_le _, rfl, Grew.refl _⟩
  case round =>
    obtain ⟨k, hk, rfl, HG⟩ := hrel
    by_cases hlt : k < n
    · obtain ⟨bb, off, e, c1, c2⟩ := (HK.out.kept HG.out.below).at k hlt
      subst e
      rw [HD.out k hlt] at c1 c2
      simp only at c1 c2
      have g1 : ∀ n os, (grow (wr.drewN n) os).cell? ⟨bb, off + k * 2, none⟩ = some (.int .i64 x1) := fun n os => Grew.cell ⟨n, os, rfl⟩ c1
      have g2 : ∀ n os, (grow (wr.drewN n) os).cell? ⟨bb, off + k * 2 + 1, none⟩ = some (.int .i64 x2) := fun n os => Grew.cell ⟨n, os, rfl⟩ c2
      have hne := run_neKey x1 x2 x1 x2
      simp only [decide_true, Bool.not_true] at hne
      have hgd := fun op x y => run_eqGuard op x y x1 x2 x1 x2
      clear c1 c2
      go_wp2_with fail
      refine wp_region_quiet_grown mx (by kernel_rfl) ?_
      repeat (go_big_quiet_step ((go_at_call 39; exact Calls.grown_of (HM.out _))))
      refine wpQuiet_nil ?_
      intro _ hw'
      obtain ⟨⟨nq, osq⟩, hw''⟩ := hw'
      subst hw''
      have HG2 : Hid (Grew w (grow (wr.drewN nq) osq)) := HG.out.trans ⟨_, _, rfl⟩
      generalize grow (wr.drewN nq) osq = W2 at *
      go_wp2_with fail
      go_roundw
      case rel => exact ⟨k + 1, by omega, by go_num, HG2⟩
      case measure => simp [intOf]; omega
    · obtain rfl : k = n := by omega
      go_wp2
      go_ret
      exact ⟨rfl, HG.out⟩

/-- a row of lists, read -/
def ListsAt (w : World) (ao : Option Addr) (n : Nat) (vs : Nat → Value) : Prop :=
  n = 0 ∨ ∃ b off, ao = some ⟨b, off, none⟩ ∧ ∀ i, i < n → w.cell? ⟨b, off + i, none⟩ = some (vs i)
/-- and what its lists hold -/
def Holds (w : World) (n : Nat) (vs : Nat → Value) (Ms : Nat → List K) : Prop := ∀ i, i < n → ∃ a m c, vs i = .slice a m c ∧ Lst w a m c (Ms i)

set_option maxHeartbeats 1000000 in
theorem sameLists_any (w : World) (ao bo : Option Addr) (n ca cb : Nat) (vs us : Nat → Value) (Ms : Nat → List K) (ha : ListsAt w ao n vs) (hb : ListsAt w bo n us) (h1 : Holds w n vs Ms) (h2 : Holds w n us Ms)
    (hm : ∀ i, i < n → (Ms i).length ≤ 8796093022208) (hn : n ≤ 8796093022208) :
    Calls Try.prog 38 #[.slice ao n ca, .slice bo n cb] w fun e w' => e = .returned (.bool true) ∧ ∃ q, w' = w.drewN q := by
  have HA : Hid (ListsAt w ao n vs ∧ Holds w n vs Ms) := ⟨ha, h1⟩
  have HB : Hid (ListsAt w bo n us ∧ Holds w n us Ms) := ⟨hb, h2⟩
  have HM : Hid (∀ i, i < n → (Ms i).length ≤ 8796093022208) := hm
  clear ha hb h1 h2 hm
  go_enter Try.func38, Try.ntmps38
  go_wp2_with fail
  go_loopw [5] (fun x wr => ∃ k : Nat, k ≤ n ∧ x = .int .i64 (k : Int) ∧ Hid (∃ q, wr = w.drewN q)) (fun x _ => n - (intOf x).toNat)
  case atStart => exact ⟨0, Nat.zero_le _, rfl, 0, rfl⟩
  case round =>
    obtain ⟨k, hk, rfl, HQ⟩ := hrel
    by_cases hlt : k < n
    · have HW : Hid (Below w.heap.size w wr ∧ wr.heap.size = w.heap.size) := by obtain ⟨q, rfl⟩ := HQ.out; exact ⟨⟨rfl, rfl, rfl, Nat.le_refl _, fun _ _ => rfl⟩, rfl⟩
      rcases HA.out.1 with h0 | ⟨ba, oa, e1, ca1⟩
      · omega
      rcases HB.out.1 with h0 | ⟨bb, ob, e2, cb1⟩
      · omega
      subst e1 e2
      have c1 := ca1 k hlt
      have c2 := cb1 k hlt
      obtain ⟨a1, m1, k1, e1, l1⟩ := HA.out.2 k hlt
      obtain ⟨a2, m2, k2, e2, l2⟩ := HB.out.2 k hlt
      rw [e1] at c1
      rw [e2] at c2
      replace c1 : wr.cell? ⟨ba, oa + k, none⟩ = some (.slice a1 m1 k1) := (HW.out.1.cell (p := ⟨ba, oa + k, none⟩) (cell_lt c1)).trans c1
      replace c2 : wr.cell? ⟨bb, ob + k, none⟩ = some (.slice a2 m2 k2) := (HW.out.1.cell (p := ⟨bb, ob + k, none⟩) (cell_lt c2)).trans c2
      have hml := HM.out k hlt
      have HS : Hid (∀ q, Calls Try.prog 23 #[.slice a1 m1 k1, .slice a2 m2 k2] (wr.drewN q) fun e w' => e = .returned (.bool true) ∧ ∃ m, w' = (wr.drewN q).drewN m) := fun q => by
        have hb : Below w.heap.size w (wr.drewN q) := HW.out.1.trans ⟨rfl, rfl, rfl, Nat.le_refl _, fun _ _ => rfl⟩
        have h := sameKeys_any (wr.drewN q) a1 a2 m1 k1 m2 k2 (Ms k) (Ms k) (l1.kept hb) (l2.kept hb) (by rw [l1.len]; exact hml) (by rw [l2.len]; exact hml)
        rwa [decide_eq_true rfl] at h
      clear ca1 cb1 l1 l2 e1 e2 hml
      go_wp2_with fail
      go_quiet ((go_at_call 23; exact Calls.quiet_of (HS.out _)))
      have HQ2 : Hid (∃ q, wr.drewN nq = w.drewN q) := by obtain ⟨q, rfl⟩ := HQ.out; exact ⟨q + nq, World.drewN_drewN _ _ _⟩
      generalize wr.drewN nq = W2 at *
      go_wp2_with fail
      go_roundw
      case rel => exact ⟨k + 1, by omega, by go_num, HQ2⟩
      case measure => simp [intOf]; omega
    · obtain rfl : k = n := by omega
      go_wp2
      go_ret
      exact ⟨rfl, HQ.out⟩

end Go.Proofs.Ytnjgaibcpcpmcab
