/-
  DictHashes: the rows of keys and values go on.
-/
import Derived.Test.YtghfofjpoeckkaaHSt
namespace Go.Proofs.Ytghfofjpoeckkaa
open Go.RowKit Go.Sort

theorem wpL_appH {w : World} {ops : Array Oper} {rest : List Oper} {o : Oper} {a : Act} {Q : Exit → Act → World → Prop} (hgd : o.guard = none) (s x : Operand) (TS : TypeId)
    (ho : o.op = .call { callee := .builtin .append, args := #[s, x], argTypes := #[TS, TS] }) (v u : Value) (hs : a.eval s = v) (hx : a.eval x = u) {post : Value → World → Prop}
    (hr : ∀ ty, ∃ v' w', (Builtin.append_ #[TS, TS] ty #[v, u]).run Try.prog w = .ok v' w' ∧ post v' w') (h : ∀ v' w', post v' w' → wpList Try.prog ops Q rest (a.put o.dst v') w') : wpList Try.prog ops Q (o :: rest) a w := by
  obtain ⟨v', w', hr, h2⟩ := hr o.type
  refine wpList_plain hgd fun K hK' => ?_
  unfold Oper.wp
  simp [execOp, ho, resolve, invoke, builtin, hs, hx, hr, Result.andThen]
  exact hK' _ _ (h v' w' h2)
theorem step_appH {w : World} {ops : Array Oper} {o : Oper} {a : Act} {K' : Act → World → Prop} {Q : Exit → Act → World → Prop} {E : Prop} (hgd : o.guard = none) (s x : Operand) (TS : TypeId)
    (ho : o.op = .call { callee := .builtin .append, args := #[s, x], argTypes := #[TS, TS] }) (v u : Value) (hs : a.eval s = v) (hx : a.eval x = u) (hty : o.type = TS) {v' : Value} {w' : World}
    (hr : (Builtin.append_ #[TS, TS] TS #[v, u]).run Try.prog w = .ok v' w') (h : K' (a.put o.dst v') w') :
    if Region.wanted o (yielded ops a.tmps) = true then Oper.wp Try.prog o a w K' Q else E := by
  have hw : Region.wanted o (yielded ops a.tmps) = true := by simp [Region.wanted, hgd]
  rw [if_pos hw]
  unfold Oper.wp execOp
  simp only [ho, hty, resolve, invoke, builtin, Sem.run_bind, Sem.run_pure, Result.andThen_ok, List.map_toArray, List.map_cons, List.map_nil, hs, hx, hr]
  exact h
/-- the three go on where only a row's own block turns -/
theorem T3.row {n0 Pa Pb Da Db Dc : Nat} {la lb lc : List (K × (Int × Int))} {W W' : World} {T : TypeId} {row : Option Nat} (h : T3 n0 Pa Pb Da Db Dc la lb lc W) (hg : W.grownBy W' row) (hr : ∀ g, row = some g → ∃ cs, W.heap[g]? = some (.cells cs T (0, 0))) (hT : NoD T) : T3 n0 Pa Pb Da Db Dc la lb lc W' := by
  obtain ⟨Xa, Xb, Xc, ⟨ha, hb', hc⟩, r⟩ := h
  refine ⟨Xa, Xb, Xc, ⟨ha.same fun k hk => hg.block k (ha.lt hk) (fun e => ?_), hb'.same fun k hk => hg.block k (hb'.lt hk) (fun e => ?_), hc.same fun k hk => hg.block k (hc.lt hk) (fun e => ?_)⟩, r⟩
  · obtain ⟨cs, hcs⟩ := hr k e.symm
    exact ha.noT hcs hT hk
  · obtain ⟨cs, hcs⟩ := hr k e.symm
    exact hb'.noT hcs hT hk
  · obtain ⟨cs, hcs⟩ := hr k e.symm
    exact hc.noT hcs hT hk
theorem blk_row {W W' : World} {T T' : TypeId} {row : Option Nat} {B : Nat} {cs : Array Value} (hg : W.grownBy W' row) (hr : ∀ g, row = some g → ∃ cs, W.heap[g]? = some (.cells cs T (0, 0))) (hne : T' ≠ T) (h : W.heap[B]? = some (.cells cs T' (0, 0))) : W'.heap[B]? = some (.cells cs T' (0, 0)) := (hg.block B (blk_lt h) (fun e => by
  obtain ⟨cs', hc⟩ := hr B e.symm
  rw [h] at hc
  simp only [Option.some.injEq, Obj.cells.injEq] at hc
  exact hne hc.2.1)).trans h
theorem own_row {W W' : World} {T T' : TypeId} {row : Option Nat} {base sz n : Nat} {v : Value} {xs : List Value} (hg : W.grownBy W' row) (hr : ∀ g, row = some g → ∃ cs, W.heap[g]? = some (.cells cs T (0, 0))) (hne : T' ≠ T) (h : W.ownsRow base T' sz v n xs) : W'.ownsRow base T' sz v n xs := own_same h fun g hgb => by
  obtain ⟨cur, hc⟩ := own_blk h hgb
  rw [blk_row hg hr hne hc, hc]
/-- the rows on the way -/
structure St2 (n0 Pa Pb Da Db Dc : Nat) (w W : World) (l : List (K × (Int × Int))) (ks : List K) (vs : List (Int × Int)) (ov vv : Value) (B16 B20 : Nat) (x : Wr) (v : Int × Int) : Prop where
  t3 : T3 n0 Pa Pb Da Db Dc l l l W
  os : W.ownsRow n0 9 1 ov ks.length (sks ks)
  vs : W.ownsRow n0 28 2 vv vs.length (prs vs)
  bel : Below n0 w W
  le : n0 ≤ w.heap.size
  x16 : W.heap[B16]? = some (.cells #[.string x.t, .int .i64 x.n, .bool x.o] 34 (0, 0))
  x20 : W.heap[B20]? = some (.cells #[.int .i64 v.1, .int .i64 v.2] 28 (0, 0))
  ne : vv.ownBlock ≠ some B20
theorem own_adr {W : World} {base T sz n m : Nat} {oa : Option Addr} {oc : Nat} {xs : List Value} (h : W.ownsRow base T sz (.slice oa m oc) n xs) (hm : m = n) (hp : 0 < m) : ∃ g, oa = some ⟨g, 0, none⟩ ∧ m ≤ oc := by
  obtain ⟨g, c, e, _, _, hc⟩ := own_open h (fun e => by simp only [Value.slice.injEq] at e; omega)
  simp only [Value.slice.injEq] at e
  exact ⟨g, e.1, by omega⟩
theorem sks_app (A C : List K) : sks (A ++ C) = sks A ++ sks C := by simp [sks]
section
variable {n0 Pa Pb Da Db Dc : Nat} {w W W' : World} {l : List (K × (Int × Int))} {ks : List K} {vs : List (Int × Int)} {ov vv : Value} {B16 B20 : Nat} {x : Wr} {v : Int × Int}
theorem St2.n0s (h : St2 n0 Pa Pb Da Db Dc w W l ks vs ov vv B16 B20 x v) : n0 ≤ W.heap.size := Nat.le_trans h.le h.bel.size
theorem St2.kept (h : St2 n0 Pa Pb Da Db Dc w W l ks vs ov vv B16 B20 x v) (hb : Below W.heap.size W W') : St2 n0 Pa Pb Da Db Dc w W' l ks vs ov vv B16 B20 x v :=
  ⟨h.t3.same hb, own_kept h.os hb, own_kept h.vs hb, h.bel.trans (hb.mono h.n0s), h.le, (hb.block _ (blk_lt h.x16)).trans h.x16, (hb.block _ (blk_lt h.x20)).trans h.x20, h.ne⟩
theorem St2.hls (h : St2 n0 Pa Pb Da Db Dc w W l ks vs ov vv B16 B20 x v) (hk : ks = l.map Prod.fst) (hv : vs = l.map Prod.snd) : HLs n0 Pa Pb Da Db Dc w W l ov vv := by
  have h1 := h.os
  have h2 := h.vs
  rw [hk, List.length_map] at h1
  rw [hv, List.length_map] at h2
  exact ⟨h.t3, h1, h2, h.bel, h.le⟩
theorem St2.appS (h : St2 n0 Pa Pb Da Db Dc w W l ks vs ov vv B16 B20 x v) (t : K) (hn : ks.length ≤ 5000000000000) (ty : TypeId) :
    ∃ v' w', (Builtin.append_ #[31, 31] ty #[ov, .slice (some ⟨W.heap.size, 0, none⟩) 1 1]).run Try.prog (W.alloc (.cells #[.string t] 9)) = .ok v' w' ∧ (∃ ya yc, v' = .slice ya (ks.length + 1) yc) ∧ St2 n0 Pa Pb Da Db Dc w w' l (ks ++ [t]) vs v' vv B16 B20 x v := by
  have hA := h.kept ((Below.refl W.heap.size W).alloc (Nat.le_refl _) (.cells #[.string t] 9))
  have hb : (W.alloc (.cells #[.string t] 9)).heap[W.heap.size]? = some (.cells #[.string t] 9 (0, 0)) := heap_alloc_new _ _ rfl
  obtain ⟨v', w', q1, q2, q3, q4, _⟩ := akS.app (W.alloc (.cells #[.string t] 9)) ty n0 ov ks.length (sks ks) hA.os ⟨W.heap.size, 0, none⟩ 1 1 [.string t] rfl (fun j u hu => by
      rw [addr_add, Nat.zero_add]
      simp only [World.cell?, hb]
      simpa using hu) (by intro u hu; simp at hu; subst hu; rfl) (by omega) hA.n0s
  have hr : ∀ g, ov.ownBlock = some g → ∃ cs, (W.alloc (.cells #[.string t] 9)).heap[g]? = some (.cells cs 9 (0, 0)) := fun g hg => own_blk hA.os hg
  refine ⟨v', w', q1, own_form q2, hA.t3.row q3 hr noStr, ?_, own_row q3 hr (by decide) hA.vs, hA.bel.trans (grown_below q3 (fun k hk => (World.ownsRow.lt hA.os k hk).1) hA.n0s), h.le, blk_row q3 hr (by decide) hA.x16, blk_row q3 hr (by decide) hA.x20, h.ne⟩
  rw [sks_app, List.length_append]
  exact q2
theorem St2.appP (h : St2 n0 Pa Pb Da Db Dc w W l ks vs ov vv B16 B20 x v) (hn : vs.length ≤ 5000000000000) (ty : TypeId) :
    ∃ v' w', (Builtin.append_ #[32, 32] ty #[vv, .slice (some ⟨W.heap.size, 0, none⟩) 1 1]).run Try.prog (W.alloc (.cells #[.int .i64 v.1, .int .i64 v.2] 28)) = .ok v' w' ∧ (∃ ya yc, v' = .slice ya (vs.length + 1) yc) ∧ St2 n0 Pa Pb Da Db Dc w w' l ks (vs ++ [v]) ov v' B16 B20 x v := by
  have hA := h.kept ((Below.refl W.heap.size W).alloc (Nat.le_refl _) (.cells #[.int .i64 v.1, .int .i64 v.2] 28))
  have hb : (W.alloc (.cells #[.int .i64 v.1, .int .i64 v.2] 28)).heap[W.heap.size]? = some (.cells #[.int .i64 v.1, .int .i64 v.2] 28 (0, 0)) := heap_alloc_new _ _ rfl
  obtain ⟨v', w', q1, q2, q3, q4, _⟩ := akP.app (W.alloc (.cells #[.int .i64 v.1, .int .i64 v.2] 28)) ty n0 vv vs.length (prs vs) hA.vs ⟨W.heap.size, 0, none⟩ 1 1 [.int .i64 v.1, .int .i64 v.2] rfl (fun j u hu => by
      rw [addr_add, Nat.zero_add]
      simp only [World.cell?, hb]
      simpa using hu) (by intro u hu; simp at hu; rcases hu with rfl | rfl <;> rfl) (by omega) hA.n0s
  have hr : ∀ g, vv.ownBlock = some g → ∃ cs, (W.alloc (.cells #[.int .i64 v.1, .int .i64 v.2] 28)).heap[g]? = some (.cells cs 28 (0, 0)) := fun g hg => own_blk hA.vs hg
  have hlt := blk_lt h.x20
  refine ⟨v', w', q1, own_form q2, hA.t3.row q3 hr noPr, own_row q3 hr (by decide) hA.os, ?_, hA.bel.trans (grown_below q3 (fun k hk => (World.ownsRow.lt hA.vs k hk).1) hA.n0s), h.le, blk_row q3 hr (by decide) hA.x16, (q3.block B20 (blk_lt hA.x20) (fun e => h.ne e.symm)).trans hA.x20, ?_⟩
  · rw [prs_append, List.length_append]
    exact q2
  · rcases q4 with q4 | q4
    · rw [q4]; exact h.ne
    · rw [q4]
      intro e
      have := Option.some.inj e
      simp only [World.size_alloc] at this
      omega
theorem prs_set (l : List (Int × Int)) (j : Nat) (v : Int × Int) : ((prs l).set (j * 2) (.int .i64 v.1)).set (j * 2 + 1) (.int .i64 v.2) = prs (l.set j v) := by
  induction l generalizing j with
  | nil => simp [prs]
  | cons u l ih =>
    cases j with
    | zero => simp [prs]
    | succ j =>
      rw [show (j + 1) * 2 = j * 2 + 1 + 1 by omega]
      simp only [prs, List.set_cons_succ, ih j]
theorem St2.setP {g vc : Nat} (h : St2 n0 Pa Pb Da Db Dc w W l ks vs ov (.slice (some ⟨g, 0, none⟩) vs.length vc) B16 B20 x v) (j : Nat) :
    St2 n0 Pa Pb Da Db Dc w ((W.setCell ⟨g, j * 2, none⟩ (.int .i64 v.1)).setCell ⟨g, j * 2 + 1, none⟩ (.int .i64 v.2)) l ks (vs.set j v) ov (.slice (some ⟨g, 0, none⟩) vs.length vc) B16 B20 x v := by
  have hr : ∀ g', some g = some g' → ∃ cs, W.heap[g']? = some (.cells cs 28 (0, 0)) := fun g' hg => own_blk h.vs hg
  have hg : W.grownBy ((W.setCell ⟨g, j * 2, none⟩ (.int .i64 v.1)).setCell ⟨g, j * 2 + 1, none⟩ (.int .i64 v.2)) (some g) := ⟨rfl, rfl, rfl, by simp, fun k _ hk => (heap_setCell_other _ _ _ _ (fun e => hk (by rw [e]))).trans (heap_setCell_other _ _ _ _ (fun e => hk (by rw [e])))⟩
  have hge := (World.ownsRow.lt h.vs g rfl).1
  refine ⟨h.t3.row hg hr noPr, own_row hg hr (by decide) h.os, ?_, h.bel.trans (grown_below hg (fun k hk => by cases hk; exact hge) h.n0s), h.le, blk_row hg hr (by decide) h.x16, (hg.block B20 (blk_lt h.x20) (fun e => h.ne e.symm)).trans h.x20, h.ne⟩
  rw [List.length_set, ← prs_set]
  exact (World.ownsRow.stored (World.ownsRow.stored h.vs _ _).1 _ _).1
theorem sks_take_drop (ks : List K) (j : Nat) : sks (ks.eraseIdx j) = sks (ks.take j) ++ sks (ks.drop (j + 1)) := by
  rw [← sks_app, List.eraseIdx_eq_take_drop_succ]
theorem prs_take_drop (vs : List (Int × Int)) (j : Nat) : prs (vs.eraseIdx j) = prs (vs.take j) ++ prs (vs.drop (j + 1)) := by
  rw [← prs_append, List.eraseIdx_eq_take_drop_succ]
theorem cells_left {W : World} {g : Nat} {xs A B : List Value} (hx : xs = A ++ B) (hc : ∀ i u, xs[i]? = some u → W.cell? ((⟨g, 0, none⟩ : Addr).add i) = some u) : ∀ i u, A[i]? = some u → W.cell? ((⟨g, 0, none⟩ : Addr).add i) = some u := fun i u hu => hc i u (by
  have hi : i < A.length := (List.getElem?_eq_some_iff.1 hu).1
  rw [hx, List.getElem?_append_left hi, hu])
theorem cells_right {W : World} {g : Nat} {xs A B : List Value} (hx : xs = A ++ B) (hc : ∀ i u, xs[i]? = some u → W.cell? ((⟨g, 0, none⟩ : Addr).add i) = some u) : ∀ i u, B[i]? = some u → W.cell? ((⟨g, A.length, none⟩ : Addr).add i) = some u := fun i u hu => by
  have := hc (A.length + i) u (by rw [hx, List.getElem?_append_right (by omega), Nat.add_sub_cancel_left, hu])
  rw [addr_add, Nat.zero_add] at this
  rw [addr_add]
  exact this
theorem prs_app (A C : List (Int × Int)) : prs (A ++ C) = prs A ++ prs C := prs_append A C
theorem St2.cutS {g oc : Nat} (h : St2 n0 Pa Pb Da Db Dc w W l ks vs (.slice (some ⟨g, 0, none⟩) ks.length oc) vv B16 B20 x v) (j : Nat) (hj : j < ks.length) (hn : ks.length ≤ 5000000000000) (ty : TypeId) (a2 : Addr) (ha2 : a2 = ⟨g, (j + 1) * 1, none⟩ ∨ (a2 = ⟨g, 0, none⟩ ∧ ks.length = j + 1)) (c2 : Nat) :
    ∃ g1 c1 w1 g2 c3 w2, (Builtin.append_ #[31, 31] ty #[.slice (some ⟨W.heap.size, 0, none⟩) 0 0, .slice (some ⟨g, 0, none⟩) j oc]).run Try.prog (W.alloc (.cells #[] 9)).drew = .ok (.slice (some ⟨g1, 0, none⟩) j c1) w1 ∧
      (Builtin.append_ #[31, 31] ty #[.slice (some ⟨g1, 0, none⟩) j c1, .slice (some a2) (ks.length - (j + 1)) c2]).run Try.prog w1 = .ok (.slice (some ⟨g2, 0, none⟩) (ks.length - 1) c3) w2 ∧
      St2 n0 Pa Pb Da Db Dc w w2 l (ks.eraseIdx j) vs (.slice (some ⟨g2, 0, none⟩) (ks.length - 1) c3) vv B16 B20 x v := by
  have hcs := World.ownsRow.cells h.os (g := g) rfl
  have e1 : sks ks = sks (ks.take j) ++ sks (ks.drop j) := by rw [← sks_app, List.take_append_drop]
  have e2 : sks ks = sks (ks.take (j + 1)) ++ sks (ks.drop (j + 1)) := by rw [← sks_app, List.take_append_drop]
  have l2 : (sks (ks.take (j + 1))).length = (j + 1) * 1 := by rw [sks_len, List.length_take, Nat.min_eq_left (by omega)]; omega
  have l3 : (sks (ks.drop (j + 1))).length = (ks.length - (j + 1)) * 1 := by rw [sks_len, List.length_drop]; omega
  have hg := World.ownsRow.lt h.os g rfl
  obtain ⟨g1, c1, w1, v2, w2, r1, r2, o2, b2, g2, c3, rfl⟩ := akS.cut W ty g j oc (ks.length - (j + 1)) c2 a2 (sks (ks.take j)) (sks (ks.drop (j + 1))) hg.2 (by rw [sks_len, List.length_take, Nat.min_eq_left (by omega)]; omega) l3 (cells_left e1 hcs) (by
      rcases ha2 with rfl | ⟨rfl, he⟩
      · have := cells_right e2 hcs
        rw [l2] at this
        exact this
      · intro i u hu
        have : (sks (ks.drop (j + 1))).length = 0 := by rw [l3, he]; omega
        rw [List.eq_nil_of_length_eq_zero this] at hu
        simp at hu) (fun i => by rcases ha2 with rfl | ⟨rfl, _⟩ <;> rw [addr_add]) (sks_one _) (sks_one _) (by omega)
  have hk := h.kept b2
  have e3 : j + (ks.length - (j + 1)) = ks.length - 1 := by omega
  rw [e3] at r2 o2
  have e4 : (ks.eraseIdx j).length = ks.length - 1 := by rw [List.length_eraseIdx, if_pos hj]
  rw [← sks_take_drop] at o2
  rw [← e4] at r2 o2 ⊢
  exact ⟨g1, c1, w1, g2, c3, w2, r1, r2, hk.t3, own_base o2 h.n0s, hk.vs, hk.bel, h.le, hk.x16, hk.x20, h.ne⟩
theorem St2.cutP {g oc : Nat} (h : St2 n0 Pa Pb Da Db Dc w W l ks vs ov (.slice (some ⟨g, 0, none⟩) vs.length oc) B16 B20 x v) (j : Nat) (hj : j < vs.length) (hn : vs.length ≤ 5000000000000) (ty : TypeId) (a2 : Addr) (ha2 : a2 = ⟨g, (j + 1) * 2, none⟩ ∨ (a2 = ⟨g, 0, none⟩ ∧ vs.length = j + 1)) (c2 : Nat) :
    ∃ g1 c1 w1 g2 c3 w2, (Builtin.append_ #[32, 32] ty #[.slice (some ⟨W.heap.size, 0, none⟩) 0 0, .slice (some ⟨g, 0, none⟩) j oc]).run Try.prog (W.alloc (.cells #[] 28)).drew = .ok (.slice (some ⟨g1, 0, none⟩) j c1) w1 ∧
      (Builtin.append_ #[32, 32] ty #[.slice (some ⟨g1, 0, none⟩) j c1, .slice (some a2) (vs.length - (j + 1)) c2]).run Try.prog w1 = .ok (.slice (some ⟨g2, 0, none⟩) (vs.length - 1) c3) w2 ∧
      St2 n0 Pa Pb Da Db Dc w w2 l ks (vs.eraseIdx j) ov (.slice (some ⟨g2, 0, none⟩) (vs.length - 1) c3) B16 B20 x v := by
  have hcs := World.ownsRow.cells h.vs (g := g) rfl
  have e1 : prs vs = prs (vs.take j) ++ prs (vs.drop j) := by rw [← prs_app, List.take_append_drop]
  have e2 : prs vs = prs (vs.take (j + 1)) ++ prs (vs.drop (j + 1)) := by rw [← prs_app, List.take_append_drop]
  have l2 : (prs (vs.take (j + 1))).length = (j + 1) * 2 := by rw [prs_len, List.length_take, Nat.min_eq_left (by omega)]
  have l3 : (prs (vs.drop (j + 1))).length = (vs.length - (j + 1)) * 2 := by rw [prs_len, List.length_drop]
  have hg := World.ownsRow.lt h.vs g rfl
  obtain ⟨g1, c1, w1, v2, w2, r1, r2, o2, b2, g2, c3, rfl⟩ := akP.cut W ty g j oc (vs.length - (j + 1)) c2 a2 (prs (vs.take j)) (prs (vs.drop (j + 1))) hg.2 (by rw [prs_len, List.length_take, Nat.min_eq_left (by omega)]) l3 (cells_left e1 hcs) (by
      rcases ha2 with rfl | ⟨rfl, he⟩
      · have := cells_right e2 hcs
        rw [l2] at this
        exact this
      · intro i u hu
        have : (prs (vs.drop (j + 1))).length = 0 := by rw [l3, he]; omega
        rw [List.eq_nil_of_length_eq_zero this] at hu
        simp at hu) (fun i => by rcases ha2 with rfl | ⟨rfl, _⟩ <;> rw [addr_add]) (prs_one _) (prs_one _) (by omega)
  have hk := h.kept b2
  have e3 : j + (vs.length - (j + 1)) = vs.length - 1 := by omega
  rw [e3] at r2 o2
  have e4 : (vs.eraseIdx j).length = vs.length - 1 := by rw [List.length_eraseIdx, if_pos hj]
  rw [← prs_take_drop] at o2
  rw [← e4] at r2 o2 ⊢
  have hlt := blk_lt h.x20
  refine ⟨g1, c1, w1, g2, c3, w2, r1, r2, hk.t3, hk.os, own_base o2 h.n0s, hk.bel, h.le, hk.x16, hk.x20, fun e => ?_⟩
  have := (World.ownsRow.lt o2 B20 e).1
  omega
theorem Stg.st2 {lx : List (K × (Int × Int))} {B19 : Nat} {hd : Int × Int} (h : Stg n0 Pa Pb Da Db Dc w W l lx lx lx ov vv B16 B19 B20 x hd v) (hne : vv.ownBlock ≠ some B20) : St2 n0 Pa Pb Da Db Dc w W lx (l.map Prod.fst) (l.map Prod.snd) ov vv B16 B20 x v := by
  have h1 := h.os
  have h2 := h.vs
  rw [show l.length = (l.map Prod.fst).length by simp] at h1
  rw [show l.length = (l.map Prod.snd).length by simp] at h2
  exact ⟨h.t3, h1, h2, h.bel, h.le, h.x16, h.x20, hne⟩
end
theorem set_fst {t : K} (l : List (K × (Int × Int))) (j : Nat) (h : j < l.length) (e : l[j].1 = t) (v : Int × Int) : (l.set j (t, v)).map Prod.fst = l.map Prod.fst := by
  apply List.ext_getElem (by simp)
  intro i h1 h2
  simp only [List.getElem_map, List.getElem_set]
  by_cases hij : j = i
  · subst hij; rw [if_pos rfl, e]
  · rw [if_neg hij]
theorem set_snd (t : K) (l : List (K × (Int × Int))) (j : Nat) (v : Int × Int) : (l.set j (t, v)).map Prod.snd = (l.map Prod.snd).set j v := by simp [List.map_set]
theorem kvs_fst (es : List En) : (kvs es).map Prod.fst = es.map En.k := by simp [kvs, Function.comp_def]
theorem kvs_snd (es : List En) : (kvs es).map Prod.snd = es.map En.v := by simp [kvs, Function.comp_def]
section
variable {n0 Pa Pb Da Db Dc : Nat} {w W : World} {l : List (K × (Int × Int))} {oa va : Option Addr} {m oc vc : Nat}
theorem HLs.at (h : HLs n0 Pa Pb Da Db Dc w W l (.slice oa m oc) (.slice va m vc)) (hm : m = l.length) : StrAt W oa (l.map Prod.fst) ∧ PrsAt W va (l.map Prod.snd) := by
  have h1 := h.os
  have h2 := h.vs
  rw [← hm] at h1 h2
  exact ⟨own_strAt h1 (by rw [List.length_map]; exact hm), own_prsAt h2 (by rw [List.length_map]; exact hm)⟩
theorem HLs.spA (h : HLs n0 Pa Pb Da Db Dc w W l (.slice oa m oc) (.slice va m vc)) (hm : m = l.length) (hb : m ≤ 4500000000000) : Calls Try.prog 9 #[ptr Da, .slice oa m oc, .slice va m vc] W fun e w' => e = .returned (.bool true) ∧ Below W.heap.size W w' := by
  obtain ⟨h1, h2⟩ := h.at hm
  obtain ⟨Xa, Xb, Xc, ⟨⟨M, L, es, hd, hs, rfl, _⟩, _⟩, _⟩ := h.t3
  rw [kvs_fst] at h1
  rw [kvs_snd] at h2
  exact spread_any W Da M L Pa fS hShort okS es hd hs oa va m oc vc (by rw [kvs_len] at hm; exact hm) h1 h2 (by omega)
theorem HLs.spB (h : HLs n0 Pa Pb Da Db Dc w W l (.slice oa m oc) (.slice va m vc)) (hm : m = l.length) (hb : m ≤ 4500000000000) : Calls Try.prog 9 #[ptr Db, .slice oa m oc, .slice va m vc] W fun e w' => e = .returned (.bool true) ∧ Below W.heap.size W w' := by
  obtain ⟨h1, h2⟩ := h.at hm
  obtain ⟨Xa, Xb, Xc, ⟨_, ⟨M, L, es, hd, hs, rfl, _⟩, _⟩, _⟩ := h.t3
  rw [kvs_fst] at h1
  rw [kvs_snd] at h2
  exact spread_any W Db M L Pb fL hLong okL es hd hs oa va m oc vc (by rw [kvs_len] at hm; exact hm) h1 h2 (by omega)
theorem HLs.liC (h : HLs n0 Pa Pb Da Db Dc w W l (.slice oa m oc) (.slice va m vc)) (hm : m = l.length) (hb : m ≤ 4500000000000) : Calls Try.prog 10 #[ptr Dc, .slice oa m oc, .slice va m vc] W fun e w' => e = .returned (.bool true) ∧ Below W.heap.size W w' := by
  obtain ⟨h1, h2⟩ := h.at hm
  obtain ⟨Xa, Xb, Xc, ⟨_, _, ⟨M, L, es, hd, hs, rfl, _⟩⟩, _⟩ := h.t3
  rw [kvs_fst] at h1
  rw [kvs_snd] at h2
  exact listed_any W Dc M L fN hash0 okN (fun _ => rfl) es hd hs oa va m oc vc (by rw [kvs_len] at hm; exact hm) h1 h2 (by omega)
end
end Go.Proofs.Ytghfofjpoeckkaa
