import Derived.Test.YtbcmmeajglilbaaGreatKSpKys
/-
  StorePlays: sameChain, sameKeys at like lists.
-/
namespace Go.Proofs.YtbcmmeajglilbaaGreat
open Go.RowKit Go.Sort

theorem ctv_len : ∀ l : List Vr, (ctv l).length = l.length * 5
  | [] => rfl
  | v :: r => by
    have : ctv (v :: r) = c1v v ++ ctv r := by simp [ctv]
    rw [this, List.length_append, ctv_len r]; simp [c1v]; omega
theorem ctv_at : ∀ (l : List Vr) (i : Nat), i < l.length → ∀ j, j < 5 → (ctv l)[i * 5 + j]? = (c1v l[i]!)[j]?
  | [], i, hi, _, _ => by simp at hi
  | v :: r, 0, _, j, hj => by
    have : ctv (v :: r) = c1v v ++ ctv r := by simp [ctv]
    rw [this, List.getElem?_append_left (by simp [c1v]; omega), Nat.zero_mul, Nat.zero_add]
    rfl
  | v :: r, i + 1, hi, j, hj => by
    have : ctv (v :: r) = c1v v ++ ctv r := by simp [ctv]
    rw [this, List.getElem?_append_right (by simp [c1v]; omega)]
    have h := ctv_at r i (by simpa using hi) j hj
    rw [show (i + 1) * 5 + j - (c1v v).length = i * 5 + j by simp [c1v]; omega, h]
    simp at hi
    rw [getElem!_pos r i hi, getElem!_pos (v :: r) (i + 1) (by simp; omega)]
    simp
/-- a row of versions -/
def VRow (w : World) (base : Nat) (v : Value) (ys : List Vr) : Prop := w.ownsRow base TV 5 v ys.length (ctv ys)
theorem VRow.sl {w : World} {base : Nat} {v : Value} {ys : List Vr} (h : VRow w base v ys) : ∃ ao c, v = .slice ao ys.length c := by
  obtain ⟨a, c, e⟩ := row_slice h
  exact ⟨a, c, e⟩
theorem VRow.at {w : World} {base : Nat} {v : Value} {ys : List Vr} (h : VRow w base v ys) {i : Nat} (hi : i < ys.length) : ∃ g c, v = .slice (some ⟨g, 0, none⟩) ys.length c ∧ w.cell? ⟨g, i * 5, none⟩ = some (.int .i64 ys[i]!.ba) ∧ w.cell? ⟨g, i * 5 + 1, none⟩ = some (.int .i64 ys[i]!.ix) ∧ w.cell? ⟨g, i * 5 + 2, none⟩ = some (.bool ys[i]!.fl) ∧ w.cell? ⟨g, i * 5 + 3, none⟩ = some (.bool ys[i]!.ci) ∧ w.cell? ⟨g, i * 5 + 4, none⟩ = some (.int .i64 ys[i]!.cv) := by
  have hr := h
  unfold VRow at hr
  obtain ⟨_, ⟨_, h2⟩ | ⟨g, c, _, h1, _⟩⟩ := h
  · omega
  · rw [h1] at hr
    have hc : ∀ j, j < 5 → w.cell? ⟨g, i * 5 + j, none⟩ = (c1v ys[i]!)[j]? := fun j hj => by rw [World.ownsRow.cellAt hr (i * 5 + j) (by omega), ctv_at ys i hi j hj]
    exact ⟨g, c, h1, hc 0 (by omega), hc 1 (by omega), hc 2 (by omega), hc 3 (by omega), hc 4 (by omega)⟩
theorem VRow.same {w w' : World} {base : Nat} {v : Value} {ys : List Vr} (h : VRow w base v ys) (hs : ∀ g, v.ownBlock = some g → w'.heap[g]? = w.heap[g]?) : VRow w' base v ys := ownsRow_same h hs
def TruD (w : World) (e : Ending) (w' : World) : Prop := e = .returned (.bool true) ∧ ∃ q, w' = w.drewN q
set_option maxRecDepth 100000 in
set_option maxHeartbeats 1000000 in
theorem sameChain_any (w : World) (b1 b2 : Nat) (v1 v2 : Value) (ys : List Vr) (h1 : VRow w b1 v1 ys) (h2 : VRow w b2 v2 ys) (hl : ys.length ≤ 65536) :
    Calls Tryz.prog 30 #[v1, v2] w fun e w' => TruD w e w' := by
  obtain ⟨a1, c1, rfl⟩ := h1.sl
  obtain ⟨a2, c2, rfl⟩ := h2.sl
  obtain ⟨n, hn⟩ : ∃ n, n = ys.length := ⟨_, rfl⟩
  have H1 := hidS h1
  have H2 := hidS h2
  have HN := hidS hn
  have hl9 : n ≤ 65536 := by rw [hn]; exact hl
  rw [← hn]
  clear h1 h2 hn hl
  go_enter Tryz.func30, Tryz.ntmps30
  go_wp2_with fail
  go_loopw [5] (fun x wr => ∃ (i q : Nat), i ≤ n ∧ x = .int .i64 (i : Int) ∧ wr = w.drewN q) (fun x _ => n - (intOf x).toNat)
  case atStart => exact ⟨0, 0, Nat.zero_le _, rfl, rfl⟩
  case round =>
    obtain ⟨i, q, hi, rfl, rfl⟩ := hrel
    by_cases hlt : i < n
    · have hil : i < ys.length := by have := HN.out; omega
      obtain ⟨g1, d1, e1, p0, p1, p2, p3, p4⟩ := H1.out.at hil
      obtain ⟨g2, d2, e2, q0, q1, q2, q3, q4⟩ := H2.out.at hil
      simp only [Value.slice.injEq] at e1 e2
      obtain ⟨rfl, _, rfl⟩ := e1
      obtain ⟨rfl, _, rfl⟩ := e2
      generalize ys[i]!.ba = x0 at *
      generalize ys[i]!.ix = x1 at *
      generalize ys[i]!.fl = x2 at *
      generalize ys[i]!.ci = x3 at *
      generalize ys[i]!.cv = x4 at *
      have hq := run_neVer x0 x1 x2 x3 x4
      have hgd := fun op a b => run_guardV op a b x0 x1 x2 x3 x4
      have hib : decide ((i : Int) < (n : Int)) = true := by simp; omega
      go_wp2_with fail
      go_quiet (fail)
      go_wp2
      exact ⟨⟨i + 1, q + nq, by omega, by go_num, by first | rfl | trivial⟩, by simp [intOf]; omega⟩
    · have hie : i = n := by omega
      subst hie
      have HF : Hid (TruD w (.returned (.bool true)) (w.drewN q)) := ⟨rfl, q, rfl⟩
      go_wp2
      go_ret
      exact HF.out
set_option maxRecDepth 100000 in
set_option maxHeartbeats 1000000 in
theorem sameKeysP_any (w : World) (b1 b2 : Nat) (v1 v2 : Value) (L : List K) (h1 : OwnK w b1 v1 L) (h2 : OwnK w b2 v2 L) (hl : L.length ≤ 65536) :
    Calls Tryz.prog 34 #[v1, v2] w fun e w' => TruD w e w' := by
  obtain ⟨a1, c1, rfl, k1, _⟩ := h1.slice
  obtain ⟨a2, c2, rfl, k2, _⟩ := h2.slice
  obtain ⟨n, hn⟩ : ∃ n, n = L.length := ⟨_, rfl⟩
  have H1 := hidS k1
  have H2 := hidS k2
  have HN := hidS hn
  have hl9 : n ≤ 65536 := by rw [hn]; exact hl
  rw [← hn]
  clear h1 h2 hn hl k1 k2
  go_enter Tryz.func34, Tryz.ntmps34
  go_wp2_with fail
  go_loopw [5] (fun x wr => ∃ (i q : Nat), i ≤ n ∧ x = .int .i64 (i : Int) ∧ wr = w.drewN q) (fun x _ => n - (intOf x).toNat)
  case atStart => exact ⟨0, 0, Nat.zero_le _, rfl, rfl⟩
  case round =>
    obtain ⟨i, q, hi, rfl, rfl⟩ := hrel
    by_cases hlt : i < n
    · have hil : i < L.length := by have := HN.out; omega
      rcases H1.out with h0 | ⟨g1, o1, rfl, hc1⟩
      · rw [h0] at hil; simp at hil
      rcases H2.out with h0 | ⟨g2, o2, rfl, hc2⟩
      · rw [h0] at hil; simp at hil
      obtain ⟨p0, p1⟩ := KeysAt.at hc1 i hil
      obtain ⟨q0, q1⟩ := KeysAt.at hc2 i hil
      generalize kd L i = x at *
      obtain ⟨x1, x2⟩ := x
      simp only at p0 p1 q0 q1
      have hq := run_neKey x1 x2 x1 x2
      have hgd := fun op a b => run_eqGuard op a b x1 x2 x1 x2
      rw [decide_eq_true rfl] at hq
      have hib : decide ((i : Int) < (n : Int)) = true := by simp; omega
      clear hc1 hc2
      go_wp2_with fail
      go_quiet (fail)
      go_wp2
      exact ⟨⟨i + 1, q + nq, by omega, by go_num, by first | rfl | trivial⟩, by simp [intOf]; omega⟩
    · have hie : i = n := by omega
      subst hie
      have HF : Hid (TruD w (.returned (.bool true)) (w.drewN q)) := ⟨rfl, q, rfl⟩
      go_wp2
      go_ret
      exact HF.out
end Go.Proofs.YtbcmmeajglilbaaGreat
/-
  StorePlays: ROWS THAT WERE HANDED OUT, WRITTEN OVER AND GROWN.
-/
namespace Go.Proofs.YtbcmmeajglilbaaGreat
open Go.RowKit Go.Sort

/-- the mark of list i at its place j -/
def mvP (i j : Nat) : Vr := ⟨0, 0, (0, 0), -1 - (i : Int), (j : Int), false, false, 0⟩
def mvs (i n : Nat) : List Vr := (List.range n).map (mvP i)
def mkP (i j : Nat) : K := (-1 - (i : Int), (j : Int))
def mks (i n : Nat) : List K := (List.range n).map (mkP i)
theorem mvs_len (i n : Nat) : (mvs i n).length = n := by simp [mvs]
theorem mks_len (i n : Nat) : (mks i n).length = n := by simp [mks]
theorem mvs_succ (i n : Nat) : mvs i (n + 1) = mvs i n ++ [mvP i n] := by simp [mvs, List.range_succ]
theorem mks_succ (i n : Nat) : mks i (n + 1) = mks i n ++ [mkP i n] := by simp [mks, List.range_succ]
theorem mvs_at {i n j : Nat} (hj : j < n) : (mvs i n)[j]! = mvP i j := by rw [getElem!_pos (mvs i n) j (by rw [mvs_len]; exact hj)]; simp [mvs]
/-- only a row's own block turns -/
def ownS (v : Value) : Nat → Prop := fun k => v.ownBlock = some k
theorem ctv_mid (A C : List Vr) (y : Vr) : ctv (A ++ y :: C) = ctv A ++ (c1v y ++ ctv C) := by simp [ctv]
theorem mid_set5 {A C : List Vr} {xs : List Value} (hx : xs.length = 5) (j : Nat) (hj : j < 5) (u : Value) : (ctv A ++ (xs ++ ctv C)).set (A.length * 5 + j) u = ctv A ++ (xs.set j u ++ ctv C) := by
  rw [List.set_append_right _ _ (by rw [ctv_len]; omega), List.set_append_left _ _ (by rw [ctv_len, hx]; omega), ctv_len]
  congr 3
  omega
/-- five cells are stored into a row -/
abbrev s5 (w : World) (g o : Nat) (c0 c1 c2 c3 c4 : Value) : World := ((((w.setCell ⟨g, o, none⟩ c0).setCell ⟨g, o + 1, none⟩ c1).setCell ⟨g, o + 2, none⟩ c2).setCell ⟨g, o + 3, none⟩ c3).setCell ⟨g, o + 4, none⟩ c4
theorem VRow.set5 {w : World} {base g n c : Nat} {A C : List Vr} {y : Vr} (h : VRow w base (.slice (some ⟨g, 0, none⟩) n c) (A ++ y :: C)) (hn : (A ++ y :: C).length = n) (x : Vr) :
    VRow (s5 w g (A.length * 5) (.int .i64 x.ba) (.int .i64 x.ix) (.bool x.fl) (.bool x.ci) (.int .i64 x.cv)) base (.slice (some ⟨g, 0, none⟩) n c) (A ++ x :: C) ∧ w.grownBy (s5 w g (A.length * 5) (.int .i64 x.ba) (.int .i64 x.ix) (.bool x.fl) (.bool x.ci) (.int .i64 x.cv)) (some g) := by
  unfold VRow at h ⊢
  have hn2 : (A ++ x :: C).length = n := by rw [← hn]; simp
  rw [hn] at h
  rw [hn2]
  have tr : ∀ {a b c : World} {row : Option Nat}, a.grownBy b row → b.grownBy c row → a.grownBy c row := fun q2 q4 => ⟨q4.os.trans q2.os, q4.tape.trans q2.tape, q4.output.trans q2.output, Nat.le_trans q2.size q4.size, fun j hj hne => (q4.block j (Nat.lt_of_lt_of_le hj q2.size) hne).trans (q2.block j hj hne)⟩
  rw [ctv_mid] at h
  obtain ⟨q1, r1⟩ := World.ownsRow.stored h (A.length * 5 + 0) (.int .i64 x.ba)
  rw [mid_set5 rfl 0 (by omega)] at q1
  obtain ⟨q2, r2⟩ := World.ownsRow.stored q1 (A.length * 5 + 1) (.int .i64 x.ix)
  rw [mid_set5 rfl 1 (by omega)] at q2
  obtain ⟨q3, r3⟩ := World.ownsRow.stored q2 (A.length * 5 + 2) (.bool x.fl)
  rw [mid_set5 rfl 2 (by omega)] at q3
  obtain ⟨q4, r4⟩ := World.ownsRow.stored q3 (A.length * 5 + 3) (.bool x.ci)
  rw [mid_set5 rfl 3 (by omega)] at q4
  obtain ⟨q5, r5⟩ := World.ownsRow.stored q4 (A.length * 5 + 4) (.int .i64 x.cv)
  rw [mid_set5 rfl 4 (by omega)] at q5
  refine ⟨?_, tr (tr (tr (tr r1 r2) r3) r4) r5⟩
  rw [ctv_mid]
  exact q5
/-- one version more in a row: in its room, or in a new row -/
theorem VRow.app {W : World} {base : Nat} {v : Value} {Ys : List Vr} (h : VRow W base v Ys) (y : Vr) (hl : Ys.length ≤ 1000000) (hb : base ≤ W.heap.size) (ty : TypeId) :
    ∃ v' w', (Builtin.append_ #[TVs, TVs] ty #[v, .slice (some ⟨W.heap.size, 0, none⟩) 1 1]).run Tryz.prog (W.alloc (.cells #[.int .i64 y.ba, .int .i64 y.ix, .bool y.fl, .bool y.ci, .int .i64 y.cv] TV)) = .ok v' w' ∧ (∃ o c, v' = .slice o (Ys.length + 1) c) ∧ VRow w' base v' (Ys ++ [y]) ∧ Tn (ownS v) W w' ∧ (∀ g, v'.ownBlock = some g → v.ownBlock = some g ∨ W.heap.size ≤ g) := by
  have hal : Below W.heap.size W (W.alloc (.cells (c1v y).toArray TV)) := (Below.refl _ _).alloc (Nat.le_refl _) _
  have hA : (W.alloc (.cells (c1v y).toArray TV)).ownsRow base TV 5 v Ys.length (ctv Ys) := ownsRow_same h (fun g hg => hal.block g (World.ownsRow.lt h g hg).2)
  obtain ⟨v', w', q1, q2, q3⟩ := run_append_C elV ty base _ Ys.length (ctv Ys) hA ⟨W.heap.size, 0, none⟩ 1 1 (c1v y) rfl new_cells (fun u hu => by simp [c1v] at hu; rcases hu with rfl | rfl | rfl | rfl | rfl <;> rfl) (by omega) (Nat.le_trans hb hal.size)
  refine ⟨v', w', q1, ?_, by unfold VRow; rw [ctv_snoc, List.length_append]; exact q2, ?_, ?_⟩
  · obtain ⟨a0, c0, e⟩ := row_slice q2
    exact ⟨a0, c0, e⟩
  · rcases q3 with ⟨g, c, e, _, q4⟩ | ⟨_, q4⟩
    · exact ⟨q4.os, q4.tape, q4.output, Nat.le_trans hal.size q4.size, fun k hk hx => (q4.block k (Nat.lt_of_lt_of_le hk hal.size) (fun e2 => hx (by show v.ownBlock = some k; rw [e]; exact e2.symm))).trans (hal.block k hk)⟩
    · exact ⟨q4.os, q4.tape, q4.output, Nat.le_trans hal.size q4.size, fun k hk _ => (q4.block k (Nat.lt_of_lt_of_le hk hal.size) (fun e2 => by cases e2)).trans (hal.block k hk)⟩
  · intro g hg
    rcases q3 with ⟨g', c, e, e', _⟩ | ⟨q4, _⟩
    · left; rw [e'] at hg; rw [e]; exact hg
    · right; exact Nat.le_trans hal.size (World.ownsRow.lt q4 g hg).1
end Go.Proofs.YtbcmmeajglilbaaGreat
/-
  StorePlays: THE BOOK'S set.
-/
namespace Go.Proofs.YtbcmmeajglilbaaGreat
open Go.RowKit Go.Sort

abbrev TKs1 : TypeId := 85
theorem elKy : El 85 41 (.agg #[.int .i64 0, .int .i64 0]) 2 16 := ⟨Tryz.underlying85, by kernel_rfl, rfl, by decide, by decide⟩
theorem elKk : El 37 85 (.slice none 0 0) 1 24 := ⟨Tryz.underlying37, by kernel_rfl, rfl, by decide, by decide⟩
theorem elVv : El 36 81 (.slice none 0 0) 1 24 := ⟨Tryz.underlying36, by kernel_rfl, rfl, by decide, by decide⟩
/-- one element more, in its room or in a new row -/
theorem row_one {TS TE : TypeId} {z : Value} {sz by_ : Nat} (E : El TS TE z sz by_) {W : World} {base : Nat} {v : Value} {n : Nat} {xs : List Value} (h : W.ownsRow base TE sz v n xs) (us : List Value) (hus : us.length = sz) (h1 : ∀ u ∈ us, u.oneCell' = true) (hl : n ≤ 10000000) (hb : base ≤ W.heap.size) (ty : TypeId) :
    ∃ v' w', (Builtin.append_ #[TS, TS] ty #[v, .slice (some ⟨W.heap.size, 0, none⟩) 1 1]).run Tryz.prog (W.alloc (.cells us.toArray TE)) = .ok v' w' ∧ (∃ o c, v' = .slice o (n + 1) c) ∧ w'.ownsRow base TE sz v' (n + 1) (xs ++ us) ∧ Tn (ownS v) W w' ∧ (∀ g, v'.ownBlock = some g → v.ownBlock = some g ∨ W.heap.size ≤ g) := by
  have hal : Below W.heap.size W (W.alloc (.cells us.toArray TE)) := (Below.refl _ _).alloc (Nat.le_refl _) _
  have hA : (W.alloc (.cells us.toArray TE)).ownsRow base TE sz v n xs := ownsRow_same h (fun g hg => hal.block g (World.ownsRow.lt h g hg).2)
  obtain ⟨v', w', q1, q2, q3⟩ := run_append_C E ty base _ n xs hA ⟨W.heap.size, 0, none⟩ 1 1 us (by rw [hus, Nat.one_mul]) new_cells h1 (by omega) (Nat.le_trans hb hal.size)
  refine ⟨v', w', q1, ?_, q2, ?_, ?_⟩
  · obtain ⟨a0, c0, e⟩ := row_slice q2
    exact ⟨a0, c0, e⟩
  · rcases q3 with ⟨g, c, e, _, q4⟩ | ⟨_, q4⟩
    · exact ⟨q4.os, q4.tape, q4.output, Nat.le_trans hal.size q4.size, fun k hk hx => (q4.block k (Nat.lt_of_lt_of_le hk hal.size) (fun e2 => hx (by show v.ownBlock = some k; rw [e]; exact e2.symm))).trans (hal.block k hk)⟩
    · exact ⟨q4.os, q4.tape, q4.output, Nat.le_trans hal.size q4.size, fun k hk _ => (q4.block k (Nat.lt_of_lt_of_le hk hal.size) (fun e2 => by cases e2)).trans (hal.block k hk)⟩
  · intro g hg
    rcases q3 with ⟨g', c, e, e', _⟩ | ⟨q4, _⟩
    · left; rw [e'] at hg; rw [e]; exact hg
    · right; exact Nat.le_trans hal.size (World.ownsRow.lt q4 g hg).1
theorem cks_app (A C : List K) : cks (A ++ C) = cks A ++ cks C := by
  induction A with
  | nil => rfl
  | cons k r ih => simp only [List.cons_append, cks, ih]
theorem cks_len2 (A : List K) : (cks A).length = A.length * 2 := by
  induction A with
  | nil => rfl
  | cons k r ih =>
    have : cks (k :: r) = [.int .i64 k.1, .int .i64 k.2] ++ cks r := by simp [cks]
    rw [this, List.length_append, ih]
    simp
    omega
/-- one key of a row is written over -/
theorem OwnK.put2 {w : World} {base g n c : Nat} {A C : List K} {y : K} (h : OwnK w base (.slice (some ⟨g, 0, none⟩) n c) (A ++ y :: C)) (hn : (A ++ y :: C).length = n) (x : K) :
    OwnK ((w.setCell ⟨g, A.length * 2, none⟩ (.int .i64 x.1)).setCell ⟨g, A.length * 2 + 1, none⟩ (.int .i64 x.2)) base (.slice (some ⟨g, 0, none⟩) n c) (A ++ x :: C) ∧ w.grownBy ((w.setCell ⟨g, A.length * 2, none⟩ (.int .i64 x.1)).setCell ⟨g, A.length * 2 + 1, none⟩ (.int .i64 x.2)) (some g) := by
  unfold OwnK at h ⊢
  have hn2 : (A ++ x :: C).length = n := by rw [← hn]; simp
  rw [hn] at h
  rw [hn2]
  have e : ∀ z : K, cks (A ++ z :: C) = cks A ++ ([.int .i64 z.1, .int .i64 z.2] ++ cks C) := fun z => by rw [cks_app]; simp [cks]
  rw [e] at h
  obtain ⟨q1, r1⟩ := World.ownsRow.stored h (A.length * 2) (.int .i64 x.1)
  rw [List.set_append_right _ _ (by rw [cks_len2]; omega), cks_len2, Nat.sub_self] at q1
  obtain ⟨q2, r2⟩ := World.ownsRow.stored q1 (A.length * 2 + 1) (.int .i64 x.2)
  rw [List.set_append_right _ _ (by rw [cks_len2]; omega), cks_len2, Nat.add_sub_cancel_left] at q2
  refine ⟨by rw [e]; exact q2, ⟨r2.os.trans r1.os, r2.tape.trans r1.tape, r2.output.trans r1.output, Nat.le_trans r1.size r2.size, fun j hj hne => (r2.block j (Nat.lt_of_lt_of_le hj r1.size) hne).trans (r1.block j hj hne)⟩⟩
def updN {α : Type} (f : Nat → α) (i : Nat) (v : α) : Nat → α := fun j => if j = i then v else f j
theorem range_upd {α : Type} (f : Nat → α) (n : Nat) (v : α) : (List.range (n + 1)).map (updN f n v) = (List.range n).map f ++ [v] := by
  rw [List.range_succ, List.map_append]
  congr 1
  · exact List.map_congr_left (fun j hj => by
      have := List.mem_range.1 hj
      unfold updN
      rw [if_neg (by omega)])
  · simp [updN]
/-- what set leaves -/
def SetP (w : World) (n0 b0 B M : Nat) (vc vk vl vw lv : Value) (cK : Nat → Value) (L : List K) (e : Ending) (w' : World) : Prop :=
  e = .returned (.tuple #[]) ∧ ∃ vk' mv, w'.heap[B]? = some (.cells #[vc, vk', vl, vw] 39 (0, 0)) ∧ w'.ownsRow n0 85 1 vk' (M + 1) ((List.range (M + 1)).map (updN cK M mv)) ∧ OwnK w' b0 mv (mks M (L.length + 40)) ∧ Tn (fun k => k = B ∨ vk.ownBlock = some k ∨ lv.ownBlock = some k) w w' ∧ (∀ g, mv.ownBlock = some g → lv.ownBlock = some g ∨ w.heap.size ≤ g) ∧ (∀ g, vk'.ownBlock = some g → vk.ownBlock = some g ∨ w.heap.size ≤ g)
theorem own_ty {W : World} {base T sz n g : Nat} {v : Value} {xs : List Value} (h : W.ownsRow base T sz v n xs) (hg : v.ownBlock = some g) : ∃ cur, W.heap[g]? = some (.cells cur T (0, 0)) := by
  obtain ⟨_, ⟨h1, _⟩ | ⟨g', c, cur, h1, _, h2, _⟩⟩ := h
  · rw [h1] at hg; cases hg
  · rw [h1] at hg; cases hg; exact ⟨cur, h2⟩
theorem ty_neP {W : World} {a b : Nat} {cu cv : Array Value} {T U : TypeId} (ha : W.heap[a]? = some (.cells cu T (0, 0))) (hb : W.heap[b]? = some (.cells cv U (0, 0))) (h : T ≠ U) : a ≠ b := fun e => by
  subst e
  rw [ha] at hb
  simp only [Option.some.injEq, Obj.cells.injEq] at hb
  exact h hb.2.1
set_option maxRecDepth 100000 in
set_option maxHeartbeats 4000000 in
theorem set_any (w : World) (n0 b0 B M : Nat) (vc vk vl vw lv : Value) (cK : Nat → Value) (L : List K) (hB : w.heap[B]? = some (.cells #[vc, vk, vl, vw] 39 (0, 0))) (hk : w.ownsRow n0 85 1 vk M ((List.range M).map cK)) (hl : OwnK w b0 lv L) (hL : L.length ≤ 65536) (hM : M ≤ 9000000) (hn0 : n0 ≤ w.heap.size) (hb0 : b0 ≤ w.heap.size) :
    Calls Tryz.prog 35 #[ptr B, lv] w fun e w' => SetP w n0 b0 B M vc vk vl vw lv cK L e w' := by
  obtain ⟨ko, kc, rfl⟩ := row_slice hk
  obtain ⟨lo, lc, rfl, _⟩ := hl.slice
  have c1 : w.cell? ⟨B, 1, none⟩ = some (.slice ko M kc) := by simp [World.cell?, hB]
  obtain ⟨n, hn⟩ : ∃ n, n = L.length := ⟨_, rfl⟩
  have HN := hidS hn
  have HL := hidS hl
  have HB := hidS hB
  have HK := hidS hk
  have HN0 := hidS hn0
  have HB0 := hidS hb0
  have hn9 : n ≤ 65536 := by rw [hn]; exact hL
  rw [← hn] at HL ⊢
  clear hn hl hB hk hn0 hb0 hL
  go_enter Tryz.func35, Tryz.ntmps35
  go_wp2_with fail
  go_loopw [5] (fun x wr => ∃ (j : Nat), j ≤ n ∧ x = .int .i64 (j : Int) ∧ Hid (OwnK wr b0 (.slice lo n lc) (mks M j ++ L.drop j) ∧ Tn (ownS (.slice lo n lc)) w wr)) (fun x _ => n - (intOf x).toNat)
  case atStart => exact ⟨0, Nat.zero_le _, rfl, by simpa [mks] using HL.out, Tn.bel (Below.refl _ _)⟩
  case round =>
    obtain ⟨j, hj, rfl, HI⟩ := hrel
    by_cases hlt : j < n
    · have hjL : j < L.length := by have := HN.out; omega
      have hrow := HI.out.1
      rw [List.drop_eq_getElem_cons hjL] at hrow
      have hlen : (mks M j ++ L[j] :: L.drop (j + 1)).length = n := by rw [HN.out]; simp [mks_len]; omega
      obtain ⟨g, hg⟩ : ∃ g, lo = some ⟨g, 0, none⟩ := by
        obtain ⟨_, ⟨h1, h2⟩ | ⟨g, c, _, h1, _⟩⟩ := hrow
        · rw [hlen] at h2; omega
        · simp only [Value.slice.injEq] at h1; exact ⟨g, h1.1⟩
      subst hg
      obtain ⟨q1, q2⟩ := OwnK.put2 hrow hlen (mkP M j)
      rw [mks_len] at q1 q2
      have hfr := hrow
      unfold OwnK at hfr
      rw [hlen] at hfr
      have f0 := World.ownsRow.frozenAt hfr (j * 2)
      have f1 := World.ownsRow.frozenAt hfr (j * 2 + 1)
      have z0 : ∃ u, wr.cell? ⟨g, j * 2, none⟩ = some u := by rw [World.ownsRow.cellAt hfr (j * 2) (by omega)]; exact ⟨_, List.getElem?_eq_getElem (by rw [cks_len2, hlen]; omega)⟩
      have z1 : ∃ u, wr.cell? ⟨g, j * 2 + 1, none⟩ = some u := by rw [World.ownsRow.cellAt hfr (j * 2 + 1) (by omega)]; exact ⟨_, List.getElem?_eq_getElem (by rw [cks_len2, hlen]; omega)⟩
      obtain ⟨u0, z0⟩ := z0
      obtain ⟨u1, z1⟩ := z1
      have HF : Hid (OwnK ((wr.setCell ⟨g, j * 2, none⟩ (.int .i64 (-1 - (M : Int)))).setCell ⟨g, j * 2 + 1, none⟩ (.int .i64 (j : Int))) b0 (.slice (some ⟨g, 0, none⟩) n lc) (mks M (j + 1) ++ L.drop (j + 1)) ∧ Tn (ownS (.slice (some ⟨g, 0, none⟩) n lc)) w ((wr.setCell ⟨g, j * 2, none⟩ (.int .i64 (-1 - (M : Int)))).setCell ⟨g, j * 2 + 1, none⟩ (.int .i64 (j : Int)))) := by
        refine ⟨?_, HI.out.2.trans (X' := ownS (.slice (some ⟨g, 0, none⟩) n lc)) ⟨q2.os, q2.tape, q2.output, q2.size, fun k hk hx => q2.block k hk (fun e => hx e.symm)⟩ (fun k _ h => h)⟩
        rw [mks_succ, List.append_assoc]
        exact q1
      clear HI hrow hlen q1 q2 hfr
      go_wp2_with fail
      go_roundw
      case rel => exact ⟨j + 1, by omega, by go_num, HF⟩
      case measure => simp [intOf]; omega
    · have hje : j = n := by omega
      subst hje
      have HO : Hid (OwnK wr b0 (.slice lo j lc) (mks M j)) := by
        have h1 := HI.out.1
        rw [List.drop_eq_nil_of_le (by have := HN.out; omega), List.append_nil] at h1
        exact h1
      have HT := hidS HI.out.2
      clear HI
      generalize hwr : wr = w1 at *
      clear hwr
      go_wp2_with fail
      go_loopw [6, 7] (fun v x wr => ∃ (t : Nat) (mo : Option Addr) (mc : Nat), j ≤ t ∧ t ≤ j + 40 ∧ v = .slice mo t mc ∧ x = .int .i64 (t : Int) ∧ Hid (OwnK wr b0 (.slice mo t mc) (mks M t) ∧ Tn (ownS (.slice lo j lc)) w wr ∧ ∀ g, (Value.slice mo t mc).ownBlock = some g → (Value.slice lo j lc).ownBlock = some g ∨ w.heap.size ≤ g)) (fun _ x _ => j + 40 - (intOf x).toNat)
      case atStart => exact ⟨j, lo, lc, Nat.le_refl _, by omega, rfl, rfl, HO.out, HT.out, fun g hg => .inl hg⟩
      case round =>
        clear HO HT
        obtain ⟨t, mo, mc, hjt, htj, rfl, rfl, HI⟩ := hrel
        by_cases hlt2 : t < j + 40
        · have HAp : Hid (∀ ty, ∃ v' w', (Builtin.append_ #[85, 85] ty #[.slice mo t mc, .slice (some ⟨wr.heap.size, 0, none⟩) 1 1]).run Tryz.prog (wr.alloc (.cells #[.int .i64 (-1 - (M : Int)), .int .i64 (t : Int)] 41)) = .ok v' w' ∧ ((∃ o c, v' = .slice o (t + 1) c) ∧ Hid (OwnK w' b0 v' (mks M (t + 1)) ∧ Tn (ownS (.slice lo j lc)) w w' ∧ ∀ g, v'.ownBlock = some g → (Value.slice lo j lc).ownBlock = some g ∨ w.heap.size ≤ g))) := fun ty => by
            have h0 := HI.out.1
            unfold OwnK at h0
            rw [mks_len] at h0
            obtain ⟨v', w', q1, q2, q3, q4, q5⟩ := row_one elKy h0 [.int .i64 (-1 - (M : Int)), .int .i64 (t : Int)] rfl (by intro u hu; simp at hu; rcases hu with rfl | rfl <;> rfl) (by omega) (Nat.le_trans HB0.out HI.out.2.1.size) ty
            refine ⟨v', w', q1, q2, ?_, HI.out.2.1.trans q4 (fun k hk hx => ?_), fun g hg => ?_⟩
            · unfold OwnK
              rw [mks_len, mks_succ, cks_app]
              exact q3
            · rcases HI.out.2.2 k hx with h1 | h1
              · exact h1
              · omega
            · rcases q5 g hg with h1 | h1
              · exact HI.out.2.2 g h1
              · exact .inr (Nat.le_trans HI.out.2.1.size h1)
          have ht1 : decide ((t : Int) < (j : Int) + 40) = true := by simp; omega
          clear HI
          go_wp2_with (refine wpL_appS rfl _ _ 85 rfl (.slice mo t mc) (.slice (some ⟨wr.heap.size, 0, none⟩) 1 1) rfl rfl HAp.out ?_; rintro v4 w4 ⟨⟨o9, c9, rfl⟩, HQ⟩)
          go_roundw
          case rel => exact ⟨t + 1, o9, c9, by omega, by omega, rfl, by go_num, HQ⟩
          case measure => simp [intOf]; omega
        · have HTe : Hid (t = j + 40) := by show _ = _; omega
          have ht1 : decide ((t : Int) < (j : Int) + 40) = false := by have := HTe.out; simp; omega
          obtain ⟨cu, hcu⟩ : ∃ cu, w.heap[B]? = some (.cells cu 39 (0, 0)) := ⟨_, HB.out⟩
          have hBw : B < w.heap.size := blk_lt hcu
          have hlo : ∀ g, ownS (.slice lo j lc) g → ∃ cur, w.heap[g]? = some (.cells cur 41 (0, 0)) := fun g hg => own_ty HL.out hg
          have hBr : wr.heap[B]? = some (.cells #[vc, .slice ko M kc, vl, vw] 39 (0, 0)) := (HI.out.2.1.block B hBw (fun hx => by
            obtain ⟨cur, h1⟩ := hlo B hx
            exact ty_neP h1 hcu (by decide) rfl)).trans HB.out
          have hKr : wr.ownsRow n0 85 1 (.slice ko M kc) M ((List.range M).map cK) := ownsRow_same HK.out (fun g hg => HI.out.2.1.block g (World.ownsRow.lt HK.out g hg).2 (fun hx => by
            obtain ⟨cur, h1⟩ := hlo g hx
            obtain ⟨cur2, h2⟩ := own_ty HK.out hg
            exact ty_neP h1 h2 (by decide) rfl))
          have c1r : wr.cell? ⟨B, 1, none⟩ = some (.slice ko M kc) := by simp [World.cell?, hBr]
          have HAp : Hid (∀ ty, ∃ v' w', (Builtin.append_ #[37, 37] ty #[.slice ko M kc, .slice (some ⟨wr.heap.size, 0, none⟩) 1 1]).run Tryz.prog (wr.alloc (.cells #[.slice mo t mc] 85)) = .ok v' w' ∧ ((∃ o c, v' = .slice o (M + 1) c) ∧ w'.cell? ⟨B, 1, none⟩ = some (.slice ko M kc) ∧ w'.frozen? ⟨B, 1, none⟩ = false ∧ Hid (SetP w n0 b0 B M vc (.slice ko M kc) vl vw (.slice lo j lc) cK L (.returned (.tuple #[])) (w'.setCell ⟨B, 1, none⟩ v')))) := fun ty => by
            obtain ⟨v', w', q1, q2, q3, q4, q5⟩ := row_one elKk hKr [.slice mo t mc] rfl (by intro u hu; simp at hu; rw [hu]; rfl) (by omega) (Nat.le_trans HN0.out HI.out.2.1.size) ty
            have hB4 : w'.heap[B]? = some (.cells #[vc, .slice ko M kc, vl, vw] 39 (0, 0)) := (q4.block B (blk_lt hBr) (fun hx => by
              obtain ⟨cur, h1⟩ := own_ty hKr hx
              exact ty_neP h1 hBr (by decide) rfl)).trans hBr
            have hO4 : OwnK w' b0 (.slice mo t mc) (mks M t) := OwnK.same HI.out.1 (fun g hg => q4.block g (OwnK.lt HI.out.1 g hg).2 (fun hx => by
              obtain ⟨cur, h1⟩ := own_ty hKr hx
              obtain ⟨cur2, h2⟩ := own_ty HI.out.1 hg
              exact ty_neP h1 h2 (by decide) rfl))
            have hs : ∀ k, k ≠ B → (w'.setCell ⟨B, 1, none⟩ v').heap[k]? = w'.heap[k]? := fun k hk => heap_setCell_other w' ⟨B, 1, none⟩ k v' hk
            refine ⟨v', w', q1, q2, by simp [World.cell?, hB4], frozen_of_row w' B 1 _ _ hB4, rfl, v', .slice mo t mc, heap_setCell_same w' B 1 _ _ v' hB4, ?_, ?_, ?_, HI.out.2.2, fun g hg => (q5 g hg).imp id (fun h1 => Nat.le_trans HI.out.2.1.size h1)⟩
            · rw [range_upd]
              exact ownsRow_same q3 (fun g hg => hs g (fun e => by
                obtain ⟨cur, h1⟩ := own_ty q3 hg
                exact ty_neP h1 hB4 (by decide) e))
            · rw [← HN.out, ← HTe.out]
              exact OwnK.same hO4 (fun g hg => hs g (fun e => by
                obtain ⟨cur, h1⟩ := own_ty hO4 hg
                exact ty_neP h1 hB4 (by decide) e))
            · have ht := HI.out.2.1
              refine ⟨q4.os.trans ht.os, q4.tape.trans ht.tape, q4.output.trans ht.output, by simpa using Nat.le_trans ht.size q4.size, fun k hk hx => ?_⟩
              have h1 : k ≠ B := fun e => hx (.inl e)
              exact (hs k h1).trans ((q4.block k (Nat.lt_of_lt_of_le hk ht.size) (fun h2 => hx (.inr (.inl h2)))).trans (ht.block k hk (fun h2 => hx (.inr (.inr h2)))))
          clear HI hBr hKr hlo hcu hBw hlt2 HTe
          go_wp2_with (refine wpL_appS rfl _ _ 37 rfl (.slice ko M kc) (.slice (some ⟨wr.heap.size, 0, none⟩) 1 1) rfl rfl HAp.out ?_; rintro v4 w4 ⟨⟨o9, c9, rfl⟩, t1, t2, HF⟩)
          go_end0
          exact HF.out
end Go.Proofs.YtbcmmeajglilbaaGreat
/-
  StorePlays: THE BOOK'S ROWS OF CHAINS.
-/
namespace Go.Proofs.YtbcmmeajglilbaaGreat
open Go.RowKit Go.Sort

/-- the book's box, and its three rows of chains, apart -/
structure T3 (W : World) (n0 B : Nat) (vc vk vl vw : Value) (nc nl nw : Nat) (xc xl xw : List Value) : Prop where
  bx : W.heap[B]? = some (.cells #[vc, vk, vl, vw] 39 (0, 0))
  rc : W.ownsRow n0 81 1 vc nc xc
  rl : W.ownsRow n0 81 1 vl nl xl
  rw : W.ownsRow n0 81 1 vw nw xw
  cl : ∀ g, vc.ownBlock = some g → vl.ownBlock ≠ some g
  cw : ∀ g, vc.ownBlock = some g → vw.ownBlock ≠ some g
  lw : ∀ g, vl.ownBlock = some g → vw.ownBlock ≠ some g
section
variable {W W' : World} {n0 B : Nat} {vc vk vl vw : Value} {nc nl nw : Nat} {xc xl xw : List Value}
theorem T3.same (h : T3 W n0 B vc vk vl vw nc nl nw xc xl xw) (hs : ∀ k, (k = B ∨ vc.ownBlock = some k ∨ vl.ownBlock = some k ∨ vw.ownBlock = some k) → W'.heap[k]? = W.heap[k]?) : T3 W' n0 B vc vk vl vw nc nl nw xc xl xw :=
  ⟨(hs B (.inl rfl)).trans h.bx, ownsRow_same h.rc (fun g hg => hs g (.inr (.inl hg))), ownsRow_same h.rl (fun g hg => hs g (.inr (.inr (.inl hg)))), ownsRow_same h.rw (fun g hg => hs g (.inr (.inr (.inr hg)))), h.cl, h.cw, h.lw⟩
theorem T3.lt (h : T3 W n0 B vc vk vl vw nc nl nw xc xl xw) {k : Nat} (hk : k = B ∨ vc.ownBlock = some k ∨ vl.ownBlock = some k ∨ vw.ownBlock = some k) : k < W.heap.size := by
  rcases hk with rfl | hk | hk | hk
  · exact blk_lt h.bx
  · exact (World.ownsRow.lt h.rc k hk).2
  · exact (World.ownsRow.lt h.rl k hk).2
  · exact (World.ownsRow.lt h.rw k hk).2
theorem T3.kept (h : T3 W n0 B vc vk vl vw nc nl nw xc xl xw) (hb : Below W.heap.size W W') : T3 W' n0 B vc vk vl vw nc nl nw xc xl xw := h.same (fun _ hk => hb.block _ (h.lt hk))
theorem T3.cells (h : T3 W n0 B vc vk vl vw nc nl nw xc xl xw) : W.cell? ⟨B, 0, none⟩ = some vc ∧ W.cell? ⟨B, 2, none⟩ = some vl ∧ W.cell? ⟨B, 3, none⟩ = some vw := by
  refine ⟨?_, ?_, ?_⟩ <;> simp [World.cell?, h.bx]
theorem T3.nB (h : T3 W n0 B vc vk vl vw nc nl nw xc xl xw) {v : Value} {b T sz n : Nat} {xs : List Value} (ho : W.ownsRow b T sz v n xs) (hT : T ≠ 39) : ∀ g, v.ownBlock = some g → g ≠ B := fun g hg => by
  obtain ⟨cur, h1⟩ := own_ty ho hg
  exact ty_neP h1 h.bx hT
/-- one more in the row at 0 -/
theorem T3.pushC (h : T3 W n0 B vc vk vl vw nc nl nw xc xl xw) (u : Value) (hu : u.oneCell' = true) (hl : nc ≤ 10000000) (hb : n0 ≤ W.heap.size) (ty : TypeId) :
    ∃ v' w', (Builtin.append_ #[36, 36] ty #[vc, .slice (some ⟨W.heap.size, 0, none⟩) 1 1]).run Tryz.prog (W.alloc (.cells #[u] 81)) = .ok v' w' ∧ (∃ o c, v' = .slice o (nc + 1) c) ∧ w'.cell? ⟨B, 0, none⟩ = some vc ∧ w'.frozen? ⟨B, 0, none⟩ = false ∧ T3 (w'.setCell ⟨B, 0, none⟩ v') n0 B v' vk vl vw (nc + 1) nl nw (xc ++ [u]) xl xw ∧ Tn (fun k => k = B ∨ vc.ownBlock = some k) W (w'.setCell ⟨B, 0, none⟩ v') ∧ (∀ g, v'.ownBlock = some g → vc.ownBlock = some g ∨ W.heap.size ≤ g) := by
  obtain ⟨v', w', q1, q2, q3, q4, q5⟩ := row_one elVv h.rc [u] rfl (by intro y hy; simp at hy; rw [hy]; exact hu) hl hb ty
  have hB4 : w'.heap[B]? = some (.cells #[vc, vk, vl, vw] 39 (0, 0)) := (q4.block B (blk_lt h.bx) (fun hx => h.nB h.rc (by decide) B hx rfl)).trans h.bx
  have hs : ∀ k, k ≠ B → (w'.setCell ⟨B, 0, none⟩ v').heap[k]? = w'.heap[k]? := fun k hk => heap_setCell_other w' ⟨B, 0, none⟩ k v' hk
  have k1 : w'.ownsRow n0 81 1 vl nl xl := ownsRow_same h.rl (fun g hg => q4.block g (World.ownsRow.lt h.rl g hg).2 (fun hx => h.cl g hx hg))
  have k2 : w'.ownsRow n0 81 1 vw nw xw := ownsRow_same h.rw (fun g hg => q4.block g (World.ownsRow.lt h.rw g hg).2 (fun hx => h.cw g hx hg))
  have up : ∀ {v : Value} {n : Nat} {xs : List Value}, w'.ownsRow n0 81 1 v n xs → (w'.setCell ⟨B, 0, none⟩ v').ownsRow n0 81 1 v n xs := fun ho => ownsRow_same ho (fun g hg => hs g (fun e => by
    obtain ⟨cur, h1⟩ := own_ty ho hg
    exact ty_neP h1 hB4 (by decide) e))
  refine ⟨v', w', q1, q2, by simp [World.cell?, hB4], frozen_of_row w' B 0 _ _ hB4, ⟨heap_setCell_same w' B 0 _ _ v' hB4, up q3, up k1, up k2, ?_, ?_, ?_⟩, ⟨q4.os, q4.tape, q4.output, by simpa using q4.size, fun k hk hx => (hs k (fun e => hx (.inl e))).trans (q4.block k hk (fun h2 => hx (.inr h2)))⟩, q5⟩
  · exact fun g hg hx => by
      rcases q5 g hg with h1 | h1
      · exact h.cl g h1 hx
      · have := h.lt (k := g) (.inr (.inr (.inl hx))); omega
  · exact fun g hg hx => by
      rcases q5 g hg with h1 | h1
      · exact h.cw g h1 hx
      · have := h.lt (k := g) (.inr (.inr (.inr hx))); omega
  · exact h.lw
/-- one more in the row at 2 -/
theorem T3.pushL (h : T3 W n0 B vc vk vl vw nc nl nw xc xl xw) (u : Value) (hu : u.oneCell' = true) (hl : nl ≤ 10000000) (hb : n0 ≤ W.heap.size) (ty : TypeId) :
    ∃ v' w', (Builtin.append_ #[36, 36] ty #[vl, .slice (some ⟨W.heap.size, 0, none⟩) 1 1]).run Tryz.prog (W.alloc (.cells #[u] 81)) = .ok v' w' ∧ (∃ o c, v' = .slice o (nl + 1) c) ∧ w'.cell? ⟨B, 2, none⟩ = some vl ∧ w'.frozen? ⟨B, 2, none⟩ = false ∧ T3 (w'.setCell ⟨B, 2, none⟩ v') n0 B vc vk v' vw nc (nl + 1) nw xc (xl ++ [u]) xw ∧ Tn (fun k => k = B ∨ vl.ownBlock = some k) W (w'.setCell ⟨B, 2, none⟩ v') ∧ (∀ g, v'.ownBlock = some g → vl.ownBlock = some g ∨ W.heap.size ≤ g) := by
  obtain ⟨v', w', q1, q2, q3, q4, q5⟩ := row_one elVv h.rl [u] rfl (by intro y hy; simp at hy; rw [hy]; exact hu) hl hb ty
  have hB4 : w'.heap[B]? = some (.cells #[vc, vk, vl, vw] 39 (0, 0)) := (q4.block B (blk_lt h.bx) (fun hx => h.nB h.rl (by decide) B hx rfl)).trans h.bx
  have hs : ∀ k, k ≠ B → (w'.setCell ⟨B, 2, none⟩ v').heap[k]? = w'.heap[k]? := fun k hk => heap_setCell_other w' ⟨B, 2, none⟩ k v' hk
  have k1 : w'.ownsRow n0 81 1 vc nc xc := ownsRow_same h.rc (fun g hg => q4.block g (World.ownsRow.lt h.rc g hg).2 (fun hx => h.cl g hg hx))
  have k2 : w'.ownsRow n0 81 1 vw nw xw := ownsRow_same h.rw (fun g hg => q4.block g (World.ownsRow.lt h.rw g hg).2 (fun hx => h.lw g hx hg))
  have up : ∀ {v : Value} {n : Nat} {xs : List Value}, w'.ownsRow n0 81 1 v n xs → (w'.setCell ⟨B, 2, none⟩ v').ownsRow n0 81 1 v n xs := fun ho => ownsRow_same ho (fun g hg => hs g (fun e => by
    obtain ⟨cur, h1⟩ := own_ty ho hg
    exact ty_neP h1 hB4 (by decide) e))
  refine ⟨v', w', q1, q2, by simp [World.cell?, hB4], frozen_of_row w' B 2 _ _ hB4, ⟨heap_setCell_same w' B 2 _ _ v' hB4, up k1, up q3, up k2, ?_, ?_, ?_⟩, ⟨q4.os, q4.tape, q4.output, by simpa using q4.size, fun k hk hx => (hs k (fun e => hx (.inl e))).trans (q4.block k hk (fun h2 => hx (.inr h2)))⟩, q5⟩
  · exact fun g hg hx => by
      rcases q5 g hx with h1 | h1
      · exact h.cl g hg h1
      · have := h.lt (k := g) (.inr (.inl hg)); omega
  · exact h.cw
  · exact fun g hg hx => by
      rcases q5 g hg with h1 | h1
      · exact h.lw g h1 hx
      · have := h.lt (k := g) (.inr (.inr (.inr hx))); omega
/-- one more in the row at 3 -/
theorem T3.pushW (h : T3 W n0 B vc vk vl vw nc nl nw xc xl xw) (u : Value) (hu : u.oneCell' = true) (hl : nw ≤ 10000000) (hb : n0 ≤ W.heap.size) (ty : TypeId) :
    ∃ v' w', (Builtin.append_ #[36, 36] ty #[vw, .slice (some ⟨W.heap.size, 0, none⟩) 1 1]).run Tryz.prog (W.alloc (.cells #[u] 81)) = .ok v' w' ∧ (∃ o c, v' = .slice o (nw + 1) c) ∧ w'.cell? ⟨B, 3, none⟩ = some vw ∧ w'.frozen? ⟨B, 3, none⟩ = false ∧ T3 (w'.setCell ⟨B, 3, none⟩ v') n0 B vc vk vl v' nc nl (nw + 1) xc xl (xw ++ [u]) ∧ Tn (fun k => k = B ∨ vw.ownBlock = some k) W (w'.setCell ⟨B, 3, none⟩ v') ∧ (∀ g, v'.ownBlock = some g → vw.ownBlock = some g ∨ W.heap.size ≤ g) := by
  obtain ⟨v', w', q1, q2, q3, q4, q5⟩ := row_one elVv h.rw [u] rfl (by intro y hy; simp at hy; rw [hy]; exact hu) hl hb ty
  have hB4 : w'.heap[B]? = some (.cells #[vc, vk, vl, vw] 39 (0, 0)) := (q4.block B (blk_lt h.bx) (fun hx => h.nB h.rw (by decide) B hx rfl)).trans h.bx
  have hs : ∀ k, k ≠ B → (w'.setCell ⟨B, 3, none⟩ v').heap[k]? = w'.heap[k]? := fun k hk => heap_setCell_other w' ⟨B, 3, none⟩ k v' hk
  have k1 : w'.ownsRow n0 81 1 vc nc xc := ownsRow_same h.rc (fun g hg => q4.block g (World.ownsRow.lt h.rc g hg).2 (fun hx => h.cw g hg hx))
  have k2 : w'.ownsRow n0 81 1 vl nl xl := ownsRow_same h.rl (fun g hg => q4.block g (World.ownsRow.lt h.rl g hg).2 (fun hx => h.lw g hg hx))
  have up : ∀ {v : Value} {n : Nat} {xs : List Value}, w'.ownsRow n0 81 1 v n xs → (w'.setCell ⟨B, 3, none⟩ v').ownsRow n0 81 1 v n xs := fun ho => ownsRow_same ho (fun g hg => hs g (fun e => by
    obtain ⟨cur, h1⟩ := own_ty ho hg
    exact ty_neP h1 hB4 (by decide) e))
  refine ⟨v', w', q1, q2, by simp [World.cell?, hB4], frozen_of_row w' B 3 _ _ hB4, ⟨heap_setCell_same w' B 3 _ _ v' hB4, up k1, up k2, up q3, ?_, ?_, ?_⟩, ⟨q4.os, q4.tape, q4.output, by simpa using q4.size, fun k hk hx => (hs k (fun e => hx (.inl e))).trans (q4.block k hk (fun h2 => hx (.inr h2)))⟩, q5⟩
  · exact h.cl
  · exact fun g hg hx => by
      rcases q5 g hx with h1 | h1
      · exact h.cw g hg h1
      · have := h.lt (k := g) (.inr (.inl hg)); omega
  · exact fun g hg hx => by
      rcases q5 g hx with h1 | h1
      · exact h.lw g hg h1
      · have := h.lt (k := g) (.inr (.inr (.inl hg))); omega
end
end Go.Proofs.YtbcmmeajglilbaaGreat
