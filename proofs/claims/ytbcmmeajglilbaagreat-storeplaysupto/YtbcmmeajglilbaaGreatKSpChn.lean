import Derived.Test.YtbcmmeajglilbaaGreatKSpSame
import Derived.Deep.RegionHeld3
/-
  StorePlays: THE BOOK'S chain.
-/
namespace Go.Proofs.YtbcmmeajglilbaaGreat
open Go.RowKit Go.Sort

attribute [local go_sem] Oper.semAt_some

/-- a row is copied behind an empty one -/
theorem copy_run {U : World} {b0 : Nat} {av : Value} {ys : List Vr} (h : VRow U b0 av ys) (hl : ys.length ≤ 65536) (ty : TypeId) :
    ∃ v' w', (Builtin.append_ #[TVs, TVs] ty #[.slice (some ⟨U.heap.size, 0, none⟩) 0 0, av]).run Tryz.prog (U.drew.alloc (.cells #[] TV)) = .ok v' w' ∧ (∃ o n c, v' = .slice o n c) ∧ VRow w' U.heap.size v' ys ∧ Below U.heap.size U w' := by
  have hal : Below U.heap.size U (U.drew.alloc (.cells #[] TV)) := ((Grew.refl U).drew.alloc _).below
  have h0 : (U.drew.alloc (.cells #[] TV)).ownsRow U.heap.size TV 5 (.slice (some ⟨U.heap.size, 0, none⟩) 0 0) 0 [] := ⟨rfl, .inr ⟨U.heap.size, 0, #[], rfl, Nat.le_refl _, heap_alloc_new _ _ rfl, Nat.le_refl _, by unfold maxLen; omega, rfl, rfl⟩⟩
  have hA : VRow (U.drew.alloc (.cells #[] TV)) b0 av ys := h.same (fun g hg => hal.block g (World.ownsRow.lt h g hg).2)
  have hr := hA
  unfold VRow at hr
  obtain ⟨hlx, ⟨e, e2⟩ | ⟨g, c, cur, e, _⟩⟩ := hA
  · have e3 : ys = [] := List.eq_nil_of_length_eq_zero e2
    subst e3
    obtain ⟨i0, hi, hz0, hz1, hz2⟩ := info_parts elV.i
    refine ⟨_, _, by rw [e]; exact run_append_owned_none (P := Tryz.prog) (w := U.drew.alloc (.cells #[] TV)) U.heap.size TVs ty TV i0 5 Tryz.underlying81 hi (.slice (some ⟨U.heap.size, 0, none⟩) 0 0) 0 [] h0, ⟨_, _, _, rfl⟩, h0, hal⟩
  · rw [e] at hr
    obtain ⟨v', w', q1, q2, q3⟩ := run_append_C elV ty U.heap.size _ 0 [] h0 ⟨g, 0, none⟩ ys.length c (ctv ys) (ctv_len ys) (fun j u hu => World.ownsRow.cells hr rfl j u hu) (fun u hu => by
      obtain ⟨y, _, hy⟩ := List.mem_flatMap.1 hu
      simp [c1v] at hy
      rcases hy with rfl | rfl | rfl | rfl | rfl <;> rfl) (by omega) hal.size
    rw [Nat.zero_add, List.nil_append] at q2
    refine ⟨v', w', by rw [e]; exact q1, ?_, q2, ?_⟩
    · obtain ⟨a0, c0, e5⟩ := row_slice q2
      exact ⟨a0, _, c0, e5⟩
    · rcases q3 with ⟨g', c', e5, _, q4⟩ | ⟨_, q4⟩
      · have hg' : g' = U.heap.size := by simp only [Value.slice.injEq, Option.some.injEq, Addr.mk.injEq] at e5; exact e5.1.1.symm
        exact ⟨q4.os.trans hal.os, q4.tape.trans hal.tape, q4.output.trans hal.output, Nat.le_trans hal.size q4.size, fun k hk => (q4.block k (Nat.lt_of_lt_of_le hk hal.size) (fun e6 => by cases e6; omega)).trans (hal.block k hk)⟩
      · exact ⟨q4.os.trans hal.os, q4.tape.trans hal.tape, q4.output.trans hal.output, Nat.le_trans hal.size q4.size, fun k hk => (q4.block k (Nat.lt_of_lt_of_le hk hal.size) (fun e6 => by cases e6)).trans (hal.block k hk)⟩
/-- what a book's calls may turn -/
def Zs (B : Nat) (vc vl vw lv : Value) : Nat → Prop := fun k => k = B ∨ vc.ownBlock = some k ∨ vl.ownBlock = some k ∨ vw.ownBlock = some k ∨ lv.ownBlock = some k
theorem T3.ty {W : World} {n0 B : Nat} {vc vk vl vw : Value} {nc nl nw : Nat} {xc xl xw : List Value} (h : T3 W n0 B vc vk vl vw nc nl nw xc xl xw) {k : Nat} (hk : k = B ∨ vc.ownBlock = some k ∨ vl.ownBlock = some k ∨ vw.ownBlock = some k) : ∃ cur T, W.heap[k]? = some (.cells cur T (0, 0)) ∧ T ≠ 71 := by
  rcases hk with rfl | hk | hk | hk
  · exact ⟨_, _, h.bx, by decide⟩
  · obtain ⟨c, h1⟩ := own_ty h.rc hk; exact ⟨c, _, h1, by decide⟩
  · obtain ⟨c, h1⟩ := own_ty h.rl hk; exact ⟨c, _, h1, by decide⟩
  · obtain ⟨c, h1⟩ := own_ty h.rw hk; exact ⟨c, _, h1, by decide⟩
/-- where chain stands -/
structure S3 (w W : World) (n0 b0 B : Nat) (vc vk vl vw lv av mv vc' vl' vw' : Value) (nc nl nw : Nat) (yc yl yw : List Value) (ys ms : List Vr) : Prop where
  t : T3 W n0 B vc' vk vl' vw' nc nl nw yc yl yw
  m : VRow W b0 mv ms
  a : VRow W b0 av ys
  tn : Tn (Zs B vc vl vw lv) w W
  oc : OwnN vc vc' w.heap.size
  ol : OwnN vl vl' w.heap.size
  ow : OwnN vw vw' w.heap.size
theorem S3.kept {w W W' : World} {n0 b0 B nc nl nw : Nat} {vc vk vl vw lv av mv vc' vl' vw' : Value} {yc yl yw : List Value} {ys ms : List Vr} (h : S3 w W n0 b0 B vc vk vl vw lv av mv vc' vl' vw' nc nl nw yc yl yw ys ms) (hb : Below W.heap.size W W') : S3 w W' n0 b0 B vc vk vl vw lv av mv vc' vl' vw' nc nl nw yc yl yw ys ms :=
  ⟨h.t.kept hb, h.m.same (fun g hg => hb.block g (World.ownsRow.lt h.m g hg).2), h.a.same (fun g hg => hb.block g (World.ownsRow.lt h.a g hg).2), h.tn.trans (X' := fun _ => False) ⟨hb.os, hb.tape, hb.output, hb.size, fun k hk _ => hb.block k hk⟩ (fun _ _ h => h.elim), h.oc, h.ol, h.ow⟩
theorem S3.pushC {w W : World} {n0 b0 B nc nl nw : Nat} {vc vk vl vw lv av mv vc' vl' vw' : Value} {yc yl yw : List Value} {ys ms : List Vr} (h : S3 w W n0 b0 B vc vk vl vw lv av mv vc' vl' vw' nc nl nw yc yl yw ys ms) (u : Value) (hu : u.oneCell' = true) (hl : nc ≤ 10000000) (hb : n0 ≤ w.heap.size) (ty : TypeId) :
    ∃ v' w', (Builtin.append_ #[36, 36] ty #[vc', .slice (some ⟨W.heap.size, 0, none⟩) 1 1]).run Tryz.prog (W.alloc (.cells #[u] 81)) = .ok v' w' ∧ (∃ o c, v' = .slice o (nc + 1) c) ∧ w'.cell? ⟨B, 0, none⟩ = some vc' ∧ w'.frozen? ⟨B, 0, none⟩ = false ∧ S3 w (w'.setCell ⟨B, 0, none⟩ v') n0 b0 B vc vk vl vw lv av mv v' vl' vw' (nc + 1) nl nw (yc ++ [u]) yl yw ys ms ∧ (∀ b v zs, VRow W b v zs → VRow (w'.setCell ⟨B, 0, none⟩ v') b v zs) := by
  obtain ⟨v', w', q1, q2, q3, q4, q5, q6, q7⟩ := h.t.pushC u hu hl (Nat.le_trans hb h.tn.size) ty
  have kr : ∀ b v zs, VRow W b v zs → VRow (w'.setCell ⟨B, 0, none⟩ v') b v zs := fun b v zs hv => hv.same (fun g hg => q6.block g (World.ownsRow.lt hv g hg).2 (fun hx => by
    obtain ⟨cur, h1⟩ := own_ty hv hg
    obtain ⟨cur2, T, h2, h3⟩ := h.t.ty (k := g) (by
      rcases hx with hx | hx
      · exact .inl hx
      · exact .inr (.inl hx))
    exact ty_neP h2 h1 h3 rfl))
  refine ⟨v', w', q1, q2, q3, q4, ⟨q5, kr _ _ _ h.m, kr _ _ _ h.a, h.tn.trans q6 (fun k hk hx => ?_), fun g hg => (q7 g hg).elim (h.oc g) (fun h1 => .inr (Nat.le_trans h.tn.size h1)), h.ol, h.ow⟩, kr⟩
  rcases hx with hx | hx
  · exact .inl hx
  · rcases h.oc k hx with h4 | h4
    · exact .inr (.inl h4)
    · omega
theorem S3.pushL {w W : World} {n0 b0 B nc nl nw : Nat} {vc vk vl vw lv av mv vc' vl' vw' : Value} {yc yl yw : List Value} {ys ms : List Vr} (h : S3 w W n0 b0 B vc vk vl vw lv av mv vc' vl' vw' nc nl nw yc yl yw ys ms) (u : Value) (hu : u.oneCell' = true) (hl : nl ≤ 10000000) (hb : n0 ≤ w.heap.size) (ty : TypeId) :
    ∃ v' w', (Builtin.append_ #[36, 36] ty #[vl', .slice (some ⟨W.heap.size, 0, none⟩) 1 1]).run Tryz.prog (W.alloc (.cells #[u] 81)) = .ok v' w' ∧ (∃ o c, v' = .slice o (nl + 1) c) ∧ w'.cell? ⟨B, 2, none⟩ = some vl' ∧ w'.frozen? ⟨B, 2, none⟩ = false ∧ S3 w (w'.setCell ⟨B, 2, none⟩ v') n0 b0 B vc vk vl vw lv av mv vc' v' vw' nc (nl + 1) nw yc (yl ++ [u]) yw ys ms ∧ (∀ b v zs, VRow W b v zs → VRow (w'.setCell ⟨B, 2, none⟩ v') b v zs) := by
  obtain ⟨v', w', q1, q2, q3, q4, q5, q6, q7⟩ := h.t.pushL u hu hl (Nat.le_trans hb h.tn.size) ty
  have kr : ∀ b v zs, VRow W b v zs → VRow (w'.setCell ⟨B, 2, none⟩ v') b v zs := fun b v zs hv => hv.same (fun g hg => q6.block g (World.ownsRow.lt hv g hg).2 (fun hx => by
    obtain ⟨cur, h1⟩ := own_ty hv hg
    obtain ⟨cur2, T, h2, h3⟩ := h.t.ty (k := g) (by
      rcases hx with hx | hx
      · exact .inl hx
      · exact .inr (.inr (.inl hx)))
    exact ty_neP h2 h1 h3 rfl))
  refine ⟨v', w', q1, q2, q3, q4, ⟨q5, kr _ _ _ h.m, kr _ _ _ h.a, h.tn.trans q6 (fun k hk hx => ?_), h.oc, fun g hg => (q7 g hg).elim (h.ol g) (fun h1 => .inr (Nat.le_trans h.tn.size h1)), h.ow⟩, kr⟩
  rcases hx with hx | hx
  · exact .inl hx
  · rcases h.ol k hx with h4 | h4
    · exact .inr (.inr (.inl h4))
    · omega
theorem S3.pushW {w W : World} {n0 b0 B nc nl nw : Nat} {vc vk vl vw lv av mv vc' vl' vw' : Value} {yc yl yw : List Value} {ys ms : List Vr} (h : S3 w W n0 b0 B vc vk vl vw lv av mv vc' vl' vw' nc nl nw yc yl yw ys ms) (u : Value) (hu : u.oneCell' = true) (hl : nw ≤ 10000000) (hb : n0 ≤ w.heap.size) (ty : TypeId) :
    ∃ v' w', (Builtin.append_ #[36, 36] ty #[vw', .slice (some ⟨W.heap.size, 0, none⟩) 1 1]).run Tryz.prog (W.alloc (.cells #[u] 81)) = .ok v' w' ∧ (∃ o c, v' = .slice o (nw + 1) c) ∧ w'.cell? ⟨B, 3, none⟩ = some vw' ∧ w'.frozen? ⟨B, 3, none⟩ = false ∧ S3 w (w'.setCell ⟨B, 3, none⟩ v') n0 b0 B vc vk vl vw lv av mv vc' vl' v' nc nl (nw + 1) yc yl (yw ++ [u]) ys ms ∧ (∀ b v zs, VRow W b v zs → VRow (w'.setCell ⟨B, 3, none⟩ v') b v zs) := by
  obtain ⟨v', w', q1, q2, q3, q4, q5, q6, q7⟩ := h.t.pushW u hu hl (Nat.le_trans hb h.tn.size) ty
  have kr : ∀ b v zs, VRow W b v zs → VRow (w'.setCell ⟨B, 3, none⟩ v') b v zs := fun b v zs hv => hv.same (fun g hg => q6.block g (World.ownsRow.lt hv g hg).2 (fun hx => by
    obtain ⟨cur, h1⟩ := own_ty hv hg
    obtain ⟨cur2, T, h2, h3⟩ := h.t.ty (k := g) (by
      rcases hx with hx | hx
      · exact .inl hx
      · exact .inr (.inr (.inr hx)))
    exact ty_neP h2 h1 h3 rfl))
  refine ⟨v', w', q1, q2, q3, q4, ⟨q5, kr _ _ _ h.m, kr _ _ _ h.a, h.tn.trans q6 (fun k hk hx => ?_), h.oc, h.ol, fun g hg => (q7 g hg).elim (h.ow g) (fun h1 => .inr (Nat.le_trans h.tn.size h1))⟩, kr⟩
  rcases hx with hx | hx
  · exact .inl hx
  · rcases h.ow k hx with h4 | h4
    · exact .inr (.inr (.inr (.inl h4)))
    · omega
/-- what chain leaves -/
def ChnP (w : World) (n0 b0 B N : Nat) (vc vk vl vw lv av : Value) (xc xl xw : List Value) (ys : List Vr) (e : Ending) (w' : World) : Prop :=
  e = .returned (.tuple #[]) ∧ ∃ vc' vl' vw' mv wv, T3 w' n0 B vc' vk vl' vw' (N + 1) (N + 1) (N + 1) (xc ++ [mv]) (xl ++ [av]) (xw ++ [wv]) ∧ VRow w' b0 mv (mvs N (ys.length + 40)) ∧ VRow w' b0 av ys ∧ VRow w' b0 wv ys ∧
    Tn (Zs B vc vl vw lv) w w' ∧ (∀ g, mv.ownBlock = some g → lv.ownBlock = some g ∨ w.heap.size ≤ g) ∧ (∀ g, wv.ownBlock = some g → w.heap.size ≤ g) ∧
    OwnN vc vc' w.heap.size ∧ OwnN vl vl' w.heap.size ∧ OwnN vw vw' w.heap.size
set_option maxRecDepth 100000 in
set_option maxHeartbeats 8000000 in
theorem chain_any (w : World) (n0 b0 B N : Nat) (vc vk vl vw lv av : Value) (xc xl xw : List Value) (ys : List Vr) (h : T3 w n0 B vc vk vl vw N N N xc xl xw) (hl : VRow w b0 lv ys) (ha : VRow w b0 av ys) (hd : ∀ g, lv.ownBlock = some g → av.ownBlock ≠ some g) (hL : ys.length ≤ 65536) (hN : N ≤ 9000000) (hn0 : n0 ≤ w.heap.size) (hb0 : b0 ≤ w.heap.size) :
    Calls Tryz.prog 31 #[ptr B, lv, av] w fun e w' => ChnP w n0 b0 B N vc vk vl vw lv av xc xl xw ys e w' := by
  obtain ⟨co, cc, rfl⟩ := row_slice h.rc
  obtain ⟨lo', lc', rfl⟩ := row_slice h.rl
  obtain ⟨wo, wc, rfl⟩ := row_slice h.rw
  obtain ⟨lo, lc, rfl⟩ := hl.sl
  obtain ⟨ao, ac, rfl⟩ := ha.sl
  have c0 := h.cells.1
  obtain ⟨n, hn⟩ : ∃ n, n = ys.length := ⟨_, rfl⟩
  have HN := hidS hn
  have HL := hidS hl
  have HAv := hidS ha
  have HD := hidS hd
  have HT3 := hidS h
  have HN0 := hidS hn0
  have HB0 := hidS hb0
  have hn9 : n ≤ 65536 := by rw [hn]; exact hL
  rw [← hn] at HL HAv HD ⊢
  clear hn hl ha hd h hn0 hb0 hL
  go_enter Tryz.func31, Tryz.ntmps31
  go_wp2_with fail
  go_loopw [7] (fun x wr => ∃ (j : Nat), j ≤ n ∧ x = .int .i64 (j : Int) ∧ Hid (VRow wr b0 (.slice lo n lc) (mvs N j ++ ys.drop j) ∧ Tn (ownS (.slice lo n lc)) w wr)) (fun x _ => n - (intOf x).toNat)
  case atStart => exact ⟨0, Nat.zero_le _, rfl, by simpa [mvs] using HL.out, Tn.bel (Below.refl _ _)⟩
  case round =>
    obtain ⟨j, hj, rfl, HI⟩ := hrel
    by_cases hlt : j < n
    · have hjL : j < ys.length := by have := HN.out; omega
      have hrow := HI.out.1
      rw [List.drop_eq_getElem_cons hjL] at hrow
      have hlen : (mvs N j ++ ys[j] :: ys.drop (j + 1)).length = n := by rw [HN.out]; simp [mvs_len]; omega
      obtain ⟨g, hg⟩ : ∃ g, lo = some ⟨g, 0, none⟩ := by
        obtain ⟨_, ⟨h1, h2⟩ | ⟨g, c, _, h1, _⟩⟩ := hrow
        · rw [hlen] at h2; omega
        · simp only [Value.slice.injEq] at h1; exact ⟨g, h1.1⟩
      subst hg
      obtain ⟨q1, q2⟩ := VRow.set5 hrow hlen (mvP N j)
      rw [mvs_len] at q1 q2
      have hfr := hrow
      unfold VRow at hfr
      rw [hlen] at hfr
      have cx : ∀ i, i < 5 → ∃ u, wr.cell? ⟨g, j * 5 + i, none⟩ = some u := fun i hi => by rw [World.ownsRow.cellAt hfr (j * 5 + i) (by omega)]; exact ⟨_, List.getElem?_eq_getElem (by rw [ctv_len, hlen]; omega)⟩
      have f0 := World.ownsRow.frozenAt hfr (j * 5)
      have f1 := World.ownsRow.frozenAt hfr (j * 5 + 1)
      have f2 := World.ownsRow.frozenAt hfr (j * 5 + 2)
      have f3 := World.ownsRow.frozenAt hfr (j * 5 + 3)
      have f4 := World.ownsRow.frozenAt hfr (j * 5 + 4)
      obtain ⟨u0, z0⟩ := cx 0 (by omega)
      rw [Nat.add_zero] at z0
      obtain ⟨u1, z1⟩ := cx 1 (by omega)
      obtain ⟨u2, z2⟩ := cx 2 (by omega)
      obtain ⟨u3, z3⟩ := cx 3 (by omega)
      obtain ⟨u4, z4⟩ := cx 4 (by omega)
      have HF : Hid (VRow (s5 wr g (j * 5) (.int .i64 (-1 - (N : Int))) (.int .i64 (j : Int)) (.bool false) (.bool false) (.int .i64 0)) b0 (.slice (some ⟨g, 0, none⟩) n lc) (mvs N (j + 1) ++ ys.drop (j + 1)) ∧ Tn (ownS (.slice (some ⟨g, 0, none⟩) n lc)) w (s5 wr g (j * 5) (.int .i64 (-1 - (N : Int))) (.int .i64 (j : Int)) (.bool false) (.bool false) (.int .i64 0))) := by
        refine ⟨?_, HI.out.2.trans (X' := ownS (.slice (some ⟨g, 0, none⟩) n lc)) ⟨q2.os, q2.tape, q2.output, q2.size, fun k hk hx => q2.block k hk (fun e => hx e.symm)⟩ (fun k _ h => h)⟩
        rw [mvs_succ, List.append_assoc]
        exact q1
      clear HI hrow hlen q1 q2 hfr cx
      go_wp2_with fail
      go_roundw
      case rel => exact ⟨j + 1, by omega, by go_num, HF⟩
      case measure => simp [intOf]; omega
    · have hje : j = n := by omega
      subst hje
      have HO : Hid (VRow wr b0 (.slice lo j lc) (mvs N j)) := by
        have h1 := HI.out.1
        rw [List.drop_eq_nil_of_le (by have := HN.out; omega), List.append_nil] at h1
        exact h1
      have HT := hidS HI.out.2
      clear HI
      generalize hwr : wr = w1 at *
      clear hwr
      go_wp2_with fail
      go_loopw [8, 9] (fun v x wr => ∃ (t : Nat) (mo : Option Addr) (mc : Nat), j ≤ t ∧ t ≤ j + 40 ∧ v = .slice mo t mc ∧ x = .int .i64 (t : Int) ∧ Hid (VRow wr b0 (.slice mo t mc) (mvs N t) ∧ Tn (ownS (.slice lo j lc)) w wr ∧ ∀ g, (Value.slice mo t mc).ownBlock = some g → (Value.slice lo j lc).ownBlock = some g ∨ w.heap.size ≤ g)) (fun _ x _ => j + 40 - (intOf x).toNat)
      case atStart => exact ⟨j, lo, lc, Nat.le_refl _, by omega, rfl, rfl, HO.out, HT.out, fun g hg => .inl hg⟩
      case round =>
        clear HO HT
        obtain ⟨t, mo, mc, hjt, htj, rfl, rfl, HI⟩ := hrel
        by_cases hlt2 : t < j + 40
        · have HAp : Hid (∀ ty, ∃ v' w', (Builtin.append_ #[81, 81] ty #[.slice mo t mc, .slice (some ⟨wr.heap.size, 0, none⟩) 1 1]).run Tryz.prog (wr.alloc (.cells #[.int .i64 (-1 - (N : Int)), .int .i64 (t : Int), .bool false, .bool false, .int .i64 0] 71)) = .ok v' w' ∧ ((∃ o c, v' = .slice o (t + 1) c) ∧ Hid (VRow w' b0 v' (mvs N (t + 1)) ∧ Tn (ownS (.slice lo j lc)) w w' ∧ ∀ g, v'.ownBlock = some g → (Value.slice lo j lc).ownBlock = some g ∨ w.heap.size ≤ g))) := fun ty => by
            obtain ⟨v', w', q1, q2, q3, q4, q5⟩ := VRow.app HI.out.1 (mvP N t) (by rw [mvs_len]; omega) (Nat.le_trans HB0.out HI.out.2.1.size) ty
            rw [mvs_len] at q2
            refine ⟨v', w', q1, q2, ?_, HI.out.2.1.trans q4 (fun k hk hx => ?_), fun g hg => ?_⟩
            · rw [mvs_succ]; exact q3
            · rcases HI.out.2.2 k hx with h1 | h1
              · exact h1
              · omega
            · rcases q5 g hg with h1 | h1
              · exact HI.out.2.2 g h1
              · exact .inr (Nat.le_trans HI.out.2.1.size h1)
          have ht1 : decide ((t : Int) < (j : Int) + 40) = true := by simp; omega
          clear HI
          go_wp2_with (refine wpL_appS rfl _ _ 81 rfl (.slice mo t mc) (.slice (some ⟨wr.heap.size, 0, none⟩) 1 1) rfl rfl HAp.out ?_; rintro v4 w4 ⟨⟨o9, c9, rfl⟩, HQ⟩)
          go_roundw
          case rel => exact ⟨t + 1, o9, c9, by omega, by omega, rfl, by go_num, HQ⟩
          case measure => simp [intOf]; omega
        · have HTe : Hid (t = j + 40) := by show _ = _; omega
          have ht1 : decide ((t : Int) < (j : Int) + 40) = false := by have := HTe.out; simp; omega
          have hty : ∀ g, ownS (.slice lo j lc) g → ∃ cur, w.heap[g]? = some (.cells cur 71 (0, 0)) := fun g hg => own_ty HL.out hg
          have HT3r : Hid (T3 wr n0 B (.slice co N cc) vk (.slice lo' N lc') (.slice wo N wc) N N N xc xl xw) := HT3.out.same (fun k hk => HI.out.2.1.block k (HT3.out.lt hk) (fun hx => by
            obtain ⟨cur, h1⟩ := hty k hx
            rcases hk with rfl | hk | hk | hk
            · exact ty_neP h1 HT3.out.bx (by decide) rfl
            · obtain ⟨cur2, h2⟩ := own_ty HT3.out.rc hk
              exact ty_neP h1 h2 (by decide) rfl
            · obtain ⟨cur2, h2⟩ := own_ty HT3.out.rl hk
              exact ty_neP h1 h2 (by decide) rfl
            · obtain ⟨cur2, h2⟩ := own_ty HT3.out.rw hk
              exact ty_neP h1 h2 (by decide) rfl))
          have HAr : Hid (VRow wr b0 (.slice ao j ac) ys) := HAv.out.same (fun g hg => HI.out.2.1.block g (World.ownsRow.lt HAv.out g hg).2 (fun hx => HD.out g hx hg))
          have HS0 : Hid (S3 w wr n0 b0 B (.slice co N cc) vk (.slice lo' N lc') (.slice wo N wc) (.slice lo j lc) (.slice ao j ac) (.slice mo t mc) (.slice co N cc) (.slice lo' N lc') (.slice wo N wc) N N N xc xl xw ys (mvs N t)) := ⟨HT3r.out, HI.out.1, HAr.out, ⟨HI.out.2.1.os, HI.out.2.1.tape, HI.out.2.1.output, HI.out.2.1.size, fun k hk hx => HI.out.2.1.block k hk (fun h2 => hx (.inr (.inr (.inr (.inr h2)))))⟩, fun _ h => .inl h, fun _ h => .inl h, fun _ h => .inl h⟩
          have HMo := hidS HI.out.2.2
          have k0 := HT3r.out.cells.1
          have HA1 : Hid (∀ ty, ∃ v' w', (Builtin.append_ #[36, 36] ty #[.slice co N cc, .slice (some ⟨wr.heap.size, 0, none⟩) 1 1]).run Tryz.prog (wr.alloc (.cells #[.slice mo t mc] 81)) = .ok v' w' ∧ ((∃ o c, v' = .slice o (N + 1) c) ∧ w'.cell? ⟨B, 0, none⟩ = some (.slice co N cc) ∧ w'.frozen? ⟨B, 0, none⟩ = false ∧ Hid (S3 w (w'.setCell ⟨B, 0, none⟩ v') n0 b0 B (.slice co N cc) vk (.slice lo' N lc') (.slice wo N wc) (.slice lo j lc) (.slice ao j ac) (.slice mo t mc) v' (.slice lo' N lc') (.slice wo N wc) (N + 1) N N (xc ++ [.slice mo t mc]) xl xw ys (mvs N t)))) := fun ty => by
            obtain ⟨v', w', q1, q2, q3, q4, q5, _⟩ := HS0.out.pushC (.slice mo t mc) rfl (by omega) HN0.out ty
            exact ⟨v', w', q1, q2, q3, q4, q5⟩
          clear HI HT3r HAr hlt2 hty HS0
          go_upto_region 11 with (refine wpL_appS rfl _ _ 36 rfl (.slice co N cc) (.slice (some ⟨wr.heap.size, 0, none⟩) 1 1) rfl rfl HA1.out ?_; rintro v4 w4 ⟨⟨o9, c9, rfl⟩, t1, t2, HS1⟩)
          generalize w4.setCell ⟨B, 0, none⟩ (.slice o9 (N + 1) c9) = W4 at *
          clear HA1 k0 t1 t2
          have k0 := HS1.out.t.cells.2.1
          have HA1 : Hid (∀ ty, ∃ v' w', (Builtin.append_ #[36, 36] ty #[.slice lo' N lc', .slice (some ⟨W4.heap.size, 0, none⟩) 1 1]).run Tryz.prog (W4.alloc (.cells #[.slice ao j ac] 81)) = .ok v' w' ∧ ((∃ o c, v' = .slice o (N + 1) c) ∧ w'.cell? ⟨B, 2, none⟩ = some (.slice lo' N lc') ∧ w'.frozen? ⟨B, 2, none⟩ = false ∧ Hid (S3 w (w'.setCell ⟨B, 2, none⟩ v') n0 b0 B (.slice co N cc) vk (.slice lo' N lc') (.slice wo N wc) (.slice lo j lc) (.slice ao j ac) (.slice mo t mc) (.slice o9 (N + 1) c9) v' (.slice wo N wc) (N + 1) (N + 1) N (xc ++ [.slice mo t mc]) (xl ++ [.slice ao j ac]) xw ys (mvs N t)))) := fun ty => by
            obtain ⟨v', w', q1, q2, q3, q4, q5, _⟩ := HS1.out.pushL (.slice ao j ac) rfl (by omega) HN0.out ty
            exact ⟨v', w', q1, q2, q3, q4, q5⟩
          clear HS1
          go_upto_region 12 with (refine wpL_appS rfl _ _ 36 rfl (.slice lo' N lc') (.slice (some ⟨W4.heap.size, 0, none⟩) 1 1) rfl rfl HA1.out ?_; rintro v5 w5 ⟨⟨o8, c8, rfl⟩, t1, t2, HS2⟩)
          generalize w5.setCell ⟨B, 2, none⟩ (.slice o8 (N + 1) c8) = U at *
          clear HA1 k0 t1 t2
          have hdr : Below U.heap.size U U.drew := (Grew.refl U).drew.below
          have hal : ∀ o, Below U.heap.size U (U.drew.alloc o) := fun o => ((Grew.refl U).drew.alloc o).below
          have hal2 : ∀ o, Below U.heap.size U (U.alloc o) := fun o => ((Grew.refl U).alloc o).below
          have d0 := HS2.out.t.cells.2.2
          have d1 := (HS2.out.kept hdr).t.cells.2.2
          have d2 := fun o => (HS2.out.kept (hal o)).t.cells.2.2
          have d3 := fun o => (HS2.out.kept (hal2 o)).t.cells.2.2
          have HCp : Hid (∀ ty, ∃ v' w', (Builtin.append_ #[81, 81] ty #[.slice (some ⟨U.heap.size, 0, none⟩) 0 0, .slice ao j ac]).run Tryz.prog (U.drew.alloc (.cells #[] 71)) = .ok v' w' ∧ ((∃ o n c, v' = .slice o n c) ∧ w'.cell? ⟨B, 3, none⟩ = some (.slice wo N wc) ∧ (∀ o, (w'.alloc o).cell? ⟨B, 3, none⟩ = some (.slice wo N wc)) ∧ Hid (∀ ty, ∃ v9 w9, (Builtin.append_ #[36, 36] ty #[.slice wo N wc, .slice (some ⟨w'.heap.size, 0, none⟩) 1 1]).run Tryz.prog (w'.alloc (.cells #[v'] 81)) = .ok v9 w9 ∧ ((∃ o c, v9 = .slice o (N + 1) c) ∧ w9.cell? ⟨B, 3, none⟩ = some (.slice wo N wc) ∧ w9.frozen? ⟨B, 3, none⟩ = false ∧ Hid (ChnP w n0 b0 B N (.slice co N cc) vk (.slice lo' N lc') (.slice wo N wc) (.slice lo j lc) (.slice ao j ac) xc xl xw ys (.returned (.tuple #[])) (w9.setCell ⟨B, 3, none⟩ v9)))))) := fun ty => by
            obtain ⟨v', w', q1, q2, q3, q4⟩ := copy_run HS2.out.a (by rw [← HN.out]; exact hn9) ty
            have hS7 := HS2.out.kept q4
            refine ⟨v', w', q1, q2, hS7.t.cells.2.2, fun o => (hS7.kept ((Grew.refl w').alloc o).below).t.cells.2.2, fun ty2 => ?_⟩
            have hone : v'.oneCell' = true := by obtain ⟨o, n, c, e⟩ := q2; rw [e]; rfl
            obtain ⟨v9, w9, r1, r2, r3, r4, r5, r6⟩ := hS7.pushW v' hone (by omega) HN0.out ty2
            have hsz : w.heap.size ≤ U.heap.size := HS2.out.tn.size
            refine ⟨v9, w9, r1, r2, r3, r4, rfl, _, _, _, .slice mo t mc, v', r5.t, ?_, r5.a, ?_, r5.tn, HMo.out, fun g hg => Nat.le_trans hsz (World.ownsRow.lt q3 g hg).1, r5.oc, r5.ol, r5.ow⟩
            · rw [← HN.out, ← HTe.out]; exact r5.m
            · have h9 := r6 _ _ _ q3
              exact ownsRow_mono h9 (Nat.le_trans HB0.out hsz)
          clear HS2 hdr hal hal2
          refine wp_region_held_drew (S := fun _ => True) (by kernel_rfl) ?_ (fun hHeld => ?_)
          · trivial
          refine wpAnyH_take (i := 0) (v := .pointer (some ⟨B, 0, none⟩)) rfl (by kernel_rfl) (by kernel_rfl) (by kernel_rfl) (fun _ _ _ h => h) (Or.inl ⟨by rfl, by intro w hSw; (try dsimp only at hSw); go_simp⟩) (by assumption) ?_
          refine wpAnyH_take (i := 1) (v := .pointer (some ⟨B, 0, none⟩)) rfl (by kernel_rfl) (by kernel_rfl) (by kernel_rfl) (fun _ _ _ h => h) (Or.inl ⟨by rfl, by intro w hSw; (try dsimp only at hSw); go_simp⟩) (by assumption) ?_
          refine wpAnyH_take (i := 2) (v := .pointer (some ⟨B, 0, none⟩)) rfl (by kernel_rfl) (by kernel_rfl) (by kernel_rfl) (fun _ _ _ h => h) (Or.inl ⟨by rfl, by intro w hSw; (try dsimp only at hSw); go_simp⟩) (by assumption) ?_
          refine wpAnyH_take (i := 3) (v := .pointer (some ⟨B, 3, none⟩)) rfl (by kernel_rfl) (by kernel_rfl) (by kernel_rfl) (fun _ _ _ h => h) (Or.inl ⟨by rfl, by intro w hSw; (try dsimp only at hSw); go_simp⟩) (by assumption) ?_
          refine wpAnyH_take (i := 6) (v := .slice ao j ac) rfl (by kernel_rfl) (by kernel_rfl) (by kernel_rfl) (fun _ _ _ h => h) (Or.inl ⟨by rfl, by intro w hSw; (try dsimp only at hSw); go_simp⟩) (by assumption) ?_
          refine wpAnyH_ready (rs := [4, 5]) (by kernel_rfl) (by simp) ?_
          refine AllReadyH.cons rfl (fun K hK => ?_) ?_
          · go_simp
            refine hK.out _ _ trivial (fun hHeld => ?_)
            clear hK K
            refine wpAnyH_ready (rs := [5]) (by kernel_rfl) (by simp) ?_
            refine AllReadyH.cons rfl (fun K hK => ?_) ?_
            · go_simp
              refine hK.out _ _ trivial (fun hHeld => ?_)
              clear hK K
              refine wpAnyH_ready (rs := [7]) (by kernel_rfl) (by simp) ?_
              refine AllReadyH.cons rfl (fun K hK => ?_) ?_
              · refine step_app rfl _ _ 81 rfl (.slice (some ⟨U.heap.size, 0, none⟩) 0 0) (.slice ao j ac) rfl rfl HCp.out ?_
                rintro v7 w7 ⟨⟨o7, n7, c7, rfl⟩, s7, s8, HAp2⟩
                refine hK.out _ _ trivial (fun hHeld => ?_)
                clear hK K
                refine wpAnyH_ready (rs := [8]) (by kernel_rfl) (by simp) ?_
                refine AllReadyH.cons rfl (fun K hK => ?_) ?_
                · go_simp
                  refine hK.out _ _ trivial (fun hHeld => ?_)
                  clear hK K
                  refine wpAnyH_ready (rs := [9]) (by kernel_rfl) (by simp) ?_
                  refine AllReadyH.cons rfl (fun K hK => ?_) ?_
                  · refine step_app rfl _ _ 36 rfl (.slice wo N wc) (.slice (some ⟨w7.heap.size, 0, none⟩) 1 1) rfl rfl HAp2.out ?_
                    rintro v9 w9 ⟨⟨o9, c9, rfl⟩, t1, t2, HF⟩
                    refine hK.out _ _ trivial (fun hHeld => ?_)
                    clear hK K
                    refine wpAnyH_take (i := 10) (v := .pointer (some ⟨B, 0, none⟩)) rfl (by kernel_rfl) (by kernel_rfl) (by kernel_rfl) (fun _ _ _ h => h) (Or.inl ⟨by rfl, by intro w hSw; (try dsimp only at hSw); go_simp⟩) (by assumption) ?_
                    refine wpAnyH_take (i := 11) (v := .pointer (some ⟨B, 3, none⟩)) rfl (by kernel_rfl) (by kernel_rfl) (by kernel_rfl) (fun _ _ _ h => h) (Or.inl ⟨by rfl, by intro w hSw; (try dsimp only at hSw); go_simp⟩) (by assumption) ?_
                    refine wpAnyH_ready (rs := [12]) (by kernel_rfl) (by simp) ?_
                    refine AllReadyH.cons rfl (fun K hK => ?_) ?_
                    · go_simp
                      refine hK.out _ _ trivial (fun hHeld => ?_)
                      clear hK K
                      refine wpAnyH_done (by kernel_rfl) ?_ _
                      go_wp2_with fail
                      go_end0
                      exact HF.out
                    exact AllReadyH.nil
                  exact AllReadyH.nil
                exact AllReadyH.nil
              exact AllReadyH.nil
            exact AllReadyH.nil
          refine AllReadyH.cons rfl (fun K hK => ?_) ?_
          · go_simp
            refine hK.out _ _ trivial (fun hHeld => ?_)
            clear hK K
            refine wpAnyH_ready (rs := [4, 7]) (by kernel_rfl) (by simp) ?_
            refine AllReadyH.cons rfl (fun K hK => ?_) ?_
            · go_simp
              refine hK.out _ _ trivial (fun hHeld => ?_)
              clear hK K
              refine wpAnyH_ready (rs := [7]) (by kernel_rfl) (by simp) ?_
              refine AllReadyH.cons rfl (fun K hK => ?_) ?_
              · refine step_app rfl _ _ 81 rfl (.slice (some ⟨U.heap.size, 0, none⟩) 0 0) (.slice ao j ac) rfl rfl HCp.out ?_
                rintro v7 w7 ⟨⟨o7, n7, c7, rfl⟩, s7, s8, HAp2⟩
                refine hK.out _ _ trivial (fun hHeld => ?_)
                clear hK K
                refine wpAnyH_ready (rs := [8]) (by kernel_rfl) (by simp) ?_
                refine AllReadyH.cons rfl (fun K hK => ?_) ?_
                · go_simp
                  refine hK.out _ _ trivial (fun hHeld => ?_)
                  clear hK K
                  refine wpAnyH_ready (rs := [9]) (by kernel_rfl) (by simp) ?_
                  refine AllReadyH.cons rfl (fun K hK => ?_) ?_
                  · refine step_app rfl _ _ 36 rfl (.slice wo N wc) (.slice (some ⟨w7.heap.size, 0, none⟩) 1 1) rfl rfl HAp2.out ?_
                    rintro v9 w9 ⟨⟨o9, c9, rfl⟩, t1, t2, HF⟩
                    refine hK.out _ _ trivial (fun hHeld => ?_)
                    clear hK K
                    refine wpAnyH_take (i := 10) (v := .pointer (some ⟨B, 0, none⟩)) rfl (by kernel_rfl) (by kernel_rfl) (by kernel_rfl) (fun _ _ _ h => h) (Or.inl ⟨by rfl, by intro w hSw; (try dsimp only at hSw); go_simp⟩) (by assumption) ?_
                    refine wpAnyH_take (i := 11) (v := .pointer (some ⟨B, 3, none⟩)) rfl (by kernel_rfl) (by kernel_rfl) (by kernel_rfl) (fun _ _ _ h => h) (Or.inl ⟨by rfl, by intro w hSw; (try dsimp only at hSw); go_simp⟩) (by assumption) ?_
                    refine wpAnyH_ready (rs := [12]) (by kernel_rfl) (by simp) ?_
                    refine AllReadyH.cons rfl (fun K hK => ?_) ?_
                    · go_simp
                      refine hK.out _ _ trivial (fun hHeld => ?_)
                      clear hK K
                      refine wpAnyH_done (by kernel_rfl) ?_ _
                      go_wp2_with fail
                      go_end0
                      exact HF.out
                    exact AllReadyH.nil
                  exact AllReadyH.nil
                exact AllReadyH.nil
              exact AllReadyH.nil
            refine AllReadyH.cons rfl (fun K hK => ?_) ?_
            · refine step_app rfl _ _ 81 rfl (.slice (some ⟨U.heap.size, 0, none⟩) 0 0) (.slice ao j ac) rfl rfl HCp.out ?_
              rintro v7 w7 ⟨⟨o7, n7, c7, rfl⟩, s7, s8, HAp2⟩
              refine hK.out _ _ trivial (fun hHeld => ?_)
              clear hK K
              refine wpAnyH_ready (rs := [4, 8]) (by kernel_rfl) (by simp) ?_
              refine AllReadyH.cons rfl (fun K hK => ?_) ?_
              · go_simp
                refine hK.out _ _ trivial (fun hHeld => ?_)
                clear hK K
                refine wpAnyH_ready (rs := [8]) (by kernel_rfl) (by simp) ?_
                refine AllReadyH.cons rfl (fun K hK => ?_) ?_
                · go_simp
                  refine hK.out _ _ trivial (fun hHeld => ?_)
                  clear hK K
                  refine wpAnyH_ready (rs := [9]) (by kernel_rfl) (by simp) ?_
                  refine AllReadyH.cons rfl (fun K hK => ?_) ?_
                  · refine step_app rfl _ _ 36 rfl (.slice wo N wc) (.slice (some ⟨w7.heap.size, 0, none⟩) 1 1) rfl rfl HAp2.out ?_
                    rintro v9 w9 ⟨⟨o9, c9, rfl⟩, t1, t2, HF⟩
                    refine hK.out _ _ trivial (fun hHeld => ?_)
                    clear hK K
                    refine wpAnyH_take (i := 10) (v := .pointer (some ⟨B, 0, none⟩)) rfl (by kernel_rfl) (by kernel_rfl) (by kernel_rfl) (fun _ _ _ h => h) (Or.inl ⟨by rfl, by intro w hSw; (try dsimp only at hSw); go_simp⟩) (by assumption) ?_
                    refine wpAnyH_take (i := 11) (v := .pointer (some ⟨B, 3, none⟩)) rfl (by kernel_rfl) (by kernel_rfl) (by kernel_rfl) (fun _ _ _ h => h) (Or.inl ⟨by rfl, by intro w hSw; (try dsimp only at hSw); go_simp⟩) (by assumption) ?_
                    refine wpAnyH_ready (rs := [12]) (by kernel_rfl) (by simp) ?_
                    refine AllReadyH.cons rfl (fun K hK => ?_) ?_
                    · go_simp
                      refine hK.out _ _ trivial (fun hHeld => ?_)
                      clear hK K
                      refine wpAnyH_done (by kernel_rfl) ?_ _
                      go_wp2_with fail
                      go_end0
                      exact HF.out
                    exact AllReadyH.nil
                  exact AllReadyH.nil
                exact AllReadyH.nil
              refine AllReadyH.cons rfl (fun K hK => ?_) ?_
              · go_simp
                refine hK.out _ _ trivial (fun hHeld => ?_)
                clear hK K
                refine wpAnyH_ready (rs := [4]) (by kernel_rfl) (by simp) ?_
                refine AllReadyH.cons rfl (fun K hK => ?_) ?_
                · go_simp
                  refine hK.out _ _ trivial (fun hHeld => ?_)
                  clear hK K
                  refine wpAnyH_ready (rs := [9]) (by kernel_rfl) (by simp) ?_
                  refine AllReadyH.cons rfl (fun K hK => ?_) ?_
                  · refine step_app rfl _ _ 36 rfl (.slice wo N wc) (.slice (some ⟨w7.heap.size, 0, none⟩) 1 1) rfl rfl HAp2.out ?_
                    rintro v9 w9 ⟨⟨o9, c9, rfl⟩, t1, t2, HF⟩
                    refine hK.out _ _ trivial (fun hHeld => ?_)
                    clear hK K
                    refine wpAnyH_take (i := 10) (v := .pointer (some ⟨B, 0, none⟩)) rfl (by kernel_rfl) (by kernel_rfl) (by kernel_rfl) (fun _ _ _ h => h) (Or.inl ⟨by rfl, by intro w hSw; (try dsimp only at hSw); go_simp⟩) (by assumption) ?_
                    refine wpAnyH_take (i := 11) (v := .pointer (some ⟨B, 3, none⟩)) rfl (by kernel_rfl) (by kernel_rfl) (by kernel_rfl) (fun _ _ _ h => h) (Or.inl ⟨by rfl, by intro w hSw; (try dsimp only at hSw); go_simp⟩) (by assumption) ?_
                    refine wpAnyH_ready (rs := [12]) (by kernel_rfl) (by simp) ?_
                    refine AllReadyH.cons rfl (fun K hK => ?_) ?_
                    · go_simp
                      refine hK.out _ _ trivial (fun hHeld => ?_)
                      clear hK K
                      refine wpAnyH_done (by kernel_rfl) ?_ _
                      go_wp2_with fail
                      go_end0
                      exact HF.out
                    exact AllReadyH.nil
                  exact AllReadyH.nil
                exact AllReadyH.nil
              exact AllReadyH.nil
            exact AllReadyH.nil
          exact AllReadyH.nil
end Go.Proofs.YtbcmmeajglilbaaGreat
