import Derived.Test.YtmkomfbjgmgemaaGreatDoorJAState
import Derived.Deep.RegionHeld3
/-
  addLabel.
-/
namespace Go.Proofs.YtmkomfbjgmgemaaGreatDoor
open Go.RowKit Go.Sort

set_option maxRecDepth 100000 in
theorem program_d (w : World) (B line b1 b2 g n cap : Nat) (vn vm vj : Value) (o : Bool) (h : AB w B line (.slice (some ⟨g, 0, none⟩) (n + 1) cap) vn o b1 b2 vm vj) (hn : n ≤ 1000000) :
    Calls Tryz.prog 65 #[.pointer (some ⟨B, 0, none⟩)] w fun e w' => e = .returned (.pointer (some ⟨g, n * 6 + 1, none⟩)) ∧ ∃ q, w' = w.drewN q := by
  obtain ⟨_, x1, _⟩ := h.cells
  have h0 : (0 : Int) ≤ (n : Int) := by omega
  have h1 : (n : Int) < (n : Int) + 1 := by omega
  clear h
  go_enter Tryz.func65, Tryz.ntmps65
  go_wp2_with fail
  go_quiet (fail)
  go_wp2
  go_ret
  exact ⟨rfl, _, rfl⟩
theorem LM.drewN {W : World} {b : Nat} {ls : List (List UInt8 × Nat)} (h : LM W b ls) (q : Nat) : LM (W.drewN q) b ls := h.same rfl
theorem ASt.drewN {W : World} {M B line : Nat} {a : As} {Ps : List Pr} {vl vn vm vj : Value} (h : ASt W M B line a Ps vl vn vm vj) (q : Nat) : ASt (W.drewN q) M B line a Ps vl vn vm vj := h.below ((Grew.refl W).drewN q).below
theorem ASt.drew {W : World} {M B line : Nat} {a : As} {Ps : List Pr} {vl vn vm vj : Value} (h : ASt W M B line a Ps vl vn vm vj) : ASt W.drew M B line a Ps vl vn vm vj := h.drewN 1
/-- what addLabel leaves -/
def LabPost (W : World) (M B line : Nat) (a : As) (Ps : List Pr) (vl vn vm vj : Value) (nm : List UInt8) (col : Nat) (e : Ending) (w' : World) : Prop :=
  (∃ v n, e = .returned v ∧ ErrAt w' v 0 col n ∧ ((nameB (S nm) = false ∧ n = 40) ∨ (nameB (S nm) = true ∧ (labN a.labels nm).isSome = true ∧ n = 43)) ∧ FrR M B W w') ∨
  (e = .returned .nilIface ∧ nameB (S nm) = true ∧ (labN a.labels nm).isSome = false ∧ ASt w' M B line { a with labels := a.labels ++ [(nm, (lastP a).L.length)] } Ps vl vn vm vj ∧ FrR M B W w')
set_option maxRecDepth 100000 in
set_option maxHeartbeats 2000000 in
theorem addLabel_any (w : World) (M B line k : Nat) (a : As) (Ps : List Pr) (vl vn vm vj : Value) (nm : List UInt8) (col : Nat) (h : ASt w M B line a Ps vl vn vm vj) (hz : AsSz a k) (ho : a.opn = true) (hn : nm.length ≤ 65536) :
    Calls Tryz.prog 42 #[.pointer (some ⟨B, 0, none⟩), .string (S nm), .int .i64 (col : Int)] w fun e w' => LabPost w M B line a Ps vl vn vm vj nm col e w' := by
  have HI := isNameA_any w (S nm) (by rw [S_size]; omega)
  have HA := hidA h
  have HZ := hidA hz
  have HO := hidA ho
  have hM := h.bm.2
  clear h hz ho
  go_enter Tryz.func42, Tryz.ntmps42
  cases hb : nameB (S nm) with
  | false =>
    rw [hb] at HI
    have HB := hidA hb
    clear hb
    go_wp2_with fail
    refine HI.mono ?_
    rintro e w1 ⟨rfl, h1⟩
    have HF1 : Hid (FrR M B w w1) := FrR.bel h1 hM
    have hM1 : M ≤ w1.heap.size := Nat.le_trans hM h1.size
    clear h1 HI
    go_wp2_with fail
    refine (wrong_any w1 col 40).mono ?_
    rintro e w2 ⟨v, rfl, k1, k2⟩
    have HE : Hid (LabPost w M B line a Ps vl vn vm vj nm col (.returned v) w2) := .inl ⟨v, 40, rfl, k1, .inl ⟨HB.out, rfl⟩, HF1.out.trans (FrR.bel k2 hM1)⟩
    clear k1 k2
    go_wp2_with fail
    go_ret
    exact HE.out
  | true =>
    rw [hb] at HI
    have HB := hidA hb
    clear hb
    go_wp2_with fail
    refine HI.mono ?_
    rintro e w1 ⟨rfl, h1⟩
    have HF1 : Hid (FrR M B w w1) := FrR.bel h1 hM
    have hM1 : M ≤ w1.heap.size := Nat.le_trans hM h1.size
    have HA1 : Hid (ASt w1 M B line a Ps vl vn vm vj) := HA.out.below h1
    clear h1 HI HA
    obtain ⟨_, _, _, _, _, _, x6, _⟩ := HA1.out.ab.cells
    obtain ⟨mb, rfl, hmb, hlm⟩ := HA1.out.lab HO.out
    have HLm := hidA hlm
    obtain ⟨c, hlk, hlc⟩ := hlm.look nm (by omega)
    clear hlm hlc
    cases hl : (labN a.labels nm).isSome with
    | true =>
      rw [hl] at hlk
      have HL := hidA hl
      clear hl
      go_wp2_with fail
      refine (wrong_any w1 col 43).mono ?_
      rintro e w2 ⟨v, rfl, k1, k2⟩
      have HE : Hid (LabPost w M B line a Ps vl vn (.map (some mb)) vj nm col (.returned v) w2) := .inl ⟨v, 43, rfl, k1, .inr ⟨HB.out, HL.out, rfl⟩, HF1.out.trans (FrR.bel k2 hM1)⟩
      clear k1 k2
      go_wp2_with fail
      go_ret
      exact HE.out
    | false =>
      rw [hl] at hlk
      have HL := hidA hl
      have hln : labN a.labels nm = none := by simpa using hl
      have HLn := hidA hln
      clear hl hln
      obtain ⟨Qs, x, g, cap, e1, rfl, hg, c5, hlp, hq, hxl, hxn⟩ := HA1.out.last HZ.out HO.out
      have HE1 := hidA e1
      have HLp := hidA hlp
      clear e1 hlp
      have HPr := hidA (program_d w1.drew B line a.begun.1 a.begun.2 g Qs.length cap vn (.map (some mb)) vj a.opn HA1.out.drew.ab (by omega))
      have HPut : Hid (∀ q, ∃ W', (Instr.mapUpdate 50 (.map (some mb)) (.string (S nm)) (.int .i64 (x.L.length : Int))).run Tryz.prog (w1.drewN (1 + q)) = .ok () W' ∧ LabPost w M B line a Ps (.slice (some ⟨g, 0, none⟩) (Qs.length + 1) cap) vn (.map (some mb)) vj nm col (.returned .nilIface) W' ∧ W'.cell? ⟨B, 6, none⟩ = some (.map (some mb)) ∧ W'.cell? ⟨g, Qs.length * 6 + 5, none⟩ = some (.slice x.ao x.L.length x.cap)) := fun q => by
        have hA9 : ASt (w1.drewN (1 + q)) M B line a Ps (.slice (some ⟨g, 0, none⟩) (Qs.length + 1) cap) vn (.map (some mb)) vj := HA1.out.drewN (1 + q)
        have hl9 : LM (w1.drewN (1 + q)) mb a.labels := HLm.out.same rfl
        obtain ⟨W', p1, p2, p3⟩ := hl9.put nm x.L.length (by omega) (by omega) (by have := HZ.out.lab; have := HZ.out.top; omega) HLn.out
        have hmp : ∀ cur t, (w1.drewN (1 + q)).heap[mb]? ≠ some (.cells cur t (0, 0)) := fun cur t e => by
          obtain ⟨D, ⟨es, clock, hb, _⟩, _⟩ := hl9
          rw [hb] at e
          cases e
        have hlp : (lastP a).L.length = x.L.length := by rw [HLp.out]; rfl
        have hoth : ∀ (k' : Nat) (cur : Array Value) (t : TypeId), (w1.drewN (1 + q)).heap[k']? = some (.cells cur t (0, 0)) → W'.heap[k']? = (w1.drewN (1 + q)).heap[k']? := fun k' cur t hk => p3.block k' (Array.getElem?_eq_some_iff.1 hk).1 (fun e => by cases e; exact hmp cur t hk)
        have hB : W'.cell? ⟨B, 6, none⟩ = some (.map (some mb)) := by
          have h1 : W'.heap[B]? = _ := (hoth B _ _ hA9.ab).trans hA9.ab
          simp [World.cell?, h1]
        have hG : W'.cell? ⟨g, Qs.length * 6 + 5, none⟩ = some (.slice x.ao x.L.length x.cap) := by
          obtain ⟨cur, hc⟩ := own_blk hA9.lib (g := g) rfl
          have h1 := hoth g _ _ hc
          have h2 : (w1.drewN (1 + q)).cell? ⟨g, Qs.length * 6 + 5, none⟩ = some (.slice x.ao x.L.length x.cap) := c5
          simp only [World.cell?] at h2 ⊢
          rw [h1]
          exact h2
        refine ⟨W', p1, .inr ⟨rfl, HB.out, HL.out, ?_, HF1.out.trans ((FrR.bel ((Grew.refl w1).drewN (1 + q)).below hM1).trans (FrR.grown p3 hM1 hmb (fun cur t _ => hmp cur t)))⟩, hB, hG⟩
        rw [hlp]
        exact hA9.relab (Nat.le_trans hM1 p3.size) hoth _ (fun _ => ⟨mb, rfl, hmb, p2⟩)
      go_upto_region 6 with fail
      go_region_held3 (fun w' => w'.cell? ⟨B, 6, none⟩ = some (.map (some mb)) ∧ w'.cell? ⟨g, Qs.length * 6 + 5, none⟩ = some (.slice x.ao x.L.length x.cap)) (first | with_reducible exact HS9.out | go_keep) (first | (go_at_call 65; (with_reducible refine HPr.out.mono ?_); rintro e w9 ⟨rfl, q9, rfl⟩; obtain ⟨W10, hput, hpost, hs9⟩ := HPut.out q9; have HPost := hidA hpost; have HS9 := hidA hs9; clear hpost hs9))
      all_goals (
        go_wp2_with fail
        go_ret
        exact HPost.out)
end Go.Proofs.YtmkomfbjgmgemaaGreatDoor
/-
  ONE JUMP MORE, ONE INSTRUCTION MORE: the state.
-/
namespace Go.Proofs.YtmkomfbjgmgemaaGreatDoor
open Go.RowKit Go.Sort Go.WideMaps

theorem step_appA {w : World} {ops : Array Oper} {o : Oper} {a : Act} {K' : Act → World → Prop} {Q : Exit → Act → World → Prop} {E : Prop} (hgd : o.guard = none) (s x : Operand) (TS : TypeId)
    (ho : o.op = .call { callee := .builtin .append, args := #[s, x], argTypes := #[TS, TS] }) (v u : Value) (hs : a.eval s = v) (hx : a.eval x = u) {post : Value → World → Prop}
    (hr : ∀ ty, ∃ v' w', (Builtin.append_ #[TS, TS] ty #[v, u]).run Tryz.prog w = .ok v' w' ∧ post v' w') (h : ∀ v' w', post v' w' → K' (a.put o.dst v') w') :
    if Region.wanted o (yielded ops a.tmps) = true then Oper.wp Tryz.prog o a w K' Q else E := by
  have hw : Region.wanted o (yielded ops a.tmps) = true := by simp [Region.wanted, hgd]
  rw [if_pos hw]
  obtain ⟨v', w', hr, h2⟩ := hr o.type
  unfold Oper.wp execOp
  simp only [ho, resolve, invoke, builtin, Sem.run_bind, Sem.run_pure, Result.andThen_ok, List.map_toArray, List.map_cons, List.map_nil, hs, hx, hr]
  exact h v' w' h2
theorem infoJp : (Tryz.prog.info? 148).map (fun i => (i.zero, i.size, i.bytes)) = some (some (.agg #[.int .i64 0, .string ⟨#[]⟩, .int .i64 0, .int .i64 0]), 4, 40) := by kernel_rfl
theorem infoSp : (Tryz.prog.info? 49).map (fun i => (i.zero, i.size, i.bytes)) = some (some (.agg #[.int .i64 0, .int .i64 0]), 2, 16) := by kernel_rfl
theorem infoIn : (Tryz.prog.info? 40).map (fun i => (i.zero, i.size, i.bytes)) = some (some (.agg #[.int .i64 0, .int .i64 0]), 2, 16) := by kernel_rfl
/-- append of one element that was just laid -/
theorem app_one {TS TE : TypeId} {sz bt : Nat} {z : Value} (hu : Tryz.prog.underlying TS = some (.slice TE)) (hinfo : (Tryz.prog.info? TE).map (fun i => (i.zero, i.size, i.bytes)) = some (some z, sz, bt)) (hzs : z.cells.size = sz) (hpos : 0 < sz) (hbt : bt ≤ 100) (w : World) (base : Nat) (v : Value) (n : Nat) (xs zs : List Value) (hown : w.ownsRow base TE sz v n xs) (hz : zs.length = sz) (h1 : ∀ u ∈ zs, u.oneCell' = true) (hn : n ≤ 65537) (hbase : base ≤ w.heap.size) (ty : TypeId) :
    ∃ v' w', (Builtin.append_ #[TS, TS] ty #[v, .slice (some ⟨w.heap.size, 0, none⟩) 1 1]).run Tryz.prog (w.alloc (.cells zs.toArray TE)) = .ok v' w' ∧ w'.ownsRow base TE sz v' (n + 1) (xs ++ zs) ∧ (w.alloc (.cells zs.toArray TE)).grownBy w' v.ownBlock ∧ ((v'.ownBlock = v.ownBlock) ∨ v'.ownBlock = some (w.heap.size + 1)) := by
  obtain ⟨i0, hi, hz0, hz1, hz2⟩ := info_parts hinfo
  have hm : (n + 1) * bt ≤ 65538 * 100 := Nat.mul_le_mul (by omega) hbt
  obtain ⟨v', w', hr, h2, h3, _, h5⟩ := run_append_own_at (P := Tryz.prog) (w := w.alloc (.cells zs.toArray TE)) base TS ty TE i0 z sz bt hu hi hz0 hz1 hz2 hzs hpos v n xs (World.ownsRow.alloc hown _) ⟨w.heap.size, 0, none⟩ 1 1 zs (by omega) (fun j u hu => by
    rw [addr_add, Nat.zero_add, World.cell?, heap_alloc_new _ _ rfl]
    simpa using hu) h1 (by unfold maxLen; omega) (by omega) (by simp; omega)
  exact ⟨v', w', hr, h2, h3, by rw [World.size_alloc] at h5; exact h5⟩
/-- a look at the labels, in whatever world has the map as it is -/
theorem LM.lookS {W : World} {b : Nat} {ls : List (List UInt8 × Nat)} (h : LM W b ls) (nm : List UInt8) (hs : nm.length ≤ 1000000) :
    ∃ c : Int, (∀ u, labN ls nm = some u → c = (u : Int)) ∧ ∀ W' : World, W'.heap[b]? = W.heap[b]? → (Instr.lookup 50 (.map (some b)) (.string (S nm)) true).run Tryz.prog W' = .ok (.tuple #[.int .i64 c, .bool (labN ls nm).isSome]) W' := by
  obtain ⟨D, h1, h2⟩ := h
  have hk := keyOf_string_mk (P := Tryz.prog) (k := 9) Tryz.underlying9 (s := S nm) (by rw [S_size]; unfold maxLen; omega)
  rw [S_data] at hk
  obtain ⟨e1, e2⟩ := h2 nm
  have key : ∀ W' : World, W'.heap[b]? = W.heap[b]? → ∃ c : Int, (Instr.lookup 50 (.map (some b)) (.string (S nm)) true).run Tryz.prog W' = .ok (.tuple #[.int .i64 c, .bool (labN ls nm).isSome]) W' ∧ D.atKey (.string nm) (.lit (.int .i64 0)) = .lit (.int .i64 c) := fun W' hb => by
    have h1' : W'.ownsMap Tryz.prog 9 (plainElem (H := Unit) Tryz.prog 3) b ls.length D := by
      obtain ⟨es, clock, h3, h4⟩ := h1
      exact ⟨es, clock, hb.trans h3, h4⟩
    obtain ⟨v, ps, hrun, hv⟩ := h1'.look_ok (Maps.string_keyed Tryz.underlying9) Tryz.underlying50 (z := .int .i64 0) (by kernel_rfl) (plainElem_int Tryz.underlying3 (by decide)) hk
    obtain ⟨c, rfl, hc, _⟩ := plainElem_int_inv Tryz.underlying3 hv
    rw [e1] at hrun
    simp only [Prod.mk.injEq] at hc
    exact ⟨c, hrun, hc.1⟩
  obtain ⟨c, _, hc⟩ := key W rfl
  refine ⟨c, fun u hu => ?_, fun W' hb => ?_⟩
  · have := e2 u hu
    rw [this] at hc
    simp only [DataW.lit.injEq, Lit.int.injEq, true_and] at hc
    exact hc.symm
  · obtain ⟨c', h3, h4⟩ := key W' hb
    rw [hc] at h4
    simp only [DataW.lit.injEq, Lit.int.injEq, true_and] at h4
    rw [h4]
    exact h3
section
variable {W W' : World} {M B line : Nat} {a : As} {Ps : List Pr} {vl vn vm vj : Value}
/-- a cell of the box turned -/
theorem AB.set7 {o : Bool} {b1 b2 : Nat} (h : AB W B line vl vn o b1 b2 vm vj) (v : Value) : AB (W.setCell ⟨B, 7, none⟩ v) B line vl vn o b1 b2 vm v := heap_setCell_same W B 7 _ _ v h
theorem ASt.notB (h : ASt W M B line a Ps vl vn vm vj) {k : Nat} {cur : Array Value} {t : TypeId} (hk : W.heap[k]? = some (.cells cur t (0, 0))) (ht : t ≠ 53) : k ≠ B := fun e => by
  rw [e, h.ab] at hk
  simp only [Option.some.injEq, Obj.cells.injEq] at hk
  exact ht hk.2.1.symm
/-- a row of other elements goes on -/
theorem ownGrown {base base' e e' size size' n n' : Nat} {v v' : Value} {xs xs' : List Value} (h : W.ownsRow base e size v n xs) (h' : W.ownsRow base' e' size' v' n' xs') (he : e ≠ e') (hg : W.grownBy W' v'.ownBlock) : W'.ownsRow base e size v n xs :=
  ownsRow_same h (fun g hgg => hg.block g (World.ownsRow.lt h g hgg).2 (fun e1 => own_apart h h' he hgg e1.symm))
theorem LM.grown {mb : Nat} {ls : List (List UInt8 × Nat)} {base' e' size' n' : Nat} {v' : Value} {xs' : List Value} (h : LM W mb ls) (h' : W.ownsRow base' e' size' v' n' xs') (hg : W.grownBy W' v'.ownBlock) : LM W' mb ls := h.same (hg.block mb h.lt (fun e1 => by
  obtain ⟨cur, hc⟩ := own_blk h' e1.symm
  obtain ⟨D, ⟨es, clock, hb, _⟩, _⟩ := h
  rw [hb] at hc
  cases hc))
/-- the jumps' row has grown, and the box has it -/
theorem ASt.jump (h : ASt W M B line a Ps vl vn vm vj) (j : Jp) {v' : Value} (ho : W'.ownsRow M 148 4 v' (a.jumps.length + 1) (jpc a.jumps ++ jpc [j])) (hg : W.grownBy W' vj.ownBlock) : ASt (W'.setCell ⟨B, 7, none⟩ v') M B line { a with jumps := a.jumps ++ [j] } Ps vl vn vm v' := by
  have hAB : AB W' B line vl vn a.opn a.begun.1 a.begun.2 vm vj := (hg.block B h.ab.lt (fun e1 => by
    obtain ⟨cur, hc⟩ := own_blk h.jps e1.symm
    exact h.notB hc (by decide) rfl)).trans h.ab
  have hset : ∀ (k : Nat) (cur : Array Value) (t : TypeId), W'.heap[k]? = some (.cells cur t (0, 0)) → t ≠ 53 → (W'.setCell ⟨B, 7, none⟩ v').heap[k]? = W'.heap[k]? := fun k cur t hk ht => heap_setCell_other _ _ _ _ (fun e => by
    have e' : k = B := e
    rw [e', hAB] at hk
    simp only [Option.some.injEq, Obj.cells.injEq] at hk
    exact ht hk.2.1.symm)
  have row : ∀ {base e size n : Nat} {v : Value} {xs : List Value}, W'.ownsRow base e size v n xs → e ≠ 53 → (W'.setCell ⟨B, 7, none⟩ v').ownsRow base e size v n xs := fun hr he => ownsRow_same hr (fun g hgg => by
    obtain ⟨cur, hc⟩ := own_blk hr hgg
    exact hset g _ _ hc he)
  refine ⟨hAB.set7 v', row (ownGrown h.lib h.jps (by decide) hg) (by decide), h.eq, fun x hx => ⟨(h.code x hx).1, row (ownGrown (h.code x hx).2 h.jps (by decide) hg) (by decide)⟩, h.ap, row (ownGrown h.nms h.jps (by decide) hg) (by decide), ?_, fun hop => ?_, h.ok, h.bm.1, ?_⟩
  · have := row ho (by decide)
    rw [← jpc_app] at this
    rw [List.length_append]
    exact this
  · obtain ⟨mb, h1, h2, h3⟩ := h.lab hop
    refine ⟨mb, h1, h2, (h3.grown h.jps hg).same (heap_setCell_other _ _ _ _ (fun e => ?_))⟩
    have e' : mb = B := e
    obtain ⟨D, ⟨es, clock, hb, _⟩, _⟩ := h3
    rw [e', h.ab] at hb
    cases hb
  · have := hg.size; have := h.bm.2; simp; omega
end
end Go.Proofs.YtmkomfbjgmgemaaGreatDoor
