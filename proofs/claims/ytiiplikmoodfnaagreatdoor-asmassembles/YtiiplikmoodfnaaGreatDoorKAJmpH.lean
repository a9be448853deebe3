import Derived.Test.YtiiplikmoodfnaaGreatDoorKLOwnP
import Derived.Deep.RegionHeld3
import Derived.Deep.RegionLaw
/-
  ONE JUMP MORE, ONE INSTRUCTION MORE: the state.
-/
namespace Go.Proofs.YtiiplikmoodfnaaGreatDoor
open Go.RowKit Go.Sort Go.WideMaps

theorem step_appA {w : World} {ops : Array Oper} {o : Oper} {a : Act} {K' : Act → World → Prop} {Q : Exit → Act → World → Prop} {E : Prop} (hgd : o.guard = none) (s x : Operand) (TS : TypeId)
    (ho : o.op = .call { callee := .builtin .append, args := #[s, x], argTypes := #[TS, TS] }) (v u : Value) (hs : a.eval s = v) (hx : a.eval x = u) {post : Value → World → Prop}
    (hr : ∀ ty, ∃ v' w', (Builtin.append_ #[TS, TS] ty #[v, u]).run Tryz.prog w = .ok v' w' ∧ post v' w') (h : ∀ v' w', post v' w' → K' (a.put o.dst v') w') :
    if Region.wanted o (yielded ops a.tmps) = true then Oper.wp Tryz.prog o a w K' Q else E := by
  have hw : Region.wanted o (yielded ops a.tmps) = true := by simp [Region.wanted, hgd]
  rw [if_pos hw]
  obtain ⟨v', w', hr, h2⟩ := hr o.type
  unfold Oper.wp execOp
  simp only [ho, resolve, invoke, builtin, Sem.run_bind, Sem.run_pure, Result.andThen_ok, List.map_toArray, List.map_cons, List.map_nil, hs, hx, hr]
  exact h v' w' h2
theorem infoJp : (Tryz.prog.info? 165).map (fun i => (i.zero, i.size, i.bytes)) = some (some (.agg #[.int .i64 0, .string ⟨#[]⟩, .int .i64 0, .int .i64 0]), 4, 40) := by kernel_rfl
theorem infoSp : (Tryz.prog.info? 54).map (fun i => (i.zero, i.size, i.bytes)) = some (some (.agg #[.int .i64 0, .int .i64 0]), 2, 16) := by kernel_rfl
theorem infoIn : (Tryz.prog.info? 76).map (fun i => (i.zero, i.size, i.bytes)) = some (some (.agg #[.int .i64 0, .int .i64 0]), 2, 16) := by kernel_rfl
/-- append of one element that was just laid -/
theorem app_one {TS TE : TypeId} {sz bt : Nat} {z : Value} (hu : Tryz.prog.underlying TS = some (.slice TE)) (hinfo : (Tryz.prog.info? TE).map (fun i => (i.zero, i.size, i.bytes)) = some (some z, sz, bt)) (hzs : z.cells.size = sz) (hpos : 0 < sz) (hbt : bt ≤ 100) (w : World) (base : Nat) (v : Value) (n : Nat) (xs zs : List Value) (hown : w.ownsRow base TE sz v n xs) (hz : zs.length = sz) (h1 : ∀ u ∈ zs, u.oneCell' = true) (hn : n ≤ 65537) (hbase : base ≤ w.heap.size) (ty : TypeId) :
    ∃ v' w', (Builtin.append_ #[TS, TS] ty #[v, .slice (some ⟨w.heap.size, 0, none⟩) 1 1]).run Tryz.prog (w.alloc (.cells zs.toArray TE)) = .ok v' w' ∧ w'.ownsRow base TE sz v' (n + 1) (xs ++ zs) ∧ (w.alloc (.cells zs.toArray TE)).grownBy w' v.ownBlock ∧ ((v'.ownBlock = v.ownBlock) ∨ v'.ownBlock = some (w.heap.size + 1)) := by
  obtain ⟨i0, hi, hz0, hz1, hz2⟩ := info_parts hinfo
  have hm : (n + 1) * bt ≤ 65538 * 100 := Nat.mul_le_mul (by omega) hbt
  obtain ⟨v', w', hr, h2, h3, _, h5⟩ := run_append_own_at (P := Tryz.prog) (w := w.alloc (.cells zs.toArray TE)) base TS ty TE i0 z sz bt hu hi hz0 hz1 hz2 hzs hpos v n xs (World.ownsRow.alloc hown _) ⟨w.heap.size, 0, none⟩ 1 1 zs (by omega) (fun j u hu => by
    rw [addr_add, Nat.zero_add, World.cell?, heap_alloc_new _ _ rfl]
    simpa using hu) h1 (by unfold maxLen; omega) (by omega) (by simp; omega)
  exact ⟨v', w', hr, h2, h3, by rw [World.size_alloc] at h5; exact h5⟩
/-- a look at the labels, in whatever world has the map as it is -/
theorem LM.lookS {W : World} {b : Nat} {ls : List (List UInt8 × Nat)} (h : LM W b ls) (nm : List UInt8) (hs : nm.length ≤ 1000000) :
    ∃ c : Int, (∀ u, labN ls nm = some u → c = (u : Int)) ∧ ∀ W' : World, W'.heap[b]? = W.heap[b]? → (Instr.lookup 55 (.map (some b)) (.string (S nm)) true).run Tryz.prog W' = .ok (.tuple #[.int .i64 c, .bool (labN ls nm).isSome]) W' := by
  obtain ⟨D, h1, h2⟩ := h
  have hk := keyOf_string_mk (P := Tryz.prog) (k := 9) Tryz.underlying9 (s := S nm) (by rw [S_size]; unfold maxLen; omega)
  rw [S_data] at hk
  obtain ⟨e1, e2⟩ := h2 nm
  have key : ∀ W' : World, W'.heap[b]? = W.heap[b]? → ∃ c : Int, (Instr.lookup 55 (.map (some b)) (.string (S nm)) true).run Tryz.prog W' = .ok (.tuple #[.int .i64 c, .bool (labN ls nm).isSome]) W' ∧ D.atKey (.string nm) (.lit (.int .i64 0)) = .lit (.int .i64 c) := fun W' hb => by
    have h1' : W'.ownsMap Tryz.prog 9 (plainElem (H := Unit) Tryz.prog 3) b ls.length D := by
      obtain ⟨es, clock, h3, h4⟩ := h1
      exact ⟨es, clock, hb.trans h3, h4⟩
    obtain ⟨v, ps, hrun, hv⟩ := h1'.look_ok (Maps.string_keyed Tryz.underlying9) Tryz.underlying55 (z := .int .i64 0) (by kernel_rfl) (plainElem_int Tryz.underlying3 (by decide)) hk
    obtain ⟨c, rfl, hc, _⟩ := plainElem_int_inv Tryz.underlying3 hv
    rw [e1] at hrun
    simp only [Prod.mk.injEq] at hc
    exact ⟨c, hrun, hc.1⟩
  obtain ⟨c, _, hc⟩ := key W rfl
  refine ⟨c, fun u hu => ?_, fun W' hb => ?_⟩
  · have := e2 u hu
    rw [this] at hc
    simp only [DataW.lit.injEq, Lit.int.injEq, true_and] at hc
    exact hc.symm
  · obtain ⟨c', h3, h4⟩ := key W' hb
    rw [hc] at h4
    simp only [DataW.lit.injEq, Lit.int.injEq, true_and] at h4
    rw [h4]
    exact h3
section
variable {W W' : World} {M B line : Nat} {a : As} {Ps : List Pr} {vl vn vm vj : Value}
/-- a cell of the box turned -/
theorem AB.set7 {o : Bool} {b1 b2 : Nat} (h : AB W B line vl vn o b1 b2 vm vj) (v : Value) : AB (W.setCell ⟨B, 7, none⟩ v) B line vl vn o b1 b2 vm v := heap_setCell_same W B 7 _ _ v h
theorem ASt.notB (h : ASt W M B line a Ps vl vn vm vj) {k : Nat} {cur : Array Value} {t : TypeId} (hk : W.heap[k]? = some (.cells cur t (0, 0))) (ht : t ≠ 58) : k ≠ B := fun e => by
  rw [e, h.ab] at hk
  simp only [Option.some.injEq, Obj.cells.injEq] at hk
  exact ht hk.2.1.symm
/-- a row of other elements goes on -/
theorem ownGrown {base base' e e' size size' n n' : Nat} {v v' : Value} {xs xs' : List Value} (h : W.ownsRow base e size v n xs) (h' : W.ownsRow base' e' size' v' n' xs') (he : e ≠ e') (hg : W.grownBy W' v'.ownBlock) : W'.ownsRow base e size v n xs :=
  ownsRow_same h (fun g hgg => hg.block g (World.ownsRow.lt h g hgg).2 (fun e1 => own_apart h h' he hgg e1.symm))
theorem LM.grown {mb : Nat} {ls : List (List UInt8 × Nat)} {base' e' size' n' : Nat} {v' : Value} {xs' : List Value} (h : LM W mb ls) (h' : W.ownsRow base' e' size' v' n' xs') (hg : W.grownBy W' v'.ownBlock) : LM W' mb ls := h.same (hg.block mb h.lt (fun e1 => by
  obtain ⟨cur, hc⟩ := own_blk h' e1.symm
  obtain ⟨D, ⟨es, clock, hb, _⟩, _⟩ := h
  rw [hb] at hc
  cases hc))
/-- the jumps' row has grown, and the box has it -/
theorem ASt.jump (h : ASt W M B line a Ps vl vn vm vj) (j : Jp) {v' : Value} (ho : W'.ownsRow M 165 4 v' (a.jumps.length + 1) (jpc a.jumps ++ jpc [j])) (hg : W.grownBy W' vj.ownBlock) : ASt (W'.setCell ⟨B, 7, none⟩ v') M B line { a with jumps := a.jumps ++ [j] } Ps vl vn vm v' := by
  have hAB : AB W' B line vl vn a.opn a.begun.1 a.begun.2 vm vj := (hg.block B h.ab.lt (fun e1 => by
    obtain ⟨cur, hc⟩ := own_blk h.jps e1.symm
    exact h.notB hc (by decide) rfl)).trans h.ab
  have hset : ∀ (k : Nat) (cur : Array Value) (t : TypeId), W'.heap[k]? = some (.cells cur t (0, 0)) → t ≠ 58 → (W'.setCell ⟨B, 7, none⟩ v').heap[k]? = W'.heap[k]? := fun k cur t hk ht => heap_setCell_other _ _ _ _ (fun e => by
    have e' : k = B := e
    rw [e', hAB] at hk
    simp only [Option.some.injEq, Obj.cells.injEq] at hk
    exact ht hk.2.1.symm)
  have row : ∀ {base e size n : Nat} {v : Value} {xs : List Value}, W'.ownsRow base e size v n xs → e ≠ 58 → (W'.setCell ⟨B, 7, none⟩ v').ownsRow base e size v n xs := fun hr he => ownsRow_same hr (fun g hgg => by
    obtain ⟨cur, hc⟩ := own_blk hr hgg
    exact hset g _ _ hc he)
  refine ⟨hAB.set7 v', row (ownGrown h.lib h.jps (by decide) hg) (by decide), h.eq, fun x hx => ⟨(h.code x hx).1, row (ownGrown (h.code x hx).2 h.jps (by decide) hg) (by decide)⟩, h.ap, row (ownGrown h.nms h.jps (by decide) hg) (by decide), ?_, fun hop => ?_, h.ok, h.bm.1, ?_⟩
  · have := row ho (by decide)
    rw [← jpc_app] at this
    rw [List.length_append]
    exact this
  · obtain ⟨mb, h1, h2, h3⟩ := h.lab hop
    refine ⟨mb, h1, h2, (h3.grown h.jps hg).same (heap_setCell_other _ _ _ _ (fun e => ?_))⟩
    have e' : mb = B := e
    obtain ⟨D, ⟨es, clock, hb, _⟩, _⟩ := h3
    rw [e', h.ab] at hb
    cases hb
  · have := hg.size; have := h.bm.2; simp; omega
end
end Go.Proofs.YtiiplikmoodfnaaGreatDoor
/-
  addJump.
-/
namespace Go.Proofs.YtiiplikmoodfnaaGreatDoor
open Go.RowKit Go.Sort

/-- what addJump leaves -/
def JmpPost (W : World) (M B line : Nat) (a : As) (Ps : List Pr) (vl vn vm : Value) (r : Nat) (rd : Rd) (op : Int) (e : Ending) (w' : World) : Prop :=
  (∃ v col n, e = .returned v ∧ ErrAt w' v 0 col n ∧ argA a line op rd = .error (col, n) ∧ FrA M B W w') ∨
  (∃ (x : Wd) (rd' : Rd) (vj' : Value), argA a line op rd = .ok (0, [⟨(lastP a).L.length, x.1, line, x.2⟩], rd') ∧ e = .returned .nilIface ∧ RB (ZA M B) w' r rd' ∧ SmallW rd'.1 ∧ ASt w' M B line { a with jumps := a.jumps ++ [⟨(lastP a).L.length, x.1, line, x.2⟩] } Ps vl vn vm vj' ∧ FrJ M B W w')
theorem bel_drewN (W : World) (q : Nat) : Go.RowKit.Below W.heap.size W (W.drewN q) := ((Grew.refl W).drewN q).below
set_option maxRecDepth 100000 in
set_option maxHeartbeats 4000000 in
theorem addJump_any (w : World) (M B line k : Nat) (a : As) (Ps : List Pr) (vl vn vm vj : Value) (r : Nat) (rd : Rd) (op : Int) (h : ASt w M B line a Ps vl vn vm vj) (hz : AsSz a k) (ho : a.opn = true) (hR : RB (ZA M B) w r rd) (hs : SmallW rd.1) (hr : M ≤ r) (hop : jumpB op = true) (hwl : ∀ y ∈ rd.1, y.1.length ≤ 65536) :
    Calls Tryz.prog 71 #[.pointer (some ⟨B, 0, none⟩), .pointer (some ⟨r, 0, none⟩)] w fun e w' => JmpPost w M B line a Ps vl vn vm r rd op e w' := by
  have HC := next_any w r rd hR hs
  have HA := hidA h
  have HZ := hidA hz
  have HO := hidA ho
  have HR := hidA hR
  have HSm := hidA hs
  have HOp := hidA hop
  have HWl := hidA hwl
  have hM := h.bm.2
  clear h hz ho hR hs hop hwl
  go_enter Tryz.func71, Tryz.ntmps71
  go_wp2_with fail
  refine HC.mono ?_
  rintro e w1 (⟨v, col, h1, rfl, h3, h4, h5⟩ | ⟨x, rd', h1, rfl, h3, h4⟩)
  · obtain ⟨b, rfl, hb⟩ := h3
    have HE : Hid (JmpPost w M B line a Ps vl vn vm r rd op (.returned (.iface 63 (.pointer (some ⟨b, 0, none⟩)))) (w1.alloc (.cells #[.string ⟨#[]⟩, .int .i64 0] 83))) := .inl ⟨_, col, 40, rfl, ErrAt.kept ⟨b, rfl, hb⟩ (bel_al _ _), by unfold argA; rw [if_pos HOp.out, h1], (FrA.bx h5 hM hr).trans (FrA.bel (bel_al _ _) (Nat.le_trans hM h5.size))⟩
    clear h1 h4 h5 hb HC
    go_wp2_with fail
    go_ret
    exact HE.out
  · have hM1 : M ≤ w1.heap.size := Nat.le_trans hM h4.size
    obtain ⟨W2, hW2⟩ : ∃ W2, W2 = w1.alloc (.cells #[.string (S x.1), .int .i64 (x.2 : Int)] 83) := ⟨_, rfl⟩
    have hB2 : Go.RowKit.Below w1.heap.size w1 W2 := by rw [hW2]; exact bel_al _ _
    have HA2 : Hid (ASt W2 M B line a Ps vl vn vm vj) := (HA.out.bx HR.out h4).below hB2
    have HR2 : Hid (RB (ZA M B) W2 r rd') := h3.kept hB2
    have HF2 : Hid (FrJ M B w W2) := (FrJ.bx HR.out h4 hM hr).trans (FrJ.bel hB2 hM1)
    have hM2 : M ≤ W2.heap.size := Nat.le_trans hM1 hB2.size
    have HW2 : Hid (WB W2 w1.heap.size (.string (S x.1)) (.int .i64 (x.2 : Int))) := by show WB _ _ _ _; rw [hW2]; exact heap_alloc_new _ _ rfl
    have H1 := hidA h1
    have HX : Hid (x.1.length ≤ 65536 ∧ SmallW rd'.1 ∧ x.2 ≤ 1000000) := by
      obtain ⟨ws, bh⟩ := rd
      obtain ⟨ws', bh'⟩ := rd'
      obtain ⟨e1, e2⟩ := next_inv h1
      have e3 : ws = x :: ws' := e1
      subst e3
      have h5 := HSm.out
      refine ⟨HWl.out x (by simp), ⟨fun y hy => h5.1 y (List.mem_cons_of_mem _ hy), by have := h5.2; simp at this; show ws'.length ≤ _; omega⟩, by have := h5.1 x (by simp); omega⟩
    clear h1 h3 h4 hB2 HA HR HSm HWl HC
    have HI := isNameA_any W2 (S x.1) (by rw [S_size]; have := HX.out.1; omega)
    obtain ⟨z0, z1, _, _⟩ := HW2.out.cells
    cases hb : nameB (S x.1) with
    | false =>
      rw [hb] at HI
      have HB := hidA hb
      clear hb
      go_wp2_with fail
      rw [← hW2]
      refine HI.mono ?_
      rintro e w3 ⟨rfl, k1⟩
      have y1 : w3.cell? ⟨w1.heap.size, 1, none⟩ = some (.int .i64 (x.2 : Int)) := (k1.cell (p := ⟨w1.heap.size, 1, none⟩) (cell_lt z1)).trans z1
      have HF3 : Hid (FrJ M B w w3) := HF2.out.trans (FrJ.bel k1 hM2)
      have hM3 : M ≤ w3.heap.size := Nat.le_trans hM2 k1.size
      clear k1 HI z0 z1
      go_wp2_with fail
      refine (wrong_any w3 x.2 40).mono ?_
      rintro e w4 ⟨v, rfl, k1, k2⟩
      have HE : Hid (JmpPost w M B line a Ps vl vn vm r rd op (.returned v) w4) := .inl ⟨v, x.2, 40, rfl, k1, by unfold argA; rw [if_pos HOp.out, H1.out]; exact if_pos HB.out, HF3.out.fr.trans (FrA.bel k2 hM3)⟩
      clear k1 k2
      go_wp2_with fail
      go_ret
      exact HE.out
    | true =>
      rw [hb] at HI
      have HB := hidA hb
      clear hb
      go_wp2_with fail
      rw [← hW2]
      refine HI.mono ?_
      rintro e w3 ⟨rfl, k1⟩
      have HW3 : Hid (WB w3 w1.heap.size (.string (S x.1)) (.int .i64 (x.2 : Int))) := (k1.block _ (Array.getElem?_eq_some_iff.1 HW2.out).1).trans HW2.out
      have HF3 : Hid (FrJ M B w w3) := HF2.out.trans (FrJ.bel k1 hM2)
      have hM3 : M ≤ w3.heap.size := Nat.le_trans hM2 k1.size
      have HA3 : Hid (ASt w3 M B line a Ps vl vn vm vj) := HA2.out.below k1
      have HR3 : Hid (RB (ZA M B) w3 r rd') := HR2.out.kept k1
      clear k1 HI z0 z1 HA2 HR2 HF2 HW2 hW2
      obtain ⟨z0, z1, _, _⟩ := HW3.out.cells
      obtain ⟨_, _, _, _, _, _, x6, x7⟩ := HA3.out.ab.cells
      obtain ⟨mb, rfl, hmb, hlm⟩ := HA3.out.lab HO.out
      have HLm := hidA hlm
      obtain ⟨c, _, hlk0⟩ := hlm.lookS x.1 (by have := HX.out.1; omega)
      have hlk := fun q => hlk0 (w3.drewN q) rfl
      clear hlm hlk0
      go_upto_region 6 with fail
      go_quiet (fail)
      have HA4 : Hid (ASt (w3.drewN nq) M B line a Ps vl vn (.map (some mb)) vj) := HA3.out.drewN nq
      have HR4 : Hid (RB (ZA M B) (w3.drewN nq) r rd') := HR3.out.kept (bel_drewN w3 nq)
      have HF4 : Hid (FrJ M B w (w3.drewN nq)) := HF3.out.trans (FrJ.bel (bel_drewN w3 nq) hM3)
      have HW4 : Hid (WB (w3.drewN nq) w1.heap.size (.string (S x.1)) (.int .i64 (x.2 : Int))) := HW3.out
      have HLm4 : Hid (LM (w3.drewN nq) mb a.labels) := HLm.out.drewN nq
      have hM4 : M ≤ (w3.drewN nq).heap.size := hM3
      clear hlk z0 z1 x6 x7 HA3 HR3 HF3 HW3 HLm
      generalize w3.drewN nq = w4 at *
      obtain ⟨z0, z1, _, _⟩ := HW4.out.cells
      cases hl : (labN a.labels x.1).isSome with
      | true =>
        have HL := hidA hl
        clear hl
        go_wp2_with fail
        refine (wrong_any w4 x.2 33).mono ?_
        rintro e w5 ⟨v, rfl, k1, k2⟩
        have HE : Hid (JmpPost w M B line a Ps vl vn (.map (some mb)) r rd op (.returned v) w5) := .inl ⟨v, x.2, 33, rfl, k1, by unfold argA; rw [if_pos HOp.out, H1.out]; simp only; rw [if_neg (by rw [HB.out]; simp), if_pos HL.out], HF4.out.fr.trans (FrA.bel k2 hM4)⟩
        clear k1 k2
        go_wp2_with fail
        go_ret
        exact HE.out
      | false =>
        have HL := hidA hl
        clear hl
        obtain ⟨Qs, y, g, cap, e1, rfl, hg, c5, hlp, hq, hxl, hxn⟩ := HA4.out.last HZ.out HO.out
        have HLp : Hid ((lastP a).L.length = y.L.length) := by show _ = _; rw [hlp]; rfl
        clear e1 hlp
        obtain ⟨jo, jc, rfl, _⟩ := own_slice HA4.out.jps
        obtain ⟨jn, hjn⟩ : ∃ jn, jn = a.jumps.length := ⟨_, rfl⟩
        rw [← hjn] at HA4
        have HJn := hidA hjn
        clear hjn
        have HSS : Hid (∀ W', Go.RowKit.Below w4.heap.size w4 W' → W'.cell? ⟨B, 7, none⟩ = some (.slice jo jn jc) ∧ W'.cell? ⟨g, Qs.length * 6 + 5, none⟩ = some (.slice y.ao y.L.length y.cap) ∧ W'.cell? ⟨w1.heap.size, 0, none⟩ = some (.string (S x.1)) ∧ W'.cell? ⟨w1.heap.size, 1, none⟩ = some (.int .i64 (x.2 : Int))) := fun W' hb => by
          obtain ⟨_, _, _, _, _, _, _, x7⟩ := (HA4.out.below hb).ab.cells
          exact ⟨x7, (hb.cell (p := ⟨g, Qs.length * 6 + 5, none⟩) (cell_lt c5)).trans c5, (hb.cell (p := ⟨w1.heap.size, 0, none⟩) (cell_lt z0)).trans z0, (hb.cell (p := ⟨w1.heap.size, 1, none⟩) (cell_lt z1)).trans z1⟩
        have HPr : Hid (∀ W', Go.RowKit.Below w4.heap.size w4 W' → Calls Tryz.prog 67 #[.pointer (some ⟨B, 0, none⟩)] W' fun e w' => e = .returned (.pointer (some ⟨g, Qs.length * 6 + 1, none⟩)) ∧ Go.RowKit.Below w4.heap.size w4 w') := fun W' hb =>
          (program_d W' B line a.begun.1 a.begun.2 g Qs.length cap vn (.map (some mb)) (.slice jo jn jc) a.opn (HA4.out.below hb).ab (by omega)).mono (fun e w' h => ⟨h.1, by obtain ⟨q, hq⟩ := h.2; rw [hq]; exact hb.trans ((bel_drewN W' q).mono hb.size)⟩)
        have HSp : Hid (∀ W', Go.RowKit.Below w4.heap.size w4 W' → Calls Tryz.prog 50 #[.pointer (some ⟨B, 0, none⟩), .agg #[.string (S x.1), .int .i64 (x.2 : Int)]] W' fun e w' => e = .returned (.agg #[.int .i64 (line : Int), .int .i64 (x.2 : Int)]) ∧ Go.RowKit.Below w4.heap.size w4 w') := fun W' hb =>
          (spot_any W' B line a.begun.1 a.begun.2 _ vn (.map (some mb)) (.slice jo jn jc) a.opn (HA4.out.below hb).ab x).mono (fun e w' h => ⟨h.1, hb.trans (h.2.mono hb.size)⟩)
        have HAp : Hid (∀ W', Go.RowKit.Below w4.heap.size w4 W' → ∀ ty, ∃ v' w', (Builtin.append_ #[56, 56] ty #[.slice jo jn jc, .slice (some ⟨W'.heap.size, 0, none⟩) 1 1]).run Tryz.prog (W'.alloc (.cells #[.int .i64 (y.L.length : Int), .string (S x.1), .int .i64 (line : Int), .int .i64 (x.2 : Int)] 165)) = .ok v' w' ∧ (∃ o n c, v' = .slice o n c) ∧ w'.cell? ⟨B, 7, none⟩ = some (.slice jo jn jc) ∧ w'.frozen? ⟨B, 7, none⟩ = false ∧ (w'.cell? ⟨g, Qs.length * 6 + 5, none⟩ = some (.slice y.ao y.L.length y.cap) ∧ w'.cell? ⟨w1.heap.size, 0, none⟩ = some (.string (S x.1)) ∧ w'.cell? ⟨w1.heap.size, 1, none⟩ = some (.int .i64 (x.2 : Int))) ∧ ((w'.setCell ⟨B, 7, none⟩ v').cell? ⟨g, Qs.length * 6 + 5, none⟩ = some (.slice y.ao y.L.length y.cap) ∧ (w'.setCell ⟨B, 7, none⟩ v').cell? ⟨w1.heap.size, 0, none⟩ = some (.string (S x.1)) ∧ (w'.setCell ⟨B, 7, none⟩ v').cell? ⟨w1.heap.size, 1, none⟩ = some (.int .i64 (x.2 : Int))) ∧ Hid (JmpPost w M B line a Ps (.slice (some ⟨g, 0, none⟩) (Qs.length + 1) cap) vn (.map (some mb)) r rd op (.returned .nilIface) (w'.setCell ⟨B, 7, none⟩ v'))) := fun W' hb ty => by
          have hA := HA4.out.below hb
          obtain ⟨v', w', p1, p2, p3, p4⟩ := app_one Tryz.underlying56 infoJp rfl (by decide) (by decide) W' M (.slice jo jn jc) a.jumps.length (jpc a.jumps) (jpc [⟨(lastP a).L.length, x.1, line, x.2⟩]) hA.jps rfl (jpc_one _) (by have := HZ.out.jmp; have := HZ.out.top; omega) hA.bm.2 ty
          have hAl : ASt (W'.alloc (.cells (jpc [⟨(lastP a).L.length, x.1, line, x.2⟩]).toArray 165)) M B line a Ps (.slice (some ⟨g, 0, none⟩) (Qs.length + 1) cap) vn (.map (some mb)) (.slice jo jn jc) := hA.below (bel_al _ _)
          have hJ := hAl.jump ⟨(lastP a).L.length, x.1, line, x.2⟩ p2 p3
          have hAB : AB w' B line (.slice (some ⟨g, 0, none⟩) (Qs.length + 1) cap) vn a.opn a.begun.1 a.begun.2 (.map (some mb)) (.slice jo jn jc) := (p3.block B hAl.ab.lt (fun e1 => by
            obtain ⟨cur, hc⟩ := own_blk hAl.jps e1.symm
            exact hAl.notB hc (by decide) rfl)).trans hAl.ab
          have hsl : ∃ o n c, v' = .slice o n c := by
            obtain ⟨o, c, e, _⟩ := own_slice p2
            exact ⟨o, _, c, e⟩
          have hbw : ∀ g', (Value.slice jo jn jc).ownBlock = some g' → M ≤ g' ∧ ∀ cur t, RI t → (W'.alloc (.cells (jpc [⟨(lastP a).L.length, x.1, line, x.2⟩]).toArray 165)).heap[g']? ≠ some (.cells cur t (0, 0)) := fun g' hg' => ⟨(World.ownsRow.lt hAl.jps g' hg').1, fun cur t ht e => by
            obtain ⟨cur', hc⟩ := own_blk hAl.jps hg'
            rw [hc] at e
            simp only [Option.some.injEq, Obj.cells.injEq] at e
            rcases ht with h | h <;> exact absurd (e.2.1.trans h) (by decide)⟩
          have hF1 : FrR M B W' (W'.alloc (.cells (jpc [⟨(lastP a).L.length, x.1, line, x.2⟩]).toArray 165)) := FrR.bel (bel_al _ _) hA.bm.2
          have hF2 : FrR M B (W'.alloc (.cells (jpc [⟨(lastP a).L.length, x.1, line, x.2⟩]).toArray 165)) w' := by
            cases hv : (Value.slice jo jn jc).ownBlock with
            | none => rw [hv] at p3; exact ⟨FrA.grown p3 hAl.bm.2 (fun k e => by cases e), fun i _ _ hi _ => p3.block i (Array.getElem?_eq_some_iff.1 hi).1 (by simp)⟩
            | some g' => rw [hv] at p3; exact FrR.grown p3 hAl.bm.2 (hbw g' hv).1 (hbw g' hv).2
          have hF3 : FrR M B w' (w'.setCell ⟨B, 7, none⟩ v') := FrR.set _ _ (.inl rfl) (fun cur t ht e => by
            rw [show w'.heap[B]? = _ from hAB] at e
            simp only [Option.some.injEq, Obj.cells.injEq] at e
            rcases ht with h | h <;> exact absurd (e.2.1.trans h) (by decide))
          have hF : FrR M B w4 (w'.setCell ⟨B, 7, none⟩ v') := ((FrR.bel hb HA4.out.bm.2).trans (hF1.trans hF2)).trans hF3
          have hne : ∀ (k' : Nat) (cur : Array Value) (t : TypeId), (W'.alloc (.cells (jpc [⟨(lastP a).L.length, x.1, line, x.2⟩]).toArray 165)).heap[k']? = some (.cells cur t (0, 0)) → t ≠ 165 → w'.heap[k']? = some (.cells cur t (0, 0)) := fun k' cur t hk ht => (p3.block k' (Array.getElem?_eq_some_iff.1 hk).1 (fun e1 => by
            obtain ⟨cur', hc⟩ := own_blk hAl.jps e1.symm
            rw [hk] at hc
            simp only [Option.some.injEq, Obj.cells.injEq] at hc
            exact ht hc.2.1)).trans hk
          have hset : ∀ (k' : Nat) (cur : Array Value) (t : TypeId), w'.heap[k']? = some (.cells cur t (0, 0)) → t ≠ 58 → (w'.setCell ⟨B, 7, none⟩ v').heap[k']? = some (.cells cur t (0, 0)) := fun k' cur t hk ht => (heap_setCell_other _ _ _ _ (fun e => by
            have e' : k' = B := e
            rw [e', hAB] at hk
            simp only [Option.some.injEq, Obj.cells.injEq] at hk
            exact ht hk.2.1.symm)).trans hk
          obtain ⟨curG, hcG⟩ := own_blk hAl.lib (g := g) rfl
          have hcW : (W'.alloc (.cells (jpc [⟨(lastP a).L.length, x.1, line, x.2⟩]).toArray 165)).heap[w1.heap.size]? = _ := ((hb.alloc hb.size _).block _ (Array.getElem?_eq_some_iff.1 HW4.out).1).trans HW4.out
          have hG5 : (W'.alloc (.cells (jpc [⟨(lastP a).L.length, x.1, line, x.2⟩]).toArray 165)).cell? ⟨g, Qs.length * 6 + 5, none⟩ = some (.slice y.ao y.L.length y.cap) := ((hb.alloc hb.size _).cell (p := ⟨g, Qs.length * 6 + 5, none⟩) (cell_lt c5)).trans c5
          have g1 := hne _ _ _ hcG (by decide)
          have g2 := hset _ _ _ g1 (by decide)
          have k1 := hne _ _ _ hcW (by decide)
          have k2 := hset _ _ _ k1 (by decide)
          have s3 : w'.cell? ⟨g, Qs.length * 6 + 5, none⟩ = some (.slice y.ao y.L.length y.cap) := by simp only [World.cell?, hcG] at hG5; simp only [World.cell?, g1]; exact hG5
          have s4 : (w'.setCell ⟨B, 7, none⟩ v').cell? ⟨g, Qs.length * 6 + 5, none⟩ = some (.slice y.ao y.L.length y.cap) := by simp only [World.cell?, hcG] at hG5; simp only [World.cell?, g2]; exact hG5
          refine ⟨v', w', ?_, hsl, hAB.cells.2.2.2.2.2.2.2, hAB.frozen 7, ⟨s3, by simp [World.cell?, k1], by simp [World.cell?, k1]⟩, ⟨s4, by simp [World.cell?, k2], by simp [World.cell?, k2]⟩, .inr ⟨x, rd', v', ?_, rfl, HR4.out.frr hF, HX.out.2.1, hJ, HF4.out.trans hF.j⟩⟩
          · rw [← HLp.out]; exact p1
          · unfold argA
            rw [if_pos HOp.out, H1.out]
            simp only
            rw [if_neg (by rw [HB.out]; simp), if_neg (by rw [HL.out]; simp)]
        have hbd : Go.RowKit.Below w4.heap.size w4 w4.drew := bel_drewN w4 1
        have s1 : w4.drew.cell? ⟨B, 7, none⟩ = some (.slice jo jn jc) := (HSS.out _ hbd).1
        go_upto_region 9 with fail
        -- REGION
        refine wp_region_held_drew (S := fun w' => w'.cell? ⟨g, Qs.length * 6 + 5, none⟩ = some (.slice y.ao y.L.length y.cap) ∧ w'.cell? ⟨w1.heap.size, 0, none⟩ = some (.string (S x.1)) ∧ w'.cell? ⟨w1.heap.size, 1, none⟩ = some (.int .i64 (x.2 : Int))) (by kernel_rfl) ?_ (fun hHeld => ?_)
        · exact (HSS.out _ hbd).2
        refine wpAnyH_take (i := 0) (v := .pointer (some ⟨B, 0, none⟩)) rfl (by kernel_rfl) (by kernel_rfl) (by kernel_rfl) (fun _ _ _ h => h) (Or.inl ⟨by rfl, by intro w hSw; (try dsimp only at hSw); go_simp⟩) (by assumption) ?_
        refine wpAnyH_take (i := 1) (v := .pointer (some ⟨B, 0, none⟩)) rfl (by kernel_rfl) (by kernel_rfl) (by kernel_rfl) (fun _ _ _ h => h) (Or.inl ⟨by rfl, by intro w hSw; (try dsimp only at hSw); go_simp⟩) (by assumption) ?_
        refine wpAnyH_take (i := 2) (v := .pointer (some ⟨B, 0, none⟩)) rfl (by kernel_rfl) (by kernel_rfl) (by kernel_rfl) (fun _ _ _ h => h) (Or.inl ⟨by rfl, by intro w hSw; (try dsimp only at hSw); go_simp⟩) (by assumption) ?_
        refine wpAnyH_take (i := 3) (v := .pointer (some ⟨B, 7, none⟩)) rfl (by kernel_rfl) (by kernel_rfl) (by kernel_rfl) (fun _ _ _ h => h) (Or.inl ⟨by rfl, by intro w hSw; (try dsimp only at hSw); go_simp⟩) (by assumption) ?_
        refine wpAnyH_take (i := 5) (v := .pointer (some ⟨B, 0, none⟩)) rfl (by kernel_rfl) (by kernel_rfl) (by kernel_rfl) (fun _ _ _ h => h) (Or.inl ⟨by rfl, by intro w hSw; (try dsimp only at hSw); go_simp⟩) (by assumption) ?_
        refine wpAnyH_take (i := 11) (v := .pointer (some ⟨w1.heap.size, 0, none⟩)) rfl (by kernel_rfl) (by kernel_rfl) (by kernel_rfl) (fun _ _ _ h => h) (Or.inl ⟨by rfl, by intro w hSw; (try dsimp only at hSw); go_simp⟩) (by assumption) ?_
        refine wpAnyH_take (i := 12) (v := .string (S x.1)) rfl (by kernel_rfl) (by kernel_rfl) (by kernel_rfl) (fun _ _ _ h => h) (Or.inl ⟨by rfl, by intro w hSw; (try dsimp only at hSw); go_simp⟩) (by assumption) ?_
        refine wpAnyH_take (i := 13) (v := .pointer (some ⟨B, 0, none⟩)) rfl (by kernel_rfl) (by kernel_rfl) (by kernel_rfl) (fun _ _ _ h => h) (Or.inl ⟨by rfl, by intro w hSw; (try dsimp only at hSw); go_simp⟩) (by assumption) ?_
        refine wpAnyH_take (i := 14) (v := .agg #[.string (S x.1), .int .i64 (x.2 : Int)]) rfl (by kernel_rfl) (by kernel_rfl) (by kernel_rfl) (fun _ _ _ h => h) (Or.inl ⟨by rfl, by intro w hSw; (try dsimp only at hSw); go_simp⟩) (by assumption) ?_
        refine wpAnyH_ready (rs := [4, 6]) (by kernel_rfl) (by simp) ?_
        refine AllReadyH.cons rfl (fun K hK => ?_) ?_
        · go_simp
          refine hK.out _ _ (by assumption) (fun hHeld => ?_)
          clear hK K
          refine wpAnyH_ready (rs := [6]) (by kernel_rfl) (by simp) ?_
          refine AllReadyH.cons rfl (fun K hK => ?_) ?_
          · go_simp
            refine (HPr.out _ hbd).mono ?_
            rintro e wa ⟨rfl, hba⟩
            have HBa := hidA hba
            obtain ⟨a7, hS1⟩ := HSS.out wa hba
            clear hba
            go_wp2_with fail
            refine hK.out _ _ (by exact hS1) (fun hHeld => ?_)
            clear hS1
            clear hK K
            refine wpAnyH_take (i := 7) (v := .pointer (some ⟨g, Qs.length * 6 + 1, none⟩)) rfl (by kernel_rfl) (by kernel_rfl) (by kernel_rfl) (fun _ _ _ h => h) (Or.inl ⟨by rfl, by intro w hSw; (try dsimp only at hSw); go_simp⟩) (by assumption) ?_
            refine wpAnyH_take (i := 8) (v := .pointer (some ⟨g, Qs.length * 6 + 1 + 4, none⟩)) rfl (by kernel_rfl) (by kernel_rfl) (by kernel_rfl) (fun _ _ _ h => h) (Or.inl ⟨by rfl, by intro w hSw; (try dsimp only at hSw); go_simp⟩) (by assumption) ?_
            refine wpAnyH_take (i := 9) (v := .slice y.ao y.L.length y.cap) rfl (by kernel_rfl) (by kernel_rfl) (by kernel_rfl) (fun _ _ _ h => h) (Or.inl ⟨by rfl, by intro w hSw; (try dsimp only at hSw); go_simp⟩) (by assumption) ?_
            refine wpAnyH_take (i := 10) (v := .int .i64 (y.L.length : Int)) rfl (by kernel_rfl) (by kernel_rfl) (by kernel_rfl) (fun _ _ _ h => h) (Or.inl ⟨by rfl, by intro w hSw; (try dsimp only at hSw); go_simp⟩) (by assumption) ?_
            refine wpAnyH_ready (rs := [15]) (by kernel_rfl) (by simp) ?_
            refine AllReadyH.cons rfl (fun K hK => ?_) ?_
            · go_simp
              refine (HSp.out _ HBa.out).mono ?_
              rintro e wb ⟨rfl, hbb⟩
              have HBb := hidA hbb
              obtain ⟨b7, hS2⟩ := HSS.out wb hbb
              have hS3 := fun o => (HSS.out (wb.alloc o) (hbb.alloc hbb.size o)).2
              have b7' := fun o => (HSS.out (wb.alloc o) (hbb.alloc hbb.size o)).1
              clear hbb
              go_wp2_with fail
              refine hK.out _ _ (by exact hS2) (fun hHeld => ?_)
              clear hS2
              clear hK K
              refine wpAnyH_take (i := 16) (v := .agg #[.int .i64 (y.L.length : Int), .string (S x.1), .int .i64 (line : Int), .int .i64 (x.2 : Int)]) rfl (by kernel_rfl) (by kernel_rfl) (by kernel_rfl) (fun _ _ _ h => h) (Or.inl ⟨by rfl, by intro w hSw; (try dsimp only at hSw); go_simp⟩) (by assumption) ?_
              refine wpAnyH_ready (rs := [17]) (by kernel_rfl) (by simp) ?_
              refine AllReadyH.cons rfl (fun K hK => ?_) ?_
              · go_simp
                refine hK.out _ _ (by exact hS3 _) (fun hHeld => ?_)
                clear hK K
                refine wpAnyH_ready (rs := [18]) (by kernel_rfl) (by simp) ?_
                refine AllReadyH.cons rfl (fun K hK => ?_) ?_
                · refine step_appA rfl _ _ 56 rfl (.slice jo jn jc) (.slice (some ⟨wb.heap.size, 0, none⟩) 1 1) rfl rfl (HAp.out wb HBb.out) ?_
                  rintro v' w9 ⟨⟨o9, n9, c9, rfl⟩, t1, t2, t3, t4, HP9⟩
                  refine hK.out _ _ (by exact t3) (fun hHeld => ?_)
                  clear hK K
                  refine wpAnyH_take (i := 19) (v := .pointer (some ⟨B, 0, none⟩)) rfl (by kernel_rfl) (by kernel_rfl) (by kernel_rfl) (fun _ _ _ h => h) (Or.inl ⟨by rfl, by intro w hSw; (try dsimp only at hSw); go_simp⟩) (by assumption) ?_
                  refine wpAnyH_take (i := 20) (v := .pointer (some ⟨B, 7, none⟩)) rfl (by kernel_rfl) (by kernel_rfl) (by kernel_rfl) (fun _ _ _ h => h) (Or.inl ⟨by rfl, by intro w hSw; (try dsimp only at hSw); go_simp⟩) (by assumption) ?_
                  refine wpAnyH_ready (rs := [21]) (by kernel_rfl) (by simp) ?_
                  refine AllReadyH.cons rfl (fun K hK => ?_) ?_
                  · go_simp
                    refine hK.out _ _ (by exact t4) (fun hHeld => ?_)
                    clear hK K
                    refine wpAnyH_done (by kernel_rfl) ?_ _
                    go_wp2_with fail
                    go_ret
                    exact HP9.out
                  exact AllReadyH.nil
                exact AllReadyH.nil
              exact AllReadyH.nil
            exact AllReadyH.nil
          exact AllReadyH.nil
        refine AllReadyH.cons rfl (fun K hK => ?_) ?_
        · go_simp
          refine (HPr.out _ hbd).mono ?_
          rintro e wa ⟨rfl, hba⟩
          have HBa := hidA hba
          obtain ⟨a7, hS1⟩ := HSS.out wa hba
          clear hba
          go_wp2_with fail
          refine hK.out _ _ (by exact hS1) (fun hHeld => ?_)
          clear hS1
          clear hK K
          refine wpAnyH_take (i := 7) (v := .pointer (some ⟨g, Qs.length * 6 + 1, none⟩)) rfl (by kernel_rfl) (by kernel_rfl) (by kernel_rfl) (fun _ _ _ h => h) (Or.inl ⟨by rfl, by intro w hSw; (try dsimp only at hSw); go_simp⟩) (by assumption) ?_
          refine wpAnyH_take (i := 8) (v := .pointer (some ⟨g, Qs.length * 6 + 1 + 4, none⟩)) rfl (by kernel_rfl) (by kernel_rfl) (by kernel_rfl) (fun _ _ _ h => h) (Or.inl ⟨by rfl, by intro w hSw; (try dsimp only at hSw); go_simp⟩) (by assumption) ?_
          refine wpAnyH_take (i := 9) (v := .slice y.ao y.L.length y.cap) rfl (by kernel_rfl) (by kernel_rfl) (by kernel_rfl) (fun _ _ _ h => h) (Or.inl ⟨by rfl, by intro w hSw; (try dsimp only at hSw); go_simp⟩) (by assumption) ?_
          refine wpAnyH_take (i := 10) (v := .int .i64 (y.L.length : Int)) rfl (by kernel_rfl) (by kernel_rfl) (by kernel_rfl) (fun _ _ _ h => h) (Or.inl ⟨by rfl, by intro w hSw; (try dsimp only at hSw); go_simp⟩) (by assumption) ?_
          refine wpAnyH_ready (rs := [4, 15]) (by kernel_rfl) (by simp) ?_
          refine AllReadyH.cons rfl (fun K hK => ?_) ?_
          · go_simp
            refine hK.out _ _ (by assumption) (fun hHeld => ?_)
            clear hK K
            refine wpAnyH_ready (rs := [15]) (by kernel_rfl) (by simp) ?_
            refine AllReadyH.cons rfl (fun K hK => ?_) ?_
            · go_simp
              refine (HSp.out _ HBa.out).mono ?_
              rintro e wb ⟨rfl, hbb⟩
              have HBb := hidA hbb
              obtain ⟨b7, hS2⟩ := HSS.out wb hbb
              have hS3 := fun o => (HSS.out (wb.alloc o) (hbb.alloc hbb.size o)).2
              have b7' := fun o => (HSS.out (wb.alloc o) (hbb.alloc hbb.size o)).1
              clear hbb
              go_wp2_with fail
              refine hK.out _ _ (by exact hS2) (fun hHeld => ?_)
              clear hS2
              clear hK K
              refine wpAnyH_take (i := 16) (v := .agg #[.int .i64 (y.L.length : Int), .string (S x.1), .int .i64 (line : Int), .int .i64 (x.2 : Int)]) rfl (by kernel_rfl) (by kernel_rfl) (by kernel_rfl) (fun _ _ _ h => h) (Or.inl ⟨by rfl, by intro w hSw; (try dsimp only at hSw); go_simp⟩) (by assumption) ?_
              refine wpAnyH_ready (rs := [17]) (by kernel_rfl) (by simp) ?_
              refine AllReadyH.cons rfl (fun K hK => ?_) ?_
              · go_simp
                refine hK.out _ _ (by exact hS3 _) (fun hHeld => ?_)
                clear hK K
                refine wpAnyH_ready (rs := [18]) (by kernel_rfl) (by simp) ?_
                refine AllReadyH.cons rfl (fun K hK => ?_) ?_
                · refine step_appA rfl _ _ 56 rfl (.slice jo jn jc) (.slice (some ⟨wb.heap.size, 0, none⟩) 1 1) rfl rfl (HAp.out wb HBb.out) ?_
                  rintro v' w9 ⟨⟨o9, n9, c9, rfl⟩, t1, t2, t3, t4, HP9⟩
                  refine hK.out _ _ (by exact t3) (fun hHeld => ?_)
                  clear hK K
                  refine wpAnyH_take (i := 19) (v := .pointer (some ⟨B, 0, none⟩)) rfl (by kernel_rfl) (by kernel_rfl) (by kernel_rfl) (fun _ _ _ h => h) (Or.inl ⟨by rfl, by intro w hSw; (try dsimp only at hSw); go_simp⟩) (by assumption) ?_
                  refine wpAnyH_take (i := 20) (v := .pointer (some ⟨B, 7, none⟩)) rfl (by kernel_rfl) (by kernel_rfl) (by kernel_rfl) (fun _ _ _ h => h) (Or.inl ⟨by rfl, by intro w hSw; (try dsimp only at hSw); go_simp⟩) (by assumption) ?_
                  refine wpAnyH_ready (rs := [21]) (by kernel_rfl) (by simp) ?_
                  refine AllReadyH.cons rfl (fun K hK => ?_) ?_
                  · go_simp
                    refine hK.out _ _ (by exact t4) (fun hHeld => ?_)
                    clear hK K
                    refine wpAnyH_done (by kernel_rfl) ?_ _
                    go_wp2_with fail
                    go_ret
                    exact HP9.out
                  exact AllReadyH.nil
                exact AllReadyH.nil
              exact AllReadyH.nil
            exact AllReadyH.nil
          refine AllReadyH.cons rfl (fun K hK => ?_) ?_
          · go_simp
            refine (HSp.out _ HBa.out).mono ?_
            rintro e wb ⟨rfl, hbb⟩
            have HBb := hidA hbb
            obtain ⟨b7, hS2⟩ := HSS.out wb hbb
            have hS3 := fun o => (HSS.out (wb.alloc o) (hbb.alloc hbb.size o)).2
            have b7' := fun o => (HSS.out (wb.alloc o) (hbb.alloc hbb.size o)).1
            clear hbb
            go_wp2_with fail
            refine hK.out _ _ (by exact hS2) (fun hHeld => ?_)
            clear hS2
            clear hK K
            refine wpAnyH_take (i := 16) (v := .agg #[.int .i64 (y.L.length : Int), .string (S x.1), .int .i64 (line : Int), .int .i64 (x.2 : Int)]) rfl (by kernel_rfl) (by kernel_rfl) (by kernel_rfl) (fun _ _ _ h => h) (Or.inl ⟨by rfl, by intro w hSw; (try dsimp only at hSw); go_simp⟩) (by assumption) ?_
            refine wpAnyH_ready (rs := [4, 17]) (by kernel_rfl) (by simp) ?_
            refine AllReadyH.cons rfl (fun K hK => ?_) ?_
            · go_simp
              refine hK.out _ _ (by assumption) (fun hHeld => ?_)
              clear hK K
              refine wpAnyH_ready (rs := [17]) (by kernel_rfl) (by simp) ?_
              refine AllReadyH.cons rfl (fun K hK => ?_) ?_
              · go_simp
                refine hK.out _ _ (by exact hS3 _) (fun hHeld => ?_)
                clear hK K
                refine wpAnyH_ready (rs := [18]) (by kernel_rfl) (by simp) ?_
                refine AllReadyH.cons rfl (fun K hK => ?_) ?_
                · refine step_appA rfl _ _ 56 rfl (.slice jo jn jc) (.slice (some ⟨wb.heap.size, 0, none⟩) 1 1) rfl rfl (HAp.out wb HBb.out) ?_
                  rintro v' w9 ⟨⟨o9, n9, c9, rfl⟩, t1, t2, t3, t4, HP9⟩
                  refine hK.out _ _ (by exact t3) (fun hHeld => ?_)
                  clear hK K
                  refine wpAnyH_take (i := 19) (v := .pointer (some ⟨B, 0, none⟩)) rfl (by kernel_rfl) (by kernel_rfl) (by kernel_rfl) (fun _ _ _ h => h) (Or.inl ⟨by rfl, by intro w hSw; (try dsimp only at hSw); go_simp⟩) (by assumption) ?_
                  refine wpAnyH_take (i := 20) (v := .pointer (some ⟨B, 7, none⟩)) rfl (by kernel_rfl) (by kernel_rfl) (by kernel_rfl) (fun _ _ _ h => h) (Or.inl ⟨by rfl, by intro w hSw; (try dsimp only at hSw); go_simp⟩) (by assumption) ?_
                  refine wpAnyH_ready (rs := [21]) (by kernel_rfl) (by simp) ?_
                  refine AllReadyH.cons rfl (fun K hK => ?_) ?_
                  · go_simp
                    refine hK.out _ _ (by exact t4) (fun hHeld => ?_)
                    clear hK K
                    refine wpAnyH_done (by kernel_rfl) ?_ _
                    go_wp2_with fail
                    go_ret
                    exact HP9.out
                  exact AllReadyH.nil
                exact AllReadyH.nil
              exact AllReadyH.nil
            refine AllReadyH.cons rfl (fun K hK => ?_) ?_
            · go_simp
              refine hK.out _ _ (by exact hS3 _) (fun hHeld => ?_)
              clear hK K
              refine wpAnyH_ready (rs := [4]) (by kernel_rfl) (by simp) ?_
              refine AllReadyH.cons rfl (fun K hK => ?_) ?_
              · go_simp
                refine hK.out _ _ (by assumption) (fun hHeld => ?_)
                clear hK K
                refine wpAnyH_ready (rs := [18]) (by kernel_rfl) (by simp) ?_
                refine AllReadyH.cons rfl (fun K hK => ?_) ?_
                · refine step_appA rfl _ _ 56 rfl (.slice jo jn jc) (.slice (some ⟨wb.heap.size, 0, none⟩) 1 1) rfl rfl (HAp.out wb HBb.out) ?_
                  rintro v' w9 ⟨⟨o9, n9, c9, rfl⟩, t1, t2, t3, t4, HP9⟩
                  refine hK.out _ _ (by exact t3) (fun hHeld => ?_)
                  clear hK K
                  refine wpAnyH_take (i := 19) (v := .pointer (some ⟨B, 0, none⟩)) rfl (by kernel_rfl) (by kernel_rfl) (by kernel_rfl) (fun _ _ _ h => h) (Or.inl ⟨by rfl, by intro w hSw; (try dsimp only at hSw); go_simp⟩) (by assumption) ?_
                  refine wpAnyH_take (i := 20) (v := .pointer (some ⟨B, 7, none⟩)) rfl (by kernel_rfl) (by kernel_rfl) (by kernel_rfl) (fun _ _ _ h => h) (Or.inl ⟨by rfl, by intro w hSw; (try dsimp only at hSw); go_simp⟩) (by assumption) ?_
                  refine wpAnyH_ready (rs := [21]) (by kernel_rfl) (by simp) ?_
                  refine AllReadyH.cons rfl (fun K hK => ?_) ?_
                  · go_simp
                    refine hK.out _ _ (by exact t4) (fun hHeld => ?_)
                    clear hK K
                    refine wpAnyH_done (by kernel_rfl) ?_ _
                    go_wp2_with fail
                    go_ret
                    exact HP9.out
                  exact AllReadyH.nil
                exact AllReadyH.nil
              exact AllReadyH.nil
            exact AllReadyH.nil
          exact AllReadyH.nil
        exact AllReadyH.nil
        -- END
end Go.Proofs.YtiiplikmoodfnaaGreatDoor
