import Derived.Test.YtfkijdlggdgfhaaSStK
import Derived.Deep.DeepAppendRoom
/-
  Fill.
-/
namespace Go.Proofs.Ytfkijdlggdgfhaa
open Go.RowKit Go.Sort

/-- versions with other cells -/
structure Alk (f : Vr → Vr) : Prop where
  b : ∀ v, (f v).b = v.b
  n : ∀ v, (f v).n = v.n
  k : ∀ v, (f v).k = v.k
  ba : ∀ v, (f v).ba = v.ba
  ix : ∀ v, (f v).ix = v.ix
theorem ofK_map {f : Vr → Vr} (hf : Alk f) (k : K) (vs : List Vr) : ofK k (vs.map f) = (ofK k vs).map f := by
  unfold ofK
  rw [List.filter_map]
  congr 1
  refine List.filter_congr fun x _ => ?_
  simp [hf.k]
theorem Alk.later {f : Vr → Vr} (hf : Alk f) (a b : Vr) : later (f a) (f b) ↔ later a b := by unfold Go.Proofs.Ytfkijdlggdgfhaa.later; rw [hf.ba, hf.ba, hf.ix, hf.ix]
theorem SA.mapF {w W : World} {S V D M L P : Nat} {hf : Value} {cap last : Int} {vs : List Vr} {es : List En} {R : K → Nat × Nat × Nat} (h : SA w S V D M L P hf cap last vs es R) {f : Vr → Vr} (hfa : Alk f) (hcv : ∀ v ∈ vs, In64 (f v).cv)
    (hvb : ∀ v ∈ vs, W.heap[v.b]? = some (.cells (cellsV (f v)) 82 (0, 0))) (hs : ∀ k, k < w.heap.size → (∀ v ∈ vs, v.b ≠ k) → W.heap[k]? = w.heap[k]?) : SA W S V D M L P hf cap last (vs.map f) es R := by
  have hS : ∀ v ∈ vs, v.b ≠ S := fun v hv => (h.sv_ne.2 v hv).1
  have hV : ∀ v ∈ vs, v.b ≠ V := fun v hv => (h.sv_ne.2 v hv).2
  refine ⟨(hs S (blk_lt h.st) hS).trans h.st, ?_, fun v hv => ?_, h.da.same (fun k hk => hs k (h.da.lt hk) (h.dict_ne hk).2.2.1), fun e he => ?_, fun e he => ?_, fun e he => ?_, fun e he => ?_, fun v hv => ?_, h.cb, h.rn, ?_, fun v hv => ?_, ?_, fun k => ?_, fun v hv => ?_, h.VM, by rw [List.length_map]; exact h.lt, by rw [List.length_map]; exact h.el, h.cm, h.ph, fun v hv => by
    obtain ⟨u, hu, rfl⟩ := List.mem_map.1 hv
    rw [hfa.k]
    exact h.ik u hu⟩
  · obtain ⟨ms, c, h1, h2⟩ := h.vm
    refine ⟨ms, c, (hs V (blk_lt h1) hV).trans h1, ?_⟩
    rw [h2, List.map_map]
    refine List.map_congr_left fun v _ => ?_
    simp [hfa.n, hfa.b]
  · obtain ⟨u, hu, rfl⟩ := List.mem_map.1 hv
    rw [hfa.b]
    exact hvb u hu
  · rw [ofK_map hfa, List.length_map, hs _ (blk_lt (h.ch e he)) (h.oth_ne he).1.2.2]
    exact h.ch e he
  · obtain ⟨cur, k1, k2, k3⟩ := h.rw e he
    refine ⟨cur, (hs _ (blk_lt k1) (h.oth_ne he).2.1.2.2).trans k1, k2, fun j hj => ?_⟩
    have hj' : j < (ofK e.k vs).length := by rw [ofK_map hfa, List.length_map] at hj; exact hj
    rw [k3 j hj']
    congr 2
    have e1 : (ofK e.k (vs.map f))[j] = f (ofK e.k vs)[j] := by simp only [ofK_map hfa, List.getElem_map]
    rw [e1, hfa.b]
  · rw [ofK_map hfa, List.length_map]; exact h.rl e he
  · rw [ofK_map hfa]
    have := h.ne e he
    intro h0
    exact this (List.map_eq_nil_iff.1 h0)
  · obtain ⟨u, hu, rfl⟩ := List.mem_map.1 hv
    rw [hfa.k]
    exact h.all u hu
  · rw [List.pairwise_map]
    exact h.nn.imp (fun {a b} hab => by rw [hfa.n, hfa.n]; exact hab)
  · obtain ⟨u, hu, rfl⟩ := List.mem_map.1 hv
    rw [hfa.n]
    exact h.nl u hu
  · rw [List.map_map, show Vr.b ∘ f = Vr.b from funext hfa.b]
    exact h.bn
  · rw [ofK_map hfa, List.pairwise_map]
    exact (h.pl k).imp (fun {a b} hab => (hfa.later _ _).2 hab)
  · obtain ⟨u, hu, rfl⟩ := List.mem_map.1 hv
    have := h.inn u hu
    rw [hfa.k, hfa.ba, hfa.ix]
    exact ⟨this.1, this.2.1, this.2.2.1, hcv u hu⟩
/-- the version n is filled -/
def updF (n : Int) (ci : Bool) (cv : Int) (v : Vr) : Vr := if v.n = n then fillV v ci cv else v
theorem updF_alk (n : Int) (ci : Bool) (cv : Int) : Alk (updF n ci cv) := by
  refine ⟨fun v => ?_, fun v => ?_, fun v => ?_, fun v => ?_, fun v => ?_⟩ <;> (unfold updF; split <;> rfl)
/-- what Fill answers -/
def filE (o : Option Vr) : Int := match o with | none => 93 | some v => if v.fl then 95 else 0
/-- the versions behind Fill -/
def filL (vs : List Vr) (n : Int) (ci : Bool) (cv : Int) : List Vr := if filE (fv vs n) = 0 then vs.map (updF n ci cv) else vs
set_option maxRecDepth 100000 in
set_option maxHeartbeats 1000000 in
theorem fill_st (n0 : Nat) (F : Nat → Prop) (w : World) (S P : Nat) (cap last : Int) (vs : List Vr) (h : ST n0 F w S P cap last vs) (n : Int) (ci : Bool) (cv : Int) (hn : In64 n) (hcv : In64 cv) :
    Calls Try.prog 22 #[ptr S, .int .i64 n, .agg #[.bool ci, .int .i64 cv]] w fun e w' => e = .returned (.int .i64 (filE (fv vs n))) ∧ Kp n0 F w w' ∧ ST n0 F w' S P cap last (filL vs n ci cv) := by
  obtain ⟨V, D, M, L, es, R, h1, h2⟩ := h
  obtain ⟨W, hW⟩ : ∃ W, W = w.alloc (.cells #[.bool ci, .int .i64 cv] 30) := ⟨_, rfl⟩
  have HB : Hid (Below w.heap.size w W) := by
    show Below _ _ _
    rw [hW]
    exact (Below.refl _ _).alloc (Nat.le_refl _) _
  have HS : Hid (SA W S V D M L P (hfn 35) cap last vs es R) := h1.kept HB.out
  have H2 : Hid (∀ k, Fs S V D M L vs es R k → n0 ≤ k ∧ ¬ F k) := h2
  have x0 : W.cell? ⟨w.heap.size, 0, none⟩ = some (.bool ci) := by rw [World.cell?, hW, heap_alloc_new _ _ rfl]; rfl
  have x1 : W.cell? ⟨w.heap.size, 1, none⟩ = some (.int .i64 cv) := by rw [World.cell?, hW, heap_alloc_new _ _ rfl]; rfl
  have c3 := HS.out.cells.2.2.2.1
  have hl := HS.out.look hn
  have HI : Hid (In64 n ∧ In64 cv) := ⟨hn, hcv⟩
  clear h1 h2 hn hcv
  cases hc : fv vs n with
  | none =>
    rw [hc] at hl
    simp only [pf] at hl
    have HEl : Hid (filL vs n ci cv = vs) := by show _ = _; unfold filL; rw [hc]; rfl
    clear hc
    go_enter Try.func22, Try.ntmps22
    go_upto_region 1 with fail
    rw [← hW]
    clear hW
    go_wp2
    go_ret
    exact ⟨rfl, Kp.ofBelow HB.out, by rw [HEl.out]; exact ⟨V, D, M, L, es, R, HS.out, H2.out⟩⟩
  | some v =>
    rw [hc] at hl
    obtain ⟨hv, hvn⟩ := fv_some hc
    have HV : Hid (v ∈ vs ∧ v.n = n) := ⟨hv, hvn⟩
    have c5 : W.cell? ⟨v.b, 5, none⟩ = some (.bool v.fl) := (HS.out.vcells hv).2.2.2.2.2.1
    simp only [pf] at hl
    have HFv : Hid (fv vs n = some v) := hc
    clear hc hv hvn
    cases hfl : v.fl with
    | true =>
      rw [hfl] at c5
      have HE : Hid (filE (some v) = 95) := by show filE (some v) = 95; simp [filE, hfl]
      have HEl : Hid (filL vs n ci cv = vs) := by show _ = _; unfold filL; rw [HFv.out, HE.out]; rfl
      clear hfl
      go_enter Try.func22, Try.ntmps22
      go_upto_region 1 with fail
      rw [← hW]
      clear hW
      go_wp2
      go_ret
      exact ⟨by rw [HE.out]; rfl, Kp.ofBelow HB.out, by rw [HEl.out]; exact ⟨V, D, M, L, es, R, HS.out, H2.out⟩⟩
    | false =>
      rw [hfl] at c5
      have HE : Hid (filE (some v) = 0) := by show filE (some v) = 0; simp [filE, hfl]
      have HEl : Hid (filL vs n ci cv = vs.map (updF n ci cv)) := by show _ = _; unfold filL; rw [HFv.out, HE.out]; rfl
      have HF := vfill_any W v.b v ci cv (HS.out.vb v HV.out.1)
      clear hfl
      go_enter Try.func22, Try.ntmps22
      go_upto_region 1 with fail
      rw [← hW]
      clear hW
      go_wp2_with fail
      refine HF.mono ?_
      clear HF
      rintro e w2 ⟨rfl, hx, hfr⟩
      have HX : Hid (w2.heap[v.b]? = some (.cells (cellsV (fillV v ci cv)) 82 (0, 0)) ∧ Fr (fun k => k = v.b) W w2) := ⟨hx, hfr⟩
      clear hx hfr hl x0 x1 c3 c5
      go_wp2
      go_ret
      have hbn := HS.out.bn
      have huq : ∀ u ∈ vs, u.b = v.b → u = v := fun u hu e => by
        obtain ⟨A, C, hA⟩ := List.append_of_mem hu
        rw [hA] at hbn
        have hs := nodup_split hbn
        have hvm := HV.out.1
        rw [hA] at hvm
        rcases List.mem_append.1 hvm with m | m
        · exact absurd e.symm (hs.1 v m)
        · rcases List.mem_cons.1 m with m | m
          · exact m.symm
          · exact absurd e.symm (hs.2 v m)
      have hnq : ∀ u ∈ vs, u.n = n → u = v := fun u hu e => by
        have a := fv_of HS.out.nums.2 hu
        have b := fv_of HS.out.nums.2 HV.out.1
        rw [e] at a
        rw [HV.out.2, a] at b
        exact Option.some.inj b
      refine ⟨by rw [HE.out]; rfl, ?_, ?_⟩
      · have hF2 := H2.out v.b (.inr (.inr (.inl ⟨v, HV.out.1, rfl⟩)))
        have hb := HB.out
        have hf := HX.out.2
        exact ⟨hf.os.trans hb.os, hf.tape.trans hb.tape, hf.output.trans hb.output, Nat.le_trans hb.size hf.size, fun k hk hF => (hf.block k (Nat.lt_of_lt_of_le hk hb.size) (fun e => by
          rcases hF with h3 | h3
          · have := hF2.1; omega
          · exact hF2.2 (e ▸ h3))).trans (hb.block k hk)⟩
      · rw [HEl.out]
        have hsa : SA w2 S V D M L P (hfn 35) cap last (vs.map (updF n ci cv)) es R := by
          refine SA.mapF (w := W) HS.out (updF_alk n ci cv) (fun u hu => ?_) (fun u hu => ?_) (fun k hlt hk => ?_)
          · have := HS.out.inn u hu
            unfold updF
            split
            · unfold fillV
              simp only
              split
              · exact HI.out.2
              · exact this.2.2.2
            · exact this.2.2.2
          · unfold updF
            by_cases e : u.n = n
            · rw [if_pos e, hnq u hu e]
              exact HX.out.1
            · rw [if_neg e]
              exact (HX.out.2.block u.b (blk_lt (HS.out.vb u hu)) (fun e2 => e (by rw [huq u hu e2]; exact HV.out.2))).trans (HS.out.vb u hu)
          · exact HX.out.2.block k hlt (fun e => hk v HV.out.1 e.symm)
        refine ⟨V, D, M, L, es, R, hsa, fun k hk => H2.out k ?_⟩
        rcases hk with h3 | h3 | ⟨u, hu, h3⟩ | h3
        · exact .inl h3
        · exact .inr (.inl h3)
        · obtain ⟨u', hu', rfl⟩ := List.mem_map.1 hu
          exact .inr (.inr (.inl ⟨u', hu', by rw [← h3]; exact ((updF_alk n ci cv).b u').symm⟩))
        · exact .inr (.inr (.inr h3))
end Go.Proofs.Ytfkijdlggdgfhaa
/-
  ROWS OF ELEMENTS OF MORE CELLS.
-/
namespace Go.Proofs.Ytfkijdlggdgfhaa
open Go.RowKit Go.Sort

/-- a kind of elements -/
structure El (TS TE : TypeId) (z : Value) (sz by_ : Nat) : Prop where
  u : Try.prog.underlying TS = some (.slice TE)
  i : (Try.prog.info? TE).map (fun i => (i.zero, i.size, i.bytes)) = some (some z, sz, by_)
  c : z.cells.size = sz
  p : 0 < sz
  b : by_ ≤ 80
/-- append to a row of the call's own -/
theorem run_append_E {TS TE : TypeId} {z : Value} {sz by_ : Nat} (E : El TS TE z sz by_) {w : World} (ty : TypeId) (base : Nat) (v : Value) (n : Nat) (xs : List Value) (hown : w.ownsRow base TE sz v n xs) (a : Addr) (m c : Nat) (news : List Value) (hl : news.length = m * sz) (hnews : ∀ j u, news[j]? = some u → w.cell? (a.add j) = some u) (h1 : ∀ u ∈ news, u.oneCell' = true) (hn : n + m ≤ 1000000000) (hbase : base ≤ w.heap.size) :
    ∃ v' w', (Builtin.append_ #[TS, TS] ty #[v, .slice (some a) m c]).run Try.prog w = .ok v' w' ∧ w'.ownsRow base TE sz v' (n + m) (xs ++ news) ∧ w.grownBy w' v.ownBlock ∧ (v'.ownBlock = v.ownBlock ∨ v'.ownBlock = some w.heap.size) := by
  obtain ⟨i0, hi, hz0, hz1, hz2⟩ := info_parts E.i
  have hb := E.b
  have hm : (n + m) * by_ ≤ 1000000000 * 80 := Nat.mul_le_mul hn hb
  obtain ⟨v', w', hr, h2, h3, _, h5⟩ := run_append_own_at (P := Try.prog) (w := w) base TS ty TE i0 z sz by_ E.u hi hz0 hz1 hz2 E.c E.p v n xs hown a m c news hl hnews h1 (by unfold maxLen; omega) (by omega) hbase
  exact ⟨v', w', hr, h2, h3, h5⟩
theorem ownsRow_mono {w : World} {base base' : Nat} {T : TypeId} {sz : Nat} {v : Value} {n : Nat} {xs : List Value} (h : w.ownsRow base T sz v n xs) (hb : base' ≤ base) : w.ownsRow base' T sz v n xs := by
  obtain ⟨hl, h⟩ := h
  refine ⟨hl, ?_⟩
  rcases h with h | ⟨g, cap, cur, e, hg, r⟩
  · exact .inl h
  · exact .inr ⟨g, cap, cur, e, by omega, r⟩
theorem ownsRow_same {w w1 : World} {base : Nat} {T : TypeId} {sz : Nat} {v : Value} {n : Nat} {xs : List Value} (h : w.ownsRow base T sz v n xs) (hs : ∀ g, v.ownBlock = some g → w1.heap[g]? = w.heap[g]?) : w1.ownsRow base T sz v n xs := by
  obtain ⟨hl, h⟩ := h
  refine ⟨hl, ?_⟩
  rcases h with h | ⟨g, cap, cur, rfl, hg, hh, r⟩
  · exact .inl h
  · exact .inr ⟨g, cap, cur, rfl, hg, (hs g rfl).trans hh, r⟩
theorem new_cells {W : World} {T : TypeId} {news : List Value} : ∀ j u, news[j]? = some u → (W.alloc (.cells news.toArray T)).cell? ((⟨W.heap.size, 0, none⟩ : Addr).add j) = some u := fun j u hu => by
  rw [addr_add, Nat.zero_add]
  have hb : (W.alloc (.cells news.toArray T)).heap[W.heap.size]? = some (.cells news.toArray T (0, 0)) := heap_alloc_new _ _ rfl
  simp only [World.cell?, hb]
  simpa using hu

/-- append to a row of the call's own: in its room, or to a new row -/
theorem run_append_C {TS TE : TypeId} {z : Value} {sz by_ : Nat} (E : El TS TE z sz by_) {w : World} (ty : TypeId) (base : Nat) (v : Value) (n : Nat) (xs : List Value) (hown : w.ownsRow base TE sz v n xs) (a : Addr) (m c : Nat) (news : List Value) (hl : news.length = m * sz) (hnews : ∀ j u, news[j]? = some u → w.cell? (a.add j) = some u) (h1 : ∀ u ∈ news, u.oneCell' = true) (hn : n + m ≤ 1000000000) (hbase : base ≤ w.heap.size) :
    ∃ v' w', (Builtin.append_ #[TS, TS] ty #[v, .slice (some a) m c]).run Try.prog w = .ok v' w' ∧ w'.ownsRow base TE sz v' (n + m) (xs ++ news) ∧
      ((∃ g cap, v = .slice (some ⟨g, 0, none⟩) n cap ∧ v' = .slice (some ⟨g, 0, none⟩) (n + m) cap ∧ w.grownBy w' (some g)) ∨ (w'.ownsRow w.heap.size TE sz v' (n + m) (xs ++ news) ∧ w.grownBy w' none)) := by
  have hown0 := hown
  obtain ⟨i0, hi', hz0, hz1, hz2⟩ := info_parts E.i
  have hb := E.b
  have hm : (n + m) * by_ ≤ 1000000000 * 80 := Nat.mul_le_mul hn hb
  rcases hown with ⟨hlx, ⟨rfl, rfl⟩ | ⟨g, cap, cur, rfl, hbg, hh, hnc, hcm, hcs, ht⟩⟩
  · have h0 : xs = [] := List.eq_nil_of_length_eq_zero (by rw [hlx, Nat.zero_mul])
    subst h0
    obtain ⟨v', w', hr, h2, h3, _⟩ := run_append_E E (w := w) ty w.heap.size (.slice none 0 0) 0 [] (World.ownsRow_nil _ _ _ _) a m c news hl hnews h1 hn (Nat.le_refl _)
    exact ⟨v', w', hr, ownsRow_mono h2 hbase, .inr ⟨h2, h3⟩⟩
  · by_cases hroom : n + m ≤ cap
    · obtain ⟨w', hr, h2, h3⟩ := run_append_own_spare (P := Try.prog) (w := w) base TS ty TE i0 sz E.u hi' hz1 g n cap xs hown0 a m c news hl hnews h1 hroom
      exact ⟨_, w', hr, h2, .inl ⟨g, cap, rfl, rfl, h3⟩⟩
    · have hfit : Builtin.nextslicecap (n + m) cap * i0.bytes ≤ 281474976710656 := growslice_fits (by omega) (by rw [hz2]; omega)
      have hr := run_append_grow (P := Try.prog) w TS ty TE i0 z E.u hi' hz0 ⟨g, 0, none⟩ n cap xs (by rw [hz1]; exact hlx) (World.ownsRow.cells hown0 rfl) a m c news (by rw [hz1]; exact hl) hnews (by omega) (by omega) hfit
      have hlen : (xs ++ news).length = (n + m) * sz := by rw [List.length_append, hl, hlx, Nat.add_mul]
      have hO : (w.drew.alloc (.cells (xs.toArray ++ news.toArray ++ Builtin.zeroCells z.cells (grownCap w (n + m) cap TE - (n + m))) TE)).ownsRow w.heap.size TE sz (.slice (some ⟨w.heap.size, 0, none⟩) (n + m) (grownCap w (n + m) cap TE)) (n + m) (xs ++ news) := by
        refine ⟨hlen, .inr ⟨w.heap.size, _, _, rfl, Nat.le_refl _, Go.heap_alloc_new w.drew _, grownCap_ge w (n + m) cap TE, grownCap_le_maxLen w (n + m) cap TE (by unfold maxLen; omega), ?_, ?_⟩⟩
        · have hge := grownCap_ge w (n + m) cap TE
          simp only [Array.size_append, List.size_toArray, size_zeroCells, E.c, hl, hlx]
          generalize grownCap w (n + m) cap TE = G at *
          rw [← Nat.add_mul, ← Nat.add_mul, show n + m + (G - (n + m)) = G by omega]
        · simp only [Array.toList_append, List.append_assoc]
          rw [← List.append_assoc, ← hlen]
          exact List.take_left
      exact ⟨_, _, hr, ownsRow_mono hO hbase, .inr ⟨hO, ⟨rfl, rfl, rfl, by simp, fun k hk _ => Go.heap_alloc_old w.drew _ hk⟩⟩⟩
theorem step_app {w : World} {ops : Array Oper} {o : Oper} {a : Act} {K' : Act → World → Prop} {Q : Exit → Act → World → Prop} {E : Prop} (hgd : o.guard = none) (s x : Operand) (TS : TypeId)
    (ho : o.op = .call { callee := .builtin .append, args := #[s, x], argTypes := #[TS, TS] }) (v u : Value) (hs : a.eval s = v) (hx : a.eval x = u) {post : Value → World → Prop}
    (hr : ∀ ty, ∃ v' w', (Builtin.append_ #[TS, TS] ty #[v, u]).run Try.prog w = .ok v' w' ∧ post v' w') (h : ∀ v' w', post v' w' → K' (a.put o.dst v') w') :
    if Region.wanted o (yielded ops a.tmps) = true then Oper.wp Try.prog o a w K' Q else E := by
  have hw : Region.wanted o (yielded ops a.tmps) = true := by simp [Region.wanted, hgd]
  rw [if_pos hw]
  obtain ⟨v', w', hr, h2⟩ := hr o.type
  unfold Oper.wp execOp
  simp only [ho, resolve, invoke, builtin, Sem.run_bind, Sem.run_pure, Result.andThen_ok, List.map_toArray, List.map_cons, List.map_nil, hs, hx, hr]
  exact h v' w' h2
end Go.Proofs.Ytfkijdlggdgfhaa
/-
  WHAT A STATEMENT KNOWS OF THE VERSIONS (layer 9): its list, its world.
-/
namespace Go.Proofs.Ytfkijdlggdgfhaa
open Go.RowKit Go.Sort

/-- the statement's own record of a version -/
def ldc (v : Vr) : List Value := [.int .i64 v.n, .int .i64 v.k.1, .int .i64 v.k.2, .int .i64 v.ba, .int .i64 v.ix, .bool v.fl, .bool v.ci, .int .i64 v.cv]
theorem ldc_len (v : Vr) : (ldc v).length = 8 := rfl
def lds (ws : List Vr) : List Value := ws.flatMap ldc
theorem lds_len : ∀ ws : List Vr, (lds ws).length = ws.length * 8
  | [] => rfl
  | v :: ws => by have := lds_len ws; simp only [lds, List.flatMap_cons, List.length_append, ldc_len, List.length_cons] at *; omega
theorem lds_app (A C : List Vr) : lds (A ++ C) = lds A ++ lds C := by simp [lds]
theorem lds_one (v : Vr) : lds [v] = ldc v := by simp [lds]
theorem lds_cells (ws : List Vr) : ∀ u ∈ lds ws, u.oneCell' = true := by
  intro u hu
  obtain ⟨v, _, hv⟩ := List.mem_flatMap.1 hu
  simp [ldc] at hv
  rcases hv with rfl | rfl | rfl | rfl | rfl | rfl | rfl | rfl <;> rfl
theorem infoLd : (Try.prog.info? 50).map (fun i => (i.zero, i.size, i.bytes)) = some (some (.agg #[.int .i64 0, .int .i64 0, .int .i64 0, .int .i64 0, .int .i64 0, .bool false, .bool false, .int .i64 0]), 8, 64) := by kernel_rfl
theorem elL : El 34 50 (.agg #[.int .i64 0, .int .i64 0, .int .i64 0, .int .i64 0, .int .i64 0, .bool false, .bool false, .int .i64 0]) 8 64 := ⟨Try.underlying34, infoLd, rfl, by decide, by decide⟩
def OwnL (w : World) (base : Nat) (v : Value) (ws : List Vr) : Prop := w.ownsRow base 50 8 v ws.length (lds ws)
theorem OwnL.shape {w : World} {base : Nat} {v : Value} {ws : List Vr} (h : OwnL w base v ws) :
    (v = .slice none 0 0 ∧ ws = []) ∨ ∃ g cap cur, v = .slice (some ⟨g, 0, none⟩) ws.length cap ∧ base ≤ g ∧ w.heap[g]? = some (.cells cur 50 (0, 0)) ∧ ws.length ≤ cap ∧ ∀ j u, (lds ws)[j]? = some u → w.cell? ⟨g, j, none⟩ = some u := by
  have h0 := h
  obtain ⟨hl, h⟩ := h
  rcases h with ⟨rfl, h1⟩ | ⟨g, cap, cur, rfl, hb, hg, hn, hm, hs, ht⟩
  · exact .inl ⟨rfl, List.eq_nil_of_length_eq_zero h1⟩
  · refine .inr ⟨g, cap, cur, rfl, hb, hg, hn, fun j u hu => ?_⟩
    have := World.ownsRow.cells h0 rfl j u hu
    rw [addr_add, Nat.zero_add] at this
    exact this
theorem OwnL.lt {w : World} {base : Nat} {v : Value} {ws : List Vr} (h : OwnL w base v ws) : ∀ k, v.ownBlock = some k → base ≤ k ∧ k < w.heap.size := World.ownsRow.lt h
theorem OwnL.same {w w' : World} {base : Nat} {v : Value} {ws : List Vr} (h : OwnL w base v ws) (hs : ∀ g, v.ownBlock = some g → w'.heap[g]? = w.heap[g]?) : OwnL w' base v ws := ownsRow_same h hs
/-- the statement's world in block B: its store has the versions vs, its own list ws -/
structure WS (n0 : Nat) (F : Nat → Prop) (w : World) (B S P : Nat) (av : Value) (vs ws : List Vr) (lb last batch : Int) : Prop where
  bx : w.heap[B]? = some (.cells #[ptr S, av, .int .i64 lb, .int .i64 batch] 36 (0, 0))
  st : ST n0 (fun k => F k ∨ k = B ∨ av.ownBlock = some k) w S P 65536 last vs
  al : OwnL w n0 av ws
  Bn : n0 ≤ B
  FB : ¬ F B
  Fa : ∀ k, av.ownBlock = some k → ¬ F k
  Fl : ∀ k, F k → k < w.heap.size
  n0l : n0 ≤ w.heap.size
section
variable {n0 : Nat} {F : Nat → Prop} {w w' : World} {B S P : Nat} {av : Value} {vs ws : List Vr} {lb last batch : Int}
theorem WS.lt (h : WS n0 F w B S P av vs ws lb last batch) {k : Nat} (hk : F k ∨ k = B ∨ av.ownBlock = some k) : k < w.heap.size := by
  rcases hk with h1 | rfl | h1
  · exact h.Fl k h1
  · exact blk_lt h.bx
  · exact (h.al.lt k h1).2
theorem WS.Ba (h : WS n0 F w B S P av vs ws lb last batch) : av.ownBlock ≠ some B := fun e => by
  rcases h.al.shape with ⟨rfl, _⟩ | ⟨g, cap, cur, rfl, _, hg, _⟩
  · cases e
  · have e' : g = B := by simpa [Value.ownBlock] using e
    have h1 := h.bx
    rw [← e', hg] at h1
    exact ty_ne h1 (by decide)
theorem WS.cells (h : WS n0 F w B S P av vs ws lb last batch) : w.cell? ⟨B, 0, none⟩ = some (ptr S) ∧ w.cell? ⟨B, 1, none⟩ = some av ∧ w.cell? ⟨B, 2, none⟩ = some (.int .i64 lb) ∧ w.cell? ⟨B, 3, none⟩ = some (.int .i64 batch) := by
  refine ⟨?_, ?_, ?_, ?_⟩ <;> (rw [World.cell?, h.bx]; rfl)
theorem WS.frozen (h : WS n0 F w B S P av vs ws lb last batch) (i : Nat) : w.frozen? ⟨B, i, none⟩ = false := frozen_of_row _ _ _ _ _ h.bx
/-- the store has turned, and nothing else -/
theorem WS.kp {vs' : List Vr} {last' : Int} (h : WS n0 F w B S P av vs ws lb last batch) (hk : Kp n0 (fun k => F k ∨ k = B ∨ av.ownBlock = some k) w w') (hst : ST n0 (fun k => F k ∨ k = B ∨ av.ownBlock = some k) w' S P 65536 last' vs') : WS n0 F w' B S P av vs' ws lb last' batch :=
  ⟨(hk.block B (blk_lt h.bx) (.inr (.inr (.inl rfl)))).trans h.bx, hst, h.al.same (fun g hg => hk.block g (h.al.lt g hg).2 (.inr (.inr (.inr hg)))), h.Bn, h.FB, h.Fa, fun k hF => Nat.lt_of_lt_of_le (h.Fl k hF) hk.size, Nat.le_trans h.n0l hk.size⟩
theorem WS.kept (h : WS n0 F w B S P av vs ws lb last batch) (hb : Below w.heap.size w w') : WS n0 F w' B S P av vs ws lb last batch := h.kp (Kp.ofBelow hb) (h.st.kept hb)
/-- where only blocks of F turn, or new ones come -/
theorem WS.off (h : WS n0 F w B S P av vs ws lb last batch) (hz : w.heap.size ≤ w'.heap.size) (hs : ∀ k, k < w.heap.size → ¬ F k → w'.heap[k]? = w.heap[k]?) : WS n0 F w' B S P av vs ws lb last batch :=
  ⟨(hs B (blk_lt h.bx) h.FB).trans h.bx, h.st.off (fun k hk hn => hs k hk (fun e => hn (.inl e))), h.al.same (fun g hg => hs g (h.al.lt g hg).2 (h.Fa g hg)), h.Bn, h.FB, h.Fa, fun k hF => Nat.lt_of_lt_of_le (h.Fl k hF) hz, Nat.le_trans h.n0l hz⟩
/-- a box more -/
theorem WS.box (h : WS n0 F w B S P av vs ws lb last batch) (hb : Below w.heap.size w w') {X : Nat} (hX : w.heap.size ≤ X) (hX2 : X < w'.heap.size) : WS n0 (fun k => F k ∨ k = X) w' B S P av vs ws lb last batch := by
  have h' := h.kept hb
  refine ⟨h'.bx, (h.st.frame (G := fun k => (F k ∨ k = X) ∨ k = B ∨ av.ownBlock = some k) (fun k hk => ?_)).kept hb, h'.al, h.Bn, fun e => ?_, fun k hk e => ?_, fun k hk => ?_, h'.n0l⟩
  · rcases hk with (h1 | h1) | h1
    · exact .inl (.inl h1)
    · exact .inr (by omega)
    · exact .inl (.inr h1)
  · rcases e with e | e
    · exact h.FB e
    · have := blk_lt h.bx; omega
  · rcases e with e | e
    · exact h.Fa k hk e
    · have := (h.al.lt k hk).2; omega
  · rcases hk with h1 | h1
    · exact h'.Fl k h1
    · omega
theorem WS.unbox {G : Nat → Prop} (h : WS n0 F w B S P av vs ws lb last batch) (hG : ∀ k, G k → F k) : WS n0 G w B S P av vs ws lb last batch :=
  ⟨h.bx, h.st.frame (fun k hk => .inl (hk.imp (hG k) id)), h.al, h.Bn, fun e => h.FB (hG _ e), fun k hk e => h.Fa k hk (hG k e), fun k hk => h.Fl k (hG k hk), h.n0l⟩
/-- another batch, another last one in the box -/
theorem WS.setBa (h : WS n0 F w B S P av vs ws lb last batch) (b' : Int) : WS n0 F (w.setCell ⟨B, 3, none⟩ (.int .i64 b')) B S P av vs ws lb last b' := by
  have hs : ∀ k, k ≠ B → (w.setCell ⟨B, 3, none⟩ (.int .i64 b')).heap[k]? = w.heap[k]? := fun k hk => heap_setCell_other _ _ _ _ hk
  exact ⟨blk_set _ h.bx, h.st.off (fun k _ hn => hs k (fun e => hn (.inr (.inl e)))), h.al.same (fun g hg => hs g (fun e => h.Ba (by rw [← e]; exact hg))), h.Bn, h.FB, h.Fa, fun k hF => by simpa using h.Fl k hF, by simpa using h.n0l⟩
theorem WS.setLb (h : WS n0 F w B S P av vs ws lb last batch) (l' : Int) : WS n0 F (w.setCell ⟨B, 2, none⟩ (.int .i64 l')) B S P av vs ws l' last batch := by
  have hs : ∀ k, k ≠ B → (w.setCell ⟨B, 2, none⟩ (.int .i64 l')).heap[k]? = w.heap[k]? := fun k hk => heap_setCell_other _ _ _ _ hk
  exact ⟨blk_set _ h.bx, h.st.off (fun k _ hn => hs k (fun e => hn (.inr (.inl e)))), h.al.same (fun g hg => hs g (fun e => h.Ba (by rw [← e]; exact hg))), h.Bn, h.FB, h.Fa, fun k hF => by simpa using h.Fl k hF, by simpa using h.n0l⟩
end
/-- a list of its own that came behind u -/
structure DR (u U : World) (v : Value) (zs : List Vr) : Prop where
  bel : Below u.heap.size u U
  own : OwnL U u.heap.size v zs
theorem DR.made (u : World) (q : Nat) : DR u ((u.drewN q).alloc (.cells #[] 50)) (.slice (some ⟨u.heap.size, 0, none⟩) 0 0) [] := by
  refine ⟨(drew_below u q).alloc (Nat.le_refl _) _, rfl, .inr ⟨u.heap.size, 0, #[], rfl, Nat.le_refl _, heap_alloc_new (w := u.drewN q) _ _ rfl, Nat.le_refl _, by unfold maxLen; omega, rfl, rfl⟩⟩
theorem DR.app {u U : World} {v : Value} {zs ys : List Vr} (h : DR u U v zs) (a : Addr) (c : Nat) (hsrc : ∀ j x, (lds ys)[j]? = some x → u.cell? (a.add j) = some x) (hn : zs.length + ys.length ≤ 1000000000) (ty : TypeId) :
    ∃ v' U', (Builtin.append_ #[34, 34] ty #[v, .slice (some a) ys.length c]).run Try.prog U = .ok v' U' ∧ DR u U' v' (zs ++ ys) := by
  obtain ⟨v', U', hr, h2, h3, _⟩ := run_append_E elL (w := U) ty u.heap.size v zs.length (lds zs) h.own a ys.length c (lds ys) (lds_len ys) (fun j x hx => by
    have := hsrc j x hx
    rw [h.bel.cell (World.block_lt_of_cell? _ _ this)]
    exact this) (lds_cells ys) hn h.bel.size
  refine ⟨v', U', hr, h.bel.trans (grown_below h3 (fun k e => (h.own.lt k e).1) h.bel.size), ?_⟩
  unfold OwnL
  rw [List.length_append, lds_app]
  exact h2
theorem WS.newAll {n0 : Nat} {F : Nat → Prop} {u U : World} {B S P : Nat} {av v : Value} {vs ws ws' : List Vr} {lb last batch : Int} (h : WS n0 F u B S P av vs ws lb last batch) (hd : DR u U v ws') : WS n0 F (U.setCell ⟨B, 1, none⟩ v) B S P v vs ws' lb last batch := by
  have h1 := h.kept hd.bel
  have hvb : ∀ k, v.ownBlock = some k → u.heap.size ≤ k ∧ k < U.heap.size := hd.own.lt
  have hBl := blk_lt h.bx
  have hs : ∀ k, k ≠ B → (U.setCell ⟨B, 1, none⟩ v).heap[k]? = U.heap[k]? := fun k hk => heap_setCell_other _ _ _ _ hk
  refine ⟨blk_set _ h1.bx, ?_, ?_, h.Bn, h.FB, fun k hk e => ?_, fun k hF => by simpa using h1.Fl k hF, by simpa using h1.n0l⟩
  · have h2 := (h.st.frame (G := fun k => F k ∨ k = B ∨ v.ownBlock = some k) (fun k hk => by
      rcases hk with h3 | h3 | h3
      · exact .inl (.inl h3)
      · exact .inl (.inr (.inl h3))
      · exact .inr (hvb k h3).1)).kept hd.bel
    exact h2.off (fun k _ hn => hs k (fun e => hn (.inr (.inl e))))
  · have h2 : OwnL U n0 v ws' := ownsRow_mono hd.own h.n0l
    exact h2.same (fun g hg => hs g (fun e => by have := (hvb g hg).1; omega))
  · have := h.Fl k e
    have := (hvb k hk).1
    omega
end Go.Proofs.Ytfkijdlggdgfhaa
