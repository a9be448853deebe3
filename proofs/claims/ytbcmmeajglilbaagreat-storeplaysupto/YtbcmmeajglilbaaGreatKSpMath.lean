import Derived.Test.YtbcmmeajglilbaaGreatKSRemV
import Derived.Test.YtbcmmeajglilbaaGreatKSMath
import Derived.Test.YtbcmmeajglilbaaGreatKKMath
import Derived.Deep.DeepAppendRoom
import Derived.BigQuiet
/-
  StorePlays: THE LAST VERSION OF WHICH A TEST SAYS YES.
-/
namespace Go.Proofs.YtbcmmeajglilbaaGreat
open Go.RowKit Go.Sort

/-- which of the first n is the last one of which f says yes; -1: none -/
def lastI (f : Vr → Bool) (vs : List Vr) : Nat → Int
  | 0 => -1
  | i + 1 => if f vs[i]! then (i : Int) else lastI f vs i
theorem lastI_lt (f : Vr → Bool) (vs : List Vr) : ∀ n, -1 ≤ lastI f vs n ∧ lastI f vs n < (n : Int)
  | 0 => by simp [lastI]
  | n + 1 => by
    have := lastI_lt f vs n
    simp only [lastI]
    split <;> omega
theorem lastI_hit (f : Vr → Bool) (vs : List Vr) : ∀ n (i : Nat), lastI f vs n = (i : Int) → f vs[i]! = true
  | 0, i, h => by simp [lastI] at h
  | n + 1, i, h => by
    simp only [lastI] at h
    split at h
    · rename_i h1
      have : n = i := by omega
      subst this
      exact h1
    · exact lastI_hit f vs n i h
theorem take_snocV {vs : List Vr} {n : Nat} (h : n < vs.length) : vs.take (n + 1) = vs.take n ++ [vs[n]!] := by
  rw [List.take_succ_eq_append_getElem h, getElem!_pos vs n h]
theorem lastI_get (f : Vr → Bool) (vs : List Vr) : ∀ n, n ≤ vs.length → ((vs.take n).filter f).getLast? = if lastI f vs n < 0 then none else some vs[(lastI f vs n).toNat]!
  | 0, _ => by simp [lastI]
  | n + 1, h => by
    have ih := lastI_get f vs n (by omega)
    rw [take_snocV (by omega), List.filter_append]
    by_cases hc : f vs[n]! = true
    · have e : lastI f vs (n + 1) = (n : Int) := by unfold lastI; exact if_pos hc
      have e2 : [vs[n]!].filter f = [vs[n]!] := List.filter_cons_of_pos hc
      rw [e, e2, if_neg (by omega), List.getLast?_append]
      rfl
    · have e : lastI f vs (n + 1) = lastI f vs n := by rw [lastI]; exact if_neg hc
      have e2 : [vs[n]!].filter f = [] := List.filter_cons_of_neg hc
      rw [e, e2, List.append_nil]
      exact ih
/-- its number -/
def numI (vs : List Vr) (x : Int) : Int := if x < 0 then 0 else vs[x.toNat]!.n
def numO (o : Option Vr) : Int := match o with | none => 0 | some v => v.n
theorem numI_last (f : Vr → Bool) (vs : List Vr) : numI vs (lastI f vs vs.length) = numO (vs.filter f).getLast? := by
  have h := lastI_get f vs vs.length (Nat.le_refl _)
  rw [List.take_length] at h
  rw [h]
  unfold numI numO
  split <;> simp_all
/-- places of one key rise -/
def PLk (vs : List Vr) : Prop := ∀ k : K, (ofK k vs).Pairwise (fun a b => later b a)
theorem PLk.lt {vs : List Vr} (h : PLk vs) {i j : Nat} (hij : i < j) (hj : j < vs.length) (he : vs[i]!.k = vs[j]!.k) : later vs[j]! vs[i]! := by
  have h1 := h vs[j]!.k
  unfold ofK at h1
  rw [List.pairwise_filter] at h1
  have h2 := List.pairwise_iff_getElem.1 h1 i j (by omega) hj hij
  rw [getElem!_pos vs i (by omega), getElem!_pos vs j hj] at *
  exact h2 (by simpa using he) (by simp)
/-- the newest one -/
theorem num_newest (k : K) (vs : List Vr) : numI vs (lastI (fun v => decide (v.k = k)) vs vs.length) = newestN k vs := by
  rw [numI_last]; rfl
/-- the newest one that is not above a batch -/
theorem num_vis (k : K) (b : Int) (vs : List Vr) : numI vs (lastI (fun v => decide (v.k = k ∧ v.ba ≤ b)) vs vs.length) = visN (ofK k vs) b := by
  rw [numI_last]
  unfold visN ofK numO
  rw [List.filter_filter]
  congr 2
  congr 1
  funext v
  rw [Bool.decide_and, Bool.and_comm]
/-- the one ahead of one -/
theorem num_ahead {vs A C : List Vr} {v : Vr} (hp : PLk vs) (h : ofK v.k vs = A ++ v :: C) : vs.filter (fun x => decide (x.k = v.k ∧ later v x)) = A := by
  have e : vs.filter (fun x => decide (x.k = v.k ∧ later v x)) = (ofK v.k vs).filter (fun x => decide (later v x)) := by
    unfold ofK
    rw [List.filter_filter]
    congr 1
    funext x
    rw [Bool.decide_and, Bool.and_comm]
  have h1 := hp v.k
  rw [e, h]
  rw [h] at h1
  obtain ⟨_, h2, h3⟩ := List.pairwise_append.1 h1
  have h4 := (List.pairwise_cons.1 h2).1
  have irr : ∀ x y : Vr, later x y → ¬ later y x := fun x y h5 h6 => by unfold later at h5 h6; omega
  have irs : ∀ x : Vr, ¬ later x x := fun x h5 => by unfold later at h5; omega
  rw [List.filter_append, List.filter_cons, List.filter_eq_self.2 (fun x hx => by simpa using h3 x hx v (by simp)), if_neg (by simpa using irs v), List.filter_eq_nil_iff.2 (fun x hx => by simpa using irr _ _ (h4 x hx)), List.append_nil]
/-- where a number stands -/
def AtP (vs : List Vr) (n x : Int) : Prop := (x = -1 ∧ fv vs n = none) ∨ ∃ (i : Nat), i < vs.length ∧ x = (i : Int) ∧ vs[i]!.n = n ∧ fv vs n = some vs[i]!
theorem AtP.hit {vs : List Vr} (hn : (vs.map Vr.n).Nodup) {n : Int} {i : Nat} (hi : i < vs.length) (h : vs[i]!.n = n) : AtP vs n (i : Int) := by
  refine .inr ⟨i, hi, rfl, h, ?_⟩
  rw [← h]
  exact fv_of hn (by rw [getElem!_pos vs i hi]; exact List.getElem_mem hi)
theorem AtP.miss {vs : List Vr} {n : Int} (h : ∀ i, i < vs.length → vs[i]!.n ≠ n) : AtP vs n (-1) := by
  refine .inl ⟨rfl, ?_⟩
  unfold fv
  rw [List.find?_eq_none]
  intro v hv
  obtain ⟨i, hi, rfl⟩ := List.getElem_of_mem hv
  have := h i hi
  rw [getElem!_pos vs i hi] at this
  simpa using this
end Go.Proofs.YtbcmmeajglilbaaGreat
/-
  '!=' OF KEYS; num.
-/
namespace Go.Proofs.YtbcmmeajglilbaaGreat
open Go.RowKit Go.Sort

theorem run_neKey (x1 x2 y1 y2 : Int) (w : World) : Sem.run Tryz.prog (binOp .neq 41 (.agg #[.int .i64 x1, .int .i64 x2]) (.agg #[.int .i64 y1, .int .i64 y2])) w = .ok (.bool (!decide ((x1, x2) = (y1, y2)))) w := by
  have u3 := Tryz.underlying3
  have a3 := Tryz.isAgg3
  have z3 := Tryz.sizeOf3
  have u2 := Tryz.underlying2
  have a2 := Tryz.isAgg2
  have z2 := Tryz.sizeOf2
  have hS : Tryz.prog.underlying 41 = some (.struct (Tryz.prog.fieldsOf 41)) := by kernel_rfl
  have hp : Tryz.prog.stoodInHeld 41 = false := by kernel_rfl
  rw [run_neq_struct, show (10000 : Nat) = 9999 + 1 from rfl, run_equalIn_agg w 9999 41 _ _ hS hp]
  simp only [Program.fieldsOf, Tryz.underlying41]
  go_simp
  by_cases h1 : x1 = y1 <;> by_cases h2 : x2 = y2 <;> simp [h1, h2]

end Go.Proofs.YtbcmmeajglilbaaGreat
/-
  Fill.
-/
namespace Go.Proofs.YtbcmmeajglilbaaGreat
open Go.RowKit Go.Sort

/-- versions with other cells -/
structure Alk (f : Vr → Vr) : Prop where
  b : ∀ v, (f v).b = v.b
  n : ∀ v, (f v).n = v.n
  k : ∀ v, (f v).k = v.k
  ba : ∀ v, (f v).ba = v.ba
  ix : ∀ v, (f v).ix = v.ix
theorem ofK_map {f : Vr → Vr} (hf : Alk f) (k : K) (vs : List Vr) : ofK k (vs.map f) = (ofK k vs).map f := by
  unfold ofK
  rw [List.filter_map]
  congr 1
  refine List.filter_congr fun x _ => ?_
  simp [hf.k]
theorem Alk.later {f : Vr → Vr} (hf : Alk f) (a b : Vr) : later (f a) (f b) ↔ later a b := by unfold Go.Proofs.YtbcmmeajglilbaaGreat.later; rw [hf.ba, hf.ba, hf.ix, hf.ix]
theorem SA.mapF {w W : World} {S V D M L P : Nat} {hf : Value} {cap last : Int} {vs : List Vr} {es : List En} {R : K → Nat × Nat × Nat} (h : SA w S V D M L P hf cap last vs es R) {f : Vr → Vr} (hfa : Alk f) (hcv : ∀ v ∈ vs, In64 (f v).cv)
    (hvb : ∀ v ∈ vs, W.heap[v.b]? = some (.cells (cellsV (f v)) 102 (0, 0))) (hs : ∀ k, k < w.heap.size → (∀ v ∈ vs, v.b ≠ k) → W.heap[k]? = w.heap[k]?) : SA W S V D M L P hf cap last (vs.map f) es R := by
  have hS : ∀ v ∈ vs, v.b ≠ S := fun v hv => (h.sv_ne.2 v hv).1
  have hV : ∀ v ∈ vs, v.b ≠ V := fun v hv => (h.sv_ne.2 v hv).2
  refine ⟨(hs S (blk_lt h.st) hS).trans h.st, ?_, fun v hv => ?_, h.da.same (fun k hk => hs k (h.da.lt hk) (h.dict_ne hk).2.2.1), fun e he => ?_, fun e he => ?_, fun e he => ?_, fun e he => ?_, fun v hv => ?_, h.cb, h.rn, ?_, fun v hv => ?_, ?_, fun k => ?_, fun v hv => ?_, h.VM, by rw [List.length_map]; exact h.lt, by rw [List.length_map]; exact h.el, h.cm, h.ph, fun v hv => by
    obtain ⟨u, hu, rfl⟩ := List.mem_map.1 hv
    rw [hfa.k]
    exact h.ik u hu⟩
  · obtain ⟨ms, c, h1, h2⟩ := h.vm
    refine ⟨ms, c, (hs V (blk_lt h1) hV).trans h1, ?_⟩
    rw [h2, List.map_map]
    refine List.map_congr_left fun v _ => ?_
    simp [hfa.n, hfa.b]
  · obtain ⟨u, hu, rfl⟩ := List.mem_map.1 hv
    rw [hfa.b]
    exact hvb u hu
  · rw [ofK_map hfa, List.length_map, hs _ (blk_lt (h.ch e he)) (h.oth_ne he).1.2.2]
    exact h.ch e he
  · obtain ⟨cur, k1, k2, k3⟩ := h.rw e he
    refine ⟨cur, (hs _ (blk_lt k1) (h.oth_ne he).2.1.2.2).trans k1, k2, fun j hj => ?_⟩
    have hj' : j < (ofK e.k vs).length := by rw [ofK_map hfa, List.length_map] at hj; exact hj
    rw [k3 j hj']
    congr 2
    have e1 : (ofK e.k (vs.map f))[j] = f (ofK e.k vs)[j] := by simp only [ofK_map hfa, List.getElem_map]
    rw [e1, hfa.b]
  · rw [ofK_map hfa, List.length_map]; exact h.rl e he
  · rw [ofK_map hfa]
    have := h.ne e he
    intro h0
    exact this (List.map_eq_nil_iff.1 h0)
  · obtain ⟨u, hu, rfl⟩ := List.mem_map.1 hv
    rw [hfa.k]
    exact h.all u hu
  · rw [List.pairwise_map]
    exact h.nn.imp (fun {a b} hab => by rw [hfa.n, hfa.n]; exact hab)
  · obtain ⟨u, hu, rfl⟩ := List.mem_map.1 hv
    rw [hfa.n]
    exact h.nl u hu
  · rw [List.map_map, show Vr.b ∘ f = Vr.b from funext hfa.b]
    exact h.bn
  · rw [ofK_map hfa, List.pairwise_map]
    exact (h.pl k).imp (fun {a b} hab => (hfa.later _ _).2 hab)
  · obtain ⟨u, hu, rfl⟩ := List.mem_map.1 hv
    have := h.inn u hu
    rw [hfa.k, hfa.ba, hfa.ix]
    exact ⟨this.1, this.2.1, this.2.2.1, hcv u hu⟩
/-- the version n is filled -/
def updF (n : Int) (ci : Bool) (cv : Int) (v : Vr) : Vr := if v.n = n then fillV v ci cv else v
theorem updF_alk (n : Int) (ci : Bool) (cv : Int) : Alk (updF n ci cv) := by
  refine ⟨fun v => ?_, fun v => ?_, fun v => ?_, fun v => ?_, fun v => ?_⟩ <;> (unfold updF; split <;> rfl)
/-- what Fill answers -/
def filE (o : Option Vr) : Int := match o with | none => 93 | some v => if v.fl then 95 else 0
/-- the versions behind Fill -/
def filL (vs : List Vr) (n : Int) (ci : Bool) (cv : Int) : List Vr := if filE (fv vs n) = 0 then vs.map (updF n ci cv) else vs
set_option maxRecDepth 100000 in
set_option maxHeartbeats 1000000 in
theorem fill_st (n0 : Nat) (F : Nat → Prop) (w : World) (S P : Nat) (cap last : Int) (vs : List Vr) (h : ST n0 F w S P cap last vs) (n : Int) (ci : Bool) (cv : Int) (hn : In64 n) (hcv : In64 cv) :
    Calls Tryz.prog 14 #[ptr S, .int .i64 n, .agg #[.bool ci, .int .i64 cv]] w fun e w' => e = .returned (.int .i64 (filE (fv vs n))) ∧ Kp n0 F w w' ∧ ST n0 F w' S P cap last (filL vs n ci cv) := by
  obtain ⟨V, D, M, L, es, R, h1, h2⟩ := h
  obtain ⟨W, hW⟩ : ∃ W, W = w.alloc (.cells #[.bool ci, .int .i64 cv] 43) := ⟨_, rfl⟩
  have HB : Hid (Below w.heap.size w W) := by
    show Below _ _ _
    rw [hW]
    exact (Below.refl _ _).alloc (Nat.le_refl _) _
  have HS : Hid (SA W S V D M L P (hfn 11) cap last vs es R) := h1.kept HB.out
  have H2 : Hid (∀ k, Fs S V D M L vs es R k → n0 ≤ k ∧ ¬ F k) := h2
  have x0 : W.cell? ⟨w.heap.size, 0, none⟩ = some (.bool ci) := by rw [World.cell?, hW, heap_alloc_new _ _ rfl]; rfl
  have x1 : W.cell? ⟨w.heap.size, 1, none⟩ = some (.int .i64 cv) := by rw [World.cell?, hW, heap_alloc_new _ _ rfl]; rfl
  have c3 := HS.out.cells.2.2.2.1
  have hl := HS.out.look hn
  have HI : Hid (In64 n ∧ In64 cv) := ⟨hn, hcv⟩
  clear h1 h2 hn hcv
  cases hc : fv vs n with
  | none =>
    rw [hc] at hl
    simp only [pf] at hl
    have HEl : Hid (filL vs n ci cv = vs) := by show _ = _; unfold filL; rw [hc]; rfl
    clear hc
    go_enter Tryz.func14, Tryz.ntmps14
    go_upto_region 1 with fail
    rw [← hW]
    clear hW
    go_wp2
    go_ret
    exact ⟨rfl, Kp.ofBelow HB.out, by rw [HEl.out]; exact ⟨V, D, M, L, es, R, HS.out, H2.out⟩⟩
  | some v =>
    rw [hc] at hl
    obtain ⟨hv, hvn⟩ := fv_some hc
    have HV : Hid (v ∈ vs ∧ v.n = n) := ⟨hv, hvn⟩
    have c5 : W.cell? ⟨v.b, 5, none⟩ = some (.bool v.fl) := (HS.out.vcells hv).2.2.2.2.2.1
    simp only [pf] at hl
    have HFv : Hid (fv vs n = some v) := hc
    clear hc hv hvn
    cases hfl : v.fl with
    | true =>
      rw [hfl] at c5
      have HE : Hid (filE (some v) = 95) := by show filE (some v) = 95; simp [filE, hfl]
      have HEl : Hid (filL vs n ci cv = vs) := by show _ = _; unfold filL; rw [HFv.out, HE.out]; rfl
      clear hfl
      go_enter Tryz.func14, Tryz.ntmps14
      go_upto_region 1 with fail
      rw [← hW]
      clear hW
      go_wp2
      go_ret
      exact ⟨by rw [HE.out]; rfl, Kp.ofBelow HB.out, by rw [HEl.out]; exact ⟨V, D, M, L, es, R, HS.out, H2.out⟩⟩
    | false =>
      rw [hfl] at c5
      have HE : Hid (filE (some v) = 0) := by show filE (some v) = 0; simp [filE, hfl]
      have HEl : Hid (filL vs n ci cv = vs.map (updF n ci cv)) := by show _ = _; unfold filL; rw [HFv.out, HE.out]; rfl
      have HF := vfill_any W v.b v ci cv (HS.out.vb v HV.out.1)
      clear hfl
      go_enter Tryz.func14, Tryz.ntmps14
      go_upto_region 1 with fail
      rw [← hW]
      clear hW
      go_wp2_with fail
      refine HF.mono ?_
      clear HF
      rintro e w2 ⟨rfl, hx, hfr⟩
      have HX : Hid (w2.heap[v.b]? = some (.cells (cellsV (fillV v ci cv)) 102 (0, 0)) ∧ Fr (fun k => k = v.b) W w2) := ⟨hx, hfr⟩
      clear hx hfr hl x0 x1 c3 c5
      go_wp2
      go_ret
      have hbn := HS.out.bn
      have huq : ∀ u ∈ vs, u.b = v.b → u = v := fun u hu e => by
        obtain ⟨A, C, hA⟩ := List.append_of_mem hu
        rw [hA] at hbn
        have hs := nodup_split hbn
        have hvm := HV.out.1
        rw [hA] at hvm
        rcases List.mem_append.1 hvm with m | m
        · exact absurd e.symm (hs.1 v m)
        · rcases List.mem_cons.1 m with m | m
          · exact m.symm
          · exact absurd e.symm (hs.2 v m)
      have hnq : ∀ u ∈ vs, u.n = n → u = v := fun u hu e => by
        have a := fv_of HS.out.nums.2 hu
        have b := fv_of HS.out.nums.2 HV.out.1
        rw [e] at a
        rw [HV.out.2, a] at b
        exact Option.some.inj b
      refine ⟨by rw [HE.out]; rfl, ?_, ?_⟩
      · have hF2 := H2.out v.b (.inr (.inr (.inl ⟨v, HV.out.1, rfl⟩)))
        have hb := HB.out
        have hf := HX.out.2
        exact ⟨hf.os.trans hb.os, hf.tape.trans hb.tape, hf.output.trans hb.output, Nat.le_trans hb.size hf.size, fun k hk hF => (hf.block k (Nat.lt_of_lt_of_le hk hb.size) (fun e => by
          rcases hF with h3 | h3
          · have := hF2.1; omega
          · exact hF2.2 (e ▸ h3))).trans (hb.block k hk)⟩
      · rw [HEl.out]
        have hsa : SA w2 S V D M L P (hfn 11) cap last (vs.map (updF n ci cv)) es R := by
          refine SA.mapF (w := W) HS.out (updF_alk n ci cv) (fun u hu => ?_) (fun u hu => ?_) (fun k hlt hk => ?_)
          · have := HS.out.inn u hu
            unfold updF
            split
            · unfold fillV
              simp only
              split
              · exact HI.out.2
              · exact this.2.2.2
            · exact this.2.2.2
          · unfold updF
            by_cases e : u.n = n
            · rw [if_pos e, hnq u hu e]
              exact HX.out.1
            · rw [if_neg e]
              exact (HX.out.2.block u.b (blk_lt (HS.out.vb u hu)) (fun e2 => e (by rw [huq u hu e2]; exact HV.out.2))).trans (HS.out.vb u hu)
          · exact HX.out.2.block k hlt (fun e => hk v HV.out.1 e.symm)
        refine ⟨V, D, M, L, es, R, hsa, fun k hk => H2.out k ?_⟩
        rcases hk with h3 | h3 | ⟨u, hu, h3⟩ | h3
        · exact .inl h3
        · exact .inr (.inl h3)
        · obtain ⟨u', hu', rfl⟩ := List.mem_map.1 hu
          exact .inr (.inr (.inl ⟨u', hu', by rw [← h3]; exact ((updF_alk n ci cv).b u').symm⟩))
        · exact .inr (.inr (.inr h3))
end Go.Proofs.YtbcmmeajglilbaaGreat
/-
  ROWS OF ELEMENTS OF MORE CELLS.
-/
namespace Go.Proofs.YtbcmmeajglilbaaGreat
open Go.RowKit Go.Sort

/-- a kind of elements -/
structure El (TS TE : TypeId) (z : Value) (sz by_ : Nat) : Prop where
  u : Tryz.prog.underlying TS = some (.slice TE)
  i : (Tryz.prog.info? TE).map (fun i => (i.zero, i.size, i.bytes)) = some (some z, sz, by_)
  c : z.cells.size = sz
  p : 0 < sz
  b : by_ ≤ 80
/-- append to a row of the call's own -/
theorem run_append_E {TS TE : TypeId} {z : Value} {sz by_ : Nat} (E : El TS TE z sz by_) {w : World} (ty : TypeId) (base : Nat) (v : Value) (n : Nat) (xs : List Value) (hown : w.ownsRow base TE sz v n xs) (a : Addr) (m c : Nat) (news : List Value) (hl : news.length = m * sz) (hnews : ∀ j u, news[j]? = some u → w.cell? (a.add j) = some u) (h1 : ∀ u ∈ news, u.oneCell' = true) (hn : n + m ≤ 1000000000) (hbase : base ≤ w.heap.size) :
    ∃ v' w', (Builtin.append_ #[TS, TS] ty #[v, .slice (some a) m c]).run Tryz.prog w = .ok v' w' ∧ w'.ownsRow base TE sz v' (n + m) (xs ++ news) ∧ w.grownBy w' v.ownBlock ∧ (v'.ownBlock = v.ownBlock ∨ v'.ownBlock = some w.heap.size) := by
  obtain ⟨i0, hi, hz0, hz1, hz2⟩ := info_parts E.i
  have hb := E.b
  have hm : (n + m) * by_ ≤ 1000000000 * 80 := Nat.mul_le_mul hn hb
  obtain ⟨v', w', hr, h2, h3, _, h5⟩ := run_append_own_at (P := Tryz.prog) (w := w) base TS ty TE i0 z sz by_ E.u hi hz0 hz1 hz2 E.c E.p v n xs hown a m c news hl hnews h1 (by unfold maxLen; omega) (by omega) hbase
  exact ⟨v', w', hr, h2, h3, h5⟩
theorem ownsRow_mono {w : World} {base base' : Nat} {T : TypeId} {sz : Nat} {v : Value} {n : Nat} {xs : List Value} (h : w.ownsRow base T sz v n xs) (hb : base' ≤ base) : w.ownsRow base' T sz v n xs := by
  obtain ⟨hl, h⟩ := h
  refine ⟨hl, ?_⟩
  rcases h with h | ⟨g, cap, cur, e, hg, r⟩
  · exact .inl h
  · exact .inr ⟨g, cap, cur, e, by omega, r⟩
theorem ownsRow_same {w w1 : World} {base : Nat} {T : TypeId} {sz : Nat} {v : Value} {n : Nat} {xs : List Value} (h : w.ownsRow base T sz v n xs) (hs : ∀ g, v.ownBlock = some g → w1.heap[g]? = w.heap[g]?) : w1.ownsRow base T sz v n xs := by
  obtain ⟨hl, h⟩ := h
  refine ⟨hl, ?_⟩
  rcases h with h | ⟨g, cap, cur, rfl, hg, hh, r⟩
  · exact .inl h
  · exact .inr ⟨g, cap, cur, rfl, hg, (hs g rfl).trans hh, r⟩
theorem new_cells {W : World} {T : TypeId} {news : List Value} : ∀ j u, news[j]? = some u → (W.alloc (.cells news.toArray T)).cell? ((⟨W.heap.size, 0, none⟩ : Addr).add j) = some u := fun j u hu => by
  rw [addr_add, Nat.zero_add]
  have hb : (W.alloc (.cells news.toArray T)).heap[W.heap.size]? = some (.cells news.toArray T (0, 0)) := heap_alloc_new _ _ rfl
  simp only [World.cell?, hb]
  simpa using hu

/-- append to a row of the call's own: in its room, or to a new row -/
theorem run_append_C {TS TE : TypeId} {z : Value} {sz by_ : Nat} (E : El TS TE z sz by_) {w : World} (ty : TypeId) (base : Nat) (v : Value) (n : Nat) (xs : List Value) (hown : w.ownsRow base TE sz v n xs) (a : Addr) (m c : Nat) (news : List Value) (hl : news.length = m * sz) (hnews : ∀ j u, news[j]? = some u → w.cell? (a.add j) = some u) (h1 : ∀ u ∈ news, u.oneCell' = true) (hn : n + m ≤ 1000000000) (hbase : base ≤ w.heap.size) :
    ∃ v' w', (Builtin.append_ #[TS, TS] ty #[v, .slice (some a) m c]).run Tryz.prog w = .ok v' w' ∧ w'.ownsRow base TE sz v' (n + m) (xs ++ news) ∧
      ((∃ g cap, v = .slice (some ⟨g, 0, none⟩) n cap ∧ v' = .slice (some ⟨g, 0, none⟩) (n + m) cap ∧ w.grownBy w' (some g)) ∨ (w'.ownsRow w.heap.size TE sz v' (n + m) (xs ++ news) ∧ w.grownBy w' none)) := by
  have hown0 := hown
  obtain ⟨i0, hi', hz0, hz1, hz2⟩ := info_parts E.i
  have hb := E.b
  have hm : (n + m) * by_ ≤ 1000000000 * 80 := Nat.mul_le_mul hn hb
  rcases hown with ⟨hlx, ⟨rfl, rfl⟩ | ⟨g, cap, cur, rfl, hbg, hh, hnc, hcm, hcs, ht⟩⟩
  · have h0 : xs = [] := List.eq_nil_of_length_eq_zero (by rw [hlx, Nat.zero_mul])
    subst h0
    obtain ⟨v', w', hr, h2, h3, _⟩ := run_append_E E (w := w) ty w.heap.size (.slice none 0 0) 0 [] (World.ownsRow_nil _ _ _ _) a m c news hl hnews h1 hn (Nat.le_refl _)
    exact ⟨v', w', hr, ownsRow_mono h2 hbase, .inr ⟨h2, h3⟩⟩
  · by_cases hroom : n + m ≤ cap
    · obtain ⟨w', hr, h2, h3⟩ := run_append_own_spare (P := Tryz.prog) (w := w) base TS ty TE i0 sz E.u hi' hz1 g n cap xs hown0 a m c news hl hnews h1 hroom
      exact ⟨_, w', hr, h2, .inl ⟨g, cap, rfl, rfl, h3⟩⟩
    · have hfit : Builtin.nextslicecap (n + m) cap * i0.bytes ≤ 281474976710656 := growslice_fits (by omega) (by rw [hz2]; omega)
      have hr := run_append_grow (P := Tryz.prog) w TS ty TE i0 z E.u hi' hz0 ⟨g, 0, none⟩ n cap xs (by rw [hz1]; exact hlx) (World.ownsRow.cells hown0 rfl) a m c news (by rw [hz1]; exact hl) hnews (by omega) (by omega) hfit
      have hlen : (xs ++ news).length = (n + m) * sz := by rw [List.length_append, hl, hlx, Nat.add_mul]
      have hO : (w.drew.alloc (.cells (xs.toArray ++ news.toArray ++ Builtin.zeroCells z.cells (grownCap w (n + m) cap TE - (n + m))) TE)).ownsRow w.heap.size TE sz (.slice (some ⟨w.heap.size, 0, none⟩) (n + m) (grownCap w (n + m) cap TE)) (n + m) (xs ++ news) := by
        refine ⟨hlen, .inr ⟨w.heap.size, _, _, rfl, Nat.le_refl _, Go.heap_alloc_new w.drew _, grownCap_ge w (n + m) cap TE, grownCap_le_maxLen w (n + m) cap TE (by unfold maxLen; omega), ?_, ?_⟩⟩
        · have hge := grownCap_ge w (n + m) cap TE
          simp only [Array.size_append, List.size_toArray, size_zeroCells, E.c, hl, hlx]
          generalize grownCap w (n + m) cap TE = G at *
          rw [← Nat.add_mul, ← Nat.add_mul, show n + m + (G - (n + m)) = G by omega]
        · simp only [Array.toList_append, List.append_assoc]
          rw [← List.append_assoc, ← hlen]
          exact List.take_left
      exact ⟨_, _, hr, ownsRow_mono hO hbase, .inr ⟨hO, ⟨rfl, rfl, rfl, by simp, fun k hk _ => Go.heap_alloc_old w.drew _ hk⟩⟩⟩
theorem step_app {w : World} {ops : Array Oper} {o : Oper} {a : Act} {K' : Act → World → Prop} {Q : Exit → Act → World → Prop} {E : Prop} (hgd : o.guard = none) (s x : Operand) (TS : TypeId)
    (ho : o.op = .call { callee := .builtin .append, args := #[s, x], argTypes := #[TS, TS] }) (v u : Value) (hs : a.eval s = v) (hx : a.eval x = u) {post : Value → World → Prop}
    (hr : ∀ ty, ∃ v' w', (Builtin.append_ #[TS, TS] ty #[v, u]).run Tryz.prog w = .ok v' w' ∧ post v' w') (h : ∀ v' w', post v' w' → K' (a.put o.dst v') w') :
    if Region.wanted o (yielded ops a.tmps) = true then Oper.wp Tryz.prog o a w K' Q else E := by
  have hw : Region.wanted o (yielded ops a.tmps) = true := by simp [Region.wanted, hgd]
  rw [if_pos hw]
  obtain ⟨v', w', hr, h2⟩ := hr o.type
  unfold Oper.wp execOp
  simp only [ho, resolve, invoke, builtin, Sem.run_bind, Sem.run_pure, Result.andThen_ok, List.map_toArray, List.map_cons, List.map_nil, hs, hx, hr]
  exact h v' w' h2
end Go.Proofs.YtbcmmeajglilbaaGreat
/-
  StorePlays: THE DOCUMENT'S STORE IN MEMORY; later, top, at, number.
-/
namespace Go.Proofs.YtbcmmeajglilbaaGreat
open Go.RowKit Go.Sort

theorem hidS {p : Prop} (h : p) : Hid p := h
/-- a version's eight cells in the document's row -/
def entC (v : Vr) : List Value := [.int .i64 v.n, .int .i64 v.k.1, .int .i64 v.k.2, .int .i64 v.ba, .int .i64 v.ix, .bool v.fl, .bool v.ci, .int .i64 v.cv]
def ents (vs : List Vr) : List Value := vs.flatMap entC
theorem ents_app (A B : List Vr) : ents (A ++ B) = ents A ++ ents B := by simp [ents]
theorem ents_cons (v : Vr) (B : List Vr) : ents (v :: B) = entC v ++ ents B := by simp [ents]
theorem ents_len : ∀ vs : List Vr, (ents vs).length = vs.length * 8
  | [] => rfl
  | v :: r => by rw [ents_cons, List.length_append, ents_len r]; simp [entC]; omega
theorem ents_at : ∀ (vs : List Vr) (i : Nat), i < vs.length → ∀ j, j < 8 → (ents vs)[i * 8 + j]? = (entC vs[i]!)[j]?
  | [], i, hi, _, _ => by simp at hi
  | v :: r, 0, _, j, hj => by
    rw [ents_cons, List.getElem?_append_left (by simp [entC]; omega), Nat.zero_mul, Nat.zero_add]
    rfl
  | v :: r, i + 1, hi, j, hj => by
    rw [ents_cons, List.getElem?_append_right (by simp [entC]; omega)]
    have h := ents_at r i (by simpa using hi) j hj
    rw [show (i + 1) * 8 + j - (entC v).length = i * 8 + j by simp [entC]; omega, h]
    simp at hi
    rw [getElem!_pos r i hi, getElem!_pos (v :: r) (i + 1) (by simp; omega)]
    simp
theorem ents_one : ∀ (vs : List Vr), ∀ u ∈ ents vs, u.oneCell' = true
  | [], u, hu => by simp [ents] at hu
  | v :: r, u, hu => by
    rw [ents_cons, List.mem_append] at hu
    rcases hu with hu | hu
    · simp [entC] at hu
      rcases hu with rfl | rfl | rfl | rfl | rfl | rfl | rfl | rfl <;> rfl
    · exact ents_one r u hu
/-- THE DOCUMENT'S STORE -/
structure RDs (w : World) (base R P : Nat) (cap last : Int) (av : Value) (vs : List Vr) : Prop where
  bx : w.heap[R]? = some (.cells #[.int .i64 (P : Int), .int .i64 cap, av, .int .i64 last] 50 (0, 0))
  row : w.ownsRow base 112 8 av vs.length (ents vs)
section
variable {w w' : World} {base R P : Nat} {cap last : Int} {av : Value} {vs : List Vr}
theorem RDs.same (h : RDs w base R P cap last av vs) (hs : ∀ k, (k = R ∨ av.ownBlock = some k) → w'.heap[k]? = w.heap[k]?) : RDs w' base R P cap last av vs :=
  ⟨(hs R (.inl rfl)).trans h.bx, ownsRow_same h.row (fun g hg => hs g (.inr hg))⟩
theorem RDs.lt (h : RDs w base R P cap last av vs) {k : Nat} (hk : k = R ∨ av.ownBlock = some k) : k < w.heap.size := by
  rcases hk with rfl | hk
  · exact (Array.getElem?_eq_some_iff.1 h.bx).1
  · exact (World.ownsRow.lt h.row k hk).2
theorem RDs.kept (h : RDs w base R P cap last av vs) (hb : Below w.heap.size w w') : RDs w' base R P cap last av vs := h.same (fun _ hk => hb.block _ (h.lt hk))
theorem RDs.cells (h : RDs w base R P cap last av vs) : w.cell? ⟨R, 0, none⟩ = some (.int .i64 (P : Int)) ∧ w.cell? ⟨R, 1, none⟩ = some (.int .i64 cap) ∧ w.cell? ⟨R, 2, none⟩ = some av ∧ w.cell? ⟨R, 3, none⟩ = some (.int .i64 last) := by
  refine ⟨?_, ?_, ?_, ?_⟩ <;> simp [World.cell?, h.bx]
theorem RDs.sl (h : RDs w base R P cap last av vs) : ∃ ao c, av = .slice ao vs.length c := by
  obtain ⟨_, ⟨h1, h2⟩ | ⟨g, c, _, h1, _⟩⟩ := h.row
  · exact ⟨none, 0, by rw [h1, h2]⟩
  · exact ⟨_, c, h1⟩
theorem RDs.ent (h : RDs w base R P cap last av vs) {i : Nat} (hi : i < vs.length) : ∃ g c, av = .slice (some ⟨g, 0, none⟩) vs.length c ∧ w.cell? ⟨g, i * 8, none⟩ = some (.int .i64 vs[i]!.n) ∧ w.cell? ⟨g, i * 8 + 1, none⟩ = some (.int .i64 vs[i]!.k.1) ∧ w.cell? ⟨g, i * 8 + 2, none⟩ = some (.int .i64 vs[i]!.k.2) ∧ w.cell? ⟨g, i * 8 + 3, none⟩ = some (.int .i64 vs[i]!.ba) ∧ w.cell? ⟨g, i * 8 + 4, none⟩ = some (.int .i64 vs[i]!.ix) ∧ w.cell? ⟨g, i * 8 + 5, none⟩ = some (.bool vs[i]!.fl) ∧ w.cell? ⟨g, i * 8 + 6, none⟩ = some (.bool vs[i]!.ci) ∧ w.cell? ⟨g, i * 8 + 7, none⟩ = some (.int .i64 vs[i]!.cv) := by
  have hr := h.row
  obtain ⟨_, ⟨_, h2⟩ | ⟨g, c, _, h1, _⟩⟩ := h.row
  · omega
  · rw [h1] at hr
    have hc : ∀ j, j < 8 → w.cell? ⟨g, i * 8 + j, none⟩ = (entC vs[i]!)[j]? := fun j hj => by rw [World.ownsRow.cellAt hr (i * 8 + j) (by omega), ents_at vs i hi j hj]
    exact ⟨g, c, h1, hc 0 (by omega), hc 1 (by omega), hc 2 (by omega), hc 3 (by omega), hc 4 (by omega), hc 5 (by omega), hc 6 (by omega), hc 7 (by omega)⟩
end
def AtPost (w : World) (vs : List Vr) (n : Int) (e : Ending) (w' : World) : Prop := (∃ x, AtP vs n x ∧ e = .returned (.int .i64 x)) ∧ w' = w
def NumP (w : World) (x : Int) (e : Ending) (w' : World) : Prop := e = .returned (.int .i64 x) ∧ w' = w
def GrI (w : World) (x : Int) (e : Ending) (w' : World) : Prop := e = .returned (.int .i64 x) ∧ ∃ q os, w' = grow (w.drewN q) os
def latB (p q r s : Int) : Bool := decide (r < p ∨ r = p ∧ s < q)
def LatP (w : World) (x : Bool) (e : Ending) (w' : World) : Prop := e = .returned (.bool x) ∧ ∃ q os, w' = grow (w.drewN q) os
set_option maxRecDepth 100000 in
set_option maxHeartbeats 1000000 in
theorem rlater_any (w : World) (p q r s a5 b5 : Int) (a3 a4 b3 b4 : Bool) :
    Calls Tryz.prog 50 #[.agg #[.int .i64 p, .int .i64 q, .bool a3, .bool a4, .int .i64 a5], .agg #[.int .i64 r, .int .i64 s, .bool b3, .bool b4, .int .i64 b5]] w fun e w' => LatP w (latB p q r s) e w' := by
  unfold latB
  have HG : Hid (∀ o1 o2, Grew w ((w.alloc o1).alloc o2)) := fun o1 o2 => ((Grew.refl w).alloc o1).alloc o2
  by_cases h1 : r < p
  · have h1b : decide (r < p) = true := by simpa using h1
    rw [decide_eq_true (p := r < p ∨ r = p ∧ s < q) (.inl h1)]
    go_enter Tryz.func50, Tryz.ntmps50
    go_wp2
    go_ret
    exact ⟨rfl, HG.out _ _⟩
  · have h1b : decide (r < p) = false := by simpa using h1
    by_cases h2 : p = r
    · subst h2
      by_cases h3 : s < q
      · have h3b : decide (s < q) = true := by simpa using h3
        rw [decide_eq_true (p := p < p ∨ p = p ∧ s < q) (.inr ⟨rfl, h3⟩)]
        go_enter Tryz.func50, Tryz.ntmps50
        go_wp2
        go_ret
        exact ⟨rfl, HG.out _ _⟩
      · have h3b : decide (s < q) = false := by simpa using h3
        rw [decide_eq_false (p := p < p ∨ p = p ∧ s < q) (by omega)]
        go_enter Tryz.func50, Tryz.ntmps50
        go_wp2
        go_ret
        exact ⟨rfl, HG.out _ _⟩
    · have h2b : decide (p = r) = false := by simpa using h2
      have h2c : (p == r) = false := by simpa using h2
      rw [decide_eq_false (p := r < p ∨ r = p ∧ s < q) (by omega)]
      go_enter Tryz.func50, Tryz.ntmps50
      go_wp2
      go_ret
      exact ⟨rfl, HG.out _ _⟩
abbrev topV : Value := .agg #[.int .i64 9223372036854775807, .int .i64 9223372036854775807, .bool false, .bool false, .int .i64 0]
set_option maxRecDepth 100000 in
theorem rtop_any (w : World) : Calls Tryz.prog 49 #[] w fun e w' => e = .returned topV ∧ ∃ q os, w' = grow (w.drewN q) os := by
  go_enter Tryz.func49, Tryz.ntmps49
  go_wp2
  refine bodyPost_ret (v := topV) (by simp [results, Tryz.results49, go_sem]) rfl ?_
  exact ⟨rfl, (Grew.refl w).alloc _⟩
set_option maxRecDepth 100000 in
set_option maxHeartbeats 1000000 in
theorem rat_any (w : World) (base R P : Nat) (cap last : Int) (av : Value) (vs : List Vr) (h : RDs w base R P cap last av vs) (hl : vs.length ≤ 65536) (hn : (vs.map Vr.n).Nodup) (n : Int) :
    Calls Tryz.prog 52 #[ptr R, .int .i64 n] w fun e w' => AtPost w vs n e w' := by
  obtain ⟨ao, ac, rfl⟩ := h.sl
  have r2 := h.cells.2.2.1
  have HR := hidS h
  have HN := hidS hn
  obtain ⟨an, han⟩ : ∃ an, an = vs.length := ⟨_, rfl⟩
  rw [← han] at r2
  have hl2 : an ≤ 65536 := by omega
  have HL := hidS han
  clear h hn hl han
  go_enter Tryz.func52, Tryz.ntmps52
  go_wp2_with fail
  go_loopw [5] (fun x wr => ∃ (i : Nat), i ≤ an ∧ x = .int .i64 (i : Int) ∧ wr = w ∧ Hid (∀ j, j < i → vs[j]!.n ≠ n)) (fun x _ => an - (intOf x).toNat)
  case atStart => exact ⟨0, Nat.zero_le _, rfl, rfl, fun j hj => by omega⟩
  case round =>
    obtain ⟨i, hi, rfl, rfl, HI⟩ := hrel
    by_cases hlt : i < an
    · have hil : i < vs.length := by have := HL.out; omega
      obtain ⟨g, c, e1, c0, _⟩ := HR.out.ent hil
      simp only [Value.slice.injEq] at e1
      obtain ⟨rfl, _, _⟩ := e1
      by_cases hx : vs[i]!.n = n
      · have HX := hidS (AtP.hit HN.out hil hx)
        have hxb : (vs[i]!.n == n) = true := by simpa using hx
        generalize vs[i]!.n = x at *
        clear hx
        go_wp2
        go_ret
        exact ⟨⟨_, HX.out, rfl⟩, rfl⟩
      · have HX : Hid (∀ j, j < i + 1 → vs[j]!.n ≠ n) := fun j hj => by
          by_cases e : j = i
          · rw [e]; exact hx
          · exact HI.out j (by omega)
        have hxb : (vs[i]!.n == n) = false := by simpa using hx
        generalize vs[i]!.n = x at *
        clear hx
        go_wp2_with fail
        go_roundw
        case rel => exact ⟨i + 1, by omega, by go_num, by first | rfl | trivial, HX⟩
        case measure => simp [intOf]; omega
    · have hie : i = an := by omega
      subst hie
      have HX := hidS (AtP.miss (vs := vs) (n := n) (fun j hj => HI.out j (by have := HL.out; omega)))
      clear HI
      go_wp2
      go_ret
      exact ⟨⟨_, HX.out, rfl⟩, rfl⟩
set_option maxRecDepth 100000 in
theorem rnumber_any (w : World) (base R P : Nat) (cap last : Int) (av : Value) (vs : List Vr) (h : RDs w base R P cap last av vs) (x : Int) (hx : x < (vs.length : Int)) :
    Calls Tryz.prog 58 #[ptr R, .int .i64 x] w fun e w' => NumP w (numI vs x) e w' := by
  have r2 := h.cells.2.2.1
  by_cases h0 : x < 0
  · have h0b : decide (x < 0) = true := by simpa using h0
    have e : numI vs x = 0 := by unfold numI; rw [if_pos h0]
    rw [e]
    clear h e
    go_enter Tryz.func58, Tryz.ntmps58
    go_wp2
    go_ret
    exact ⟨rfl, rfl⟩
  · obtain ⟨i, rfl⟩ : ∃ i : Nat, x = (i : Int) := ⟨x.toNat, by omega⟩
    have hi : i < vs.length := by omega
    obtain ⟨g, c, rfl, c0, _⟩ := h.ent hi
    have e : numI vs (i : Int) = vs[i]!.n := by unfold numI; rw [if_neg h0]; rfl
    rw [e]
    generalize vs[i]!.n = y at *
    obtain ⟨an, han⟩ : ∃ an, an = vs.length := ⟨_, rfl⟩
    rw [← han] at r2 hi
    have h0b : decide ((i : Int) < 0) = false := by simp
    clear h e han hx h0
    go_enter Tryz.func58, Tryz.ntmps58
    go_wp2
    go_ret
    exact ⟨rfl, rfl⟩
end Go.Proofs.YtbcmmeajglilbaaGreat
