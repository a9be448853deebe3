import Derived.Test.YtkjmeknaedapjaaDoorJ07
import Derived.Test.YtkjmeknaedapjaaDoorJ09
import Derived.Laws.IdiomStrings
import Derived.Test.YtkjmeknaedapjaaDoorJ21
import Derived.Deep.RegionLaw
import Derived.Deep.DeepCutAuto
/-
  A SLICE OF PROCEDURES OF THE CALL'S OWN; append; 'string(b)'.
-/
namespace Go.Proofs.YtkjmeknaedapjaaDoor
open Go.RowKit Go.Sort

theorem prcs_one (Ps : List Pr) : ∀ v ∈ prcs Ps, v.oneCell' = true := by
  induction Ps with
  | nil => simp [prcs]
  | cons x Ps ih =>
    intro v hv
    rcases List.mem_append.1 (show v ∈ prc x ++ prcs Ps from hv) with h | h
    · simp only [prc, List.mem_cons, List.not_mem_nil, or_false] at h
      rcases h with rfl | rfl | rfl | rfl | rfl | rfl <;> rfl
    · exact ih v h
def OwnP (w : World) (base : Nat) (v : Value) (Ps : List Pr) : Prop := w.ownsRow base 43 6 v Ps.length (prcs Ps)
theorem OwnP.nil (w : World) (base : Nat) : OwnP w base (.slice none 0 0) [] := World.ownsRow_nil _ _ _ _
theorem OwnP.shape {w : World} {base : Nat} {v : Value} {Ps : List Pr} (h : OwnP w base v Ps) :
    (v = .slice none 0 0 ∧ Ps = []) ∨ ∃ g cap, v = .slice (some ⟨g, 0, none⟩) Ps.length cap ∧ base ≤ g ∧ g < w.heap.size ∧ Ps.length ≤ cap ∧ cap ≤ maxLen ∧ ProcsAt w (some ⟨g, 0, none⟩) Ps := by
  obtain ⟨hl, h⟩ := h
  rcases h with ⟨rfl, h0⟩ | ⟨g, cap, cur, rfl, hb, hg, hn, hm, hs, ht⟩
  · exact .inl ⟨rfl, List.eq_nil_of_length_eq_zero h0⟩
  · refine .inr ⟨g, cap, rfl, hb, (Array.getElem?_eq_some_iff.1 hg).1, hn, hm, .inr ⟨g, 0, rfl, fun j u hu => ?_⟩⟩
    have hj : j < Ps.length * 6 := by rw [← prcs_length]; exact (List.getElem?_eq_some_iff.1 hu).1
    have e := World.ownsRow.cellAt (w := w) (base := base) (e := 43) (size := 6) (g := g) (cap := cap) ⟨hl, .inr ⟨g, cap, cur, rfl, hb, hg, hn, hm, hs, ht⟩⟩ j hj
    rw [Nat.zero_add, e, hu]
theorem OwnP.slice {w : World} {base : Nat} {v : Value} {Ps : List Pr} (h : OwnP w base v Ps) : ∃ ao cap, v = .slice ao Ps.length cap ∧ ProcsAt w ao Ps ∧ (ao = none → cap = 0) ∧ Ps.length ≤ cap := by
  rcases h.shape with ⟨rfl, rfl⟩ | ⟨g, cap, rfl, _, _, hc, _, hb⟩
  · exact ⟨none, 0, rfl, .inl rfl, fun _ => rfl, by simp⟩
  · exact ⟨_, cap, rfl, hb, by simp, hc⟩
theorem OwnP.alloc {w : World} {base : Nat} {v : Value} {Ps : List Pr} (h : OwnP w base v Ps) (o : Obj) : OwnP (w.alloc o) base v Ps := World.ownsRow.alloc h o
theorem OwnP.mono {w : World} {base base' : Nat} {v : Value} {Ps : List Pr} (h : OwnP w base v Ps) (hb : base' ≤ base) : OwnP w base' v Ps := by
  obtain ⟨hl, h⟩ := h
  refine ⟨hl, ?_⟩
  rcases h with h | ⟨g, cap, cur, e, hg, r⟩
  · exact .inl h
  · exact .inr ⟨g, cap, cur, e, by omega, r⟩
theorem OwnP.lt {w : World} {base : Nat} {v : Value} {Ps : List Pr} (h : OwnP w base v Ps) : ∀ k, v.ownBlock = some k → base ≤ k ∧ k < w.heap.size := World.ownsRow.lt h
theorem OwnP.same {w w1 : World} {base : Nat} {v : Value} {Ps : List Pr} (h : OwnP w base v Ps) (hs : ∀ g, v.ownBlock = some g → w1.heap[g]? = w.heap[g]?) : OwnP w1 base v Ps := by
  obtain ⟨hl, h⟩ := h
  refine ⟨hl, ?_⟩
  rcases h with h | ⟨g, cap, cur, rfl, hg, hh, r⟩
  · exact .inl h
  · exact .inr ⟨g, cap, cur, rfl, hg, (hs g rfl).trans hh, r⟩
theorem OwnP.kept {w w1 : World} {base : Nat} {v : Value} {Ps : List Pr} (h : OwnP w base v Ps) (hb : Below w.heap.size w w1) : OwnP w1 base v Ps :=
  h.same fun g hg => hb.block g (h.lt g hg).2
theorem infoP : (Tryd.prog.info? 43).map (fun i => (i.zero, i.size, i.bytes)) = some (some (.agg #[.string ⟨#[]⟩, .int .i64 0, .int .i64 0, .int .i64 0, .int .i64 0, .slice none 0 0]), 6, 72) := by kernel_rfl
theorem run_append_procs {w : World} (ty : TypeId) (base : Nat) (v : Value) (Ps : List Pr) (hown : OwnP w base v Ps)
    (ad : Addr) (m c : Nat) (Qs : List Pr) (hm : m = Qs.length) (hsrc : ∀ j u, (prcs Qs)[j]? = some u → w.cell? (ad.add j) = some u) (hlen : (Ps.length + Qs.length) * 72 ≤ 140737488355328) (hbase : base ≤ w.heap.size) :
    ∃ v' w', (Builtin.append_ #[22, 22] ty #[v, .slice (some ad) m c]).run Tryd.prog w = .ok v' w' ∧ OwnP w' base v' (Ps ++ Qs) ∧ w.grownBy w' v.ownBlock ∧ (v'.ownBlock = v.ownBlock ∨ v'.ownBlock = some w.heap.size) := by
  obtain ⟨i0, hi, hz0, hz1, hz2⟩ := info_parts infoP
  subst hm
  obtain ⟨v', w', hr, h2, h3, _, h5⟩ := run_append_own_at (P := Tryd.prog) w base 22 ty 43 i0 (.agg #[.string ⟨#[]⟩, .int .i64 0, .int .i64 0, .int .i64 0, .int .i64 0, .slice none 0 0]) 6 72 Tryd.underlying22 hi hz0 hz1 hz2 rfl (by decide) v Ps.length (prcs Ps) hown ad Qs.length c (prcs Qs) (prcs_length Qs)
      hsrc (prcs_one Qs) (by unfold maxLen; omega) hlen hbase
  exact ⟨v', w', hr, by unfold OwnP; rw [List.length_append, prcs_append]; exact h2, h3, h5⟩
theorem wpList_append_procs {w : World} {ops : Array Oper} {rest : List Oper} {o : Oper} {a : Act} {Q : Exit → Act → World → Prop} (hgd : o.guard = none) (s x : Operand)
    (ho : o.op = .call { callee := .builtin .append, args := #[s, x], argTypes := #[22, 22] }) (base : Nat) (v : Value) (Ps : List Pr) (hs : a.eval s = v) (hown : OwnP w base v Ps)
    (ad : Addr) (m c : Nat) (Qs : List Pr) (hx : a.eval x = .slice (some ad) m c) (hm : m = Qs.length) (hsrc : ∀ j u, (prcs Qs)[j]? = some u → w.cell? (ad.add j) = some u) (hlen : (Ps.length + Qs.length) * 72 ≤ 140737488355328) (hbase : base ≤ w.heap.size)
    (h : ∀ v' w', OwnP w' base v' (Ps ++ Qs) → w.grownBy w' v.ownBlock → (v'.ownBlock = v.ownBlock ∨ v'.ownBlock = some w.heap.size) → wpList Tryd.prog ops Q rest (a.put o.dst v') w') : wpList Tryd.prog ops Q (o :: rest) a w := by
  obtain ⟨v', w', hr, h2, h3, h4⟩ := run_append_procs o.type base v Ps hown ad m c Qs hm hsrc hlen hbase
  refine wpList_plain hgd fun K hK' => ?_
  unfold Oper.wp
  simp [execOp, ho, resolve, invoke, builtin, hs, hx, hr, Result.andThen]
  exact hK' _ _ (h v' w' h2 h3 h4)
theorem step_append_procs {w : World} {ops : Array Oper} {o : Oper} {a : Act} {K' : Act → World → Prop} {Q : Exit → Act → World → Prop} {E : Prop} (hgd : o.guard = none) (s x : Operand)
    (ho : o.op = .call { callee := .builtin .append, args := #[s, x], argTypes := #[22, 22] }) (base : Nat) (v : Value) (Ps : List Pr) (hs : a.eval s = v) (hown : OwnP w base v Ps)
    (ad : Addr) (m c : Nat) (Qs : List Pr) (hx : a.eval x = .slice (some ad) m c) (hm : m = Qs.length) (hsrc : ∀ j u, (prcs Qs)[j]? = some u → w.cell? (ad.add j) = some u) (hlen : (Ps.length + Qs.length) * 72 ≤ 140737488355328) (hbase : base ≤ w.heap.size)
    (h : ∀ v' w', OwnP w' base v' (Ps ++ Qs) → w.grownBy w' v.ownBlock → (v'.ownBlock = v.ownBlock ∨ v'.ownBlock = some w.heap.size) → K' (a.put o.dst v') w') :
    if Region.wanted o (yielded ops a.tmps) = true then Oper.wp Tryd.prog o a w K' Q else E := by
  have hw : Region.wanted o (yielded ops a.tmps) = true := by simp [Region.wanted, hgd]
  rw [if_pos hw]
  obtain ⟨v', w', hr, h2, h3, h4⟩ := run_append_procs o.type base v Ps hown ad m c Qs hm hsrc hlen hbase
  unfold Oper.wp execOp
  simp only [ho, resolve, invoke, builtin, Sem.run_bind, Sem.run_pure, Result.andThen_ok, List.map_toArray, List.map_cons, List.map_nil, hs, hx, hr]
  exact h v' w' h2 h3 h4
/-- one procedure, laid for an append -/
theorem proc_src (w : World) (B : Nat) (x : Pr) (hB : B = w.heap.size) : ∀ j u, (prcs [x])[j]? = some u → (w.alloc (.cells #[.string x.name, .int .i64 x.p.args, .int .i64 x.p.reads, .int .i64 x.p.writes, .int .i64 x.p.locals, .slice x.ao x.n x.cap] 43)).cell? ((⟨B, 0, none⟩ : Addr).add j) = some u := by
  subst hB
  intro j u hu
  rw [addr_add, Nat.zero_add]
  have hb : (w.alloc (.cells #[.string x.name, .int .i64 x.p.args, .int .i64 x.p.reads, .int .i64 x.p.writes, .int .i64 x.p.locals, .slice x.ao x.n x.cap] 43)).heap[w.heap.size]? = some (.cells #[.string x.name, .int .i64 x.p.args, .int .i64 x.p.reads, .int .i64 x.p.writes, .int .i64 x.p.locals, .slice x.ao x.n x.cap] 43 (0, 0)) := heap_alloc_new _ _ rfl
  simp only [World.cell?, hb]
  have e : prcs [x] = [.string x.name, .int .i64 x.p.args, .int .i64 x.p.reads, .int .i64 x.p.writes, .int .i64 x.p.locals, .slice x.ao x.n x.cap] := by simp [prcs, prc]
  rw [e] at hu
  simpa using hu
end Go.Proofs.YtkjmeknaedapjaaDoor
/-
  WHAT STANDS WHILE A LIBRARY IS READ.
-/
namespace Go.Proofs.YtkjmeknaedapjaaDoor
open Go.RowKit Go.Sort

/-- the block of a procedure's code -/
def cb (x : Pr) : Option Nat := (Value.slice x.ao x.n x.cap).ownBlock
/-- a procedure whose code is the call's own -/
structure PrC (W : World) (base : Nat) (x : Pr) : Prop where
  len : x.n = x.L.length
  own : OwnK W base (.slice x.ao x.n x.cap) x.L
  nin : NIn x.p
  kin : ∀ k ∈ x.L, KIn k
  str : x.name.size ≤ 31
  big : x.n ≤ 256
theorem PrC.ok {W : World} {base : Nat} {x : Pr} (h : PrC W base x) : PrOK W x := by
  obtain ⟨ao, cap, e, hk, hn, _⟩ := h.own.slice
  simp only [Value.slice.injEq] at e
  obtain ⟨e1, _, e3⟩ := e
  exact ⟨h.len, by rw [e1]; exact hk, h.nin, h.kin, by rw [e1, e3]; exact hn, by have := h.str; omega, by have := h.big; omega⟩
theorem PrC.same {W W' : World} {base : Nat} {x : Pr} (h : PrC W base x) (hs : ∀ g, cb x = some g → W'.heap[g]? = W.heap[g]?) : PrC W' base x := ⟨h.len, h.own.same hs, h.nin, h.kin, h.str, h.big⟩
theorem PrC.lt {W : World} {base : Nat} {x : Pr} (h : PrC W base x) : ∀ g, cb x = some g → base ≤ g ∧ g < W.heap.size := h.own.lt

/-- 'string(b)' of bytes of the call's own -/
theorem string_own {W : World} {base : Nat} {v : Value} {bs : List Nat} (h : OwnB W base v bs) : (convert 23 9 v).run Tryd.prog W = .ok (.string (nmS bs)) W := by
  rcases h.shape with ⟨rfl, rfl⟩ | ⟨g, cap, rfl, _, _, _, _, hb⟩
  · rw [run_convert_bytes_string W 23 9 5 none 0 0 Tryd.underlying23 Tryd.underlying5 Tryd.underlying9]
    rfl
  · have e : bs.length = (bs.map UInt8.ofNat).length := by simp
    rw [e]
    refine run_convert_bytes_back (P := Tryd.prog) W 23 9 5 ⟨g, 0, none⟩ cap (bs.map UInt8.ofNat) Tryd.underlying23 Tryd.underlying5 Tryd.underlying9 fun j hj => ?_
    have hj' : j < bs.length := by simpa using hj
    rw [addr_add, Nat.zero_add]
    obtain ⟨hz, h1 | ⟨b', o', e', hc⟩⟩ := hb
    · rw [h1] at hj'; simp at hj'
    · cases e'
      have := hc j hj'
      rw [Nat.zero_add] at this
      rw [this]
      have e2 : bs.getD j 0 = bs[j] := by simp [List.getD_eq_getElem?_getD, List.getElem?_eq_getElem hj']
      rw [e2, List.getElem_map, u8_back _ (hz _ (List.getElem_mem hj'))]

/-- the Reader of a library's bytes, and what was read of it -/
structure DT (w W : World) (b : List Nat) (p : Nat) (e : Int) (v : Value) (Ps : List Pr) : Prop where
  rd : IsReader W (w.heap.size + 1) (some ⟨w.heap.size, 0, none⟩) b.length b p e
  bel : Below w.heap.size w W
  own : OwnP W (w.heap.size + 2) v Ps
  ok : ∀ x ∈ Ps, PrC W (w.heap.size + 2) x
  ap : ∀ x ∈ Ps, ∀ g, cb x = some g → v.ownBlock ≠ some g
  pw : Ps.Pairwise fun x y => ∀ g, cb x = some g → cb y ≠ some g
theorem DT.step {w W W' : World} {b : List Nat} {p p2 : Nat} {e e2 : Int} {v : Value} {Ps : List Pr} (h : DT w W b p e v Ps) (hr : Reads W (w.heap.size + 1) (some ⟨w.heap.size, 0, none⟩) b.length b p2 e2 W') : DT w W' b p2 e2 v Ps := by
  have hne : ∀ g, w.heap.size + 2 ≤ g → some g ≠ some (w.heap.size + 1) := fun g hg e => by cases e; omega
  refine ⟨hr.1, ?_, h.own.same fun g hg => hr.2.block g (h.own.lt g hg).2 (hne g (h.own.lt g hg).1), fun x hx => (h.ok x hx).same fun g hg => hr.2.block g ((h.ok x hx).lt g hg).2 (hne g ((h.ok x hx).lt g hg).1), h.ap, h.pw⟩
  exact ⟨hr.2.os.trans h.bel.os, hr.2.tape.trans h.bel.tape, hr.2.output.trans h.bel.output, Nat.le_trans h.bel.size hr.2.size, fun k hk => by
    rw [hr.2.block k (Nat.lt_of_lt_of_le hk h.bel.size) (fun e => by cases e; omega)]; exact h.bel.block k hk⟩
theorem DT.kept {w W W' : World} {b : List Nat} {p : Nat} {e : Int} {v : Value} {Ps : List Pr} (h : DT w W b p e v Ps) (hb : Below W.heap.size W W') : DT w W' b p e v Ps :=
  ⟨h.rd.kept hb, h.bel.trans (hb.mono h.bel.size), h.own.kept hb, fun x hx => (h.ok x hx).same fun g hg => hb.block g ((h.ok x hx).lt g hg).2, h.ap, h.pw⟩
/-- what lies lies below -/
theorem DT.under {w W : World} {b : List Nat} {p : Nat} {e : Int} {v : Value} {Ps : List Pr} (h : DT w W b p e v Ps) : (∀ x ∈ Ps, ∀ g, cb x = some g → g < W.heap.size) ∧ (∀ g, v.ownBlock = some g → g < W.heap.size) ∧ w.heap.size + 2 ≤ W.heap.size :=
  ⟨fun x hx g hg => ((h.ok x hx).lt g hg).2, fun g hg => (h.own.lt g hg).2, by have := h.rd.lt; omega⟩
/-- behind the append -/
theorem DT.put {w W W' : World} {b : List Nat} {p S : Nat} {e : Int} {v v' : Value} {Ps : List Pr} {x : Pr} (h : DT w W b p e v Ps) (hx : PrC W S x) (h1 : ∀ y ∈ Ps, ∀ g, cb y = some g → g < S) (h2 : ∀ g, v.ownBlock = some g → g < S) (h3 : w.heap.size + 2 ≤ S)
    (ho : OwnP W' (w.heap.size + 2) v' (Ps ++ [x])) (hg : W.grownBy W' v.ownBlock) (hv : v'.ownBlock = v.ownBlock ∨ v'.ownBlock = some W.heap.size) : DT w W' b p e v' (Ps ++ [x]) := by
  have hvb : ∀ k, v.ownBlock = some k → w.heap.size + 2 ≤ k := fun k hk => (h.own.lt k hk).1
  have hs : ∀ g, g < W.heap.size → v.ownBlock ≠ some g → W'.heap[g]? = W.heap[g]? := fun g hl hn => hg.block g hl (fun e => hn e.symm)
  have hxc : PrC W' (w.heap.size + 2) x := by
    have := hx.same (W' := W') fun g hg' => hs g (hx.lt g hg').2 fun e => by have := h2 g e; have := (hx.lt g hg').1; omega
    exact ⟨this.len, this.own.mono h3, this.nin, this.kin, this.str, this.big⟩
  refine ⟨?_, ?_, ho, ?_, ?_, ?_⟩
  · refine h.rd.grown hg (fun e => ?_) (.inr fun e => ?_)
    · have := hvb _ e.symm; omega
    · have := hvb w.heap.size e.symm; omega
  · exact ⟨hg.os.trans h.bel.os, hg.tape.trans h.bel.tape, hg.output.trans h.bel.output, Nat.le_trans h.bel.size hg.size, fun k hk => by
      rw [hs k (Nat.lt_of_lt_of_le hk h.bel.size) (fun e => by have := hvb k e; omega)]; exact h.bel.block k hk⟩
  · intro y hy
    rcases List.mem_append.1 hy with hy | hy
    · exact (h.ok y hy).same fun g hg' => hs g ((h.ok y hy).lt g hg').2 (h.ap y hy g hg')
    · simp at hy; subst hy; exact hxc
  · intro y hy g hg' e
    have hgl : g < W.heap.size := by
      rcases List.mem_append.1 hy with hy | hy
      · exact ((h.ok y hy).lt g hg').2
      · simp at hy; subst hy; exact (hx.lt g hg').2
    rcases hv with hv | hv
    · rw [hv] at e
      rcases List.mem_append.1 hy with hy | hy
      · exact h.ap y hy g hg' e
      · simp at hy; subst hy
        have := h2 g e
        have := (hx.lt g hg').1
        omega
    · rw [hv] at e; cases e; omega
  · rw [List.pairwise_append]
    refine ⟨h.pw, List.pairwise_singleton _ _, fun y hy z hz g hg' e => ?_⟩
    simp at hz; subst hz
    have := h1 y hy g hg'
    have := (hx.lt g e).1
    omega
theorem DT.lib {w W : World} {b : List Nat} {p : Nat} {e : Int} {ao : Option Addr} {n cap : Nat} {Ps : List Pr} (h : DT w W b p e (.slice ao n cap) Ps) : LibAt W ao Ps ∧ n = Ps.length ∧ n ≤ cap := by
  obtain ⟨ao', cap', e', hk, _, hc⟩ := h.own.slice
  simp only [Value.slice.injEq] at e'
  obtain ⟨e1, e2, e3⟩ := e'
  exact ⟨⟨by rw [e1]; exact hk, fun x hx => (h.ok x hx).ok⟩, e2, by rw [e2, e3]; exact hc⟩
/-- what Decode answers -/
def RPost (w : World) (b : List Nat) (e' : Ending) (W : World) : Prop :=
  Below w.heap.size w W ∧
  ((decE b ≠ 0 ∧ e' = .returned (.tuple #[.slice none 0 0, .int .i64 0, .int .i64 (decE b)])) ∨
   (decE b = 0 ∧ ∃ Ps ao cap p, Ps.map core = (decA b).1 ∧ DT w W b p 0 (.slice ao Ps.length cap) Ps ∧
     (((checkN Ps).2 ≠ 0 ∧ e' = .returned (.tuple #[.slice none 0 0, .int .i64 ((checkN Ps).1 : Int), .int .i64 (checkN Ps).2])) ∨
      ((checkN Ps).2 = 0 ∧ e' = .returned (.tuple #[.slice ao Ps.length cap, .int .i64 0, .int .i64 0])))))
end Go.Proofs.YtkjmeknaedapjaaDoor
/-
  THE WALK OF Decode.
-/
namespace Go.Proofs.YtkjmeknaedapjaaDoor
open Go.RowKit Go.Sort

theorem nmS_inj {X Y : List Nat} (hX : ∀ z ∈ X, z < 256) (hY : ∀ z ∈ Y, z < 256) (h : nmS X = nmS Y) : X = Y := by
  rw [← nmB_nmS hX, h, nmB_nmS hY]
theorem nmS_toList (X : List Nat) : (nmS X).toList = X.map UInt8.ofNat := by
  rw [ByteArray.toList_eq]; simp [nmS]
set_option maxRecDepth 100000 in
set_option maxHeartbeats 2000000 in
theorem decode_any (w : World) (ao : Option Addr) (n cap : Nat) (b : List Nat) (h : BytesAt w ao b) (hn : n = b.length) (hm : n ≤ 140737488355328) :
    Calls Tryd.prog 13 #[.slice ao n cap] w fun e w' => RPost w b e w' := by
  have H : Hid (BytesAt w ao b) := h
  have HN : Hid (n = b.length) := hn
  have HZ : Hid (∀ z ∈ b, z < 256) := h.1
  clear h hn
  go_enter Tryd.func13, Tryd.ntmps13
  go_wp2_with fail
  refine (read_any w ao cap n b HN.out H.out hm).mono ?_
  rintro e w1 ⟨rfl, hr1, hb1, hs1⟩
  rw [HN.out] at hr1
  have HD1 : Hid (DT w w1 b 0 0 (.slice none 0 0) []) := ⟨hr1, hb1, OwnP.nil _ _, (fun x hx => by cases hx), (fun x hx => by cases hx), List.Pairwise.nil⟩
  clear hr1 hb1 hs1
  go_wp2_with fail
  refine (rRaw_any w1 _ _ _ b 0 0 4 HD1.out.rd).mono ?_
  rintro e w2 ⟨v2, rfl, ho2, hr2⟩
  have HD2 : Hid (DT w w2 b (rdRaw b 0 0 4).2.1 (rdRaw b 0 0 4).2.2 (.slice none 0 0) []) := HD1.out.step hr2
  have hcv := string_own ho2
  obtain ⟨a2, c2, rfl, hb2, _, _⟩ := ho2.slice
  have HX : Hid (∀ z ∈ (rdRaw b 0 0 4).1, z < 256) := ho2.1
  have HE : Hid (hdE b = if (rdRaw b 0 0 4).1 = [80, 82, 76, 49] then (rdRaw b 0 0 4).2.2 else failE (rdRaw b 0 0 4).2.2 11) := rfl
  clear ho2 hr2 hb2 HD1
  generalize hX : (rdRaw b 0 0 4).1 = X at *
  have HXX : Hid ((rdRaw b 0 0 4).1 = X) := hX
  clear hX
  generalize (rdRaw b 0 0 4).2.2 = e1 at *
  go_upto_if 16 with fail
  have HQ0 : ((nmS X).toList == ([80, 82, 76, 49] : List UInt8)) = true ↔ X = [80, 82, 76, 49] := by
    rw [beq_iff_eq, nmS_toList]
    constructor
    · intro e
      refine nmS_inj HX.out (by decide) ?_
      unfold nmS; rw [e]; rfl
    · intro e; rw [e]; rfl
  generalize ((nmS X).toList == ([80, 82, 76, 49] : List UInt8)) = q at *
  have HQ : Hid (q = true ↔ X = [80, 82, 76, 49]) := HQ0
  clear HQ0
  go_cut [] (fun wx => Hid (DT w wx b (rdRaw b 0 0 4).2.1 (hdE b) (.slice none 0 0) []))
  case first =>
    cases q with
    | true =>
      have HS : Hid (DT w w2 b (rdRaw b 0 0 4).2.1 (hdE b) (.slice none 0 0) []) := by rw [HE.out, if_pos (HQ.out.1 rfl)]; exact HD2.out
      go_wp2_with fail
      go_meet
      case rel => exact HS
    | false =>
      go_wp2_with fail
      refine (rFail_any w2 _ _ _ b _ e1 11 HD2.out.rd).mono ?_
      rintro e w3 ⟨rfl, hr3⟩
      have HS : Hid (DT w w3 b (rdRaw b 0 0 4).2.1 (hdE b) (.slice none 0 0) []) := by rw [HE.out, if_neg (fun h => by have := HQ.out.2 h; cases this)]; exact HD2.out.step hr3
      clear hr3
      go_wp2_with fail
      go_meet
      case rel => exact HS
  have HD3 := hcut
  clear hcut HD2 HX HE HXX HQ hcv
  generalize wc = w3 at *
  obtain ⟨⟨m, p3, e3⟩, hU⟩ : ∃ x, x = decU b := ⟨_, rfl⟩
  have HU : Hid (rdUpto b (rdRaw b 0 0 4).2.1 (hdE b) 64 = (m, p3, e3)) := by rw [hU]; rfl
  have HA : Hid (decA b = decL b p3 e3 m) := by show decA b = _; unfold decA; rw [← hU]
  have hm64 : m ≤ 64 := by have := rdUpto_most b (rdRaw b 0 0 4).2.1 (hdE b) 64; rw [HU.out] at this; exact this
  clear hU
  go_wp2_with fail
  refine (rUpto_any w3 _ _ _ b _ _ 64 HD3.out.rd).mono ?_
  rintro e w4 ⟨rfl, hr4⟩
  rw [HU.out] at hr4 ⊢
  have HD4 : Hid (DT w w4 b p3 e3 (.slice none 0 0) []) := HD3.out.step hr4
  clear hr4 HD3 HU
  go_wp2_with fail
  go_loopw [6, 21] (fun v x wr => ∃ k : Nat, k ≤ m ∧ x = .int .u64 (k : Int) ∧ ∃ av cv Ps, v = .slice av k cv ∧ Hid (Ps.map core = (decL b p3 e3 k).1) ∧ Hid (DT w wr b (decL b p3 e3 k).2.1 (decL b p3 e3 k).2.2 (.slice av k cv) Ps)) (fun _ x _ => m - (intOf x).toNat)
  case atStart => exact ⟨0, Nat.zero_le _, rfl, none, 0, [], rfl, rfl, HD4⟩
  case round =>
    clear HD4
    obtain ⟨k, hk, rfl, av, cv, Ps, rfl, HC, HD⟩ := hrel
    have HLn : Hid (Ps.length = k) := HD.out.lib.2.1.symm
    by_cases hlt : k < m
    · have HL1 : Hid (decL b p3 e3 (k + 1) = ((decL b p3 e3 k).1 ++ [(nmS (rdBytes b (decL b p3 e3 k).2.1 (decL b p3 e3 k).2.2 31).1, (getP b (rdBytes b (decL b p3 e3 k).2.1 (decL b p3 e3 k).2.2 31).2.1 (rdBytes b (decL b p3 e3 k).2.1 (decL b p3 e3 k).2.2 31).2.2).1, (getP b (rdBytes b (decL b p3 e3 k).2.1 (decL b p3 e3 k).2.2 31).2.1 (rdBytes b (decL b p3 e3 k).2.1 (decL b p3 e3 k).2.2 31).2.2).2.1)],
      (getP b (rdBytes b (decL b p3 e3 k).2.1 (decL b p3 e3 k).2.2 31).2.1 (rdBytes b (decL b p3 e3 k).2.1 (decL b p3 e3 k).2.2 31).2.2).2.2)) := rfl
      generalize (decL b p3 e3 k).1 = Q at *
      generalize (decL b p3 e3 k).2.1 = pk at *
      generalize (decL b p3 e3 k).2.2 = ek at *
      go_wp2_with fail
      refine (rBytes_any wr _ _ _ b pk ek 31 HD.out.rd (by decide) (by decide)).mono ?_
      rintro e w5 ⟨v5, rfl, ho5, hr5⟩
      have HD5 : Hid (DT w w5 b (rdBytes b pk ek 31).2.1 (rdBytes b pk ek 31).2.2 (.slice av k cv) Ps) := HD.out.step hr5
      have HB5 : Hid ((nmS (rdBytes b pk ek 31).1).size ≤ 31) := by rw [nmS_size]; exact (bytes_in HZ.out pk ek).1
      have hcv := string_own ho5
      obtain ⟨a5, c5, rfl, _, _, _⟩ := ho5.slice
      clear ho5 hr5 HD
      generalize nmS (rdBytes b pk ek 31).1 = nm at *
      generalize (rdBytes b pk ek 31).1.length = l5 at *
      generalize (rdBytes b pk ek 31).2.1 = p5 at *
      generalize (rdBytes b pk ek 31).2.2 = e5 at *
      go_wp2_with fail
      refine (get_any w5 _ _ _ b p5 e5 HD5.out.rd).mono ?_
      rintro e w6 ⟨a6, c6, rfl, ho6, hr6⟩
      have HD6 : Hid (DT w w6 b (getP b p5 e5).2.2.1 (getP b p5 e5).2.2.2 (.slice av k cv) Ps) := HD5.out.step hr6
      have HIn := getP_in HZ.out (p := p5) e5 HD5.out.rd.2.2.1
      have HUn : Hid ((∀ x ∈ Ps, ∀ g, cb x = some g → g < w5.heap.size) ∧ (∀ g, (Value.slice av k cv).ownBlock = some g → g < w5.heap.size) ∧ w.heap.size + 2 ≤ w5.heap.size) := HD5.out.under
      have HX6 : Hid (PrC w6 w5.heap.size ⟨nm, (getP b p5 e5).1, a6, (getP b p5 e5).2.1.length, c6, (getP b p5 e5).2.1⟩) := ⟨rfl, ho6, HIn.1, HIn.2.1, HB5.out, HIn.2.2⟩
      clear ho6 hr6 HD5 HIn HB5 hcv
      generalize (getP b p5 e5).2.1 = L6 at *
      generalize (getP b p5 e5).1 = q6 at *
      obtain ⟨p6, hp6⟩ : ∃ p6, p6 = (getP b p5 e5).2.2.1 := ⟨_, rfl⟩
      obtain ⟨e6, he6⟩ : ∃ e6, e6 = (getP b p5 e5).2.2.2 := ⟨_, rfl⟩
      have HL2 : Hid (decL b p3 e3 (k + 1) = (Q ++ [(nm, q6, L6)], p6, e6)) := by show decL b p3 e3 (k + 1) = _; rw [HL1.out, hp6, he6]
      rw [← hp6, ← he6] at HD6
      clear HL1 hp6 he6
      generalize L6.length = l6 at *
      obtain ⟨y1, y2, y3, y4⟩ := q6
      go_wp2_with (at_builtin; refine wpList_append_procs rfl _ _ rfl (w.heap.size + 2) (.slice av k cv) Ps rfl (HD6.out.own.alloc _) _ 1 1 [⟨nm, ⟨y1, y2, y3, y4⟩, a6, l6, c6, L6⟩] rfl rfl (proc_src w6 _ ⟨nm, ⟨y1, y2, y3, y4⟩, a6, l6, c6, L6⟩ rfl) (by have := HLn.out; simp; omega) (by have := HD6.out.under.2.2; simp only [World.size_alloc]; omega) ?_; intro v7 w7 ho7 hg7 hv7)
      have HD7 : Hid (DT w w7 b p6 e6 v7 (Ps ++ [⟨nm, ⟨y1, y2, y3, y4⟩, a6, l6, c6, L6⟩])) :=
        (HD6.out.kept ((Below.refl _ _).alloc (Nat.le_refl _) _)).put (HX6.out.same fun g hg => heap_alloc_old _ _ (HX6.out.lt g hg).2) HUn.out.1 HUn.out.2.1 HUn.out.2.2 ho7 hg7 hv7
      obtain ⟨a7, c7, rfl, _, _, _⟩ := ho7.slice
      have hl7 : (Ps ++ [(⟨nm, ⟨y1, y2, y3, y4⟩, a6, l6, c6, L6⟩ : Pr)]).length = k + 1 := by rw [List.length_append, HLn.out]; rfl
      rw [hl7] at HD7 ⊢
      have HC7 : Hid ((Ps ++ [(⟨nm, ⟨y1, y2, y3, y4⟩, a6, l6, c6, L6⟩ : Pr)]).map core = (decL b p3 e3 (k + 1)).1) := by
        show _ = _
        rw [HL2.out, List.map_append, HC.out]; rfl
      have HD8 : Hid (DT w w7 b (decL b p3 e3 (k + 1)).2.1 (decL b p3 e3 (k + 1)).2.2 (.slice a7 (k + 1) c7) (Ps ++ [⟨nm, ⟨y1, y2, y3, y4⟩, a6, l6, c6, L6⟩])) := by rw [HL2.out]; exact HD7.out
      clear ho7 hg7 hv7 hl7 HD7 HD6 HX6 HUn HL2 HLn HC
      go_wp2
      go_roundw
      case rel => exact ⟨k + 1, by omega, by go_num, a7, c7, _, rfl, HC7, HD8⟩
      case measure => simp [intOf]; omega
    · obtain rfl : k = m := by omega
      have HAe : Hid (decA b = ((decL b p3 e3 k).1, (decL b p3 e3 k).2.1, (decL b p3 e3 k).2.2)) := HA.out
      have HEe : Hid (decE b = rdEnd b (decL b p3 e3 k).2.1 (decL b p3 e3 k).2.2) := by show decE b = _; unfold decE; rw [HA.out]
      have HC2 : Hid (Ps.map core = (decA b).1) := by rw [HAe.out]; exact HC.out
      clear HA HAe HC
      generalize (decL b p3 e3 k).2.1 = pk at *
      generalize (decL b p3 e3 k).2.2 = ek at *
      go_wp2_with fail
      refine (rEnd_any wr _ _ _ b pk ek HD.out.rd).mono ?_
      rintro e w9 ⟨rfl, nq, hq⟩
      have HD9 : Hid (DT w w9 b pk ek (.slice av k cv) Ps) := by rw [hq]; exact HD.out.kept ⟨rfl, rfl, rfl, Nat.le_refl _, fun _ _ => rfl⟩
      rw [← HEe.out]
      clear hq HD
      by_cases hE : decE b = 0
      · have he0 : ek = 0 := by
          have := HEe.out
          rw [hE] at this
          unfold rdEnd at this
          split at this
          · cases this
          · exact this.symm
        subst he0
        have HE0 : Hid (decE b = 0) := hE
        rw [hE]
        clear hE HEe
        go_wp2_with fail
        obtain ⟨hlib, hln, hlc⟩ := HD9.out.lib
        refine (check_any w9 av k cv Ps hlib hln hlc (by omega)).mono ?_
        rintro e w10 ⟨rfl, hb10⟩
        have HD10 : Hid (DT w w10 b pk 0 (.slice av Ps.length cv) Ps) := by rw [HLn.out]; exact HD9.out.kept hb10
        have HB10 : Hid (Below w.heap.size w w10) := HD10.out.bel
        have HP1 : Hid ((checkN Ps).2 ≠ 0 → RPost w b (.returned (.tuple #[.slice none 0 0, .int .i64 ((checkN Ps).1 : Int), .int .i64 (checkN Ps).2])) w10) := fun h => ⟨HB10.out, .inr ⟨HE0.out, Ps, av, cv, pk, HC2.out, HD10.out, .inl ⟨h, rfl⟩⟩⟩
        have HP2 : Hid ((checkN Ps).2 = 0 → RPost w b (.returned (.tuple #[.slice av k cv, .int .i64 0, .int .i64 0])) w10) := fun h => ⟨HB10.out, .inr ⟨HE0.out, Ps, av, cv, pk, HC2.out, HD10.out, .inr ⟨h, by rw [HLn.out]⟩⟩⟩
        clear hb10 hlib hln hlc HD9 HD10 HC2 HB10 HLn
        generalize (checkN Ps).1 = c1 at *
        generalize (checkN Ps).2 = c2 at *
        by_cases hc : c2 = 0
        · have HF := HP2.out hc
          have HFF : Hid (RPost w b (.returned (.tuple #[.slice av k cv, .int .i64 0, .int .i64 0])) w10) := HF
          subst hc
          clear HP1 HP2 HF
          go_wp2
          refine bodyPost_ret (v := .tuple #[.slice av k cv, .int .i64 0, .int .i64 0]) ?_ rfl HFF.out
          simp [results, Tryd.results13]
        · have HFF : Hid (RPost w b (.returned (.tuple #[.slice none 0 0, .int .i64 (c1 : Int), .int .i64 c2])) w10) := HP1.out hc
          have hc' : (c2 != 0) = true := by simpa using hc
          clear HP1 HP2
          go_wp2
          refine bodyPost_ret (v := .tuple #[.slice none 0 0, .int .i64 (c1 : Int), .int .i64 c2]) ?_ rfl HFF.out
          simp [results, Tryd.results13]
      · have HFF : Hid (RPost w b (.returned (.tuple #[.slice none 0 0, .int .i64 0, .int .i64 (decE b)])) w9) := ⟨HD9.out.bel, .inl ⟨hE, rfl⟩⟩
        have hE' : (decE b != 0) = true := by simpa using hE
        clear HEe HC2 HD9
        generalize decE b = ee at *
        go_wp2
        refine bodyPost_ret (v := .tuple #[.slice none 0 0, .int .i64 0, .int .i64 ee]) ?_ rfl HFF.out
        simp [results, Tryd.results13]
end Go.Proofs.YtkjmeknaedapjaaDoor
