import Derived.Test.YtkjmeknaedapjaaDoorK07
import Derived.Test.YtkjmeknaedapjaaDoorK17
import Derived.Laws.IdiomStrings
import Derived.Test.YtkjmeknaedapjaaDoorK23
import Derived.Test.YtkjmeknaedapjaaDoorK30
/-
  A SLICE OF PROCEDURES OF THE CALL'S OWN; append; 'string(b)'.
-/
namespace Go.Proofs.YtkjmeknaedapjaaDoor
open Go.RowKit Go.Sort

theorem prcs_one (Ps : List Pr) : ∀ v ∈ prcs Ps, v.oneCell' = true := by
  induction Ps with
  | nil => simp [prcs]
  | cons x Ps ih =>
    intro v hv
    rcases List.mem_append.1 (show v ∈ prc x ++ prcs Ps from hv) with h | h
    · simp only [prc, List.mem_cons, List.not_mem_nil, or_false] at h
      rcases h with rfl | rfl | rfl | rfl | rfl | rfl <;> rfl
    · exact ih v h
def OwnP (w : World) (base : Nat) (v : Value) (Ps : List Pr) : Prop := w.ownsRow base 43 6 v Ps.length (prcs Ps)
theorem OwnP.nil (w : World) (base : Nat) : OwnP w base (.slice none 0 0) [] := World.ownsRow_nil _ _ _ _
theorem OwnP.shape {w : World} {base : Nat} {v : Value} {Ps : List Pr} (h : OwnP w base v Ps) :
    (v = .slice none 0 0 ∧ Ps = []) ∨ ∃ g cap, v = .slice (some ⟨g, 0, none⟩) Ps.length cap ∧ base ≤ g ∧ g < w.heap.size ∧ Ps.length ≤ cap ∧ cap ≤ maxLen ∧ ProcsAt w (some ⟨g, 0, none⟩) Ps := by
  obtain ⟨hl, h⟩ := h
  rcases h with ⟨rfl, h0⟩ | ⟨g, cap, cur, rfl, hb, hg, hn, hm, hs, ht⟩
  · exact .inl ⟨rfl, List.eq_nil_of_length_eq_zero h0⟩
  · refine .inr ⟨g, cap, rfl, hb, (Array.getElem?_eq_some_iff.1 hg).1, hn, hm, .inr ⟨g, 0, rfl, fun j u hu => ?_⟩⟩
    have hj : j < Ps.length * 6 := by rw [← prcs_length]; exact (List.getElem?_eq_some_iff.1 hu).1
    have e := World.ownsRow.cellAt (w := w) (base := base) (e := 43) (size := 6) (g := g) (cap := cap) ⟨hl, .inr ⟨g, cap, cur, rfl, hb, hg, hn, hm, hs, ht⟩⟩ j hj
    rw [Nat.zero_add, e, hu]
theorem OwnP.slice {w : World} {base : Nat} {v : Value} {Ps : List Pr} (h : OwnP w base v Ps) : ∃ ao cap, v = .slice ao Ps.length cap ∧ ProcsAt w ao Ps ∧ (ao = none → cap = 0) ∧ Ps.length ≤ cap := by
  rcases h.shape with ⟨rfl, rfl⟩ | ⟨g, cap, rfl, _, _, hc, _, hb⟩
  · exact ⟨none, 0, rfl, .inl rfl, fun _ => rfl, by simp⟩
  · exact ⟨_, cap, rfl, hb, by simp, hc⟩
theorem OwnP.alloc {w : World} {base : Nat} {v : Value} {Ps : List Pr} (h : OwnP w base v Ps) (o : Obj) : OwnP (w.alloc o) base v Ps := World.ownsRow.alloc h o
theorem OwnP.mono {w : World} {base base' : Nat} {v : Value} {Ps : List Pr} (h : OwnP w base v Ps) (hb : base' ≤ base) : OwnP w base' v Ps := by
  obtain ⟨hl, h⟩ := h
  refine ⟨hl, ?_⟩
  rcases h with h | ⟨g, cap, cur, e, hg, r⟩
  · exact .inl h
  · exact .inr ⟨g, cap, cur, e, by omega, r⟩
theorem OwnP.lt {w : World} {base : Nat} {v : Value} {Ps : List Pr} (h : OwnP w base v Ps) : ∀ k, v.ownBlock = some k → base ≤ k ∧ k < w.heap.size := World.ownsRow.lt h
theorem OwnP.same {w w1 : World} {base : Nat} {v : Value} {Ps : List Pr} (h : OwnP w base v Ps) (hs : ∀ g, v.ownBlock = some g → w1.heap[g]? = w.heap[g]?) : OwnP w1 base v Ps := by
  obtain ⟨hl, h⟩ := h
  refine ⟨hl, ?_⟩
  rcases h with h | ⟨g, cap, cur, rfl, hg, hh, r⟩
  · exact .inl h
  · exact .inr ⟨g, cap, cur, rfl, hg, (hs g rfl).trans hh, r⟩
theorem OwnP.kept {w w1 : World} {base : Nat} {v : Value} {Ps : List Pr} (h : OwnP w base v Ps) (hb : Below w.heap.size w w1) : OwnP w1 base v Ps :=
  h.same fun g hg => hb.block g (h.lt g hg).2
theorem infoP : (Tryd.prog.info? 43).map (fun i => (i.zero, i.size, i.bytes)) = some (some (.agg #[.string ⟨#[]⟩, .int .i64 0, .int .i64 0, .int .i64 0, .int .i64 0, .slice none 0 0]), 6, 72) := by kernel_rfl
theorem run_append_procs {w : World} (ty : TypeId) (base : Nat) (v : Value) (Ps : List Pr) (hown : OwnP w base v Ps)
    (ad : Addr) (m c : Nat) (Qs : List Pr) (hm : m = Qs.length) (hsrc : ∀ j u, (prcs Qs)[j]? = some u → w.cell? (ad.add j) = some u) (hlen : (Ps.length + Qs.length) * 72 ≤ 140737488355328) (hbase : base ≤ w.heap.size) :
    ∃ v' w', (Builtin.append_ #[22, 22] ty #[v, .slice (some ad) m c]).run Tryd.prog w = .ok v' w' ∧ OwnP w' base v' (Ps ++ Qs) ∧ w.grownBy w' v.ownBlock ∧ (v'.ownBlock = v.ownBlock ∨ v'.ownBlock = some w.heap.size) := by
  obtain ⟨i0, hi, hz0, hz1, hz2⟩ := info_parts infoP
  subst hm
  obtain ⟨v', w', hr, h2, h3, _, h5⟩ := run_append_own_at (P := Tryd.prog) w base 22 ty 43 i0 (.agg #[.string ⟨#[]⟩, .int .i64 0, .int .i64 0, .int .i64 0, .int .i64 0, .slice none 0 0]) 6 72 Tryd.underlying22 hi hz0 hz1 hz2 rfl (by decide) v Ps.length (prcs Ps) hown ad Qs.length c (prcs Qs) (prcs_length Qs)
      hsrc (prcs_one Qs) (by unfold maxLen; omega) hlen hbase
  exact ⟨v', w', hr, by unfold OwnP; rw [List.length_append, prcs_append]; exact h2, h3, h5⟩
theorem wpList_append_procs {w : World} {ops : Array Oper} {rest : List Oper} {o : Oper} {a : Act} {Q : Exit → Act → World → Prop} (hgd : o.guard = none) (s x : Operand)
    (ho : o.op = .call { callee := .builtin .append, args := #[s, x], argTypes := #[22, 22] }) (base : Nat) (v : Value) (Ps : List Pr) (hs : a.eval s = v) (hown : OwnP w base v Ps)
    (ad : Addr) (m c : Nat) (Qs : List Pr) (hx : a.eval x = .slice (some ad) m c) (hm : m = Qs.length) (hsrc : ∀ j u, (prcs Qs)[j]? = some u → w.cell? (ad.add j) = some u) (hlen : (Ps.length + Qs.length) * 72 ≤ 140737488355328) (hbase : base ≤ w.heap.size)
    (h : ∀ v' w', OwnP w' base v' (Ps ++ Qs) → w.grownBy w' v.ownBlock → (v'.ownBlock = v.ownBlock ∨ v'.ownBlock = some w.heap.size) → wpList Tryd.prog ops Q rest (a.put o.dst v') w') : wpList Tryd.prog ops Q (o :: rest) a w := by
  obtain ⟨v', w', hr, h2, h3, h4⟩ := run_append_procs o.type base v Ps hown ad m c Qs hm hsrc hlen hbase
  refine wpList_plain hgd fun K hK' => ?_
  unfold Oper.wp
  simp [execOp, ho, resolve, invoke, builtin, hs, hx, hr, Result.andThen]
  exact hK' _ _ (h v' w' h2 h3 h4)
theorem step_append_procs {w : World} {ops : Array Oper} {o : Oper} {a : Act} {K' : Act → World → Prop} {Q : Exit → Act → World → Prop} {E : Prop} (hgd : o.guard = none) (s x : Operand)
    (ho : o.op = .call { callee := .builtin .append, args := #[s, x], argTypes := #[22, 22] }) (base : Nat) (v : Value) (Ps : List Pr) (hs : a.eval s = v) (hown : OwnP w base v Ps)
    (ad : Addr) (m c : Nat) (Qs : List Pr) (hx : a.eval x = .slice (some ad) m c) (hm : m = Qs.length) (hsrc : ∀ j u, (prcs Qs)[j]? = some u → w.cell? (ad.add j) = some u) (hlen : (Ps.length + Qs.length) * 72 ≤ 140737488355328) (hbase : base ≤ w.heap.size)
    (h : ∀ v' w', OwnP w' base v' (Ps ++ Qs) → w.grownBy w' v.ownBlock → (v'.ownBlock = v.ownBlock ∨ v'.ownBlock = some w.heap.size) → K' (a.put o.dst v') w') :
    if Region.wanted o (yielded ops a.tmps) = true then Oper.wp Tryd.prog o a w K' Q else E := by
  have hw : Region.wanted o (yielded ops a.tmps) = true := by simp [Region.wanted, hgd]
  rw [if_pos hw]
  obtain ⟨v', w', hr, h2, h3, h4⟩ := run_append_procs o.type base v Ps hown ad m c Qs hm hsrc hlen hbase
  unfold Oper.wp execOp
  simp only [ho, resolve, invoke, builtin, Sem.run_bind, Sem.run_pure, Result.andThen_ok, List.map_toArray, List.map_cons, List.map_nil, hs, hx, hr]
  exact h v' w' h2 h3 h4
/-- one procedure, laid for an append -/
theorem proc_src (w : World) (B : Nat) (x : Pr) (hB : B = w.heap.size) : ∀ j u, (prcs [x])[j]? = some u → (w.alloc (.cells #[.string x.name, .int .i64 x.p.args, .int .i64 x.p.reads, .int .i64 x.p.writes, .int .i64 x.p.locals, .slice x.ao x.n x.cap] 43)).cell? ((⟨B, 0, none⟩ : Addr).add j) = some u := by
  subst hB
  intro j u hu
  rw [addr_add, Nat.zero_add]
  have hb : (w.alloc (.cells #[.string x.name, .int .i64 x.p.args, .int .i64 x.p.reads, .int .i64 x.p.writes, .int .i64 x.p.locals, .slice x.ao x.n x.cap] 43)).heap[w.heap.size]? = some (.cells #[.string x.name, .int .i64 x.p.args, .int .i64 x.p.reads, .int .i64 x.p.writes, .int .i64 x.p.locals, .slice x.ao x.n x.cap] 43 (0, 0)) := heap_alloc_new _ _ rfl
  simp only [World.cell?, hb]
  have e : prcs [x] = [.string x.name, .int .i64 x.p.args, .int .i64 x.p.reads, .int .i64 x.p.writes, .int .i64 x.p.locals, .slice x.ao x.n x.cap] := by simp [prcs, prc]
  rw [e] at hu
  simpa using hu
end Go.Proofs.YtkjmeknaedapjaaDoor
/-
  WHAT STANDS WHILE A LIBRARY IS READ.
-/
namespace Go.Proofs.YtkjmeknaedapjaaDoor
open Go.RowKit Go.Sort

/-- the block of a procedure's code -/
def cb (x : Pr) : Option Nat := (Value.slice x.ao x.n x.cap).ownBlock
/-- a procedure whose code is the call's own -/
structure PrC (W : World) (base : Nat) (x : Pr) : Prop where
  len : x.n = x.L.length
  own : OwnK W base (.slice x.ao x.n x.cap) x.L
  nin : NIn x.p
  kin : ∀ k ∈ x.L, KIn k
  str : x.name.size ≤ 31
  big : x.n ≤ 256
theorem PrC.ok {W : World} {base : Nat} {x : Pr} (h : PrC W base x) : PrOK W x := by
  obtain ⟨ao, cap, e, hk, hn, _⟩ := h.own.slice
  simp only [Value.slice.injEq] at e
  obtain ⟨e1, _, e3⟩ := e
  exact ⟨h.len, by rw [e1]; exact hk, h.nin, h.kin, by rw [e1, e3]; exact hn, by have := h.str; omega, by have := h.big; omega⟩
theorem PrC.same {W W' : World} {base : Nat} {x : Pr} (h : PrC W base x) (hs : ∀ g, cb x = some g → W'.heap[g]? = W.heap[g]?) : PrC W' base x := ⟨h.len, h.own.same hs, h.nin, h.kin, h.str, h.big⟩
theorem PrC.lt {W : World} {base : Nat} {x : Pr} (h : PrC W base x) : ∀ g, cb x = some g → base ≤ g ∧ g < W.heap.size := h.own.lt

/-- 'string(b)' of bytes of the call's own -/
theorem string_own {W : World} {base : Nat} {v : Value} {bs : List Nat} (h : OwnB W base v bs) : (convert 23 9 v).run Tryd.prog W = .ok (.string (nmS bs)) W := by
  rcases h.shape with ⟨rfl, rfl⟩ | ⟨g, cap, rfl, _, _, _, _, hb⟩
  · rw [run_convert_bytes_string W 23 9 5 none 0 0 Tryd.underlying23 Tryd.underlying5 Tryd.underlying9]
    rfl
  · have e : bs.length = (bs.map UInt8.ofNat).length := by simp
    rw [e]
    refine run_convert_bytes_back (P := Tryd.prog) W 23 9 5 ⟨g, 0, none⟩ cap (bs.map UInt8.ofNat) Tryd.underlying23 Tryd.underlying5 Tryd.underlying9 fun j hj => ?_
    have hj' : j < bs.length := by simpa using hj
    rw [addr_add, Nat.zero_add]
    obtain ⟨hz, h1 | ⟨b', o', e', hc⟩⟩ := hb
    · rw [h1] at hj'; simp at hj'
    · cases e'
      have := hc j hj'
      rw [Nat.zero_add] at this
      rw [this]
      have e2 : bs.getD j 0 = bs[j] := by simp [List.getD_eq_getElem?_getD, List.getElem?_eq_getElem hj']
      rw [e2, List.getElem_map, u8_back _ (hz _ (List.getElem_mem hj'))]

/-- the Reader of a library's bytes, and what was read of it -/
structure DT (w W : World) (b : List Nat) (p : Nat) (e : Int) (v : Value) (Ps : List Pr) : Prop where
  rd : IsReader W (w.heap.size + 1) (some ⟨w.heap.size, 0, none⟩) b.length b p e
  bel : Below w.heap.size w W
  own : OwnP W (w.heap.size + 2) v Ps
  ok : ∀ x ∈ Ps, PrC W (w.heap.size + 2) x
  ap : ∀ x ∈ Ps, ∀ g, cb x = some g → v.ownBlock ≠ some g
  pw : Ps.Pairwise fun x y => ∀ g, cb x = some g → cb y ≠ some g
theorem DT.step {w W W' : World} {b : List Nat} {p p2 : Nat} {e e2 : Int} {v : Value} {Ps : List Pr} (h : DT w W b p e v Ps) (hr : Reads W (w.heap.size + 1) (some ⟨w.heap.size, 0, none⟩) b.length b p2 e2 W') : DT w W' b p2 e2 v Ps := by
  have hne : ∀ g, w.heap.size + 2 ≤ g → some g ≠ some (w.heap.size + 1) := fun g hg e => by cases e; omega
  refine ⟨hr.1, ?_, h.own.same fun g hg => hr.2.block g (h.own.lt g hg).2 (hne g (h.own.lt g hg).1), fun x hx => (h.ok x hx).same fun g hg => hr.2.block g ((h.ok x hx).lt g hg).2 (hne g ((h.ok x hx).lt g hg).1), h.ap, h.pw⟩
  exact ⟨hr.2.os.trans h.bel.os, hr.2.tape.trans h.bel.tape, hr.2.output.trans h.bel.output, Nat.le_trans h.bel.size hr.2.size, fun k hk => by
    rw [hr.2.block k (Nat.lt_of_lt_of_le hk h.bel.size) (fun e => by cases e; omega)]; exact h.bel.block k hk⟩
theorem DT.kept {w W W' : World} {b : List Nat} {p : Nat} {e : Int} {v : Value} {Ps : List Pr} (h : DT w W b p e v Ps) (hb : Below W.heap.size W W') : DT w W' b p e v Ps :=
  ⟨h.rd.kept hb, h.bel.trans (hb.mono h.bel.size), h.own.kept hb, fun x hx => (h.ok x hx).same fun g hg => hb.block g ((h.ok x hx).lt g hg).2, h.ap, h.pw⟩
/-- what lies lies below -/
theorem DT.under {w W : World} {b : List Nat} {p : Nat} {e : Int} {v : Value} {Ps : List Pr} (h : DT w W b p e v Ps) : (∀ x ∈ Ps, ∀ g, cb x = some g → g < W.heap.size) ∧ (∀ g, v.ownBlock = some g → g < W.heap.size) ∧ w.heap.size + 2 ≤ W.heap.size :=
  ⟨fun x hx g hg => ((h.ok x hx).lt g hg).2, fun g hg => (h.own.lt g hg).2, by have := h.rd.lt; omega⟩
/-- behind the append -/
theorem DT.put {w W W' : World} {b : List Nat} {p S : Nat} {e : Int} {v v' : Value} {Ps : List Pr} {x : Pr} (h : DT w W b p e v Ps) (hx : PrC W S x) (h1 : ∀ y ∈ Ps, ∀ g, cb y = some g → g < S) (h2 : ∀ g, v.ownBlock = some g → g < S) (h3 : w.heap.size + 2 ≤ S)
    (ho : OwnP W' (w.heap.size + 2) v' (Ps ++ [x])) (hg : W.grownBy W' v.ownBlock) (hv : v'.ownBlock = v.ownBlock ∨ v'.ownBlock = some W.heap.size) : DT w W' b p e v' (Ps ++ [x]) := by
  have hvb : ∀ k, v.ownBlock = some k → w.heap.size + 2 ≤ k := fun k hk => (h.own.lt k hk).1
  have hs : ∀ g, g < W.heap.size → v.ownBlock ≠ some g → W'.heap[g]? = W.heap[g]? := fun g hl hn => hg.block g hl (fun e => hn e.symm)
  have hxc : PrC W' (w.heap.size + 2) x := by
    have := hx.same (W' := W') fun g hg' => hs g (hx.lt g hg').2 fun e => by have := h2 g e; have := (hx.lt g hg').1; omega
    exact ⟨this.len, this.own.mono h3, this.nin, this.kin, this.str, this.big⟩
  refine ⟨?_, ?_, ho, ?_, ?_, ?_⟩
  · refine h.rd.grown hg (fun e => ?_) (.inr fun e => ?_)
    · have := hvb _ e.symm; omega
    · have := hvb w.heap.size e.symm; omega
  · exact ⟨hg.os.trans h.bel.os, hg.tape.trans h.bel.tape, hg.output.trans h.bel.output, Nat.le_trans h.bel.size hg.size, fun k hk => by
      rw [hs k (Nat.lt_of_lt_of_le hk h.bel.size) (fun e => by have := hvb k e; omega)]; exact h.bel.block k hk⟩
  · intro y hy
    rcases List.mem_append.1 hy with hy | hy
    · exact (h.ok y hy).same fun g hg' => hs g ((h.ok y hy).lt g hg').2 (h.ap y hy g hg')
    · simp at hy; subst hy; exact hxc
  · intro y hy g hg' e
    have hgl : g < W.heap.size := by
      rcases List.mem_append.1 hy with hy | hy
      · exact ((h.ok y hy).lt g hg').2
      · simp at hy; subst hy; exact (hx.lt g hg').2
    rcases hv with hv | hv
    · rw [hv] at e
      rcases List.mem_append.1 hy with hy | hy
      · exact h.ap y hy g hg' e
      · simp at hy; subst hy
        have := h2 g e
        have := (hx.lt g hg').1
        omega
    · rw [hv] at e; cases e; omega
  · rw [List.pairwise_append]
    refine ⟨h.pw, List.pairwise_singleton _ _, fun y hy z hz g hg' e => ?_⟩
    simp at hz; subst hz
    have := h1 y hy g hg'
    have := (hx.lt g e).1
    omega
theorem DT.lib {w W : World} {b : List Nat} {p : Nat} {e : Int} {ao : Option Addr} {n cap : Nat} {Ps : List Pr} (h : DT w W b p e (.slice ao n cap) Ps) : LibAt W ao Ps ∧ n = Ps.length ∧ n ≤ cap := by
  obtain ⟨ao', cap', e', hk, _, hc⟩ := h.own.slice
  simp only [Value.slice.injEq] at e'
  obtain ⟨e1, e2, e3⟩ := e'
  exact ⟨⟨by rw [e1]; exact hk, fun x hx => (h.ok x hx).ok⟩, e2, by rw [e2, e3]; exact hc⟩
/-- what Decode answers -/
def RPost (w : World) (b : List Nat) (e' : Ending) (W : World) : Prop :=
  Below w.heap.size w W ∧
  ((decE b ≠ 0 ∧ e' = .returned (.tuple #[.slice none 0 0, .int .i64 0, .int .i64 (decE b)])) ∨
   (decE b = 0 ∧ ∃ Ps ao cap p, Ps.map core = (decA b).1 ∧ DT w W b p 0 (.slice ao Ps.length cap) Ps ∧
     (((checkN Ps).2 ≠ 0 ∧ e' = .returned (.tuple #[.slice none 0 0, .int .i64 ((checkN Ps).1 : Int), .int .i64 (checkN Ps).2])) ∨
      ((checkN Ps).2 = 0 ∧ e' = .returned (.tuple #[.slice ao Ps.length cap, .int .i64 0, .int .i64 0])))))
end Go.Proofs.YtkjmeknaedapjaaDoor
/-
  THE WALK OF List.
-/
namespace Go.Proofs.YtkjmeknaedapjaaDoor
open Go.RowKit Go.Sort Go.Shelf

/-- lines, each ended by a line feed -/
def joinL (M : List (List UInt8)) : List UInt8 := M.flatMap fun l => l ++ [10]
theorem joinL_snoc (M : List (List UInt8)) (l : List UInt8) : joinL (M ++ [l]) = joinL M ++ (l ++ [10]) := by simp [joinL]
theorem joinL_append (M N : List (List UInt8)) : joinL (M ++ N) = joinL M ++ joinL N := by simp [joinL]
theorem joinL_len (M : List (List UInt8)) (h : ∀ l ∈ M, l.length ≤ 150) : (joinL M).length ≤ 151 * M.length := by
  induction M with
  | nil => simp [joinL]
  | cons l M ih =>
    have h1 := ih (fun x hx => h x (by simp [hx]))
    have h2 := h l (by simp)
    simp only [joinL, List.flatMap_cons, List.length_append, List.length_cons, List.length_nil] at h1 ⊢
    omega
def nmL' (x : Pr) : List UInt8 := x.name.data.toList
def linesX (x : Pr) : List (List UInt8) := linesP (nmL' x) x.p x.L
def textX (x : Pr) : List UInt8 := joinL (linesX x)
def listT : List Pr → List UInt8
  | [] => []
  | x :: Ps => textX x ++ listT Ps
theorem listT_append (A B : List Pr) : listT (A ++ B) = listT A ++ listT B := by
  induction A with
  | nil => rfl
  | cons k A ih => simp [listT, ih]
theorem listT_take (Ps : List Pr) (k : Nat) (h : k < Ps.length) : listT (Ps.take (k + 1)) = listT (Ps.take k) ++ textX (pd Ps k) := by
  rw [pd_take Ps k h, listT_append]; simp [listT]
/-- a procedure that is sound -/
structure Snd (x : Pr) : Prop where
  nm : x.name.size ≤ 31
  nin : NIn x.p
  kin : ∀ k ∈ x.L, KIn k
  big : x.L.length ≤ 256
  jmp : ∀ k ∈ x.L, jumpB k.1 = true → 0 ≤ k.2 ∧ k.2 ≤ (x.L.length : Int)
theorem Snd.of {W : World} {ao : Option Addr} {Ps : List Pr} (h : (checkN Ps).2 = 0) (hl : LibAt W ao Ps) : ∀ x ∈ Ps, Snd x := by
  intro x hx
  have h31 := check_small h x hx
  have hok := hl.ok x hx
  obtain ⟨i, hi, rfl⟩ := List.mem_iff_getElem.1 hx
  have e : pd Ps i = Ps[i] := by simp [pd, List.getD_eq_getElem?_getD, List.getElem?_eq_getElem hi]
  have hv := (chk_zero ((check_name h).2 i hi)).2.2
  rw [e] at hv
  obtain ⟨h1, h2, _⟩ := verify_ok hv
  refine ⟨h31, hok.nin, hok.kin, ((limB_iff _ _).1 h1).2.2.2.2, fun k hk hj => ?_⟩
  obtain ⟨j, hj', rfl⟩ := List.mem_iff_getElem.1 hk
  have h3 := firstE_zero h2 j hj'
  have e2 : cd Ps[i].L j = Ps[i].L[j] := by simp [cd, List.getD_eq_getElem?_getD, List.getElem?_eq_getElem hj']
  simp only [lookN, e2] at h3
  split at h3
  · cases h3
  · split at h3
    · cases h3
    · rename_i hn
      have hn' : ¬ (Ps[i].L[j].2 ≤ (j : Int) ∨ (Ps[i].L.length : Int) < Ps[i].L[j].2) := fun hh => hn ⟨hj, hh⟩
      omega
theorem bodyL_len {L : List K} (hk : ∀ k ∈ L, KIn k) (hb : L.length ≤ 256) : ∀ k, k ≤ L.length → ∀ l ∈ bodyL L k, l.length ≤ 150
  | 0, _, l, hl => by simp [bodyL] at hl
  | k + 1, hkl, l, hl => by
    have ih := bodyL_len hk hb k (by omega)
    simp only [bodyL, List.mem_append] at hl
    rcases hl with (hl | hl) | hl
    · exact ih l hl
    · split at hl
      · simp at hl; subst hl
        have := labelL_len (n := (k : Int)) (by unfold In64; omega)
        simp; omega
      · cases hl
    · simp at hl; subst hl
      have : (instrL (cd L k)).length ≤ 40 := instrL_len (hk _ (kd_mem (L := L) (j := k) (by omega)))
      simp; omega
theorem linesX_len {x : Pr} (h : Snd x) : (∀ l ∈ linesX x, l.length ≤ 150) ∧ (linesX x).length ≤ 515 := by
  have hb := h.big
  have hn : (nmL' x).length ≤ 31 := by unfold nmL'; simpa using h.nm
  have h1 := bodyL_length x.L x.L.length
  constructor
  · intro l hl
    simp only [linesX, linesP, List.mem_append] at hl
    rcases hl with ((hl | hl) | hl) | hl
    · simp at hl; subst hl
      have := flL_len h.nin hn 4
      omega
    · exact bodyL_len h.kin hb _ (Nat.le_refl _) l hl
    · split at hl
      · simp at hl; subst hl
        have := labelL_len (n := (x.L.length : Int)) (by unfold In64; omega)
        simp; omega
      · cases hl
    · simp at hl; subst hl; simp [endL]
  · simp only [linesX, linesP, List.length_append, List.length_cons, List.length_nil]
    split <;> simp <;> omega
theorem textX_len {x : Pr} (h : Snd x) : (textX x).length ≤ 80000 := by
  have h1 := joinL_len _ (linesX_len h).1
  have h2 := (linesX_len h).2
  unfold textX; omega
theorem listT_len : ∀ Ps : List Pr, (∀ x ∈ Ps, Snd x) → (listT Ps).length ≤ 80000 * Ps.length
  | [], _ => by simp [listT]
  | x :: Ps, h => by
    have h1 := textX_len (h x (by simp))
    have h2 := listT_len Ps (fun y hy => h y (by simp [hy]))
    simp only [listT, List.length_append, List.length_cons]; omega
/-- what List answers -/
def outT (Ps : List Pr) : List UInt8 := if (checkN Ps).2 = 0 ∧ (listT Ps).length ≤ 65536 then listT Ps else []
def outE (Ps : List Pr) : Int := if (checkN Ps).2 ≠ 0 then (checkN Ps).2 else if (listT Ps).length ≤ 65536 then 0 else 44
/-- signs as numbers -/
def nb (l : List UInt8) : List Nat := l.map (·.toNat)
theorem nb_append (a b : List UInt8) : nb (a ++ b) = nb a ++ nb b := by simp [nb]
theorem nb_S (l : List UInt8) : nmB (S l) = nb l := by simp [nmB, S, nb]
theorem nmS_nb (l : List UInt8) : nmS (nb l) = S l := by
  simp only [nmS, nb, S, List.map_map]
  congr 2
  conv => rhs; rw [← List.map_id l]
  exact List.map_congr_left fun z _ => by simp
theorem nb_len (l : List UInt8) : (nb l).length = l.length := by simp [nb]

/-- bytes and texts never share a block -/
theorem bs_apart {W : World} {B B' : Nat} {v u : Value} {M : List Nat} {xs : List Value} (h : OwnB W B v M) (k : OwnS W B' u xs) : ∀ q, u.ownBlock = some q → v.ownBlock ≠ some q := by
  intro q hq e
  obtain ⟨_, _, h⟩ := h
  obtain ⟨_, k⟩ := k
  rcases h with ⟨rfl, _⟩ | ⟨g, cp, cur, rfl, _, hg, _⟩
  · cases e
  · rcases k with ⟨rfl, _⟩ | ⟨g', cp', cur', rfl, _, hg', _⟩
    · cases hq
    · cases e; cases hq
      rw [hg] at hg'
      injection hg' with e1
      injection e1 with _ e2
      revert e2
      decide
theorem joinL_take (M : List (List UInt8)) (j : Nat) (h : j < M.length) : joinL (M.take (j + 1)) = joinL (M.take j) ++ (M.getD j [] ++ [10]) := by
  rw [List.take_succ_eq_append_getElem h, joinL_snoc]
  simp [List.getD_eq_getElem?_getD, List.getElem?_eq_getElem h]
set_option maxRecDepth 100000 in
set_option maxHeartbeats 2000000 in
theorem list_any (w : World) (ao : Option Addr) (n cap : Nat) (Ps : List Pr) (h : LibAt w ao Ps) (hn : n = Ps.length) (hc : n ≤ cap) (hm : n ≤ 140737488351232) (hv : Vs w) :
    Calls Tryd.prog 18 #[.slice ao n cap] w fun e w' => e = .returned (.tuple #[.string (S (outT Ps)), .int .i64 (outE Ps)]) ∧ Below w.heap.size w w' := by
  have H : Hid (LibAt w ao Ps) := h
  have HN : Hid (n = Ps.length) := hn
  have HV : Hid (Vs w) := hv
  clear h hn hv
  go_enter Tryd.func18, Tryd.ntmps18
  go_wp2_with fail
  refine (check_any w ao n cap Ps H.out HN.out hc hm).mono ?_
  rintro e w1 ⟨rfl, hb1⟩
  have HB1 : Hid (Below w.heap.size w w1) := hb1
  clear hb1
  by_cases h0 : (checkN Ps).2 = 0
  · have HSd : Hid (∀ x ∈ Ps, Snd x) := Snd.of h0 H.out
    have h64 : n ≤ 64 := by have := (check_name h0).1; have := HN.out; omega
    have HO : Hid (outT Ps = (if (listT Ps).length ≤ 65536 then listT Ps else []) ∧ outE Ps = (if (listT Ps).length ≤ 65536 then 0 else 44)) := by
      unfold outT outE
      refine ⟨?_, by rw [if_neg (by simpa using h0)]⟩
      by_cases h6 : (listT Ps).length ≤ 65536
      · rw [if_pos ⟨h0, h6⟩, if_pos h6]
      · rw [if_neg (fun hh => h6 hh.2), if_neg h6]
    have HE0 : Hid (OwnB w1 w.heap.size (.slice none 0 0) (nb (listT (Ps.take 0)))) := OwnB.nil _ _
    rw [h0]
    clear h0
    generalize (checkN Ps).1 = at1 at *
    go_wp2_with fail
    go_loopw [6, 21] (fun v y wr => ∃ (k l : Nat) (a : Option Addr) (c : Nat), k ≤ n ∧ v = .slice a l c ∧ y = .int .i64 (k : Int) ∧ Hid (OwnB wr w.heap.size (.slice a l c) (nb (listT (Ps.take k)))) ∧ Hid (Below w.heap.size w wr)) (fun _ y _ => n - (intOf y).toNat)
    case atStart => exact ⟨0, 0, none, 0, Nat.zero_le _, rfl, rfl, HE0, HB1⟩
    case round =>
      clear HE0 HB1
      obtain ⟨k, l, a, c, hk, rfl, rfl, HE, HB⟩ := hrel
      by_cases hlt : k < n
      · have hlt' : k < Ps.length := by have := HN.out; omega
        obtain ⟨b, off, rfl, c0, c1, c2, c3, c4, c5⟩ := (H.out.at_.kept HB.out).get k hlt'
        have HT : Hid (listT (Ps.take (k + 1)) = listT (Ps.take k) ++ textX (pd Ps k)) := listT_take Ps k hlt'
        have HOk : Hid (PrOK w (pd Ps k)) := H.out.ok _ (pd_mem hlt')
        have HSn : Hid (Snd (pd Ps k)) := HSd.out _ (pd_mem hlt')
        have hbt : (listT (Ps.take k)).length ≤ 80000 * 64 := by
          have h1 := listT_len (Ps.take k) (fun x hx => HSd.out x (List.mem_of_mem_take hx))
          have h2 : (Ps.take k).length ≤ 64 := by rw [List.length_take]; omega
          omega
        generalize pd Ps k = x at *
        have hx31 : (nmL' x).length ≤ 31 := by unfold nmL'; simpa using HSn.out.nm
        have HNmS : Hid (x.name = S (nmL' x)) := (S_of _).symm
        rw [HNmS.out] at c0
        have HBl : Hid (Below wr.heap.size wr (wr.alloc (.cells #[.string (S (nmL' x)), .int .i64 x.p.args, .int .i64 x.p.reads, .int .i64 x.p.writes, .int .i64 x.p.locals, .slice x.ao x.n x.cap] 43))) := (Below.refl _ _).alloc (Nat.le_refl _) _
        have HX1 : Hid (RBox (wr.alloc (.cells #[.string (S (nmL' x)), .int .i64 x.p.args, .int .i64 x.p.reads, .int .i64 x.p.writes, .int .i64 x.p.locals, .slice x.ao x.n x.cap] 43)) wr.heap.size x) := by have := RBox.new wr x; rw [HNmS.out] at this; exact this
        have HE1 := HE.out.kept HBl.out
        have HE1' : Hid (OwnB (wr.alloc (.cells #[.string (S (nmL' x)), .int .i64 x.p.args, .int .i64 x.p.reads, .int .i64 x.p.writes, .int .i64 x.p.locals, .slice x.ao x.n x.cap] 43)) w.heap.size (.slice a l c) (nb (listT (Ps.take k)))) := HE1
        have HB1 : Hid (Below w.heap.size w (wr.alloc (.cells #[.string (S (nmL' x)), .int .i64 x.p.args, .int .i64 x.p.reads, .int .i64 x.p.writes, .int .i64 x.p.locals, .slice x.ao x.n x.cap] 43))) := HB.out.trans (HBl.out.mono HB.out.size)
        clear HE1 HE HB
        go_upto_region 8 with fail
        clear c0 c1 c2 c3 c4 c5
        generalize wr.alloc (.cells #[.string (S (nmL' x)), .int .i64 x.p.args, .int .i64 x.p.reads, .int .i64 x.p.writes, .int .i64 x.p.locals, .slice x.ao x.n x.cap] 43) = w2 at *
        generalize wr.heap.size = B2 at *
        obtain ⟨x0, x1, x2, x3, x4, x5⟩ := HX1.out.cells
        rw [HNmS.out] at x0
        go_wp2_with fail
        refine (listProc_any w2 (nmL' x) x.p x.ao x.n x.cap x.L HSn.out.nin hx31 ⟨HOk.out.ks.kept HB1.out, HSn.out.kin, HSn.out.jmp, HSn.out.big⟩ HOk.out.len (HV.out.kept HB1.out)).mono ?_
        rintro e w3 ⟨v3, rfl, ho3, hb3⟩
        have HLen : Hid ((linesX x).length ≤ 515 ∧ ∀ l ∈ linesX x, l.length ≤ 150) := ⟨(linesX_len HSn.out).2, (linesX_len HSn.out).1⟩
        have HTx : Hid (textX x = joinL (linesX x)) := rfl
        have ho3' : OwnS w3 w2.heap.size v3 (tv (linesX x)) := ho3
        obtain ⟨a3, c3', hv3⟩ := ho3'.opn
        rw [tv_length] at hv3
        generalize linesX x = M at *
        obtain ⟨ml, hml⟩ : ∃ ml, ml = M.length := ⟨_, rfl⟩
        rw [← hml] at hv3
        subst hv3
        have HMl : Hid (ml = M.length) := hml
        have hml2 : ml ≤ 515 := by rw [hml]; exact HLen.out.1
        have HS3 : Hid (OwnS w3 w2.heap.size (.slice a3 ml c3') (tv M)) := ho3'
        have HE3 : Hid (OwnB w3 w.heap.size (.slice a l c) (nb (listT (Ps.take k) ++ joinL (M.take 0)))) := by
          have := HE1'.out.kept hb3
          rw [List.take_zero]; show OwnB w3 w.heap.size _ _; simpa [joinL] using this
        have HB3 : Hid (Below w.heap.size w w3) := HB1.out.trans (hb3.mono HB1.out.size)
        clear ho3 ho3' hb3 hml HE1' HB1 HX1 x0 x1 x2 x3 x4 x5 HBl HNmS
        generalize listT (Ps.take k) = T at *
        go_wp2_with fail
        go_loopw [6, 28] (fun v y wr => ∃ (j l : Nat) (a : Option Addr) (c : Nat), j ≤ ml ∧ v = .slice a l c ∧ y = .int .i64 (j : Int) ∧ Hid (OwnB wr w.heap.size (.slice a l c) (nb (T ++ joinL (M.take j)))) ∧ Hid (OwnS wr w2.heap.size (.slice a3 ml c3') (tv M)) ∧ Hid (Below w.heap.size w wr)) (fun _ y _ => ml - (intOf y).toNat)
        case atStart => exact ⟨0, l, a, c, Nat.zero_le _, rfl, rfl, HE3, HS3, HB3⟩
        case round =>
          clear HE3 HS3 HB3
          obtain ⟨j, l4, a4, c4', hj, rfl, rfl, HE, HS, HB⟩ := hrel
          by_cases hjl : j < ml
          · have hjM : j < M.length := by have := HMl.out; omega
            obtain ⟨g3, rfl, d0⟩ : ∃ g3, a3 = some ⟨g3, 0, none⟩ ∧ wr.cell? ⟨g3, j, none⟩ = some (.string (S (M.getD j []))) := by
              rcases HS.out.shape with ⟨e, h0⟩ | ⟨g3, cp, e, _, _, _, hcs⟩
              · have : M.length = 0 := by rw [← tv_length, h0]; rfl
                omega
              · injection e with e1 e2 e3
                refine ⟨g3, e1, hcs j _ ?_⟩
                simp [tv, List.getD_eq_getElem?_getD, List.getElem?_eq_getElem hjM]
            have HJ : Hid (joinL (M.take (j + 1)) = joinL (M.take j) ++ (M.getD j [] ++ [10])) := joinL_take M j hjM
            have hll : (M.getD j []).length ≤ 150 := by
              have : M.getD j [] ∈ M := by simp [List.getD_eq_getElem?_getD, List.getElem?_eq_getElem hjM]
              exact HLen.out.2 _ this
            have hjt : (joinL (M.take j)).length ≤ 80000 := by
              have h1 := joinL_len (M.take j) (fun l hl => HLen.out.2 l (List.mem_of_mem_take hl))
              have h2 : (M.take j).length ≤ 515 := by rw [List.length_take]; omega
              omega
            generalize M.getD j [] = ln at *
            obtain ⟨X, hX⟩ : ∃ X, X = T ++ joinL (M.take j) := ⟨_, rfl⟩
            have hXl : X.length ≤ 6000000 := by rw [hX, List.length_append]; omega
            rw [← hX] at HE
            have HXe : Hid (T ++ joinL (M.take (j + 1)) = X ++ ln ++ [10]) := by show _ = _; rw [HJ.out, hX]; simp
            have hsz : (S ln).size ≤ 150 := by rw [S_size]; exact hll
            clear hX HJ hjt
            go_wp2_with (first
              | (at_builtin; refine wpList_append_bytes rfl _ _ rfl w.heap.size (.slice a5 l5 c5) (nb (X ++ ln)) rfl (HE5.out.kept ((Below.refl _ _).alloc (Nat.le_refl _) _)) _ 1 1 [10] rfl rfl (OwnB.made (w := w5) (L := [10]) (by decide) (by decide) (Nat.le_refl _)).bytes.1 (by simp) (by rw [nb_len, List.length_append]; simp only [List.length_cons, List.length_nil]; omega) (by have := HB5.out.size; simp only [World.size_alloc]; omega) ?_; intro v6 w6 ho6 hg6)
              | (at_builtin; refine wpList_append_str rfl _ _ rfl w.heap.size (.slice a4 l4 c4') (nb X) rfl HE.out (S ln) rfl (by rw [nb_len]; omega) HB.out.size ?_; intro v5 w5 ho5 hg5; have HS5 : Hid (OwnS w5 w2.heap.size (.slice (some ⟨g3, 0, none⟩) ml c3') (tv M)) := HS.out.grown hg5 (fun q hq e => bs_apart HE.out HS.out q hq e); have HB5 : Hid (Below w.heap.size w w5) := HB.out.trans (below_grown hg5 (fun q hq => (HE.out.2.lt q hq).1) HB.out.size); have HE5' : OwnB w5 w.heap.size v5 (nb (X ++ ln)) := (by rw [nb_append, ← nb_S ln]; exact ho5); obtain ⟨a5, c5, hv5, _, _, _⟩ := HE5'.slice; obtain ⟨l5, hl5⟩ : ∃ l5, l5 = (nb (X ++ ln)).length := ⟨_, rfl⟩; rw [← hl5] at hv5; clear hl5; subst hv5; have HE5 : Hid (OwnB w5 w.heap.size (.slice a5 l5 c5) (nb (X ++ ln))) := HE5'; clear HE5' ho5 hg5))
            have HBl5 : Hid (Below w5.heap.size w5 (w5.alloc (.cells #[.int .u8 10] 5))) := (Below.refl _ _).alloc (Nat.le_refl _) _
            have HE6' : OwnB w6 w.heap.size v6 (nb (T ++ joinL (M.take (j + 1)))) := by rw [HXe.out, nb_append]; exact ho6
            have HS6 : Hid (OwnS w6 w2.heap.size (.slice (some ⟨g3, 0, none⟩) ml c3') (tv M)) := (HS5.out.kept HBl5.out).grown hg6 (fun q hq e => bs_apart HE5.out HS5.out q hq e)
            have HB6 : Hid (Below w.heap.size w w6) := (HB5.out.trans (HBl5.out.mono HB5.out.size)).trans (below_grown hg6 (fun q hq => (HE5.out.2.lt q hq).1) (by have := HB5.out.size; simp only [World.size_alloc]; omega))
            obtain ⟨a6, c6, hv6, _, _, _⟩ := HE6'.slice
            obtain ⟨l6, hl6⟩ : ∃ l6, l6 = (nb (T ++ joinL (M.take (j + 1)))).length := ⟨_, rfl⟩
            rw [← hl6] at hv6
            clear hl6
            subst hv6
            have HE6 : Hid (OwnB w6 w.heap.size (.slice a6 l6 c6) (nb (T ++ joinL (M.take (j + 1))))) := HE6'
            clear HE6' ho6 hg6 HE5 HS5 HB5 HBl5 HE HS HB
            go_wp2_with fail
            go_roundw
            case rel => exact ⟨j + 1, l6, a6, c6, by omega, rfl, by go_num, HE6, HS6, HB6⟩
            case measure => simp [intOf]; omega
          · obtain rfl : j = ml := by omega
            have HEn : Hid (OwnB wr w.heap.size (.slice a4 l4 c4') (nb (listT (Ps.take (k + 1))))) := by
              have := HE.out
              rw [HMl.out, List.take_length] at this
              rw [HT.out, HTx.out]; exact this
            clear HE HS
            go_wp2_with fail
            go_roundw
            case rel => exact ⟨k + 1, l4, a4, c4', by omega, rfl, by go_num, HEn, HB⟩
            case measure => simp [intOf]; omega
      · obtain rfl : k = n := by omega
        have HEf : Hid (OwnB wr w.heap.size (.slice a l c) (nb (listT Ps))) := by have := HE.out; rw [HN.out, List.take_length] at this; exact this
        have hl : l = (listT Ps).length := by rw [← nb_len]; exact HEf.out.bytes.2
        have hcv := string_own HEf.out
        rw [nmS_nb] at hcv
        clear HE
        by_cases h6 : (listT Ps).length ≤ 65536
        · have h6' : ¬ ((65536 : Int) < (l : Int)) := by omega
          have HOT : Hid (outT Ps = listT Ps ∧ outE Ps = 0) := ⟨by rw [HO.out.1, if_pos h6], by rw [HO.out.2, if_pos h6]⟩
          clear hl h6
          go_wp2
          go_ret2
          exact ⟨by rw [HOT.out.1, HOT.out.2]; rfl, HB.out⟩
        · have h6' : (65536 : Int) < (l : Int) := by omega
          have HOT : Hid (outT Ps = [] ∧ outE Ps = 44) := ⟨by rw [HO.out.1, if_neg h6], by rw [HO.out.2, if_neg h6]⟩
          clear hl h6
          go_wp2
          go_ret2
          exact ⟨by rw [HOT.out.1, HOT.out.2]; rfl, HB.out⟩
  · have h0' : ((checkN Ps).2 != 0) = true := by simpa using h0
    have HO : Hid (outT Ps = [] ∧ outE Ps = (checkN Ps).2) := by unfold outT outE; exact ⟨if_neg (fun hh => h0 hh.1), if_pos h0⟩
    generalize hc2 : (checkN Ps).2 = c2 at *
    generalize (checkN Ps).1 = at1 at *
    clear h0
    go_wp2
    go_ret2
    exact ⟨by rw [HO.out.1, HO.out.2]; rfl, HB1.out⟩
end Go.Proofs.YtkjmeknaedapjaaDoor
