/-
  A SLICE OF PROCEDURES OF THE CALL'S OWN; append; 'string(b)'.
-/
import Derived.Test.YtkpggbjibngplaaLProc
import Derived.Test.YtkpggbjibngplaaOwn
import Derived.Laws.IdiomStrings
namespace Go.Proofs.Ytkpggbjibngplaa
open Go.RowKit Go.Sort

theorem prcs_one (Ps : List Pr) : ∀ v ∈ prcs Ps, v.oneCell' = true := by
  induction Ps with
  | nil => simp [prcs]
  | cons x Ps ih =>
    intro v hv
    rcases List.mem_append.1 (show v ∈ prc x ++ prcs Ps from hv) with h | h
    · simp only [prc, List.mem_cons, List.not_mem_nil, or_false] at h
      rcases h with rfl | rfl | rfl | rfl | rfl | rfl <;> rfl
    · exact ih v h
def OwnP (w : World) (base : Nat) (v : Value) (Ps : List Pr) : Prop := w.ownsRow base 34 6 v Ps.length (prcs Ps)
theorem OwnP.nil (w : World) (base : Nat) : OwnP w base (.slice none 0 0) [] := World.ownsRow_nil _ _ _ _
theorem OwnP.shape {w : World} {base : Nat} {v : Value} {Ps : List Pr} (h : OwnP w base v Ps) :
    (v = .slice none 0 0 ∧ Ps = []) ∨ ∃ g cap, v = .slice (some ⟨g, 0, none⟩) Ps.length cap ∧ base ≤ g ∧ g < w.heap.size ∧ Ps.length ≤ cap ∧ cap ≤ maxLen ∧ ProcsAt w (some ⟨g, 0, none⟩) Ps := by
  obtain ⟨hl, h⟩ := h
  rcases h with ⟨rfl, h0⟩ | ⟨g, cap, cur, rfl, hb, hg, hn, hm, hs, ht⟩
  · exact .inl ⟨rfl, List.eq_nil_of_length_eq_zero h0⟩
  · refine .inr ⟨g, cap, rfl, hb, (Array.getElem?_eq_some_iff.1 hg).1, hn, hm, .inr ⟨g, 0, rfl, fun j u hu => ?_⟩⟩
    have hj : j < Ps.length * 6 := by rw [← prcs_length]; exact (List.getElem?_eq_some_iff.1 hu).1
    have e := World.ownsRow.cellAt (w := w) (base := base) (e := 34) (size := 6) (g := g) (cap := cap) ⟨hl, .inr ⟨g, cap, cur, rfl, hb, hg, hn, hm, hs, ht⟩⟩ j hj
    rw [Nat.zero_add, e, hu]
theorem OwnP.slice {w : World} {base : Nat} {v : Value} {Ps : List Pr} (h : OwnP w base v Ps) : ∃ ao cap, v = .slice ao Ps.length cap ∧ ProcsAt w ao Ps ∧ (ao = none → cap = 0) ∧ Ps.length ≤ cap := by
  rcases h.shape with ⟨rfl, rfl⟩ | ⟨g, cap, rfl, _, _, hc, _, hb⟩
  · exact ⟨none, 0, rfl, .inl rfl, fun _ => rfl, by simp⟩
  · exact ⟨_, cap, rfl, hb, by simp, hc⟩
theorem OwnP.alloc {w : World} {base : Nat} {v : Value} {Ps : List Pr} (h : OwnP w base v Ps) (o : Obj) : OwnP (w.alloc o) base v Ps := World.ownsRow.alloc h o
theorem OwnP.mono {w : World} {base base' : Nat} {v : Value} {Ps : List Pr} (h : OwnP w base v Ps) (hb : base' ≤ base) : OwnP w base' v Ps := by
  obtain ⟨hl, h⟩ := h
  refine ⟨hl, ?_⟩
  rcases h with h | ⟨g, cap, cur, e, hg, r⟩
  · exact .inl h
  · exact .inr ⟨g, cap, cur, e, by omega, r⟩
theorem OwnP.lt {w : World} {base : Nat} {v : Value} {Ps : List Pr} (h : OwnP w base v Ps) : ∀ k, v.ownBlock = some k → base ≤ k ∧ k < w.heap.size := World.ownsRow.lt h
theorem OwnP.same {w w1 : World} {base : Nat} {v : Value} {Ps : List Pr} (h : OwnP w base v Ps) (hs : ∀ g, v.ownBlock = some g → w1.heap[g]? = w.heap[g]?) : OwnP w1 base v Ps := by
  obtain ⟨hl, h⟩ := h
  refine ⟨hl, ?_⟩
  rcases h with h | ⟨g, cap, cur, rfl, hg, hh, r⟩
  · exact .inl h
  · exact .inr ⟨g, cap, cur, rfl, hg, (hs g rfl).trans hh, r⟩
theorem OwnP.kept {w w1 : World} {base : Nat} {v : Value} {Ps : List Pr} (h : OwnP w base v Ps) (hb : Below w.heap.size w w1) : OwnP w1 base v Ps :=
  h.same fun g hg => hb.block g (h.lt g hg).2
theorem infoP : (Try.prog.info? 34).map (fun i => (i.zero, i.size, i.bytes)) = some (some (.agg #[.string ⟨#[]⟩, .int .i64 0, .int .i64 0, .int .i64 0, .int .i64 0, .slice none 0 0]), 6, 72) := by kernel_rfl
theorem run_append_procs {w : World} (ty : TypeId) (base : Nat) (v : Value) (Ps : List Pr) (hown : OwnP w base v Ps)
    (ad : Addr) (m c : Nat) (Qs : List Pr) (hm : m = Qs.length) (hsrc : ∀ j u, (prcs Qs)[j]? = some u → w.cell? (ad.add j) = some u) (hlen : (Ps.length + Qs.length) * 72 ≤ 140737488355328) (hbase : base ≤ w.heap.size) :
    ∃ v' w', (Builtin.append_ #[24, 24] ty #[v, .slice (some ad) m c]).run Try.prog w = .ok v' w' ∧ OwnP w' base v' (Ps ++ Qs) ∧ w.grownBy w' v.ownBlock ∧ (v'.ownBlock = v.ownBlock ∨ v'.ownBlock = some w.heap.size) := by
  obtain ⟨i0, hi, hz0, hz1, hz2⟩ := info_parts infoP
  subst hm
  obtain ⟨v', w', hr, h2, h3, _, h5⟩ := run_append_own_at (P := Try.prog) w base 24 ty 34 i0 (.agg #[.string ⟨#[]⟩, .int .i64 0, .int .i64 0, .int .i64 0, .int .i64 0, .slice none 0 0]) 6 72 Try.underlying24 hi hz0 hz1 hz2 rfl (by decide) v Ps.length (prcs Ps) hown ad Qs.length c (prcs Qs) (prcs_length Qs)
      hsrc (prcs_one Qs) (by unfold maxLen; omega) hlen hbase
  exact ⟨v', w', hr, by unfold OwnP; rw [List.length_append, prcs_append]; exact h2, h3, h5⟩
theorem wpList_append_procs {w : World} {ops : Array Oper} {rest : List Oper} {o : Oper} {a : Act} {Q : Exit → Act → World → Prop} (hgd : o.guard = none) (s x : Operand)
    (ho : o.op = .call { callee := .builtin .append, args := #[s, x], argTypes := #[24, 24] }) (base : Nat) (v : Value) (Ps : List Pr) (hs : a.eval s = v) (hown : OwnP w base v Ps)
    (ad : Addr) (m c : Nat) (Qs : List Pr) (hx : a.eval x = .slice (some ad) m c) (hm : m = Qs.length) (hsrc : ∀ j u, (prcs Qs)[j]? = some u → w.cell? (ad.add j) = some u) (hlen : (Ps.length + Qs.length) * 72 ≤ 140737488355328) (hbase : base ≤ w.heap.size)
    (h : ∀ v' w', OwnP w' base v' (Ps ++ Qs) → w.grownBy w' v.ownBlock → (v'.ownBlock = v.ownBlock ∨ v'.ownBlock = some w.heap.size) → wpList Try.prog ops Q rest (a.put o.dst v') w') : wpList Try.prog ops Q (o :: rest) a w := by
  obtain ⟨v', w', hr, h2, h3, h4⟩ := run_append_procs o.type base v Ps hown ad m c Qs hm hsrc hlen hbase
  refine wpList_plain hgd fun K hK' => ?_
  unfold Oper.wp
  simp [execOp, ho, resolve, invoke, builtin, hs, hx, hr, Result.andThen]
  exact hK' _ _ (h v' w' h2 h3 h4)
theorem step_append_procs {w : World} {ops : Array Oper} {o : Oper} {a : Act} {K' : Act → World → Prop} {Q : Exit → Act → World → Prop} {E : Prop} (hgd : o.guard = none) (s x : Operand)
    (ho : o.op = .call { callee := .builtin .append, args := #[s, x], argTypes := #[24, 24] }) (base : Nat) (v : Value) (Ps : List Pr) (hs : a.eval s = v) (hown : OwnP w base v Ps)
    (ad : Addr) (m c : Nat) (Qs : List Pr) (hx : a.eval x = .slice (some ad) m c) (hm : m = Qs.length) (hsrc : ∀ j u, (prcs Qs)[j]? = some u → w.cell? (ad.add j) = some u) (hlen : (Ps.length + Qs.length) * 72 ≤ 140737488355328) (hbase : base ≤ w.heap.size)
    (h : ∀ v' w', OwnP w' base v' (Ps ++ Qs) → w.grownBy w' v.ownBlock → (v'.ownBlock = v.ownBlock ∨ v'.ownBlock = some w.heap.size) → K' (a.put o.dst v') w') :
    if Region.wanted o (yielded ops a.tmps) = true then Oper.wp Try.prog o a w K' Q else E := by
  have hw : Region.wanted o (yielded ops a.tmps) = true := by simp [Region.wanted, hgd]
  rw [if_pos hw]
  obtain ⟨v', w', hr, h2, h3, h4⟩ := run_append_procs o.type base v Ps hown ad m c Qs hm hsrc hlen hbase
  unfold Oper.wp execOp
  simp only [ho, resolve, invoke, builtin, Sem.run_bind, Sem.run_pure, Result.andThen_ok, List.map_toArray, List.map_cons, List.map_nil, hs, hx, hr]
  exact h v' w' h2 h3 h4
/-- one procedure, laid for an append -/
theorem proc_src (w : World) (B : Nat) (x : Pr) (hB : B = w.heap.size) : ∀ j u, (prcs [x])[j]? = some u → (w.alloc (.cells #[.string x.name, .int .i64 x.p.args, .int .i64 x.p.reads, .int .i64 x.p.writes, .int .i64 x.p.locals, .slice x.ao x.n x.cap] 34)).cell? ((⟨B, 0, none⟩ : Addr).add j) = some u := by
  subst hB
  intro j u hu
  rw [addr_add, Nat.zero_add]
  have hb : (w.alloc (.cells #[.string x.name, .int .i64 x.p.args, .int .i64 x.p.reads, .int .i64 x.p.writes, .int .i64 x.p.locals, .slice x.ao x.n x.cap] 34)).heap[w.heap.size]? = some (.cells #[.string x.name, .int .i64 x.p.args, .int .i64 x.p.reads, .int .i64 x.p.writes, .int .i64 x.p.locals, .slice x.ao x.n x.cap] 34 (0, 0)) := heap_alloc_new _ _ rfl
  simp only [World.cell?, hb]
  have e : prcs [x] = [.string x.name, .int .i64 x.p.args, .int .i64 x.p.reads, .int .i64 x.p.writes, .int .i64 x.p.locals, .slice x.ao x.n x.cap] := by simp [prcs, prc]
  rw [e] at hu
  simpa using hu
end Go.Proofs.Ytkpggbjibngplaa
