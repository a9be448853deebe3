import Derived.Test.YtiiplikmoodfnaaGreatDoorKLProc
import Derived.Laws.IdiomStrings
import Derived.Deep.RegionHeld3
/-
  A SLICE OF PROCEDURES OF THE CALL'S OWN; append; 'string(b)'.
-/
namespace Go.Proofs.YtiiplikmoodfnaaGreatDoor
open Go.RowKit Go.Sort

theorem prcs_one (Ps : List Pr) : ∀ v ∈ prcs Ps, v.oneCell' = true := by
  induction Ps with
  | nil => simp [prcs]
  | cons x Ps ih =>
    intro v hv
    rcases List.mem_append.1 (show v ∈ prc x ++ prcs Ps from hv) with h | h
    · simp only [prc, List.mem_cons, List.not_mem_nil, or_false] at h
      rcases h with rfl | rfl | rfl | rfl | rfl | rfl <;> rfl
    · exact ih v h
def OwnP (w : World) (base : Nat) (v : Value) (Ps : List Pr) : Prop := w.ownsRow base 72 6 v Ps.length (prcs Ps)
theorem OwnP.nil (w : World) (base : Nat) : OwnP w base (.slice none 0 0) [] := World.ownsRow_nil _ _ _ _
theorem OwnP.shape {w : World} {base : Nat} {v : Value} {Ps : List Pr} (h : OwnP w base v Ps) :
    (v = .slice none 0 0 ∧ Ps = []) ∨ ∃ g cap, v = .slice (some ⟨g, 0, none⟩) Ps.length cap ∧ base ≤ g ∧ g < w.heap.size ∧ Ps.length ≤ cap ∧ cap ≤ maxLen ∧ ProcsAt w (some ⟨g, 0, none⟩) Ps := by
  obtain ⟨hl, h⟩ := h
  rcases h with ⟨rfl, h0⟩ | ⟨g, cap, cur, rfl, hb, hg, hn, hm, hs, ht⟩
  · exact .inl ⟨rfl, List.eq_nil_of_length_eq_zero h0⟩
  · refine .inr ⟨g, cap, rfl, hb, (Array.getElem?_eq_some_iff.1 hg).1, hn, hm, .inr ⟨g, 0, rfl, fun j u hu => ?_⟩⟩
    have hj : j < Ps.length * 6 := by rw [← prcs_length]; exact (List.getElem?_eq_some_iff.1 hu).1
    have e := World.ownsRow.cellAt (w := w) (base := base) (e := 72) (size := 6) (g := g) (cap := cap) ⟨hl, .inr ⟨g, cap, cur, rfl, hb, hg, hn, hm, hs, ht⟩⟩ j hj
    rw [Nat.zero_add, e, hu]
theorem OwnP.slice {w : World} {base : Nat} {v : Value} {Ps : List Pr} (h : OwnP w base v Ps) : ∃ ao cap, v = .slice ao Ps.length cap ∧ ProcsAt w ao Ps ∧ (ao = none → cap = 0) ∧ Ps.length ≤ cap := by
  rcases h.shape with ⟨rfl, rfl⟩ | ⟨g, cap, rfl, _, _, hc, _, hb⟩
  · exact ⟨none, 0, rfl, .inl rfl, fun _ => rfl, by simp⟩
  · exact ⟨_, cap, rfl, hb, by simp, hc⟩
theorem OwnP.alloc {w : World} {base : Nat} {v : Value} {Ps : List Pr} (h : OwnP w base v Ps) (o : Obj) : OwnP (w.alloc o) base v Ps := World.ownsRow.alloc h o
theorem OwnP.mono {w : World} {base base' : Nat} {v : Value} {Ps : List Pr} (h : OwnP w base v Ps) (hb : base' ≤ base) : OwnP w base' v Ps := by
  obtain ⟨hl, h⟩ := h
  refine ⟨hl, ?_⟩
  rcases h with h | ⟨g, cap, cur, e, hg, r⟩
  · exact .inl h
  · exact .inr ⟨g, cap, cur, e, by omega, r⟩
theorem OwnP.lt {w : World} {base : Nat} {v : Value} {Ps : List Pr} (h : OwnP w base v Ps) : ∀ k, v.ownBlock = some k → base ≤ k ∧ k < w.heap.size := World.ownsRow.lt h
theorem OwnP.same {w w1 : World} {base : Nat} {v : Value} {Ps : List Pr} (h : OwnP w base v Ps) (hs : ∀ g, v.ownBlock = some g → w1.heap[g]? = w.heap[g]?) : OwnP w1 base v Ps := by
  obtain ⟨hl, h⟩ := h
  refine ⟨hl, ?_⟩
  rcases h with h | ⟨g, cap, cur, rfl, hg, hh, r⟩
  · exact .inl h
  · exact .inr ⟨g, cap, cur, rfl, hg, (hs g rfl).trans hh, r⟩
theorem OwnP.kept {w w1 : World} {base : Nat} {v : Value} {Ps : List Pr} (h : OwnP w base v Ps) (hb : Below w.heap.size w w1) : OwnP w1 base v Ps :=
  h.same fun g hg => hb.block g (h.lt g hg).2
theorem infoP : (Tryz.prog.info? 72).map (fun i => (i.zero, i.size, i.bytes)) = some (some (.agg #[.string ⟨#[]⟩, .int .i64 0, .int .i64 0, .int .i64 0, .int .i64 0, .slice none 0 0]), 6, 72) := by kernel_rfl
theorem run_append_procs {w : World} (ty : TypeId) (base : Nat) (v : Value) (Ps : List Pr) (hown : OwnP w base v Ps)
    (ad : Addr) (m c : Nat) (Qs : List Pr) (hm : m = Qs.length) (hsrc : ∀ j u, (prcs Qs)[j]? = some u → w.cell? (ad.add j) = some u) (hlen : (Ps.length + Qs.length) * 72 ≤ 140737488355328) (hbase : base ≤ w.heap.size) :
    ∃ v' w', (Builtin.append_ #[22, 22] ty #[v, .slice (some ad) m c]).run Tryz.prog w = .ok v' w' ∧ OwnP w' base v' (Ps ++ Qs) ∧ w.grownBy w' v.ownBlock ∧ (v'.ownBlock = v.ownBlock ∨ v'.ownBlock = some w.heap.size) := by
  obtain ⟨i0, hi, hz0, hz1, hz2⟩ := info_parts infoP
  subst hm
  obtain ⟨v', w', hr, h2, h3, _, h5⟩ := run_append_own_at (P := Tryz.prog) w base 22 ty 72 i0 (.agg #[.string ⟨#[]⟩, .int .i64 0, .int .i64 0, .int .i64 0, .int .i64 0, .slice none 0 0]) 6 72 Tryz.underlying22 hi hz0 hz1 hz2 rfl (by decide) v Ps.length (prcs Ps) hown ad Qs.length c (prcs Qs) (prcs_length Qs)
      hsrc (prcs_one Qs) (by unfold maxLen; omega) hlen hbase
  exact ⟨v', w', hr, by unfold OwnP; rw [List.length_append, prcs_append]; exact h2, h3, h5⟩
theorem wpList_append_procs {w : World} {ops : Array Oper} {rest : List Oper} {o : Oper} {a : Act} {Q : Exit → Act → World → Prop} (hgd : o.guard = none) (s x : Operand)
    (ho : o.op = .call { callee := .builtin .append, args := #[s, x], argTypes := #[22, 22] }) (base : Nat) (v : Value) (Ps : List Pr) (hs : a.eval s = v) (hown : OwnP w base v Ps)
    (ad : Addr) (m c : Nat) (Qs : List Pr) (hx : a.eval x = .slice (some ad) m c) (hm : m = Qs.length) (hsrc : ∀ j u, (prcs Qs)[j]? = some u → w.cell? (ad.add j) = some u) (hlen : (Ps.length + Qs.length) * 72 ≤ 140737488355328) (hbase : base ≤ w.heap.size)
    (h : ∀ v' w', OwnP w' base v' (Ps ++ Qs) → w.grownBy w' v.ownBlock → (v'.ownBlock = v.ownBlock ∨ v'.ownBlock = some w.heap.size) → wpList Tryz.prog ops Q rest (a.put o.dst v') w') : wpList Tryz.prog ops Q (o :: rest) a w := by
  obtain ⟨v', w', hr, h2, h3, h4⟩ := run_append_procs o.type base v Ps hown ad m c Qs hm hsrc hlen hbase
  refine wpList_plain hgd fun K hK' => ?_
  unfold Oper.wp
  simp [execOp, ho, resolve, invoke, builtin, hs, hx, hr, Result.andThen]
  exact hK' _ _ (h v' w' h2 h3 h4)
theorem step_append_procs {w : World} {ops : Array Oper} {o : Oper} {a : Act} {K' : Act → World → Prop} {Q : Exit → Act → World → Prop} {E : Prop} (hgd : o.guard = none) (s x : Operand)
    (ho : o.op = .call { callee := .builtin .append, args := #[s, x], argTypes := #[22, 22] }) (base : Nat) (v : Value) (Ps : List Pr) (hs : a.eval s = v) (hown : OwnP w base v Ps)
    (ad : Addr) (m c : Nat) (Qs : List Pr) (hx : a.eval x = .slice (some ad) m c) (hm : m = Qs.length) (hsrc : ∀ j u, (prcs Qs)[j]? = some u → w.cell? (ad.add j) = some u) (hlen : (Ps.length + Qs.length) * 72 ≤ 140737488355328) (hbase : base ≤ w.heap.size)
    (h : ∀ v' w', OwnP w' base v' (Ps ++ Qs) → w.grownBy w' v.ownBlock → (v'.ownBlock = v.ownBlock ∨ v'.ownBlock = some w.heap.size) → K' (a.put o.dst v') w') :
    if Region.wanted o (yielded ops a.tmps) = true then Oper.wp Tryz.prog o a w K' Q else E := by
  have hw : Region.wanted o (yielded ops a.tmps) = true := by simp [Region.wanted, hgd]
  rw [if_pos hw]
  obtain ⟨v', w', hr, h2, h3, h4⟩ := run_append_procs o.type base v Ps hown ad m c Qs hm hsrc hlen hbase
  unfold Oper.wp execOp
  simp only [ho, resolve, invoke, builtin, Sem.run_bind, Sem.run_pure, Result.andThen_ok, List.map_toArray, List.map_cons, List.map_nil, hs, hx, hr]
  exact h v' w' h2 h3 h4
/-- one procedure, laid for an append -/
theorem proc_src (w : World) (B : Nat) (x : Pr) (hB : B = w.heap.size) : ∀ j u, (prcs [x])[j]? = some u → (w.alloc (.cells #[.string x.name, .int .i64 x.p.args, .int .i64 x.p.reads, .int .i64 x.p.writes, .int .i64 x.p.locals, .slice x.ao x.n x.cap] 72)).cell? ((⟨B, 0, none⟩ : Addr).add j) = some u := by
  subst hB
  intro j u hu
  rw [addr_add, Nat.zero_add]
  have hb : (w.alloc (.cells #[.string x.name, .int .i64 x.p.args, .int .i64 x.p.reads, .int .i64 x.p.writes, .int .i64 x.p.locals, .slice x.ao x.n x.cap] 72)).heap[w.heap.size]? = some (.cells #[.string x.name, .int .i64 x.p.args, .int .i64 x.p.reads, .int .i64 x.p.writes, .int .i64 x.p.locals, .slice x.ao x.n x.cap] 72 (0, 0)) := heap_alloc_new _ _ rfl
  simp only [World.cell?, hb]
  have e : prcs [x] = [.string x.name, .int .i64 x.p.args, .int .i64 x.p.reads, .int .i64 x.p.writes, .int .i64 x.p.locals, .slice x.ao x.n x.cap] := by simp [prcs, prc]
  rw [e] at hu
  simpa using hu
end Go.Proofs.YtiiplikmoodfnaaGreatDoor
/-
  AN ASSEMBLY IN MEMORY.
-/
namespace Go.Proofs.YtiiplikmoodfnaaGreatDoor
open Go.RowKit Go.Sort

theorem hidA {p : Prop} (h : p) : Hid p := h
/-- a procedure as it lies, as what it is -/
def ppOf (x : Pr) : PP := ⟨x.name.data.toList, x.p, x.L⟩
def cdV (x : Pr) : Value := .slice x.ao x.n x.cap
/-- places -/
def spc : List (Nat × Nat) → List Value
  | [] => []
  | x :: l => .int .i64 (x.1 : Int) :: .int .i64 (x.2 : Int) :: spc l
theorem spc_len (l : List (Nat × Nat)) : (spc l).length = l.length * 2 := by
  induction l with
  | nil => rfl
  | cons x l ih => simp only [spc, List.length_cons, ih]; omega
theorem spc_app (a b : List (Nat × Nat)) : spc (a ++ b) = spc a ++ spc b := by
  induction a with
  | nil => rfl
  | cons x a ih => simp [spc, ih]
theorem spc_at (l : List (Nat × Nat)) (i : Nat) (hi : i < l.length) : (spc l)[i * 2]? = some (.int .i64 (l[i].1 : Int)) ∧ (spc l)[i * 2 + 1]? = some (.int .i64 (l[i].2 : Int)) := by
  induction l generalizing i with
  | nil => simp at hi
  | cons v l ih =>
    cases i with
    | zero => simp [spc]
    | succ i =>
      have := ih i (by simpa using hi)
      rw [show (i + 1) * 2 = i * 2 + 1 + 1 by omega]
      simpa [spc] using this
theorem spc_one (l : List (Nat × Nat)) : ∀ v ∈ spc l, v.oneCell' = true := by
  induction l with
  | nil => simp [spc]
  | cons v l ih =>
    intro u hu
    simp only [spc, List.mem_cons] at hu
    rcases hu with rfl | rfl | hu
    · rfl
    · rfl
    · exact ih u hu
/-- jumps -/
def jpc : List Jp → List Value
  | [] => []
  | x :: l => .int .i64 (x.frm : Int) :: .string (S x.label) :: .int .i64 (x.line : Int) :: .int .i64 (x.col : Int) :: jpc l
theorem jpc_len (l : List Jp) : (jpc l).length = l.length * 4 := by
  induction l with
  | nil => rfl
  | cons x l ih => simp only [jpc, List.length_cons, ih]; omega
theorem jpc_app (a b : List Jp) : jpc (a ++ b) = jpc a ++ jpc b := by
  induction a with
  | nil => rfl
  | cons x a ih => simp [jpc, ih]
theorem jpc_at (l : List Jp) (i : Nat) (hi : i < l.length) : (jpc l)[i * 4]? = some (.int .i64 (l[i].frm : Int)) ∧ (jpc l)[i * 4 + 1]? = some (.string (S l[i].label)) ∧ (jpc l)[i * 4 + 2]? = some (.int .i64 (l[i].line : Int)) ∧ (jpc l)[i * 4 + 3]? = some (.int .i64 (l[i].col : Int)) := by
  induction l generalizing i with
  | nil => simp at hi
  | cons v l ih =>
    cases i with
    | zero => simp [jpc]
    | succ i =>
      have := ih i (by simpa using hi)
      rw [show (i + 1) * 4 = i * 4 + 1 + 1 + 1 + 1 by omega]
      simpa [jpc] using this
theorem jpc_one (l : List Jp) : ∀ v ∈ jpc l, v.oneCell' = true := by
  induction l with
  | nil => simp [jpc]
  | cons v l ih =>
    intro u hu
    simp only [jpc, List.mem_cons] at hu
    rcases hu with rfl | rfl | rfl | rfl | hu
    · rfl
    · rfl
    · rfl
    · rfl
    · exact ih u hu
/-- sizes: behind k lines -/
structure AsSz (a : As) (k : Nat) : Prop where
  top : k ≤ 65537
  lib : a.lib.length ≤ k
  code : ∀ x ∈ a.lib, x.L.length ≤ k
  lab : a.labels.length ≤ k
  jmp : a.jumps.length ≤ k
  nms : a.names.length = a.lib.length
  opn : a.opn = true → a.lib ≠ []
  frm : a.opn = true → ∀ j ∈ a.jumps, j.frm < (lastP a).L.length
  jlb : ∀ j ∈ a.jumps, j.label.length ≤ 65536
  lbs : ∀ x ∈ a.labels, x.2 ≤ 65537
  jln : ∀ j ∈ a.jumps, j.line ≠ 0
theorem AsSz.up {a : As} {k m : Nat} (h : AsSz a k) (hk : k ≤ m) (hm : m ≤ 65537) : AsSz a m := ⟨hm, Nat.le_trans h.lib hk, fun x hx => Nat.le_trans (h.code x hx) hk, Nat.le_trans h.lab hk, Nat.le_trans h.jmp hk, h.nms, h.opn, h.frm, h.jlb, h.lbs, h.jln⟩
/-- what may lie in an assembly's blocks -/
def AOb : Obj → Prop
  | .cells _ t _ => t = 58 ∨ t = 72 ∨ t = 76 ∨ t = 54 ∨ t = 165
  | .map _ _ => True
  | _ => False
/-- AN ASSEMBLY: its box B; all else of it lies from M on -/
structure ASt (W : World) (M B line : Nat) (a : As) (Ps : List Pr) (vl vn vm vj : Value) : Prop where
  ab : AB W B line vl vn a.opn a.begun.1 a.begun.2 vm vj
  lib : OwnP W M vl Ps
  eq : a.lib = Ps.map ppOf
  code : ∀ x ∈ Ps, x.n = x.L.length ∧ W.ownsRow M 76 2 (cdV x) x.n (cks x.L)
  ap : Ps.Pairwise (fun x y => ∀ g, (cdV x).ownBlock = some g → (cdV y).ownBlock ≠ some g)
  nms : W.ownsRow M 54 2 vn a.names.length (spc a.names)
  jps : W.ownsRow M 165 4 vj a.jumps.length (jpc a.jumps)
  lab : a.opn = true → ∃ mb, vm = .map (some mb) ∧ M ≤ mb ∧ LM W mb a.labels
  ok : ∀ x ∈ Ps, NIn x.p ∧ (∀ k ∈ x.L, KIn k) ∧ x.name.size ≤ 65536
  bm : B < M ∧ M ≤ W.heap.size
section
variable {W W' : World} {M B line : Nat} {a : As} {Ps : List Pr} {vl vn vm vj : Value}
theorem own_blk {W : World} {base e size n : Nat} {v : Value} {xs : List Value} (h : W.ownsRow base e size v n xs) {g : Nat} (hg : v.ownBlock = some g) : ∃ cur, W.heap[g]? = some (.cells cur e (0, 0)) := by
  obtain ⟨_, ⟨rfl, _⟩ | ⟨g1, c1, cur1, rfl, _, hh, _⟩⟩ := h
  · cases hg
  · cases hg; exact ⟨cur1, hh⟩
theorem ASt.keep (h : ASt W M B line a Ps vl vn vm vj) (hm : M ≤ W'.heap.size) (hs : ∀ (k : Nat) (o : Obj), W.heap[k]? = some o → AOb o → W'.heap[k]? = some o) : ASt W' M B line a Ps vl vn vm vj := by
  have row : ∀ {base e size n : Nat} {v : Value} {xs : List Value}, W.ownsRow base e size v n xs → (e = 58 ∨ e = 72 ∨ e = 76 ∨ e = 54 ∨ e = 165) → W'.ownsRow base e size v n xs := fun ho he => ownsRow_same ho (fun g hg => by
    obtain ⟨cur, hc⟩ := own_blk ho hg
    rw [hc]
    exact hs g _ hc he)
  refine ⟨hs B _ h.ab (.inl rfl), row h.lib (.inr (.inl rfl)), h.eq, fun x hx => ⟨(h.code x hx).1, row (h.code x hx).2 (.inr (.inr (.inl rfl)))⟩, h.ap, row h.nms (.inr (.inr (.inr (.inl rfl)))), row h.jps (.inr (.inr (.inr (.inr rfl)))), fun ho => ?_, h.ok, h.bm.1, hm⟩
  obtain ⟨mb, h1, h2, h3⟩ := h.lab ho
  refine ⟨mb, h1, h2, h3.same ?_⟩
  obtain ⟨D, ⟨es, clock, hb, _⟩, _⟩ := h3
  rw [hb]
  exact hs mb _ hb trivial
theorem ASt.below (h : ASt W M B line a Ps vl vn vm vj) (hb : Go.RowKit.Below W.heap.size W W') : ASt W' M B line a Ps vl vn vm vj :=
  h.keep (Nat.le_trans h.bm.2 hb.size) (fun k _ hk _ => (hb.block k (Array.getElem?_eq_some_iff.1 hk).1).trans hk)
/-- a reader's step -/
theorem ASt.bx (h : ASt W M B line a Ps vl vn vm vj) {Z : Nat → Prop} {r : Nat} {rd : Rd} (hr : RB Z W r rd) (hb : Bx r W W') : ASt W' M B line a Ps vl vn vm vj :=
  h.keep (Nat.le_trans h.bm.2 hb.size) (fun k o hk ho => (hb.block k (Array.getElem?_eq_some_iff.1 hk).1 (fun e => by
    obtain ⟨a1, c1, h1, _⟩ := hr
    rw [e, h1] at hk
    cases hk
    rcases ho with h | h | h | h | h <;> exact absurd h (by decide))).trans hk)
end
/-- other labels -/
theorem ASt.relab {W W' : World} {M B line : Nat} {a : As} {Ps : List Pr} {vl vn vm vj : Value} (h : ASt W M B line a Ps vl vn vm vj) (hm : M ≤ W'.heap.size) (hs : ∀ (k : Nat) (cur : Array Value) (t : TypeId), W.heap[k]? = some (.cells cur t (0, 0)) → W'.heap[k]? = W.heap[k]?) (ls : List (List UInt8 × Nat)) (hl : a.opn = true → ∃ mb, vm = .map (some mb) ∧ M ≤ mb ∧ LM W' mb ls) : ASt W' M B line { a with labels := ls } Ps vl vn vm vj := by
  have row : ∀ {base e size n : Nat} {v : Value} {xs : List Value}, W.ownsRow base e size v n xs → W'.ownsRow base e size v n xs := fun ho => ownsRow_same ho (fun g hg => by
    obtain ⟨cur, hc⟩ := own_blk ho hg
    exact hs g _ _ hc)
  exact ⟨(hs B _ _ h.ab).trans h.ab, row h.lib, h.eq, fun x hx => ⟨(h.code x hx).1, row (h.code x hx).2⟩, h.ap, row h.nms, row h.jps, hl, h.ok, h.bm.1, hm⟩
theorem pd_snoc (Qs : List Pr) (x : Pr) : pd (Qs ++ [x]) Qs.length = x := by simp [pd]
/-- the procedure that is open -/
theorem ASt.lastQ {W : World} {M B line : Nat} {a : As} {Ps : List Pr} {vl vn vm vj : Value} (h : ASt W M B line a Ps vl vn vm vj) (hne0 : a.lib ≠ []) (hl0 : a.lib.length ≤ 65537) (hc0 : ∀ x ∈ a.lib, x.L.length ≤ 65537) : ∃ Qs x g cap, Ps = Qs ++ [x] ∧ vl = .slice (some ⟨g, 0, none⟩) (Qs.length + 1) cap ∧ M ≤ g ∧ W.cell? ⟨g, Qs.length * 6 + 5, none⟩ = some (.slice x.ao x.L.length x.cap) ∧ lastP a = ppOf x ∧ Qs.length ≤ 65537 ∧ x.L.length ≤ 65537 ∧ x.n = x.L.length := by
  have hne : Ps ≠ [] := fun e => hne0 (by rw [h.eq, e]; rfl)
  obtain ⟨Qs, x, rfl⟩ : ∃ Qs x, Ps = Qs ++ [x] := ⟨Ps.dropLast, Ps.getLast hne, (List.dropLast_concat_getLast hne).symm⟩
  rcases h.lib.shape with ⟨_, e⟩ | ⟨g, cap, e, hg, _, _, _, hp⟩
  · exact absurd e hne
  · have hx := (h.code x (by simp)).1
    have hlx : lastP a = ppOf x := by unfold lastP; rw [h.eq]; simp
    obtain ⟨b, off, e2, _, _, _, _, _, c5⟩ := hp.get Qs.length (by simp)
    rw [pd_snoc, hx] at c5
    cases e2
    have hl : (Qs ++ [x]).length = Qs.length + 1 := by simp
    rw [hl] at e
    have h1 := hl0
    have h3 := hc0 (ppOf x) (by rw [h.eq]; simp)
    rw [h.eq, List.length_map, hl] at h1
    refine ⟨Qs, x, g, cap, rfl, e, hg, ?_, hlx, by omega, ?_, hx⟩
    · rw [Nat.zero_add] at c5; exact c5
    · exact h3
theorem ASt.last {W : World} {M B line k : Nat} {a : As} {Ps : List Pr} {vl vn vm vj : Value} (h : ASt W M B line a Ps vl vn vm vj) (hz : AsSz a k) (ho : a.opn = true) : ∃ Qs x g cap, Ps = Qs ++ [x] ∧ vl = .slice (some ⟨g, 0, none⟩) (Qs.length + 1) cap ∧ M ≤ g ∧ W.cell? ⟨g, Qs.length * 6 + 5, none⟩ = some (.slice x.ao x.L.length x.cap) ∧ lastP a = ppOf x ∧ Qs.length ≤ 65537 ∧ x.L.length ≤ 65537 ∧ x.n = x.L.length := h.lastQ (hz.opn ho) (Nat.le_trans hz.lib hz.top) (fun x hx => Nat.le_trans (hz.code x hx) hz.top)
/-- what stays: all below M but B -/
structure FrA (M B : Nat) (W W' : World) : Prop where
  os : W'.os = W.os
  tape : W'.tape = W.tape
  output : W'.output = W.output
  size : W.heap.size ≤ W'.heap.size
  block : ∀ k, k < M → k ≠ B → W'.heap[k]? = W.heap[k]?
theorem FrA.refl (M B : Nat) (W : World) : FrA M B W W := ⟨rfl, rfl, rfl, Nat.le_refl _, fun _ _ _ => rfl⟩
theorem FrA.trans {M B : Nat} {a b c : World} (h : FrA M B a b) (k : FrA M B b c) : FrA M B a c := ⟨k.os.trans h.os, k.tape.trans h.tape, k.output.trans h.output, Nat.le_trans h.size k.size, fun i hi hr => (k.block i hi hr).trans (h.block i hi hr)⟩
theorem FrA.bel {M B : Nat} {a b : World} (h : Go.RowKit.Below a.heap.size a b) (hM : M ≤ a.heap.size) : FrA M B a b := ⟨h.os, h.tape, h.output, h.size, fun i hi _ => h.block i (by omega)⟩
theorem FrA.bx {M B r : Nat} {a b : World} (h : Bx r a b) (hM : M ≤ a.heap.size) (hr : M ≤ r) : FrA M B a b := ⟨h.os, h.tape, h.output, h.size, fun i hi _ => h.block i (by omega) (by omega)⟩
theorem FrA.grown {M B : Nat} {a b : World} {row : Option Nat} (h : a.grownBy b row) (hM : M ≤ a.heap.size) (hr : ∀ k, row = some k → M ≤ k) : FrA M B a b := ⟨h.os, h.tape, h.output, h.size, fun i hi _ => h.block i (by omega) (fun e => by have := hr i e.symm; omega)⟩
theorem FrA.set {M B : Nat} {W : World} (ad : Addr) (v : Value) (h : ad.block = B ∨ M ≤ ad.block) : FrA M B W (W.setCell ad v) := ⟨rfl, rfl, rfl, by simp, fun k hk hb => heap_setCell_other W ad k v (by rcases h with h | h <;> omega)⟩
/-- where a line's words may lie: below M, not in B -/
def ZA (M B : Nat) : Nat → Prop := fun k => k < M ∧ k ≠ B
/-- the blocks that other boxes are in: readers, instructions -/
def RI (t : TypeId) : Prop := t = 86 ∨ t = 76
/-- what stays, readers and instructions too -/
structure FrR (M B : Nat) (W W' : World) : Prop where
  fr : FrA M B W W'
  rd : ∀ (k : Nat) (cur : Array Value) (t : TypeId), W.heap[k]? = some (.cells cur t (0, 0)) → RI t → W'.heap[k]? = W.heap[k]?
theorem FrR.refl (M B : Nat) (W : World) : FrR M B W W := ⟨FrA.refl _ _ _, fun _ _ _ _ _ => rfl⟩
theorem FrR.trans {M B : Nat} {a b c : World} (h : FrR M B a b) (k : FrR M B b c) : FrR M B a c := ⟨h.fr.trans k.fr, fun i cur t hi ht => (k.rd i cur t ((h.rd i cur t hi ht).trans hi) ht).trans (h.rd i cur t hi ht)⟩
theorem FrR.bel {M B : Nat} {a b : World} (h : Go.RowKit.Below a.heap.size a b) (hM : M ≤ a.heap.size) : FrR M B a b := ⟨FrA.bel h hM, fun i _ _ hi _ => h.block i (Array.getElem?_eq_some_iff.1 hi).1⟩
theorem FrR.grown {M B g : Nat} {a b : World} (h : a.grownBy b (some g)) (hM : M ≤ a.heap.size) (hr : M ≤ g) (hg : ∀ cur t, RI t → a.heap[g]? ≠ some (.cells cur t (0, 0))) : FrR M B a b := ⟨FrA.grown h hM (fun k e => by cases e; exact hr), fun i cur t hi ht => h.block i (Array.getElem?_eq_some_iff.1 hi).1 (fun e => by cases e; exact hg cur t ht hi)⟩
theorem FrR.set {M B : Nat} {W : World} (ad : Addr) (v : Value) (h : ad.block = B ∨ M ≤ ad.block) (hg : ∀ cur t, RI t → W.heap[ad.block]? ≠ some (.cells cur t (0, 0))) : FrR M B W (W.setCell ad v) := ⟨FrA.set ad v h, fun k cur t hk ht => heap_setCell_other W ad k v (fun e => by rw [e] at hk; exact hg cur t ht hk)⟩
/-- what stays, instructions too -/
structure FrJ (M B : Nat) (W W' : World) : Prop where
  fr : FrA M B W W'
  ins : ∀ (k : Nat) (cur : Array Value), W.heap[k]? = some (.cells cur 76 (0, 0)) → W'.heap[k]? = W.heap[k]?
theorem FrJ.trans {M B : Nat} {a b c : World} (h : FrJ M B a b) (k : FrJ M B b c) : FrJ M B a c := ⟨h.fr.trans k.fr, fun i cur hi => (k.ins i cur ((h.ins i cur hi).trans hi)).trans (h.ins i cur hi)⟩
theorem FrR.j {M B : Nat} {a b : World} (h : FrR M B a b) : FrJ M B a b := ⟨h.fr, fun k cur hk => h.rd k cur _ hk (.inr rfl)⟩
theorem FrJ.bel {M B : Nat} {a b : World} (h : Go.RowKit.Below a.heap.size a b) (hM : M ≤ a.heap.size) : FrJ M B a b := (FrR.bel h hM).j
theorem FrJ.bx {M B r : Nat} {Z : Nat → Prop} {rd : Rd} {a b : World} (hr : RB Z a r rd) (h : Bx r a b) (hM : M ≤ a.heap.size) (hMr : M ≤ r) : FrJ M B a b := ⟨FrA.bx h hM hMr, fun k cur hk => h.block k (Array.getElem?_eq_some_iff.1 hk).1 (fun e => by
  obtain ⟨a1, c1, h1, _⟩ := hr
  rw [e, h1] at hk
  simp only [Option.some.injEq, Obj.cells.injEq] at hk
  exact absurd hk.2.1 (by decide))⟩
theorem RB.fra {M B : Nat} {W W' : World} {r : Nat} {rd : Rd} (h : RB (ZA M B) W r rd) (hf : FrA M B W W') (hr : W'.heap[r]? = W.heap[r]?) : RB (ZA M B) W' r rd := by
  obtain ⟨a, c, h1, h2, h3, h4⟩ := h
  refine ⟨a, c, hr.trans h1, ?_, h3, h4⟩
  rcases h2 with h2 | ⟨b, off, rfl, hc⟩
  · exact .inl h2
  · by_cases hx : rd.1 = []
    · exact .inl (by rw [hx]; rfl)
    · refine .inr ⟨b, off, rfl, fun j u hu => ?_⟩
      have h5 := hc j u hu
      have h6 := (h3 _ rfl hx).2
      simp only [World.cell?] at h5 ⊢
      rw [hf.block b h6.1 h6.2]
      exact h5
theorem RB.frr {M B : Nat} {W W' : World} {r : Nat} {rd : Rd} (h : RB (ZA M B) W r rd) (hf : FrR M B W W') : RB (ZA M B) W' r rd := h.fra hf.fr (by
  obtain ⟨a, c, h1, _⟩ := h
  exact hf.rd r _ _ h1 (.inl rfl))
end Go.Proofs.YtiiplikmoodfnaaGreatDoor
/-
  WHAT HOLDS BEHIND EACH LINE: sizes.
-/
namespace Go.Proofs.YtiiplikmoodfnaaGreatDoor

theorem firstA_ok {a a' : As} {line : Nat} {ws : List Wd} (h : firstA a line ws = .ok a') : ∃ (nm : Wd) (ns : List Int), nm ∈ ws ∧ a' = { a with lib := a.lib ++ [⟨nm.1, ⟨ns.getD 0 0, ns.getD 1 0, ns.getD 2 0, ns.getD 3 0⟩, []⟩], names := a.names ++ [(line, nm.2)], opn := true, begun := (line, (ws.headD ([], 0)).2), labels := [], jumps := [] } := by
  unfold firstA at h
  cases h1 : rMust procL (ws, 0) with
  | error e => rw [h1] at h; cases h
  | ok r1 =>
    rw [h1] at h
    simp only at h
    cases h2 : rNext r1 with
    | error e => rw [h2] at h; cases h
    | ok p =>
      obtain ⟨nm, r2⟩ := p
      rw [h2] at h
      simp only at h
      cases h3 : rFour r2 4 with
      | error e => rw [h3] at h; cases h
      | ok p =>
        obtain ⟨ns, r3⟩ := p
        rw [h3] at h
        simp only at h
        cases h4 : rEnd r3 with
        | some e => rw [h4] at h; cases h
        | none =>
          rw [h4] at h
          simp only [Except.ok.injEq] at h
          refine ⟨nm, ns, ?_, h.symm⟩
          unfold rMust at h1
          cases ws with
          | nil => cases h1
          | cons x ws =>
            simp only [rNext] at h1
            split at h1
            · simp only [Except.ok.injEq] at h1
              subst h1
              cases ws with
              | nil => cases h2
              | cons y ws =>
                simp only [rNext, Except.ok.injEq, Prod.mk.injEq] at h2
                rw [← h2.1]
                simp
            · cases h1
theorem lastP_setL (a : As) (L : List K) : lastP (setL a L) = { lastP a with L := L } := by simp [lastP, setL]
theorem setL_len {a : As} (h : a.lib ≠ []) (L : List K) : (setL a L).lib.length = a.lib.length := by
  have : 0 < a.lib.length := List.length_pos_iff.2 h
  simp [setL]
  omega
theorem fixN_len {ls : List (List UInt8 × Nat)} : ∀ {js : List Jp} {L L' : List K}, fixN ls js L = .ok L' → L'.length = L.length
  | [], L, L', h => by simp only [fixN, Except.ok.injEq] at h; rw [h]
  | j :: js, L, L', h => by
    simp only [fixN] at h
    split at h
    · cases h
    · have := fixN_len h
      simpa using this
/-- what a line inside does -/
inductive InOK (a : As) (line : Nat) (x : Wd) (rest : List Wd) : As → Prop where
  | fin (L : List K) (h : fixN a.labels a.jumps (lastP a).L = .ok L) : InOK a line x rest { setL a L with opn := false }
  | lab : InOK a line x rest { a with labels := a.labels ++ [(x.1.dropLast, (lastP a).L.length)] }
  | ins (op n : Int) (js : List Jp) (h : js = [] ∨ ∃ y ∈ rest, js = [⟨(lastP a).L.length, y.1, line, y.2⟩]) : InOK a line x rest (setL { a with jumps := a.jumps ++ js } ((lastP a).L ++ [(op, n)]))
theorem argA_ok {a : As} {line : Nat} {op n : Int} {rest : List Wd} {b : Nat} {js : List Jp} {r1 : Rd} (h : argA a line op (rest, b) = .ok (n, js, r1)) : js = [] ∨ ∃ y ∈ rest, js = [⟨(lastP a).L.length, y.1, line, y.2⟩] := by
  unfold argA at h
  split at h
  · cases rest with
    | nil => cases h
    | cons y rest =>
      simp only [rNext] at h
      split at h
      · cases h
      · split at h
        · cases h
        · simp only [Except.ok.injEq, Prod.mk.injEq] at h
          exact .inr ⟨y, by simp, h.2.1.symm⟩
  · split at h
    · split at h
      · cases h
      · simp only [Except.ok.injEq, Prod.mk.injEq] at h
        exact .inl h.2.1.symm
    · simp only [Except.ok.injEq, Prod.mk.injEq] at h
      exact .inl h.2.1.symm
theorem insideA_ok {a a' : As} {line : Nat} {x : Wd} {rest : List Wd} (h : insideA a line (x :: rest) = .ok a') : InOK a line x rest a' := by
  simp only [insideA] at h
  split at h
  · split at h
    · cases h
    · split at h
      · cases h
      · rename_i L hL
        simp only [Except.ok.injEq] at h
        rw [← h]
        exact .fin L hL
  · split at h
    · split at h
      · cases h
      · split at h
        · cases h
        · split at h
          · cases h
          · simp only [Except.ok.injEq] at h
            rw [← h]
            exact .lab
    · split at h
      · cases h
      · split at h
        · cases h
        · rename_i n js r1 hA
          split at h
          · cases h
          · simp only [Except.ok.injEq] at h
            rw [← h]
            exact .ins _ _ js (argA_ok hA)
theorem lastP_mem {a : As} (h : a.lib ≠ []) : lastP a ∈ a.lib := by
  unfold lastP
  rw [List.getLastD_eq_getLast?, List.getLast?_eq_some_getLast h]
  exact List.getLast_mem h
theorem setL_mem {a : As} {L : List K} {x : PP} (h : x ∈ (setL a L).lib) : x ∈ a.lib ∨ x.L = L := by
  simp only [setL, List.mem_append, List.mem_singleton] at h
  rcases h with h | h
  · exact .inl (List.dropLast_subset _ h)
  · exact .inr (by rw [h])
theorem inside_sz {a a' : As} {line k : Nat} {x : Wd} {rest : List Wd} (hs : AsSz a k) (hk : k + 1 ≤ 65537) (hl0 : line ≠ 0) (ho : a.opn = true) (hw : ∀ y ∈ x :: rest, y.1.length ≤ 65536) (h : InOK a line x rest a') : AsSz a' (k + 1) := by
  have hne := hs.opn ho
  have hlp := hs.code _ (lastP_mem hne)
  cases h with
  | fin L hL =>
    have hl := fixN_len hL
    refine ⟨hk, by show (setL a L).lib.length ≤ _; rw [setL_len hne]; have := hs.lib; omega, fun y hy => ?_, by have := hs.lab; show a.labels.length ≤ _; omega, by have := hs.jmp; show a.jumps.length ≤ _; omega, by show a.names.length = (setL a L).lib.length; rw [setL_len hne]; exact hs.nms, fun h => (by cases h), fun h => (by cases h), hs.jlb, hs.lbs, hs.jln⟩
    rcases setL_mem hy with h | h
    · have := hs.code y h; omega
    · rw [h]; omega
  | lab =>
    refine ⟨hk, by have := hs.lib; show a.lib.length ≤ _; omega, fun y hy => by have := hs.code y hy; omega, by have := hs.lab; simp; omega, by have := hs.jmp; show a.jumps.length ≤ _; omega, hs.nms, hs.opn, hs.frm, hs.jlb, fun y hy => ?_, hs.jln⟩
    rcases List.mem_append.1 hy with h | h
    · exact hs.lbs y h
    · simp only [List.mem_singleton] at h
      rw [h]
      show (lastP a).L.length ≤ 65537
      have := hs.top
      omega
  | ins op n js hj =>
    have hjl : js.length ≤ 1 := by rcases hj with rfl | ⟨y, _, rfl⟩ <;> simp
    have hne' : ({ a with jumps := a.jumps ++ js } : As).lib ≠ [] := hne
    refine ⟨hk, by rw [setL_len hne']; have := hs.lib; show a.lib.length ≤ _; omega, fun y hy => ?_, by have := hs.lab; show a.labels.length ≤ _; omega, ?_, ?_, fun _ => ?_, fun _ j hj' => ?_, fun j hj' => ?_, hs.lbs, fun j hj' => ?_⟩
    · rcases setL_mem hy with h | h
      · have := hs.code y h; omega
      · rw [h]; simp; omega
    · have := hs.jmp
      show (a.jumps ++ js).length ≤ _
      simp; omega
    · rw [setL_len hne']; exact hs.nms
    · simp [setL]
    · rw [lastP_setL]
      show j.frm < ((lastP a).L ++ [(op, n)]).length
      rw [List.length_append]
      rcases List.mem_append.1 (show j ∈ a.jumps ++ js from hj') with h | h
      · have := hs.frm ho j h; omega
      · rcases hj with rfl | ⟨y, _, rfl⟩
        · cases h
        · simp only [List.mem_singleton] at h
          rw [h]; simp
    · rcases List.mem_append.1 (show j ∈ a.jumps ++ js from hj') with h | h
      · exact hs.jlb j h
      · rcases hj with rfl | ⟨y, hy, rfl⟩
        · cases h
        · simp only [List.mem_singleton] at h
          rw [h]
          exact hw y (by simp [hy])
    · rcases List.mem_append.1 (show j ∈ a.jumps ++ js from hj') with h | h
      · exact hs.jln j h
      · rcases hj with rfl | ⟨y, hy, rfl⟩
        · cases h
        · simp only [List.mem_singleton] at h
          rw [h]
          exact hl0
theorem line_sz {a a' : As} {line k : Nat} {ws : List Wd} (hs : AsSz a k) (hk : k + 1 ≤ 65537) (hl0 : line ≠ 0) (hw : ∀ y ∈ ws, y.1.length ≤ 65536) (h : lineA a line ws = .ok a') : AsSz a' (k + 1) := by
  unfold lineA at h
  split at h
  · simp only [Except.ok.injEq] at h
    rw [← h]
    exact hs.up (by omega) hk
  · rename_i hne
    split at h
    · rename_i ho
      cases ws with
      | nil => exact absurd rfl hne
      | cons x rest => exact inside_sz hs hk hl0 ho hw (insideA_ok h)
    · split at h
      · cases h
      · rename_i a1 h1
        simp only [Except.ok.injEq] at h
        subst h
        obtain ⟨nm, ns, _, rfl⟩ := firstA_ok h1
        refine ⟨hk, by have := hs.lib; simp; omega, fun y hy => ?_, by simp, by simp, by simp [hs.nms], by simp, by simp, by simp, by simp, by simp⟩
        rcases List.mem_append.1 hy with h | h
        · have := hs.code y h; omega
        · simp only [List.mem_singleton] at h
          rw [h]; simp
theorem start_sz : AsSz start0 0 := ⟨by omega, by simp [start0], by simp [start0], by simp [start0], by simp [start0], rfl, by simp [start0], by simp [start0], by simp [start0], by simp [start0], by simp [start0]⟩
end Go.Proofs.YtiiplikmoodfnaaGreatDoor
/-
  addLabel.
-/
namespace Go.Proofs.YtiiplikmoodfnaaGreatDoor
open Go.RowKit Go.Sort

set_option maxRecDepth 100000 in
theorem program_d (w : World) (B line b1 b2 g n cap : Nat) (vn vm vj : Value) (o : Bool) (h : AB w B line (.slice (some ⟨g, 0, none⟩) (n + 1) cap) vn o b1 b2 vm vj) (hn : n ≤ 1000000) :
    Calls Tryz.prog 67 #[.pointer (some ⟨B, 0, none⟩)] w fun e w' => e = .returned (.pointer (some ⟨g, n * 6 + 1, none⟩)) ∧ ∃ q, w' = w.drewN q := by
  obtain ⟨_, x1, _⟩ := h.cells
  have h0 : (0 : Int) ≤ (n : Int) := by omega
  have h1 : (n : Int) < (n : Int) + 1 := by omega
  clear h
  go_enter Tryz.func67, Tryz.ntmps67
  go_wp2_with fail
  go_quiet (fail)
  go_wp2
  go_ret
  exact ⟨rfl, _, rfl⟩
theorem LM.drewN {W : World} {b : Nat} {ls : List (List UInt8 × Nat)} (h : LM W b ls) (q : Nat) : LM (W.drewN q) b ls := h.same rfl
theorem ASt.drewN {W : World} {M B line : Nat} {a : As} {Ps : List Pr} {vl vn vm vj : Value} (h : ASt W M B line a Ps vl vn vm vj) (q : Nat) : ASt (W.drewN q) M B line a Ps vl vn vm vj := h.below ((Grew.refl W).drewN q).below
theorem ASt.drew {W : World} {M B line : Nat} {a : As} {Ps : List Pr} {vl vn vm vj : Value} (h : ASt W M B line a Ps vl vn vm vj) : ASt W.drew M B line a Ps vl vn vm vj := h.drewN 1
/-- what addLabel leaves -/
def LabPost (W : World) (M B line : Nat) (a : As) (Ps : List Pr) (vl vn vm vj : Value) (nm : List UInt8) (col : Nat) (e : Ending) (w' : World) : Prop :=
  (∃ v n, e = .returned v ∧ ErrAt w' v 0 col n ∧ ((nameB (S nm) = false ∧ n = 40) ∨ (nameB (S nm) = true ∧ (labN a.labels nm).isSome = true ∧ n = 43)) ∧ FrR M B W w') ∨
  (e = .returned .nilIface ∧ nameB (S nm) = true ∧ (labN a.labels nm).isSome = false ∧ ASt w' M B line { a with labels := a.labels ++ [(nm, (lastP a).L.length)] } Ps vl vn vm vj ∧ FrR M B W w')
set_option maxRecDepth 100000 in
set_option maxHeartbeats 2000000 in
theorem addLabel_any (w : World) (M B line k : Nat) (a : As) (Ps : List Pr) (vl vn vm vj : Value) (nm : List UInt8) (col : Nat) (h : ASt w M B line a Ps vl vn vm vj) (hz : AsSz a k) (ho : a.opn = true) (hn : nm.length ≤ 65536) :
    Calls Tryz.prog 46 #[.pointer (some ⟨B, 0, none⟩), .string (S nm), .int .i64 (col : Int)] w fun e w' => LabPost w M B line a Ps vl vn vm vj nm col e w' := by
  have HI := isNameA_any w (S nm) (by rw [S_size]; omega)
  have HA := hidA h
  have HZ := hidA hz
  have HO := hidA ho
  have hM := h.bm.2
  clear h hz ho
  go_enter Tryz.func46, Tryz.ntmps46
  cases hb : nameB (S nm) with
  | false =>
    rw [hb] at HI
    have HB := hidA hb
    clear hb
    go_wp2_with fail
    refine HI.mono ?_
    rintro e w1 ⟨rfl, h1⟩
    have HF1 : Hid (FrR M B w w1) := FrR.bel h1 hM
    have hM1 : M ≤ w1.heap.size := Nat.le_trans hM h1.size
    clear h1 HI
    go_wp2_with fail
    refine (wrong_any w1 col 40).mono ?_
    rintro e w2 ⟨v, rfl, k1, k2⟩
    have HE : Hid (LabPost w M B line a Ps vl vn vm vj nm col (.returned v) w2) := .inl ⟨v, 40, rfl, k1, .inl ⟨HB.out, rfl⟩, HF1.out.trans (FrR.bel k2 hM1)⟩
    clear k1 k2
    go_wp2_with fail
    go_ret
    exact HE.out
  | true =>
    rw [hb] at HI
    have HB := hidA hb
    clear hb
    go_wp2_with fail
    refine HI.mono ?_
    rintro e w1 ⟨rfl, h1⟩
    have HF1 : Hid (FrR M B w w1) := FrR.bel h1 hM
    have hM1 : M ≤ w1.heap.size := Nat.le_trans hM h1.size
    have HA1 : Hid (ASt w1 M B line a Ps vl vn vm vj) := HA.out.below h1
    clear h1 HI HA
    obtain ⟨_, _, _, _, _, _, x6, _⟩ := HA1.out.ab.cells
    obtain ⟨mb, rfl, hmb, hlm⟩ := HA1.out.lab HO.out
    have HLm := hidA hlm
    obtain ⟨c, hlk, hlc⟩ := hlm.look nm (by omega)
    clear hlm hlc
    cases hl : (labN a.labels nm).isSome with
    | true =>
      rw [hl] at hlk
      have HL := hidA hl
      clear hl
      go_wp2_with fail
      refine (wrong_any w1 col 43).mono ?_
      rintro e w2 ⟨v, rfl, k1, k2⟩
      have HE : Hid (LabPost w M B line a Ps vl vn (.map (some mb)) vj nm col (.returned v) w2) := .inl ⟨v, 43, rfl, k1, .inr ⟨HB.out, HL.out, rfl⟩, HF1.out.trans (FrR.bel k2 hM1)⟩
      clear k1 k2
      go_wp2_with fail
      go_ret
      exact HE.out
    | false =>
      rw [hl] at hlk
      have HL := hidA hl
      have hln : labN a.labels nm = none := by simpa using hl
      have HLn := hidA hln
      clear hl hln
      obtain ⟨Qs, x, g, cap, e1, rfl, hg, c5, hlp, hq, hxl, hxn⟩ := HA1.out.last HZ.out HO.out
      have HE1 := hidA e1
      have HLp := hidA hlp
      clear e1 hlp
      have HPr := hidA (program_d w1.drew B line a.begun.1 a.begun.2 g Qs.length cap vn (.map (some mb)) vj a.opn HA1.out.drew.ab (by omega))
      have HPut : Hid (∀ q, ∃ W', (Instr.mapUpdate 55 (.map (some mb)) (.string (S nm)) (.int .i64 (x.L.length : Int))).run Tryz.prog (w1.drewN (1 + q)) = .ok () W' ∧ LabPost w M B line a Ps (.slice (some ⟨g, 0, none⟩) (Qs.length + 1) cap) vn (.map (some mb)) vj nm col (.returned .nilIface) W' ∧ W'.cell? ⟨B, 6, none⟩ = some (.map (some mb)) ∧ W'.cell? ⟨g, Qs.length * 6 + 5, none⟩ = some (.slice x.ao x.L.length x.cap)) := fun q => by
        have hA9 : ASt (w1.drewN (1 + q)) M B line a Ps (.slice (some ⟨g, 0, none⟩) (Qs.length + 1) cap) vn (.map (some mb)) vj := HA1.out.drewN (1 + q)
        have hl9 : LM (w1.drewN (1 + q)) mb a.labels := HLm.out.same rfl
        obtain ⟨W', p1, p2, p3⟩ := hl9.put nm x.L.length (by omega) (by omega) (by have := HZ.out.lab; have := HZ.out.top; omega) HLn.out
        have hmp : ∀ cur t, (w1.drewN (1 + q)).heap[mb]? ≠ some (.cells cur t (0, 0)) := fun cur t e => by
          obtain ⟨D, ⟨es, clock, hb, _⟩, _⟩ := hl9
          rw [hb] at e
          cases e
        have hlp : (lastP a).L.length = x.L.length := by rw [HLp.out]; rfl
        have hoth : ∀ (k' : Nat) (cur : Array Value) (t : TypeId), (w1.drewN (1 + q)).heap[k']? = some (.cells cur t (0, 0)) → W'.heap[k']? = (w1.drewN (1 + q)).heap[k']? := fun k' cur t hk => p3.block k' (Array.getElem?_eq_some_iff.1 hk).1 (fun e => by cases e; exact hmp cur t hk)
        have hB : W'.cell? ⟨B, 6, none⟩ = some (.map (some mb)) := by
          have h1 : W'.heap[B]? = _ := (hoth B _ _ hA9.ab).trans hA9.ab
          simp [World.cell?, h1]
        have hG : W'.cell? ⟨g, Qs.length * 6 + 5, none⟩ = some (.slice x.ao x.L.length x.cap) := by
          obtain ⟨cur, hc⟩ := own_blk hA9.lib (g := g) rfl
          have h1 := hoth g _ _ hc
          have h2 : (w1.drewN (1 + q)).cell? ⟨g, Qs.length * 6 + 5, none⟩ = some (.slice x.ao x.L.length x.cap) := c5
          simp only [World.cell?] at h2 ⊢
          rw [h1]
          exact h2
        refine ⟨W', p1, .inr ⟨rfl, HB.out, HL.out, ?_, HF1.out.trans ((FrR.bel ((Grew.refl w1).drewN (1 + q)).below hM1).trans (FrR.grown p3 hM1 hmb (fun cur t _ => hmp cur t)))⟩, hB, hG⟩
        rw [hlp]
        exact hA9.relab (Nat.le_trans hM1 p3.size) hoth _ (fun _ => ⟨mb, rfl, hmb, p2⟩)
      go_upto_region 6 with fail
      go_region_held3 (fun w' => w'.cell? ⟨B, 6, none⟩ = some (.map (some mb)) ∧ w'.cell? ⟨g, Qs.length * 6 + 5, none⟩ = some (.slice x.ao x.L.length x.cap)) (first | with_reducible exact HS9.out | go_keep) (first | (go_at_call 67; (with_reducible refine HPr.out.mono ?_); rintro e w9 ⟨rfl, q9, rfl⟩; obtain ⟨W10, hput, hpost, hs9⟩ := HPut.out q9; have HPost := hidA hpost; have HS9 := hidA hs9; clear hpost hs9))
      all_goals (
        go_wp2_with fail
        go_ret
        exact HPost.out)
end Go.Proofs.YtiiplikmoodfnaaGreatDoor
