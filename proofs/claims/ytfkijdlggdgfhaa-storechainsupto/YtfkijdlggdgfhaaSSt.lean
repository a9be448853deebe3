/-
  A STORE IN MEMORY; Live, Room, told, Look, KeyOf.
-/
import Derived.Test.YtfkijdlggdgfhaaSVMap
import Derived.Test.YtfkijdlggdgfhaaHash
namespace Go.Proofs.Ytfkijdlggdgfhaa
open Go.RowKit Go.Sort

/-- a key's versions, the oldest first -/
def ofK (k : K) (vs : List Vr) : List Vr := vs.filter (fun v => decide (v.k = k))
/-- of two versions the later one -/
def later (a b : Vr) : Prop := b.ba < a.ba ∨ b.ba = a.ba ∧ b.ix < a.ix
/-- the store in block S: vs all versions by rising number, es the Dict's entries, R a key's row: its block, where its list begins in it, its room -/
structure SA (w : World) (S V D M L P : Nat) (hf : Value) (cap last : Int) (vs : List Vr) (es : List En) (R : K → Nat × Nat × Nat) : Prop where
  st : w.heap[S]? = some (.cells #[.int .i64 (P : Int), .int .i64 cap, .int .i64 last, .map (some V), ptr D] 70 (0, 0))
  vm : ∃ ms clock, w.heap[V]? = some (.map ms clock) ∧ ms.toList.map (fun x => (x.key, x.val)) = vs.map (fun v => (.int .i64 v.n, ptr v.b))
  vb : ∀ v ∈ vs, w.heap[v.b]? = some (.cells (cellsV v) 82 (0, 0))
  da : DA w D M L hf P es
  ch : ∀ e ∈ es, w.heap[e.v]? = some (.cells #[.slice (some ⟨(R e.k).1, (R e.k).2.1, none⟩) (ofK e.k vs).length (R e.k).2.2] 100 (0, 0))
  rw : ∀ e ∈ es, ∃ cur, w.heap[(R e.k).1]? = some (.cells cur 83 (0, 0)) ∧ cur.size = (R e.k).2.1 + (R e.k).2.2 ∧ ∀ j (h : j < (ofK e.k vs).length), cur[(R e.k).2.1 + j]? = some (ptr (ofK e.k vs)[j].b)
  rl : ∀ e ∈ es, (ofK e.k vs).length ≤ (R e.k).2.2
  ne : ∀ e ∈ es, ofK e.k vs ≠ []
  all : ∀ v ∈ vs, ∃ e ∈ es, e.k = v.k
  cb : (es.map En.v).Nodup
  rn : ∀ e ∈ es, ∀ e' ∈ es, (R e.k).1 = (R e'.k).1 → e = e'
  nn : vs.Pairwise (fun a b => a.n < b.n)
  nl : ∀ v ∈ vs, 1 ≤ v.n ∧ v.n ≤ last
  bn : (vs.map Vr.b).Nodup
  pl : ∀ k, (ofK k vs).Pairwise (fun a b => later b a)
  inn : ∀ v ∈ vs, KIn v.k ∧ In64 v.ba ∧ In64 v.ix ∧ In64 v.cv
  VM : V ≠ M
  lt : last ≤ 1000000000000000 ∧ 1 ≤ cap ∧ cap ≤ 65536 ∧ (vs.length : Int) ≤ cap
  el : es.length ≤ vs.length
  cm : ∀ e ∈ es, (R e.k).2.2 ≤ 9223372036854775807
  ph : ∀ e ∈ es, e.p = hash e.k % P
  ik : ∀ v ∈ vs, isKey v.k = true
section
variable {w w' : World} {S V D M L P : Nat} {hf : Value} {cap last : Int} {vs : List Vr} {es : List En} {R : K → Nat × Nat × Nat}
theorem SA.cells (h : SA w S V D M L P hf cap last vs es R) : w.cell? ⟨S, 0, none⟩ = some (.int .i64 (P : Int)) ∧ w.cell? ⟨S, 1, none⟩ = some (.int .i64 cap) ∧ w.cell? ⟨S, 2, none⟩ = some (.int .i64 last) ∧ w.cell? ⟨S, 3, none⟩ = some (.map (some V)) ∧ w.cell? ⟨S, 4, none⟩ = some (ptr D) := by
  refine ⟨?_, ?_, ?_, ?_, ?_⟩ <;> simp [World.cell?, h.st]
/-- what a store is made of -/
def Fs (S V D M L : Nat) (vs : List Vr) (es : List En) (R : K → Nat × Nat × Nat) (k : Nat) : Prop := k = S ∨ k = V ∨ (∃ v ∈ vs, v.b = k) ∨ (k = D ∨ Ft M L es k) ∨ (∃ e ∈ es, e.v = k) ∨ (∃ e ∈ es, (R e.k).1 = k)
theorem SA.lt' (h : SA w S V D M L P hf cap last vs es R) {k : Nat} (hk : Fs S V D M L vs es R k) : k < w.heap.size := by
  rcases hk with rfl | rfl | ⟨v, hv, rfl⟩ | hd | ⟨e, he, rfl⟩ | ⟨e, he, rfl⟩
  · exact blk_lt h.st
  · obtain ⟨_, _, h1, _⟩ := h.vm; exact blk_lt h1
  · exact blk_lt (h.vb v hv)
  · exact h.da.lt hd
  · exact blk_lt (h.ch e he)
  · obtain ⟨_, h1, _⟩ := h.rw e he; exact blk_lt h1
theorem SA.same (h : SA w S V D M L P hf cap last vs es R) (hs : ∀ k, Fs S V D M L vs es R k → w'.heap[k]? = w.heap[k]?) : SA w' S V D M L P hf cap last vs es R := by
  refine ⟨(hs S (.inl rfl)).trans h.st, ?_, fun v hv => (hs _ (.inr (.inr (.inl ⟨v, hv, rfl⟩)))).trans (h.vb v hv), h.da.same (fun k hk => hs k (.inr (.inr (.inr (.inl hk))))), fun e he => (hs _ (.inr (.inr (.inr (.inr (.inl ⟨e, he, rfl⟩)))))).trans (h.ch e he), fun e he => ?_, h.rl, h.ne, h.all, h.cb, h.rn, h.nn, h.nl, h.bn, h.pl, h.inn, h.VM, h.lt, h.el, h.cm, h.ph, h.ik⟩
  · obtain ⟨ms, c, h1, h2⟩ := h.vm
    exact ⟨ms, c, (hs V (.inr (.inl rfl))).trans h1, h2⟩
  · obtain ⟨cur, h1, h2⟩ := h.rw e he
    exact ⟨cur, (hs _ (.inr (.inr (.inr (.inr (.inr ⟨e, he, rfl⟩)))))).trans h1, h2⟩
theorem SA.kept (h : SA w S V D M L P hf cap last vs es R) (hb : Below w.heap.size w w') : SA w' S V D M L P hf cap last vs es R := h.same (fun _ hk => hb.block _ (h.lt' hk))
theorem SA.nums (h : SA w S V D M L P hf cap last vs es R) : (∀ v ∈ vs, In64 v.n) ∧ (vs.map Vr.n).Nodup := by
  refine ⟨fun v hv => by have := h.nl v hv; have := h.lt; unfold In64; omega, ?_⟩
  refine (List.Pairwise.map (f := Vr.n) (R := fun a b => a.n < b.n) (S := (· ≠ ·)) (fun a b hab => by omega) h.nn)
theorem SA.look (h : SA w S V D M L P hf cap last vs es R) {n : Int} (hn : In64 n) : (Instr.lookup 67 (.map (some V)) (.int .i64 n) false).run Try.prog w = .ok (pf (fv vs n)) w := by
  obtain ⟨ms, c, h1, h2⟩ := h.vm
  exact vm_look h1 h.nums.1 h2 h.nums.2 hn
theorem SA.len (h : SA w S V D M L P hf cap last vs es R) (ty : TypeId) : (Builtin.len_ #[67] ty #[.map (some V)]).run Try.prog w = .ok (.int .i64 (vs.length : Int)) w := by
  obtain ⟨ms, c, h1, h2⟩ := h.vm
  have e1 : ms.size = vs.length := by have := congrArg List.length h2; simpa using this
  simp [Builtin.len_, run_underlying Try.underlying67, MapKept.run_getObj_map h1, goInt, Result.andThen, e1]
theorem SA.vcells (h : SA w S V D M L P hf cap last vs es R) {v : Vr} (hv : v ∈ vs) : (w.cell? ⟨v.b, 0, none⟩ = some (.int .i64 v.ba) ∧ w.cell? ⟨v.b, 1, none⟩ = some (.int .i64 v.ix) ∧ w.cell? ⟨v.b, 2, none⟩ = some (.int .i64 v.n) ∧ w.cell? ⟨v.b, 3, none⟩ = some (.int .i64 v.k.1) ∧ w.cell? ⟨v.b, 4, none⟩ = some (.int .i64 v.k.2) ∧ w.cell? ⟨v.b, 5, none⟩ = some (.bool v.fl) ∧ w.cell? ⟨v.b, 6, none⟩ = some (.bool v.ci) ∧ w.cell? ⟨v.b, 7, none⟩ = some (.int .i64 v.cv)) := by
  refine ⟨?_, ?_, ?_, ?_, ?_, ?_, ?_, ?_⟩ <;> simp [World.cell?, h.vb v hv, cellsV]
end

set_option maxHeartbeats 1000000 in
theorem live_any (w : World) (S V D M L P : Nat) (hf : Value) (cap last : Int) (vs : List Vr) (es : List En) (R : K → Nat × Nat × Nat) (h : SA w S V D M L P hf cap last vs es R) :
    Calls Try.prog 9 #[ptr S] w fun e w' => e = .returned (.int .i64 (vs.length : Int)) ∧ w' = w := by
  obtain ⟨_, _, _, c3, _⟩ := h.cells
  have hl := h.len
  clear h
  go_enter Try.func9, Try.ntmps9
  go_wp2
  go_ret
  exact ⟨rfl, rfl⟩
set_option maxHeartbeats 1000000 in
theorem room_any (w : World) (S V D M L P : Nat) (hf : Value) (cap last : Int) (vs : List Vr) (es : List En) (R : K → Nat × Nat × Nat) (h : SA w S V D M L P hf cap last vs es R) :
    Calls Try.prog 10 #[ptr S] w fun e w' => e = .returned (.int .i64 (cap - (vs.length : Int))) ∧ ∃ q, w' = w.drewN q := by
  obtain ⟨_, c1, _, _, _⟩ := h.cells
  have hlt := h.lt
  have HL : Hid (∀ n, Calls Try.prog 9 #[ptr S] (w.drewN n) fun e w' => e = .returned (.int .i64 (vs.length : Int)) ∧ w' = w.drewN n) := fun n => live_any (w.drewN n) S V D M L P hf cap last vs es R (h.same fun _ _ => rfl)
  clear h
  generalize vs.length = nv at *
  go_enter Try.func10, Try.ntmps10
  go_wp2_with fail
  go_quiet ((go_at_call 9; exact Calls.quiet_of_same (HL.out _)))
  have hw : wrap64 (cap - (nv : Int)) = cap - (nv : Int) := by unfold wrap64; omega
  go_wp2
  go_ret
  exact ⟨rfl, nq, rfl⟩
/-- a version, as it is told -/
abbrev toldV (v : Vr) : Value := .agg #[.int .i64 v.ba, .int .i64 v.ix, .bool v.fl, .bool v.ci, .int .i64 v.cv]
end Go.Proofs.Ytfkijdlggdgfhaa
