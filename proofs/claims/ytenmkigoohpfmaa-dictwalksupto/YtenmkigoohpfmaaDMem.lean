/-
  A Dict IN MEMORY.
-/
import Derived.Test.YtenmkigoohpfmaaKList
import Derived.DeepKeys4
import Derived.Maps.Keyed
import Derived.Maps.OwnSet
namespace Go.Proofs.Ytenmkigoohpfmaa
open Go.RowKit Go.Sort

/-- an entry: its block, its key, its value, its partition -/
structure En where
  b : Nat
  k : K
  v : Int
  p : Nat
abbrev ptr (b : Nat) : Value := .pointer (some ⟨b, 0, none⟩)
/-- the first one, the last one -/
def hp : List En → Value
  | [] => .pointer none
  | e :: _ => ptr e.b
def lp (l : List En) : Value := match l.getLast? with | none => .pointer none | some e => ptr e.b
theorem lp_nil : lp [] = .pointer none := rfl
theorem lp_snoc (l : List En) (e : En) : lp (l ++ [e]) = ptr e.b := by simp [lp]
theorem hp_cons (e : En) (l : List En) : hp (e :: l) = ptr e.b := rfl
/-- a partition's -/
def pt (p : Nat) (l : List En) : List En := l.filter (fun e => e.p == p)
theorem pt_append (p : Nat) (A B : List En) : pt p (A ++ B) = pt p A ++ pt p B := by simp [pt]
theorem pt_cons_same {p : Nat} {e : En} (h : e.p = p) (l : List En) : pt p (e :: l) = e :: pt p l := by simp [pt, h]
theorem pt_cons_other {p : Nat} {e : En} (h : e.p ≠ p) (l : List En) : pt p (e :: l) = pt p l := by simp [pt, h]
theorem pt_nil (p : Nat) : pt p [] = [] := rfl
theorem pt_mem {p : Nat} {e : En} {l : List En} : e ∈ pt p l ↔ e ∈ l ∧ e.p = p := by simp [pt]
def cellsE (e : En) (x y : Value) : Array Value := #[.int .i64 e.k.1, .int .i64 e.k.2, .int .i64 e.v, .int .i64 (e.p : Int), x, y]
/-- the Dict in block D -/
structure DA (w : World) (D M L : Nat) (hf : Value) (P : Nat) (es : List En) : Prop where
  dc : w.heap[D]? = some (.cells #[hf, .map (some M), .slice (some ⟨L, 0, none⟩) P P] 45 (0, 0))
  mp : ∃ ms clock, w.heap[M]? = some (.map ms clock) ∧ ms.toList.map (fun x => (x.key, x.val)) = es.map (fun e => (kv e.k, ptr e.b))
  ln : ∃ C, w.heap[L]? = some (.cells C 52 (0, 0)) ∧ C.size = 3 * P ∧ ∀ p, p < P → C[3 * p]? = some (hp (pt p es)) ∧ C[3 * p + 1]? = some (lp (pt p es)) ∧ C[3 * p + 2]? = some (.int .i64 ((pt p es).length : Int))
  en : ∀ A e C, es = A ++ e :: C → w.heap[e.b]? = some (.cells (cellsE e (lp (pt e.p A)) (hp (pt e.p C))) 49 (0, 0))
  kn : (es.map En.k).Nodup
  bn : (es.map En.b).Nodup
  pp : ∀ e ∈ es, e.p < P ∧ KIn e.k ∧ In64 e.v
  P0 : 1 ≤ P ∧ P ≤ 256
theorem blk_lt {w : World} {k : Nat} {o : Obj} (h : w.heap[k]? = some o) : k < w.heap.size := (Array.getElem?_eq_some_iff.1 h).1
theorem DA.entry {w : World} {D M L P : Nat} {hf : Value} {es : List En} (h : DA w D M L hf P es) {e : En} (he : e ∈ es) : ∃ x y, w.heap[e.b]? = some (.cells (cellsE e x y) 49 (0, 0)) := by
  obtain ⟨A, C, rfl⟩ := List.append_of_mem he
  exact ⟨_, _, h.en A e C rfl⟩
/-- what may turn -/
def Ft (M L : Nat) (es : List En) (k : Nat) : Prop := k = M ∨ k = L ∨ ∃ e ∈ es, e.b = k
theorem DA.lt {w : World} {D M L P : Nat} {hf : Value} {es : List En} (h : DA w D M L hf P es) {k : Nat} (hk : k = D ∨ Ft M L es k) : k < w.heap.size := by
  rcases hk with rfl | rfl | rfl | ⟨e, he, rfl⟩
  · exact blk_lt h.dc
  · obtain ⟨_, _, h1, _⟩ := h.mp; exact blk_lt h1
  · obtain ⟨_, h1, _⟩ := h.ln; exact blk_lt h1
  · obtain ⟨_, _, h1⟩ := h.entry he; exact blk_lt h1
theorem DA.same {w w' : World} {D M L P : Nat} {hf : Value} {es : List En} (h : DA w D M L hf P es) (hs : ∀ k, (k = D ∨ Ft M L es k) → w'.heap[k]? = w.heap[k]?) : DA w' D M L hf P es := by
  refine ⟨(hs D (.inl rfl)).trans h.dc, ?_, ?_, fun A e C he => (hs _ (.inr (.inr (.inr ⟨e, by rw [he]; simp, rfl⟩)))).trans (h.en A e C he), h.kn, h.bn, h.pp, h.P0⟩
  · obtain ⟨ms, c, h1, h2⟩ := h.mp
    exact ⟨ms, c, (hs M (.inr (.inl rfl))).trans h1, h2⟩
  · obtain ⟨C, h1, h2⟩ := h.ln
    exact ⟨C, (hs L (.inr (.inr (.inl rfl)))).trans h1, h2⟩
theorem DA.kept {w w' : World} {D M L P : Nat} {hf : Value} {es : List En} (h : DA w D M L hf P es) (hb : Below w.heap.size w w') : DA w' D M L hf P es := h.same (fun _ hk => hb.block _ (h.lt hk))
/-- blocks in S may turn, new ones may come -/
structure Fr (S : Nat → Prop) (w w' : World) : Prop where
  os : w'.os = w.os
  tape : w'.tape = w.tape
  output : w'.output = w.output
  size : w.heap.size ≤ w'.heap.size
  block : ∀ k, k < w.heap.size → ¬ S k → w'.heap[k]? = w.heap[k]?
theorem Fr.refl (S : Nat → Prop) (w : World) : Fr S w w := ⟨rfl, rfl, rfl, Nat.le_refl _, fun _ _ _ => rfl⟩
theorem Fr.ofBelow {S : Nat → Prop} {w w' : World} (h : Below w.heap.size w w') : Fr S w w' := ⟨h.os, h.tape, h.output, h.size, fun k hk _ => h.block k hk⟩
theorem Fr.trans {S T : Nat → Prop} {a b c : World} (h : Fr S a b) (h2 : Fr T b c) (hT : ∀ k, k < a.heap.size → T k → S k) : Fr S a c :=
  ⟨h2.os.trans h.os, h2.tape.trans h.tape, h2.output.trans h.output, Nat.le_trans h.size h2.size, fun k hk hS => (h2.block k (Nat.lt_of_lt_of_le hk h.size) (fun t => hS (hT k hk t))).trans (h.block k hk hS)⟩
theorem Fr.below {S : Nat → Prop} {a b : World} (h : Fr S a b) {n : Nat} (hn : n ≤ a.heap.size) (hS : ∀ k, S k → n ≤ k) : Below n a b :=
  ⟨h.os, h.tape, h.output, h.size, fun k hk => h.block k (by omega) (fun s => by have := hS k s; omega)⟩
theorem Fr.set {S : Nat → Prop} {a b : World} (h : Fr S a b) (p : Addr) (v : Value) (hp : a.heap.size ≤ p.block ∨ S p.block) : Fr S a (b.setCell p v) :=
  ⟨h.os, h.tape, h.output, by simpa using h.size, fun k hk hS => (heap_setCell_other b p k v (fun e => by rcases hp with hp | hp; · omega
                                                                                                          · exact hS (by rw [e]; exact hp))).trans (h.block k hk hS)⟩

/-- keys of maps -/
theorem keyed : Maps.Keyed Try.prog 28 := Maps.Keyed.of_law (deep_law_laid (by kernel_rfl) (m := 200) (by decide) (by decide +kernel) (by kernel_rfl) (by kernel_rfl))
theorem key_lit {k : K} (h : KIn k) : ∃ l, keyOf Try.prog 28 (kv k) = some l := by
  have hw1 : (Lit.int .i64 k.1).wf = true := WalkArith.wf_i64 h.1
  have hw2 : (Lit.int .i64 k.2).wf = true := WalkArith.wf_i64 h.2
  have ht : Try.prog.keyType 28 = true := by kernel_rfl
  have hc : Try.prog.cellsOf 28 = 2 := by kernel_rfl
  have hc3 : Try.prog.cellsOf 3 = 1 := by kernel_rfl
  have hc2 : Try.prog.cellsOf 2 = 1 := by kernel_rfl
  have hf : (kv k).formed Try.prog 28 = true := by simp [Value.formed, Try.underlying28, hc]
  have hu : Try.prog.underlying 28 = some (.struct (Try.prog.fieldsOf 28)) := by kernel_rfl
  have k3 : ∀ d x, (Lit.int .i64 x).wf = true → Try.prog.keyLits (d + 1) 3 [.int .i64 x] = some [.int .i64 x] := fun d x hx => by
    unfold Program.keyLits; rw [Try.underlying3]; simp [hx]
  have k2 : ∀ d x, (Lit.int .i64 x).wf = true → Try.prog.keyLits (d + 1) 2 [.int .i64 x] = some [.int .i64 x] := fun d x hx => by
    unfold Program.keyLits; rw [Try.underlying2]; simp [hx]
  have hl : ∃ ls, Try.prog.keyLits (Try.prog.types.size + 1) 28 [.int .i64 k.1, .int .i64 k.2] = some ls := by
    have hz : Try.prog.types.size = 76 + 1 := by kernel_rfl
    rw [hz]
    unfold Program.keyLits
    rw [hu]
    simp [Program.fieldsOf, Try.underlying28, hc, hc2, hc3, k2 76 _ hw2, k3 76 _ hw1]
  obtain ⟨ls, hl⟩ := hl
  refine ⟨.string (Go.keyBytes ls), ?_⟩
  unfold keyOf
  rw [hu]
  simp only [ht, hf, Bool.and_self, if_true]
  rw [show (kv k).cells.toList = [.int .i64 k.1, .int .i64 k.2] from rfl, hl]
  rfl
end Go.Proofs.Ytenmkigoohpfmaa
