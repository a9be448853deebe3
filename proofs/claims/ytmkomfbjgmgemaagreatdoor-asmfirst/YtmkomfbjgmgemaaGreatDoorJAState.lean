import Derived.Test.YtmkomfbjgmgemaaGreatDoorJLProc
import Derived.Test.YtmkomfbjgmgemaaGreatDoorJAMap
/-
  AN ASSEMBLY IN MEMORY.
-/
namespace Go.Proofs.YtmkomfbjgmgemaaGreatDoor
open Go.RowKit Go.Sort

theorem hidA {p : Prop} (h : p) : Hid p := h
/-- a procedure as it lies, as what it is -/
def ppOf (x : Pr) : PP := ⟨x.name.data.toList, x.p, x.L⟩
def cdV (x : Pr) : Value := .slice x.ao x.n x.cap
/-- places -/
def spc : List (Nat × Nat) → List Value
  | [] => []
  | x :: l => .int .i64 (x.1 : Int) :: .int .i64 (x.2 : Int) :: spc l
theorem spc_len (l : List (Nat × Nat)) : (spc l).length = l.length * 2 := by
  induction l with
  | nil => rfl
  | cons x l ih => simp only [spc, List.length_cons, ih]; omega
theorem spc_app (a b : List (Nat × Nat)) : spc (a ++ b) = spc a ++ spc b := by
  induction a with
  | nil => rfl
  | cons x a ih => simp [spc, ih]
theorem spc_at (l : List (Nat × Nat)) (i : Nat) (hi : i < l.length) : (spc l)[i * 2]? = some (.int .i64 (l[i].1 : Int)) ∧ (spc l)[i * 2 + 1]? = some (.int .i64 (l[i].2 : Int)) := by
  induction l generalizing i with
  | nil => simp at hi
  | cons v l ih =>
    cases i with
    | zero => simp [spc]
    | succ i =>
      have := ih i (by simpa using hi)
      rw [show (i + 1) * 2 = i * 2 + 1 + 1 by omega]
      simpa [spc] using this
theorem spc_one (l : List (Nat × Nat)) : ∀ v ∈ spc l, v.oneCell' = true := by
  induction l with
  | nil => simp [spc]
  | cons v l ih =>
    intro u hu
    simp only [spc, List.mem_cons] at hu
    rcases hu with rfl | rfl | hu
    · rfl
    · rfl
    · exact ih u hu
/-- jumps -/
def jpc : List Jp → List Value
  | [] => []
  | x :: l => .int .i64 (x.frm : Int) :: .string (S x.label) :: .int .i64 (x.line : Int) :: .int .i64 (x.col : Int) :: jpc l
theorem jpc_len (l : List Jp) : (jpc l).length = l.length * 4 := by
  induction l with
  | nil => rfl
  | cons x l ih => simp only [jpc, List.length_cons, ih]; omega
theorem jpc_app (a b : List Jp) : jpc (a ++ b) = jpc a ++ jpc b := by
  induction a with
  | nil => rfl
  | cons x a ih => simp [jpc, ih]
theorem jpc_at (l : List Jp) (i : Nat) (hi : i < l.length) : (jpc l)[i * 4]? = some (.int .i64 (l[i].frm : Int)) ∧ (jpc l)[i * 4 + 1]? = some (.string (S l[i].label)) ∧ (jpc l)[i * 4 + 2]? = some (.int .i64 (l[i].line : Int)) ∧ (jpc l)[i * 4 + 3]? = some (.int .i64 (l[i].col : Int)) := by
  induction l generalizing i with
  | nil => simp at hi
  | cons v l ih =>
    cases i with
    | zero => simp [jpc]
    | succ i =>
      have := ih i (by simpa using hi)
      rw [show (i + 1) * 4 = i * 4 + 1 + 1 + 1 + 1 by omega]
      simpa [jpc] using this
theorem jpc_one (l : List Jp) : ∀ v ∈ jpc l, v.oneCell' = true := by
  induction l with
  | nil => simp [jpc]
  | cons v l ih =>
    intro u hu
    simp only [jpc, List.mem_cons] at hu
    rcases hu with rfl | rfl | rfl | rfl | hu
    · rfl
    · rfl
    · rfl
    · rfl
    · exact ih u hu
/-- sizes: behind k lines -/
structure AsSz (a : As) (k : Nat) : Prop where
  top : k ≤ 65537
  lib : a.lib.length ≤ k
  code : ∀ x ∈ a.lib, x.L.length ≤ k
  lab : a.labels.length ≤ k
  jmp : a.jumps.length ≤ k
  nms : a.names.length = a.lib.length
  opn : a.opn = true → a.lib ≠ []
  frm : a.opn = true → ∀ j ∈ a.jumps, j.frm < (lastP a).L.length
  jlb : ∀ j ∈ a.jumps, j.label.length ≤ 65536
  lbs : ∀ x ∈ a.labels, x.2 ≤ 65537
  jln : ∀ j ∈ a.jumps, j.line ≠ 0
theorem AsSz.up {a : As} {k m : Nat} (h : AsSz a k) (hk : k ≤ m) (hm : m ≤ 65537) : AsSz a m := ⟨hm, Nat.le_trans h.lib hk, fun x hx => Nat.le_trans (h.code x hx) hk, Nat.le_trans h.lab hk, Nat.le_trans h.jmp hk, h.nms, h.opn, h.frm, h.jlb, h.lbs, h.jln⟩
/-- what may lie in an assembly's blocks -/
def AOb : Obj → Prop
  | .cells _ t _ => t = 53 ∨ t = 38 ∨ t = 40 ∨ t = 49 ∨ t = 148
  | .map _ _ => True
  | _ => False
/-- AN ASSEMBLY: its box B; all else of it lies from M on -/
structure ASt (W : World) (M B line : Nat) (a : As) (Ps : List Pr) (vl vn vm vj : Value) : Prop where
  ab : AB W B line vl vn a.opn a.begun.1 a.begun.2 vm vj
  lib : OwnP W M vl Ps
  eq : a.lib = Ps.map ppOf
  code : ∀ x ∈ Ps, x.n = x.L.length ∧ W.ownsRow M 40 2 (cdV x) x.n (cks x.L)
  ap : Ps.Pairwise (fun x y => ∀ g, (cdV x).ownBlock = some g → (cdV y).ownBlock ≠ some g)
  nms : W.ownsRow M 49 2 vn a.names.length (spc a.names)
  jps : W.ownsRow M 148 4 vj a.jumps.length (jpc a.jumps)
  lab : a.opn = true → ∃ mb, vm = .map (some mb) ∧ M ≤ mb ∧ LM W mb a.labels
  ok : ∀ x ∈ Ps, NIn x.p ∧ (∀ k ∈ x.L, KIn k) ∧ x.name.size ≤ 65536
  bm : B < M ∧ M ≤ W.heap.size
section
variable {W W' : World} {M B line : Nat} {a : As} {Ps : List Pr} {vl vn vm vj : Value}
theorem own_blk {W : World} {base e size n : Nat} {v : Value} {xs : List Value} (h : W.ownsRow base e size v n xs) {g : Nat} (hg : v.ownBlock = some g) : ∃ cur, W.heap[g]? = some (.cells cur e (0, 0)) := by
  obtain ⟨_, ⟨rfl, _⟩ | ⟨g1, c1, cur1, rfl, _, hh, _⟩⟩ := h
  · cases hg
  · cases hg; exact ⟨cur1, hh⟩
theorem ASt.keep (h : ASt W M B line a Ps vl vn vm vj) (hm : M ≤ W'.heap.size) (hs : ∀ (k : Nat) (o : Obj), W.heap[k]? = some o → AOb o → W'.heap[k]? = some o) : ASt W' M B line a Ps vl vn vm vj := by
  have row : ∀ {base e size n : Nat} {v : Value} {xs : List Value}, W.ownsRow base e size v n xs → (e = 53 ∨ e = 38 ∨ e = 40 ∨ e = 49 ∨ e = 148) → W'.ownsRow base e size v n xs := fun ho he => ownsRow_same ho (fun g hg => by
    obtain ⟨cur, hc⟩ := own_blk ho hg
    rw [hc]
    exact hs g _ hc he)
  refine ⟨hs B _ h.ab (.inl rfl), row h.lib (.inr (.inl rfl)), h.eq, fun x hx => ⟨(h.code x hx).1, row (h.code x hx).2 (.inr (.inr (.inl rfl)))⟩, h.ap, row h.nms (.inr (.inr (.inr (.inl rfl)))), row h.jps (.inr (.inr (.inr (.inr rfl)))), fun ho => ?_, h.ok, h.bm.1, hm⟩
  obtain ⟨mb, h1, h2, h3⟩ := h.lab ho
  refine ⟨mb, h1, h2, h3.same ?_⟩
  obtain ⟨D, ⟨es, clock, hb, _⟩, _⟩ := h3
  rw [hb]
  exact hs mb _ hb trivial
theorem ASt.below (h : ASt W M B line a Ps vl vn vm vj) (hb : Go.RowKit.Below W.heap.size W W') : ASt W' M B line a Ps vl vn vm vj :=
  h.keep (Nat.le_trans h.bm.2 hb.size) (fun k _ hk _ => (hb.block k (Array.getElem?_eq_some_iff.1 hk).1).trans hk)
/-- a reader's step -/
theorem ASt.bx (h : ASt W M B line a Ps vl vn vm vj) {Z : Nat → Prop} {r : Nat} {rd : Rd} (hr : RB Z W r rd) (hb : Bx r W W') : ASt W' M B line a Ps vl vn vm vj :=
  h.keep (Nat.le_trans h.bm.2 hb.size) (fun k o hk ho => (hb.block k (Array.getElem?_eq_some_iff.1 hk).1 (fun e => by
    obtain ⟨a1, c1, h1, _⟩ := hr
    rw [e, h1] at hk
    cases hk
    rcases ho with h | h | h | h | h <;> exact absurd h (by decide))).trans hk)
end
/-- other labels -/
theorem ASt.relab {W W' : World} {M B line : Nat} {a : As} {Ps : List Pr} {vl vn vm vj : Value} (h : ASt W M B line a Ps vl vn vm vj) (hm : M ≤ W'.heap.size) (hs : ∀ (k : Nat) (cur : Array Value) (t : TypeId), W.heap[k]? = some (.cells cur t (0, 0)) → W'.heap[k]? = W.heap[k]?) (ls : List (List UInt8 × Nat)) (hl : a.opn = true → ∃ mb, vm = .map (some mb) ∧ M ≤ mb ∧ LM W' mb ls) : ASt W' M B line { a with labels := ls } Ps vl vn vm vj := by
  have row : ∀ {base e size n : Nat} {v : Value} {xs : List Value}, W.ownsRow base e size v n xs → W'.ownsRow base e size v n xs := fun ho => ownsRow_same ho (fun g hg => by
    obtain ⟨cur, hc⟩ := own_blk ho hg
    exact hs g _ _ hc)
  exact ⟨(hs B _ _ h.ab).trans h.ab, row h.lib, h.eq, fun x hx => ⟨(h.code x hx).1, row (h.code x hx).2⟩, h.ap, row h.nms, row h.jps, hl, h.ok, h.bm.1, hm⟩
theorem pd_snoc (Qs : List Pr) (x : Pr) : pd (Qs ++ [x]) Qs.length = x := by simp [pd]
/-- the procedure that is open -/
theorem ASt.lastQ {W : World} {M B line : Nat} {a : As} {Ps : List Pr} {vl vn vm vj : Value} (h : ASt W M B line a Ps vl vn vm vj) (hne0 : a.lib ≠ []) (hl0 : a.lib.length ≤ 65537) (hc0 : ∀ x ∈ a.lib, x.L.length ≤ 65537) : ∃ Qs x g cap, Ps = Qs ++ [x] ∧ vl = .slice (some ⟨g, 0, none⟩) (Qs.length + 1) cap ∧ M ≤ g ∧ W.cell? ⟨g, Qs.length * 6 + 5, none⟩ = some (.slice x.ao x.L.length x.cap) ∧ lastP a = ppOf x ∧ Qs.length ≤ 65537 ∧ x.L.length ≤ 65537 ∧ x.n = x.L.length := by
  have hne : Ps ≠ [] := fun e => hne0 (by rw [h.eq, e]; rfl)
  obtain ⟨Qs, x, rfl⟩ : ∃ Qs x, Ps = Qs ++ [x] := ⟨Ps.dropLast, Ps.getLast hne, (List.dropLast_concat_getLast hne).symm⟩
  rcases h.lib.shape with ⟨_, e⟩ | ⟨g, cap, e, hg, _, _, _, hp⟩
  · exact absurd e hne
  · have hx := (h.code x (by simp)).1
    have hlx : lastP a = ppOf x := by unfold lastP; rw [h.eq]; simp
    obtain ⟨b, off, e2, _, _, _, _, _, c5⟩ := hp.get Qs.length (by simp)
    rw [pd_snoc, hx] at c5
    cases e2
    have hl : (Qs ++ [x]).length = Qs.length + 1 := by simp
    rw [hl] at e
    have h1 := hl0
    have h3 := hc0 (ppOf x) (by rw [h.eq]; simp)
    rw [h.eq, List.length_map, hl] at h1
    refine ⟨Qs, x, g, cap, rfl, e, hg, ?_, hlx, by omega, ?_, hx⟩
    · rw [Nat.zero_add] at c5; exact c5
    · exact h3
theorem ASt.last {W : World} {M B line k : Nat} {a : As} {Ps : List Pr} {vl vn vm vj : Value} (h : ASt W M B line a Ps vl vn vm vj) (hz : AsSz a k) (ho : a.opn = true) : ∃ Qs x g cap, Ps = Qs ++ [x] ∧ vl = .slice (some ⟨g, 0, none⟩) (Qs.length + 1) cap ∧ M ≤ g ∧ W.cell? ⟨g, Qs.length * 6 + 5, none⟩ = some (.slice x.ao x.L.length x.cap) ∧ lastP a = ppOf x ∧ Qs.length ≤ 65537 ∧ x.L.length ≤ 65537 ∧ x.n = x.L.length := h.lastQ (hz.opn ho) (Nat.le_trans hz.lib hz.top) (fun x hx => Nat.le_trans (hz.code x hx) hz.top)
/-- what stays: all below M but B -/
structure FrA (M B : Nat) (W W' : World) : Prop where
  os : W'.os = W.os
  tape : W'.tape = W.tape
  output : W'.output = W.output
  size : W.heap.size ≤ W'.heap.size
  block : ∀ k, k < M → k ≠ B → W'.heap[k]? = W.heap[k]?
theorem FrA.refl (M B : Nat) (W : World) : FrA M B W W := ⟨rfl, rfl, rfl, Nat.le_refl _, fun _ _ _ => rfl⟩
theorem FrA.trans {M B : Nat} {a b c : World} (h : FrA M B a b) (k : FrA M B b c) : FrA M B a c := ⟨k.os.trans h.os, k.tape.trans h.tape, k.output.trans h.output, Nat.le_trans h.size k.size, fun i hi hr => (k.block i hi hr).trans (h.block i hi hr)⟩
theorem FrA.bel {M B : Nat} {a b : World} (h : Go.RowKit.Below a.heap.size a b) (hM : M ≤ a.heap.size) : FrA M B a b := ⟨h.os, h.tape, h.output, h.size, fun i hi _ => h.block i (by omega)⟩
theorem FrA.bx {M B r : Nat} {a b : World} (h : Bx r a b) (hM : M ≤ a.heap.size) (hr : M ≤ r) : FrA M B a b := ⟨h.os, h.tape, h.output, h.size, fun i hi _ => h.block i (by omega) (by omega)⟩
theorem FrA.grown {M B : Nat} {a b : World} {row : Option Nat} (h : a.grownBy b row) (hM : M ≤ a.heap.size) (hr : ∀ k, row = some k → M ≤ k) : FrA M B a b := ⟨h.os, h.tape, h.output, h.size, fun i hi _ => h.block i (by omega) (fun e => by have := hr i e.symm; omega)⟩
theorem FrA.set {M B : Nat} {W : World} (ad : Addr) (v : Value) (h : ad.block = B ∨ M ≤ ad.block) : FrA M B W (W.setCell ad v) := ⟨rfl, rfl, rfl, by simp, fun k hk hb => heap_setCell_other W ad k v (by rcases h with h | h <;> omega)⟩
/-- where a line's words may lie: below M, not in B -/
def ZA (M B : Nat) : Nat → Prop := fun k => k < M ∧ k ≠ B
/-- the blocks that other boxes are in: readers, instructions -/
def RI (t : TypeId) : Prop := t = 79 ∨ t = 40
/-- what stays, readers and instructions too -/
structure FrR (M B : Nat) (W W' : World) : Prop where
  fr : FrA M B W W'
  rd : ∀ (k : Nat) (cur : Array Value) (t : TypeId), W.heap[k]? = some (.cells cur t (0, 0)) → RI t → W'.heap[k]? = W.heap[k]?
theorem FrR.refl (M B : Nat) (W : World) : FrR M B W W := ⟨FrA.refl _ _ _, fun _ _ _ _ _ => rfl⟩
theorem FrR.trans {M B : Nat} {a b c : World} (h : FrR M B a b) (k : FrR M B b c) : FrR M B a c := ⟨h.fr.trans k.fr, fun i cur t hi ht => (k.rd i cur t ((h.rd i cur t hi ht).trans hi) ht).trans (h.rd i cur t hi ht)⟩
theorem FrR.bel {M B : Nat} {a b : World} (h : Go.RowKit.Below a.heap.size a b) (hM : M ≤ a.heap.size) : FrR M B a b := ⟨FrA.bel h hM, fun i _ _ hi _ => h.block i (Array.getElem?_eq_some_iff.1 hi).1⟩
theorem FrR.grown {M B g : Nat} {a b : World} (h : a.grownBy b (some g)) (hM : M ≤ a.heap.size) (hr : M ≤ g) (hg : ∀ cur t, RI t → a.heap[g]? ≠ some (.cells cur t (0, 0))) : FrR M B a b := ⟨FrA.grown h hM (fun k e => by cases e; exact hr), fun i cur t hi ht => h.block i (Array.getElem?_eq_some_iff.1 hi).1 (fun e => by cases e; exact hg cur t ht hi)⟩
theorem FrR.set {M B : Nat} {W : World} (ad : Addr) (v : Value) (h : ad.block = B ∨ M ≤ ad.block) (hg : ∀ cur t, RI t → W.heap[ad.block]? ≠ some (.cells cur t (0, 0))) : FrR M B W (W.setCell ad v) := ⟨FrA.set ad v h, fun k cur t hk ht => heap_setCell_other W ad k v (fun e => by rw [e] at hk; exact hg cur t ht hk)⟩
/-- what stays, instructions too -/
structure FrJ (M B : Nat) (W W' : World) : Prop where
  fr : FrA M B W W'
  ins : ∀ (k : Nat) (cur : Array Value), W.heap[k]? = some (.cells cur 40 (0, 0)) → W'.heap[k]? = W.heap[k]?
theorem FrJ.trans {M B : Nat} {a b c : World} (h : FrJ M B a b) (k : FrJ M B b c) : FrJ M B a c := ⟨h.fr.trans k.fr, fun i cur hi => (k.ins i cur ((h.ins i cur hi).trans hi)).trans (h.ins i cur hi)⟩
theorem FrR.j {M B : Nat} {a b : World} (h : FrR M B a b) : FrJ M B a b := ⟨h.fr, fun k cur hk => h.rd k cur _ hk (.inr rfl)⟩
theorem FrJ.bel {M B : Nat} {a b : World} (h : Go.RowKit.Below a.heap.size a b) (hM : M ≤ a.heap.size) : FrJ M B a b := (FrR.bel h hM).j
theorem FrJ.bx {M B r : Nat} {Z : Nat → Prop} {rd : Rd} {a b : World} (hr : RB Z a r rd) (h : Bx r a b) (hM : M ≤ a.heap.size) (hMr : M ≤ r) : FrJ M B a b := ⟨FrA.bx h hM hMr, fun k cur hk => h.block k (Array.getElem?_eq_some_iff.1 hk).1 (fun e => by
  obtain ⟨a1, c1, h1, _⟩ := hr
  rw [e, h1] at hk
  simp only [Option.some.injEq, Obj.cells.injEq] at hk
  exact absurd hk.2.1 (by decide))⟩
theorem RB.fra {M B : Nat} {W W' : World} {r : Nat} {rd : Rd} (h : RB (ZA M B) W r rd) (hf : FrA M B W W') (hr : W'.heap[r]? = W.heap[r]?) : RB (ZA M B) W' r rd := by
  obtain ⟨a, c, h1, h2, h3, h4⟩ := h
  refine ⟨a, c, hr.trans h1, ?_, h3, h4⟩
  rcases h2 with h2 | ⟨b, off, rfl, hc⟩
  · exact .inl h2
  · by_cases hx : rd.1 = []
    · exact .inl (by rw [hx]; rfl)
    · refine .inr ⟨b, off, rfl, fun j u hu => ?_⟩
      have h5 := hc j u hu
      have h6 := (h3 _ rfl hx).2
      simp only [World.cell?] at h5 ⊢
      rw [hf.block b h6.1 h6.2]
      exact h5
theorem RB.frr {M B : Nat} {W W' : World} {r : Nat} {rd : Rd} (h : RB (ZA M B) W r rd) (hf : FrR M B W W') : RB (ZA M B) W' r rd := h.fra hf.fr (by
  obtain ⟨a, c, h1, _⟩ := h
  exact hf.rd r _ _ h1 (.inl rfl))
end Go.Proofs.YtmkomfbjgmgemaaGreatDoor
/-
  WHAT HOLDS BEHIND EACH LINE: sizes.
-/
namespace Go.Proofs.YtmkomfbjgmgemaaGreatDoor

theorem firstA_ok {a a' : As} {line : Nat} {ws : List Wd} (h : firstA a line ws = .ok a') : ∃ (nm : Wd) (ns : List Int), nm ∈ ws ∧ a' = { a with lib := a.lib ++ [⟨nm.1, ⟨ns.getD 0 0, ns.getD 1 0, ns.getD 2 0, ns.getD 3 0⟩, []⟩], names := a.names ++ [(line, nm.2)], opn := true, begun := (line, (ws.headD ([], 0)).2), labels := [], jumps := [] } := by
  unfold firstA at h
  cases h1 : rMust procL (ws, 0) with
  | error e => rw [h1] at h; cases h
  | ok r1 =>
    rw [h1] at h
    simp only at h
    cases h2 : rNext r1 with
    | error e => rw [h2] at h; cases h
    | ok p =>
      obtain ⟨nm, r2⟩ := p
      rw [h2] at h
      simp only at h
      cases h3 : rFour r2 4 with
      | error e => rw [h3] at h; cases h
      | ok p =>
        obtain ⟨ns, r3⟩ := p
        rw [h3] at h
        simp only at h
        cases h4 : rEnd r3 with
        | some e => rw [h4] at h; cases h
        | none =>
          rw [h4] at h
          simp only [Except.ok.injEq] at h
          refine ⟨nm, ns, ?_, h.symm⟩
          unfold rMust at h1
          cases ws with
          | nil => cases h1
          | cons x ws =>
            simp only [rNext] at h1
            split at h1
            · simp only [Except.ok.injEq] at h1
              subst h1
              cases ws with
              | nil => cases h2
              | cons y ws =>
                simp only [rNext, Except.ok.injEq, Prod.mk.injEq] at h2
                rw [← h2.1]
                simp
            · cases h1
theorem lastP_setL (a : As) (L : List K) : lastP (setL a L) = { lastP a with L := L } := by simp [lastP, setL]
theorem setL_len {a : As} (h : a.lib ≠ []) (L : List K) : (setL a L).lib.length = a.lib.length := by
  have : 0 < a.lib.length := List.length_pos_iff.2 h
  simp [setL]
  omega
theorem fixN_len {ls : List (List UInt8 × Nat)} : ∀ {js : List Jp} {L L' : List K}, fixN ls js L = .ok L' → L'.length = L.length
  | [], L, L', h => by simp only [fixN, Except.ok.injEq] at h; rw [h]
  | j :: js, L, L', h => by
    simp only [fixN] at h
    split at h
    · cases h
    · have := fixN_len h
      simpa using this
/-- what a line inside does -/
inductive InOK (a : As) (line : Nat) (x : Wd) (rest : List Wd) : As → Prop where
  | fin (L : List K) (h : fixN a.labels a.jumps (lastP a).L = .ok L) : InOK a line x rest { setL a L with opn := false }
  | lab : InOK a line x rest { a with labels := a.labels ++ [(x.1.dropLast, (lastP a).L.length)] }
  | ins (op n : Int) (js : List Jp) (h : js = [] ∨ ∃ y ∈ rest, js = [⟨(lastP a).L.length, y.1, line, y.2⟩]) : InOK a line x rest (setL { a with jumps := a.jumps ++ js } ((lastP a).L ++ [(op, n)]))
theorem argA_ok {a : As} {line : Nat} {op n : Int} {rest : List Wd} {b : Nat} {js : List Jp} {r1 : Rd} (h : argA a line op (rest, b) = .ok (n, js, r1)) : js = [] ∨ ∃ y ∈ rest, js = [⟨(lastP a).L.length, y.1, line, y.2⟩] := by
  unfold argA at h
  split at h
  · cases rest with
    | nil => cases h
    | cons y rest =>
      simp only [rNext] at h
      split at h
      · cases h
      · split at h
        · cases h
        · simp only [Except.ok.injEq, Prod.mk.injEq] at h
          exact .inr ⟨y, by simp, h.2.1.symm⟩
  · split at h
    · split at h
      · cases h
      · simp only [Except.ok.injEq, Prod.mk.injEq] at h
        exact .inl h.2.1.symm
    · simp only [Except.ok.injEq, Prod.mk.injEq] at h
      exact .inl h.2.1.symm
theorem insideA_ok {a a' : As} {line : Nat} {x : Wd} {rest : List Wd} (h : insideA a line (x :: rest) = .ok a') : InOK a line x rest a' := by
  simp only [insideA] at h
  split at h
  · split at h
    · cases h
    · split at h
      · cases h
      · rename_i L hL
        simp only [Except.ok.injEq] at h
        rw [← h]
        exact .fin L hL
  · split at h
    · split at h
      · cases h
      · split at h
        · cases h
        · split at h
          · cases h
          · simp only [Except.ok.injEq] at h
            rw [← h]
            exact .lab
    · split at h
      · cases h
      · split at h
        · cases h
        · rename_i n js r1 hA
          split at h
          · cases h
          · simp only [Except.ok.injEq] at h
            rw [← h]
            exact .ins _ _ js (argA_ok hA)
theorem lastP_mem {a : As} (h : a.lib ≠ []) : lastP a ∈ a.lib := by
  unfold lastP
  rw [List.getLastD_eq_getLast?, List.getLast?_eq_some_getLast h]
  exact List.getLast_mem h
theorem setL_mem {a : As} {L : List K} {x : PP} (h : x ∈ (setL a L).lib) : x ∈ a.lib ∨ x.L = L := by
  simp only [setL, List.mem_append, List.mem_singleton] at h
  rcases h with h | h
  · exact .inl (List.dropLast_subset _ h)
  · exact .inr (by rw [h])
theorem inside_sz {a a' : As} {line k : Nat} {x : Wd} {rest : List Wd} (hs : AsSz a k) (hk : k + 1 ≤ 65537) (hl0 : line ≠ 0) (ho : a.opn = true) (hw : ∀ y ∈ x :: rest, y.1.length ≤ 65536) (h : InOK a line x rest a') : AsSz a' (k + 1) := by
  have hne := hs.opn ho
  have hlp := hs.code _ (lastP_mem hne)
  cases h with
  | fin L hL =>
    have hl := fixN_len hL
    refine ⟨hk, by show (setL a L).lib.length ≤ _; rw [setL_len hne]; have := hs.lib; omega, fun y hy => ?_, by have := hs.lab; show a.labels.length ≤ _; omega, by have := hs.jmp; show a.jumps.length ≤ _; omega, by show a.names.length = (setL a L).lib.length; rw [setL_len hne]; exact hs.nms, fun h => (by cases h), fun h => (by cases h), hs.jlb, hs.lbs, hs.jln⟩
    rcases setL_mem hy with h | h
    · have := hs.code y h; omega
    · rw [h]; omega
  | lab =>
    refine ⟨hk, by have := hs.lib; show a.lib.length ≤ _; omega, fun y hy => by have := hs.code y hy; omega, by have := hs.lab; simp; omega, by have := hs.jmp; show a.jumps.length ≤ _; omega, hs.nms, hs.opn, hs.frm, hs.jlb, fun y hy => ?_, hs.jln⟩
    rcases List.mem_append.1 hy with h | h
    · exact hs.lbs y h
    · simp only [List.mem_singleton] at h
      rw [h]
      show (lastP a).L.length ≤ 65537
      have := hs.top
      omega
  | ins op n js hj =>
    have hjl : js.length ≤ 1 := by rcases hj with rfl | ⟨y, _, rfl⟩ <;> simp
    have hne' : ({ a with jumps := a.jumps ++ js } : As).lib ≠ [] := hne
    refine ⟨hk, by rw [setL_len hne']; have := hs.lib; show a.lib.length ≤ _; omega, fun y hy => ?_, by have := hs.lab; show a.labels.length ≤ _; omega, ?_, ?_, fun _ => ?_, fun _ j hj' => ?_, fun j hj' => ?_, hs.lbs, fun j hj' => ?_⟩
    · rcases setL_mem hy with h | h
      · have := hs.code y h; omega
      · rw [h]; simp; omega
    · have := hs.jmp
      show (a.jumps ++ js).length ≤ _
      simp; omega
    · rw [setL_len hne']; exact hs.nms
    · simp [setL]
    · rw [lastP_setL]
      show j.frm < ((lastP a).L ++ [(op, n)]).length
      rw [List.length_append]
      rcases List.mem_append.1 (show j ∈ a.jumps ++ js from hj') with h | h
      · have := hs.frm ho j h; omega
      · rcases hj with rfl | ⟨y, _, rfl⟩
        · cases h
        · simp only [List.mem_singleton] at h
          rw [h]; simp
    · rcases List.mem_append.1 (show j ∈ a.jumps ++ js from hj') with h | h
      · exact hs.jlb j h
      · rcases hj with rfl | ⟨y, hy, rfl⟩
        · cases h
        · simp only [List.mem_singleton] at h
          rw [h]
          exact hw y (by simp [hy])
    · rcases List.mem_append.1 (show j ∈ a.jumps ++ js from hj') with h | h
      · exact hs.jln j h
      · rcases hj with rfl | ⟨y, hy, rfl⟩
        · cases h
        · simp only [List.mem_singleton] at h
          rw [h]
          exact hl0
theorem line_sz {a a' : As} {line k : Nat} {ws : List Wd} (hs : AsSz a k) (hk : k + 1 ≤ 65537) (hl0 : line ≠ 0) (hw : ∀ y ∈ ws, y.1.length ≤ 65536) (h : lineA a line ws = .ok a') : AsSz a' (k + 1) := by
  unfold lineA at h
  split at h
  · simp only [Except.ok.injEq] at h
    rw [← h]
    exact hs.up (by omega) hk
  · rename_i hne
    split at h
    · rename_i ho
      cases ws with
      | nil => exact absurd rfl hne
      | cons x rest => exact inside_sz hs hk hl0 ho hw (insideA_ok h)
    · split at h
      · cases h
      · rename_i a1 h1
        simp only [Except.ok.injEq] at h
        subst h
        obtain ⟨nm, ns, _, rfl⟩ := firstA_ok h1
        refine ⟨hk, by have := hs.lib; simp; omega, fun y hy => ?_, by simp, by simp, by simp [hs.nms], by simp, by simp, by simp, by simp, by simp⟩
        rcases List.mem_append.1 hy with h | h
        · have := hs.code y h; omega
        · simp only [List.mem_singleton] at h
          rw [h]; simp
theorem start_sz : AsSz start0 0 := ⟨by omega, by simp [start0], by simp [start0], by simp [start0], by simp [start0], rfl, by simp [start0], by simp [start0], by simp [start0], by simp [start0], by simp [start0]⟩
end Go.Proofs.YtmkomfbjgmgemaaGreatDoor
