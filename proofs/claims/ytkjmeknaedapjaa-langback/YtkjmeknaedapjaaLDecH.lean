/-
  WHAT STANDS WHILE A LIBRARY IS READ.
-/
import Derived.Test.YtkjmeknaedapjaaLDMath
import Derived.Test.YtkjmeknaedapjaaLOwnP
namespace Go.Proofs.Ytkjmeknaedapjaa
open Go.RowKit Go.Sort

/-- the block of a procedure's code -/
def cb (x : Pr) : Option Nat := (Value.slice x.ao x.n x.cap).ownBlock
/-- a procedure whose code is the call's own -/
structure PrC (W : World) (base : Nat) (x : Pr) : Prop where
  len : x.n = x.L.length
  own : OwnK W base (.slice x.ao x.n x.cap) x.L
  nin : NIn x.p
  kin : ∀ k ∈ x.L, KIn k
  str : x.name.size ≤ 31
  big : x.n ≤ 256
theorem PrC.ok {W : World} {base : Nat} {x : Pr} (h : PrC W base x) : PrOK W x := by
  obtain ⟨ao, cap, e, hk, hn, _⟩ := h.own.slice
  simp only [Value.slice.injEq] at e
  obtain ⟨e1, _, e3⟩ := e
  exact ⟨h.len, by rw [e1]; exact hk, h.nin, h.kin, by rw [e1, e3]; exact hn, by have := h.str; omega, by have := h.big; omega⟩
theorem PrC.same {W W' : World} {base : Nat} {x : Pr} (h : PrC W base x) (hs : ∀ g, cb x = some g → W'.heap[g]? = W.heap[g]?) : PrC W' base x := ⟨h.len, h.own.same hs, h.nin, h.kin, h.str, h.big⟩
theorem PrC.lt {W : World} {base : Nat} {x : Pr} (h : PrC W base x) : ∀ g, cb x = some g → base ≤ g ∧ g < W.heap.size := h.own.lt

/-- 'string(b)' of bytes of the call's own -/
theorem string_own {W : World} {base : Nat} {v : Value} {bs : List Nat} (h : OwnB W base v bs) : (convert 23 9 v).run Try.prog W = .ok (.string (nmS bs)) W := by
  rcases h.shape with ⟨rfl, rfl⟩ | ⟨g, cap, rfl, _, _, _, _, hb⟩
  · rw [run_convert_bytes_string W 23 9 5 none 0 0 Try.underlying23 Try.underlying5 Try.underlying9]
    rfl
  · have e : bs.length = (bs.map UInt8.ofNat).length := by simp
    rw [e]
    refine run_convert_bytes_back (P := Try.prog) W 23 9 5 ⟨g, 0, none⟩ cap (bs.map UInt8.ofNat) Try.underlying23 Try.underlying5 Try.underlying9 fun j hj => ?_
    have hj' : j < bs.length := by simpa using hj
    rw [addr_add, Nat.zero_add]
    obtain ⟨hz, h1 | ⟨b', o', e', hc⟩⟩ := hb
    · rw [h1] at hj'; simp at hj'
    · cases e'
      have := hc j hj'
      rw [Nat.zero_add] at this
      rw [this]
      have e2 : bs.getD j 0 = bs[j] := by simp [List.getD_eq_getElem?_getD, List.getElem?_eq_getElem hj']
      rw [e2, List.getElem_map, u8_back _ (hz _ (List.getElem_mem hj'))]

/-- the Reader of a library's bytes, and what was read of it -/
structure DT (w W : World) (b : List Nat) (p : Nat) (e : Int) (v : Value) (Ps : List Pr) : Prop where
  rd : IsReader W (w.heap.size + 1) (some ⟨w.heap.size, 0, none⟩) b.length b p e
  bel : Below w.heap.size w W
  own : OwnP W (w.heap.size + 2) v Ps
  ok : ∀ x ∈ Ps, PrC W (w.heap.size + 2) x
  ap : ∀ x ∈ Ps, ∀ g, cb x = some g → v.ownBlock ≠ some g
  pw : Ps.Pairwise fun x y => ∀ g, cb x = some g → cb y ≠ some g
theorem DT.step {w W W' : World} {b : List Nat} {p p2 : Nat} {e e2 : Int} {v : Value} {Ps : List Pr} (h : DT w W b p e v Ps) (hr : Reads W (w.heap.size + 1) (some ⟨w.heap.size, 0, none⟩) b.length b p2 e2 W') : DT w W' b p2 e2 v Ps := by
  have hne : ∀ g, w.heap.size + 2 ≤ g → some g ≠ some (w.heap.size + 1) := fun g hg e => by cases e; omega
  refine ⟨hr.1, ?_, h.own.same fun g hg => hr.2.block g (h.own.lt g hg).2 (hne g (h.own.lt g hg).1), fun x hx => (h.ok x hx).same fun g hg => hr.2.block g ((h.ok x hx).lt g hg).2 (hne g ((h.ok x hx).lt g hg).1), h.ap, h.pw⟩
  exact ⟨hr.2.os.trans h.bel.os, hr.2.tape.trans h.bel.tape, hr.2.output.trans h.bel.output, Nat.le_trans h.bel.size hr.2.size, fun k hk => by
    rw [hr.2.block k (Nat.lt_of_lt_of_le hk h.bel.size) (fun e => by cases e; omega)]; exact h.bel.block k hk⟩
theorem DT.kept {w W W' : World} {b : List Nat} {p : Nat} {e : Int} {v : Value} {Ps : List Pr} (h : DT w W b p e v Ps) (hb : Below W.heap.size W W') : DT w W' b p e v Ps :=
  ⟨h.rd.kept hb, h.bel.trans (hb.mono h.bel.size), h.own.kept hb, fun x hx => (h.ok x hx).same fun g hg => hb.block g ((h.ok x hx).lt g hg).2, h.ap, h.pw⟩
/-- what lies lies below -/
theorem DT.under {w W : World} {b : List Nat} {p : Nat} {e : Int} {v : Value} {Ps : List Pr} (h : DT w W b p e v Ps) : (∀ x ∈ Ps, ∀ g, cb x = some g → g < W.heap.size) ∧ (∀ g, v.ownBlock = some g → g < W.heap.size) ∧ w.heap.size + 2 ≤ W.heap.size :=
  ⟨fun x hx g hg => ((h.ok x hx).lt g hg).2, fun g hg => (h.own.lt g hg).2, by have := h.rd.lt; omega⟩
/-- behind the append -/
theorem DT.put {w W W' : World} {b : List Nat} {p S : Nat} {e : Int} {v v' : Value} {Ps : List Pr} {x : Pr} (h : DT w W b p e v Ps) (hx : PrC W S x) (h1 : ∀ y ∈ Ps, ∀ g, cb y = some g → g < S) (h2 : ∀ g, v.ownBlock = some g → g < S) (h3 : w.heap.size + 2 ≤ S)
    (ho : OwnP W' (w.heap.size + 2) v' (Ps ++ [x])) (hg : W.grownBy W' v.ownBlock) (hv : v'.ownBlock = v.ownBlock ∨ v'.ownBlock = some W.heap.size) : DT w W' b p e v' (Ps ++ [x]) := by
  have hvb : ∀ k, v.ownBlock = some k → w.heap.size + 2 ≤ k := fun k hk => (h.own.lt k hk).1
  have hs : ∀ g, g < W.heap.size → v.ownBlock ≠ some g → W'.heap[g]? = W.heap[g]? := fun g hl hn => hg.block g hl (fun e => hn e.symm)
  have hxc : PrC W' (w.heap.size + 2) x := by
    have := hx.same (W' := W') fun g hg' => hs g (hx.lt g hg').2 fun e => by have := h2 g e; have := (hx.lt g hg').1; omega
    exact ⟨this.len, this.own.mono h3, this.nin, this.kin, this.str, this.big⟩
  refine ⟨?_, ?_, ho, ?_, ?_, ?_⟩
  · refine h.rd.grown hg (fun e => ?_) (.inr fun e => ?_)
    · have := hvb _ e.symm; omega
    · have := hvb w.heap.size e.symm; omega
  · exact ⟨hg.os.trans h.bel.os, hg.tape.trans h.bel.tape, hg.output.trans h.bel.output, Nat.le_trans h.bel.size hg.size, fun k hk => by
      rw [hs k (Nat.lt_of_lt_of_le hk h.bel.size) (fun e => by have := hvb k e; omega)]; exact h.bel.block k hk⟩
  · intro y hy
    rcases List.mem_append.1 hy with hy | hy
    · exact (h.ok y hy).same fun g hg' => hs g ((h.ok y hy).lt g hg').2 (h.ap y hy g hg')
    · simp at hy; subst hy; exact hxc
  · intro y hy g hg' e
    have hgl : g < W.heap.size := by
      rcases List.mem_append.1 hy with hy | hy
      · exact ((h.ok y hy).lt g hg').2
      · simp at hy; subst hy; exact (hx.lt g hg').2
    rcases hv with hv | hv
    · rw [hv] at e
      rcases List.mem_append.1 hy with hy | hy
      · exact h.ap y hy g hg' e
      · simp at hy; subst hy
        have := h2 g e
        have := (hx.lt g hg').1
        omega
    · rw [hv] at e; cases e; omega
  · rw [List.pairwise_append]
    refine ⟨h.pw, List.pairwise_singleton _ _, fun y hy z hz g hg' e => ?_⟩
    simp at hz; subst hz
    have := h1 y hy g hg'
    have := (hx.lt g e).1
    omega
theorem DT.lib {w W : World} {b : List Nat} {p : Nat} {e : Int} {ao : Option Addr} {n cap : Nat} {Ps : List Pr} (h : DT w W b p e (.slice ao n cap) Ps) : LibAt W ao Ps ∧ n = Ps.length ∧ n ≤ cap := by
  obtain ⟨ao', cap', e', hk, _, hc⟩ := h.own.slice
  simp only [Value.slice.injEq] at e'
  obtain ⟨e1, e2, e3⟩ := e'
  exact ⟨⟨by rw [e1]; exact hk, fun x hx => (h.ok x hx).ok⟩, e2, by rw [e2, e3]; exact hc⟩
/-- what Decode answers -/
def RPost (w : World) (b : List Nat) (e' : Ending) (W : World) : Prop :=
  Below w.heap.size w W ∧
  ((decE b ≠ 0 ∧ e' = .returned (.tuple #[.slice none 0 0, .int .i64 0, .int .i64 (decE b)])) ∨
   (decE b = 0 ∧ ∃ Ps ao cap p, Ps.map core = (decA b).1 ∧ DT w W b p 0 (.slice ao Ps.length cap) Ps ∧
     (((checkN Ps).2 ≠ 0 ∧ e' = .returned (.tuple #[.slice none 0 0, .int .i64 ((checkN Ps).1 : Int), .int .i64 (checkN Ps).2])) ∨
      ((checkN Ps).2 = 0 ∧ e' = .returned (.tuple #[.slice ao Ps.length cap, .int .i64 0, .int .i64 0])))))
end Go.Proofs.Ytkjmeknaedapjaa
