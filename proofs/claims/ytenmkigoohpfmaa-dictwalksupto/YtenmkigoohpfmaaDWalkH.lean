/-
  DictWalks: A Dict, ITS STEPS AND WHAT THEY LEAVE.
-/
import Derived.Test.YtenmkigoohpfmaaDIterK
import Derived.Test.YtenmkigoohpfmaaDTake2
import Derived.Test.YtenmkigoohpfmaaDClear
import Derived.Test.YtenmkigoohpfmaaDPut2
import Derived.Test.YtenmkigoohpfmaaKNe
namespace Go.Proofs.Ytenmkigoohpfmaa
open Go.RowKit Go.Sort Go.Shelf

abbrev fEach : Nat := 17
abbrev fNil : Nat := 10
abbrev TDp : TypeId := 23
theorem part_ok : PartOK fNil hash0 := fun w D M L P es k h => part_nil hash0 hash_nil (fun _ => by simp [hash0]) w D M L P es k h
/-- all below base stays, and all that is no line and no entry -/
structure FrK (base : Nat) (W W' : World) : Prop where
  os : W'.os = W.os
  tape : W'.tape = W.tape
  output : W'.output = W.output
  size : W.heap.size ≤ W'.heap.size
  low : ∀ k, k < base → W'.heap[k]? = W.heap[k]?
  oth : ∀ (k : Nat) (cur : Array Value) (t : TypeId), W.heap[k]? = some (.cells cur t (0, 0)) → t ≠ 52 → t ≠ 49 → W'.heap[k]? = W.heap[k]?
theorem FrK.refl (base : Nat) (W : World) : FrK base W W := ⟨rfl, rfl, rfl, Nat.le_refl _, fun _ _ => rfl, fun _ _ _ _ _ _ => rfl⟩
theorem FrK.trans {base : Nat} {a b c : World} (h : FrK base a b) (k : FrK base b c) : FrK base a c := ⟨k.os.trans h.os, k.tape.trans h.tape, k.output.trans h.output, Nat.le_trans h.size k.size, fun i hi => (k.low i hi).trans (h.low i hi), fun i cur t hi h1 h2 => (k.oth i cur t ((h.oth i cur t hi h1 h2).trans hi) h1 h2).trans (h.oth i cur t hi h1 h2)⟩
theorem FrK.bel {base : Nat} {a b : World} (h : Below a.heap.size a b) (hb : base ≤ a.heap.size) : FrK base a b := ⟨h.os, h.tape, h.output, h.size, fun k hk => h.block k (by omega), fun k _ _ hk _ _ => h.block k (blk_lt hk)⟩
theorem FrK.below {base : Nat} {a b : World} (h : FrK base a b) : Below base a b := ⟨h.os, h.tape, h.output, h.size, h.low⟩
/-- a Dict whose blocks lie from base on, all in partition 0 of 3 -/
structure WD (W : World) (base D M L : Nat) (es : List En) : Prop where
  da : DA W D M L (hfn fNil) 3 es
  ge : base ≤ D ∧ base ≤ M ∧ base ≤ L ∧ ∀ e ∈ es, base ≤ e.b
  p0 : ∀ e ∈ es, e.p = 0
  sz : base ≤ W.heap.size
theorem WD.kept {W W' : World} {base D M L : Nat} {es : List En} (h : WD W base D M L es) (hb : Below W.heap.size W W') : WD W' base D M L es := ⟨h.da.kept hb, h.ge, h.p0, Nat.le_trans h.sz hb.size⟩
theorem WD.frk {W W' : World} {base D M L : Nat} {es : List En} (h : WD W base D M L es) (hf : Fr (Ft M L es) W W') : FrK base W W' := by
  refine ⟨hf.os, hf.tape, hf.output, hf.size, fun k hk => hf.block k (by have := h.sz; omega) (fun hx => ?_), fun k cur t hk h1 h2 => hf.block k (blk_lt hk) (fun hx => ?_)⟩
  · rcases hx with rfl | rfl | ⟨e, he, rfl⟩
    · have := h.ge.2.1; omega
    · have := h.ge.2.2.1; omega
    · have := h.ge.2.2.2 e he; omega
  · rcases hx with rfl | rfl | ⟨e, he, rfl⟩
    · obtain ⟨_, _, h3, _⟩ := h.da.mp
      rw [hk] at h3
      cases h3
    · obtain ⟨C, h3, _⟩ := h.da.ln
      rw [hk] at h3
      simp only [Option.some.injEq, Obj.cells.injEq] at h3
      exact h1 h3.2.1
    · obtain ⟨_, _, h3⟩ := h.da.entry he
      rw [hk] at h3
      simp only [Option.some.injEq, Obj.cells.injEq] at h3
      exact h2 h3.2.1
theorem WD.all {W : World} {base D M L : Nat} {es : List En} (h : WD W base D M L es) : ptI 3 0 es = es := by
  unfold ptI pt
  rw [if_pos (by omega)]
  exact List.filter_eq_self.2 (fun e he => by have := h.p0 e he; simp; omega)
/-- one Put -/
theorem wput_any (W : World) (base D M L : Nat) (es : List En) (x : K) (v : Int) (h : WD W base D M L es) (hx : KIn x) (hv : In64 v) (hl : es.length ≤ 140737488355328) :
    Calls Try.prog 5 #[ptr D, kv x, .int .i64 v] W fun e w' => (∃ a, e = .returned (.tuple #[.int .i64 a, .bool (fd es x).isSome])) ∧ FrK base W w' ∧ (((fd es x).isSome = true ∧ WD w' base D M L (es.map (ud x v))) ∨ (fd es x = none ∧ ∃ E, WD w' base D M L (es ++ [⟨E, x, v, 0⟩]))) := by
  cases hf : fd es x with
  | some e0 =>
    refine (put_old W D M L 3 _ es x v h.da hx hv e0 hf).mono ?_
    rintro e w' ⟨rfl, hd, hF⟩
    have f := h.frk hF
    refine ⟨⟨_, rfl⟩, f, .inl ⟨rfl, hd, ⟨h.ge.1, h.ge.2.1, h.ge.2.2.1, fun e he => ?_⟩, fun e he => ?_, Nat.le_trans h.sz f.size⟩⟩
    · obtain ⟨y, hy, rfl⟩ := List.mem_map.1 he
      rw [ud_b]; exact h.ge.2.2.2 y hy
    · obtain ⟨y, hy, rfl⟩ := List.mem_map.1 he
      rw [ud_p]; exact h.p0 y hy
  | none =>
    refine (put_new W D M L 3 fNil hash0 part_ok es x v h.da hx hv hf hl).mono ?_
    rintro e w' ⟨E, rfl, hd, hE, hF⟩
    have f := h.frk hF
    have hz : hash0 x % 3 = 0 := by simp [hash0]
    rw [hz] at hd
    refine ⟨⟨_, rfl⟩, f, .inr ⟨rfl, E, hd, ⟨h.ge.1, h.ge.2.1, h.ge.2.2.1, fun e he => ?_⟩, fun e he => ?_, Nat.le_trans h.sz f.size⟩⟩
    · rcases List.mem_append.1 he with he | he
      · exact h.ge.2.2.2 e he
      · simp only [List.mem_singleton] at he
        subst he
        exact Nat.le_trans h.sz hE
    · rcases List.mem_append.1 he with he | he
      · exact h.p0 e he
      · simp only [List.mem_singleton] at he
        subst he
        rfl
/-- one Take -/
theorem wtake_any (W : World) (base D M L : Nat) (es : List En) (x : K) (h : WD W base D M L es) (hx : KIn x) (hl : es.length ≤ 140737488355328) :
    Calls Try.prog 6 #[ptr D, kv x] W fun e w' => (∃ a b, e = .returned (.tuple #[.int .i64 a, .bool b])) ∧ FrK base W w' ∧ WD w' base D M L (es.filter (fun e => !decide (e.k = x))) := by
  cases hf : fd es x with
  | none =>
    refine (take_none W D M L 3 _ es x h.da hx hf).mono ?_
    rintro e w' ⟨rfl, hb⟩
    have hq : es.filter (fun e => !decide (e.k = x)) = es := List.filter_eq_self.2 (fun e he => by have := fd_none hf e he; simp [this])
    rw [hq]
    exact ⟨⟨_, _, rfl⟩, FrK.bel hb h.sz, h.kept hb⟩
  | some e0 =>
    refine (take_some W D M L 3 _ es x h.da hx e0 hf hl).mono ?_
    rintro e w' ⟨rfl, ⟨A, C, he, hd⟩, hF⟩
    have f := h.frk hF
    have hk := (fd_some hf).2
    have hnd := h.da.kn
    have hq : es.filter (fun e => !decide (e.k = x)) = A ++ C := by
      rw [he] at hnd ⊢
      rw [List.map_append, List.map_cons] at hnd
      have h1 := (List.nodup_append.1 hnd).2.2
      have h2 := (List.nodup_cons.1 (List.nodup_append.1 hnd).2.1).1
      rw [List.filter_append, List.filter_cons_of_neg (by simp [hk])]
      rw [List.filter_eq_self.2 (fun y hy => by
        have : y.k ≠ e0.k := h1 y.k (List.mem_map_of_mem hy) e0.k (by simp)
        rw [hk] at this
        simp [this])]
      rw [List.filter_eq_self.2 (fun y hy => by
        have : y.k ≠ e0.k := fun e => h2 (by rw [← e]; exact List.mem_map_of_mem hy)
        rw [hk] at this
        simp [this])]
    rw [hq]
    refine ⟨⟨_, _, rfl⟩, f, hd, ⟨h.ge.1, h.ge.2.1, h.ge.2.2.1, fun e hm => h.ge.2.2.2 e ?_⟩, fun e hm => h.p0 e ?_, Nat.le_trans h.sz f.size⟩
    · rw [he]
      rcases List.mem_append.1 hm with hm | hm
      · simp [hm]
      · simp [hm]
    · rw [he]
      rcases List.mem_append.1 hm with hm | hm
      · simp [hm]
      · simp [hm]
/-- Clear -/
theorem wclear_any (W : World) (base D M L : Nat) (es : List En) (h : WD W base D M L es) : Calls Try.prog 9 #[ptr D] W fun e w' => e = .returned (.tuple #[]) ∧ FrK base W w' ∧ WD w' base D M L [] := by
  refine (clear_any W D M L 3 _ es h.da).mono ?_
  rintro e w' ⟨rfl, hd, hF⟩
  have f := h.frk hF
  exact ⟨rfl, f, hd, ⟨h.ge.1, h.ge.2.1, h.ge.2.2.1, fun e he => (by cases he)⟩, fun e he => (by cases he), Nat.le_trans h.sz f.size⟩
/-- Each at partition 0 -/
theorem weach_any (W : World) (base D M L : Nat) (es : List En) (h : WD W base D M L es) (hl : es.length * 24 ≤ 281474976710656) : Calls Try.prog 7 #[ptr D, .int .i64 0] W fun e w' => ∃ B g, e = .returned (.func (.func fEach) #[] #[ptr B]) ∧ IL w' B g es ∧ W.heap.size ≤ B ∧ W.heap.size ≤ g ∧ B ≠ g ∧ Below W.heap.size W w' := by
  have hq := each_any W D M L 3 _ es 0 h.da (by rw [h.all]; exact hl)
  rw [h.all] at hq
  refine hq.mono ?_
  rintro e w' ⟨B, g, rfl, HE⟩
  exact ⟨B, g, rfl, HE.out.il, HE.out.ge.1, HE.out.ge.2.1, HE.out.ge.2.2, HE.out.bel⟩
end Go.Proofs.Ytenmkigoohpfmaa
