/-
  A STORE AS A LAW SEES IT.
-/
import Derived.Test.YtfkijdlggdgfhaaSInt
namespace Go.Proofs.Ytfkijdlggdgfhaa
open Go.RowKit Go.Sort

/-- blocks below n0, and those of F, stay -/
structure Kp (n0 : Nat) (F : Nat → Prop) (w w' : World) : Prop where
  os : w'.os = w.os
  tape : w'.tape = w.tape
  output : w'.output = w.output
  size : w.heap.size ≤ w'.heap.size
  block : ∀ k, k < w.heap.size → (k < n0 ∨ F k) → w'.heap[k]? = w.heap[k]?
theorem Kp.trans {n0 : Nat} {F : Nat → Prop} {a b c : World} (h : Kp n0 F a b) (h2 : Kp n0 F b c) : Kp n0 F a c :=
  ⟨h2.os.trans h.os, h2.tape.trans h.tape, h2.output.trans h.output, Nat.le_trans h.size h2.size, fun k hk hF => (h2.block k (Nat.lt_of_lt_of_le hk h.size) hF).trans (h.block k hk hF)⟩
theorem Kp.ofBelow {n0 : Nat} {F : Nat → Prop} {w w' : World} (h : Below w.heap.size w w') : Kp n0 F w w' := ⟨h.os, h.tape, h.output, h.size, fun k hk _ => h.block k hk⟩
theorem Kp.refl (n0 : Nat) (F : Nat → Prop) (w : World) : Kp n0 F w w := Kp.ofBelow (Below.refl _ _)
theorem Kp.below {n0 : Nat} {F : Nat → Prop} {w w' : World} (h : Kp n0 F w w') (hn : n0 ≤ w.heap.size) : Below n0 w w' := ⟨h.os, h.tape, h.output, h.size, fun k hk => h.block k (by omega) (.inl hk)⟩
theorem Kp.mono {n0 : Nat} {F G : Nat → Prop} {w w' : World} (h : Kp n0 F w w') (hG : ∀ k, k < w.heap.size → G k → F k) : Kp n0 G w w' := ⟨h.os, h.tape, h.output, h.size, fun k hk hF => h.block k hk (hF.imp id (hG k hk))⟩
/-- a store whose blocks are none below n0 and none of F -/
def ST (n0 : Nat) (F : Nat → Prop) (w : World) (S P : Nat) (cap last : Int) (vs : List Vr) : Prop :=
  ∃ V D M L es R, SA w S V D M L P (hfn 35) cap last vs es R ∧ ∀ k, Fs S V D M L vs es R k → n0 ≤ k ∧ ¬ F k
section
variable {n0 : Nat} {F : Nat → Prop} {w w' : World} {S P : Nat} {cap last : Int} {vs : List Vr}
theorem ST.kept (h : ST n0 F w S P cap last vs) (hb : Below w.heap.size w w') : ST n0 F w' S P cap last vs := by
  obtain ⟨V, D, M, L, es, R, h1, h2⟩ := h
  exact ⟨V, D, M, L, es, R, h1.kept hb, h2⟩
/-- where only blocks of F turn -/
theorem ST.off (h : ST n0 F w S P cap last vs) (hs : ∀ k, k < w.heap.size → ¬ F k → w'.heap[k]? = w.heap[k]?) : ST n0 F w' S P cap last vs := by
  obtain ⟨V, D, M, L, es, R, h1, h2⟩ := h
  exact ⟨V, D, M, L, es, R, h1.same (fun k hk => hs k (h1.lt' hk) (h2 k hk).2), h2⟩
theorem ST.frame {G : Nat → Prop} (h : ST n0 F w S P cap last vs) (hG : ∀ k, G k → F k ∨ w.heap.size ≤ k) : ST n0 G w S P cap last vs := by
  obtain ⟨V, D, M, L, es, R, h1, h2⟩ := h
  refine ⟨V, D, M, L, es, R, h1, fun k hk => ⟨(h2 k hk).1, fun hg => ?_⟩⟩
  have := h1.lt' hk
  rcases hG k hg with h3 | h3
  · exact (h2 k hk).2 h3
  · omega
theorem ST.nd (h : ST n0 F w S P cap last vs) : (vs.map Vr.n).Nodup := by
  obtain ⟨V, D, M, L, es, R, h1, h2⟩ := h
  exact h1.nums.2
theorem ST.nl (h : ST n0 F w S P cap last vs) : ∀ v ∈ vs, 1 ≤ v.n ∧ v.n ≤ last := by
  obtain ⟨V, D, M, L, es, R, h1, h2⟩ := h
  exact h1.nl
theorem ST.nn (h : ST n0 F w S P cap last vs) : vs.Pairwise (fun a b => a.n < b.n) := by
  obtain ⟨V, D, M, L, es, R, h1, h2⟩ := h
  exact h1.nn
theorem ST.lt (h : ST n0 F w S P cap last vs) : last ≤ 1000000000000000 ∧ 1 ≤ cap ∧ cap ≤ 65536 ∧ (vs.length : Int) ≤ cap := by
  obtain ⟨V, D, M, L, es, R, h1, h2⟩ := h
  exact h1.lt
theorem ST.inn (h : ST n0 F w S P cap last vs) : ∀ v ∈ vs, KIn v.k ∧ In64 v.ba ∧ In64 v.ix ∧ In64 v.cv := by
  obtain ⟨V, D, M, L, es, R, h1, h2⟩ := h
  exact h1.inn
theorem ST.pl (h : ST n0 F w S P cap last vs) (k : K) : (ofK k vs).Pairwise (fun a b => later b a) := by
  obtain ⟨V, D, M, L, es, R, h1, h2⟩ := h
  exact h1.pl k
end
theorem drew_below (w : World) (q : Nat) : Below w.heap.size w (w.drewN q) := ⟨rfl, rfl, rfl, Nat.le_refl _, fun _ _ => rfl⟩
theorem new_st (n0 : Nat) (F : Nat → Prop) (w : World) (n : Nat) (cap : Int) (h1 : 1 ≤ n) (h2 : n ≤ 256) (hc : 1 ≤ cap ∧ cap ≤ 65536) (hn0 : n0 ≤ w.heap.size) (hF : ∀ k, F k → k < w.heap.size) :
    Calls Try.prog 18 #[.int .i64 (n : Int), .int .i64 cap] w fun e w' => ∃ S, e = .returned (.tuple #[ptr S, .int .i64 0]) ∧ ST n0 F w' S n cap 0 [] ∧ Below w.heap.size w w' := by
  refine (new_any w n cap h1 h2 hc).mono ?_
  rintro e w' ⟨S, V, D, M, L, rfl, hs, hk, hb⟩
  exact ⟨S, rfl, ⟨V, D, M, L, [], _, hs, fun k hk' => ⟨by have := hk k hk'; omega, fun hf => by have := hk k hk'; have := hF k hf; omega⟩⟩, hb⟩
theorem live_st (n0 : Nat) (F : Nat → Prop) (w : World) (S P : Nat) (cap last : Int) (vs : List Vr) (h : ST n0 F w S P cap last vs) :
    Calls Try.prog 9 #[ptr S] w fun e w' => e = .returned (.int .i64 (vs.length : Int)) ∧ w' = w := by
  obtain ⟨V, D, M, L, es, R, h1, h2⟩ := h
  exact live_any w S V D M L P _ cap last vs es R h1
theorem room_st (n0 : Nat) (F : Nat → Prop) (w : World) (S P : Nat) (cap last : Int) (vs : List Vr) (h : ST n0 F w S P cap last vs) :
    Calls Try.prog 10 #[ptr S] w fun e w' => e = .returned (.int .i64 (cap - (vs.length : Int))) ∧ Below w.heap.size w w' := by
  obtain ⟨V, D, M, L, es, R, h1, h2⟩ := h
  refine (room_any w S V D M L P _ cap last vs es R h1).mono ?_
  rintro e w' ⟨rfl, q, rfl⟩
  exact ⟨rfl, drew_below w q⟩
theorem insert_st (n0 : Nat) (F : Nat → Prop) (w : World) (S P : Nat) (cap last : Int) (vs : List Vr) (h : ST n0 F w S P cap last vs) (hF : ∀ k, F k → k < w.heap.size) (hn0 : n0 ≤ w.heap.size) (k : K) (ba ix : Int) (hk : KIn k) (hba : In64 ba) (hix : In64 ix) (hl0 : 0 ≤ last ∧ last + 1 ≤ 1000000000000000) :
    Calls Try.prog 19 #[ptr S, kv k, .int .i64 ba, .int .i64 ix] w fun e w' => Kp n0 F w w' ∧
      ((insE cap vs (xV 0 last k ba ix) ≠ 0 ∧ e = .returned (.tuple #[.int .i64 0, .int .i64 (insE cap vs (xV 0 last k ba ix))]) ∧ ST n0 F w' S P cap last vs) ∨
       (insE cap vs (xV 0 last k ba ix) = 0 ∧ e = .returned (.tuple #[.int .i64 (last + 1), .int .i64 0]) ∧ ∃ b, ST n0 F w' S P cap (last + 1) (vs ++ [xV b last k ba ix]))) := by
  obtain ⟨V, D, M, L, es, R, h1, h2⟩ := h
  refine (insert_any w S V D M L P _ part_ok cap last vs es R k ba ix h1 hk hba hix hl0).mono ?_
  rintro e w' (⟨q1, q2, q3⟩ | ⟨q1, q2, b, es', R', _, q3, q4, q5⟩)
  · exact ⟨Kp.ofBelow q3, .inl ⟨q1, q2, V, D, M, L, es, R, h1.kept q3, h2⟩⟩
  · refine ⟨⟨q4.os, q4.tape, q4.output, q4.size, fun k hk hF' => q4.block k hk (fun hS => ?_)⟩, .inr ⟨q1, q2, b, V, D, M, L, es', R', q3, fun k' hk' => ?_⟩⟩
    · have := h2 k hS
      rcases hF' with h3 | h3
      · omega
      · exact this.2 h3
    · rcases q5 k' hk' with h3 | h3
      · exact h2 k' h3
      · exact ⟨by omega, fun hf => by have := hF k' hf; omega⟩
theorem remove_st (n0 : Nat) (F : Nat → Prop) (w : World) (S P : Nat) (cap last : Int) (vs : List Vr) (h : ST n0 F w S P cap last vs) (n : Int) (hn : In64 n) :
    Calls Try.prog 20 #[ptr S, .int .i64 n] w fun e w' => Kp n0 F w w' ∧
      ((fv vs n = none ∧ e = .returned (.int .i64 93) ∧ ST n0 F w' S P cap last vs) ∨
       (∃ A v C, vs = A ++ v :: C ∧ v.n = n ∧ e = .returned (.int .i64 0) ∧ ST n0 F w' S P cap last (A ++ C))) := by
  obtain ⟨V, D, M, L, es, R, h1, h2⟩ := h
  refine (remove_any w S V D M L P _ cap last vs es R n h1 hn).mono ?_
  rintro e w' (⟨q1, q2, rfl⟩ | ⟨A, v, C, es', R', q0, q1, q2, q3, q4, q5⟩)
  · exact ⟨Kp.refl _ _ _, .inl ⟨q1, q2, V, D, M, L, es, R, h1, h2⟩⟩
  · refine ⟨⟨q4.os, q4.tape, q4.output, q4.size, fun k hk hF' => q4.block k hk (fun hS => ?_)⟩, .inr ⟨A, v, C, q0, q1, q2, V, D, M, L, es', R', q3, fun k' hk' => h2 k' (q5 k' hk')⟩⟩
    have := h2 k hS
    rcases hF' with h3 | h3
    · omega
    · exact this.2 h3
theorem newest_st (n0 : Nat) (F : Nat → Prop) (w : World) (S P : Nat) (cap last : Int) (vs : List Vr) (h : ST n0 F w S P cap last vs) (k1 k2 : Int) (hk : KIn (k1, k2)) :
    Calls Try.prog 15 #[ptr S, .agg #[.int .i64 k1, .int .i64 k2]] w fun e w' => e = .returned (.int .i64 (newestN (k1, k2) vs)) ∧ Below w.heap.size w w' := by
  obtain ⟨V, D, M, L, es, R, h1, h2⟩ := h
  exact newestS_any w S V D M L P _ cap last vs es R k1 k2 h1 hk
theorem look_st (n0 : Nat) (F : Nat → Prop) (w : World) (S P : Nat) (cap last : Int) (vs : List Vr) (h : ST n0 F w S P cap last vs) (n : Int) (hn : In64 n) :
    Calls Try.prog 21 #[ptr S, .int .i64 n] w fun e w' => e = .returned (.tuple #[(lkV (fv vs n)).1, .int .i64 (lkV (fv vs n)).2]) ∧ Below w.heap.size w w' := by
  obtain ⟨V, D, M, L, es, R, h1, h2⟩ := h
  exact look_any w S V D M L P _ cap last vs es R n h1 hn
end Go.Proofs.Ytfkijdlggdgfhaa
