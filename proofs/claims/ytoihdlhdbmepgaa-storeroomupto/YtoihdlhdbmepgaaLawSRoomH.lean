/-
  StoreRoom: THE STATES.
-/
import Derived.Test.YtoihdlhdbmepgaaSStK
namespace Go.Proofs.Ytoihdlhdbmepgaa
open Go.RowKit Go.Sort

theorem insE_free {cap : Int} {vs : List Vr} {x : Vr} (h1 : isKey x.k = true) (h2 : 1 ≤ x.ba ∧ x.ba ≤ 1099511627776) (h3 : 0 ≤ x.ix ∧ x.ix < 64) (h4 : cap ≠ (vs.length : Int)) (h5 : ∀ v ∈ vs, v.k = x.k → v.ba < x.ba) : insE cap vs x = 0 := by
  unfold insE
  rw [if_neg (by simp [h1]), if_neg (by omega), if_neg (by omega), if_neg h4]
  cases hl : (ofK x.k vs).getLast? with
  | none => rfl
  | some y =>
    have hm := List.mem_filter.1 (List.mem_of_getLast? hl)
    have hy := h5 y hm.1 (by simpa using hm.2)
    simp only
    rw [if_pos (show later x y from Or.inl hy)]
theorem insE_full {cap : Int} {vs : List Vr} {x : Vr} (h1 : isKey x.k = true) (h2 : 1 ≤ x.ba ∧ x.ba ≤ 1099511627776) (h3 : 0 ≤ x.ix ∧ x.ix < 64) (h4 : cap = (vs.length : Int)) : insE cap vs x = 92 := by
  unfold insE
  rw [if_neg (by simp [h1]), if_neg (by omega), if_neg (by omega), if_pos h4]
/-- a list of numbers of one's own -/
def Th (w : World) (n0 : Nat) (ao : Option Addr) (c : Nat) (xs : List Int) : Prop := (ao = none ∧ c = 0 ∧ xs = []) ∨ ∃ g off, ao = some ⟨g, off, none⟩ ∧ RwI w g off c xs ∧ n0 ≤ g
abbrev bk (ao : Option Addr) (k : Nat) : Prop := ao.map Addr.block = some k
theorem RwI.lt {w : World} {g off c : Nat} {xs : List Int} (h : RwI w g off c xs) : g < w.heap.size := by obtain ⟨⟨_, h1, _⟩, _⟩ := h; exact blk_lt h1
theorem Th.same {w w' : World} {n0 : Nat} {ao : Option Addr} {c : Nat} {xs : List Int} (h : Th w n0 ao c xs) (hs : ∀ k, bk ao k → w'.heap[k]? = w.heap[k]?) : Th w' n0 ao c xs := by
  rcases h with h | ⟨g, off, rfl, h1, h2⟩
  · exact .inl h
  · exact .inr ⟨g, off, rfl, h1.same (hs g rfl), h2⟩
theorem Th.lt {w : World} {n0 : Nat} {ao : Option Addr} {c : Nat} {xs : List Int} (h : Th w n0 ao c xs) {k : Nat} (hk : bk ao k) : k < w.heap.size ∧ n0 ≤ k := by
  rcases h with ⟨rfl, _⟩ | ⟨g, off, rfl, h1, h2⟩
  · cases hk
  · simp [bk] at hk; subst hk; exact ⟨h1.lt, h2⟩
theorem Th.kp {w w' : World} {n0 : Nat} {ao : Option Addr} {c : Nat} {xs : List Int} (h : Th w n0 ao c xs) (hk : Kp n0 (bk ao) w w') : Th w' n0 ao c xs := h.same (fun k hb => hk.block k (h.lt hb).1 (.inr hb))
theorem Th.kept {w w' : World} {n0 : Nat} {ao : Option Addr} {c : Nat} {xs : List Int} (h : Th w n0 ao c xs) (hk : Below w.heap.size w w') : Th w' n0 ao c xs := h.kp (Kp.ofBelow hk)
theorem app_th (w : World) (n0 : Nat) (ao : Option Addr) (c : Nat) (xs : List Int) (b : Int) (h : Th w n0 ao c xs) (hn0 : n0 ≤ w.heap.size) (hm : xs.length + 1 ≤ 1000000000) (ty : TypeId) :
    ∃ v' w', (Builtin.append_ #[45, 45] ty #[.slice ao xs.length c, .slice (some ⟨w.heap.size, 0, none⟩) 1 1]).run Try.prog (w.alloc (.cells #[.int .i64 b] 3)) = .ok v' w' ∧
      ∃ ao' c', v' = .slice ao' (xs.length + 1) c' ∧ Th w' n0 ao' c' (xs ++ [b]) ∧ Fr (bk ao) w w' ∧ ∀ k, bk ao' k → bk ao k ∨ w.heap.size ≤ k := by
  have HA : Below w.heap.size w (w.alloc (.cells #[.int .i64 b] 3)) := (Below.refl _ _).alloc (Nat.le_refl _) _
  obtain ⟨g, off, c', w', hr, hrw, hw⟩ := append_I (w.alloc (.cells #[.int .i64 b] 3)) ty (.slice ao xs.length c) xs b w.heap.size (by
    rcases h with ⟨rfl, rfl, rfl⟩ | ⟨g, off, rfl, hr, _⟩
    · exact .inl ⟨rfl, rfl⟩
    · exact .inr ⟨g, off, c, rfl, hr.same (HA.block g hr.lt)⟩) (by simp) hm
  have hz : w.heap.size ≤ w'.heap.size ∧ w'.os = w.os ∧ w'.tape = w.tape ∧ w'.output = w.output := by
    rcases hw with ⟨_, hg⟩ | ⟨_, hg⟩
    · have := hg.size; simp at this; exact ⟨by omega, hg.os, hg.tape, hg.output⟩
    · have := hg.size; simp at this; exact ⟨by omega, hg.os, hg.tape, hg.output⟩
  have hfr : ∀ k, k < w.heap.size → ¬ bk ao k → w'.heap[k]? = w.heap[k]? := fun k hk hne => by
    rcases hw with ⟨⟨n', c', e⟩, hg⟩ | ⟨_, hg⟩
    · simp only [Value.slice.injEq] at e
      obtain ⟨rfl, _⟩ := e
      exact (hg.block k (by simp; omega) (fun e => hne (by simpa [bk] using e.symm))).trans (HA.block k hk)
    · exact (hg.block k (by simp; omega) (by simp)).trans (HA.block k hk)
  have hgg : bk ao g ∨ w.heap.size ≤ g := by
    rcases hw with ⟨⟨n', c', e⟩, _⟩ | ⟨e, _⟩
    · simp only [Value.slice.injEq] at e
      obtain ⟨rfl, _⟩ := e
      exact .inl rfl
    · right; rw [e]; simp
  refine ⟨_, w', hr, some ⟨g, off, none⟩, c', rfl, .inr ⟨g, off, rfl, hrw, ?_⟩, ⟨hz.2.1, hz.2.2.1, hz.2.2.2, hz.1, hfr⟩, fun k hk => ?_⟩
  · rcases hgg with h1 | h1
    · exact (h.lt h1).2
    · omega
  · simp [bk] at hk; subst hk; exact hgg
/-- a list beside the store has grown -/
theorem ST.grown {n0 : Nat} {w w' : World} {S P : Nat} {cap last : Int} {vs : List Vr} {ao ao' : Option Addr} (h : ST n0 (bk ao) w S P cap last vs) (hfr : Fr (bk ao) w w') (hbk : ∀ k, bk ao' k → bk ao k ∨ w.heap.size ≤ k) : ST n0 (bk ao') w' S P cap last vs :=
  ((h.frame (G := fun k => bk ao k ∨ bk ao' k) (fun k hk => hk.elim .inl (hbk k))).off (fun k hk hn => hfr.block k hk (fun e => hn (.inl e)))).frame (fun _ hk => .inl (.inr hk))
/-- the first loop: i versions are in -/
structure R1 (n0 : Nat) (w0 wr : World) (S n i : Nat) (ao : Option Addr) (c : Nat) (vs : List Vr) : Prop where
  st : ST n0 (bk ao) wr S 4 n i vs
  len : vs.length = i
  ba : ∀ v ∈ vs, v.ba ≤ i
  th : Th wr n0 ao c (vs.map Vr.n)
  bel : Below n0 w0 wr
/-- the second loop -/
structure R2 (n0 : Nat) (w0 wr : World) (S n i : Nat) (ao : Option Addr) (c : Nat) (xs : List Int) (vs : List Vr) : Prop where
  st : ST n0 (bk ao) wr S 4 n ((n : Int) + i) vs
  len : vs.length = n
  ba : ∀ v ∈ vs, v.ba ≤ n + i
  th : Th wr n0 ao c xs
  xl : xs.length = n
  nd : xs.Nodup
  mem : ∀ x ∈ xs, ∃ v ∈ vs, v.n = x
  bel : Below n0 w0 wr
theorem R2.with {n0 : Nat} {w0 wr w2 : World} {S n i : Nat} {ao : Option Addr} {c : Nat} {xs : List Int} {vs : List Vr} (h : R2 n0 w0 wr S n i ao c xs vs) (hk : Kp n0 (bk ao) wr w2) (hst : ST n0 (bk ao) w2 S 4 n ((n : Int) + i) vs) (hn0 : n0 ≤ wr.heap.size := by omega) : R2 n0 w0 w2 S n i ao c xs vs :=
  ⟨hst, h.len, h.ba, h.th.kp hk, h.xl, h.nd, h.mem, h.bel.trans (hk.below hn0)⟩
theorem R2.kept {n0 : Nat} {w0 wr w2 : World} {S n i : Nat} {ao : Option Addr} {c : Nat} {xs : List Int} {vs : List Vr} (h : R2 n0 w0 wr S n i ao c xs vs) (hk : Below wr.heap.size wr w2) (hn0 : n0 ≤ wr.heap.size := by omega) : R2 n0 w0 w2 S n i ao c xs vs := h.with (Kp.ofBelow hk) (h.st.kept hk) hn0
theorem R1.done {n0 : Nat} {w0 wr : World} {S n : Nat} {ao : Option Addr} {c : Nat} {vs : List Vr} (h : R1 n0 w0 wr S n n ao c vs) : R2 n0 w0 wr S n 0 ao c (vs.map Vr.n) vs :=
  ⟨by have := h.st; simpa using this, h.len, by have := h.ba; simpa using this, h.th, by rw [List.length_map, h.len], h.st.nd, fun x hx => by obtain ⟨v, hv, rfl⟩ := List.mem_map.1 hx; exact ⟨v, hv, rfl⟩, h.bel⟩
theorem RwI.set {w : World} {g off c : Nat} {X Y : List Int} {x : Int} (h : RwI w g off c (X ++ x :: Y)) (y : Int) : RwI (w.setCell ⟨g, off + X.length, none⟩ (.int .i64 y)) g off c (X ++ y :: Y) := by
  obtain ⟨⟨cur, h1, h2, h3⟩, h4, h5⟩ := h
  refine ⟨⟨_, blk_set _ h1, by simpa using h2, fun j hj => ?_⟩, by simpa using h4, h5⟩
  have hl : (X ++ y :: Y).length = (X ++ x :: Y).length := by simp
  by_cases e : j = X.length
  · subst e
    rw [Array.getElem?_setIfInBounds_self, if_pos (by rw [hl] at hj; omega)]
    simp
  · rw [Array.getElem?_setIfInBounds_ne (by omega), h3 j (by rw [← hl]; exact hj)]
    congr 2
    by_cases e2 : j < X.length
    · rw [List.getElem_append_left e2, List.getElem_append_left e2]
    · rw [List.getElem_append_right (by omega), List.getElem_append_right (by omega)]
      obtain ⟨q, hq⟩ : ∃ q, j - X.length = q + 1 := ⟨j - X.length - 1, by omega⟩
      simp only [hq, List.getElem_cons_succ]
/-- one is taken out -/
structure R3 (n0 : Nat) (w0 wr : World) (S n i : Nat) (ao : Option Addr) (c : Nat) (X Y : List Int) (x : Int) (us : List Vr) : Prop where
  st : ST n0 (bk ao) wr S 4 n ((n : Int) + i) us
  len : us.length + 1 = n
  ba : ∀ v ∈ us, v.ba ≤ n + i
  th : Th wr n0 ao c (X ++ x :: Y)
  xl : (X ++ x :: Y).length = n
  nd : (X ++ x :: Y).Nodup
  mem : ∀ y ∈ X ++ Y, ∃ v ∈ us, v.n = y
  no : fv us x = none
  lt : ∀ y ∈ X ++ x :: Y, y ≤ (n : Int) + i
  bel : Below n0 w0 wr
theorem R2.out {n0 : Nat} {w0 wr w2 : World} {S n i : Nat} {ao : Option Addr} {c : Nat} {X Y : List Int} {x : Int} {A C : List Vr} {v : Vr} (h : R2 n0 w0 wr S n i ao c (X ++ x :: Y) (A ++ v :: C)) (hv : v.n = x) (hk : Kp n0 (bk ao) wr w2) (hst : ST n0 (bk ao) w2 S 4 n ((n : Int) + i) (A ++ C)) (hn0 : n0 ≤ wr.heap.size) : R3 n0 w0 w2 S n i ao c X Y x (A ++ C) := by
  have hnd := h.st.nd
  have hs := nodup_split hnd
  have hxn := h.nd
  refine ⟨hst, ?_, fun u hu => h.ba u ?_, h.th.kp hk, h.xl, h.nd, fun y hy => ?_, ?_, fun y hy => ?_, h.bel.trans (hk.below hn0)⟩
  · have := h.len; simp at this ⊢; omega
  · simp at hu ⊢; exact hu.elim .inl (fun h => .inr (.inr h))
  · obtain ⟨u, hu, hun⟩ := h.mem y (by simp at hy ⊢; exact hy.elim .inl (fun h => .inr (.inr h)))
    refine ⟨u, ?_, hun⟩
    have hne : u ≠ v := fun e => by
      rw [e, hv] at hun
      have h2 := nodup_split (f := fun z : Int => z) (A := X) (C := Y) (e := x) (by simpa using hxn)
      rcases List.mem_append.1 hy with m | m
      · exact h2.1 y m hun.symm
      · exact h2.2 y m hun.symm
    rcases List.mem_append.1 hu with m | m
    · exact List.mem_append.2 (.inl m)
    · rcases List.mem_cons.1 m with m | m
      · exact absurd m hne
      · exact List.mem_append.2 (.inr m)
  · refine List.find?_eq_none.2 fun u hu => ?_
    simp only [decide_eq_true_eq]
    rw [← hv]
    rcases List.mem_append.1 hu with m | m
    · exact hs.1 u m
    · exact hs.2 u m
  · obtain ⟨u, hu, hun⟩ := h.mem y hy
    rw [← hun]
    exact (h.st.nl u hu).2
theorem R3.with {n0 : Nat} {w0 wr w2 : World} {S n i : Nat} {ao : Option Addr} {c : Nat} {X Y : List Int} {x : Int} {us : List Vr} (h : R3 n0 w0 wr S n i ao c X Y x us) (hk : Kp n0 (bk ao) wr w2) (hst : ST n0 (bk ao) w2 S 4 n ((n : Int) + i) us) (hn0 : n0 ≤ wr.heap.size) : R3 n0 w0 w2 S n i ao c X Y x us :=
  ⟨hst, h.len, h.ba, h.th.kp hk, h.xl, h.nd, h.mem, h.no, h.lt, h.bel.trans (hk.below hn0)⟩
/-- and another one is in -/
theorem R3.back {n0 : Nat} {w0 wr w2 : World} {S n i : Nat} {g off c : Nat} {X Y : List Int} {x : Int} {us : List Vr} {b : Nat} {k : K} (h : R3 n0 w0 wr S n i (some ⟨g, off, none⟩) c X Y x us) (hk : Kp n0 (bk (some ⟨g, off, none⟩)) wr w2) (hst : ST n0 (bk (some ⟨g, off, none⟩)) w2 S 4 n ((n : Int) + i + 1) (us ++ [xV b ((n : Int) + i) k ((n : Int) + 1 + i) 0])) (hn0 : n0 ≤ wr.heap.size) :
    R2 n0 w0 (w2.setCell ⟨g, off + X.length, none⟩ (.int .i64 ((n : Int) + i + 1))) S n (i + 1) (some ⟨g, off, none⟩) c (X ++ ((n : Int) + i + 1) :: Y) (us ++ [xV b ((n : Int) + i) k ((n : Int) + 1 + i) 0]) := by
  have hr : RwI w2 g off c (X ++ x :: Y) ∧ n0 ≤ g := by
    rcases h.th.kp hk with ⟨h1, _⟩ | ⟨g', off', h1, h2, h3⟩
    · cases h1
    · cases h1; exact ⟨h2, h3⟩
  have hx := nodup_split (f := fun z : Int => z) (A := X) (C := Y) (e := x) (by have := h.nd; simpa using this)
  refine ⟨?_, ?_, fun v hv => ?_, .inr ⟨g, off, rfl, hr.1.set _, hr.2⟩, by have := h.xl; simp at this ⊢; exact this, ?_, fun y hy => ?_, (h.bel.trans (hk.below hn0)).trans ?_⟩
  · have h1 := hst.off (w' := w2.setCell ⟨g, off + X.length, none⟩ (.int .i64 ((n : Int) + i + 1))) (fun k _ hn => heap_setCell_other _ _ _ _ (fun e => hn (by rw [e]; rfl)))
    rw [show ((n : Int) + ((i + 1 : Nat) : Int)) = (n : Int) + i + 1 by omega]
    exact h1
  · have := h.len; simp; omega
  · rcases List.mem_append.1 hv with hv | hv
    · have := h.ba v hv; omega
    · simp at hv; subst hv; show (n : Int) + 1 + i ≤ _; omega
  · have h1 := h.nd
    have h2 : ∀ y ∈ X ++ Y, y ≠ (n : Int) + i + 1 := fun y hy e => by
      have := h.lt y (by simp at hy ⊢; exact hy.elim .inl (fun h => .inr (.inr h)))
      omega
    rw [List.nodup_append] at h1 ⊢
    obtain ⟨a1, a2, a3⟩ := h1
    refine ⟨a1, List.nodup_cons.2 ⟨fun hm => h2 _ (List.mem_append.2 (.inr hm)) rfl, (List.nodup_cons.1 a2).2⟩, fun a ha b hb => ?_⟩
    rcases List.mem_cons.1 hb with rfl | hb
    · exact h2 a (List.mem_append.2 (.inl ha))
    · exact a3 a ha b (by simp [hb])
  · rcases List.mem_append.1 hy with m | m
    · obtain ⟨v, hv, e⟩ := h.mem y (List.mem_append.2 (.inl m))
      exact ⟨v, List.mem_append.2 (.inl hv), e⟩
    · rcases List.mem_cons.1 m with rfl | m
      · exact ⟨xV b ((n : Int) + i) k ((n : Int) + 1 + i) 0, List.mem_append.2 (.inr (List.mem_singleton.2 rfl)), rfl⟩
      · obtain ⟨v, hv, e⟩ := h.mem y (List.mem_append.2 (.inr m))
        exact ⟨v, List.mem_append.2 (.inl hv), e⟩
  · exact ⟨rfl, rfl, rfl, by simp, fun k hk => heap_setCell_other _ _ _ _ (by have := hr.2; show k ≠ g; omega)⟩
end Go.Proofs.Ytoihdlhdbmepgaa
