import Derived.Test.YtfkijdlggdgfhaaSStK
/-
  StoreRoom: THE STATES.
-/
namespace Go.Proofs.Ytfkijdlggdgfhaa
open Go.RowKit Go.Sort

theorem insE_free {cap : Int} {vs : List Vr} {x : Vr} (h1 : isKey x.k = true) (h2 : 1 ≤ x.ba ∧ x.ba ≤ 1099511627776) (h3 : 0 ≤ x.ix ∧ x.ix < 64) (h4 : cap ≠ (vs.length : Int)) (h5 : ∀ v ∈ vs, v.k = x.k → v.ba < x.ba) : insE cap vs x = 0 := by
  unfold insE
  rw [if_neg (by simp [h1]), if_neg (by omega), if_neg (by omega), if_neg h4]
  cases hl : (ofK x.k vs).getLast? with
  | none => rfl
  | some y =>
    have hm := List.mem_filter.1 (List.mem_of_getLast? hl)
    have hy := h5 y hm.1 (by simpa using hm.2)
    simp only
    rw [if_pos (show later x y from Or.inl hy)]
theorem insE_full {cap : Int} {vs : List Vr} {x : Vr} (h1 : isKey x.k = true) (h2 : 1 ≤ x.ba ∧ x.ba ≤ 1099511627776) (h3 : 0 ≤ x.ix ∧ x.ix < 64) (h4 : cap = (vs.length : Int)) : insE cap vs x = 92 := by
  unfold insE
  rw [if_neg (by simp [h1]), if_neg (by omega), if_neg (by omega), if_pos h4]
/-- a list of numbers of one's own -/
def Th (w : World) (n0 : Nat) (ao : Option Addr) (c : Nat) (xs : List Int) : Prop := (ao = none ∧ c = 0 ∧ xs = []) ∨ ∃ g off, ao = some ⟨g, off, none⟩ ∧ RwI w g off c xs ∧ n0 ≤ g
abbrev bk (ao : Option Addr) (k : Nat) : Prop := ao.map Addr.block = some k
theorem RwI.lt {w : World} {g off c : Nat} {xs : List Int} (h : RwI w g off c xs) : g < w.heap.size := by obtain ⟨⟨_, h1, _⟩, _⟩ := h; exact blk_lt h1
theorem Th.same {w w' : World} {n0 : Nat} {ao : Option Addr} {c : Nat} {xs : List Int} (h : Th w n0 ao c xs) (hs : ∀ k, bk ao k → w'.heap[k]? = w.heap[k]?) : Th w' n0 ao c xs := by
  rcases h with h | ⟨g, off, rfl, h1, h2⟩
  · exact .inl h
  · exact .inr ⟨g, off, rfl, h1.same (hs g rfl), h2⟩
theorem Th.lt {w : World} {n0 : Nat} {ao : Option Addr} {c : Nat} {xs : List Int} (h : Th w n0 ao c xs) {k : Nat} (hk : bk ao k) : k < w.heap.size ∧ n0 ≤ k := by
  rcases h with ⟨rfl, _⟩ | ⟨g, off, rfl, h1, h2⟩
  · cases hk
  · simp [bk] at hk; subst hk; exact ⟨h1.lt, h2⟩
theorem Th.kp {w w' : World} {n0 : Nat} {ao : Option Addr} {c : Nat} {xs : List Int} (h : Th w n0 ao c xs) (hk : Kp n0 (bk ao) w w') : Th w' n0 ao c xs := h.same (fun k hb => hk.block k (h.lt hb).1 (.inr hb))
theorem Th.kept {w w' : World} {n0 : Nat} {ao : Option Addr} {c : Nat} {xs : List Int} (h : Th w n0 ao c xs) (hk : Below w.heap.size w w') : Th w' n0 ao c xs := h.kp (Kp.ofBelow hk)
theorem app_th (w : World) (n0 : Nat) (ao : Option Addr) (c : Nat) (xs : List Int) (b : Int) (h : Th w n0 ao c xs) (hn0 : n0 ≤ w.heap.size) (hm : xs.length + 1 ≤ 1000000000) (ty : TypeId) :
    ∃ v' w', (Builtin.append_ #[45, 45] ty #[.slice ao xs.length c, .slice (some ⟨w.heap.size, 0, none⟩) 1 1]).run Try.prog (w.alloc (.cells #[.int .i64 b] 3)) = .ok v' w' ∧
      ∃ ao' c', v' = .slice ao' (xs.length + 1) c' ∧ Th w' n0 ao' c' (xs ++ [b]) ∧ Fr (bk ao) w w' ∧ ∀ k, bk ao' k → bk ao k ∨ w.heap.size ≤ k := by
  have HA : Below w.heap.size w (w.alloc (.cells #[.int .i64 b] 3)) := (Below.refl _ _).alloc (Nat.le_refl _) _
  obtain ⟨g, off, c', w', hr, hrw, hw⟩ := append_I (w.alloc (.cells #[.int .i64 b] 3)) ty (.slice ao xs.length c) xs b w.heap.size (by
    rcases h with ⟨rfl, rfl, rfl⟩ | ⟨g, off, rfl, hr, _⟩
    · exact .inl ⟨rfl, rfl⟩
    · exact .inr ⟨g, off, c, rfl, hr.same (HA.block g hr.lt)⟩) (by simp) hm
  have hz : w.heap.size ≤ w'.heap.size ∧ w'.os = w.os ∧ w'.tape = w.tape ∧ w'.output = w.output := by
    rcases hw with ⟨_, hg⟩ | ⟨_, hg⟩
    · have := hg.size; simp at this; exact ⟨by omega, hg.os, hg.tape, hg.output⟩
    · have := hg.size; simp at this; exact ⟨by omega, hg.os, hg.tape, hg.output⟩
  have hfr : ∀ k, k < w.heap.size → ¬ bk ao k → w'.heap[k]? = w.heap[k]? := fun k hk hne => by
    rcases hw with ⟨⟨n', c', e⟩, hg⟩ | ⟨_, hg⟩
    · simp only [Value.slice.injEq] at e
      obtain ⟨rfl, _⟩ := e
      exact (hg.block k (by simp; omega) (fun e => hne (by simpa [bk] using e.symm))).trans (HA.block k hk)
    · exact (hg.block k (by simp; omega) (by simp)).trans (HA.block k hk)
  have hgg : bk ao g ∨ w.heap.size ≤ g := by
    rcases hw with ⟨⟨n', c', e⟩, _⟩ | ⟨e, _⟩
    · simp only [Value.slice.injEq] at e
      obtain ⟨rfl, _⟩ := e
      exact .inl rfl
    · right; rw [e]; simp
  refine ⟨_, w', hr, some ⟨g, off, none⟩, c', rfl, .inr ⟨g, off, rfl, hrw, ?_⟩, ⟨hz.2.1, hz.2.2.1, hz.2.2.2, hz.1, hfr⟩, fun k hk => ?_⟩
  · rcases hgg with h1 | h1
    · exact (h.lt h1).2
    · omega
  · simp [bk] at hk; subst hk; exact hgg
/-- a list beside the store has grown -/
theorem ST.grown {n0 : Nat} {w w' : World} {S P : Nat} {cap last : Int} {vs : List Vr} {ao ao' : Option Addr} (h : ST n0 (bk ao) w S P cap last vs) (hfr : Fr (bk ao) w w') (hbk : ∀ k, bk ao' k → bk ao k ∨ w.heap.size ≤ k) : ST n0 (bk ao') w' S P cap last vs :=
  ((h.frame (G := fun k => bk ao k ∨ bk ao' k) (fun k hk => hk.elim .inl (hbk k))).off (fun k hk hn => hfr.block k hk (fun e => hn (.inl e)))).frame (fun _ hk => .inl (.inr hk))
/-- the first loop: i versions are in -/
structure R1 (n0 : Nat) (w0 wr : World) (S n i : Nat) (ao : Option Addr) (c : Nat) (vs : List Vr) : Prop where
  st : ST n0 (bk ao) wr S 4 n i vs
  len : vs.length = i
  ba : ∀ v ∈ vs, v.ba ≤ i
  th : Th wr n0 ao c (vs.map Vr.n)
  bel : Below n0 w0 wr
/-- the second loop -/
structure R2 (n0 : Nat) (w0 wr : World) (S n i : Nat) (ao : Option Addr) (c : Nat) (xs : List Int) (vs : List Vr) : Prop where
  st : ST n0 (bk ao) wr S 4 n ((n : Int) + i) vs
  len : vs.length = n
  ba : ∀ v ∈ vs, v.ba ≤ n + i
  th : Th wr n0 ao c xs
  xl : xs.length = n
  nd : xs.Nodup
  mem : ∀ x ∈ xs, ∃ v ∈ vs, v.n = x
  bel : Below n0 w0 wr
theorem R2.with {n0 : Nat} {w0 wr w2 : World} {S n i : Nat} {ao : Option Addr} {c : Nat} {xs : List Int} {vs : List Vr} (h : R2 n0 w0 wr S n i ao c xs vs) (hk : Kp n0 (bk ao) wr w2) (hst : ST n0 (bk ao) w2 S 4 n ((n : Int) + i) vs) (hn0 : n0 ≤ wr.heap.size := by omega) : R2 n0 w0 w2 S n i ao c xs vs :=
  ⟨hst, h.len, h.ba, h.th.kp hk, h.xl, h.nd, h.mem, h.bel.trans (hk.below hn0)⟩
theorem R2.kept {n0 : Nat} {w0 wr w2 : World} {S n i : Nat} {ao : Option Addr} {c : Nat} {xs : List Int} {vs : List Vr} (h : R2 n0 w0 wr S n i ao c xs vs) (hk : Below wr.heap.size wr w2) (hn0 : n0 ≤ wr.heap.size := by omega) : R2 n0 w0 w2 S n i ao c xs vs := h.with (Kp.ofBelow hk) (h.st.kept hk) hn0
theorem R1.done {n0 : Nat} {w0 wr : World} {S n : Nat} {ao : Option Addr} {c : Nat} {vs : List Vr} (h : R1 n0 w0 wr S n n ao c vs) : R2 n0 w0 wr S n 0 ao c (vs.map Vr.n) vs :=
  ⟨by have := h.st; simpa using this, h.len, by have := h.ba; simpa using this, h.th, by rw [List.length_map, h.len], h.st.nd, fun x hx => by obtain ⟨v, hv, rfl⟩ := List.mem_map.1 hx; exact ⟨v, hv, rfl⟩, h.bel⟩
theorem RwI.set {w : World} {g off c : Nat} {X Y : List Int} {x : Int} (h : RwI w g off c (X ++ x :: Y)) (y : Int) : RwI (w.setCell ⟨g, off + X.length, none⟩ (.int .i64 y)) g off c (X ++ y :: Y) := by
  obtain ⟨⟨cur, h1, h2, h3⟩, h4, h5⟩ := h
  refine ⟨⟨_, blk_set _ h1, by simpa using h2, fun j hj => ?_⟩, by simpa using h4, h5⟩
  have hl : (X ++ y :: Y).length = (X ++ x :: Y).length := by simp
  by_cases e : j = X.length
  · subst e
    rw [Array.getElem?_setIfInBounds_self, if_pos (by rw [hl] at hj; omega)]
    simp
  · rw [Array.getElem?_setIfInBounds_ne (by omega), h3 j (by rw [← hl]; exact hj)]
    congr 2
    by_cases e2 : j < X.length
    · rw [List.getElem_append_left e2, List.getElem_append_left e2]
    · rw [List.getElem_append_right (by omega), List.getElem_append_right (by omega)]
      obtain ⟨q, hq⟩ : ∃ q, j - X.length = q + 1 := ⟨j - X.length - 1, by omega⟩
      simp only [hq, List.getElem_cons_succ]
/-- one is taken out -/
structure R3 (n0 : Nat) (w0 wr : World) (S n i : Nat) (ao : Option Addr) (c : Nat) (X Y : List Int) (x : Int) (us : List Vr) : Prop where
  st : ST n0 (bk ao) wr S 4 n ((n : Int) + i) us
  len : us.length + 1 = n
  ba : ∀ v ∈ us, v.ba ≤ n + i
  th : Th wr n0 ao c (X ++ x :: Y)
  xl : (X ++ x :: Y).length = n
  nd : (X ++ x :: Y).Nodup
  mem : ∀ y ∈ X ++ Y, ∃ v ∈ us, v.n = y
  no : fv us x = none
  lt : ∀ y ∈ X ++ x :: Y, y ≤ (n : Int) + i
  bel : Below n0 w0 wr
theorem R2.out {n0 : Nat} {w0 wr w2 : World} {S n i : Nat} {ao : Option Addr} {c : Nat} {X Y : List Int} {x : Int} {A C : List Vr} {v : Vr} (h : R2 n0 w0 wr S n i ao c (X ++ x :: Y) (A ++ v :: C)) (hv : v.n = x) (hk : Kp n0 (bk ao) wr w2) (hst : ST n0 (bk ao) w2 S 4 n ((n : Int) + i) (A ++ C)) (hn0 : n0 ≤ wr.heap.size) : R3 n0 w0 w2 S n i ao c X Y x (A ++ C) := by
  have hnd := h.st.nd
  have hs := nodup_split hnd
  have hxn := h.nd
  refine ⟨hst, ?_, fun u hu => h.ba u ?_, h.th.kp hk, h.xl, h.nd, fun y hy => ?_, ?_, fun y hy => ?_, h.bel.trans (hk.below hn0)⟩
  · have := h.len; simp at this ⊢; omega
  · simp at hu ⊢; exact hu.elim .inl (fun h => .inr (.inr h))
  · obtain ⟨u, hu, hun⟩ := h.mem y (by simp at hy ⊢; exact hy.elim .inl (fun h => .inr (.inr h)))
    refine ⟨u, ?_, hun⟩
    have hne : u ≠ v := fun e => by
      rw [e, hv] at hun
      have h2 := nodup_split (f := fun z : Int => z) (A := X) (C := Y) (e := x) (by simpa using hxn)
      rcases List.mem_append.1 hy with m | m
      · exact h2.1 y m hun.symm
      · exact h2.2 y m hun.symm
    rcases List.mem_append.1 hu with m | m
    · exact List.mem_append.2 (.inl m)
    · rcases List.mem_cons.1 m with m | m
      · exact absurd m hne
      · exact List.mem_append.2 (.inr m)
  · refine List.find?_eq_none.2 fun u hu => ?_
    simp only [decide_eq_true_eq]
    rw [← hv]
    rcases List.mem_append.1 hu with m | m
    · exact hs.1 u m
    · exact hs.2 u m
  · obtain ⟨u, hu, hun⟩ := h.mem y hy
    rw [← hun]
    exact (h.st.nl u hu).2
theorem R3.with {n0 : Nat} {w0 wr w2 : World} {S n i : Nat} {ao : Option Addr} {c : Nat} {X Y : List Int} {x : Int} {us : List Vr} (h : R3 n0 w0 wr S n i ao c X Y x us) (hk : Kp n0 (bk ao) wr w2) (hst : ST n0 (bk ao) w2 S 4 n ((n : Int) + i) us) (hn0 : n0 ≤ wr.heap.size) : R3 n0 w0 w2 S n i ao c X Y x us :=
  ⟨hst, h.len, h.ba, h.th.kp hk, h.xl, h.nd, h.mem, h.no, h.lt, h.bel.trans (hk.below hn0)⟩
/-- and another one is in -/
theorem R3.back {n0 : Nat} {w0 wr w2 : World} {S n i : Nat} {g off c : Nat} {X Y : List Int} {x : Int} {us : List Vr} {b : Nat} {k : K} (h : R3 n0 w0 wr S n i (some ⟨g, off, none⟩) c X Y x us) (hk : Kp n0 (bk (some ⟨g, off, none⟩)) wr w2) (hst : ST n0 (bk (some ⟨g, off, none⟩)) w2 S 4 n ((n : Int) + i + 1) (us ++ [xV b ((n : Int) + i) k ((n : Int) + 1 + i) 0])) (hn0 : n0 ≤ wr.heap.size) :
    R2 n0 w0 (w2.setCell ⟨g, off + X.length, none⟩ (.int .i64 ((n : Int) + i + 1))) S n (i + 1) (some ⟨g, off, none⟩) c (X ++ ((n : Int) + i + 1) :: Y) (us ++ [xV b ((n : Int) + i) k ((n : Int) + 1 + i) 0]) := by
  have hr : RwI w2 g off c (X ++ x :: Y) ∧ n0 ≤ g := by
    rcases h.th.kp hk with ⟨h1, _⟩ | ⟨g', off', h1, h2, h3⟩
    · cases h1
    · cases h1; exact ⟨h2, h3⟩
  have hx := nodup_split (f := fun z : Int => z) (A := X) (C := Y) (e := x) (by have := h.nd; simpa using this)
  refine ⟨?_, ?_, fun v hv => ?_, .inr ⟨g, off, rfl, hr.1.set _, hr.2⟩, by have := h.xl; simp at this ⊢; exact this, ?_, fun y hy => ?_, (h.bel.trans (hk.below hn0)).trans ?_⟩
  · have h1 := hst.off (w' := w2.setCell ⟨g, off + X.length, none⟩ (.int .i64 ((n : Int) + i + 1))) (fun k _ hn => heap_setCell_other _ _ _ _ (fun e => hn (by rw [e]; rfl)))
    rw [show ((n : Int) + ((i + 1 : Nat) : Int)) = (n : Int) + i + 1 by omega]
    exact h1
  · have := h.len; simp; omega
  · rcases List.mem_append.1 hv with hv | hv
    · have := h.ba v hv; omega
    · simp at hv; subst hv; show (n : Int) + 1 + i ≤ _; omega
  · have h1 := h.nd
    have h2 : ∀ y ∈ X ++ Y, y ≠ (n : Int) + i + 1 := fun y hy e => by
      have := h.lt y (by simp at hy ⊢; exact hy.elim .inl (fun h => .inr (.inr h)))
      omega
    rw [List.nodup_append] at h1 ⊢
    obtain ⟨a1, a2, a3⟩ := h1
    refine ⟨a1, List.nodup_cons.2 ⟨fun hm => h2 _ (List.mem_append.2 (.inr hm)) rfl, (List.nodup_cons.1 a2).2⟩, fun a ha b hb => ?_⟩
    rcases List.mem_cons.1 hb with rfl | hb
    · exact h2 a (List.mem_append.2 (.inl ha))
    · exact a3 a ha b (by simp [hb])
  · rcases List.mem_append.1 hy with m | m
    · obtain ⟨v, hv, e⟩ := h.mem y (List.mem_append.2 (.inl m))
      exact ⟨v, List.mem_append.2 (.inl hv), e⟩
    · rcases List.mem_cons.1 m with rfl | m
      · exact ⟨xV b ((n : Int) + i) k ((n : Int) + 1 + i) 0, List.mem_append.2 (.inr (List.mem_singleton.2 rfl)), rfl⟩
      · obtain ⟨v, hv, e⟩ := h.mem y (List.mem_append.2 (.inr m))
        exact ⟨v, List.mem_append.2 (.inl hv), e⟩
  · exact ⟨rfl, rfl, rfl, by simp, fun k hk => heap_setCell_other _ _ _ _ (by have := hr.2; show k ≠ g; omega)⟩
end Go.Proofs.Ytfkijdlggdgfhaa
/-
  StoreRoom.
-/
namespace Go.Proofs.Ytfkijdlggdgfhaa
open Go.RowKit Go.Sort

theorem key0 (r : Int) : isKey (0, r) = true := by simp [isKey]
theorem umod (x q : Int) (hq : 0 < q) : ∃ r : Nat, (IntKind.u64.wrap x).tmod q = (r : Int) ∧ (r : Int) < q := by
  have h0 : 0 ≤ IntKind.u64.wrap x := by rw [IntKind.wrap_u64]; omega
  have h1 : (IntKind.u64.wrap x).tmod q = IntKind.u64.wrap x % q := Int.tmod_eq_emod_of_nonneg h0
  have h2 := Int.emod_nonneg (IntKind.u64.wrap x) (b := q) (by omega)
  have h3 := Int.emod_lt_of_pos (IntKind.u64.wrap x) hq
  obtain ⟨r, hr⟩ := Int.eq_ofNat_of_zero_le h2
  exact ⟨r, by rw [h1]; exact hr, by omega⟩
theorem insert_in (n0 : Nat) (F : Nat → Prop) (w : World) (S P : Nat) (cap last : Int) (vs : List Vr) (h : ST n0 F w S P cap last vs) (hF : ∀ k, F k → k < w.heap.size) (hn0 : n0 ≤ w.heap.size) (k1 k2 : Int) (ba ix : Int) (hk : KIn (k1, k2)) (hba : In64 ba) (hix : In64 ix) (hl0 : 0 ≤ last ∧ last + 1 ≤ 1000000000000000) (E : Int) (hE : insE cap vs (xV 0 last (k1, k2) ba ix) = E) :
    Calls Try.prog 19 #[ptr S, .agg #[.int .i64 k1, .int .i64 k2], .int .i64 ba, .int .i64 ix] w fun e w' => Kp n0 F w w' ∧
      ((E ≠ 0 ∧ e = .returned (.tuple #[.int .i64 0, .int .i64 E]) ∧ ST n0 F w' S P cap last vs) ∨
       (E = 0 ∧ e = .returned (.tuple #[.int .i64 (last + 1), .int .i64 0]) ∧ ∃ b, ST n0 F w' S P cap (last + 1) (vs ++ [xV b last (k1, k2) ba ix]))) := by
  have := insert_st n0 F w S P cap last vs h hF hn0 (k1, k2) ba ix hk hba hix hl0
  rw [hE] at this
  exact this
theorem hidC {p : Prop} (h : p) : Hid p := h
/-- the list lies there -/
def IntsAt (w : World) (ad : Option Addr) (ds : List Int) : Prop := ds = [] ∨ ∃ b off, ad = some ⟨b, off, none⟩ ∧ ∀ j, j < ds.length → w.cell? ⟨b, off + j, none⟩ = some (.int .i64 (ds.getD j 0))
set_option maxRecDepth 100000 in
set_option maxHeartbeats 2000000 in
theorem law_sroom (w : World) (cp : Int) (ad : Option Addr) (m cd : Nat) (ds : List Int) (hm : m = ds.length) (hm2 : m ≤ 1048576) (hd : IntsAt w ad ds) (hdi : ∀ x ∈ ds, In64 x) :
    Calls Try.prog 5 #[.int .i64 cp, .slice ad m cd] w fun e w' => e = .returned (.bool true) ∧ Below w.heap.size w w' := by
  have HD : Hid (IntsAt w ad ds ∧ m = ds.length ∧ ∀ x ∈ ds, In64 x) := ⟨hd, hm, hdi⟩
  obtain ⟨n, hn, hn1, hn2⟩ : ∃ n : Nat, wrap64 (1 + wrap64 ((IntKind.u64.wrap cp).tmod 200)) = (n : Int) ∧ 1 ≤ n ∧ n ≤ 200 := by
    obtain ⟨r, h1, h2⟩ := umod cp 200 (by omega)
    exact ⟨r + 1, by rw [h1]; unfold wrap64; omega, by omega, by omega⟩
  have HN : Hid (wrap64 (1 + wrap64 ((IntKind.u64.wrap cp).tmod 200)) = (n : Int)) := hn
  clear hd hm hn
  go_enter Try.func5, Try.ntmps5
  go_wp2_with fail
  rw [HN.out]
  refine (new_st w.heap.size (bk none) w 4 (n : Int) (by omega) (by omega) (by omega) (Nat.le_refl _) (fun k h => by cases h)).mono ?_
  rintro e w1 ⟨S, rfl, hst, hb⟩
  have HR : Hid (R1 w.heap.size w w1 S n 0 none 0 []) := ⟨hst, rfl, by simp, .inl ⟨rfl, rfl, rfl⟩, hb⟩
  clear hst hb
  go_wp2_with fail
  go_loopw [8, 9, 10, 11] (fun t x _ _ wr => ∃ (i : Nat) (ao : Option Addr) (c : Nat) (vs : List Vr), i ≤ n ∧ t = .slice ao i c ∧ x = .int .i64 (i : Int) ∧ Hid (R1 w.heap.size w wr S n i ao c vs)) (fun _ x _ _ _ => n - (intOf x).toNat)
  case atStart => exact ⟨0, none, 0, [], by omega, rfl, rfl, HR⟩
  case round =>
    obtain ⟨i, ao, c, vs, hi, rfl, rfl, HRr⟩ := hrel
    by_cases hlt : i < n
    · have HIns := insert_in w.heap.size (bk ao) wr S 4 n i vs HRr.out.st (fun k hk => (HRr.out.th.lt hk).1) HRr.out.bel.size 0 ((i : Int) % 7) ((i : Int) + 1) 0 ⟨by unfold In64; omega, by unfold In64; omega⟩ (by unfold In64; omega) (by unfold In64; omega) (by omega) 0
        (insE_free (key0 _) (by show 1 ≤ (i : Int) + 1 ∧ (i : Int) + 1 ≤ 1099511627776; omega) (by show (0 : Int) ≤ 0 ∧ (0 : Int) < 64; omega) (by rw [HRr.out.len]; omega) (fun v hv _ => by have := HRr.out.ba v hv; show v.ba < (i : Int) + 1; omega))
      go_wp2_with fail
      refine HIns.mono ?_
      clear HIns
      rintro e w2 ⟨hkp, ⟨h0, _⟩ | ⟨_, rfl, b, hst2⟩⟩
      · exact absurd rfl h0
      have HT2 : Hid (Th w2 w.heap.size ao c (vs.map Vr.n) ∧ (vs.map Vr.n).length = i) := ⟨HRr.out.th.kp hkp, by rw [List.length_map, HRr.out.len]⟩
      have HB2 : Hid (Below w.heap.size w w2) := HRr.out.bel.trans (hkp.below HRr.out.bel.size)
      obtain ⟨vs2, hvs2⟩ : ∃ vs2, vs2 = vs ++ [xV b i (0, (i : Int) % 7) ((i : Int) + 1) 0] := ⟨_, rfl⟩
      rw [← hvs2] at hst2
      have HS2 : Hid (ST w.heap.size (bk ao) w2 S 4 n ((i : Int) + 1) vs2) := hst2
      have HV2 : Hid (vs2.length = i + 1 ∧ (∀ v ∈ vs2, v.ba ≤ (i : Int) + 1) ∧ vs2.map Vr.n = vs.map Vr.n ++ [(i : Int) + 1]) := by
        refine ⟨by rw [hvs2, List.length_append, HRr.out.len]; rfl, fun v hv => ?_, by rw [hvs2]; simp⟩
        rw [hvs2] at hv
        rcases List.mem_append.1 hv with hv | hv
        · have := HRr.out.ba v hv; omega
        · simp at hv; subst hv; exact Int.le_refl _
      clear hst2 hvs2 hkp HRr
      have hlv := live_st _ _ w2 S 4 n _ vs2 HS2.out
      rw [HV2.out.1, show ((i + 1 : Nat) : Int) = (i : Int) + 1 by omega] at hlv
      have hrm := room_st _ _ w2 S 4 n _ vs2 HS2.out
      rw [HV2.out.1, show (n : Int) - ((i + 1 : Nat) : Int) = (n : Int) - (i : Int) - 1 by omega] at hrm
      have HLv := hidC hlv
      have HRm := hidC hrm
      clear hlv hrm
      go_wp2_with fail
      refine HLv.out.mono ?_
      rintro e w3 ⟨rfl, hw3⟩
      have hw3' := hw3.symm
      subst hw3'
      clear hw3 HLv
      go_wp2_with fail
      refine HRm.out.mono ?_
      rintro e w4 ⟨rfl, hb4⟩
      clear HRm
      have HS4 : Hid (ST w.heap.size (bk ao) w4 S 4 n ((i : Int) + 1) vs2) := HS2.out.kept hb4
      have HT4 : Hid (Th w4 w.heap.size ao c (vs.map Vr.n) ∧ (vs.map Vr.n).length = i) := ⟨HT2.out.1.kept hb4, HT2.out.2⟩
      have HB4 : Hid (Below w.heap.size w w4) := HB2.out.trans (hb4.mono HB2.out.size)
      clear hb4 HS2 HT2 HB2
      have HAp := app_th w4 w.heap.size ao c (vs.map Vr.n) ((i : Int) + 1) HT4.out.1 HB4.out.size (by rw [HT4.out.2]; omega)
      rw [HT4.out.2, ← HV2.out.2.2] at HAp
      have HAp' := hidC HAp
      clear HAp
      go_wp2_with (
        at_builtin
        refine wpL_app rfl _ _ 45 rfl (.slice ao i c) _ rfl rfl HAp'.out ?_
        rintro v1 w5 ⟨ao', c', rfl, hth, hfr, hbk⟩
        have HR5 : Hid (R1 w.heap.size w w5 S n (i + 1) ao' c' vs2) := ⟨HS4.out.grown hfr hbk, HV2.out.1, HV2.out.2.1, hth, HB4.out.trans (hfr.below HB4.out.size (fun k hk => (HT4.out.1.lt hk).2))⟩
        clear hth hfr hbk HAp')
      exact ⟨⟨i + 1, ao', c', vs2, by omega, rfl, by rw [show ((i + 1 : Nat) : Int) = (i : Int) + 1 by omega], HR5⟩, by simp [intOf]; omega⟩
    · obtain rfl : n = i := by omega
      have HR2 : Hid (R2 w.heap.size w wr S n 0 ao c (vs.map Vr.n) vs) := HRr.out.done
      clear HRr hlt hi HR
      have hthl : ∃ g off, ao = some ⟨g, off, none⟩ := by
        rcases HR2.out.th with ⟨_, _, h⟩ | ⟨g, off, h, _⟩
        · have := HR2.out.xl; rw [h] at this; simp at this; omega
        · exact ⟨g, off, h⟩
      obtain ⟨g, off, rfl⟩ := hthl
      go_wp2_with fail
      go_loopw [12, 13, 14, 15, 16, 17] (fun ba la x _ _ _ wq => ∃ (j : Nat) (xs : List Int) (vs : List Vr), j ≤ m ∧ ba = .int .i64 ((n : Int) + 1 + (j : Int)) ∧ la = .int .i64 ((n : Int) + (j : Int)) ∧ x = .int .i64 (j : Int) ∧ Hid (R2 w.heap.size w wq S n j (some ⟨g, off, none⟩) c xs vs)) (fun _ _ x _ _ _ _ => m - (intOf x).toNat)
      case atStart => exact ⟨0, vs.map Vr.n, vs, Nat.zero_le _, by simp, by simp, rfl, HR2⟩
      case round =>
        clear HR2
        obtain ⟨j, xs, vs, hj, rfl, rfl, rfl, HRq⟩ := hrel
        by_cases hlt : j < m
        · have HI1 := insert_in w.heap.size (bk (some ⟨g, off, none⟩)) wr S 4 n ((n : Int) + j) vs HRq.out.st (fun k hk => (HRq.out.th.lt hk).1) HRq.out.bel.size 0 3 ((n : Int) + 1 + j) 0 ⟨by unfold In64; omega, by unfold In64; omega⟩ (by unfold In64; omega) (by unfold In64; omega) (by omega) 92
            (insE_full (key0 _) (by show 1 ≤ (n : Int) + 1 + j ∧ (n : Int) + 1 + j ≤ 1099511627776; omega) (by show (0 : Int) ≤ 0 ∧ (0 : Int) < 64; omega) (by rw [HRq.out.len]))
          go_wp2_with fail
          refine HI1.mono ?_
          clear HI1
          rintro e w2 ⟨hkp, ⟨_, rfl, hst⟩ | ⟨h0, _⟩⟩
          rotate_left
          · exact absurd h0 (by decide)
          have HR3 : Hid (R2 w.heap.size w w2 S n j (some ⟨g, off, none⟩) c xs vs) := HRq.out.with hkp hst HRq.out.bel.size
          clear HRq hkp hst
          have hlv := live_st _ _ w2 S 4 n _ vs HR3.out.st
          rw [HR3.out.len] at hlv
          have hrm := room_st _ _ w2 S 4 n _ vs HR3.out.st
          rw [HR3.out.len, show (n : Int) - (n : Int) = 0 by omega] at hrm
          have HLv := hidC hlv
          have HRm := hidC hrm
          clear hlv hrm
          go_wp2_with fail
          refine HLv.out.mono ?_
          rintro e w3 ⟨rfl, hw3⟩
          have hw3' := hw3.symm
          subst hw3'
          clear hw3 HLv
          go_wp2_with fail
          refine HRm.out.mono ?_
          rintro e w4 ⟨rfl, hb4⟩
          clear HRm
          have HR4 : Hid (R2 w.heap.size w w4 S n j (some ⟨g, off, none⟩) c xs vs) := HR3.out.kept hb4 HR3.out.bel.size
          clear hb4 HR3
          obtain ⟨db, dof, hcd, hdin⟩ : ∃ db dof, (ad = some ⟨db, dof, none⟩ ∧ w4.cell? ⟨db, dof + j, none⟩ = some (.int .i64 (ds.getD j 0))) ∧ In64 (ds.getD j 0) := by
            obtain ⟨h1, h2, h3⟩ := HD.out
            rcases h1 with h1 | ⟨db, dof, h1, h4⟩
            · rw [h1] at h2; simp at h2; omega
            · have hc := h4 j (by omega)
              refine ⟨db, dof, ⟨h1, ?_⟩, h3 _ ?_⟩
              · rw [HR4.out.bel.cell (World.block_lt_of_cell? _ _ hc)]; exact hc
              · rw [List.getD_eq_getElem?_getD, List.getElem?_eq_getElem (by omega)]; exact List.getElem_mem _
          obtain ⟨rfl, hcd⟩ := hcd
          generalize ds.getD j 0 = d at *
          obtain ⟨k, hk, hkn⟩ := umod d (n : Int) (by omega)
          go_upto_region 22 with fail
          obtain ⟨X, x, Y, hxs, hXk⟩ : ∃ X x Y, xs = X ++ x :: Y ∧ X.length = k := by
            have hkl : k < xs.length := by have := HR4.out.xl; omega
            exact ⟨xs.take k, xs[k], xs.drop (k + 1), by rw [← List.drop_eq_getElem_cons hkl, List.take_append_drop], by rw [List.length_take]; omega⟩
          subst hxs
          have hxc : ∀ W, Th W w.heap.size (some ⟨g, off, none⟩) c (X ++ x :: Y) → W.cell? ⟨g, off + k, none⟩ = some (.int .i64 x) ∧ W.frozen? ⟨g, off + k, none⟩ = false := fun W hW => by
            rcases hW with ⟨h1, _⟩ | ⟨g', off', h1, h2, _⟩
            · cases h1
            · cases h1
              have h3 := h2.cell (j := X.length) (by simp)
              obtain ⟨⟨cur, h4, _⟩, _⟩ := h2
              exact ⟨by rw [← hXk, h3]; simp, frozen_of_row _ _ _ _ _ h4⟩
          have HXc := hidC hxc
          have HXk : Hid (X.length = k) := hXk
          obtain ⟨u0, hu0, hu0n⟩ := HR4.out.mem x (by simp)
          have hxin : In64 x := by have := HR4.out.st.nl u0 hu0; have := HR4.out.st.lt; unfold In64; omega
          have hfv : fv vs x ≠ none := fun e => by have := fv_none e u0 hu0; exact this hu0n
          have HRe := remove_st _ _ w4 S 4 n _ vs HR4.out.st x hxin
          obtain ⟨y4, _⟩ := hxc w4 HR4.out.th
          have hkn' : k < n := by omega
          have HFv := hidC hfv
          have HXi := hidC hxin
          clear hxc hXk hu0 hu0n hk hdin hfv hxin hcd
          go_wp2_with fail
          refine HRe.mono ?_
          clear HRe
          rintro e w5 ⟨hkp, ⟨h0, _⟩ | ⟨A, v, C, rfl, hvn, rfl, hst⟩⟩
          · exact absurd h0 HFv.out
          have HR5 : Hid (R3 w.heap.size w w5 S n j (some ⟨g, off, none⟩) c X Y x (A ++ C)) := HR4.out.out hvn hkp hst HR4.out.bel.size
          clear hkp hst HR4 HFv hvn
          generalize A ++ C = us at *
          obtain ⟨y5, _⟩ := HXc.out w5 HR5.out.th
          have HRe := remove_st _ _ w5 S 4 n _ us HR5.out.st x HXi.out
          clear y4
          go_wp2_with fail
          refine HRe.mono ?_
          clear HRe
          rintro e w6 ⟨hkp, ⟨_, rfl, hst⟩ | ⟨A', v', C', h0, h1, _⟩⟩
          rotate_left
          · exact absurd h1 (fv_none HR5.out.no v' (by rw [h0]; simp))
          have HR6 : Hid (R3 w.heap.size w w6 S n j (some ⟨g, off, none⟩) c X Y x us) := HR5.out.with hkp hst HR5.out.bel.size
          clear hkp hst HR5 y5
          have hrm := room_st _ _ w6 S 4 n _ us HR6.out.st
          rw [show (n : Int) - (us.length : Int) = 1 by have := HR6.out.len; omega] at hrm
          go_wp2_with fail
          refine hrm.mono ?_
          rintro e w7 ⟨rfl, hb7⟩
          have HR7 : Hid (R3 w.heap.size w w7 S n j (some ⟨g, off, none⟩) c X Y x us) := HR6.out.with (Kp.ofBelow hb7) (HR6.out.st.kept hb7) HR6.out.bel.size
          clear hb7 hrm HR6
          have HI2 := insert_in w.heap.size (bk (some ⟨g, off, none⟩)) w7 S 4 n ((n : Int) + j) us HR7.out.st (fun k hk => (HR7.out.th.lt hk).1) HR7.out.bel.size 0 ((j : Int) % 5) ((n : Int) + 1 + j) 0 ⟨by unfold In64; omega, by unfold In64; omega⟩ (by unfold In64; omega) (by unfold In64; omega) (by omega) 0
            (insE_free (key0 _) (by show 1 ≤ (n : Int) + 1 + j ∧ (n : Int) + 1 + j ≤ 1099511627776; omega) (by show (0 : Int) ≤ 0 ∧ (0 : Int) < 64; omega) (by have := HR7.out.len; omega) (fun v hv _ => by have := HR7.out.ba v hv; show v.ba < (n : Int) + 1 + j; omega))
          go_wp2_with fail
          refine HI2.mono ?_
          clear HI2
          rintro e w8 ⟨hkp, ⟨h0, _⟩ | ⟨_, rfl, b, hst⟩⟩
          · exact absurd rfl h0
          have HR8 := hidC (HR7.out.back hkp hst HR7.out.bel.size)
          obtain ⟨y8, f8⟩ := HXc.out w8 (HR7.out.th.kp hkp)
          clear hkp hst HR7
          have HX8 := HXk.out
          rw [HX8] at HR8
          clear HX8 HXk HXc
          go_wp2
          exact ⟨⟨j + 1, _, _, by omega, by rw [show ((j + 1 : Nat) : Int) = (j : Int) + 1 by omega, Int.add_assoc], by rw [show ((j + 1 : Nat) : Int) = (j : Int) + 1 by omega, Int.add_assoc], by rw [show ((j + 1 : Nat) : Int) = (j : Int) + 1 by omega], HR8⟩, by simp [intOf]; omega⟩
        · have hlv := live_st _ _ wr S 4 n _ vs HRq.out.st
          rw [HRq.out.len] at hlv
          have HBf : Hid (Below w.heap.size w wr) := HRq.out.bel
          have HLv := hidC hlv
          clear hlv HRq
          go_wp2_with fail
          refine HLv.out.mono ?_
          rintro e w3 ⟨rfl, hw3⟩
          have hw3' := hw3.symm
          subst hw3'
          clear hw3 HLv
          go_wp2
          go_ret
          exact ⟨by simp, HBf.out⟩
end Go.Proofs.Ytfkijdlggdgfhaa
