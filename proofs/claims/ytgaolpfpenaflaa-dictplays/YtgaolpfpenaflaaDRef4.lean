/-
  THE DOCUMENT's Dict: Take; same.
-/
import Derived.Test.YtgaolpfpenaflaaDRef3
namespace Go.Proofs.Ytgaolpfpenaflaa
open Go.RowKit Go.Sort

set_option maxRecDepth 100000 in
set_option maxHeartbeats 1000000 in
theorem rtake_none (w : World) (base R P : Nat) (v : Value) (es : List En) (k : K) (h : RA w base R P v es) (hm : es.length ≤ 4000000000000) (hc : fd es k = none) :
    Calls Try.prog 32 #[ptr R, kv k] w fun e w' => e = .returned (.tuple #[.int .i64 0, .bool false]) ∧ Below w.heap.size w w' := by
  obtain ⟨k1, k2⟩ := k
  have HB1 : Hid (Below w.heap.size w (w.alloc (.cells #[.int .i64 k1, .int .i64 k2] 28))) := (Below.refl _ _).alloc (Nat.le_refl _) _
  have HR : Hid (RA (w.alloc (.cells #[.int .i64 k1, .int .i64 k2] 28)) base R P v es) := h.kept HB1.out
  clear h
  go_enter Try.func32, Try.ntmps32
  go_wp2_with fail
  generalize w.alloc (.cells #[.int .i64 k1, .int .i64 k2] 28) = W1 at *
  refine (at_any W1 base R P v es (k1, k2) HR.out hm).mono ?_
  rintro e w2 ⟨rfl, hb2⟩
  have HB2 : Hid (Below w.heap.size w w2) := HB1.out.trans (hb2.mono HB1.out.size)
  clear hb2
  rw [ix_fd_none hc]
  go_wp2
  go_ret2
  exact ⟨rfl, HB2.out⟩
theorem pr_take {w : World} {g : Nat} {es A C : List En} {e : En} (h : PrAt w (some ⟨g, 0, none⟩) es) (hes : es = A ++ e :: C) : PrAt w (some ⟨g, 0, none⟩) A ∧ PrAt w (some ⟨g, (A.length + 1) * 4, none⟩) C := by
  rcases h with h0 | ⟨b, off, e', hc⟩
  · rw [h0] at hes; simp at hes
  · cases e'
    have hcat : cpq es = cpq A ++ (cpq [e] ++ cpq C) := by rw [hes, cpq_append]; rfl
    refine ⟨.inr ⟨g, 0, rfl, fun j u hu => ?_⟩, .inr ⟨g, (A.length + 1) * 4, rfl, fun j u hu => ?_⟩⟩
    · refine hc j u ?_
      rw [hcat, List.getElem?_append_left (List.getElem?_eq_some_iff.1 hu).1]
      exact hu
    · have := hc ((A.length + 1) * 4 + j) u (by
        rw [hcat, ← List.append_assoc, List.getElem?_append_right (by rw [List.length_append, cpq_length, cpq_length]; simp; omega)]
        rw [List.length_append, cpq_length, cpq_length]
        simp only [List.length_singleton]
        rw [show (A.length + 1) * 4 + j - (A.length * 4 + 1 * 4) = j by omega]
        exact hu)
      rw [Nat.zero_add] at this
      exact this

set_option maxRecDepth 100000 in
set_option maxHeartbeats 1000000 in
theorem rtake_some (w : World) (base R P : Nat) (v : Value) (es A C : List En) (k : K) (e0 : En) (h : RA w base R P v es) (hbs : base ≤ w.heap.size) (hm : es.length ≤ 4000000000000) (hn : (es.map En.k).Nodup) (hc : fd es k = some e0) (hes : es = A ++ e0 :: C) :
    Calls Try.prog 32 #[ptr R, kv k] w fun e w' => e = .returned (.tuple #[.int .i64 e0.v, .bool true]) ∧ ∃ v', RA w' base R P v' (A ++ C) ∧ Fr (fun k => k = R ∨ v.ownBlock = some k) w w' ∧ Bw w v v' := by
  obtain ⟨k1, k2⟩ := k
  have HB1 : Hid (Below w.heap.size w (w.alloc (.cells #[.int .i64 k1, .int .i64 k2] 28))) := (Below.refl _ _).alloc (Nat.le_refl _) _
  have HR : Hid (RA (w.alloc (.cells #[.int .i64 k1, .int .i64 k2] 28)) base R P v es) := h.kept HB1.out
  have HIx : Hid (ix es (k1, k2) = (A.length : Int)) := by
    have hk := (fd_some hc).2
    have hj : A.length < es.length := by rw [hes]; simp
    have hg : es[A.length] = e0 := by simp [hes]
    refine ix_some hj (by rw [hg]; exact hk) (fun i hi he => ?_)
    have hi' : i < es.length := by omega
    have hm2 : es[i] ∈ A := by
      have : es[i] = A[i] := by simp [hes, List.getElem_append_left hi]
      rw [this]; exact List.getElem_mem hi
    rw [hes] at hn
    exact (nodup_split hn).1 _ hm2 (he.trans hk.symm)
  clear h
  go_enter Try.func32, Try.ntmps32
  go_wp2_with fail
  generalize w.alloc (.cells #[.int .i64 k1, .int .i64 k2] 28) = W1 at *
  refine (at_any W1 base R P v es (k1, k2) HR.out hm).mono ?_
  rintro e w2 ⟨rfl, hb2⟩
  have HB2 : Hid (Below w.heap.size w w2) := HB1.out.trans (hb2.mono HB1.out.size)
  have HR2 : Hid (RA w2 base R P v es) := HR.out.kept hb2
  clear hb2 HR
  rw [HIx.out]
  have hbs2 : base ≤ w2.heap.size := Nat.le_trans hbs HB2.out.size
  obtain ⟨_, c1⟩ := HR2.out.cells
  have hlA : A.length + 1 + C.length = es.length := by rw [hes]; simp; omega
  rcases HR2.out.row.shape with ⟨_, h0⟩ | ⟨g, cap, hv, hbg, hgl, hcap, hmx, hpr⟩
  · rw [h0] at hes; simp at hes
  obtain ⟨hpA, hpC⟩ := pr_take hpr hes
  have HPA : Hid (PrAt w2 (some ⟨g, 0, none⟩) A ∧ PrAt w2 (some ⟨g, (A.length + 1) * 4, none⟩) C) := ⟨hpA, hpC⟩
  have y2 : w2.cell? ⟨g, A.length * 4 + 2, none⟩ = some (.int .i64 e0.v) := by
    rcases hpr with h0 | ⟨b, off, e', hcc⟩
    · rw [h0] at hes; simp at hes
    · cases e'
      have h5 := (PrAt.cells hcc A.length (by omega)).2.2.1
      have hg : es[A.length]'(by omega) = e0 := by simp [hes]
      rw [hg, Nat.zero_add] at h5
      exact h5
  obtain ⟨n, hne⟩ : ∃ n, n = es.length := ⟨_, rfl⟩
  rw [hv, ← hne] at c1
  have hna : A.length + 1 + C.length = n := by omega
  have hnc : n ≤ cap := by omega
  have HLs : Hid (A.length ≤ 4000000000000 ∧ A.length + C.length ≤ 4000000000000) := ⟨by omega, by omega⟩
  obtain ⟨a, ha⟩ : ∃ a, a = A.length := ⟨_, rfl⟩
  have HAl : Hid (a = A.length ∧ n - (a + 1) = C.length ∧ a + 1 ≤ n) := ⟨ha, by omega, by omega⟩
  rw [← ha] at HPA y2 ⊢
  have han : a + 1 ≤ n := HAl.out.2.2
  have hcl : n - (a + 1) = C.length := HAl.out.2.1
  have HV : Hid (v = .slice (some ⟨g, 0, none⟩) n cap) := by rw [Hid, hv, hne]
  clear hpr hpA hpC hna hlA hes hv ha hcap hne
  have HSt : Hid (∀ (v4 : Value) (w3 w4 : World) (v3 : Value), Below w2.heap.size w2 w3 → (∀ k, v3.ownBlock = some k → w2.heap.size ≤ k) → OwnQ w4 base v4 (A ++ C) → w3.grownBy w4 v3.ownBlock → (v4.ownBlock = v3.ownBlock ∨ v4.ownBlock = some w3.heap.size) → w4.cell? ⟨R, 1, none⟩ = some v ∧ w4.frozen? ⟨R, 1, none⟩ = false ∧ Hid (RA (w4.setCell ⟨R, 1, none⟩ v4) base R P v4 (A ++ C) ∧ Fr (fun k => k = R ∨ v.ownBlock = some k) w2 (w4.setCell ⟨R, 1, none⟩ v4) ∧ Bw w2 v v4)) := fun v4 w3 w4 v3 h3 hk3 ho4 hg4 hat4 => by
    have hg : w2.grownBy w4 v.ownBlock := ⟨hg4.os.trans h3.os, hg4.tape.trans h3.tape, hg4.output.trans h3.output, Nat.le_trans h3.size hg4.size, fun k hk _ => (hg4.block k (Nat.lt_of_lt_of_le hk h3.size) (fun e => by have := hk3 k e.symm; omega)).trans (h3.block k hk)⟩
    refine HR2.out.stored ho4 hg ?_
    rcases hat4 with hat4 | hat4
    · cases hb : v3.ownBlock with
      | none => exact .inr (.inl (hat4.trans hb))
      | some k => exact .inr (.inr ⟨k, hat4.trans hb, hk3 k hb⟩)
    · exact .inr (.inr ⟨_, hat4, h3.size⟩)
  have HC3 : Hid (∀ W, Below w2.heap.size w2 W → W.cell? ⟨R, 1, none⟩ = some (.slice (some ⟨g, 0, none⟩) n cap) ∧ PrAt W (if cap = a + 1 then some ⟨g, 0, none⟩ else some ⟨g, (a + 1) * 4, none⟩) C ∧ ((if cap = a + 1 then some ⟨g, 0, none⟩ else some ⟨g, (a + 1) * 4, none⟩) = (none : Option Addr) → cap - (a + 1) = 0)) := fun W hW => ⟨by have := (HR2.out.kept hW).cells.2; rw [HV.out] at this; exact this, by
    by_cases hcp : cap = a + 1
    · have hC0 : C = [] := List.eq_nil_of_length_eq_zero (by have := HAl.out; omega)
      rw [hC0]; exact .inl rfl
    · rw [if_neg hcp]; exact HPA.out.2.kept hW, fun e => by split at e <;> cases e⟩
  have HF2 : Hid (Fr (fun k => k = R ∨ v.ownBlock = some k) w w2) := Fr.ofBelow HB2.out
  clear hcl
  have ha10 : a ≤ 4000000000000 := by have := HLs.out; have := HAl.out; omega
  by_cases hcp : cap = a + 1
  · simp only [if_pos hcp] at HC3
    subst hcp
    go_wp2_with (at_builtin; first | (refine wpList_append_q rfl _ _ rfl base (.slice a3 n3 cp3) A rfl HO3.out (some ⟨g, 0, none⟩) _ _ C rfl (by have := HAl.out; omega) (HC3.out _ HB3.out).2.1 (by simp) (by have := HLs.out; omega) (by have := HB3.out.size; omega) ?_; intro v4 w4 ho4 hg4 hat4; obtain ⟨a4, n4, cp4, e4⟩ : ∃ a n c, v4 = .slice a n c := (by obtain ⟨a, c, e, _⟩ := ho4.slice; exact ⟨a, _, c, e⟩); subst e4; obtain ⟨z1, z2, HF4⟩ := HSt.out _ _ _ _ HB3.out HK3.out ho4 hg4 hat4) | (refine wpList_append_q rfl _ _ rfl base (.slice none 0 0) [] rfl (OwnQ.nil w2 base) (some ⟨g, 0, none⟩) a (a + 1) A rfl HAl.out.1 HPA.out.1 (by simp) (by have := HLs.out; simp; omega) hbs2 ?_; intro v3 w3 ho3 hg3 hat3; rw [List.nil_append] at ho3; obtain ⟨a3, n3, cp3, e3⟩ : ∃ a n c, v3 = .slice a n c := (by obtain ⟨a, c, e, _⟩ := ho3.slice; exact ⟨a, _, c, e⟩); subst e3; have HO3 : Hid (OwnQ w3 base (.slice a3 n3 cp3) A) := ho3; have HB3 : Hid (Below w2.heap.size w2 w3) := ⟨hg3.os, hg3.tape, hg3.output, hg3.size, fun k hk => hg3.block k hk (fun e => by cases e)⟩; have HK3 : Hid (∀ k, (Value.slice a3 n3 cp3).ownBlock = some k → w2.heap.size ≤ k) := (fun k hk => by rcases hat3 with h | h; (· rw [h] at hk; cases hk); (· rw [h] at hk; cases hk; exact Nat.le_refl _)); have c3 := (HC3.out _ HB3.out).1; clear ho3 hg3 hat3))
    go_wp2
    go_ret2
    exact ⟨rfl, ⟨_, HF4.out.1, HF2.out.trans HF4.out.2.1 (fun _ _ h => h), HF4.out.2.2.mono HF2.out.size⟩⟩
  · simp only [if_neg hcp] at HC3
    go_wp2_with (at_builtin; first | (refine wpList_append_q rfl _ _ rfl base (.slice a3 n3 cp3) A rfl HO3.out (some ⟨g, (a + 1) * 4, none⟩) (n - (a + 1)) (cap - (a + 1)) C rfl HAl.out.2.1 (HC3.out _ HB3.out).2.1 (HC3.out _ HB3.out).2.2 (by have := HLs.out; omega) (by have := HB3.out.size; omega) ?_; intro v4 w4 ho4 hg4 hat4; obtain ⟨a4, n4, cp4, e4⟩ : ∃ a n c, v4 = .slice a n c := (by obtain ⟨a, c, e, _⟩ := ho4.slice; exact ⟨a, _, c, e⟩); subst e4; obtain ⟨z1, z2, HF4⟩ := HSt.out _ _ _ _ HB3.out HK3.out ho4 hg4 hat4) | (refine wpList_append_q rfl _ _ rfl base (.slice none 0 0) [] rfl (OwnQ.nil w2 base) (some ⟨g, 0, none⟩) a cap A rfl HAl.out.1 HPA.out.1 (by simp) (by have := HLs.out; simp; omega) hbs2 ?_; intro v3 w3 ho3 hg3 hat3; rw [List.nil_append] at ho3; obtain ⟨a3, n3, cp3, e3⟩ : ∃ a n c, v3 = .slice a n c := (by obtain ⟨a, c, e, _⟩ := ho3.slice; exact ⟨a, _, c, e⟩); subst e3; have HO3 : Hid (OwnQ w3 base (.slice a3 n3 cp3) A) := ho3; have HB3 : Hid (Below w2.heap.size w2 w3) := ⟨hg3.os, hg3.tape, hg3.output, hg3.size, fun k hk => hg3.block k hk (fun e => by cases e)⟩; have HK3 : Hid (∀ k, (Value.slice a3 n3 cp3).ownBlock = some k → w2.heap.size ≤ k) := (fun k hk => by rcases hat3 with h | h; (· rw [h] at hk; cases hk); (· rw [h] at hk; cases hk; exact Nat.le_refl _)); have c3 := (HC3.out _ HB3.out).1; clear ho3 hg3 hat3))
    go_wp2
    go_ret2
    exact ⟨rfl, ⟨_, HF4.out.1, HF2.out.trans HF4.out.2.1 (fun _ _ h => h), HF4.out.2.2.mono HF2.out.size⟩⟩
end Go.Proofs.Ytgaolpfpenaflaa
