/-
  LISTS OF MARKS THAT GROW, EACH IN ITS OWN BLOCKS.
-/
import Derived.Test.YtnjgaibcpcpmcabKRows
import Derived.Test.YtnjgaibcpcpmcabKLent
import Derived.Deep.DeepAppendRoom
namespace Go.Proofs.Ytnjgaibcpcpmcab
open Go.RowKit Go.Sort

/-- append at a slice of keys of the call's own: in place, or all that lay lies as it lay -/
theorem run_append_keys2 {w : World} (ty : TypeId) (base : Nat) (v : Value) (L : List K) (hown : OwnK w base v L)
    (ad : Addr) (m c : Nat) (M : List K) (hm : m = M.length) (hsrc : KeysAt w (some ad) M) (hlen : (L.length + M.length) * 16 ≤ 140737488355328) (hbase : base ≤ w.heap.size) :
    ∃ v' w', (Builtin.append_ #[29, 29] ty #[v, .slice (some ad) m c]).run Try.prog w = .ok v' w' ∧ OwnK w' base v' (L ++ M) ∧ ((v'.ownBlock = v.ownBlock ∧ w.grownBy w' v.ownBlock ∧ ∀ g n cap, v = own g n cap → ∃ n', v' = own g n' cap) ∨ (v'.ownBlock = some w.heap.size ∧ w.grownBy w' none)) := by
  obtain ⟨v', w', hr, h2, h3, h4⟩ := run_append_keys ty base v L hown (some ad) m c M hm hsrc (by simp) hlen hbase
  refine ⟨v', w', hr, h2, ?_⟩
  · obtain ⟨hl, h⟩ := hown
    rcases h with ⟨rfl, h0⟩ | ⟨g, cap, cur, rfl, hb, hg, hn, hcm, hs, ht⟩
    · rcases h4 with h4 | h4
      · exact .inl ⟨h4, h3, fun g n cap e => by cases e⟩
      · exact .inr ⟨h4, h3⟩
    · obtain ⟨i0, hi, hz0, hz1, hz2⟩ := info_parts infoK
      have hsrc' : ∀ j u, (cks M)[j]? = some u → w.cell? (ad.add j) = some u := by
        intro j u hu
        rcases hsrc with h0 | ⟨b, off, e, hc⟩
        · subst h0; simp [cks] at hu
        · cases e; rw [addr_add]; exact hc j u hu
      have hown' : w.ownsRow base 28 2 (.slice (some ⟨g, 0, none⟩) L.length cap) L.length (cks L) := ⟨hl, .inr ⟨g, cap, cur, rfl, hb, hg, hn, hcm, hs, ht⟩⟩
      by_cases hroom : L.length + m ≤ cap
      · obtain ⟨w2, hr2, _, h6⟩ := run_append_own_spare (P := Try.prog) (w := w) base 29 ty 28 i0 2 Try.underlying29 hi hz1 g L.length cap (cks L) hown' ad m c (cks M) (by rw [cks_length, hm]) hsrc' (cks_one M) hroom
        rw [hr] at hr2
        cases hr2
        exact .inl ⟨rfl, h6, fun g' n' cap' e => by cases e; exact ⟨_, rfl⟩⟩
      · have hgr := run_append_grow (P := Try.prog) w 29 ty 28 i0 (.agg #[.int .i64 0, .int .i64 0]) Try.underlying29 hi hz0 ⟨g, 0, none⟩ L.length cap (cks L) (by rw [cks_length, hz1])
          (fun j u hu => by rw [addr_add]; have hj : j < L.length * 2 := by rw [← cks_length]; exact (List.getElem?_eq_some_iff.1 hu).1
                            rw [Nat.zero_add, World.ownsRow.cellAt hown' j hj, hu])
          ad m c (cks M) (by rw [cks_length, hm, hz1]) hsrc' (by omega) (by omega) (by rw [hz2]; exact growslice_fits (by omega) (by rw [hm]; exact hlen))
        rw [hr] at hgr
        cases hgr
        exact .inr ⟨rfl, ⟨rfl, rfl, rfl, by simp, fun k hk _ => Below.heap_alloc w.drew _ k hk⟩⟩
theorem wpList_append_keys2 {w : World} {ops : Array Oper} {rest : List Oper} {o : Oper} {a : Act} {Q : Exit → Act → World → Prop} (hgd : o.guard = none) (s x : Operand)
    (ho : o.op = .call { callee := .builtin .append, args := #[s, x], argTypes := #[29, 29] }) (base : Nat) (v : Value) (L : List K) (hs : a.eval s = v) (hown : OwnK w base v L)
    (ad : Addr) (m c : Nat) (M : List K) (hx : a.eval x = .slice (some ad) m c) (hm : m = M.length) (hsrc : KeysAt w (some ad) M) (hlen : (L.length + M.length) * 16 ≤ 140737488355328) (hbase : base ≤ w.heap.size)
    (h : ∀ v' w', OwnK w' base v' (L ++ M) → ((v'.ownBlock = v.ownBlock ∧ w.grownBy w' v.ownBlock ∧ ∀ g n cap, v = own g n cap → ∃ n', v' = own g n' cap) ∨ (v'.ownBlock = some w.heap.size ∧ w.grownBy w' none)) → wpList Try.prog ops Q rest (a.put o.dst v') w') : wpList Try.prog ops Q (o :: rest) a w := by
  obtain ⟨v', w', hr, h2, h3⟩ := run_append_keys2 o.type base v L hown ad m c M hm hsrc hlen hbase
  refine wpList_plain hgd fun K hK' => ?_
  unfold Oper.wp
  simp [execOp, ho, resolve, invoke, builtin, hs, hx, hr, Result.andThen]
  exact hK' _ _ (h v' w' h2 h3)

/-- LISTS OF MARKS: T v j n: v is a list of n marks of the holder j; O: whose a block is -/
structure Mks (w : World) (base : Nat) (T : Value → Nat → Nat → Prop) (O : Nat → Option Nat) : Prop where
  items : ∀ v j n, T v j n → OwnK w base v (List.replicate n (mkK j)) ∧ ∀ b, v.ownBlock = some b → O b = some j
  fresh : ∀ b, w.heap.size ≤ b → O b = none
theorem Mks.below {w w1 : World} {base : Nat} {T : Value → Nat → Nat → Prop} {O : Nat → Option Nat} (h : Mks w base T O) (hb : Below w.heap.size w w1) : Mks w1 base T O :=
  ⟨fun v j n ht => ⟨(h.items v j n ht).1.kept hb, (h.items v j n ht).2⟩, fun b hbb => h.fresh b (Nat.le_trans hb.size hbb)⟩
theorem Mks.other {w w1 : World} {base : Nat} {T : Value → Nat → Nat → Prop} {O : Nat → Option Nat} {row : Option Nat} (h : Mks w base T O) (hg : w.grownBy w1 row) (hr : ∀ b, row = some b → O b = none) : Mks w1 base T O :=
  ⟨fun v j n ht => ⟨(h.items v j n ht).1.grown hg (fun b hb e => by have h1 := (h.items v j n ht).2 b hb; rw [hr b e] at h1; cases h1), (h.items v j n ht).2⟩, fun b hbb => h.fresh b (Nat.le_trans hg.size hbb)⟩
theorem rep_len {w : World} {base g n cap : Nat} {x : K} {k : Nat} (h : OwnK w base (own g n cap) (List.replicate k x)) : n = k := by have := h.len.1; simpa using this
theorem own_block {w : World} {base g n cap : Nat} {L : List K} (h : OwnK w base (own g n cap) L) : ∃ cur, w.heap[g]? = some (.cells cur 28 (0, 0)) ∧ cur.size = cap * 2 := by
  obtain ⟨_, h⟩ := h
  rcases h with ⟨e, _⟩ | ⟨g', c', cur, e, hb, hg, hn, hm, hs, ht⟩
  · cases e
  · cases e; exact ⟨cur, hg, hs⟩
/-- a list grows by marks of its holder -/
theorem Mks.grow {w w1 : World} {base : Nat} {T : Value → Nat → Nat → Prop} {O : Nat → Option Nat} (h : Mks w base T O) {v v' : Value} {i n c : Nat} (ht : T v i n) (hown : OwnK w1 base v' (List.replicate (n + c) (mkK i)))
    (hle : ∀ u k, T u i k → k ≤ n + c) (hg : (v'.ownBlock = v.ownBlock ∧ w.grownBy w1 v.ownBlock ∧ ∀ g n cap, v = own g n cap → ∃ n', v' = own g n' cap) ∨ (v'.ownBlock = some w.heap.size ∧ w.grownBy w1 none)) :
    ∃ O', Mks w1 base (fun u j k => T u j k ∨ (u = v' ∧ j = i ∧ k = n + c)) O' ∧ (∀ b, b < w.heap.size → O' b = O b) ∧ (∀ b, b < w.heap.size → O b ≠ some i → w1.heap[b]? = w.heap[b]?) ∧ w.heap.size ≤ w1.heap.size := by
  have hsz : w.heap.size ≤ w1.heap.size := by rcases hg with h1 | h1; exact h1.2.1.size; exact h1.2.size
  rcases hg with ⟨h1, h2, h3⟩ | ⟨h1, h2⟩
  · refine ⟨O, ⟨?_, fun b hb => h.fresh b (by omega)⟩, fun _ _ => rfl, fun b hb hO => h2.block b hb (fun e => hO ((h.items v i n ht).2 b e.symm)), hsz⟩
    rintro u j k (hu | ⟨rfl, rfl, rfl⟩)
    · refine ⟨?_, (h.items u j k hu).2⟩
      have hu1 := (h.items u j k hu).1
      by_cases hb : ∃ b, u.ownBlock = some b ∧ v.ownBlock = some b
      · obtain ⟨b, hb1, hb2⟩ := hb
        have hj : j = i := by
          have e1 := (h.items u j k hu).2 b hb1
          have e2 := (h.items v i n ht).2 b hb2
          rw [e1] at e2; exact Option.some.inj e2
        subst hj
        have hk := hle u k hu
        rcases hu1.shape with ⟨rfl, _⟩ | ⟨g, cap, e, _⟩
        · cases hb1
        · rw [List.length_replicate] at e
          subst e
          cases hb1
          rcases hown.shape with ⟨e2, _⟩ | ⟨g2, cap2, e2, _⟩
          · rw [e2, hb2] at h1; cases h1
          · rw [List.length_replicate] at e2
            subst e2
            rw [hb2] at h1
            cases h1
            have hp := hown.prefix k (by omega)
            rw [List.take_replicate, Nat.min_eq_left hk] at hp
            have hc : cap2 = cap := by
              obtain ⟨cu1, e1, s1⟩ := own_block hu1
              rcases (h.items v j n ht).1.shape with ⟨e0, _⟩ | ⟨g0, cap0, e0, _⟩
              · rw [e0] at hb2; cases hb2
              · rw [List.length_replicate] at e0
                subst e0
                cases hb2
                obtain ⟨cu2, e2, s2⟩ := own_block (h.items _ j n ht).1
                obtain ⟨n', e3⟩ := h3 _ _ _ rfl
                cases e3
                rw [e1] at e2
                cases e2
                omega
            subst hc
            exact hp
      · exact hu1.grown h2 (fun b hbu e => hb ⟨b, hbu, e⟩)
    · exact ⟨hown, fun b hb => (h.items v j n ht).2 b (h1 ▸ hb)⟩
  · refine ⟨fun b => if b = w.heap.size then some i else O b, ⟨?_, fun b hb => ?_⟩, fun b hb => if_neg (by omega), fun b hb _ => h2.block b hb (by simp), hsz⟩
    · rintro u j k (hu | ⟨rfl, rfl, rfl⟩)
      · refine ⟨(h.items u j k hu).1.grown h2 (fun b _ e => by cases e), fun b hb => ?_⟩
        have := ((h.items u j k hu).1.lt b hb).2
        rw [if_neg (by omega)]
        exact (h.items u j k hu).2 b hb
      · refine ⟨hown, fun b hb => ?_⟩
        rw [h1] at hb
        cases hb
        exact if_pos rfl
    · have hlt := (hown.lt _ h1).2
      rw [if_neg (by omega)]
      exact h.fresh b (by omega)

end Go.Proofs.Ytnjgaibcpcpmcab
