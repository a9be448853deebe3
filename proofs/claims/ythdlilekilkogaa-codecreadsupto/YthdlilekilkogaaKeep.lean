/-
  append AT A SLICE OF BYTES: what other slices of its row see.
-/
import Derived.Test.YthdlilekilkogaaOwn
import Derived.Deep.DeepAppendRoom
namespace Go.Proofs.Ythdlilekilkogaa
open Go.RowKit

/-- two slices of one row: the shorter one is the longer one's beginning; both have the row's capacity -/
theorem OwnB.views {w : World} {base : Nat} {g n cap : Nat} {u : Value} {L M : List Nat} (h : OwnB w base (.slice (some ⟨g, 0, none⟩) n cap) L) (hu : OwnB w base u M) (e : u.ownBlock = some g) (hl : M.length ≤ L.length) :
    u = .slice (some ⟨g, 0, none⟩) M.length cap ∧ M = L.take M.length := by
  obtain ⟨hz, hl1, h0 | ⟨g1, cap1, cur1, e1, _, hg1, hn1, _, hs1, ht1⟩⟩ := h
  · cases h0.1
  cases e1
  obtain ⟨hz2, hl2, h2 | ⟨g2, cap2, cur2, rfl, _, hg2, hn2, _, hs2, ht2⟩⟩ := hu
  · rw [h2.1] at e; simp [Value.ownBlock] at e
  simp only [Value.ownBlock, Option.some.injEq] at e
  subst e
  rw [hg1] at hg2
  simp only [Option.some.injEq, Obj.cells.injEq, and_true] at hg2
  subst hg2
  obtain rfl : cap2 = cap := by omega
  refine ⟨rfl, ?_⟩
  have h3 : (M.map b8) = (L.map b8).take M.length := by
    rw [← ht2, ← ht1, List.take_take, Nat.mul_one, Nat.mul_one, Nat.min_eq_left hl]
  rw [← List.map_take] at h3
  have hinj : ∀ (A B : List Nat), A.map b8 = B.map b8 → A = B := by
    intro A
    induction A with
    | nil => intro B hB; cases B with | nil => rfl | cons => simp at hB
    | cons a A ih =>
      intro B hB
      cases B with
      | nil => simp at hB
      | cons b B =>
        simp only [List.map_cons, List.cons.injEq] at hB
        have h4 : a = b := by have := hB.1; simp [b8] at this; omega
        rw [h4, ih B hB.2]
  exact hinj _ _ h3

/-- the law of append, and what other slices of the old row see: what they saw -/
theorem wpList_append_bytes_keep {w : World} {ops : Array Oper} {rest : List Oper} {o : Oper} {a : Act} {Q : Exit → Act → World → Prop} (hgd : o.guard = none) (s x : Operand)
    (ho : o.op = .call { callee := .builtin .append, args := #[s, x], argTypes := #[26, 26] }) (base : Nat) (v : Value) (L : List Nat) (hs : a.eval s = v) (hown : OwnB w base v L)
    (ad : Addr) (m c : Nat) (zs : List Nat) (hx : a.eval x = .slice (some ad) m c) (hm : m = zs.length) (hsrc : BytesAt w (some ad) zs) (hlen : L.length + zs.length ≤ 140737488355328) (hbase : base ≤ w.heap.size)
    (h : ∀ v' w', OwnB w' base v' (L ++ zs) → w.grownBy w' v.ownBlock → (v'.ownBlock = v.ownBlock ∨ v'.ownBlock = some w.heap.size) → (∀ u M, OwnB w base u M → u.ownBlock = v.ownBlock → M.length ≤ L.length → OwnB w' base u M) → wpList Try.prog ops Q rest (a.put o.dst v') w') : wpList Try.prog ops Q (o :: rest) a w := by
  obtain ⟨i0, hi, hz0, hz1, hz2⟩ := info_parts info8
  subst hm
  have hzz : ∀ z ∈ L ++ zs, z < 256 := by
    intro z hz
    rcases List.mem_append.1 hz with h1 | h1
    · exact hown.1 z h1
    · exact hsrc.1 z h1
  have hnews : ∀ j u, (zs.map b8)[j]? = some u → w.cell? (ad.add j) = some u := by
    intro j u hu
    by_cases h0 : zs = []
    · subst h0; simp at hu
    · obtain ⟨ad', e, hc⟩ := bytes_src hsrc h0
      cases e
      exact hc j u hu
  refine wpList_plain hgd fun K hK => ?_
  obtain ⟨v', w', hr, h2, h3, _, h5⟩ := run_append_own_at (P := Try.prog) w base 26 o.type 5 i0 (.int .u8 0) 1 1 Try.underlying26 hi hz0 hz1 hz2 rfl (by decide) v L.length (L.map b8) hown.2 ad zs.length c (zs.map b8) (by simp) hnews (oneCells zs) (by unfold maxLen; omega) (by omega) hbase
  have hown' : OwnB w' base v' (L ++ zs) := ⟨hzz, by rw [List.length_append, List.map_append]; exact h2⟩
  have hkeep : ∀ u M, OwnB w base u M → u.ownBlock = v.ownBlock → M.length ≤ L.length → OwnB w' base u M := by
    intro u M hu he hml
    rcases hown.shape with ⟨hv, _⟩ | ⟨g, cap, hv, hbg, hgl, hnc, hcm, _⟩
    · subst hv
      obtain ⟨hz, hl1, h0 | ⟨g1, cap1, cur1, e1, _⟩⟩ := hu
      · exact ⟨hz, hl1, .inl h0⟩
      · subst e1; simp [Value.ownBlock] at he
    · subst hv
      by_cases hroom : L.length + zs.length ≤ cap
      · obtain ⟨w2, hr2, h4, h6⟩ := run_append_own_spare (P := Try.prog) w base 26 o.type 5 i0 1 Try.underlying26 hi hz1 g L.length cap (L.map b8) hown.2 ad zs.length c (zs.map b8) (by simp) hnews (oneCells zs) hroom
        rw [hr] at hr2
        simp only [Result.ok.injEq] at hr2
        obtain ⟨rfl, rfl⟩ := hr2
        obtain ⟨e1, e2⟩ := OwnB.views hown hu he hml
        obtain ⟨_, hl3, h7 | ⟨g3, cap3, cur3, e3, hb3, hg3, hn3, hm3, hs3, ht3⟩⟩ := hown'
        · cases h7.1
        · simp only [Value.slice.injEq, Option.some.injEq, Addr.mk.injEq] at e3
          obtain ⟨⟨rfl, _⟩, _, rfl⟩ := e3
          refine ⟨hu.1, by simp, .inr ⟨g, cap, cur3, e1, hb3, hg3, by omega, hm3, hs3, ?_⟩⟩
          rw [Nat.mul_one] at ht3 ⊢
          have h8 : cur3.toList.take M.length = (cur3.toList.take (L ++ zs).length).take M.length := by rw [List.take_take, Nat.min_eq_left (by rw [List.length_append]; omega)]
          rw [h8, ht3, ← List.map_take, List.take_append_of_le_length hml, ← e2]
      · have hr2 := run_append_grow (P := Try.prog) w 26 o.type 5 i0 (.int .u8 0) Try.underlying26 hi hz0 ⟨g, 0, none⟩ L.length cap (L.map b8) (by simp [hz1]) (hown.2.cells (g := g) rfl) ad zs.length c (zs.map b8) (by simp [hz1]) hnews (by omega) (by unfold maxLen at hcm; omega) (growslice_fits (by omega) (by rw [hz2]; omega))
        rw [hr] at hr2
        simp only [Result.ok.injEq] at hr2
        obtain ⟨_, rfl⟩ := hr2
        have h9 : OwnB w.drew base u M := hu
        exact h9.alloc _
  unfold Oper.wp execOp
  simp only [ho, resolve, invoke, builtin, Sem.run_bind, Sem.run_pure, Result.andThen_ok, List.map_toArray, List.map_cons, List.map_nil, hs, hx, hr]
  exact hK _ _ (h v' w' hown' h3 h5 hkeep)

end Go.Proofs.Ythdlilekilkogaa
