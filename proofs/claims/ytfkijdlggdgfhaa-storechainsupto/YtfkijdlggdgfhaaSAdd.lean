/-
  add: A VERSION BEHIND ALL OTHERS OF ITS CHAIN.
-/
import Derived.Test.YtfkijdlggdgfhaaSRow
namespace Go.Proofs.Ytfkijdlggdgfhaa
open Go.RowKit Go.Sort

theorem wpL_app {w : World} {ops : Array Oper} {rest : List Oper} {o : Oper} {a : Act} {Q : Exit → Act → World → Prop} (hgd : o.guard = none) (s x : Operand) (TS : TypeId)
    (ho : o.op = .call { callee := .builtin .append, args := #[s, x], argTypes := #[TS, TS] }) (v u : Value) (hs : a.eval s = v) (hx : a.eval x = u) {post : Value → World → Prop}
    (hr : ∀ ty, ∃ v' w', (Builtin.append_ #[TS, TS] ty #[v, u]).run Try.prog w = .ok v' w' ∧ post v' w') (h : ∀ v' w', post v' w' → wpList Try.prog ops Q rest (a.put o.dst v') w') : wpList Try.prog ops Q (o :: rest) a w := by
  obtain ⟨v', w', hr, h2⟩ := hr o.type
  refine wpList_plain hgd fun K hK' => ?_
  unfold Oper.wp
  simp [execOp, ho, resolve, invoke, builtin, hs, hx, hr, Result.andThen]
  exact hK' _ _ (h v' w' h2)
/-- what add leaves -/
structure Add (w w' : World) (c b : Nat) (ao : Option Addr) (xs : List Nat) (g off cc : Nat) : Prop where
  bx : w'.heap[c]? = some (.cells #[.slice (some ⟨g, off, none⟩) (xs.length + 1) cc] 100 (0, 0))
  rw : RwV w' g off cc (xs ++ [b])
  fr : Fr (fun k => k = c ∨ ao.map Addr.block = some k) w w'
  wh : ao.map Addr.block = some g ∨ w.heap.size ≤ g
set_option maxRecDepth 100000 in
set_option maxHeartbeats 1000000 in
theorem add_any (w : World) (c b : Nat) (ao : Option Addr) (n cc : Nat) (xs : List Nat) (hn : n = xs.length) (hc : w.heap[c]? = some (.cells #[.slice ao n cc] 100 (0, 0))) (hv : (ao = none ∧ cc = 0 ∧ xs = []) ∨ ∃ g off, ao = some ⟨g, off, none⟩ ∧ RwV w g off cc xs) (hm : n + 1 ≤ 1000000000) :
    Calls Try.prog 37 #[ptr c, ptr b] w fun e w' => e = .returned (.tuple #[]) ∧ ∃ g off cc', Add w w' c b ao xs g off cc' := by
  subst hn
  have hcl := blk_lt hc
  have HA : Hid (Below w.heap.size w (w.alloc (.cells #[ptr b] 83))) := (Below.refl _ _).alloc (Nat.le_refl _) _
  have c0 : w.cell? ⟨c, 0, none⟩ = some (.slice ao xs.length cc) := by rw [World.cell?, hc]; rfl
  have HAp : Hid (∀ ty, ∃ v' w', (Builtin.append_ #[98, 98] ty #[.slice ao xs.length cc, .slice (some ⟨w.heap.size, 0, none⟩) 1 1]).run Try.prog (w.alloc (.cells #[ptr b] 83)) = .ok v' w' ∧
      ∃ g off cc', v' = .slice (some ⟨g, off, none⟩) (xs.length + 1) cc' ∧ RwV w' g off cc' (xs ++ [b]) ∧ w'.cell? ⟨c, 0, none⟩ = some (.slice ao xs.length cc) ∧ w'.frozen? ⟨c, 0, none⟩ = false ∧ w'.heap[c]? = some (.cells #[.slice ao xs.length cc] 100 (0, 0)) ∧ Fr (fun k => k = c ∨ ao.map Addr.block = some k) w w' ∧ (ao.map Addr.block = some g ∨ w.heap.size ≤ g)) := fun ty => by
    have hgc : ∀ {g off}, ao = some ⟨g, off, none⟩ → RwV w g off cc xs → g ≠ c ∧ g < w.heap.size := fun {g off} _ hr => by
      obtain ⟨⟨cur, h1, _⟩, _⟩ := hr
      refine ⟨fun e => ?_, blk_lt h1⟩
      rw [e, hc] at h1
      cases h1
    obtain ⟨g, off, cc', w', hr, hrw, hw⟩ := append_P (w.alloc (.cells #[ptr b] 83)) ty (.slice ao xs.length cc) xs b w.heap.size (by
      rcases hv with ⟨rfl, rfl, rfl⟩ | ⟨g, off, rfl, hr⟩
      · exact .inl ⟨rfl, rfl⟩
      · exact .inr ⟨g, off, cc, rfl, hr.same (HA.out.block g (hgc rfl hr).2)⟩) (by simp) (by omega)
    have hfr : ∀ k, k < w.heap.size → ¬ ao.map Addr.block = some k → w'.heap[k]? = w.heap[k]? := fun k hk hne => by
      rcases hw with ⟨⟨n', c', e⟩, hg⟩ | ⟨_, hg⟩
      · simp only [Value.slice.injEq] at e
        obtain ⟨rfl, _⟩ := e
        exact (hg.block k (by simp; omega) (fun e => hne (by simpa using e.symm))).trans (HA.out.block k hk)
      · exact (hg.block k (by simp; omega) (by simp)).trans (HA.out.block k hk)
    have hcne : ¬ ao.map Addr.block = some c := fun e => by
      rcases hv with ⟨rfl, _⟩ | ⟨g0, off0, rfl, hr0⟩
      · cases e
      · exact (hgc rfl hr0).1 (by simpa using e)
    have hc' : w'.heap[c]? = some (.cells #[.slice ao xs.length cc] 100 (0, 0)) := (hfr c hcl hcne).trans hc
    refine ⟨_, w', hr, g, off, cc', rfl, hrw, by rw [World.cell?, hc']; rfl, frozen_of_row _ _ _ _ _ hc', hc', ?_, ?_⟩
    · have hg' : ∃ r, (w.alloc (.cells #[ptr b] 83)).grownBy w' r := by
        rcases hw with ⟨_, hg⟩ | ⟨_, hg⟩
        · exact ⟨_, hg⟩
        · exact ⟨_, hg⟩
      obtain ⟨r, hg⟩ := hg'
      have hz := hg.size
      simp at hz
      exact ⟨hg.os, hg.tape, hg.output, by omega, fun k hk hS => hfr k hk (fun e => hS (.inr e))⟩
    · rcases hw with ⟨⟨n', c', e⟩, _⟩ | ⟨e, _⟩
      · simp only [Value.slice.injEq] at e
        obtain ⟨rfl, _⟩ := e
        exact .inl rfl
      · right; rw [e]; simp
  clear hv hc
  go_enter Try.func37, Try.ntmps37
  go_wp2_with (
    at_builtin
    refine wpL_app rfl _ _ 98 rfl (.slice ao xs.length cc) _ rfl rfl HAp.out ?_
    rintro v1 w1 ⟨g, off, cc', rfl, hrw, x1, x2, hx, hfr, hwh⟩
    have HX : Hid (RwV w1 g off cc' (xs ++ [b]) ∧ w1.heap[c]? = some (.cells #[.slice ao xs.length cc] 100 (0, 0)) ∧ Fr (fun k => k = c ∨ ao.map Addr.block = some k) w w1 ∧ (ao.map Addr.block = some g ∨ w.heap.size ≤ g)) := ⟨hrw, hx, hfr, hwh⟩
    clear hrw hx hfr hwh HAp)
  go_end0
  obtain ⟨h1, h2, h3, h4⟩ := HX.out
  refine ⟨rfl, g, off, cc', ?_, h1.same (blk_oth _ rfl (fun e => ?_)), h3.set _ _ (.inr (.inl rfl)), h4⟩
  · rw [blk_set _ h2]; rfl
  · obtain ⟨⟨cur, k1, _⟩, _⟩ := h1
    rw [e, h2] at k1
    cases k1
end Go.Proofs.Ytfkijdlggdgfhaa
