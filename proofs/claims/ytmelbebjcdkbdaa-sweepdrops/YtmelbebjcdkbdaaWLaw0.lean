/-
  WHAT SweepDrops STANDS ON: copies with one element more.
-/
import Derived.Test.YtmelbebjcdkbdaaWDrops2
import Derived.Test.YtmelbebjcdkbdaaWApp
namespace Go.Proofs.Ytmelbebjcdkbdaa
open Go.RowKit Go.Sort

theorem wpL_appW {w : World} {ops : Array Oper} {rest : List Oper} {o : Oper} {a : Act} {Q : Exit → Act → World → Prop} (hgd : o.guard = none) (s x : Operand) (TS : TypeId)
    (ho : o.op = .call { callee := .builtin .append, args := #[s, x], argTypes := #[TS, TS] }) (v u : Value) (hs : a.eval s = v) (hx : a.eval x = u) {post : Value → World → Prop}
    (hr : ∀ ty, ∃ v' w', (Builtin.append_ #[TS, TS] ty #[v, u]).run Try.prog w = .ok v' w' ∧ post v' w') (h : ∀ v' w', post v' w' → wpList Try.prog ops Q rest (a.put o.dst v') w') : wpList Try.prog ops Q (o :: rest) a w := by
  obtain ⟨v', w', hr, h2⟩ := hr o.type
  refine wpList_plain hgd fun K hK' => ?_
  unfold Oper.wp
  simp [execOp, ho, resolve, invoke, builtin, hs, hx, hr, Result.andThen]
  exact hK' _ _ (h v' w' h2)
/-- a row of one's own, in a block from w's end on -/
def RowW (w w' : World) (TE : TypeId) (sz : Nat) (v : Value) (n : Nat) (ys : List Value) : Prop :=
  (∃ g c, v = .slice (some ⟨g, 0, none⟩) n c ∧ w.heap.size ≤ g ∧ g < w'.heap.size ∧ n ≤ c) ∧ w'.ownsRow w.heap.size TE sz v n ys ∧ Below w.heap.size w w'
theorem app1W {TS TE : TypeId} {sz bt : Nat} {z : Value} (hu : Try.prog.underlying TS = some (.slice TE)) (hinfo : (Try.prog.info? TE).map (fun i => (i.zero, i.size, i.bytes)) = some (some z, sz, bt)) (hzs : z.cells.size = sz) (hpos : 0 < sz) (w : World) (ao : Option Addr) (n c : Nat) (ys : List Value) (hl : ys.length = n * sz) (hsrc : WAt w ao ys) (h0 : ao = none → c = 0) (h1 : ∀ u ∈ ys, u.oneCell' = true) (hlen : n ≤ maxLen) (hb : n * bt ≤ 140737488355328) (ty : TypeId) :
    ∃ v' w', (Builtin.append_ #[TS, TS] ty #[.slice (some ⟨w.heap.size, 0, none⟩) 0 0, .slice ao n c]).run Try.prog (w.alloc (.cells #[] TE)) = .ok v' w' ∧ RowW w w' TE sz v' n ys := by
  have hb0 : Below w.heap.size w (w.alloc (.cells #[] TE)) := (Below.refl _ _).alloc (Nat.le_refl _) _
  have hown : (w.alloc (.cells #[] TE)).ownsRow w.heap.size TE sz (.slice (some ⟨w.heap.size, 0, none⟩) 0 0) 0 [] := ⟨by simp, .inr ⟨w.heap.size, 0, #[], rfl, Nat.le_refl _, heap_alloc_new _ _ rfl, Nat.le_refl _, Nat.zero_le _, by simp, by simp⟩⟩
  obtain ⟨v', w', hr, h2, h3, _, h5⟩ := app_at hu hinfo hzs hpos (w := w.alloc (.cells #[] TE)) ty w.heap.size _ 0 [] hown ao n c ys hl (hsrc.below hb0) h0 h1 (by omega) (by simpa using hb) hb0.size
  rw [Nat.zero_add, List.nil_append] at h2
  have hne : v' ≠ .slice none 0 0 := h5 (by simp)
  obtain ⟨g, c', e, hg, hgl, hn⟩ := own_openW h2 hne
  exact ⟨v', w', hr, ⟨g, c', e, hg, hgl, hn⟩, h2, hb0.trans (grown_belowW h3 (fun k e => by simp [Value.ownBlock] at e; omega) hb0.size)⟩
theorem app2W {TS TE : TypeId} {sz bt : Nat} {z : Value} (hu : Try.prog.underlying TS = some (.slice TE)) (hinfo : (Try.prog.info? TE).map (fun i => (i.zero, i.size, i.bytes)) = some (some z, sz, bt)) (hzs : z.cells.size = sz) (hpos : 0 < sz) (w w1 : World) (v : Value) (n : Nat) (ys zs : List Value) (h : RowW w w1 TE sz v n ys) (hz : zs.length = sz) (h1 : ∀ u ∈ zs, u.oneCell' = true) (hlen : n + 1 ≤ maxLen) (hb : (n + 1) * bt ≤ 140737488355328) (ty : TypeId) :
    ∃ v' w', (Builtin.append_ #[TS, TS] ty #[v, .slice (some ⟨w1.heap.size, 0, none⟩) 1 1]).run Try.prog (w1.alloc (.cells zs.toArray TE)) = .ok v' w' ∧ RowW w w' TE sz v' (n + 1) (ys ++ zs) := by
  obtain ⟨⟨g, c, e, hg, hgl, hn⟩, ho, hbl⟩ := h
  have hb0 : Below w1.heap.size w1 (w1.alloc (.cells zs.toArray TE)) := (Below.refl _ _).alloc (Nat.le_refl _) _
  have hsrc : WAt (w1.alloc (.cells zs.toArray TE)) (some ⟨w1.heap.size, 0, none⟩) zs := fun j u hu => by
    refine ⟨w1.heap.size, 0, rfl, ?_⟩
    rw [World.cell?, heap_alloc_new _ _ rfl, Nat.zero_add]
    simpa using hu
  obtain ⟨v', w', hr, h2, h3, _, h5⟩ := app_at hu hinfo hzs hpos (w := w1.alloc (.cells zs.toArray TE)) ty w.heap.size v n ys (World.ownsRow.alloc ho _) (some ⟨w1.heap.size, 0, none⟩) 1 1 zs (by omega) hsrc (by simp) h1 hlen hb (Nat.le_trans hbl.size hb0.size)
  have hne : v' ≠ .slice none 0 0 := h5 (by rw [e]; simp)
  obtain ⟨g', c', e', hg', hgl', hn'⟩ := own_openW h2 hne
  exact ⟨v', w', hr, ⟨g', c', e', hg', hgl', hn'⟩, h2, (hbl.trans (hb0.mono hbl.size)).trans (grown_belowW h3 (fun k e1 => by rw [e] at e1; simp [Value.ownBlock] at e1; omega) (Nat.le_trans hbl.size hb0.size))⟩
theorem RowW.at_ {w w' : World} {TE : TypeId} {sz n : Nat} {g c : Nat} {ys : List Value} (h : RowW w w' TE sz (.slice (some ⟨g, 0, none⟩) n c) n ys) : WAt w' (some ⟨g, 0, none⟩) ys := own_atW h.2.1
theorem WAt.take {w : World} {ao : Option Addr} {xs ys : List Value} (h : WAt w ao (xs ++ ys)) : WAt w ao xs := fun j u hu => h j u (by
  rw [List.getElem?_append_left (List.getElem?_eq_some_iff.1 hu).1]; exact hu)
theorem WAt.last {w : World} {ao : Option Addr} {xs ys : List Value} (h : WAt w ao (xs ++ ys)) {j : Nat} {u : Value} (hu : ys[j]? = some u) : ∃ b off, ao = some ⟨b, off, none⟩ ∧ w.cell? ⟨b, off + (xs.length + j), none⟩ = some u := h (xs.length + j) u (by
  rw [List.getElem?_append_right (by omega)]; simpa using hu)
end Go.Proofs.Ytmelbebjcdkbdaa
