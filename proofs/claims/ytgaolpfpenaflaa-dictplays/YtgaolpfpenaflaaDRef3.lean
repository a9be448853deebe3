/-
  THE DOCUMENT's Dict: Each, Take.
-/
import Derived.Test.YtgaolpfpenaflaaDRef2
namespace Go.Proofs.Ytgaolpfpenaflaa
open Go.RowKit Go.Sort

def fl (p : Int) (es : List En) : List En := es.filter (fun e => decide ((e.p : Int) = p))
theorem fl_snoc (p : Int) (es : List En) (e : En) : fl p (es ++ [e]) = if (e.p : Int) = p then fl p es ++ [e] else fl p es := by
  unfold fl
  rw [List.filter_append]
  by_cases h : (e.p : Int) = p
  · rw [if_pos h]; simp [h]
  · rw [if_neg h]; simp [h]
theorem fl_pt {P : Nat} {p : Int} {es : List En} (h : ∀ e ∈ es, e.p < P) : fl p es = ptI P p es := by
  unfold fl ptI
  split
  · rename_i hp
    unfold pt
    apply List.filter_congr
    intro e _
    rw [Bool.eq_iff_iff, decide_eq_true_eq, beq_iff_eq]
    omega
  · rename_i hp
    rw [List.filter_eq_nil_iff]
    intro e he
    have := h e he
    simp
    omega
theorem own_sl {w : World} {base : Nat} {v : Value} {l : List En} (h : OwnQ w base v l) : ∃ a c, v = .slice a l.length c := by
  obtain ⟨a, c, e, _⟩ := h.slice
  exact ⟨a, c, e⟩

set_option maxRecDepth 100000 in
set_option maxHeartbeats 1000000 in
theorem reach_any (w : World) (base R P : Nat) (v : Value) (es : List En) (p : Int) (h : RA w base R P v es) (hm : es.length ≤ 4000000000000) :
    Calls Try.prog 14 #[ptr R, .int .i64 p] w fun e w' => ∃ v', e = .returned v' ∧ OwnQ w' w.heap.size v' (fl p es) ∧ Below w.heap.size w w' := by
  have HR : Hid (RA w base R P v es) := h
  clear h
  obtain ⟨n, hn⟩ : ∃ n, n = es.length := ⟨_, rfl⟩
  rw [← hn] at hm
  have HN : Hid (n = es.length) := hn
  clear hn
  obtain ⟨ao, cap, hv, hpr, _, _⟩ := HR.out.row.slice
  have HC : Hid (∀ W, Below w.heap.size w W → W.cell? ⟨R, 1, none⟩ = some (.slice ao n cap)) := fun W hW => by
    have := (HR.out.kept hW).cells.2
    rw [hv, ← HN.out] at this
    exact this
  have HP : Hid (∀ W, Below w.heap.size w W → PrAt W ao es) := fun W hW => hpr.kept hW
  clear hv hpr
  go_enter Try.func14, Try.ntmps14
  go_wp2
  go_loopw [5, 6] (fun l i wr => ∃ (j : Nat) (a : Option Addr) (m c : Nat), j ≤ n ∧ l = .slice a m c ∧ i = .int .i64 (j : Int) ∧ Hid (OwnQ wr w.heap.size (.slice a m c) (fl p (es.take j))) ∧ Hid (Below w.heap.size w wr)) (fun _ i _ => n - (intOf i).toNat)
  case atStart => exact ⟨0, none, 0, 0, Nat.zero_le _, rfl, rfl, OwnQ.nil _ _, Below.refl _ _⟩
  case round =>
    obtain ⟨j, a, m, c, hj, rfl, rfl, HO, HW⟩ := hrel
    have c1 := HC.out wr HW.out
    by_cases hlt : j < n
    · have hjl : j < es.length := by have := HN.out; omega
      obtain ⟨b, off, hao, hc⟩ : ∃ b off, ao = some ⟨b, off, none⟩ ∧ ∀ j u, (cpq es)[j]? = some u → wr.cell? ⟨b, off + j, none⟩ = some u := by
        rcases HP.out wr HW.out with h0 | h0
        · rw [h0] at hjl; simp at hjl
        · exact h0
      obtain ⟨y0, y1, y2, y3⟩ := PrAt.cells hc j hjl
      subst hao
      have HT : Hid (es.take (j + 1) = es.take j ++ [es[j]]) := List.take_succ_eq_append_getElem hjl
      have HFl : Hid ((fl p (es.take j)).length ≤ 4000000000000) := by
        have h1 : (fl p (es.take j)).length ≤ (es.take j).length := List.length_filter_le _ _
        rw [List.length_take] at h1
        rw [Hid]; omega
      generalize es[j] = x at *
      clear hc
      by_cases hz : (x.p : Int) = p
      · have HOn : Hid (∀ W, OwnQ W w.heap.size (.slice a m c) (fl p (es.take j)) → True) := fun _ _ => trivial
        have hs1 := HW.out.size
        have HBa : Hid (Below w.heap.size w (wr.alloc (.cells #[.int .i64 x.k.1, .int .i64 x.k.2, .int .i64 x.v, .int .i64 (x.p : Int)] TQ))) := HW.out.alloc hs1 _
        clear HOn
        subst hz
        go_wp2_with (at_builtin; refine wpList_append_q rfl _ _ rfl w.heap.size (.slice a m c) (fl (x.p : Int) (es.take j)) rfl (HO.out.alloc _) (some ⟨wr.heap.size, 0, none⟩) 1 1 [x] rfl rfl (pr_src wr _ _ _ _ x rfl rfl rfl rfl) (by simp) (by have := HFl.out; simp; omega) (by simp only [World.size_alloc]; omega) ?_; intro v5 w5 ho5 hg5 _; have HO5 : Hid (OwnQ w5 w.heap.size v5 (fl (x.p : Int) (es.take (j + 1)))) := (by rw [Hid, HT.out, fl_snoc, if_pos rfl]; exact ho5); have HB5 : Hid (Below w.heap.size w w5) := HBa.out.trans (grown_below hg5 (fun q hq => (HO.out.lt q hq).1) HBa.out.size); obtain ⟨a5, n5, cp5, e5⟩ : ∃ a n c, v5 = .slice a n c := (by obtain ⟨a, c, e, _⟩ := ho5.slice; exact ⟨a, _, c, e⟩); subst e5; clear ho5 hg5)
        go_wp2
        go_roundw
        case rel => exact ⟨j + 1, a5, n5, cp5, by omega, rfl, by go_num, HO5, HB5⟩
        case measure => simp [intOf]; omega
      · have HO5 : Hid (OwnQ wr w.heap.size (.slice a m c) (fl p (es.take (j + 1)))) := by rw [Hid, HT.out, fl_snoc, if_neg hz]; exact HO.out
        have hzb : ((x.p : Int) == p) = false := by simp [hz]
        go_wp2
        go_roundw
        case rel => exact ⟨j + 1, a, m, c, by omega, rfl, by go_num, HO5, HW⟩
        case measure => simp [intOf]; omega
    · obtain rfl : j = n := by omega
      have HOf : Hid (OwnQ wr w.heap.size (.slice a m c) (fl p es)) := by
        have := HO.out
        rw [List.take_of_length_le (by have := HN.out; omega)] at this
        exact this
      go_wp2
      go_ret
      exact ⟨_, rfl, HOf.out, HW.out⟩
end Go.Proofs.Ytgaolpfpenaflaa
