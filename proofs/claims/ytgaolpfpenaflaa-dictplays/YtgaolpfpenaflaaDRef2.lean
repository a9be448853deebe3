/-
  THE DOCUMENT's Dict: Put.
-/
import Derived.Test.YtgaolpfpenaflaaDRef
import Derived.Laws.OwnMore
namespace Go.Proofs.Ytgaolpfpenaflaa
open Go.RowKit Go.Sort

theorem RA.apt {w : World} {base R P : Nat} {v : Value} {es : List En} (h : RA w base R P v es) : v.ownBlock ≠ some R := by
  intro e
  rcases h.row.2 with ⟨rfl, _⟩ | ⟨g, cap, cur, rfl, _, hg, _⟩
  · cases e
  · cases e
    have := h.blk
    rw [hg] at this
    cases this
/-- where the row lies then -/
def Bw (w : World) (v v' : Value) : Prop := ∀ k, v'.ownBlock = some k → v.ownBlock = some k ∨ w.heap.size ≤ k
theorem Bw.mono {w w' : World} {v v' : Value} (h : Bw w' v v') (hs : w.heap.size ≤ w'.heap.size) : Bw w v v' := fun k hk => (h k hk).imp id (Nat.le_trans hs)
/-- a row that has grown, stored into R -/
theorem RA.stored {w w' : World} {base R P : Nat} {v v' : Value} {es es' : List En} (h : RA w base R P v es) (ho : OwnQ w' base v' es') (hg : w.grownBy w' v.ownBlock) (hb : v'.ownBlock = v.ownBlock ∨ v'.ownBlock = none ∨ ∃ k, v'.ownBlock = some k ∧ w.heap.size ≤ k) :
    w'.cell? ⟨R, 1, none⟩ = some v ∧ w'.frozen? ⟨R, 1, none⟩ = false ∧ Hid (RA (w'.setCell ⟨R, 1, none⟩ v') base R P v' es' ∧ Fr (fun k => k = R ∨ v.ownBlock = some k) w (w'.setCell ⟨R, 1, none⟩ v') ∧ Bw w v v') := by
  have hR := blk_lt h.blk
  have hblk : w'.heap[R]? = some (.cells #[.int .i64 (P : Int), v] TR (0, 0)) := (hg.block R hR (fun e => h.apt e.symm)).trans h.blk
  have hne : v'.ownBlock ≠ some R := by
    intro e
    rcases hb with hb | hb | ⟨k, hb, hk⟩
    · exact h.apt (hb.symm.trans e)
    · rw [hb] at e; cases e
    · rw [hb] at e; cases e; omega
  refine ⟨blk_cell hblk rfl, frozen_of_row _ _ _ _ _ hblk, ⟨by rw [blk_set _ hblk]; rfl, ho.same (fun g hg' => heap_setCell_other w' ⟨R, 1, none⟩ g v' (fun e => hne (by rw [hg', e]))), h.P0⟩, ⟨hg.os, hg.tape, hg.output, by simpa using hg.size, fun k hk hS => ?_⟩, fun k hk => by
    rcases hb with hb | hb | ⟨k', hb, hk'⟩
    · exact .inl (hb.symm.trans hk)
    · rw [hb] at hk; cases hk
    · rw [hb] at hk; cases hk; exact .inr hk'⟩
  exact (heap_setCell_other w' ⟨R, 1, none⟩ k v' (fun e => hS (.inl e))).trans (hg.block k hk (fun e => hS (.inr e.symm)))
theorem cpq_set : ∀ (es : List En) (j : Nat) (x : Int) (h : j < es.length), cpq (es.set j { es[j] with v := x }) = (cpq es).set (j * 4 + 2) (.int .i64 x)
  | [], j, x, h => by simp at h
  | e :: es, 0, x, h => by simp [cpq]
  | e :: es, j + 1, x, h => by
    have := cpq_set es j x (by simp at h; omega)
    simp only [List.set_cons_succ, List.getElem_cons_succ, cpq, this]
    rw [show (j + 1) * 4 = j * 4 + 2 + 1 + 1 by omega]
    simp
theorem map_ud {es : List En} {k : K} {x : Int} (hn : (es.map En.k).Nodup) {j : Nat} (hj : j < es.length) (hk : es[j].k = k) : es.map (ud k x) = es.set j { es[j] with v := x } := by
  apply List.ext_getElem
  · simp
  · intro i h1 h2
    simp only [List.getElem_map, List.getElem_set]
    split
    · rename_i e; subst e
      unfold ud; rw [if_pos hk]
    · rename_i hne
      unfold ud
      rw [if_neg]
      intro hk2
      have hi : i < es.length := by simpa using h1
      have hpw := List.pairwise_iff_getElem.1 hn
      rcases Nat.lt_or_gt_of_ne hne with hlt | hlt
      · exact hpw j i (by simpa using hj) (by simpa using hi) hlt (by simp [hk2, hk])
      · exact hpw i j (by simpa using hi) (by simpa using hj) hlt (by simp [hk2, hk])

set_option maxRecDepth 100000 in
set_option maxHeartbeats 1000000 in
theorem rput_old (w : World) (base R P : Nat) (v : Value) (es : List En) (k : K) (x : Int) (hh : Nat) (h : RA w base R P v es) (hm : es.length ≤ 4000000000000) (hn : (es.map En.k).Nodup) (e0 : En) (hc : fd es k = some e0) :
    Calls Try.prog 30 #[ptr R, kv k, .int .i64 x, .int .u64 (hh : Int)] w fun e w' => e = .returned (.tuple #[.int .i64 e0.v, .bool true]) ∧ RA w' base R P v (es.map (ud k x)) ∧ Fr (fun k => k = R ∨ v.ownBlock = some k) w w' := by
  obtain ⟨k1, k2⟩ := k
  have HB1 : Hid (Below w.heap.size w (w.alloc (.cells #[.int .i64 k1, .int .i64 k2] 28))) := (Below.refl _ _).alloc (Nat.le_refl _) _
  have HR : Hid (RA (w.alloc (.cells #[.int .i64 k1, .int .i64 k2] 28)) base R P v es) := h.kept HB1.out
  clear h
  go_enter Try.func30, Try.ntmps30
  go_wp2_with fail
  generalize w.alloc (.cells #[.int .i64 k1, .int .i64 k2] 28) = W1 at *
  refine (at_any W1 base R P v es (k1, k2) HR.out hm).mono ?_
  rintro e w2 ⟨rfl, hb2⟩
  have HB2 : Hid (Below w.heap.size w w2) := HB1.out.trans (hb2.mono HB1.out.size)
  have HR2 : Hid (RA w2 base R P v es) := HR.out.kept hb2
  clear hb2
  obtain ⟨j, hj, hi, he⟩ := ix_fd_some hc
  rw [hi]
  have hk := (fd_some hc).2
  obtain ⟨_, c1⟩ := HR2.out.cells
  rcases HR2.out.row.shape with ⟨_, h0⟩ | ⟨g, cap, rfl, hbg, hgl, hcap, hmx, hpr⟩
  · rw [h0] at hj; simp at hj
  obtain ⟨b, off, hao, hcc⟩ : ∃ b off, some (⟨g, 0, none⟩ : Addr) = some ⟨b, off, none⟩ ∧ ∀ j u, (cpq es)[j]? = some u → w2.cell? ⟨b, off + j, none⟩ = some u := by
    rcases hpr with h0 | h0
    · rw [h0] at hj; simp at hj
    · exact h0
  cases hao
  obtain ⟨_, _, y2, _⟩ := PrAt.cells hcc j hj
  rw [he] at y2
  simp only [Nat.zero_add] at y2
  have hst := HR2.out.row.stored (j * 4 + 2) (.int .i64 x)
  have fg : w2.frozen? ⟨g, j * 4 + 2, none⟩ = false := by
    rcases HR2.out.row.2 with ⟨h0, _⟩ | ⟨g', cap', cur, e', _, hg', _⟩
    · cases h0
    · cases e'; exact frozen_of_row _ _ _ _ _ hg'
  have HF : Hid (RA (w2.setCell ⟨g, j * 4 + 2, none⟩ (.int .i64 x)) base R P (.slice (some ⟨g, 0, none⟩) es.length cap) (es.map (ud (k1, k2) x)) ∧ Fr (fun k => k = R ∨ (Value.slice (some ⟨g, 0, none⟩) es.length cap).ownBlock = some k) w (w2.setCell ⟨g, j * 4 + 2, none⟩ (.int .i64 x))) := by
    refine ⟨⟨?_, ?_, HR2.out.P0⟩, (Fr.ofBelow HB2.out).set _ _ (.inr (.inr rfl))⟩
    · exact blk_oth _ HR2.out.blk (fun e' => HR2.out.apt (by rw [e']; rfl))
    · unfold OwnQ
      rw [map_ud hn hj (by rw [he]; exact hk), cpq_set es j x hj, List.length_set]
      exact hst.1
  clear hst hcc hpr HR HR2
  go_wp2
  go_ret2
  exact ⟨rfl, HF.out.1, HF.out.2⟩

set_option maxRecDepth 100000 in
set_option maxHeartbeats 1000000 in
theorem rput_new (w : World) (base R P : Nat) (v : Value) (es : List En) (k : K) (x : Int) (hh b : Nat) (h : RA w base R P v es) (hbs : base ≤ w.heap.size) (hm : es.length ≤ 4000000000000) (h64 : hh < 18446744073709551616) (hc : fd es k = none) :
    Calls Try.prog 30 #[ptr R, kv k, .int .i64 x, .int .u64 (hh : Int)] w fun e w' => e = .returned (.tuple #[.int .i64 0, .bool false]) ∧ ∃ v', RA w' base R P v' (es ++ [⟨b, k, x, hh % P⟩]) ∧ Fr (fun k => k = R ∨ v.ownBlock = some k) w w' ∧ Bw w v v' := by
  obtain ⟨k1, k2⟩ := k
  have HB1 : Hid (Below w.heap.size w (w.alloc (.cells #[.int .i64 k1, .int .i64 k2] 28))) := (Below.refl _ _).alloc (Nat.le_refl _) _
  have HR : Hid (RA (w.alloc (.cells #[.int .i64 k1, .int .i64 k2] 28)) base R P v es) := h.kept HB1.out
  have HX1 : Hid ((w.alloc (.cells #[.int .i64 k1, .int .i64 k2] 28)).heap[w.heap.size]? = some (.cells #[.int .i64 k1, .int .i64 k2] 28 (0, 0))) := heap_alloc_new _ _ rfl
  have hP := h.P0
  clear h
  go_enter Try.func30, Try.ntmps30
  go_wp2_with fail
  generalize w.alloc (.cells #[.int .i64 k1, .int .i64 k2] 28) = W1 at *
  refine (at_any W1 base R P v es (k1, k2) HR.out hm).mono ?_
  rintro e w2 ⟨rfl, hb2⟩
  have HB2 : Hid (Below w.heap.size w w2) := HB1.out.trans (hb2.mono HB1.out.size)
  have HX2 : Hid (w2.heap[w.heap.size]? = some (.cells #[.int .i64 k1, .int .i64 k2] 28 (0, 0))) := (hb2.block _ (blk_lt HX1.out)).trans HX1.out
  have HR2 : Hid (RA w2 base R P v es) := HR.out.kept hb2
  clear hb2 HR HX1
  rw [ix_fd_none hc]
  have HDv : Hid (((hh : Nat) : Int) % (P : Int) = ((hh % P : Nat) : Int)) := by rw [Hid]; simp
  have hmd : (hh : Int) % (P : Int) < 256 := by have := Int.emod_lt_of_pos (hh : Int) (show (0 : Int) < P by omega); omega
  have hmd0 : 0 ≤ (hh : Int) % (P : Int) := Int.emod_nonneg _ (by omega)
  have hw1 : IntKind.u64.wrap (P : Int) = (P : Int) := by rw [IntKind.wrap_u64]; omega
  have hw2 : (hh : Int).tmod (P : Int) = (hh : Int) % (P : Int) := Int.tmod_eq_emod_of_nonneg (by omega)
  have hw3 : wrap64 ((hh : Int) % (P : Int)) = (hh : Int) % (P : Int) := by unfold wrap64; omega
  have hw6 : IntKind.i64.wrap ((hh : Int) % (P : Int)) = (hh : Int) % (P : Int) := by first | exact hw3 | (rw [IntKind.wrap_i64]; omega)
  have hw4 : ¬ (P : Int) = 0 := by omega
  have hw5 : ¬ P = 0 := by omega
  obtain ⟨c0, c1⟩ := HR2.out.cells
  have b0 : w2.cell? ⟨w.heap.size, 0, none⟩ = some (.int .i64 k1) := by rw [World.cell?, HX2.out]; rfl
  have b1 : w2.cell? ⟨w.heap.size, 1, none⟩ = some (.int .i64 k2) := by rw [World.cell?, HX2.out]; rfl
  have hb2s : base ≤ w2.heap.size := Nat.le_trans hbs HB2.out.size
  have HRA : Hid (RA (w2.alloc (.cells #[.int .i64 k1, .int .i64 k2, .int .i64 x, .int .i64 ((hh : Int) % (P : Int))] TQ)).drew base R P v es) := (HR2.out.kept ((Below.refl _ w2).alloc (Nat.le_refl _) (.cells #[.int .i64 k1, .int .i64 k2, .int .i64 x, .int .i64 ((hh : Int) % (P : Int))] TQ))).same (fun _ _ => rfl)
  have HSr : Hid (PrAt (w2.alloc (.cells #[.int .i64 k1, .int .i64 k2, .int .i64 x, .int .i64 ((hh : Int) % (P : Int))] TQ)).drew (some ⟨w2.heap.size, 0, none⟩) [⟨b, (k1, k2), x, hh % P⟩]) := pr_src w2 k1 k2 x _ ⟨b, (k1, k2), x, hh % P⟩ rfl rfl rfl HDv.out.symm
  have c1A : (w2.alloc (.cells #[.int .i64 k1, .int .i64 k2, .int .i64 x, .int .i64 ((hh : Int) % (P : Int))] TQ)).cell? ⟨R, 1, none⟩ = some v := HRA.out.cells.2
  have c0A : (w2.alloc (.cells #[.int .i64 k1, .int .i64 k2, .int .i64 x, .int .i64 ((hh : Int) % (P : Int))] TQ)).cell? ⟨R, 0, none⟩ = some (.int .i64 (P : Int)) := HRA.out.cells.1
  have HFa : Hid (Fr (fun k => k = R ∨ v.ownBlock = some k) w (w2.alloc (.cells #[.int .i64 k1, .int .i64 k2, .int .i64 x, .int .i64 ((hh : Int) % (P : Int))] TQ)).drew) := Fr.ofBelow ⟨HB2.out.os, HB2.out.tape, HB2.out.output, by have := HB2.out.size; show _ ≤ (w2.alloc _).heap.size; simp; omega, fun k hk => (heap_alloc_old _ _ (Nat.lt_of_lt_of_le hk HB2.out.size)).trans (HB2.out.block k hk)⟩
  go_wp2_with fail
  go_region_law (first | (refine step_append_q rfl _ _ rfl base v es rfl HRA.out.row (some ⟨w2.heap.size, 0, none⟩) 1 1 [⟨b, (k1, k2), x, hh % P⟩] rfl rfl HSr.out (by simp) (by simp; omega) (by show base ≤ (w2.alloc _).heap.size; simp; omega) ?_; intro v5 w5 ho5 hg5 hat5; obtain ⟨a5, n5, cp5, e5⟩ : ∃ a n c, v5 = .slice a n c := (by obtain ⟨a, c, e, _⟩ := ho5.slice; exact ⟨a, _, c, e⟩); subst e5; obtain ⟨y1, y2, HF5⟩ := HRA.out.stored ho5 hg5 (hat5.elim .inl (fun h => .inr (.inr ⟨_, h, Nat.le_refl _⟩)))))
  all_goals (
    go_wp2
    go_ret2
    exact ⟨rfl, _, HF5.out.1, HFa.out.trans HF5.out.2.1 (fun _ _ h => h), HF5.out.2.2.mono HFa.out.size⟩)
end Go.Proofs.Ytgaolpfpenaflaa
