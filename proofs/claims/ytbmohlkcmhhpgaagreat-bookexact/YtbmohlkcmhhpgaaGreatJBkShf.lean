import Derived.Test.YtbmohlkcmhhpgaaGreatJBkDColl
import Derived.Test.YtbmohlkcmhhpgaaGreatJBkVers
import Derived.Deep.DeepAppendRoom
import Derived.Laws.Append
/-
  A SHELF OF LISTS THAT WERE HANDED OUT: IN MEMORY.
-/
namespace Go.Proofs.YtbmohlkcmhhpgaaGreat
open Go.RowKit Go.Sort

def tqS (t : Nat) : TypeId := if t = 0 then 51 else if t = 1 then 78 else 22
def teS (t : Nat) : TypeId := if t = 0 then 43 else if t = 1 then 99 else 92
theorem teS_inj {t u : Nat} (ht : t < 3) (hu : u < 3) (h : teS t = teS u) : t = u := by
  have h1 : t = 0 ∨ t = 1 ∨ t = 2 := by omega
  have h2 : u = 0 ∨ u = 1 ∨ u = 2 := by omega
  rcases h1 with rfl | rfl | rfl <;> rcases h2 with rfl | rfl | rfl <;> first | rfl | (exfalso; revert h; decide)
theorem tq_ne {t u : Nat} (ht : t < 3) (hu : u < 3) : tqS t ≠ teS u ∧ tqS t ≠ 83 ∧ teS u ≠ 83 := by
  have h1 : t = 0 ∨ t = 1 ∨ t = 2 := by omega
  have h2 : u = 0 ∨ u = 1 ∨ u = 2 := by omega
  rcases h1 with rfl | rfl | rfl <;> rcases h2 with rfl | rfl | rfl <;> decide
structure SHF (W : World) (n0 Sb : Nat) (vs : Nat → Value) (ls : Nat → List (Value × List K)) : Prop where
  sb : W.heap[Sb]? = some (.cells #[vs 0, vs 1, vs 2] 83 (0, 0))
  row : ∀ t, t < 3 → W.ownsRow n0 (tqS t) 1 (vs t) (ls t).length ((ls t).map Prod.fst)
  el : ∀ t, t < 3 → ∀ e ∈ ls t, W.ownsRow n0 (teS t) 2 e.1 e.2.length (cks e.2)
  ap : ∀ t, t < 3 → ((ls t).map Prod.fst).Pairwise (fun a b => ∀ g, a.ownBlock = some g → b.ownBlock ≠ some g)
section
variable {W W' : World} {n0 Sb : Nat} {vs : Nat → Value} {ls : Nat → List (Value × List K)}
theorem SHF.cells (h : SHF W n0 Sb vs ls) : W.cell? ⟨Sb, 0, none⟩ = some (vs 0) ∧ W.cell? ⟨Sb, 1, none⟩ = some (vs 1) ∧ W.cell? ⟨Sb, 2, none⟩ = some (vs 2) := by
  refine ⟨?_, ?_, ?_⟩ <;> simp [World.cell?, h.sb]
/-- the i-th list of a row -/
theorem SHF.at (h : SHF W n0 Sb vs ls) {t : Nat} (ht : t < 3) {i : Nat} (hi : i < (ls t).length) : ∃ rb rc, vs t = .slice (some ⟨rb, 0, none⟩) (ls t).length rc ∧ W.cell? ⟨rb, i, none⟩ = some (ls t)[i].1 := by
  have hr := h.row t ht
  obtain ⟨hl, ⟨_, h0⟩ | ⟨g, cp, cur, e, hg, hh, h5, h6, h7, h8⟩⟩ := hr
  · omega
  · refine ⟨g, cp, e, ?_⟩
    have hx : ((ls t).map Prod.fst)[i]? = some (ls t)[i].1 := by simp [hi]
    rw [← h8, List.getElem?_take] at hx
    split at hx
    · simpa [World.cell?, hh] using hx
    · cases hx
theorem SHF.lst (h : SHF W n0 Sb vs ls) {t : Nat} (ht : t < 3) {i : Nat} (hi : i < (ls t).length) : ∃ a c, (ls t)[i].1 = .slice a (ls t)[i].2.length c ∧ KeysAt W a (ls t)[i].2 := by
  have h1 := h.el t ht _ (List.getElem_mem hi)
  obtain ⟨hl, ⟨e, h0⟩ | ⟨g, cp, cur, e, hg, hh, h5, h6, h7, h8⟩⟩ := h1
  · refine ⟨none, 0, by rw [e, h0], .inl (List.eq_nil_of_length_eq_zero h0)⟩
  · refine ⟨some ⟨g, 0, none⟩, cp, e, .inr ⟨g, 0, rfl, fun j u hu => ?_⟩⟩
    rw [World.cell?, hh, Nat.zero_add]
    rw [← h8, List.getElem?_take] at hu
    split at hu
    · simpa using hu
    · cases hu
/-- what lies elsewhere may turn -/
theorem SHF.keep (h : SHF W n0 Sb vs ls) (hs : ∀ (k : Nat) (cur : Array Value) (T : TypeId), W.heap[k]? = some (.cells cur T (0, 0)) → n0 ≤ k ∨ k = Sb → W'.heap[k]? = W.heap[k]?) : SHF W' n0 Sb vs ls := by
  refine ⟨(hs Sb _ _ h.sb (.inr rfl)).trans h.sb, fun t ht => rowSame (h.row t ht) (fun g hg => ?_), fun t ht e he => rowSame (h.el t ht e he) (fun g hg => ?_), h.ap⟩
  · obtain ⟨cur, hc⟩ := rowBlock (h.row t ht) hg
    exact hs g _ _ hc (.inl (World.ownsRow.lt (h.row t ht) g hg).1)
  · obtain ⟨cur, hc⟩ := rowBlock (h.el t ht e he) hg
    exact hs g _ _ hc (.inl (World.ownsRow.lt (h.el t ht e he) g hg).1)
/-- the lists, one of them with another key -/
def setL (ls : Nat → List (Value × List K)) (t i k : Nat) (x : K) : Nat → List (Value × List K) := fun u => if u = t then (ls t).modify i (fun e => (e.1, e.2.set k x)) else ls u
theorem setL_fst (ls : Nat → List (Value × List K)) (t i k : Nat) (x : K) (u : Nat) : (setL ls t i k x u).map Prod.fst = (ls u).map Prod.fst := by
  unfold setL
  by_cases h : u = t
  · subst h
    rw [if_pos rfl]
    apply List.ext_getElem
    · simp
    · intro j h1 h2
      simp only [List.getElem_map, List.getElem_modify]
      split <;> rfl
  · rw [if_neg h]
theorem setL_len (ls : Nat → List (Value × List K)) (t i k : Nat) (x : K) (u : Nat) : (setL ls t i k x u).length = (ls u).length := by
  have := congrArg List.length (setL_fst ls t i k x u)
  simpa using this
theorem cks_setD (M : List K) (i : Nat) (x : K) (h : i < M.length) : cks (M.set i x) = ((cks M).set (i * 2) (.int .i64 x.1)).set (i * 2 + 1) (.int .i64 x.2) := by
  induction M generalizing i with
  | nil => simp at h
  | cons y M ih =>
    cases i with
    | zero => simp [cks]
    | succ i =>
      rw [show (i + 1) * 2 = i * 2 + 1 + 1 by omega]
      simp only [List.set_cons_succ, cks, ih i (by simpa using h)]
theorem SHF.mark (h : SHF W n0 Sb vs ls) {t : Nat} (ht : t < 3) {i : Nat} (hi : i < (ls t).length) {k : Nat} (hk : k < (ls t)[i].2.length) (x y : Int) :
    ∃ g c, (ls t)[i].1 = .slice (some ⟨g, 0, none⟩) (ls t)[i].2.length c ∧ n0 ≤ g ∧ W.cell? ⟨g, k * 2, none⟩ = some (.int .i64 (kd (ls t)[i].2 k).1) ∧ W.cell? ⟨g, k * 2 + 1, none⟩ = some (.int .i64 (kd (ls t)[i].2 k).2) ∧ W.frozen? ⟨g, k * 2, none⟩ = false ∧ W.frozen? ⟨g, k * 2 + 1, none⟩ = false ∧ SHF ((W.setCell ⟨g, k * 2, none⟩ (.int .i64 x)).setCell ⟨g, k * 2 + 1, none⟩ (.int .i64 y)) n0 Sb vs (setL ls t i k (x, y)) ∧ Below n0 W ((W.setCell ⟨g, k * 2, none⟩ (.int .i64 x)).setCell ⟨g, k * 2 + 1, none⟩ (.int .i64 y)) ∧ ∀ G, G ≠ g → ((W.setCell ⟨g, k * 2, none⟩ (.int .i64 x)).setCell ⟨g, k * 2 + 1, none⟩ (.int .i64 y)).heap[G]? = W.heap[G]? := by
  have he := h.el t ht _ (List.getElem_mem hi)
  obtain ⟨g, c, hv, hg⟩ : ∃ g c, (ls t)[i].1 = .slice (some ⟨g, 0, none⟩) (ls t)[i].2.length c ∧ n0 ≤ g := by
    obtain ⟨_, ⟨_, h0⟩ | ⟨g, cp, cur, e, hg, _⟩⟩ := he
    · omega
    · exact ⟨g, cp, e, hg⟩
  rw [hv] at he
  obtain ⟨cur, hcur⟩ := rowBlock he (g := g) rfl
  obtain ⟨s1, s2⟩ := World.ownsRow.stored he (k * 2) (.int .i64 x)
  obtain ⟨s3, s4⟩ := World.ownsRow.stored s1 (k * 2 + 1) (.int .i64 y)
  obtain ⟨ao, c9, e9, hka⟩ := row_at he
  simp only [Value.slice.injEq] at e9
  obtain ⟨b9, o9, e10, c0, c1⟩ := KeysAt.get2 hka k hk
  rw [← e9.1] at e10
  cases e10
  rw [Nat.zero_add] at c0 c1
  have hoth : ∀ G, G ≠ g → ((W.setCell ⟨g, k * 2, none⟩ (.int .i64 x)).setCell ⟨g, k * 2 + 1, none⟩ (.int .i64 y)).heap[G]? = W.heap[G]? := fun G hG => (heap_setCell_other _ _ _ _ (fun e => hG e)).trans (heap_setCell_other _ _ _ _ (fun e => hG e))
  refine ⟨g, c, hv, hg, c0, c1, World.ownsRow.frozenAt he _, World.ownsRow.frozenAt he _, ?_, ?_, hoth⟩
  · have hSne : Sb ≠ g := fun e => by
      have h9 := h.sb
      rw [e, hcur] at h9
      simp only [Option.some.injEq, Obj.cells.injEq] at h9
      exact (tq_ne ht ht).2.2 h9.2.1
    refine ⟨(hoth Sb hSne).trans h.sb, fun u hu => ?_, fun u hu e hem => ?_, fun u hu => ?_⟩
    · have h9 := h.row u hu
      rw [setL_len, setL_fst]
      refine rowSame h9 (fun G hG => hoth G (fun e => ?_))
      obtain ⟨cur', hc'⟩ := rowBlock h9 hG
      rw [e, hcur] at hc'
      simp only [Option.some.injEq, Obj.cells.injEq] at hc'
      exact (tq_ne hu ht).1 hc'.2.1.symm
    · by_cases hut : u = t
      · subst hut
        unfold setL at hem
        rw [if_pos rfl] at hem
        obtain ⟨j, hj, rfl⟩ := List.getElem_of_mem hem
        rw [List.length_modify] at hj
        rw [List.getElem_modify]
        by_cases hij : i = j
        · subst hij
          rw [if_pos rfl]
          simp only
          rw [List.length_set, cks_setD _ _ _ hk, hv]
          exact s3
        · rw [if_neg hij]
          have h9 := h.el u hu _ (List.getElem_mem hj)
          refine rowSame h9 (fun G hG => hoth G (fun e => ?_))
          subst e
          have hp := List.pairwise_iff_getElem.1 (h.ap u hu)
          rcases Nat.lt_or_gt_of_ne hij with hlt | hgt
          · exact hp i j (by simpa using hi) (by simpa using hj) hlt G (by simp [hv, Value.ownBlock]) (by simpa using hG)
          · exact hp j i (by simpa using hj) (by simpa using hi) hgt G (by simpa using hG) (by simp [hv, Value.ownBlock])
      · unfold setL at hem
        rw [if_neg hut] at hem
        have h9 := h.el u hu e hem
        refine rowSame h9 (fun G hG => hoth G (fun e' => ?_))
        obtain ⟨cur', hc'⟩ := rowBlock h9 hG
        rw [e', hcur] at hc'
        simp only [Option.some.injEq, Obj.cells.injEq] at hc'
        exact hut (teS_inj ht hu hc'.2.1).symm
    · rw [setL_fst]
      exact h.ap u hu
  · exact ⟨rfl, rfl, rfl, by simp, fun K hK => hoth K (by omega)⟩
end
end Go.Proofs.YtbmohlkcmhhpgaaGreat
/-
  APPEND TO A LIST THAT OTHERS HOLD: IN ITS ROOM, OR ANEW AND NOTHING TURNED.
-/
namespace Go.Proofs.YtbmohlkcmhhpgaaGreat
open Go.RowKit Go.Sort

theorem AKd.appC {TS TE : TypeId} {sz bt : Nat} {z : Value} (H : AKd TS TE sz bt z) {w : World} (ty : TypeId) (base : Nat) (v : Value) (n : Nat) (xs : List Value) (hown : w.ownsRow base TE sz v n xs) (a : Addr) (m c : Nat) (news : List Value) (hl : news.length = m * sz) (hnews : ∀ j u, news[j]? = some u → w.cell? (a.add j) = some u) (h1 : ∀ u ∈ news, u.oneCell' = true) (hn : n + m ≤ 1000000000) (hb : bt ≤ 80) (hbase : base ≤ w.heap.size) :
    ∃ v' w', (Builtin.append_ #[TS, TS] ty #[v, .slice (some a) m c]).run Tryz.prog w = .ok v' w' ∧ w'.ownsRow base TE sz v' (n + m) (xs ++ news) ∧
      ((∃ g cap, v = .slice (some ⟨g, 0, none⟩) n cap ∧ v' = .slice (some ⟨g, 0, none⟩) (n + m) cap ∧ w.grownBy w' (some g)) ∨ (w'.ownsRow w.heap.size TE sz v' (n + m) (xs ++ news) ∧ w.grownBy w' none)) := by
  have hown0 := hown
  obtain ⟨i0, hi', hz0, hz1, hz2⟩ := info_parts H.info
  have hm : (n + m) * bt ≤ 1000000000 * 80 := Nat.mul_le_mul hn hb
  rcases hown with ⟨hlx, ⟨rfl, rfl⟩ | ⟨g, cap, cur, rfl, hbg, hh, hnc, hcm, hcs, ht⟩⟩
  · have h0 : xs = [] := List.eq_nil_of_length_eq_zero (by rw [hlx, Nat.zero_mul])
    subst h0
    obtain ⟨v', w', hr, h2, h3, _⟩ := run_append_own_at (P := Tryz.prog) (w := w) w.heap.size TS ty TE i0 z sz bt H.u hi' hz0 hz1 hz2 H.zs H.pos (.slice none 0 0) 0 [] (World.ownsRow_nil _ _ _ _) a m c news hl hnews h1 (by unfold maxLen; omega) (by omega) (Nat.le_refl _)
    exact ⟨v', w', hr, rowBaseD h2 hbase, .inr ⟨h2, h3⟩⟩
  · by_cases hroom : n + m ≤ cap
    · obtain ⟨w', hr, h2, h3⟩ := run_append_own_spare (P := Tryz.prog) (w := w) base TS ty TE i0 sz H.u hi' hz1 g n cap xs hown0 a m c news hl hnews h1 hroom
      exact ⟨_, w', hr, h2, .inl ⟨g, cap, rfl, rfl, h3⟩⟩
    · have hfit : Builtin.nextslicecap (n + m) cap * i0.bytes ≤ 281474976710656 := growslice_fits (by omega) (by rw [hz2]; omega)
      have hr := run_append_grow (P := Tryz.prog) w TS ty TE i0 z H.u hi' hz0 ⟨g, 0, none⟩ n cap xs (by rw [hz1]; exact hlx) (World.ownsRow.cells hown0 rfl) a m c news (by rw [hz1]; exact hl) hnews (by omega) (by omega) hfit
      have hlen : (xs ++ news).length = (n + m) * sz := by rw [List.length_append, hl, hlx, Nat.add_mul]
      have hO : (w.drew.alloc (.cells (xs.toArray ++ news.toArray ++ Builtin.zeroCells z.cells (grownCap w (n + m) cap TE - (n + m))) TE)).ownsRow w.heap.size TE sz (.slice (some ⟨w.heap.size, 0, none⟩) (n + m) (grownCap w (n + m) cap TE)) (n + m) (xs ++ news) := by
        refine ⟨hlen, .inr ⟨w.heap.size, _, _, rfl, Nat.le_refl _, Go.heap_alloc_new w.drew _, grownCap_ge w (n + m) cap TE, grownCap_le_maxLen w (n + m) cap TE (by unfold maxLen; omega), ?_, ?_⟩⟩
        · have hge := grownCap_ge w (n + m) cap TE
          simp only [Array.size_append, List.size_toArray, size_zeroCells, H.zs, hl, hlx]
          generalize grownCap w (n + m) cap TE = G at *
          rw [← Nat.add_mul, ← Nat.add_mul, show n + m + (G - (n + m)) = G by omega]
        · simp only [Array.toList_append, List.append_assoc]
          rw [← List.append_assoc, ← hlen]
          exact List.take_left
      exact ⟨_, _, hr, rowBaseD hO hbase, .inr ⟨hO, ⟨rfl, rfl, rfl, by simp, fun k hk _ => Go.heap_alloc_old w.drew _ hk⟩⟩⟩
/-- a row's beginning -/
theorem rowTake {w : World} {base g cap n m : Nat} {T : TypeId} {sz : Nat} {xs ys : List Value} (h : w.ownsRow base T sz (.slice (some ⟨g, 0, none⟩) (n + m) cap) (n + m) (xs ++ ys)) (hx : xs.length = n * sz) : w.ownsRow base T sz (.slice (some ⟨g, 0, none⟩) n cap) n xs := by
  obtain ⟨hl, ⟨e, _⟩ | ⟨g', cp, cur, e, hg, hh, h5, h6, h7, h8⟩⟩ := h
  · cases e
  · cases e
    refine ⟨hx, .inr ⟨g, cap, cur, rfl, hg, hh, by omega, h6, h7, ?_⟩⟩
    have h9 := congrArg (List.take (n * sz)) h8
    rw [List.take_take, Nat.min_eq_left (Nat.mul_le_mul_right sz (by omega)), ← hx, List.take_left] at h9
    rw [← hx]
    exact h9
/-- a list that grows out of one of the shelf's -/
structure GR (W : World) (n0 Sb : Nat) (vs : Nat → Value) (ls : Nat → List (Value × List K)) (t i : Nat) (hi : i < (ls t).length) (N : Nat) (gv : Value) (ys : List K) : Prop where
  sh : SHF W n0 Sb vs ls
  gr : W.ownsRow n0 (teS t) 2 gv ((ls t)[i].2 ++ ys).length (cks ((ls t)[i].2 ++ ys))
  wh : (∃ g cap, (ls t)[i].1 = .slice (some ⟨g, 0, none⟩) (ls t)[i].2.length cap ∧ gv = .slice (some ⟨g, 0, none⟩) ((ls t)[i].2 ++ ys).length cap) ∨ (gv = (ls t)[i].1 ∧ ys = []) ∨ ∀ g, gv.ownBlock = some g → N ≤ g
  lt : ∀ u, u < 3 → (∀ g, (vs u).ownBlock = some g → g < N) ∧ ∀ e ∈ ls u, ∀ g, e.1.ownBlock = some g → g < N
  sN : Sb < N
theorem akS (t : Nat) (ht : t < 3) : ∃ z, AKd (tqS t) (teS t) 2 16 z := by
  have h1 : t = 0 ∨ t = 1 ∨ t = 2 := by omega
  rcases h1 with rfl | rfl | rfl
  · exact ⟨_, akKey⟩
  · exact ⟨_, akPl⟩
  · exact ⟨_, akPin⟩
theorem SHF.oth {W W' : World} {n0 Sb N : Nat} {vs : Nat → Value} {ls : Nat → List (Value × List K)} (h : SHF W n0 Sb vs ls) (hlt : ∀ u, u < 3 → (∀ g, (vs u).ownBlock = some g → g < N) ∧ ∀ e ∈ ls u, ∀ g, e.1.ownBlock = some g → g < N) (hS : Sb < N) (hs : ∀ k, k < N → W'.heap[k]? = W.heap[k]?) : SHF W' n0 Sb vs ls :=
  ⟨(hs Sb hS).trans h.sb, fun t ht => rowSame (h.row t ht) (fun g hg => hs g ((hlt t ht).1 g hg)), fun t ht e he => rowSame (h.el t ht e he) (fun g hg => hs g ((hlt t ht).2 e he g hg)), h.ap⟩
/-- one append more: in the list's room, in a room of its own, or anew -/
theorem GR.app {W : World} {n0 Sb : Nat} {vs : Nat → Value} {ls : Nat → List (Value × List K)} {t i : Nat} {hi : i < (ls t).length} {N : Nat} {gv : Value} {ys : List K} (h : GR W n0 Sb vs ls t i hi N gv ys) (ht : t < 3) (a : Addr) (m c : Nat) (zs : List K) (hz : m = zs.length) (hnews : ∀ j u, (cks zs)[j]? = some u → W.cell? (a.add j) = some u) (hn : ((ls t)[i].2 ++ ys).length + m ≤ 1000000000) (hbs : n0 ≤ W.heap.size) (hN : N ≤ W.heap.size) (ty : TypeId) :
    ∃ v' w', (Builtin.append_ #[tqS t, tqS t] ty #[gv, .slice (some a) m c]).run Tryz.prog W = .ok v' w' ∧ (∃ a n c, v' = .slice a n c) ∧ GR w' n0 Sb vs ls t i hi N v' (ys ++ zs) ∧ Below n0 W w' ∧ (∀ (k : Nat) (cur : Array Value) (T : TypeId), W.heap[k]? = some (.cells cur T (0, 0)) → T ≠ teS t → w'.heap[k]? = W.heap[k]?) ∧ ∀ k, k < N → (ls t)[i].1.ownBlock ≠ some k → w'.heap[k]? = W.heap[k]? := by
  obtain ⟨z, hk⟩ := akS t ht
  obtain ⟨v', w', z1, z2, z3⟩ := hk.appC ty n0 gv _ _ h.gr a m c (cks zs) (by rw [cks_length, hz]) hnews (cks_one zs) hn (by omega) hbs
  have e3 : ((ls t)[i].2 ++ (ys ++ zs)).length = ((ls t)[i].2 ++ ys).length + m := by rw [List.length_append, List.length_append, List.length_append, hz]; omega
  have z2' : w'.ownsRow n0 (teS t) 2 v' ((ls t)[i].2 ++ (ys ++ zs)).length (cks ((ls t)[i].2 ++ (ys ++ zs))) := by
    rw [e3, ← List.append_assoc, cks_append]
    exact z2
  have hop : ∃ a n c, v' = .slice a n c := by
    obtain ⟨a', n', c', e, _⟩ := rowOpenD z2
    exact ⟨a', n', c', e⟩
  have hel := h.sh.el t ht _ (List.getElem_mem hi)
  rcases z3 with ⟨g, cap, e1, e2, hg⟩ | ⟨hO, hg⟩
  · have hge : n0 ≤ g := (World.ownsRow.lt h.gr g (by rw [e1]; rfl)).1
    have hb : Below n0 W w' := (Below.refl _ _).grown hg hbs (fun k e => by cases e; exact hge)
    obtain ⟨curG, hcG⟩ := rowBlock h.gr (g := g) (by rw [e1]; rfl)
    have hty : ∀ (k : Nat) (cur : Array Value) (T : TypeId), W.heap[k]? = some (.cells cur T (0, 0)) → T ≠ teS t → w'.heap[k]? = W.heap[k]? := fun k cur T hk hT => hg.block k (blk_lt hk) (fun e => by
      cases e
      rw [hcG] at hk
      simp only [Option.some.injEq, Obj.cells.injEq] at hk
      exact hT hk.2.1.symm)
    -- in the room of gv
    by_cases hgN : N ≤ g
    · have hsame : ∀ k, k < N → w'.heap[k]? = W.heap[k]? := fun k hk => hg.block k (by omega) (fun e => by cases e; omega)
      exact ⟨v', w', z1, hop, ⟨h.sh.oth h.lt h.sN hsame, z2', .inr (.inr (fun G hG => by rw [e2] at hG; cases hG; exact hgN)), h.lt, h.sN⟩, hb, hty, fun k hk _ => hsame k hk⟩
    · -- in the list's own room
      have hv : ∃ cap', (ls t)[i].1 = .slice (some ⟨g, 0, none⟩) (ls t)[i].2.length cap' ∧ cap' = cap := by
        rcases h.wh with ⟨g', cap', h1, h2⟩ | ⟨h1, h2⟩ | h1
        · rw [e1] at h2
          simp only [Value.slice.injEq, Option.some.injEq, Addr.mk.injEq] at h2
          obtain ⟨⟨rfl, _⟩, _, rfl⟩ := h2
          exact ⟨_, h1, rfl⟩
        · subst h2
          rw [← h1, e1]
          exact ⟨cap, by simp, rfl⟩
        · exact absurd (h1 g (by rw [e1]; rfl)) hgN
      obtain ⟨cap', hv, rfl⟩ := hv
      have hlist : w'.ownsRow n0 (teS t) 2 (.slice (some ⟨g, 0, none⟩) (ls t)[i].2.length cap') (ls t)[i].2.length (cks (ls t)[i].2) := by
        have h9 := z2'
        have e4 : ((ls t)[i].2 ++ ys).length + m = (ls t)[i].2.length + (ys ++ zs).length := by rw [← e3, List.length_append]
        rw [e2, cks_append, e3, e4] at h9
        exact rowTake h9 (cks_length _)
      obtain ⟨curL, hcL⟩ := rowBlock hel (g := g) (by rw [hv]; rfl)
      have hoth : ∀ k, k < W.heap.size → k ≠ g → w'.heap[k]? = W.heap[k]? := fun k hk hne => hg.block k hk (fun e => by cases e; exact hne rfl)
      refine ⟨v', w', z1, hop, ⟨⟨?_, fun u hu => ?_, fun u hu e he => ?_, h.sh.ap⟩, z2', .inl ⟨g, cap', hv, ?_⟩, h.lt, h.sN⟩, hb, hty, fun k hk hne => hoth k (by omega) (fun e => hne (by rw [hv, e]; rfl))⟩
      · refine (hoth Sb (blk_lt h.sh.sb) (fun e => ?_)).trans h.sh.sb
        have h9 := h.sh.sb
        rw [e, hcL] at h9
        simp only [Option.some.injEq, Obj.cells.injEq] at h9
        exact (tq_ne ht ht).2.2 h9.2.1
      · have h9 := h.sh.row u hu
        refine rowSame h9 (fun G hG => hoth G (World.ownsRow.lt h9 G hG).2 (fun e => ?_))
        obtain ⟨cur', hc'⟩ := rowBlock h9 hG
        rw [e, hcL] at hc'
        simp only [Option.some.injEq, Obj.cells.injEq] at hc'
        exact (tq_ne hu ht).1 hc'.2.1.symm
      · have h9 := h.sh.el u hu e he
        by_cases hG : e.1.ownBlock = some g
        · obtain ⟨cur', hc'⟩ := rowBlock h9 hG
          rw [hcL] at hc'
          simp only [Option.some.injEq, Obj.cells.injEq] at hc'
          have hut := teS_inj ht hu hc'.2.1
          subst hut
          obtain ⟨j, hj, rfl⟩ := List.getElem_of_mem he
          have hji : j = i := by
            refine Classical.byContradiction (fun hne => ?_)
            have hp := List.pairwise_iff_getElem.1 (h.sh.ap t ht)
            have hgi : (ls t)[i].1.ownBlock = some g := by rw [hv]; rfl
            rcases Nat.lt_or_gt_of_ne hne with hlt | hgt
            · exact hp j i (by simpa using hj) (by simpa using hi) hlt g (by simpa using hG) (by simpa using hgi)
            · exact hp i j (by simpa using hi) (by simpa using hj) hgt g (by simpa using hgi) (by simpa using hG)
          subst hji
          rw [hv]
          exact hlist
        · exact rowSame h9 (fun G hG' => hoth G (World.ownsRow.lt h9 G hG').2 (fun e' => hG (by rw [← e']; exact hG')))
      · rw [e2, e3]
  · -- anew
    have hsame : ∀ k, k < W.heap.size → w'.heap[k]? = W.heap[k]? := fun k hk => hg.block k hk (by simp)
    have hb : Below n0 W w' := (Below.refl _ _).grown hg hbs (fun k e => by cases e)
    refine ⟨v', w', z1, hop, ⟨h.sh.oth h.lt h.sN (fun k hk => hsame k (by omega)), z2', .inr (.inr (fun G hG => ?_)), h.lt, h.sN⟩, hb, fun k cur T hk _ => hsame k (blk_lt hk), fun k hk _ => hsame k (by omega)⟩
    have := (World.ownsRow.lt hO G hG).1
    omega
end Go.Proofs.YtbmohlkcmhhpgaaGreat
/-
  GROW: each list of the shelf grows, in its room or anew; none of them turns.
-/
namespace Go.Proofs.YtbmohlkcmhhpgaaGreat
open Go.RowKit Go.Sort

/-- what is given to the call -/
structure GP (w : World) (n0 Sb : Nat) (vs : Nat → Value) (ls : Nat → List (Value × List K)) : Prop where
  sh : SHF w n0 Sb vs ls
  le : n0 ≤ w.heap.size
  len : ∀ t, t < 3 → (ls t).length ≤ 1000000 ∧ ∀ e ∈ ls t, e.2.length ≤ 1000000
/-- the lists' blocks -/
def LB (ls : Nat → List (Value × List K)) (k : Nat) : Prop := ∃ t, t < 3 ∧ ∃ e ∈ ls t, e.1.ownBlock = some k
def LFr (ls : Nat → List (Value × List K)) (w W : World) : Prop := ∀ k, k < w.heap.size → ¬ LB ls k → W.heap[k]? = w.heap[k]?
theorem LFr.below {ls : Nat → List (Value × List K)} {w W W' : World} (h : LFr ls w W) (hs : w.heap.size ≤ W.heap.size) (hb : Below W.heap.size W W') : LFr ls w W' := fun k hk hn => (hb.block k (by omega)).trans (h k hk hn)
structure GI (w W : World) (n0 Sb : Nat) (vs : Nat → Value) (ls : Nat → List (Value × List K)) (mb : Nat) (TA : TypeId) : Prop where
  sh : SHF W n0 Sb vs ls
  be : Below n0 w W
  lf : LFr ls w W
  ma : W.heap[mb]? = some (.cells (cks (List.replicate 24 (0, 0))).toArray TA (0, 0))
section
variable {w W W' : World} {n0 Sb : Nat} {vs : Nat → Value} {ls : Nat → List (Value × List K)} {mb : Nat} {TA : TypeId} {t i k : Nat} {gv : Value}
theorem GP.lt (h : GP w n0 Sb vs ls) : ∀ u, u < 3 → (∀ g, (vs u).ownBlock = some g → g < w.heap.size) ∧ ∀ e ∈ ls u, ∀ g, e.1.ownBlock = some g → g < w.heap.size := fun u hu => ⟨fun g hg => (World.ownsRow.lt (h.sh.row u hu) g hg).2, fun e he g hg => (World.ownsRow.lt (h.sh.el u hu e he) g hg).2⟩
theorem SHF.sameAll (h : SHF W n0 Sb vs ls) (hs : ∀ k, k < W.heap.size → W'.heap[k]? = W.heap[k]?) : SHF W' n0 Sb vs ls := h.keep (fun k _ _ hk _ => hs k (blk_lt hk))
theorem GI.sameAll (h : GI w W n0 Sb vs ls mb TA) (hle : n0 ≤ W.heap.size) (hs : Below W.heap.size W W') : GI w W' n0 Sb vs ls mb TA := ⟨h.sh.sameAll hs.block, h.be.trans (hs.mono hle), h.lf.below h.be.size hs, (hs.block mb (blk_lt h.ma)).trans h.ma⟩
theorem GR.sameAll {hi : i < (ls t).length} {N : Nat} {ys : List K} (h : GR W n0 Sb vs ls t i hi N gv ys) (hs : ∀ k, k < W.heap.size → W'.heap[k]? = W.heap[k]?) : GR W' n0 Sb vs ls t i hi N gv ys :=
  ⟨h.sh.sameAll hs, rowSame h.gr (fun g hg => hs g (World.ownsRow.lt h.gr g hg).2), h.wh, h.lt, h.sN⟩
theorem GI.start (P : GP w n0 Sb vs ls) (TA : TypeId) (h : SHF W n0 Sb vs ls) (hb : Below n0 w W) (hl : LFr ls w W) : GI w (W.alloc (.cells (cks (List.replicate 24 (0, 0))).toArray TA)) n0 Sb vs ls W.heap.size TA := by
  have hle : n0 ≤ W.heap.size := Nat.le_trans P.le hb.size
  have hA : Below W.heap.size W (W.alloc (.cells (cks (List.replicate 24 (0, 0))).toArray TA)) := (Below.refl _ _).alloc (Nat.le_refl _) _
  exact ⟨h.sameAll hA.block, hb.trans (hA.mono hle), hl.below hb.size hA, heap_alloc_new _ _ rfl⟩
/-- a list as it grows -/
def GJ (w W : World) (n0 Sb : Nat) (vs : Nat → Value) (ls : Nat → List (Value × List K)) (mb : Nat) (TA : TypeId) (t i : Nat) (gv : Value) (k : Nat) : Prop :=
  ∃ hi : i < (ls t).length, GR W n0 Sb vs ls t i hi w.heap.size gv (List.replicate k (1, 0)) ∧ GI w W n0 Sb vs ls mb TA
theorem GR.start (P : GP w n0 Sb vs ls) (h : GI w W n0 Sb vs ls mb TA) (ht : t < 3) (hi : i < (ls t).length) : GR W n0 Sb vs ls t i hi w.heap.size (ls t)[i].1 [] :=
  ⟨h.sh, by rw [List.append_nil]; exact h.sh.el t ht _ (List.getElem_mem hi), .inr (.inl ⟨rfl, rfl⟩), P.lt, blk_lt P.sh.sb⟩
theorem GJ.start (P : GP w n0 Sb vs ls) (h : GI w W n0 Sb vs ls mb TA) (ht : t < 3) (hi : i < (ls t).length) : GJ w W n0 Sb vs ls mb TA t i (ls t)[i].1 0 := ⟨hi, GR.start P h ht hi, h⟩
theorem GJ.more (P : GP w n0 Sb vs ls) (h : GJ w W n0 Sb vs ls mb TA t i gv k) (ht : t < 3) (hk : k < 24) (hTA : TA ≠ teS t) (TS TE : TypeId) (hTS : tqS t = TS) (ty : TypeId) :
    ∃ v' w', (Builtin.append_ #[TS, TS] ty #[gv, .slice (some ⟨W.heap.size, 0, none⟩) 1 1]).run Tryz.prog (W.alloc (.cells #[.int .i64 1, .int .i64 0] TE)) = .ok v' w' ∧ (∃ a n c, v' = .slice a n c) ∧ GJ w w' n0 Sb vs ls mb TA t i v' (k + 1) := by
  obtain ⟨hi, hr, hg⟩ := h
  have hA : Below W.heap.size W (W.alloc (.cells #[.int .i64 1, .int .i64 0] TE)) := (Below.refl _ _).alloc (Nat.le_refl _) _
  have hle : n0 ≤ W.heap.size := Nat.le_trans P.le hg.be.size
  have hw := hg.be.size
  have hs := hA.size
  have hlen := (P.len t ht).2 _ (List.getElem_mem hi)
  obtain ⟨v', w', z1, z2, z3, z4, z5, z6⟩ := (hr.sameAll hA.block).app ht ⟨W.heap.size, 0, none⟩ 1 1 [(1, 0)] rfl (fun j u hu => by
    rw [addr_add]
    have hb : (W.alloc (.cells #[.int .i64 1, .int .i64 0] TE)).heap[W.heap.size]? = some (.cells #[.int .i64 1, .int .i64 0] TE (0, 0)) := heap_alloc_new _ _ rfl
    rw [World.cell?, hb, Nat.zero_add]
    simpa [cks] using hu) (by rw [List.length_append, List.length_replicate]; omega) (by omega) (by omega) ty
  rw [hTS] at z1
  have hgA := hg.sameAll hle hA
  refine ⟨v', w', z1, z2, hi, ?_, z3.sh, hgA.be.trans z4, fun k hk hn => (z6 k hk (fun e => hn ⟨t, ht, _, List.getElem_mem hi, e⟩)).trans (hgA.lf k hk hn), (z5 mb _ _ hgA.ma hTA).trans hgA.ma⟩
  rw [List.replicate_succ']
  exact z3
theorem GI.last (P : GP w n0 Sb vs ls) (h : GI w W n0 Sb vs ls mb TA) (ht : t < 3) (hi : i < (ls t).length) (hTA : TA ≠ teS t) (TS : TypeId) (hTS : tqS t = TS) (gv : Value) (hgv : (ls t)[i].1 = gv) (ty : TypeId) :
    ∃ v' w', (Builtin.append_ #[TS, TS] ty #[gv, .slice (some ⟨mb, 0, none⟩) 24 24]).run Tryz.prog W.drew = .ok v' w' ∧ (∃ a n c, v' = .slice a n c) ∧ GI w w' n0 Sb vs ls mb TA := by
  have hA : Below W.heap.size W W.drew := drew_below W 1
  have hle : n0 ≤ W.heap.size := Nat.le_trans P.le h.be.size
  have hw := h.be.size
  have hs := hA.size
  have hlen := (P.len t ht).2 _ (List.getElem_mem hi)
  have hgA := h.sameAll hle hA
  obtain ⟨v', w', z1, z2, z3, z4, z5, z6⟩ := (GR.start P hgA ht hi).app ht ⟨mb, 0, none⟩ 24 24 (List.replicate 24 (0, 0)) (by simp) (fun j u hu => by
    rw [addr_add, World.cell?, hgA.ma, Nat.zero_add]
    simpa using hu) (by simp; omega) (by omega) (by omega) ty
  rw [hTS, hgv] at z1
  exact ⟨v', w', z1, z2, z3.sh, hgA.be.trans z4, fun k hk hn => (z6 k hk (fun e => hn ⟨t, ht, _, List.getElem_mem hi, e⟩)).trans (hgA.lf k hk hn), (z5 mb _ _ hgA.ma hTA).trans hgA.ma⟩
end
end Go.Proofs.YtbmohlkcmhhpgaaGreat
