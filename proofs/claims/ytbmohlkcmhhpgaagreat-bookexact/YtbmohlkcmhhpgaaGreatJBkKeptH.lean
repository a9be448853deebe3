import Derived.Test.YtbmohlkcmhhpgaaGreatJBkApartH
import Derived.Test.YtbmohlkcmhhpgaaGreatJBkRestH
/-
  KEPT: what was handed out, and what each list must hold.
-/
namespace Go.Proofs.YtbmohlkcmhhpgaaGreat
open Go.RowKit Go.Sort

structure KPr (W : World) (n0 P : Nat) (b r : Value) (rv : Nat → Value) (ls lw : Nat → List (Value × List K)) : Prop where
  pb : W.heap[P]? = some (.cells #[b, r, rv 2, rv 3, rv 4, rv 5, rv 6, rv 7] 40 (0, 0))
  row : ∀ t, t < 3 → W.ownsRow n0 (tqS t) 1 (rv (2 + 2 * t)) (ls t).length ((ls t).map Prod.fst)
  el : ∀ t, t < 3 → ∀ e ∈ ls t, W.ownsRow n0 (teS t) 2 e.1 e.2.length (cks e.2)
  ap : ∀ t, t < 3 → ((ls t).map Prod.fst).Pairwise (fun a b => ∀ g, a.ownBlock = some g → b.ownBlock ≠ some g)
  rowW : ∀ t, t < 3 → W.ownsRow n0 (tqS t) 1 (rv (3 + 2 * t)) (lw t).length ((lw t).map Prod.fst)
  elW : ∀ t, t < 3 → ∀ e ∈ lw t, W.ownsRow n0 (teS t) 2 e.1 e.2.length (cks e.2)
  same : ∀ t, t < 3 → (lw t).map Prod.snd = (ls t).map Prod.snd
  le : n0 ≤ W.heap.size
  len : ∀ t, t < 3 → (ls t).length ≤ 1000000 ∧ ∀ e ∈ ls t, e.2.length ≤ 1000000
theorem rowAtI {W : World} {n0 : Nat} {T : TypeId} {v : Value} {l : List (Value × List K)} (hr : W.ownsRow n0 T 1 v l.length (l.map Prod.fst)) {i : Nat} (hi : i < l.length) : ∃ rb rc, v = .slice (some ⟨rb, 0, none⟩) l.length rc ∧ W.cell? ⟨rb, i, none⟩ = some l[i].1 := by
  obtain ⟨hl, ⟨_, h0⟩ | ⟨g, cp, cur, e, hg, hh, h5, h6, h7, h8⟩⟩ := hr
  · omega
  · refine ⟨g, cp, e, ?_⟩
    have hx : (l.map Prod.fst)[i]? = some l[i].1 := by simp [hi]
    rw [← h8, List.getElem?_take] at hx
    split at hx
    · simpa [World.cell?, hh] using hx
    · cases hx
theorem rowOpn {W : World} {n0 : Nat} {T : TypeId} {v : Value} {l : List (Value × List K)} (hr : W.ownsRow n0 T 1 v l.length (l.map Prod.fst)) : ∃ a n c, v = .slice a n c ∧ n = l.length := by
  obtain ⟨_, ⟨e, h0⟩ | ⟨g, cp, cur, e, _⟩⟩ := hr
  · exact ⟨none, 0, 0, e, h0.symm⟩
  · exact ⟨_, _, _, e, rfl⟩
section
variable {W W' : World} {n0 P : Nat} {b r : Value} {rv : Nat → Value} {ls lw : Nat → List (Value × List K)} {t i : Nat}
theorem KPr.keep (h : KPr W n0 P b r rv ls lw) (hb : Below W.heap.size W W') : KPr W' n0 P b r rv ls lw :=
  have hr : ∀ {T : TypeId} {sz n : Nat} {v : Value} {xs : List Value}, W.ownsRow n0 T sz v n xs → W'.ownsRow n0 T sz v n xs := fun h => rowSame h (fun g hg => hb.block g (World.ownsRow.lt h g hg).2)
  ⟨(hb.block P (blk_lt h.pb)).trans h.pb, fun t ht => hr (h.row t ht), fun t ht e he => hr (h.el t ht e he), h.ap, fun t ht => hr (h.rowW t ht), fun t ht e he => hr (h.elW t ht e he), h.same, Nat.le_trans h.le hb.size, h.len⟩
theorem KPr.cells (h : KPr W n0 P b r rv ls lw) : W.cell? ⟨P, 2, none⟩ = some (rv 2) ∧ W.cell? ⟨P, 3, none⟩ = some (rv 3) ∧ W.cell? ⟨P, 4, none⟩ = some (rv 4) ∧ W.cell? ⟨P, 5, none⟩ = some (rv 5) ∧ W.cell? ⟨P, 6, none⟩ = some (rv 6) ∧ W.cell? ⟨P, 7, none⟩ = some (rv 7) := by
  refine ⟨?_, ?_, ?_, ?_, ?_, ?_⟩ <;> simp [World.cell?, h.pb]
theorem KPr.lenW (h : KPr W n0 P b r rv ls lw) (ht : t < 3) : (lw t).length = (ls t).length := by simpa using congrArg List.length (h.same t ht)
theorem KPr.opn (h : KPr W n0 P b r rv ls lw) (ht : t < 3) : ∃ a a' n c c', rv (2 + 2 * t) = .slice a n c ∧ rv (3 + 2 * t) = .slice a' n c' ∧ n = (ls t).length := by
  obtain ⟨a, n, c, e, hn⟩ := rowOpn (h.row t ht)
  obtain ⟨a', n', c', e', hn'⟩ := rowOpn (h.rowW t ht)
  rw [h.lenW ht, ← hn] at hn'
  subst hn'
  exact ⟨a, a', _, c, c', e, e', hn⟩
theorem KPr.at2 (h : KPr W n0 P b r rv ls lw) (ht : t < 3) (hi : i < (ls t).length) {a a' : Option Addr} {n c c' : Nat} (hv : rv (2 + 2 * t) = .slice a n c) (hv' : rv (3 + 2 * t) = .slice a' n c') :
    ∃ rb rb' ga ga' m gc gc' L, a = some ⟨rb, 0, none⟩ ∧ a' = some ⟨rb', 0, none⟩ ∧ m = L.length ∧ m ≤ 1000000 ∧ ∀ W', KPr W' n0 P b r rv ls lw → W'.cell? ⟨rb, i, none⟩ = some (.slice ga m gc) ∧ W'.cell? ⟨rb', i, none⟩ = some (.slice ga' m gc') ∧ KeysAt W' ga L ∧ KeysAt W' ga' L := by
  have hi' : i < (lw t).length := by rw [h.lenW ht]; exact hi
  obtain ⟨rb, rc, e1, _⟩ := rowAtI (h.row t ht) hi
  obtain ⟨rb', rc', e2, _⟩ := rowAtI (h.rowW t ht) hi'
  obtain ⟨ga, gc, e3, _⟩ := row_at (h.el t ht _ (List.getElem_mem hi))
  obtain ⟨ga', gc', e4, _⟩ := row_at (h.elW t ht _ (List.getElem_mem hi'))
  have hL : (lw t)[i].2 = (ls t)[i].2 := by
    have h1 := congrArg (fun l => l[i]?) (h.same t ht)
    simpa [hi, hi'] using h1
  rw [hv] at e1
  rw [hv'] at e2
  simp only [Value.slice.injEq] at e1 e2
  refine ⟨rb, rb', ga, ga', _, gc, gc', (ls t)[i].2, e1.1, e2.1, rfl, (h.len t ht).2 _ (List.getElem_mem hi), fun W' h' => ?_⟩
  obtain ⟨qb, qc, f1, g1⟩ := rowAtI (h'.row t ht) hi
  obtain ⟨qb', qc', f2, g2⟩ := rowAtI (h'.rowW t ht) hi'
  obtain ⟨ha, hc, f3, g3⟩ := row_at (h'.el t ht _ (List.getElem_mem hi))
  obtain ⟨ha', hc', f4, g4⟩ := row_at (h'.elW t ht _ (List.getElem_mem hi'))
  rw [hv] at f1
  rw [hv'] at f2
  simp only [Value.slice.injEq] at f1 f2
  have e5 := e1.1.symm.trans f1.1
  have e6 := e2.1.symm.trans f2.1
  simp only [Option.some.injEq, Addr.mk.injEq, and_true] at e5 e6
  rw [← e5, e3] at g1
  rw [← e6, e4, hL] at g2
  rw [e3] at f3
  rw [e4] at f4
  simp only [Value.slice.injEq] at f3 f4
  rw [← f3.1] at g3
  rw [← f4.1, hL] at g4
  exact ⟨g1, g2, g3, g4⟩
/-- the shelf is made of the three rows -/
theorem KPr.shelf (h : KPr W n0 P b r rv ls lw) : GP (W.alloc (.cells #[rv 2, rv 4, rv 6] 83)) n0 W.heap.size (fun t => rv (2 + 2 * t)) ls := by
  have hb : Below W.heap.size W (W.alloc (.cells #[rv 2, rv 4, rv 6] 83)) := (Below.refl _ _).alloc (Nat.le_refl _) _
  have h' := h.keep hb
  exact ⟨⟨heap_alloc_new _ _ rfl, h'.row, h'.el, h.ap⟩, h'.le, h.len⟩
end
end Go.Proofs.YtbmohlkcmhhpgaaGreat
/-
  KEPT: all that was handed out is as it came, and apart: the walk.
-/
namespace Go.Proofs.YtbmohlkcmhhpgaaGreat
open Go.RowKit Go.Sort

set_option maxRecDepth 100000 in
set_option maxHeartbeats 8000000 in
theorem keptS_any (w : World) (n0 P : Nat) (b r : Value) (rv : Nat → Value) (ls lw : Nat → List (Value × List K)) (h : KPr w n0 P b r rv ls lw) :
    Calls Tryz.prog 8 #[.pointer (some ⟨P, 0, none⟩)] w fun e w' => e = .returned (.bool true) ∧ Below n0 w w' ∧ LFr ls w w' := by
  obtain ⟨a0, b0, m0, q0, p0, e0, f0, l0⟩ := h.opn (t := 0) (by omega)
  obtain ⟨a1, b1, m1, q1, p1, e1, f1, l1⟩ := h.opn (t := 1) (by omega)
  obtain ⟨a2, b2, m2, q2, p2, e2, f2, l2⟩ := h.opn (t := 2) (by omega)
  have hn : m0 ≤ 1000000 ∧ m1 ≤ 1000000 ∧ m2 ≤ 1000000 := by
    rw [l0, l1, l2]
    exact ⟨(h.len 0 (by omega)).1, (h.len 1 (by omega)).1, (h.len 2 (by omega)).1⟩
  have HC : Hid (∀ W, KPr W n0 P b r rv ls lw → W.cell? ⟨P, 2, none⟩ = some (.slice a0 m0 q0) ∧ W.cell? ⟨P, 3, none⟩ = some (.slice b0 m0 p0) ∧ W.cell? ⟨P, 4, none⟩ = some (.slice a1 m1 q1) ∧ W.cell? ⟨P, 5, none⟩ = some (.slice b1 m1 p1) ∧ W.cell? ⟨P, 6, none⟩ = some (.slice a2 m2 q2) ∧ W.cell? ⟨P, 7, none⟩ = some (.slice b2 m2 p2)) := fun W hW => by
    rw [← e0, ← e1, ← e2, ← f0, ← f1, ← f2]
    exact hW.cells
  have HE0 : Hid (rv (2 + 2 * 0) = .slice a0 m0 q0 ∧ rv (3 + 2 * 0) = .slice b0 m0 p0 ∧ m0 = (ls 0).length) := ⟨e0, f0, l0⟩
  have HE1 : Hid (rv (2 + 2 * 1) = .slice a1 m1 q1 ∧ rv (3 + 2 * 1) = .slice b1 m1 p1 ∧ m1 = (ls 1).length) := ⟨e1, f1, l1⟩
  have HE2 : Hid (rv (2 + 2 * 2) = .slice a2 m2 q2 ∧ rv (3 + 2 * 2) = .slice b2 m2 p2 ∧ m2 = (ls 2).length) := ⟨e2, f2, l2⟩
  have HS : Hid (KPr w n0 P b r rv ls lw ∧ Below w.heap.size w w) := ⟨h, Below.refl _ _⟩
  have HN0 : Hid (n0 ≤ w.heap.size) := h.le
  clear h e0 e1 e2 f0 f1 f2 l0 l1 l2
  go_enter Tryz.func8, Tryz.ntmps8
  go_wp2_with fail
  go_loopw [3] (fun x wr => ∃ i : Nat, i ≤ m0 ∧ x = .int .i64 (i : Int) ∧ Hid (KPr wr n0 P b r rv ls lw ∧ Below w.heap.size w wr)) (fun x _ => m0 - (intOf x).toNat)
  case atStart => exact ⟨0, Nat.zero_le _, rfl, HS⟩
  case round =>
    clear HS
    obtain ⟨i, hi, rfl, HI⟩ := hrel
    obtain ⟨c2, c3, c4, c5, c6, c7⟩ := HC.out wr HI.out.1
    by_cases hlt : i < m0
    · have hil : i < (ls 0).length := by have := HE0.out.2.2; omega
      obtain ⟨rb, rb', ga, ga', m, gc, gc', L, hra, hrb, hm, hm6, hce⟩ := HI.out.1.at2 (t := 0) (by omega) hil HE0.out.1 HE0.out.2.1
      have HCe := hidC hce
      have HM := hidC hm
      obtain ⟨ce, ce', _, _⟩ := hce wr HI.out.1
      have HDr : Hid (KPr wr.drew n0 P b r rv ls lw ∧ Below w.heap.size w wr.drew) := ⟨HI.out.1.keep (drew_below wr 1), HI.out.2.trans ((drew_below wr 1).mono HI.out.2.size)⟩
      have HN1 : Hid (Calls Tryz.prog 30 #[.slice ga m gc, .slice ga' m gc'] wr.drew fun e w' => e = .returned (.bool true) ∧ KPr w' n0 P b r rv ls lw ∧ Below w.heap.size w w') := by
        obtain ⟨_, _, k1, k2⟩ := hce wr.drew HDr.out.1
        refine (sameKeys_eq wr.drew ga ga' m gc gc' L k1 k2 hm (by omega)).mono ?_
        rintro e w' ⟨h1, q, rfl⟩
        exact ⟨h1, HDr.out.1.keep (drew_below wr.drew q), HDr.out.2.trans ((drew_below wr.drew q).mono HDr.out.2.size)⟩
      clear hce hil hm HDr
      subst hra
      subst hrb
      have hlt' : (i : Int) < (m0 : Int) := by omega
      go_wp2_with fail
      go_region_held3 (fun w' => w'.cell? ⟨P, 2, none⟩ = some (.slice (some ⟨rb, 0, none⟩) m0 q0) ∧ w'.cell? ⟨P, 3, none⟩ = some (.slice (some ⟨rb', 0, none⟩) m0 p0) ∧ w'.cell? ⟨rb, i, none⟩ = some (.slice ga m gc) ∧ w'.cell? ⟨rb', i, none⟩ = some (.slice ga' m gc')) (first | with_reducible exact HC2.out | go_keep) (first
        | (go_at_call 30; with_reducible refine HN1.out.mono ?_; rintro e W2 ⟨rfl, hk2⟩; have HK2 := hidC hk2; obtain ⟨x2, x3, x4, x5, x6, x7⟩ := HC.out W2 hk2.1; obtain ⟨y1, y2, _, _⟩ := HCe.out W2 hk2.1; have HC2 := hidC (And.intro x2 (And.intro x3 (And.intro y1 y2))); clear hk2 x2 x3 x4 x5 x6 x7 y1 y2))
      clear c2 c3 c4 c5 c6 c7 ce ce' HN1 HI HC2
      go_wp2
      exact ⟨⟨i + 1, by omega, by go_num, HK2⟩, by simp [intOf]; omega⟩
    · obtain rfl : m0 = i := by omega
      clear hlt
      have HS := hidC HI.out
      clear HI
      go_wp2_with fail
      clear c2 c3 c4 c5 c6 c7
      generalize wr = wx at *
      go_loopw [5] (fun x wr => ∃ i : Nat, i ≤ m1 ∧ x = .int .i64 (i : Int) ∧ Hid (KPr wr n0 P b r rv ls lw ∧ Below w.heap.size w wr)) (fun x _ => m1 - (intOf x).toNat)
      case atStart => exact ⟨0, Nat.zero_le _, rfl, HS⟩
      case round =>
        clear HS
        obtain ⟨i, hi, rfl, HI⟩ := hrel
        obtain ⟨c2, c3, c4, c5, c6, c7⟩ := HC.out wr HI.out.1
        by_cases hlt : i < m1
        · have hil : i < (ls 1).length := by have := HE1.out.2.2; omega
          obtain ⟨rb, rb', ga, ga', m, gc, gc', L, hra, hrb, hm, hm6, hce⟩ := HI.out.1.at2 (t := 1) (by omega) hil HE1.out.1 HE1.out.2.1
          have HCe := hidC hce
          have HM := hidC hm
          obtain ⟨ce, ce', _, _⟩ := hce wr HI.out.1
          have HDr : Hid (KPr wr.drew n0 P b r rv ls lw ∧ Below w.heap.size w wr.drew) := ⟨HI.out.1.keep (drew_below wr 1), HI.out.2.trans ((drew_below wr 1).mono HI.out.2.size)⟩
          have HN1 : Hid (Calls Tryz.prog 33 #[.slice ga m gc, .slice ga' m gc'] wr.drew fun e w' => e = .returned (.bool true) ∧ KPr w' n0 P b r rv ls lw ∧ Below w.heap.size w w') := by
            obtain ⟨_, _, k1, k2⟩ := hce wr.drew HDr.out.1
            refine (samePlaces_eq wr.drew ga ga' m gc gc' L k1 k2 hm (by omega)).mono ?_
            rintro e w' ⟨h1, q, rfl⟩
            exact ⟨h1, HDr.out.1.keep (drew_below wr.drew q), HDr.out.2.trans ((drew_below wr.drew q).mono HDr.out.2.size)⟩
          clear hce hil hm HDr
          subst hra
          subst hrb
          have hlt' : (i : Int) < (m1 : Int) := by omega
          go_wp2_with fail
          go_region_held3 (fun w' => w'.cell? ⟨P, 4, none⟩ = some (.slice (some ⟨rb, 0, none⟩) m1 q1) ∧ w'.cell? ⟨P, 5, none⟩ = some (.slice (some ⟨rb', 0, none⟩) m1 p1) ∧ w'.cell? ⟨rb, i, none⟩ = some (.slice ga m gc) ∧ w'.cell? ⟨rb', i, none⟩ = some (.slice ga' m gc')) (first | with_reducible exact HC2.out | go_keep) (first
            | (go_at_call 33; with_reducible refine HN1.out.mono ?_; rintro e W2 ⟨rfl, hk2⟩; have HK2 := hidC hk2; obtain ⟨x2, x3, x4, x5, x6, x7⟩ := HC.out W2 hk2.1; obtain ⟨y1, y2, _, _⟩ := HCe.out W2 hk2.1; have HC2 := hidC (And.intro x4 (And.intro x5 (And.intro y1 y2))); clear hk2 x2 x3 x4 x5 x6 x7 y1 y2))
          clear c2 c3 c4 c5 c6 c7 ce ce' HN1 HI HC2
          go_wp2
          exact ⟨⟨i + 1, by omega, by go_num, HK2⟩, by simp [intOf]; omega⟩
        · obtain rfl : m1 = i := by omega
          clear hlt
          have HS := hidC HI.out
          clear HI
          go_wp2_with fail
          clear c2 c3 c4 c5 c6 c7
          generalize wr = wx at *
          go_loopw [7] (fun x wr => ∃ i : Nat, i ≤ m2 ∧ x = .int .i64 (i : Int) ∧ Hid (KPr wr n0 P b r rv ls lw ∧ Below w.heap.size w wr)) (fun x _ => m2 - (intOf x).toNat)
          case atStart => exact ⟨0, Nat.zero_le _, rfl, HS⟩
          case round =>
            clear HS
            obtain ⟨i, hi, rfl, HI⟩ := hrel
            obtain ⟨c2, c3, c4, c5, c6, c7⟩ := HC.out wr HI.out.1
            by_cases hlt : i < m2
            · have hil : i < (ls 2).length := by have := HE2.out.2.2; omega
              obtain ⟨rb, rb', ga, ga', m, gc, gc', L, hra, hrb, hm, hm6, hce⟩ := HI.out.1.at2 (t := 2) (by omega) hil HE2.out.1 HE2.out.2.1
              have HCe := hidC hce
              have HM := hidC hm
              obtain ⟨ce, ce', _, _⟩ := hce wr HI.out.1
              have HDr : Hid (KPr wr.drew n0 P b r rv ls lw ∧ Below w.heap.size w wr.drew) := ⟨HI.out.1.keep (drew_below wr 1), HI.out.2.trans ((drew_below wr 1).mono HI.out.2.size)⟩
              have HN1 : Hid (Calls Tryz.prog 27 #[.slice ga m gc, .slice ga' m gc'] wr.drew fun e w' => e = .returned (.bool true) ∧ KPr w' n0 P b r rv ls lw ∧ Below w.heap.size w w') := by
                obtain ⟨_, _, k1, k2⟩ := hce wr.drew HDr.out.1
                refine (samePins_eq wr.drew ga ga' m gc gc' L k1 k2 hm (by omega)).mono ?_
                rintro e w' ⟨h1, q, rfl⟩
                exact ⟨h1, HDr.out.1.keep (drew_below wr.drew q), HDr.out.2.trans ((drew_below wr.drew q).mono HDr.out.2.size)⟩
              clear hce hil hm HDr
              subst hra
              subst hrb
              have hlt' : (i : Int) < (m2 : Int) := by omega
              go_wp2_with fail
              go_region_held3 (fun w' => w'.cell? ⟨P, 6, none⟩ = some (.slice (some ⟨rb, 0, none⟩) m2 q2) ∧ w'.cell? ⟨P, 7, none⟩ = some (.slice (some ⟨rb', 0, none⟩) m2 p2) ∧ w'.cell? ⟨rb, i, none⟩ = some (.slice ga m gc) ∧ w'.cell? ⟨rb', i, none⟩ = some (.slice ga' m gc')) (first | with_reducible exact HC2.out | go_keep) (first
                | (go_at_call 27; with_reducible refine HN1.out.mono ?_; rintro e W2 ⟨rfl, hk2⟩; have HK2 := hidC hk2; obtain ⟨x2, x3, x4, x5, x6, x7⟩ := HC.out W2 hk2.1; obtain ⟨y1, y2, _, _⟩ := HCe.out W2 hk2.1; have HC2 := hidC (And.intro x6 (And.intro x7 (And.intro y1 y2))); clear hk2 x2 x3 x4 x5 x6 x7 y1 y2))
              clear c2 c3 c4 c5 c6 c7 ce ce' HN1 HI HC2
              go_wp2
              exact ⟨⟨i + 1, by omega, by go_num, HK2⟩, by simp [intOf]; omega⟩
            · obtain rfl : m2 = i := by omega
              clear hlt
              have HS := hidC HI.out
              clear HI
              go_wp2_with fail
              have HX : Hid (Calls Tryz.prog 35 #[.pointer (some ⟨wr.heap.size, 0, none⟩)] (wr.drew.alloc (.cells #[.slice a0 m0 q0, .slice a1 m1 q1, .slice a2 m2 q2] 83)) fun e w' => e = .returned (.bool true) ∧ Below n0 w w' ∧ LFr ls w w') := by
                have hd := HS.out.1.keep (drew_below wr 1)
                rw [← HE0.out.1, ← HE1.out.1, ← HE2.out.1]
                refine (apartS_any _ n0 wr.heap.size _ ls hd.shelf).mono ?_
                rintro e w' ⟨h1, h2⟩
                have hb : Below w.heap.size w (wr.drew.alloc (.cells #[rv 2, rv 4, rv 6] 83)) := (HS.out.2.trans ((drew_below wr 1).mono HS.out.2.size)).alloc (HS.out.2.trans ((drew_below wr 1).mono HS.out.2.size)).size _
                exact ⟨h1, (hb.mono HN0.out).trans h2.be, fun k hk hn => (h2.lf k (Nat.lt_of_lt_of_le hk hb.size) hn).trans (hb.block k hk)⟩
              clear HS
              go_region
              clear c2 c3 c4 c5 c6 c7
              go_wp2_with fail
              refine HX.out.mono ?_
              rintro e wg ⟨rfl, hg⟩
              have HG := hidC hg
              clear hg HX
              go_wp2
              go_ret
              exact ⟨rfl, HG.out.1, HG.out.2⟩
end Go.Proofs.YtbmohlkcmhhpgaaGreat
