import Derived.Test.YtbmohlkcmhhpgaaGreatBkCollH
import Derived.Test.YtbmohlkcmhhpgaaGreatJBkCopy
import Derived.Test.YtbmohlkcmhhpgaaGreatJBkWgt
/-
  THE DOCUMENT'S Collect KEEPS WHAT THE CODE'S KEEPS: THE MATHEMATICS.
-/
namespace Go.Proofs.YtbmohlkcmhhpgaaGreat
open Go.RowKit Go.Sort

/-- does a collect keep v, behind which Y stands? -/
def keptB (d : List Int) (v : V4) (Y : List V4) : Bool := Y.all (fun u => decide (u.1 ≠ v.1)) || d.any (fun p => decide (v.2.1 ≤ p) && Y.all (fun u => decide (u.1 = v.1 → p < u.2.1)))
def colD (d : List Int) : List V4 → List V4
  | [] => []
  | v :: Y => if keptB d v Y = true then v :: colD d Y else colD d Y
theorem colD_sub (d : List Int) : ∀ l : List V4, (colD d l).Sublist l
  | [] => List.Sublist.refl _
  | v :: Y => by
    simp only [colD]
    split
    · exact (colD_sub d Y).cons_cons v
    · exact (colD_sub d Y).cons v
theorem keptB_ofV (d : List Int) (v : V4) (Y : List V4) : keptB d v (ofV v.1 Y) = keptB d v Y := by
  have e1 : (ofV v.1 Y).all (fun u => decide (u.1 ≠ v.1)) = Y.all (fun u => decide (u.1 ≠ v.1)) := by
    rw [Bool.eq_iff_iff, List.all_eq_true, List.all_eq_true]
    constructor
    · intro h u hu
      by_cases e : u.1 = v.1
      · exact h u (List.mem_filter.2 ⟨hu, by simpa using e⟩)
      · simpa using e
    · intro h u hu
      exact h u (List.mem_filter.1 hu).1
  have e2 : ∀ p : Int, (ofV v.1 Y).all (fun u => decide (u.1 = v.1 → p < u.2.1)) = Y.all (fun u => decide (u.1 = v.1 → p < u.2.1)) := fun p => by
    rw [Bool.eq_iff_iff, List.all_eq_true, List.all_eq_true]
    constructor
    · intro h u hu
      by_cases e : u.1 = v.1
      · exact h u (List.mem_filter.2 ⟨hu, by simpa using e⟩)
      · simp [e]
    · intro h u hu
      exact h u (List.mem_filter.1 hu).1
  unfold keptB
  rw [e1]
  simp only [e2]
theorem colD_ofV (d : List Int) (k : K) : ∀ l : List V4, ofV k (colD d l) = colD d (ofV k l)
  | [] => rfl
  | v :: Y => by
    by_cases hv : v.1 = k
    · have e1 : ofV k (v :: Y) = v :: ofV k Y := by simp [ofV, hv]
      rw [e1]
      simp only [colD]
      have e3 : keptB d v (ofV k Y) = keptB d v Y := by rw [← hv]; exact keptB_ofV d v Y
      rw [e3]
      split
      · have e2 : ofV k (v :: colD d Y) = v :: ofV k (colD d Y) := by simp [ofV, hv]
        rw [e2, colD_ofV d k Y]
      · exact colD_ofV d k Y
    · have e1 : ofV k (v :: Y) = ofV k Y := by simp [ofV, hv]
      rw [e1]
      simp only [colD]
      split
      · have e2 : ofV k (v :: colD d Y) = ofV k (colD d Y) := by simp [ofV, hv]
        rw [e2, colD_ofV d k Y]
      · exact colD_ofV d k Y
/-- from the back, each held against the one behind it -/
def keepD (d : List Int) : List V4 → Int → List V4
  | [], _ => []
  | v :: l, yb => if seenN d v.2.1 yb = true then v :: keepD d l v.2.1 else keepD d l v.2.1
theorem seenN_iff {d : List Int} {b nx : Int} : seenN d b nx = true ↔ ∃ p ∈ d, b ≤ p ∧ p < nx := by
  unfold seenN
  rw [List.any_eq_true]
  constructor
  · rintro ⟨p, hp, h⟩
    simp at h
    exact ⟨p, hp, h⟩
  · rintro ⟨p, hp, h⟩
    exact ⟨p, hp, by simp; exact h⟩
theorem keepR_keepD {d : List Int} {k : K} : ∀ (R : List V4) (yb nb : Int), (∀ v ∈ R, v.1 = k) → (∀ v ∈ R, v.2.1 ≤ yb) → R.Pairwise (fun a b => b.2.1 ≤ a.2.1) → yb ≤ nb → (∀ p ∈ d, ¬ (yb ≤ p ∧ p < nb)) → keepR d k R nb = keepD d R yb
  | [], _, _, _, _, _, _, _ => rfl
  | v :: R, yb, nb, hk, hy, hp, hn, hd => by
    have hv := hk v (by simp)
    have hvy := hy v (by simp)
    have hp2 := List.pairwise_cons.1 hp
    have hkR : ∀ u ∈ R, u.1 = k := fun u hu => hk u (by simp [hu])
    have hs : seenN d v.2.1 nb = seenN d v.2.1 yb := by
      rw [Bool.eq_iff_iff, seenN_iff, seenN_iff]
      constructor
      · rintro ⟨p, hp, h1, h2⟩
        refine ⟨p, hp, h1, ?_⟩
        have := hd p hp
        omega
      · rintro ⟨p, hp, h1, h2⟩
        exact ⟨p, hp, h1, by omega⟩
    simp only [keepR, keepD, if_pos hv, hs]
    split
    · rw [keepR_keepD R v.2.1 v.2.1 hkR hp2.1 hp2.2 (Int.le_refl _) (fun p _ => by omega)]
    · rename_i hns
      refine keepR_keepD R v.2.1 nb hkR hp2.1 hp2.2 (by omega) (fun p hp h => ?_)
      refine hns (seenN_iff.2 ⟨p, hp, h.1, ?_⟩)
      have := hd p hp
      omega
theorem keptB_next {d : List Int} {k : K} {v y : V4} {Y : List V4} (hv : v.1 = k) (hy : ∀ u ∈ y :: Y, u.1 = k) (hr : ∀ u ∈ Y, y.2.1 ≤ u.2.1) : keptB d v (y :: Y) = seenN d v.2.1 y.2.1 := by
  have hy1 := hy y (by simp)
  rw [Bool.eq_iff_iff, seenN_iff]
  unfold keptB
  rw [Bool.or_eq_true, List.any_eq_true]
  constructor
  · rintro (h | ⟨p, hp, h⟩)
    · rw [List.all_eq_true] at h
      have := h y (by simp)
      simp [hy1, hv] at this
    · rw [Bool.and_eq_true, List.all_eq_true] at h
      have h2 := h.2 y (by simp)
      simp [hy1, hv] at h2
      exact ⟨p, hp, by simpa using h.1, h2⟩
  · rintro ⟨p, hp, h1, h2⟩
    refine .inr ⟨p, hp, ?_⟩
    rw [Bool.and_eq_true, List.all_eq_true]
    refine ⟨by simpa using h1, fun u hu => ?_⟩
    simp only [decide_eq_true_eq]
    intro _
    rcases List.mem_cons.1 hu with rfl | hu
    · exact h2
    · have := hr u hu; omega
theorem colD_keepD {d : List Int} {k : K} : ∀ (R : List V4) (y : V4) (Y : List V4), (∀ v ∈ R, v.1 = k) → (∀ u ∈ y :: Y, u.1 = k) → (∀ u ∈ Y, y.2.1 ≤ u.2.1) → (∀ v ∈ R, v.2.1 ≤ y.2.1) → R.Pairwise (fun a b => b.2.1 ≤ a.2.1) → colD d (R.reverse ++ y :: Y) = (keepD d R y.2.1).reverse ++ colD d (y :: Y)
  | [], _, _, _, _, _, _, _ => rfl
  | v :: R, y, Y, hk, hy, hr, hv, hp => by
    have hp2 := List.pairwise_cons.1 hp
    have hvk := hk v (by simp)
    have hvy := hv v (by simp)
    have hr2 : ∀ u ∈ y :: Y, v.2.1 ≤ u.2.1 := fun u hu => by
      rcases List.mem_cons.1 hu with rfl | hu
      · exact hvy
      · have := hr u hu; omega
    have e1 : (v :: R).reverse ++ y :: Y = R.reverse ++ v :: y :: Y := by simp
    rw [e1, colD_keepD R v (y :: Y) (fun u hu => hk u (by simp [hu])) (fun u hu => by
      rcases List.mem_cons.1 hu with rfl | hu
      · exact hvk
      · exact hy u hu) hr2 hp2.1 hp2.2]
    rw [show colD d (v :: y :: Y) = if keptB d v (y :: Y) = true then v :: colD d (y :: Y) else colD d (y :: Y) from rfl, keptB_next hvk hy hr]
    simp only [keepD]
    split
    · simp
    · rfl
theorem colD_kpt {d : List Int} {k : K} {l : List V4} (hk : ∀ v ∈ l, v.1 = k) (hp : l.Pairwise (fun a b => a.2.1 ≤ b.2.1)) : colD d l = kpt d l := by
  cases hr : l.reverse with
  | nil =>
    have e : l = [] := by have := congrArg List.reverse hr; simpa using this
    subst e
    rfl
  | cons u r =>
    have e : l = r.reverse ++ [u] := by have := congrArg List.reverse hr; simpa using this
    have ek : kpt d l = (keepR d u.1 r u.2.1).reverse ++ [u] := by unfold kpt; rw [hr]
    have hu : u.1 = k := hk u (by rw [e]; simp)
    have hkr : ∀ v ∈ r, v.1 = k := fun v hv => hk v (by rw [e]; simp [hv])
    rw [e, List.pairwise_append] at hp
    have hle : ∀ v ∈ r, v.2.1 ≤ u.2.1 := fun v hv => hp.2.2 v (by simpa using hv) u (by simp)
    have hpr : r.Pairwise (fun a b => b.2.1 ≤ a.2.1) := by have := List.pairwise_reverse.1 hp.1; exact this
    rw [ek, e, colD_keepD r u [] hkr (fun x hx => by simp at hx; rw [hx]; exact hu) (by simp) hle hpr, hu, keepR_keepD r u.2.1 u.2.1 hkr hle hpr (Int.le_refl _) (fun p _ => by omega)]
    simp [colD, keptB]
theorem ofV_sub (k : K) (l : List V4) : (ofV k l).Sublist l := List.filter_sublist
/-- what the document's Collect leaves is what the code's leaves -/
theorem colD_coll {d : List Int} {all : List V4} (hr : all.Pairwise (fun a b => a.1 = b.1 → later b a)) : CollN d all (colD d all) := by
  refine ⟨colD_sub d all, fun k => ?_⟩
  rw [colD_ofV]
  refine colD_kpt (k := k) (fun v hv => by simpa using (List.mem_filter.1 hv).2) ?_
  refine List.Pairwise.imp_of_mem ?_ (hr.sublist (ofV_sub k all))
  intro a b ha hb hab
  have h1 := (List.mem_filter.1 ha).2
  have h2 := (List.mem_filter.1 hb).2
  simp at h1 h2
  have := hab (h1.trans h2.symm)
  unfold later at this
  omega
theorem sub_eq {l : List V4} (hn : l.Nodup) : ∀ {a b : List V4}, a.Sublist l → b.Sublist l → (∀ v, v ∈ a ↔ v ∈ b) → a = b := by
  induction l with
  | nil =>
    intro a b ha hb _
    rw [List.sublist_nil.1 ha, List.sublist_nil.1 hb]
  | cons x l ih =>
    intro a b ha hb h
    have hx := List.nodup_cons.1 hn
    cases ha with
    | cons _ ha' =>
      cases hb with
      | cons _ hb' => exact ih hx.2 ha' hb' h
      | cons_cons _ hb' => exact absurd (ha'.subset ((h x).2 (by simp))) hx.1
    | cons_cons _ ha' =>
      cases hb with
      | cons _ hb' => exact absurd (hb'.subset ((h x).1 (by simp))) hx.1
      | cons_cons _ hb' =>
        rw [ih hx.2 ha' hb' (fun v => ?_)]
        constructor
        · intro hv
          rcases List.mem_cons.1 ((h v).1 (by simp [hv])) with rfl | h1
          · exact absurd (ha'.subset hv) hx.1
          · exact h1
        · intro hv
          rcases List.mem_cons.1 ((h v).2 (by simp [hv])) with rfl | h1
          · exact absurd (hb'.subset hv) hx.1
          · exact h1
theorem coll_one {d : List Int} {all a b : List V4} (hn : all.Nodup) (ha : CollN d all a) (hb : CollN d all b) : a = b := by
  refine sub_eq hn ha.1 hb.1 (fun v => ?_)
  have e : ∀ l : List V4, v ∈ l ↔ v ∈ ofV v.1 l := fun l => ⟨fun h => List.mem_filter.2 ⟨h, by simp⟩, fun h => (List.mem_filter.1 h).1⟩
  rw [e a, e b, ha.2, hb.2]
end Go.Proofs.YtbmohlkcmhhpgaaGreat
/-
  THE DOCUMENT'S BOOK: WHAT LIES WHERE.
-/
namespace Go.Proofs.YtbmohlkcmhhpgaaGreat
open Go.RowKit Go.Sort

theorem rowBaseD {w : World} {base base' : Nat} {T : TypeId} {sz n : Nat} {v : Value} {xs : List Value} (h : w.ownsRow base T sz v n xs) (hb : base' ≤ base) : w.ownsRow base' T sz v n xs := by
  obtain ⟨hl, h⟩ := h
  refine ⟨hl, ?_⟩
  rcases h with h | ⟨g, cap, cur, e, hg, r⟩
  · exact .inl h
  · exact .inr ⟨g, cap, cur, e, Nat.le_trans hb hg, r⟩
theorem rowOpenD {w : World} {base : Nat} {T : TypeId} {sz n : Nat} {v : Value} {xs : List Value} (h : w.ownsRow base T sz v n xs) : ∃ a m c, v = .slice a m c ∧ m = n := by
  obtain ⟨_, ⟨rfl, h0⟩ | ⟨g, cp, cur, rfl, _⟩⟩ := h
  · exact ⟨_, _, _, rfl, h0.symm⟩
  · exact ⟨_, _, _, rfl, rfl⟩
theorem v4s_at : ∀ (l : List V4) (j : Nat) (h : j < l.length), (v4s l)[j * 4]? = some (.int .i64 l[j].1.1) ∧ (v4s l)[j * 4 + 1]? = some (.int .i64 l[j].1.2) ∧ (v4s l)[j * 4 + 2]? = some (.int .i64 l[j].2.1) ∧ (v4s l)[j * 4 + 3]? = some (.int .i64 l[j].2.2)
  | [], j, h => by simp at h
  | x :: l, 0, _ => by simp [v4s]
  | x :: l, j + 1, h => by
    have := v4s_at l j (by simp at h; omega)
    rw [show (j + 1) * 4 = j * 4 + 1 + 1 + 1 + 1 by omega]
    simpa [v4s] using this
theorem CsAt.ver {N : Nat} {w : World} {ao : Option Addr} {l : List V4} (h : CsAt N w ao (v4s l)) {i : Nat} (hi : i < l.length) : ∃ b off, ao = some ⟨b, off, none⟩ ∧ w.cell? ⟨b, off + i * 4, none⟩ = some (.int .i64 l[i].1.1) ∧ w.cell? ⟨b, off + i * 4 + 1, none⟩ = some (.int .i64 l[i].1.2) ∧ w.cell? ⟨b, off + i * 4 + 2, none⟩ = some (.int .i64 l[i].2.1) ∧ w.cell? ⟨b, off + i * 4 + 3, none⟩ = some (.int .i64 l[i].2.2) := by
  obtain ⟨h1, h2, h3, h4⟩ := v4s_at l i hi
  obtain ⟨b, off, e1, _, e2⟩ := h _ _ h1
  obtain ⟨b', off', e1', _, e2'⟩ := h _ _ h2
  obtain ⟨b'', off'', e1'', _, e2''⟩ := h _ _ h3
  obtain ⟨b3, off3, e13, _, e23⟩ := h _ _ h4
  rw [e1] at e1' e1'' e13
  cases e1'
  cases e1''
  cases e13
  exact ⟨b, off, e1, e2, by rw [Nat.add_assoc]; exact e2', by rw [Nat.add_assoc]; exact e2'', by rw [Nat.add_assoc]; exact e23⟩
theorem CsAt.pin {N : Nat} {w : World} {ao : Option Addr} {l : List (Int × Int)} (h : CsAt N w ao (pns l)) {i : Nat} (hi : i < l.length) : ∃ b off, ao = some ⟨b, off, none⟩ ∧ w.cell? ⟨b, off + i * 2, none⟩ = some (.int .i64 l[i].1) ∧ w.cell? ⟨b, off + i * 2 + 1, none⟩ = some (.int .i64 l[i].2) := by
  obtain ⟨h1, h2⟩ := pns_at l i hi
  obtain ⟨b, off, e1, _, e2⟩ := h _ _ h1
  obtain ⟨b', off', e1', _, e2'⟩ := h _ _ h2
  rw [e1] at e1'
  cases e1'
  exact ⟨b, off, e1, e2, by rw [Nat.add_assoc]; exact e2'⟩
/-- what the document's book is made of -/
def SR (R : Nat) (av pv : Value) (k : Nat) : Prop := k = R ∨ av.ownBlock = some k ∨ pv.ownBlock = some k
/-- what a call leaves -/
def RPost (w : World) (base R : Nat) (room : Int) (av pv : Value) (s' : Bs) (w' : World) : Prop :=
  ∃ av' pv', RB w' base R room s'.la s'.fl av' pv' s'.all s'.pins ∧ Fr (SR R av pv) w w' ∧ ∀ k, SR R av' pv' k → SR R av pv k ∨ w.heap.size ≤ k
section
variable {w w' : World} {base R : Nat} {room last low : Int} {av pv : Value} {all : List V4} {pins : List (Int × Int)}
theorem RB.ltS (h : RB w base R room last low av pv all pins) {k : Nat} (hk : SR R av pv k) : k < w.heap.size := by
  rcases hk with rfl | hk | hk
  · exact blk_lt h.bk
  · exact (World.ownsRow.lt h.ra k hk).2
  · exact (World.ownsRow.lt h.rp k hk).2
theorem RB.geS (h : RB w base R room last low av pv all pins) {k : Nat} (hk : SR R av pv k) : base ≤ k := by
  rcases hk with rfl | hk | hk
  · exact h.le
  · exact (World.ownsRow.lt h.ra k hk).1
  · exact (World.ownsRow.lt h.rp k hk).1
theorem RB.sameS (h : RB w base R room last low av pv all pins) (hs : ∀ k, SR R av pv k → w'.heap[k]? = w.heap[k]?) : RB w' base R room last low av pv all pins :=
  ⟨(hs R (.inl rfl)).trans h.bk, rowSame h.ra (fun g hg => hs g (.inr (.inl hg))), rowSame h.rp (fun g hg => hs g (.inr (.inr hg))), h.le⟩
/-- what kind of blocks they are -/
theorem RB.kind (h : RB w base R room last low av pv all pins) {k : Nat} (hk : SR R av pv k) : ∃ cur T, w.heap[k]? = some (.cells cur T (0, 0)) ∧ (T = 74 ∨ T = 101 ∨ T = 92) := by
  rcases hk with rfl | hk | hk
  · exact ⟨_, _, h.bk, .inl rfl⟩
  · obtain ⟨cur, hc⟩ := rowBlock h.ra hk
    exact ⟨_, _, hc, .inr (.inl rfl)⟩
  · obtain ⟨cur, hc⟩ := rowBlock h.rp hk
    exact ⟨_, _, hc, .inr (.inr rfl)⟩
theorem RB.quiet (h : RB w base R room last low av pv all pins) (hb : Below w.heap.size w w') : RPost w base R room av pv ⟨last, low, pins, all⟩ w' :=
  ⟨av, pv, h.kept hb, Fr.ofBelow hb, fun _ hk => .inl hk⟩
/-- another list of versions is stored -/
theorem RB.setAll (h : RB w base R room last low av pv all pins) {av' : Value} {all' : List V4} (ho : w.ownsRow base 101 4 av' all'.length (v4s all')) : RB (w.setCell ⟨R, 3, none⟩ av') base R room last low av' pv all' pins := by
  have hs : ∀ k, k ≠ R → (w.setCell ⟨R, 3, none⟩ av').heap[k]? = w.heap[k]? := fun k hk => heap_setCell_other _ _ _ _ (fun e => hk e)
  refine ⟨heap_setCell_same w R 3 _ _ av' h.bk, rowSame ho (fun g hg => hs g (fun e => ?_)), rowSame h.rp (fun g hg => hs g (fun e => h.neP (by rw [hg, e]))), h.le⟩
  obtain ⟨cur, hc⟩ := rowBlock ho hg
  rw [e, h.bk] at hc
  cases hc
theorem RB.setPins (h : RB w base R room last low av pv all pins) {pv' : Value} {pins' : List (Int × Int)} (ho : w.ownsRow base 92 2 pv' pins'.length (pns pins')) : RB (w.setCell ⟨R, 4, none⟩ pv') base R room last low av pv' all pins' := by
  have hs : ∀ k, k ≠ R → (w.setCell ⟨R, 4, none⟩ pv').heap[k]? = w.heap[k]? := fun k hk => heap_setCell_other _ _ _ _ (fun e => hk e)
  refine ⟨heap_setCell_same w R 4 _ _ pv' h.bk, rowSame h.ra (fun g hg => hs g (fun e => h.neA (by rw [hg, e]))), rowSame ho (fun g hg => hs g (fun e => ?_)), h.le⟩
  obtain ⟨cur, hc⟩ := rowBlock ho hg
  rw [e, h.bk] at hc
  cases hc
end
/-- one element more behind a row of one's own; the element is laid first -/
theorem AKd.app1 {TS TE : TypeId} {sz bt : Nat} {z : Value} (H : AKd TS TE sz bt z) (w : World) (ty : TypeId) (base : Nat) (v : Value) (n : Nat) (xs ys : List Value) (hown : w.ownsRow base TE sz v n xs) (hm : ys.length = sz) (h1 : ∀ u ∈ ys, u.oneCell' = true) (hlen : n + 1 ≤ 1000000000000) (hb : bt ≤ 100) (hbase : base ≤ w.heap.size) :
    ∃ v' w', (Builtin.append_ #[TS, TS] ty #[v, .slice (some ⟨w.heap.size, 0, none⟩) 1 1]).run Tryz.prog (w.alloc (.cells ys.toArray TE)) = .ok v' w' ∧ (∃ a m c, v' = .slice a m c) ∧ w'.ownsRow base TE sz v' (n + 1) (xs ++ ys) ∧ (w.alloc (.cells ys.toArray TE)).grownBy w' v.ownBlock ∧ (v'.ownBlock = v.ownBlock ∨ v'.ownBlock = some (w.heap.size + 1)) := by
  have hb1 : Below w.heap.size w (w.alloc (.cells ys.toArray TE)) := (Below.refl _ _).alloc (Nat.le_refl _) _
  have ho : (w.alloc (.cells ys.toArray TE)).ownsRow base TE sz v n xs := rowSame hown (fun g hg => hb1.block g (World.ownsRow.lt hown g hg).2)
  obtain ⟨v', w', z1, z2, z3, z4⟩ := H.app (w := w.alloc (.cells ys.toArray TE)) ty base v n xs ho (w.heap.size + 1) (some ⟨w.heap.size, 0, none⟩) 1 1 ys (by rw [Nat.one_mul]; exact hm) (CsAt.new w ys TE) (by simp) h1 hlen hb (Nat.le_trans hbase hb1.size)
  obtain ⟨a, m, c, e, _⟩ := rowOpenD z2
  exact ⟨v', w', z1, ⟨a, m, c, e⟩, z2, z3, by simpa using z4⟩
theorem akPl : AKd 78 99 2 16 (.agg #[.int .i64 0, .int .i64 0]) := ⟨Tryz.underlying78, by kernel_rfl, rfl, by omega⟩
theorem akKey : AKd 51 43 2 16 (.agg #[.int .i64 0, .int .i64 0]) := ⟨Tryz.underlying51, by kernel_rfl, rfl, by omega⟩
theorem appBelow {w w' : World} {n : Nat} {o : Obj} {v : Value} {base : Nat} {T : TypeId} {sz m : Nat} {xs : List Value} (hg : (w.alloc o).grownBy w' v.ownBlock) (hown : w.ownsRow base T sz v m xs) (hn : n ≤ base) (hs : n ≤ w.heap.size) : Below n w w' := by
  have hb1 : Below n w (w.alloc o) := (Below.refl _ _).alloc hs _
  exact hb1.grown hg (by have := hb1.size; omega) (fun k e => Nat.le_trans hn (World.ownsRow.lt hown k e).1)
end Go.Proofs.YtbmohlkcmhhpgaaGreat
