import Derived.Test.YtglodmmmcdjgcaaJ31
/-
  grow: sets with room behind them: only what lies behind their ends turns.
-/
namespace Go.Proofs.Ytglodmmmcdjgcaa.Kk
open Go.RowKit Go.Sort

section
variable {w0 w W : World} {B : Nat} {aK : Option Addr} {cK : Nat} {aO : Option Addr} {cO : Nat} {Ks : List Ic} {Os : List It}
theorem SW.nokey (h : SW w0 w B aK cK aO cO Ks Os) {G : Nat} (hG : G < w0.heap.size ∨ B ≤ G) : ∀ x ∈ Ks, x.1 ≠ some G := fun x hx e => by
  have := (h.rK x hx).lo e
  omega
theorem SW.spr (h : SW w0 w B aK cK aO cO Ks Os) (hs : Spr w W Ks) : SW w0 W B aK cK aO cO Ks Os := by
  have hB := h.lt
  have hge := h.ge
  have hold : ∀ G, B ≤ G → G < w.heap.size → W.heap[G]? = w.heap[G]? := fun G h1 h2 => hs.block G h2 (h.nokey (.inr h1))
  refine ⟨(hold B (Nat.le_refl _) hB).trans h.bx, ownsRow_same h.oK fun g hg => ?_, h.oO.same fun g hg => ?_, fun x hx => ?_, fun x hx => ?_, h.sK, h.sO, h.lK, h.lO, h.n, ⟨hs.os.trans h.bel.os, hs.tape.trans h.bel.tape, hs.output.trans h.bel.output, Nat.le_trans h.bel.size hs.size, fun k hk => ?_⟩, h.ge⟩
  · have := World.ownsRow.lt h.oK g hg; exact hold g (by omega) this.2
  · have := h.oO.lt g hg; exact hold g (by omega) this.2
  · obtain ⟨i, hi, rfl⟩ := List.mem_iff_getElem.1 hx
    exact hs.rc hi (h.rK _ hx) (by omega)
  · obtain ⟨o, n⟩ := x
    cases o with
    | none => exact h.rO _ hx
    | some g =>
      obtain ⟨h1, h2, cur, h3, h4⟩ := (h.rO _ hx).at
      refine ⟨h1, h2, cur, (hs.block g (by omega) (fun y hy e => ?_)).trans h3, h4⟩
      obtain ⟨_, _, cy, hcy⟩ := ic_at (h.rK y hy) e
      exact ne_of_type hcy h3 (by decide) rfl
  · have hw := h.bel.size
    exact (hs.block k (by omega) (h.nokey (.inl hk))).trans (h.bel.block k hk)
theorem UpC.spr (hu : UpC w Ks Ks.length) (h : SW w0 w B aK cK aO cO Ks Os) (hs : Spr w W Ks) : UpC W Ks Ks.length := fun i hl hi g e j hj t u ht => by
  obtain ⟨_, g2, cur, hc⟩ := ic_at (h.rK _ (List.getElem_mem hl)) e
  obtain ⟨cur', h1, _, h3⟩ := hs.row i hl g e (by have := h.lt; omega) cur hc
  have hc0 := hu i hl hi g e j hj t u ht
  have htl : t < 2 := (List.getElem?_eq_some_iff.1 ht).1
  simp only [World.cell?, hc] at hc0
  simp only [World.cell?, h1]
  rw [h3 (j * 2 + t) (by omega)]
  exact hc0
theorem OUp.spr (ho : OUp w (B + 1) Os Os.length) (h : SW w0 w B aK cK aO cO Ks Os) (hs : Spr w W Ks) : OUp W (B + 1) Os Os.length := by
  refine ho.same (fun i hl _ g e => ?_) (fun G h1 h2 => hs.block G h2 (h.nokey (.inr (by omega))))
  obtain ⟨_, g2, cur, hc, _⟩ := it_at (h.rO _ (List.getElem_mem hl)) e
  refine hs.block g (by have := h.lt; omega) (fun y hy e2 => ?_)
  obtain ⟨_, _, cy, hcy⟩ := ic_at (h.rK y hy) e2
  exact ne_of_type hcy hc (by decide) rfl
end
/-- the set that grows: in its own room, or a row of the call's own -/
def GC (w W : World) (lo : Nat) (og : Option Nat) (m c : Nat) (gv : Value) (k : Nat) : Prop := ∃ xs, W.ownsRow lo 47 2 gv (m + k) xs ∧ ((∃ g, og = some g ∧ gv = .slice (some ⟨g, 0, none⟩) (m + k) c) ∨ (∀ b, gv.ownBlock = some b → w.heap.size ≤ b))
def Ax (v u : Value) : Prop := ∀ g, v.ownBlock = some g → u.ownBlock ≠ some g
theorem row_of {W : World} {lo g n c : Nat} {xs : List Value} (h : W.ownsRow lo 47 2 (.slice (some ⟨g, 0, none⟩) n c) n xs) : ∃ cur, W.heap[g]? = some (.cells cur 47 (0, 0)) ∧ cur.size = c * 2 ∧ n ≤ c ∧ ∀ j, j < n * 2 → cur[j]? = xs[j]? := by
  obtain ⟨hl, ⟨e, _⟩ | ⟨g', cap, cur, e, _, hh, hn, _, hs, ht⟩⟩ := h
  · cases e
  · simp only [Value.slice.injEq, Option.some.injEq, Addr.mk.injEq, and_true, true_and] at e
    obtain ⟨rfl, rfl⟩ := e
    refine ⟨cur, hh, hs, hn, fun j hj => ?_⟩
    rw [← ht, List.getElem?_take, if_pos hj]
    simp
theorem spr_room {w W W' : World} {Ks : List Ic} (hS : Spr w W Ks) (hr : RsC Ks) {i : Nat} (hil : i < Ks.length) {g m c n n' lo : Nat} (e : Ks[i] = (some g, m, c)) {xs ys : List Value} (h1 : W.ownsRow lo 47 2 (.slice (some ⟨g, 0, none⟩) n c) n xs) (h2 : W'.ownsRow lo 47 2 (.slice (some ⟨g, 0, none⟩) n' c) n' (xs ++ ys)) (hm : m ≤ n) (hn : n ≤ n') (hg : W.grownBy W' (some g)) : Spr w W' Ks := by
  obtain ⟨cu, a1, a2, a3, a4⟩ := row_of h1
  obtain ⟨cu', b1, b2, b3, b4⟩ := row_of h2
  refine hS.room hr hil (by rw [e]) hg a1 b1 (b2.trans a2.symm) (fun j hj => ?_)
  rw [e] at hj
  have hj' : j < m * 2 := hj
  have hxl : xs.length = n * 2 := h1.1
  rw [b4 j (by omega), a4 j (by omega), List.getElem?_append_left (by omega)]
theorem growC_step {w W : World} {Ks : List Ic} (hS : Spr w W Ks) (hr : RsC Ks) {i : Nat} (hil : i < Ks.length) {og : Option Nat} {m c lo : Nat} (e : Ks[i] = (og, m, c)) (hlo : lo ≤ w.heap.size) (hm : m ≤ 100000) {k km : Nat} (hk : k < 100) {gv mv : Value} (hG : GC w W lo og m c gv k) (hM : MS w W 47 2 mv km) (ha : Ax gv mv) (news : List Value) (hl : news.length = 1 * 2) (h1 : ∀ u ∈ news, u.oneCell' = true) (ty : TypeId) :
    ∃ v' w', (Builtin.append_ #[30, 30] ty #[gv, .slice (some ⟨W.heap.size, 0, none⟩) 1 1]).run Try.prog (W.alloc (.cells news.toArray 47)) = .ok v' w' ∧ (Spr w w' Ks ∧ GC w w' lo og m c v' (k + 1) ∧ MS w w' 47 2 mv km ∧ Ax v' mv ∧ ∃ a n c, v' = .slice a n c) := by
  have hA : Below W.heap.size W (W.alloc (.cells news.toArray 47)) := (Below.refl _ _).alloc (Nat.le_refl _) _
  have hsz := hS.size
  have hS1 : Spr w (W.alloc (.cells news.toArray 47)) Ks := hS.up (hA.mono hsz)
  obtain ⟨ys, hM, hMo⟩ := hM
  have hML : ∀ g, mv.ownBlock = some g → w.heap.size ≤ g ∧ g < W.heap.size := fun g e => World.ownsRow.lt hM g e
  have hMA : (W.alloc (.cells news.toArray 47)).ownsRow w.heap.size 47 2 mv km ys := ownsRow_same hM fun g e => hA.block g (hML g e).2
  obtain ⟨xs, hG, hwh⟩ := hG
  have hGL : ∀ g, gv.ownBlock = some g → lo ≤ g ∧ g < W.heap.size := fun g e => World.ownsRow.lt hG g e
  have hGA : (W.alloc (.cells news.toArray 47)).ownsRow lo 47 2 gv (m + k) xs := ownsRow_same hG fun g e => hA.block g (hGL g e).2
  obtain ⟨v', w', hrun, ho, hcase⟩ := run_append_C elK ty lo gv (m + k) xs hGA ⟨W.heap.size, 0, none⟩ 1 1 news hl new_cells h1 (by omega) (by simp; omega)
  refine ⟨v', w', hrun, ?_⟩
  rcases hcase with ⟨g', cap, egv, ev', hg⟩ | ⟨ho2, hg⟩
  · have hgb : gv.ownBlock = some g' := by rw [egv]; rfl
    have hvb : v'.ownBlock = some g' := by rw [ev']; rfl
    have hMw : MS w w' 47 2 mv km := ⟨ys, ownsRow_same hMA fun g e => hg.block g (by have := (hML g e).2; simp; omega) (fun e2 => ha g' hgb (by rw [e]; exact e2)), hMo⟩
    have hAx : Ax v' mv := fun g e => by rw [hvb] at e; cases e; exact ha g' hgb
    rcases hwh with ⟨g, rfl, eg⟩ | hb
    · rw [eg] at egv
      simp only [Value.slice.injEq, Option.some.injEq, Addr.mk.injEq, and_true, true_and] at egv
      obtain ⟨rfl, rfl⟩ := egv
      subst ev' eg
      exact ⟨spr_room hS1 hr hil e hGA ho (by omega) (by omega) hg, ⟨_, ho, .inl ⟨_, rfl, rfl⟩⟩, hMw, hAx, _, _, _, rfl⟩
    · have hge := hb g' hgb
      exact ⟨hS1.up (grown_below hg (fun k e => by cases e; exact hge) (by simp; omega)), ⟨_, ho, .inr fun b e => by rw [hvb] at e; cases e; exact hge⟩, hMw, hAx, row_slice ho⟩
  · refine ⟨hS1.up (grown_below hg (fun k e => by cases e) (by simp; omega)), ⟨_, ho, .inr fun b e => ?_⟩, ⟨ys, ownsRow_same hMA fun g e => hg.block g (by have := (hML g e).2; simp; omega) (fun e => by cases e), hMo⟩, fun g e e2 => ?_, row_slice ho⟩
    · have := (World.ownsRow.lt ho2 b e).1
      simp at this
      omega
    · have h3 := (World.ownsRow.lt ho2 g e).1
      have h4 := (hML g e2).2
      simp at h3
      omega
theorem manyC_step {w W : World} {Ks : List Ic} (hS : Spr w W Ks) {og : Option Nat} {m c lo : Nat} {k km : Nat} (hk : km < 100) {gv mv : Value} (hG : GC w W lo og m c gv k) (hM : MS w W 47 2 mv km) (ha : Ax gv mv) (news : List Value) (hl : news.length = 1 * 2) (h1 : ∀ u ∈ news, u.oneCell' = true) (ty : TypeId) :
    ∃ v' w', (Builtin.append_ #[30, 30] ty #[mv, .slice (some ⟨W.heap.size, 0, none⟩) 1 1]).run Try.prog (W.alloc (.cells news.toArray 47)) = .ok v' w' ∧ (Spr w w' Ks ∧ GC w w' lo og m c gv k ∧ MS w w' 47 2 v' (km + 1) ∧ Ax gv v' ∧ ∃ a n c, v' = .slice a n c) := by
  have hA : Below W.heap.size W (W.alloc (.cells news.toArray 47)) := (Below.refl _ _).alloc (Nat.le_refl _) _
  have hsz := hS.size
  have hS1 : Spr w (W.alloc (.cells news.toArray 47)) Ks := hS.up (hA.mono hsz)
  obtain ⟨ys, hM, hMo⟩ := hM
  have hML : ∀ g, mv.ownBlock = some g → w.heap.size ≤ g ∧ g < W.heap.size := fun g e => World.ownsRow.lt hM g e
  obtain ⟨xs, hG, hwh⟩ := hG
  have hGL : ∀ g, gv.ownBlock = some g → lo ≤ g ∧ g < W.heap.size := fun g e => World.ownsRow.lt hG g e
  have hGA : (W.alloc (.cells news.toArray 47)).ownsRow lo 47 2 gv (m + k) xs := ownsRow_same hG fun g e => hA.block g (hGL g e).2
  obtain ⟨v', w', hr, ho, hg, hat⟩ := run_append_E elK (w := W.alloc (.cells news.toArray 47)) ty w.heap.size mv km ys (ownsRow_same hM fun g e => hA.block g (hML g e).2) ⟨W.heap.size, 0, none⟩ 1 1 news hl new_cells h1 (by omega) (by simp; omega)
  refine ⟨v', w', hr, hS1.up (grown_below hg (fun k e => (hML k e).1) (by simp; omega)), ⟨xs, ownsRow_same hGA fun g e => hg.block g (by have := (hGL g e).2; simp; omega) (fun e2 => ha g e e2.symm), hwh⟩, ⟨_, ho, fun u hu => (List.mem_append.1 hu).elim (hMo u) (h1 u)⟩, fun g e e2 => ?_, row_slice ho⟩
  rcases hat with hat | hat
  · rw [hat] at e2; exact ha g e e2
  · rw [hat] at e2; cases e2
    have := (hGL _ e).2
    simp at this
    omega
/-- the last one: many at once; then a store behind the end -/
theorem lastC_step {w W : World} {Ks : List Ic} (hS : Spr w W Ks) (hr : RsC Ks) {i : Nat} (hil : i < Ks.length) {og : Option Nat} {m c lo hi : Nat} (e : Ks[i] = (og, m, c)) (hx : Rc W lo hi (og, m, c)) (hlo : lo ≤ w.heap.size) (hm : m ≤ 100000) {k : Nat} (hk : 0 < k) (hk2 : k < 100) {mv : Value} (hM : MS w W 47 2 mv k) (ty : TypeId) :
    ∃ v' w', (Builtin.append_ #[30, 30] ty #[icv (og, m, c), mv]).run Try.prog W = .ok v' w' ∧ (Spr w w' Ks ∧ ∃ b cap cur, v' = .slice (some ⟨b, 0, none⟩) (m + k) cap ∧ w'.heap[b]? = some (.cells cur 47 (0, 0)) ∧ cur.size = cap * 2 ∧ m + k ≤ cap ∧ ∀ z, Spr w (w'.setCell ⟨b, m * 2 + 1, none⟩ z) Ks) := by
  have hsz := hS.size
  obtain ⟨ys, hM, hMo⟩ := hM
  have h1 := hMo
  rcases hM with ⟨hl, ⟨_, h0⟩ | ⟨g, cap, cur, rfl, hg, hh, hn, hcm, hs, ht⟩⟩
  · omega
  have hM2 : W.ownsRow w.heap.size 47 2 (.slice (some ⟨g, 0, none⟩) k cap) k ys := ⟨hl, .inr ⟨g, cap, cur, rfl, hg, hh, hn, hcm, hs, ht⟩⟩
  obtain ⟨xs, hX⟩ := hx.own
  simp only at hX
  obtain ⟨v', w', hrun, ho, hcase⟩ := run_append_C elK ty lo (icv (og, m, c)) m xs hX ⟨g, 0, none⟩ k cap ys hl (World.ownsRow.cells hM2 rfl) h1 (by omega) (by omega)
  refine ⟨v', w', hrun, ?_⟩
  rcases hcase with ⟨g', cap', egv, ev', hgr⟩ | ⟨ho2, hgr⟩
  · cases og with
    | none => simp [icv] at egv
    | some g0 =>
      simp only [icv, Option.map_some, Value.slice.injEq, Option.some.injEq, Addr.mk.injEq, and_true, true_and] at egv
      obtain ⟨rfl, rfl⟩ := egv
      subst ev'
      have hX' : W.ownsRow lo 47 2 (.slice (some ⟨g0, 0, none⟩) m c) m xs := hX
      have hS2 := spr_room hS hr hil e hX' ho (Nat.le_refl _) (by omega) hgr
      obtain ⟨cu', b1, b2, b3, b4⟩ := row_of ho
      refine ⟨hS2, g0, c, cu', rfl, b1, b2, b3, fun z => ?_⟩
      refine hS2.room hr hil (by rw [e]) ⟨rfl, rfl, rfl, by simp, fun G hG hne => heap_setCell_other w' ⟨g0, m * 2 + 1, none⟩ G z (fun e2 => hne (by rw [e2]))⟩ b1 (heap_setCell_same w' g0 (m * 2 + 1) _ _ z b1) (by simp) (fun j hj => ?_)
      rw [e] at hj
      have hj' : j < m * 2 := hj
      simp only [Array.getElem?_setIfInBounds, if_neg (show ¬ m * 2 + 1 = j by omega)]
  · have hS2 := hS.up (grown_below hgr (fun k e => by cases e) hsz)
    rcases ho2 with ⟨_, ⟨_, h0⟩ | ⟨b, cap2, cur2, rfl, hb2, hh2, hn2, _, hs2, _⟩⟩
    · omega
    · exact ⟨hS2, b, cap2, cur2, rfl, hh2, hs2, hn2, fun z => hS2.up (bset (Below.refl _ _) _ (Nat.le_trans hsz hb2))⟩

set_option maxRecDepth 100000 in
set_option maxHeartbeats 4000000 in
theorem growV_any (w0 w : World) (B : Nat) (aK : Option Addr) (cK : Nat) (aO : Option Addr) (cO : Nat) (Ks : List Ic) (Os : List It) (nK nO : Nat) (hK : nK = Ks.length) (hO : nO = Os.length) (h : SW w0 w B aK cK aO cO Ks Os) :
    Calls Try.prog 21 #[.pointer (some ⟨B, 0, none⟩)] w fun e w' => e = .returned (.tuple #[]) ∧ Spr w w' Ks := by
  have HS0 : Hid (SW w0 w B aK cK aO cO Ks Os) := h
  have HL : Hid (nK = Ks.length ∧ nO = Os.length) := ⟨hK, hO⟩
  have hn : nK ≤ 200000 ∧ nO ≤ 2 := by have := h.n; omega
  have HC : Hid (∀ W, Spr w W Ks → W.cell? ⟨B, 0, none⟩ = some (.slice none 0 0) ∧ W.cell? ⟨B, 1, none⟩ = some (.slice aK nK cK) ∧ W.cell? ⟨B, 2, none⟩ = some (.slice none 0 0) ∧ W.cell? ⟨B, 3, none⟩ = some (.slice aO nO cO) ∧ W.cell? ⟨B, 4, none⟩ = some (.slice none 0 0)) := fun W hW => by rw [hK, hO]; exact (h.spr hW).cells
  have HQ : Hid (Spr w w Ks) := Spr.refl _ _
  have HBs : Hid (B < w.heap.size ∧ w0.heap.size ≤ B) := ⟨h.lt, h.ge⟩
  clear h hK hO
  go_enter Try.func21, Try.ntmps21
  go_wp2_with fail
  go_loopw [2] (fun x wr => ∃ i : Nat, i ≤ nK ∧ x = .int .i64 (i : Int) ∧ Hid (Spr w wr Ks)) (fun x _ => nK - (intOf x).toNat)
  case atStart => exact ⟨0, Nat.zero_le _, rfl, HQ⟩
  case round =>
    clear HQ
    obtain ⟨i, hi, rfl, HSr⟩ := hrel
    obtain ⟨c0, c1, c2, c3, c4⟩ := HC.out wr HSr.out
    by_cases hlt : i < nK
    · have hil : i < Ks.length := by have := HL.out.1; omega
      obtain ⟨hg, ha, hce0⟩ := HS0.out.elK i hil
      clear hce0
      have HEl : Hid (∀ W, Spr w W Ks → W.cell? ⟨hg, i, none⟩ = some (icv Ks[i])) := fun W hW => by
        obtain ⟨hg', e, c⟩ := (HS0.out.spr hW).elK i hil
        rw [ha] at e
        simp only [Option.some.injEq, Addr.mk.injEq, and_true] at e
        rw [← e] at c
        exact c
      have HRw : Hid (∀ W, Spr w W Ks → Rc W w0.heap.size B Ks[i]) := fun W hW => (HS0.out.spr hW).rK _ (List.getElem_mem hil)
      have hm64 : Ks[i].2.1 ≤ 100000 := HS0.out.lK _ (List.getElem_mem hil)
      have HA : Hid (aK = some ⟨hg, 0, none⟩) := ha
      obtain ⟨og, m, c, hit⟩ : ∃ og m c, Ks[i] = (og, m, c) := ⟨_, _, _, rfl⟩
      have HG0 : Hid (∀ W gv mv k, Spr w W Ks → k < 100 → (GC w W w0.heap.size og m c gv k ∧ MS w W 47 2 mv k ∧ Ax gv mv) → ∀ ty, ∃ v' w', (Builtin.append_ #[30, 30] ty #[gv, .slice (some ⟨W.heap.size, 0, none⟩) 1 1]).run Try.prog (W.alloc (.cells #[.int .i64 (-50 - (i : Int)), .int .i64 0] 47)) = .ok v' w' ∧ (Spr w w' Ks ∧ GC w w' w0.heap.size og m c v' (k + 1) ∧ MS w w' 47 2 mv k ∧ Ax v' mv ∧ ∃ a n c, v' = .slice a n c)) := fun W gv mv k h1 h2 h3 ty => growC_step h1 HS0.out.sK hil hit (by have := HBs.out; omega) (by rw [hit] at hm64; exact hm64) h2 h3.1 h3.2.1 h3.2.2 [.int .i64 (-50 - (i : Int)), .int .i64 0] rfl (by intro u hu; simp only [List.mem_cons, List.not_mem_nil, or_false] at hu; rcases hu with rfl | rfl <;> rfl) ty
      have HLs : Hid (∀ W mv, Spr w W Ks → MS w W 47 2 mv 24 → ∀ ty, ∃ v' w', (Builtin.append_ #[30, 30] ty #[icv (og, m, c), mv]).run Try.prog W = .ok v' w' ∧ (Spr w w' Ks ∧ ∃ b cap cur, v' = .slice (some ⟨b, 0, none⟩) (m + 24) cap ∧ w'.heap[b]? = some (.cells cur 47 (0, 0)) ∧ cur.size = cap * 2 ∧ m + 24 ≤ cap ∧ ∀ z, Spr w (w'.setCell ⟨b, m * 2 + 1, none⟩ z) Ks)) := fun W mv h1 h2 ty => lastC_step h1 HS0.out.sK hil hit (by rw [← hit]; exact HRw.out W h1) (by have := HBs.out; omega) (by rw [hit] at hm64; exact hm64) (by omega) (by omega) h2 ty
      rw [hit] at HEl HRw hm64
      simp only at hm64
      rw [ha] at c1
      clear hil ha hit
      obtain ⟨ao, hao⟩ : ∃ ao, icv (og, m, c) = .slice ao m c := ⟨_, rfl⟩
      have HAo : Hid (icv (og, m, c) = .slice ao m c) := hao
      have HCe : Hid (∀ W, Spr w W Ks → W.cell? ⟨hg, i, none⟩ = some (.slice ao m c)) := fun W hW => by rw [← hao]; exact HEl.out W hW
      have HGs : Hid (GC w wr w0.heap.size og m c (.slice ao m c) 0) := by
        obtain ⟨xs, hx⟩ := (HRw.out wr HSr.out).own
        rw [hao] at hx
        refine ⟨xs, hx, ?_⟩
        cases og with
        | none => right; intro b e; rw [← hao] at e; simp [icv, Value.ownBlock] at e
        | some g => left; exact ⟨g, rfl, by rw [← hao]; rfl⟩
      clear hao HEl
      have ce := HCe.out wr HSr.out
      go_wp2_with fail
      clear c0 c1 c2 c3 c4 ce
      go_loopw [3, 4, 5] (fun gv mv x wi => ∃ k : Nat, k ≤ 24 ∧ x = .int .i64 (k : Int) ∧ (∃ ga gn gc, gv = .slice ga gn gc) ∧ (∃ ma mn mc, mv = .slice ma mn mc) ∧ Hid (Spr w wi Ks) ∧ Hid (GC w wi w0.heap.size og m c gv k ∧ MS w wi 47 2 mv k ∧ Ax gv mv)) (fun _ _ x _ => 24 - (intOf x).toNat)
      case atStart => exact ⟨0, by omega, rfl, ⟨_, _, _, rfl⟩, ⟨_, _, _, rfl⟩, HSr, HGs.out, ⟨[], World.ownsRow_nil _ _ _ _, by simp⟩, fun g _ e => by cases e⟩
      case round =>
        clear HSr HGs
        generalize wr = wi at *
        obtain ⟨k, hk, rfl, ⟨ga, gn, gc, rfl⟩, ⟨ma, mn, mc, rfl⟩, HSi, HG⟩ := hrel
        by_cases hlt : k < 24
        · have hlt' : (k : Int) < 24 := by omega
          go_wp2_with (first | (at_builtin; refine wpL_app rfl _ _ 30 rfl (.slice ma mn mc) _ rfl rfl (fun ty => manyC_step (og := og) (m := m) (c := c) (lo := w0.heap.size) (k := k + 1) HS1.out (by omega) HG1.out.1 HG1.out.2.1 HG1.out.2.2 [.int .i64 (-50 - (i : Int)), .int .i64 0] rfl (by intro u hu; simp only [List.mem_cons, List.not_mem_nil, or_false] at hu; rcases hu with rfl | rfl <;> rfl) ty) ?_; rintro mv' w2 ⟨hb2, hg2, hm2, ha2, ma2, mn2, mc2, rfl⟩; have HS2 : Hid (Spr w w2 Ks) := hb2; have HG2 : Hid (GC w w2 w0.heap.size og m c (.slice ga1 gn1 gc1) (k + 1) ∧ MS w w2 47 2 (.slice ma2 mn2 mc2) (k + 1) ∧ Ax (.slice ga1 gn1 gc1) (.slice ma2 mn2 mc2)) := ⟨hg2, hm2, ha2⟩; clear hb2 hg2 hm2 ha2) | (at_builtin; refine wpL_app rfl _ _ 30 rfl (.slice ga gn gc) _ rfl rfl (fun ty => HG0.out wi (.slice ga gn gc) (.slice ma mn mc) k HSi.out (by omega) HG.out ty) ?_; rintro gv' w1 ⟨hb1, hg1, hm1, ha1, ga1, gn1, gc1, rfl⟩; have HS1 : Hid (Spr w w1 Ks) := hb1; have HG1 : Hid (GC w w1 w0.heap.size og m c (.slice ga1 gn1 gc1) (k + 1) ∧ MS w w1 47 2 (.slice ma mn mc) k ∧ Ax (.slice ga1 gn1 gc1) (.slice ma mn mc)) := ⟨hg1, hm1, ha1⟩; clear hb1 hg1 hm1 ha1))
          exact ⟨⟨k + 1, by omega, by go_num, ⟨_, _, _, rfl⟩, ⟨_, _, _, rfl⟩, HS2, HG2⟩, by simp [intOf]; omega⟩
        · obtain rfl : k = 24 := by omega
          rw [show ((24 : Nat) : Int) = 24 from rfl]
          have ce := HCe.out wi HSi.out
          obtain ⟨c0, c1, c2, c3, c4⟩ := HC.out wi HSi.out
          rw [HA.out] at c1
          have hm24 : (m : Int) < (m : Int) + 24 := by omega
          go_wp2_with (at_builtin; refine wpL_app rfl _ _ 30 rfl (.slice ao m c) (.slice ma mn mc) rfl rfl (fun ty => by have h := HLs.out wi (.slice ma mn mc) HSi.out HG.out.2.1 ty; rw [HAo.out] at h; exact h) ?_; rintro v3 w3 ⟨hb3, b, cap, cur, rfl, hcur, hcs, hcap, hz⟩; have ce3 := HCe.out w3 hb3; obtain ⟨d0, d1, d2, d3, d4⟩ := HC.out w3 hb3; rw [HA.out] at d1; obtain ⟨u3, e3⟩ := row_cells hcur hcs (k := m) (t := 1) (by omega) (by omega); have f3 := frozen_of_row w3 b (m * 2 + 1) _ _ hcur; have HS4 : Hid (Spr w (w3.setCell ⟨b, m * 2 + 1, none⟩ (.int .i64 1)) Ks) := hz _; have hcap2 : m + 24 ≤ cap := hcap; clear hb3 hcur hcs hcap hz)
          exact ⟨⟨i + 1, by omega, by go_num, HS4⟩, by simp [intOf]; omega⟩
    · obtain rfl : i = nK := by omega
      clear hlt
      go_wp2_with fail
      clear c0 c1 c2 c3 c4
      have HQ := HSr
      clear HSr
      generalize wr = wy at *
      go_loopw [6] (fun x wr => x = .int .i64 0 ∧ Hid (Spr w wr Ks)) (fun _ _ => 0)
      case atStart => exact ⟨rfl, HQ⟩
      case round =>
        clear HQ
        obtain ⟨rfl, HQ⟩ := hrel
        obtain ⟨c0, c1, c2, c3, c4⟩ := HC.out wr HQ.out
        go_wp2_with fail
        clear c0 c1 c2 c3 c4
        generalize wr = wy at *
        go_loopw [10] (fun x wr => x = .int .i64 0 ∧ Hid (Spr w wr Ks)) (fun _ _ => 0)
        case atStart => exact ⟨rfl, HQ⟩
        case round =>
          clear HQ
          obtain ⟨rfl, HQ⟩ := hrel
          obtain ⟨c0, c1, c2, c3, c4⟩ := HC.out wr HQ.out
          go_wp2_with fail
          clear c0 c1 c2 c3 c4
          generalize wr = wy at *
          go_loopw [14] (fun x wr => x = .int .i64 0 ∧ Hid (Spr w wr Ks)) (fun _ _ => 0)
          case atStart => exact ⟨rfl, HQ⟩
          case round =>
            clear HQ
            obtain ⟨rfl, HQ⟩ := hrel
            obtain ⟨c0, c1, c2, c3, c4⟩ := HC.out wr HQ.out
            go_wp2_with fail
            clear c0 c1 c2 c3 c4
            generalize wr = wy at *
            go_loopw [17] (fun x wr => ∃ i : Nat, i ≤ nO ∧ x = .int .i64 (i : Int) ∧ Hid (Spr w wr Ks)) (fun x _ => nO - (intOf x).toNat)
            case atStart => exact ⟨0, Nat.zero_le _, rfl, HQ⟩
            case round =>
              clear HQ
              obtain ⟨i, hi, rfl, HSr⟩ := hrel
              obtain ⟨c0, c1, c2, c3, c4⟩ := HC.out wr HSr.out
              by_cases hlt : i < nO
              · have hil : i < Os.length := by have := HL.out.2; omega
                have HSr0 : Hid (SW w0 wr B aK cK aO cO Ks Os) := HS0.out.spr HSr.out
                obtain ⟨hg, ha, ce⟩ := HSr0.out.oO.el i hil
                have HRw : Hid (∀ W, Below wr.heap.size wr W → Rw W 30 1 w0.heap.size B Os[i]) := fun W hW => (HSr0.out.kept hW).rO _ (List.getElem_mem hil)
                have hm64 : Os[i].2 ≤ 100000 := HS0.out.lO _ (List.getElem_mem hil)
                generalize Os[i] = it at *
                rw [ha] at c3
                clear hil ha
                obtain ⟨og, m⟩ := it
                simp only at hm64
                have HGw : Hid (∀ wi gv k, Below wr.heap.size wr wi → k < 100 → GS wr wi 30 1 (og, m) gv k → ∀ ty, ∃ v' w', (Builtin.append_ #[26, 26] ty #[gv, .slice (some ⟨wi.heap.size + 1, 0, none⟩) 1 1]).run Try.prog ((wi.alloc (.cells #[.int .i64 (-50 - (i : Int)), .int .i64 0] 47)).alloc (.cells #[.slice (some ⟨wi.heap.size, 0, none⟩) 1 1] 30)) = .ok v' w' ∧ (Below wr.heap.size wr w' ∧ GS wr w' 30 1 (og, m) v' (k + 1) ∧ ∃ a n c, v' = .slice a n c)) := fun wi gv k hb hk hg ty => by
                  have hA : Below wi.heap.size wi (wi.alloc (.cells #[.int .i64 (-50 - (i : Int)), .int .i64 0] 47)) := (Below.refl _ _).alloc (Nat.le_refl _) _
                  have hb2 := hb.trans (hA.mono hb.size)
                  have hg2 : GS wr (wi.alloc (.cells #[.int .i64 (-50 - (i : Int)), .int .i64 0] 47)) 30 1 (og, m) gv k := by
                    rcases hg with h | ⟨h1, xs, h2⟩
                    · exact .inl h
                    · exact .inr ⟨h1, xs, ownsRow_same h2 fun g e => hA.block g (World.ownsRow.lt h2 g e).2⟩
                  obtain ⟨v', w', h1, h2, h3, _, _, h6⟩ := grow_step elSK (w := wr) (W := (wi.alloc (.cells #[.int .i64 (-50 - (i : Int)), .int .i64 0] 47))) (it := (og, m)) (mv := .slice none 0 0) (km := 0) (HRw.out _ hb2) (by have := hb2.size; have := HSr0.out.lt; omega) (show m ≤ 1000000 by omega) hk hg2 ⟨[], World.ownsRow_nil _ _ _ _, by simp⟩ (fun _ g _ e => by cases e) hb2 [.slice (some ⟨wi.heap.size, 0, none⟩) 1 1] rfl (by intro u hu; simp only [List.mem_cons, List.not_mem_nil, or_false] at hu; subst hu; rfl) ty
                  rw [show (wi.alloc (.cells #[.int .i64 (-50 - (i : Int)), .int .i64 0] 47)).heap.size = wi.heap.size + 1 by simp] at h1
                  exact ⟨v', w', h1, h2, h3, h6⟩
                obtain ⟨ao, hao⟩ : ∃ ao, itv (og, m) = .slice ao m m := ⟨_, rfl⟩
                have HAo : Hid (itv (og, m) = .slice ao m m) := hao
                rw [hao] at ce
                have HUp : Hid (∀ W, Below wr.heap.size wr W → Spr w W Ks) := fun W hW => HSr.out.up (hW.mono HSr.out.size)
                have HB0 : Hid (Below wr.heap.size wr wr) := Below.refl _ _
                clear hao HSr0
                go_wp2_with fail
                clear c0 c1 c2 c3 c4 ce
                generalize wr = wq at *
                go_loopw [18, 19] (fun gv x wi => ∃ k : Nat, k ≤ 24 ∧ x = .int .i64 (k : Int) ∧ (∃ ga gn gc, gv = .slice ga gn gc) ∧ Hid (Below wq.heap.size wq wi) ∧ Hid (GS wq wi 30 1 (og, m) gv k)) (fun _ x _ => 24 - (intOf x).toNat)
                case atStart => exact ⟨0, by omega, rfl, ⟨_, _, _, rfl⟩, HB0, .inl ⟨rfl, HAo.out.symm⟩⟩
                case round =>
                  clear HB0
                  generalize wr = wi at *
                  obtain ⟨k, hk, rfl, ⟨ga, gn, gc, rfl⟩, HBi, HG⟩ := hrel
                  by_cases hlt : k < 24
                  · have hlt' : (k : Int) < 24 := by omega
                    go_wp2_with (at_builtin; refine wpL_app rfl _ _ 26 rfl (.slice ga gn gc) _ rfl rfl (fun ty => HGw.out wi (.slice ga gn gc) k HBi.out (by omega) HG.out ty) ?_; rintro gv' w1 ⟨hb1, hg1, ga1, gn1, gc1, rfl⟩; have HB1 : Hid (Below wq.heap.size wq w1) := hb1; have HG1 : Hid (GS wq w1 30 1 (og, m) (.slice ga1 gn1 gc1) (k + 1)) := hg1; clear hb1 hg1)
                    exact ⟨⟨k + 1, by omega, by go_num, ⟨_, _, _, rfl⟩, HB1, HG1⟩, by simp [intOf]; omega⟩
                  · obtain rfl : k = 24 := by omega
                    rw [show ((24 : Nat) : Int) = 24 from rfl]
                    have HS4 : Hid (Spr w wi Ks) := HUp.out wi HBi.out
                    go_wp2_with fail
                    exact ⟨⟨i + 1, by omega, by go_num, HS4⟩, by simp [intOf]; omega⟩
              · obtain rfl : i = nO := by omega
                clear hlt
                go_wp2
                go_end0
                exact ⟨rfl, HSr.out⟩
end Go.Proofs.Ytglodmmmcdjgcaa.Kk
