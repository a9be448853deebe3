import Derived.Test.YtglodmmmcdjgcaaJ23
/-
  grow: each list, grown by one and by many, where every list is full: nothing that lay there turns.
-/
namespace Go.Proofs.Ytglodmmmcdjgcaa.Kk
open Go.RowKit Go.Sort

theorem ownsRow_mono {w : World} {base base' : Nat} {T : TypeId} {sz : Nat} {v : Value} {n : Nat} {xs : List Value} (h : w.ownsRow base T sz v n xs) (hb : base' ≤ base) : w.ownsRow base' T sz v n xs := by
  obtain ⟨hl, h⟩ := h
  refine ⟨hl, ?_⟩
  rcases h with h | ⟨g, cap, cur, e, hg, r⟩
  · exact .inl h
  · exact .inr ⟨g, cap, cur, e, by omega, r⟩
theorem ownsRow_same {w w1 : World} {base : Nat} {T : TypeId} {sz : Nat} {v : Value} {n : Nat} {xs : List Value} (h : w.ownsRow base T sz v n xs) (hs : ∀ g, v.ownBlock = some g → w1.heap[g]? = w.heap[g]?) : w1.ownsRow base T sz v n xs := by
  obtain ⟨hl, h⟩ := h
  refine ⟨hl, ?_⟩
  rcases h with h | ⟨g, cap, cur, rfl, hg, hh, r⟩
  · exact .inl h
  · exact .inr ⟨g, cap, cur, rfl, hg, (hs g rfl).trans hh, r⟩
theorem row_slice {w : World} {base : Nat} {T : TypeId} {sz : Nat} {v : Value} {n : Nat} {xs : List Value} (h : w.ownsRow base T sz v n xs) : ∃ a n c, v = .slice a n c := by
  rcases h.2 with ⟨rfl, _⟩ | ⟨g, cap, cur, rfl, _⟩
  · exact ⟨_, _, _, rfl⟩
  · exact ⟨_, _, _, rfl⟩
/-- the list that grows: as it was handed out, or a row of the call's own -/
def GS (w W : World) (T : TypeId) (sz : Nat) (it : It) (v : Value) (k : Nat) : Prop := (k = 0 ∧ v = itv it) ∨ (0 < k ∧ ∃ xs, W.ownsRow w.heap.size T sz v (it.2 + k) xs)
def MS (w W : World) (T : TypeId) (sz : Nat) (v : Value) (k : Nat) : Prop := ∃ xs, W.ownsRow w.heap.size T sz v k xs ∧ ∀ u ∈ xs, u.oneCell' = true
def Ap (v u : Value) (k : Nat) : Prop := 0 < k → ∀ g, v.ownBlock = some g → u.ownBlock ≠ some g
theorem new_cells {W : World} {T : TypeId} {news : List Value} : ∀ j u, news[j]? = some u → (W.alloc (.cells news.toArray T)).cell? ((⟨W.heap.size, 0, none⟩ : Addr).add j) = some u := fun j u hu => by
  rw [addr_add, Nat.zero_add]
  have hb : (W.alloc (.cells news.toArray T)).heap[W.heap.size]? = some (.cells news.toArray T (0, 0)) := heap_alloc_new _ _ rfl
  simp only [World.cell?, hb]
  simpa using hu
theorem grow_step {TS TE : TypeId} {z : Value} {sz by_ : Nat} (E : El TS TE z sz by_) {w W : World} {it : It} {lo hi : Nat} (hx : Rw W TE sz lo hi it) (hhi : hi ≤ W.heap.size) (hm : it.2 ≤ 1000000) {k km : Nat} (hk : k < 100) {gv mv : Value} (hG : GS w W TE sz it gv k) (hM : MS w W TE sz mv km) (ha : Ap gv mv k) (hb : Below w.heap.size w W) (news : List Value) (hl : news.length = 1 * sz) (h1 : ∀ u ∈ news, u.oneCell' = true) (ty : TypeId) :
    ∃ v' w', (Builtin.append_ #[TS, TS] ty #[gv, .slice (some ⟨W.heap.size, 0, none⟩) 1 1]).run Try.prog (W.alloc (.cells news.toArray TE)) = .ok v' w' ∧ (Below w.heap.size w w' ∧ GS w w' TE sz it v' (k + 1) ∧ MS w w' TE sz mv km ∧ Ap v' mv (k + 1) ∧ ∃ a n c, v' = .slice a n c) := by
  have hA : Below W.heap.size W (W.alloc (.cells news.toArray TE)) := (Below.refl _ _).alloc (Nat.le_refl _) _
  have hsz := hb.size
  have hbA : Below w.heap.size w (W.alloc (.cells news.toArray TE)) := hb.trans (hA.mono hsz)
  obtain ⟨ys, hM, hMo⟩ := hM
  have hML : ∀ g, mv.ownBlock = some g → w.heap.size ≤ g ∧ g < W.heap.size := fun g e => World.ownsRow.lt hM g e
  have hMA : (W.alloc (.cells news.toArray TE)).ownsRow w.heap.size TE sz mv km ys := ownsRow_same hM fun g e => hA.block g (hML g e).2
  rcases hG with ⟨rfl, rfl⟩ | ⟨hk0, xs, hG⟩
  · obtain ⟨v', w', xs, hr, ho, hg⟩ := run_append_F E (w := W.alloc (.cells news.toArray TE)) ty lo hi it (hx.below hA hhi) ⟨W.heap.size, 0, none⟩ 1 1 news hl new_cells h1 (by omega) (by omega)
    refine ⟨v', w', hr, hbA.trans (grown_below hg (fun k e => by cases e) hbA.size), .inr ⟨by omega, xs, ownsRow_mono ho hbA.size⟩, ⟨ys, ownsRow_same hMA fun g e => hg.block g (by have := (hML g e).2; simp; omega) (fun e => by cases e), hMo⟩, fun _ g e e2 => ?_, row_slice ho⟩
    have h3 := (World.ownsRow.lt ho g e).1
    have h4 := (hML g e2).2
    simp at h3
    omega
  · have hGL : ∀ g, gv.ownBlock = some g → w.heap.size ≤ g ∧ g < W.heap.size := fun g e => World.ownsRow.lt hG g e
    obtain ⟨v', w', hr, ho, hg, hat⟩ := run_append_E E (w := W.alloc (.cells news.toArray TE)) ty w.heap.size gv (it.2 + k) xs (ownsRow_same hG fun g e => hA.block g (hGL g e).2) ⟨W.heap.size, 0, none⟩ 1 1 news hl new_cells h1 (by omega) hbA.size
    refine ⟨v', w', hr, hbA.trans (grown_below hg (fun k e => (hGL k e).1) hbA.size), .inr ⟨by omega, _, ho⟩, ⟨ys, ownsRow_same hMA fun g e => hg.block g (by have := (hML g e).2; simp; omega) (fun e2 => ha hk0 g e2.symm e), hMo⟩, fun _ g e e2 => ?_, row_slice ho⟩
    rcases hat with hat | hat
    · rw [hat] at e; exact ha hk0 g e e2
    · rw [hat] at e; cases e
      have := (hML _ e2).2
      simp at this
      omega
theorem many_step {TS TE : TypeId} {z : Value} {sz by_ : Nat} (E : El TS TE z sz by_) {w W : World} {it : It} {k : Nat} (hk : k < 100) {gv mv : Value} (hG : GS w W TE sz it gv (k + 1)) (hM : MS w W TE sz mv k) (ha : Ap gv mv (k + 1)) (hb : Below w.heap.size w W) (news : List Value) (hl : news.length = 1 * sz) (h1 : ∀ u ∈ news, u.oneCell' = true) (ty : TypeId) :
    ∃ v' w', (Builtin.append_ #[TS, TS] ty #[mv, .slice (some ⟨W.heap.size, 0, none⟩) 1 1]).run Try.prog (W.alloc (.cells news.toArray TE)) = .ok v' w' ∧ (Below w.heap.size w w' ∧ GS w w' TE sz it gv (k + 1) ∧ MS w w' TE sz v' (k + 1) ∧ Ap gv v' (k + 1) ∧ ∃ a n c, v' = .slice a n c) := by
  have hA : Below W.heap.size W (W.alloc (.cells news.toArray TE)) := (Below.refl _ _).alloc (Nat.le_refl _) _
  have hsz := hb.size
  have hbA : Below w.heap.size w (W.alloc (.cells news.toArray TE)) := hb.trans (hA.mono hsz)
  obtain ⟨ys, hM, hMo⟩ := hM
  have hML : ∀ g, mv.ownBlock = some g → w.heap.size ≤ g ∧ g < W.heap.size := fun g e => World.ownsRow.lt hM g e
  rcases hG with ⟨h0, _⟩ | ⟨hk0, xs, hG⟩
  · omega
  have hGL : ∀ g, gv.ownBlock = some g → w.heap.size ≤ g ∧ g < W.heap.size := fun g e => World.ownsRow.lt hG g e
  have hGA : (W.alloc (.cells news.toArray TE)).ownsRow w.heap.size TE sz gv (it.2 + (k + 1)) xs := ownsRow_same hG fun g e => hA.block g (hGL g e).2
  obtain ⟨v', w', hr, ho, hg, hat⟩ := run_append_E E (w := W.alloc (.cells news.toArray TE)) ty w.heap.size mv k ys (ownsRow_same hM fun g e => hA.block g (hML g e).2) ⟨W.heap.size, 0, none⟩ 1 1 news hl new_cells h1 (by omega) hbA.size
  refine ⟨v', w', hr, hbA.trans (grown_below hg (fun k e => (hML k e).1) hbA.size), .inr ⟨hk0, xs, ownsRow_same hGA fun g e => hg.block g (by have := (hGL g e).2; simp; omega) (fun e2 => ha hk0 g e e2.symm)⟩, ⟨_, ho, fun u hu => (List.mem_append.1 hu).elim (hMo u) (h1 u)⟩, fun _ g e e2 => ?_, row_slice ho⟩
  rcases hat with hat | hat
  · rw [hat] at e2; exact ha hk0 g e e2
  · rw [hat] at e2; cases e2
    have := (hGL _ e).2
    simp at this
    omega
/-- the last one: many at once; a new row, written to -/
theorem last_step {TS TE : TypeId} {z : Value} {sz by_ : Nat} (E : El TS TE z sz by_) {w W : World} {it : It} {lo hi : Nat} (hx : Rw W TE sz lo hi it) (hm : it.2 ≤ 1000000) {k : Nat} (hk : 0 < k) (hk2 : k < 100) {mv : Value} (hM : MS w W TE sz mv k) (hb : Below w.heap.size w W) (ty : TypeId) :
    ∃ v' w', (Builtin.append_ #[TS, TS] ty #[itv it, mv]).run Try.prog W = .ok v' w' ∧ (Below w.heap.size w w' ∧ ∃ b cap cur, v' = .slice (some ⟨b, 0, none⟩) (it.2 + k) cap ∧ w.heap.size ≤ b ∧ w'.heap[b]? = some (.cells cur TE (0, 0)) ∧ cur.size = cap * sz ∧ it.2 + k ≤ cap) := by
  obtain ⟨ys, hM, hMo⟩ := hM
  have h1 := hMo
  rcases hM with ⟨hl, ⟨_, h0⟩ | ⟨g, cap, cur, rfl, hg, hh, hn, hcm, hs, ht⟩⟩
  · omega
  have hM2 : W.ownsRow w.heap.size TE sz (.slice (some ⟨g, 0, none⟩) k cap) k ys := ⟨hl, .inr ⟨g, cap, cur, rfl, hg, hh, hn, hcm, hs, ht⟩⟩
  obtain ⟨v', w', xs, hr, ho, hgr⟩ := run_append_F E (w := W) ty lo hi it hx ⟨g, 0, none⟩ k cap ys hl (World.ownsRow.cells hM2 rfl) h1 hk (by omega)
  refine ⟨v', w', hr, hb.trans (grown_below hgr (fun k e => by cases e) hb.size), ?_⟩
  rcases ho with ⟨_, ⟨_, h0⟩ | ⟨b, cap2, cur2, rfl, hb2, hh2, hn2, _, hs2, _⟩⟩
  · omega
  · exact ⟨b, cap2, cur2, rfl, Nat.le_trans hb.size hb2, hh2, hs2, hn2⟩

set_option maxRecDepth 100000 in
set_option maxHeartbeats 4000000 in
theorem grow_any (w0 w : World) (B : Nat) (aB : Option Addr) (cB : Nat) (aK : Option Addr) (cK : Nat) (aI : Option Addr) (cI : Nat) (Bs Ks Is : List It) (nB nK nI : Nat) (hB : nB = Bs.length) (hK : nK = Ks.length) (hI : nI = Is.length) (h : SH w0 w B aB cB aK cK aI cI Bs Ks Is) :
    Calls Try.prog 21 #[.pointer (some ⟨B, 0, none⟩)] w fun e w' => e = .returned (.tuple #[]) ∧ Below w.heap.size w w' := by
  have HS0 : Hid (SH w0 w B aB cB aK cK aI cI Bs Ks Is) := h
  have HL : Hid (nB = Bs.length ∧ nK = Ks.length ∧ nI = Is.length) := ⟨hB, hK, hI⟩
  have hn : nB ≤ 64 ∧ nK ≤ 1000 ∧ nI ≤ 1000 := by have := h.n; omega
  have HC : Hid (∀ W, Below w.heap.size w W → W.cell? ⟨B, 0, none⟩ = some (.slice aB nB cB) ∧ W.cell? ⟨B, 1, none⟩ = some (.slice aK nK cK) ∧ W.cell? ⟨B, 2, none⟩ = some (.slice aI nI cI) ∧ W.cell? ⟨B, 3, none⟩ = some (.slice none 0 0) ∧ W.cell? ⟨B, 4, none⟩ = some (.slice none 0 0)) := fun W hW => by rw [hB, hK, hI]; exact (h.kept hW).cells
  have HBl : Hid (Below w.heap.size w w) := Below.refl _ _
  have HBs : Hid (B ≤ w.heap.size) := Nat.le_of_lt h.lt
  clear h hB hK hI
  go_enter Try.func21, Try.ntmps21
  go_wp2_with fail
  go_loopw [2] (fun x wr => ∃ i : Nat, i ≤ nK ∧ x = .int .i64 (i : Int) ∧ Hid (Below w.heap.size w wr)) (fun x _ => nK - (intOf x).toNat)
  case atStart => exact ⟨0, Nat.zero_le _, rfl, HBl⟩
  case round =>
    clear HBl
    obtain ⟨i, hi, rfl, HBr⟩ := hrel
    obtain ⟨c0, c1, c2, c3, c4⟩ := HC.out wr HBr.out
    by_cases hlt : i < nK
    · have hil : i < Ks.length := by have := HL.out.2.1; omega
      obtain ⟨hg, ha, _⟩ := HS0.out.oK.el i hil
      have HEl : Hid (∀ W, Below w.heap.size w W → W.cell? ⟨hg, i, none⟩ = some (itv Ks[i])) := fun W hW => by
        obtain ⟨hg', e, c⟩ := (HS0.out.kept hW).oK.el i hil
        rw [ha] at e
        simp only [Option.some.injEq, Addr.mk.injEq, and_true] at e
        rw [← e] at c
        exact c
      have HRw : Hid (∀ W, Below w.heap.size w W → Rw W 47 2 w0.heap.size B Ks[i]) := fun W hW => (HS0.out.kept hW).rK _ (List.getElem_mem hil)
      have hm64 : Ks[i].2 ≤ 64 := HS0.out.lK _ (List.getElem_mem hil)
      have HA : Hid (aK = some ⟨hg, 0, none⟩) := ha
      generalize Ks[i] = it at *
      rw [ha] at c1
      clear hil ha
      obtain ⟨og, m⟩ := it
      simp only at hm64
      obtain ⟨ao, hao⟩ : ∃ ao, itv (og, m) = .slice ao m m := ⟨_, rfl⟩
      have HAo : Hid (itv (og, m) = .slice ao m m) := hao
      have HCe : Hid (∀ W, Below w.heap.size w W → W.cell? ⟨hg, i, none⟩ = some (.slice ao m m)) := fun W hW => by rw [← hao]; exact HEl.out W hW
      clear hao HEl
      have ce := HCe.out wr HBr.out
      go_wp2_with fail
      clear c0 c1 c2 c3 c4 ce
      go_loopw [3, 4, 5] (fun gv mv x wi => ∃ k : Nat, k ≤ 24 ∧ x = .int .i64 (k : Int) ∧ (∃ ga gn gc, gv = .slice ga gn gc) ∧ (∃ ma mn mc, mv = .slice ma mn mc) ∧ Hid (Below w.heap.size w wi) ∧ Hid (GS w wi 47 2 (og, m) gv k ∧ MS w wi 47 2 mv k ∧ Ap gv mv k)) (fun _ _ x _ => 24 - (intOf x).toNat)
      case atStart => exact ⟨0, by omega, rfl, ⟨_, _, _, rfl⟩, ⟨_, _, _, rfl⟩, HBr, .inl ⟨rfl, HAo.out.symm⟩, ⟨[], World.ownsRow_nil _ _ _ _, by simp⟩, fun h => absurd h (by omega)⟩
      case round =>
        clear HBr
        generalize wr = wi at *
        obtain ⟨k, hk, rfl, ⟨ga, gn, gc, rfl⟩, ⟨ma, mn, mc, rfl⟩, HBi, HG⟩ := hrel
        by_cases hlt : k < 24
        · have hlt' : (k : Int) < 24 := by omega
          go_wp2_with (first | (at_builtin; refine wpL_app rfl _ _ 30 rfl (.slice ma mn mc) _ rfl rfl (fun ty => many_step elK (it := (og, m)) (k := k) (by omega) HG1.out.1 HG1.out.2.1 HG1.out.2.2 HB1.out [.int .i64 (-50 - (i : Int)), .int .i64 0] rfl (by intro u hu; simp only [List.mem_cons, List.not_mem_nil, or_false] at hu; rcases hu with rfl | rfl <;> rfl) ty) ?_; rintro mv' w2 ⟨hb2, hg2, hm2, ha2, ma2, mn2, mc2, rfl⟩; have HB2 : Hid (Below w.heap.size w w2) := hb2; have HG2 : Hid (GS w w2 47 2 (og, m) (.slice ga1 gn1 gc1) (k + 1) ∧ MS w w2 47 2 (.slice ma2 mn2 mc2) (k + 1) ∧ Ap (.slice ga1 gn1 gc1) (.slice ma2 mn2 mc2) (k + 1)) := ⟨hg2, hm2, ha2⟩; clear hb2 hg2 hm2 ha2) | (at_builtin; refine wpL_app rfl _ _ 30 rfl (.slice ga gn gc) _ rfl rfl (fun ty => grow_step elK (mv := (.slice ma mn mc)) (km := k) (HRw.out wi HBi.out) (by have := HBi.out.size; have := HBs.out; omega) (by omega) (k := k) (by omega) HG.out.1 HG.out.2.1 HG.out.2.2 HBi.out [.int .i64 (-50 - (i : Int)), .int .i64 0] rfl (by intro u hu; simp only [List.mem_cons, List.not_mem_nil, or_false] at hu; rcases hu with rfl | rfl <;> rfl) ty) ?_; rintro gv' w1 ⟨hb1, hg1, hm1, ha1, ga1, gn1, gc1, rfl⟩; have HB1 : Hid (Below w.heap.size w w1) := hb1; have HG1 : Hid (GS w w1 47 2 (og, m) (.slice ga1 gn1 gc1) (k + 1) ∧ MS w w1 47 2 (.slice ma mn mc) k ∧ Ap (.slice ga1 gn1 gc1) (.slice ma mn mc) (k + 1)) := ⟨hg1, hm1, ha1⟩; clear hb1 hg1 hm1 ha1))
          exact ⟨⟨k + 1, by omega, by go_num, ⟨_, _, _, rfl⟩, ⟨_, _, _, rfl⟩, HB2, HG2⟩, by simp [intOf]; omega⟩
        · obtain rfl : k = 24 := by omega
          rw [show ((24 : Nat) : Int) = 24 from rfl]
          have ce := HCe.out wi HBi.out
          obtain ⟨c0, c1, c2, c3, c4⟩ := HC.out wi HBi.out
          rw [HA.out] at c1
          have hm24 : (m : Int) < (m : Int) + 24 := by omega
          go_wp2_with (at_builtin; refine wpL_app rfl _ _ 30 rfl (.slice ao m m) (.slice ma mn mc) rfl rfl (fun ty => by have h := last_step elK (it := (og, m)) (HRw.out wi HBi.out) (by omega) (k := 24) (by omega) (by omega) HG.out.2.1 HBi.out ty; rw [HAo.out] at h; exact h) ?_; rintro v3 w3 ⟨hb3, b, cap, cur, rfl, hbb, hcur, hcs, hcap⟩; have HB3 : Hid (Below w.heap.size w w3) := hb3; have ce3 := HCe.out w3 hb3; obtain ⟨d0, d1, d2, d3, d4⟩ := HC.out w3 hb3; rw [HA.out] at d1; obtain ⟨u3, e3⟩ := row_cells hcur hcs (k := m) (t := 1) (by simp only at hcap; omega) (by omega); have f3 := frozen_of_row w3 b (m * 2 + 1) _ _ hcur; have HB4 : Hid (Below w.heap.size w (w3.setCell ⟨b, m * 2 + 1, none⟩ (.int .i64 1))) := bset hb3 _ hbb; have hcap2 : m + 24 ≤ cap := hcap; clear hb3 hcur hcs hcap hbb)
          exact ⟨⟨i + 1, by omega, by go_num, HB4⟩, by simp [intOf]; omega⟩
    · obtain rfl : i = nK := by omega
      clear hlt
      go_wp2_with fail
      clear c0 c1 c2 c3 c4
      have HBl := HBr
      clear HBr
      generalize wr = wy at *
      go_loopw [6] (fun x wr => ∃ i : Nat, i ≤ nI ∧ x = .int .i64 (i : Int) ∧ Hid (Below w.heap.size w wr)) (fun x _ => nI - (intOf x).toNat)
      case atStart => exact ⟨0, Nat.zero_le _, rfl, HBl⟩
      case round =>
        clear HBl
        obtain ⟨i, hi, rfl, HBr⟩ := hrel
        obtain ⟨c0, c1, c2, c3, c4⟩ := HC.out wr HBr.out
        by_cases hlt : i < nI
        · have hil : i < Is.length := by have := HL.out.2.2; omega
          obtain ⟨hg, ha, _⟩ := HS0.out.oI.el i hil
          have HEl : Hid (∀ W, Below w.heap.size w W → W.cell? ⟨hg, i, none⟩ = some (itv Is[i])) := fun W hW => by
            obtain ⟨hg', e, c⟩ := (HS0.out.kept hW).oI.el i hil
            rw [ha] at e
            simp only [Option.some.injEq, Addr.mk.injEq, and_true] at e
            rw [← e] at c
            exact c
          have HRw : Hid (∀ W, Below w.heap.size w W → Rw W 2 1 w0.heap.size B Is[i]) := fun W hW => (HS0.out.kept hW).rI _ (List.getElem_mem hil)
          have hm64 : Is[i].2 ≤ 64 := HS0.out.lI _ (List.getElem_mem hil)
          have HA : Hid (aI = some ⟨hg, 0, none⟩) := ha
          generalize Is[i] = it at *
          rw [ha] at c2
          clear hil ha
          obtain ⟨og, m⟩ := it
          simp only at hm64
          obtain ⟨ao, hao⟩ : ∃ ao, itv (og, m) = .slice ao m m := ⟨_, rfl⟩
          have HAo : Hid (itv (og, m) = .slice ao m m) := hao
          have HCe : Hid (∀ W, Below w.heap.size w W → W.cell? ⟨hg, i, none⟩ = some (.slice ao m m)) := fun W hW => by rw [← hao]; exact HEl.out W hW
          clear hao HEl
          have ce := HCe.out wr HBr.out
          go_wp2_with fail
          clear c0 c1 c2 c3 c4 ce
          go_loopw [7, 8, 9] (fun gv mv x wi => ∃ k : Nat, k ≤ 24 ∧ x = .int .i64 (k : Int) ∧ (∃ ga gn gc, gv = .slice ga gn gc) ∧ (∃ ma mn mc, mv = .slice ma mn mc) ∧ Hid (Below w.heap.size w wi) ∧ Hid (GS w wi 2 1 (og, m) gv k ∧ MS w wi 2 1 mv k ∧ Ap gv mv k)) (fun _ _ x _ => 24 - (intOf x).toNat)
          case atStart => exact ⟨0, by omega, rfl, ⟨_, _, _, rfl⟩, ⟨_, _, _, rfl⟩, HBr, .inl ⟨rfl, HAo.out.symm⟩, ⟨[], World.ownsRow_nil _ _ _ _, by simp⟩, fun h => absurd h (by omega)⟩
          case round =>
            clear HBr
            generalize wr = wi at *
            obtain ⟨k, hk, rfl, ⟨ga, gn, gc, rfl⟩, ⟨ma, mn, mc, rfl⟩, HBi, HG⟩ := hrel
            by_cases hlt : k < 24
            · have hlt' : (k : Int) < 24 := by omega
              go_wp2_with (first | (at_builtin; refine wpL_app rfl _ _ 41 rfl (.slice ma mn mc) _ rfl rfl (fun ty => many_step elN (it := (og, m)) (k := k) (by omega) HG1.out.1 HG1.out.2.1 HG1.out.2.2 HB1.out [.int .i64 (-50 - (i : Int))] rfl (by intro u hu; simp only [List.mem_cons, List.not_mem_nil, or_false] at hu; subst hu; rfl) ty) ?_; rintro mv' w2 ⟨hb2, hg2, hm2, ha2, ma2, mn2, mc2, rfl⟩; have HB2 : Hid (Below w.heap.size w w2) := hb2; have HG2 : Hid (GS w w2 2 1 (og, m) (.slice ga1 gn1 gc1) (k + 1) ∧ MS w w2 2 1 (.slice ma2 mn2 mc2) (k + 1) ∧ Ap (.slice ga1 gn1 gc1) (.slice ma2 mn2 mc2) (k + 1)) := ⟨hg2, hm2, ha2⟩; clear hb2 hg2 hm2 ha2) | (at_builtin; refine wpL_app rfl _ _ 41 rfl (.slice ga gn gc) _ rfl rfl (fun ty => grow_step elN (mv := (.slice ma mn mc)) (km := k) (HRw.out wi HBi.out) (by have := HBi.out.size; have := HBs.out; omega) (by omega) (k := k) (by omega) HG.out.1 HG.out.2.1 HG.out.2.2 HBi.out [.int .i64 (-50 - (i : Int))] rfl (by intro u hu; simp only [List.mem_cons, List.not_mem_nil, or_false] at hu; subst hu; rfl) ty) ?_; rintro gv' w1 ⟨hb1, hg1, hm1, ha1, ga1, gn1, gc1, rfl⟩; have HB1 : Hid (Below w.heap.size w w1) := hb1; have HG1 : Hid (GS w w1 2 1 (og, m) (.slice ga1 gn1 gc1) (k + 1) ∧ MS w w1 2 1 (.slice ma mn mc) k ∧ Ap (.slice ga1 gn1 gc1) (.slice ma mn mc) (k + 1)) := ⟨hg1, hm1, ha1⟩; clear hb1 hg1 hm1 ha1))
              exact ⟨⟨k + 1, by omega, by go_num, ⟨_, _, _, rfl⟩, ⟨_, _, _, rfl⟩, HB2, HG2⟩, by simp [intOf]; omega⟩
            · obtain rfl : k = 24 := by omega
              rw [show ((24 : Nat) : Int) = 24 from rfl]
              have ce := HCe.out wi HBi.out
              obtain ⟨c0, c1, c2, c3, c4⟩ := HC.out wi HBi.out
              rw [HA.out] at c2
              have hm24 : (m : Int) < (m : Int) + 24 := by omega
              go_wp2_with (at_builtin; refine wpL_app rfl _ _ 41 rfl (.slice ao m m) (.slice ma mn mc) rfl rfl (fun ty => by have h := last_step elN (it := (og, m)) (HRw.out wi HBi.out) (by omega) (k := 24) (by omega) (by omega) HG.out.2.1 HBi.out ty; rw [HAo.out] at h; exact h) ?_; rintro v3 w3 ⟨hb3, b, cap, cur, rfl, hbb, hcur, hcs, hcap⟩; have HB3 : Hid (Below w.heap.size w w3) := hb3; have ce3 := HCe.out w3 hb3; obtain ⟨d0, d1, d2, d3, d4⟩ := HC.out w3 hb3; rw [HA.out] at d2; obtain ⟨u3, e3⟩ := row_cells hcur hcs (k := m) (t := 0) (by simp only at hcap; omega) (by omega); have f3 := frozen_of_row w3 b (m) _ _ hcur; rw [Nat.add_zero, Nat.mul_one] at e3; have HB4 : Hid (Below w.heap.size w (w3.setCell ⟨b, m, none⟩ (.int .i64 1))) := bset hb3 _ hbb; have hcap2 : m + 24 ≤ cap := hcap; clear hb3 hcur hcs hcap hbb)
              exact ⟨⟨i + 1, by omega, by go_num, HB4⟩, by simp [intOf]; omega⟩
        · obtain rfl : i = nI := by omega
          clear hlt
          go_wp2_with fail
          clear c0 c1 c2 c3 c4
          generalize wr = wy at *
          go_loopw [10] (fun x wr => x = .int .i64 0 ∧ wr = wy) (fun _ _ => 0)
          case atStart => exact ⟨rfl, rfl⟩
          case round =>
            obtain ⟨rfl, rfl⟩ := hrel
            obtain ⟨c0, c1, c2, c3, c4⟩ := HC.out wr HBr.out
            go_wp2_with fail
            clear c0 c1 c2 c3 c4
            have HBl := HBr
            clear HBr
            generalize wr = wy at *
            go_loopw [14] (fun x wr => ∃ i : Nat, i ≤ nB ∧ x = .int .i64 (i : Int) ∧ Hid (Below w.heap.size w wr)) (fun x _ => nB - (intOf x).toNat)
            case atStart => exact ⟨0, Nat.zero_le _, rfl, HBl⟩
            case round =>
              clear HBl
              obtain ⟨i, hi, rfl, HBr⟩ := hrel
              obtain ⟨c0, c1, c2, c3, c4⟩ := HC.out wr HBr.out
              by_cases hlt : i < nB
              · have hil : i < Bs.length := by have := HL.out.1; omega
                obtain ⟨hg, ha, _⟩ := HS0.out.oB.el i hil
                have HEl : Hid (∀ W, Below w.heap.size w W → W.cell? ⟨hg, i, none⟩ = some (itv Bs[i])) := fun W hW => by
                  obtain ⟨hg', e, c⟩ := (HS0.out.kept hW).oB.el i hil
                  rw [ha] at e
                  simp only [Option.some.injEq, Addr.mk.injEq, and_true] at e
                  rw [← e] at c
                  exact c
                have HRw : Hid (∀ W, Below w.heap.size w W → Rw W 43 4 w0.heap.size B Bs[i]) := fun W hW => (HS0.out.kept hW).rB _ (List.getElem_mem hil)
                have hm64 : Bs[i].2 ≤ 64 := HS0.out.lB _ (List.getElem_mem hil)
                have HA : Hid (aB = some ⟨hg, 0, none⟩) := ha
                generalize Bs[i] = it at *
                rw [ha] at c0
                clear hil ha
                obtain ⟨og, m⟩ := it
                simp only at hm64
                obtain ⟨ao, hao⟩ : ∃ ao, itv (og, m) = .slice ao m m := ⟨_, rfl⟩
                have HAo : Hid (itv (og, m) = .slice ao m m) := hao
                have HCe : Hid (∀ W, Below w.heap.size w W → W.cell? ⟨hg, i, none⟩ = some (.slice ao m m)) := fun W hW => by rw [← hao]; exact HEl.out W hW
                clear hao HEl
                have ce := HCe.out wr HBr.out
                go_wp2_with fail
                clear c0 c1 c2 c3 c4 ce
                go_loopw [15, 16] (fun gv x wi => ∃ k : Nat, k ≤ 24 ∧ x = .int .i64 (k : Int) ∧ (∃ ga gn gc, gv = .slice ga gn gc) ∧ Hid (Below w.heap.size w wi) ∧ Hid (GS w wi 43 4 (og, m) gv k)) (fun _ x _ => 24 - (intOf x).toNat)
                case atStart => exact ⟨0, by omega, rfl, ⟨_, _, _, rfl⟩, HBr, .inl ⟨rfl, HAo.out.symm⟩⟩
                case round =>
                  clear HBr
                  generalize wr = wi at *
                  obtain ⟨k, hk, rfl, ⟨ga, gn, gc, rfl⟩, HBi, HG⟩ := hrel
                  by_cases hlt : k < 24
                  · have hlt' : (k : Int) < 24 := by omega
                    go_wp2_with (at_builtin; refine wpL_app rfl _ _ 22 rfl (.slice ga gn gc) _ rfl rfl (fun ty => grow_step elT (mv := (.slice none 0 0)) (km := 0) (HRw.out wi HBi.out) (by have := HBi.out.size; have := HBs.out; omega) (by omega) (k := k) (by omega) HG.out ⟨[], World.ownsRow_nil _ _ _ _, by simp⟩ (fun _ g _ e2 => by cases e2) HBi.out [.int .i64 (-50 - (i : Int)), .slice none 0 0, .slice none 0 0, .slice none 0 0] rfl (by intro u hu; simp only [List.mem_cons, List.not_mem_nil, or_false] at hu; rcases hu with rfl | rfl | rfl | rfl <;> rfl) ty) ?_; rintro gv' w1 ⟨hb1, hg1, hm1, ha1, ga1, gn1, gc1, rfl⟩; have HB1 : Hid (Below w.heap.size w w1) := hb1; have HG1 : Hid (GS w w1 43 4 (og, m) (.slice ga1 gn1 gc1) (k + 1) ∧ MS w w1 43 4 (.slice none 0 0) 0 ∧ Ap (.slice ga1 gn1 gc1) (.slice none 0 0) (k + 1)) := ⟨hg1, hm1, ha1⟩; clear hb1 hg1 hm1 ha1)
                    exact ⟨⟨k + 1, by omega, by go_num, ⟨_, _, _, rfl⟩, HB1, HG1.out.1⟩, by simp [intOf]; omega⟩
                  · obtain rfl : k = 24 := by omega
                    rw [show ((24 : Nat) : Int) = 24 from rfl]
                    go_wp2_with fail
                    exact ⟨⟨i + 1, by omega, by go_num, HBi⟩, by simp [intOf]; omega⟩
              · obtain rfl : i = nB := by omega
                clear hlt
                go_wp2_with fail
                clear c0 c1 c2 c3 c4
                generalize wr = wy at *
                go_loopw [17] (fun x wr => x = .int .i64 0 ∧ wr = wy) (fun _ _ => 0)
                case atStart => exact ⟨rfl, rfl⟩
                case round =>
                  obtain ⟨rfl, rfl⟩ := hrel
                  obtain ⟨c0, c1, c2, c3, c4⟩ := HC.out wr HBr.out
                  go_wp2
                  go_end0
                  exact ⟨rfl, HBr.out⟩
end Go.Proofs.Ytglodmmmcdjgcaa.Kk
