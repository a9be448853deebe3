import Derived.Test.YtbmohlkcmhhpgaaGreatJBkRestH
import Derived.Test.YtbmohlkcmhhpgaaGreatJBkStepH
import Derived.Deep.RegionHeld3
/-
  A PAIR GOES ON: only its own blocks turn, and its blocks are old ones or new ones.
-/
namespace Go.Proofs.YtbmohlkcmhhpgaaGreat
open Go.RowKit Go.Sort

structure Gon (P B Mp Mc Mn R : Nat) (av pv : Value) (rv : Nat → Value) (av' pv' : Value) (rv' : Nat → Value) (wr w' : World) : Prop where
  fr : Fr (PBk P B Mp Mc Mn R av pv rv) wr w'
  sub : ∀ k, PBk P B Mp Mc Mn R av' pv' rv' k → k < wr.heap.size → PBk P B Mp Mc Mn R av pv rv k
section
variable {n0 P B Mp Mc Mn R : Nat} {cap : Int} {cnt : Nat} {st sd st' sd' : Bs} {nw : List K} {av pv av1 pv1 av2 pv2 : Value} {rv rv1 rv2 : Nat → Value} {wr wr' wr2 : World}
theorem Gon.trans (h : Gon P B Mp Mc Mn R av pv rv av1 pv1 rv1 wr wr') (h2 : Gon P B Mp Mc Mn R av1 pv1 rv1 av2 pv2 rv2 wr' wr2) : Gon P B Mp Mc Mn R av pv rv av2 pv2 rv2 wr wr2 := by
  have hs := h.fr.size
  refine ⟨⟨h2.fr.os.trans h.fr.os, h2.fr.tape.trans h.fr.tape, h2.fr.output.trans h.fr.output, Nat.le_trans hs h2.fr.size, fun k hk hn => ?_⟩, fun k hk hlt => h.sub k (h2.sub k hk (by omega)) hlt⟩
  exact (h2.fr.block k (by omega) (fun hk1 => hn (h.sub k hk1 hk))).trans (h.fr.block k hk hn)
theorem Gon.below (h : Gon P B Mp Mc Mn R av pv rv av1 pv1 rv1 wr wr') (hj : PJ n0 P B Mp Mc Mn R cap cnt st sd nw av pv rv wr) : Below n0 wr wr' :=
  h.fr.below (Nat.le_trans hj.nP (Nat.le_of_lt (blk_lt hj.pb))) (fun _ hk => hj.ge hk)
theorem Gon.keep (hb : Below wr.heap.size wr wr') : Gon P B Mp Mc Mn R av pv rv av pv rv wr wr' := ⟨Fr.ofBelow hb, fun _ hk _ => hk⟩
theorem Gon.book (hf : Fr (SB B Mp Mc Mn) wr wr') : Gon P B Mp Mc Mn R av pv rv av pv rv wr wr' :=
  ⟨⟨hf.os, hf.tape, hf.output, hf.size, fun k hk hn => hf.block k hk (fun hs => hn (.inr (.inl hs)))⟩, fun _ hk _ => hk⟩
theorem PJ.docG (h : PJ n0 P B Mp Mc Mn R cap cnt st sd nw av pv rv wr) (hr : RPost wr n0 R cap av pv sd' wr') : ∃ av' pv', PJ n0 P B Mp Mc Mn R cap cnt st sd' nw av' pv' rv wr' ∧ Gon P B Mp Mc Mn R av pv rv av' pv' rv wr wr' := by
  have hr0 := hr
  obtain ⟨av', pv', hrb, hf, hn⟩ := hr0
  have hG : Gon P B Mp Mc Mn R av pv rv av' pv' rv wr wr' := by
    refine ⟨⟨hf.os, hf.tape, hf.output, hf.size, fun k hk hn => hf.block k hk (fun hs => hn (.inr (.inr (.inl hs))))⟩, fun k hk hlt => ?_⟩
    rcases hk with rfl | hk | hk | hk
    · exact .inl rfl
    · exact .inr (.inl hk)
    · rcases hn k hk with hk | hk
      · exact .inr (.inr (.inl hk))
      · omega
    · exact .inr (.inr (.inr hk))
  obtain ⟨av2, pv2, hj⟩ := h.doc (sd' := sd') (wr' := wr') ⟨av', pv', hrb, hf, hn⟩
  have h1 := hj.rb.bk
  have h2 := hrb.bk
  rw [h1] at h2
  simp only [Option.some.injEq, Obj.cells.injEq, Array.mk.injEq, List.cons.injEq, and_true, true_and] at h2
  obtain ⟨rfl, rfl⟩ := h2
  exact ⟨_, _, hj, hG⟩
/-- one list more is noted: which -/
theorem PJ.pushG (h : PJ n0 P B Mp Mc Mn R cap cnt st sd nw av pv rv wr) (i : Nat) (hi : 2 ≤ i) (hi8 : i < 8) (v : Value) (hv : v.oneCell' = true) (xs : List Value) (hx : wr.ownsRow n0 (tpR i) 1 (rv i) xs.length xs) (hc : xs.length ≤ 1000000) (ty : TypeId) (hn : n0 ≤ wr.heap.size) {v' : Value} {w' : World}
    (hrun : (Builtin.append_ #[tpS i, tpS i] ty #[rv i, .slice (some ⟨wr.heap.size, 0, none⟩) 1 1]).run Tryz.prog (wr.alloc (.cells #[v] (tpR i))) = .ok v' w') :
    Gon P B Mp Mc Mn R av pv rv av pv (fun j => if j = i then v' else rv j) wr (w'.setCell ⟨P, i, none⟩ v') ∧ (w'.setCell ⟨P, i, none⟩ v').ownsRow n0 (tpR i) 1 v' (xs ++ [v]).length (xs ++ [v]) ∧ ∀ k, k < wr.heap.size → (rv i).ownBlock ≠ some k → k ≠ P → (w'.setCell ⟨P, i, none⟩ v').heap[k]? = wr.heap[k]? := by
  obtain ⟨v2, w2, z1, z2, z3, z4, z5⟩ := (akR i).app1 wr ty n0 (rv i) xs.length xs [v] hx rfl (by intro u hu; simp at hu; rw [hu]; exact hv) (by omega) (by omega) hn
  have e1 := hrun.symm.trans z1
  simp only [Result.ok.injEq] at e1
  obtain ⟨rfl, rfl⟩ := e1
  have hb1 : Below wr.heap.size wr (wr.alloc (.cells #[v] (tpR i))) := (Below.refl _ _).alloc (Nat.le_refl _) _
  have hP := blk_lt h.pb
  have hset : ∀ k, k ≠ P → (w'.setCell ⟨P, i, none⟩ v').heap[k]? = w'.heap[k]? := fun k hk => heap_setCell_other _ _ _ _ (fun e => hk e)
  have hkeep : ∀ k, k < wr.heap.size → (rv i).ownBlock ≠ some k → k ≠ P → (w'.setCell ⟨P, i, none⟩ v').heap[k]? = wr.heap[k]? := fun k h1 h2 h3 => (hset k h3).trans ((z4.block k (Nat.lt_of_lt_of_le h1 hb1.size) (fun e => h2 e.symm)).trans (hb1.block k h1))
  have hPne : (rv i).ownBlock ≠ some P := fun e => by
    obtain ⟨cur, hc'⟩ := rowBlock hx e
    rw [h.pb] at hc'
    simp only [Option.some.injEq, Obj.cells.injEq] at hc'
    exact (tpR_ne i).2.2.2.2 hc'.2.1.symm
  have hv'P : v'.ownBlock ≠ some P := fun e => by
    rcases z5 with h1 | h1
    · exact hPne (by rw [← h1]; exact e)
    · rw [e] at h1
      cases h1
      omega
  refine ⟨⟨⟨z4.os, z4.tape, z4.output, ?_, fun k hk hS => ?_⟩, fun k hk hlt => ?_⟩, ?_, hkeep⟩
  · have := hb1.size
    have := z4.size
    simp
    omega
  · exact hkeep k hk (fun e => hS (.inr (.inr (.inr ⟨i, hi, hi8, e⟩)))) (fun e => hS (.inl e))
  · rcases hk with rfl | hk | hk | ⟨j, h1, h2, h3⟩
    · exact .inl rfl
    · exact .inr (.inl hk)
    · exact .inr (.inr (.inl hk))
    · refine .inr (.inr (.inr ?_))
      by_cases hji : j = i
      · simp only [if_pos hji] at h3
        rcases z5 with e | e
        · exact ⟨i, hi, hi8, by rw [← e]; exact h3⟩
        · rw [h3] at e
          cases e
          omega
      · simp only [if_neg hji] at h3
        exact ⟨j, h1, h2, h3⟩
  · rw [List.length_append]
    exact rowSame z3 (fun g hg => hset g (fun e => hv'P (by rw [hg, e])))
end
end Go.Proofs.YtbmohlkcmhhpgaaGreat
/-
  A PAIR GOES ON, AND HANDS NOTHING OUT: only the two books' blocks turn.
-/
namespace Go.Proofs.YtbmohlkcmhhpgaaGreat
open Go.RowKit Go.Sort

structure Gos (P B Mp Mc Mn R : Nat) (av pv : Value) (rv : Nat → Value) (av' pv' : Value) (rv' : Nat → Value) (wr w' : World) : Prop where
  fr : Fr (fun k => SB B Mp Mc Mn k ∨ SR R av pv k) wr w'
  sub : ∀ k, SR R av' pv' k → k < wr.heap.size → SB B Mp Mc Mn k ∨ SR R av pv k
  eq : rv' = rv ∧ P = P
section
variable {n0 P B Mp Mc Mn R : Nat} {cap : Int} {cnt : Nat} {st sd st' sd' : Bs} {nw : List K} {av pv av1 pv1 av2 pv2 : Value} {rv rv1 rv2 : Nat → Value} {wr wr' wr2 : World}
theorem Gos.trans (h : Gos P B Mp Mc Mn R av pv rv av1 pv1 rv1 wr wr') (h2 : Gos P B Mp Mc Mn R av1 pv1 rv1 av2 pv2 rv2 wr' wr2) : Gos P B Mp Mc Mn R av pv rv av2 pv2 rv2 wr wr2 := by
  have hs := h.fr.size
  have hsub : ∀ k, SB B Mp Mc Mn k ∨ SR R av1 pv1 k → k < wr.heap.size → SB B Mp Mc Mn k ∨ SR R av pv k := fun k hk hlt => hk.elim .inl (fun hk => h.sub k hk hlt)
  refine ⟨⟨h2.fr.os.trans h.fr.os, h2.fr.tape.trans h.fr.tape, h2.fr.output.trans h.fr.output, Nat.le_trans hs h2.fr.size, fun k hk hn => ?_⟩, fun k hk hlt => hsub k (h2.sub k hk (by omega)) hlt, h2.eq.1.trans h.eq.1, rfl⟩
  exact (h2.fr.block k (by omega) (fun hk1 => hn (hsub k hk1 hk))).trans (h.fr.block k hk hn)
theorem Gos.keep (hb : Below wr.heap.size wr wr') : Gos P B Mp Mc Mn R av pv rv av pv rv wr wr' := ⟨Fr.ofBelow hb, fun _ hk _ => .inr hk, rfl, rfl⟩
theorem Gos.book (hf : Fr (SB B Mp Mc Mn) wr wr') : Gos P B Mp Mc Mn R av pv rv av pv rv wr wr' :=
  ⟨⟨hf.os, hf.tape, hf.output, hf.size, fun k hk hn => hf.block k hk (fun hs => hn (.inl hs))⟩, fun _ hk _ => .inr hk, rfl, rfl⟩
theorem Gos.after (h : Gos P B Mp Mc Mn R av pv rv av1 pv1 rv1 wr wr') {N : Nat} (hb : Below N wr' wr2) (hN : wr.heap.size ≤ N) : Gos P B Mp Mc Mn R av pv rv av1 pv1 rv1 wr wr2 :=
  ⟨⟨hb.os.trans h.fr.os, hb.tape.trans h.fr.tape, hb.output.trans h.fr.output, Nat.le_trans h.fr.size hb.size, fun k hk hn => (hb.block k (by omega)).trans (h.fr.block k hk hn)⟩, h.sub, h.eq⟩
theorem PJ.docS (h : PJ n0 P B Mp Mc Mn R cap cnt st sd nw av pv rv wr) (hr : RPost wr n0 R cap av pv sd' wr') : ∃ av' pv', PJ n0 P B Mp Mc Mn R cap cnt st sd' nw av' pv' rv wr' ∧ Gos P B Mp Mc Mn R av pv rv av' pv' rv wr wr' := by
  have hr0 := hr
  obtain ⟨av', pv', hrb, hf, hn⟩ := hr0
  have hG : Gos P B Mp Mc Mn R av pv rv av' pv' rv wr wr' := by
    refine ⟨⟨hf.os, hf.tape, hf.output, hf.size, fun k hk hn => hf.block k hk (fun hs => hn (.inr hs))⟩, fun k hk hlt => ?_, rfl, rfl⟩
    rcases hn k hk with hk | hk
    · exact .inr hk
    · omega
  obtain ⟨av2, pv2, hj⟩ := h.doc (sd' := sd') (wr' := wr') ⟨av', pv', hrb, hf, hn⟩
  have h1 := hj.rb.bk
  have h2 := hrb.bk
  rw [h1] at h2
  simp only [Option.some.injEq, Obj.cells.injEq, Array.mk.injEq, List.cons.injEq, and_true, true_and] at h2
  obtain ⟨rfl, rfl⟩ := h2
  exact ⟨_, _, hj, hG⟩
theorem Gos.gon (h : Gos P B Mp Mc Mn R av pv rv av1 pv1 rv wr wr') : Gon P B Mp Mc Mn R av pv rv av1 pv1 rv wr wr' := by
  refine ⟨⟨h.fr.os, h.fr.tape, h.fr.output, h.fr.size, fun k hk hn => h.fr.block k hk (fun hs => hn (hs.elim (fun a => .inr (.inl a)) (fun a => .inr (.inr (.inl a)))))⟩, fun k hk hlt => ?_⟩
  rcases hk with rfl | hk | hk | hk
  · exact .inl rfl
  · exact .inr (.inl hk)
  · exact (h.sub k hk hlt).elim (fun a => .inr (.inl a)) (fun a => .inr (.inr (.inl a)))
  · exact .inr (.inr (.inr hk))
/-- the rows stay -/
theorem Gos.row (h : Gos P B Mp Mc Mn R av pv rv av1 pv1 rv1 wr wr') (hj : PJ n0 P B Mp Mc Mn R cap cnt st sd nw av pv rv wr) {i n : Nat} {xs : List Value} (hx : wr.ownsRow n0 (tpR i) 1 (rv i) n xs) : wr'.ownsRow n0 (tpR i) 1 (rv i) n xs := rowSame hx (fun g hg => by
  obtain ⟨cur, hc⟩ := rowBlock hx hg
  refine h.fr.block g (blk_lt hc) (fun hs => ?_)
  rcases hs with hs | hs
  · exact notC' hj.ba hc (tpR_ne i).2.2.2.1 hs
  · exact hj.rb.notS hc (fun cur T e => by cases e; exact ⟨(tpR_ne i).1, (tpR_ne i).2.1, (tpR_ne i).2.2.1⟩) hs)
end
end Go.Proofs.YtbmohlkcmhhpgaaGreat
/-
  ONE CALL ON BOTH, AND ONLY THE PAIR'S OWN BLOCKS TURN.
-/
namespace Go.Proofs.YtbmohlkcmhhpgaaGreat
open Go.RowKit Go.Sort

def StF (n0 P B Mp Mc Mn R : Nat) (cap : Int) (cnt : Nat) (av pv : Value) (rv : Nat → Value) (wr : World) (e : Ending) (w' : World) : Prop :=
  e = .returned (.bool true) ∧ ∃ st sd, Syn st sd ∧ ∃ nw av' pv', PJ n0 P B Mp Mc Mn R cap (cnt + 2) st sd nw av' pv' rv w' ∧ Gos P B Mp Mc Mn R av pv rv av' pv' rv wr w'
section
variable {n0 P B Mp Mc Mn R : Nat} {cap : Int} {cnt : Nat} {st sd st' sd' : Bs} {nw : List K} {av pv : Value} {rv : Nat → Value} {wr wr' : World}
theorem pinF (h : PJ n0 P B Mp Mc Mn R cap cnt st sd nw av pv rv wr) (m : Int) (hm : In64 m) {g : Nat} {cs : Array Value} (hx : BXp g cs wr) :
    Calls Tryz.prog 20 #[ptr B, .int .i64 m] wr fun e w' => ∃ st', e = .returned (.int .i64 (pinE st.la st.fl st.pins m)) ∧ PinB (pinE st.la st.fl st.pins m) st st' m ∧ PJ n0 P B Mp Mc Mn R cap cnt st' sd nw av pv rv w' ∧ BXp g cs w' ∧ Gos P B Mp Mc Mn R av pv rv av pv rv wr w' := by
  refine (pin_any wr B Mp Mc Mn cap st.la st.fl st.pins st.all nw h.ba m hm).mono ?_
  rintro e w' (⟨hne, rfl, rfl⟩ | ⟨heq, rfl, p', hp, hba, hf⟩)
  · exact ⟨st, rfl, .inl ⟨hne, rfl⟩, h, hx, Gos.keep (Below.refl _ _)⟩
  · refine ⟨⟨st.la, st.fl, p', st.all⟩, by rw [heq], .inr ⟨heq, p', hp, rfl⟩, h.book hba hf, hx.book h hf, Gos.book hf⟩
theorem rpinF (h : PJ n0 P B Mp Mc Mn R cap cnt st sd nw av pv rv wr) {s0 : Bs} (hs : Syn s0 sd) (hl : sd.pins.length ≤ 32) (hc : ∀ p ∈ sd.pins, 1 ≤ p.2 ∧ p.2 ≤ 1099511627776) (m : Int) {g : Nat} {cs : Array Value} (hx : BXp g cs wr) :
    Calls Tryz.prog 21 #[ptr R, .int .i64 m] wr fun e w' => ∃ sd', e = .returned (.int .i64 (pinE sd.la sd.fl sd.pins m)) ∧ PinE (pinE sd.la sd.fl sd.pins m) sd sd' m ∧ (∃ av' pv', PJ n0 P B Mp Mc Mn R cap cnt st sd' nw av' pv' rv w' ∧ Gos P B Mp Mc Mn R av pv rv av' pv' rv wr w') ∧ BXp g cs w' := by
  refine (rPin_any wr n0 R cap av pv sd h.rb hl hs.ri hc h.n0s m).mono ?_
  rintro e w' (⟨hne, rfl, hb⟩ | ⟨heq, rfl, p', hp, hr⟩)
  · exact ⟨sd, rfl, .inl ⟨hne, rfl⟩, ⟨av, pv, h.kept hb, Gos.keep hb⟩, hx.kept hb⟩
  · have hf : Fr (SR R av pv) wr w' := by obtain ⟨_, _, _, h2, _⟩ := hr; exact h2
    exact ⟨⟨sd.la, sd.fl, p', sd.all⟩, by rw [heq], .inr ⟨heq, p', hp, rfl⟩, h.docS hr, hx.doc h hf⟩
theorem unpF (h : PJ n0 P B Mp Mc Mn R cap cnt st sd nw av pv rv wr) (m : Int) (hm : In64 m) {g : Nat} {cs : Array Value} (hx : BXp g cs wr) :
    Calls Tryz.prog 22 #[ptr B, .int .i64 m] wr fun e w' => ∃ E st', e = .returned (.int .i64 E) ∧ UnpB E st st' m ∧ PJ n0 P B Mp Mc Mn R cap cnt st' sd nw av pv rv w' ∧ BXp g cs w' ∧ Gos P B Mp Mc Mn R av pv rv av pv rv wr w' := by
  refine (unpin_any wr B Mp Mc Mn cap st.la st.fl st.pins st.all nw h.ba m hm).mono ?_
  rintro e w' (⟨hne, rfl, rfl⟩ | ⟨heq, rfl, p', hp, hba, hf⟩)
  · exact ⟨102, st, rfl, .inl ⟨rfl, hne, rfl⟩, h, hx, Gos.keep (Below.refl _ _)⟩
  · refine ⟨0, ⟨st.la, st.fl, p', st.all⟩, rfl, .inr ⟨rfl, heq, p', hp, rfl⟩, h.book hba hf, hx.book h hf, Gos.book hf⟩
theorem runpF (h : PJ n0 P B Mp Mc Mn R cap cnt st sd nw av pv rv wr) {s0 : Bs} (hs : Syn s0 sd) (hl : sd.pins.length ≤ 32) (hc : ∀ p ∈ sd.pins, 1 ≤ p.2 ∧ p.2 ≤ 1099511627776) (m : Int) {g : Nat} {cs : Array Value} (hx : BXp g cs wr) :
    Calls Tryz.prog 23 #[ptr R, .int .i64 m] wr fun e w' => ∃ F sd', e = .returned (.int .i64 F) ∧ UnpE F sd sd' m ∧ (∃ av' pv', PJ n0 P B Mp Mc Mn R cap cnt st sd' nw av' pv' rv w' ∧ Gos P B Mp Mc Mn R av pv rv av' pv' rv wr w') ∧ BXp g cs w' := by
  refine (rUnpin_any wr n0 R cap av pv sd h.rb hl hs.ri hc h.n0s m).mono ?_
  rintro e w' (⟨hne, rfl, hb⟩ | ⟨heq, rfl, p', hp, hr⟩)
  · exact ⟨102, sd, rfl, .inl ⟨rfl, hne, rfl⟩, ⟨av, pv, h.kept hb, Gos.keep hb⟩, hx.kept hb⟩
  · have hf : Fr (SR R av pv) wr w' := by obtain ⟨_, _, _, h2, _⟩ := hr; exact h2
    exact ⟨0, ⟨sd.la, sd.fl, p', sd.all⟩, rfl, .inr ⟨rfl, heq, p', hp, rfl⟩, h.docS hr, hx.doc h hf⟩
theorem rcolF (h : PJ n0 P B Mp Mc Mn R cap cnt st sd nw av pv rv wr) (hl : sd.pins.length ≤ 32 ∧ sd.all.length ≤ 65536 ∧ ∀ v ∈ sd.all, v.2.1 ≤ sd.la) {g : Nat} {cs : Array Value} (hx : BXp g cs wr) :
    Calls Tryz.prog 25 #[ptr R] wr fun e w' => e = .returned (.int .i64 ((sd.all.length : Int) - ((colD (sd.pins.map Prod.fst) sd.all).length : Int))) ∧ (∃ av' pv', PJ n0 P B Mp Mc Mn R cap cnt st ⟨sd.la, sd.la, sd.pins, colD (sd.pins.map Prod.fst) sd.all⟩ nw av' pv' rv w' ∧ Gos P B Mp Mc Mn R av pv rv av' pv' rv wr w') ∧ BXp g cs w' := by
  refine (rcollect_any wr n0 R cap av pv sd h.rb hl.2.1 hl.1 hl.2.2 h.n0s).mono ?_
  rintro e w' ⟨rfl, hr⟩
  have hf : Fr (SR R av pv) wr w' := by obtain ⟨_, _, _, h2, _⟩ := hr; exact h2
  exact ⟨rfl, h.docS hr, hx.doc h hf⟩
theorem colF (h : PJ n0 P B Mp Mc Mn R cap cnt st sd nw av pv rv wr) {g : Nat} {cs : Array Value} (hx : BXp g cs wr) :
    Calls Tryz.prog 24 #[ptr B] wr fun e w' => ∃ d all', e = .returned (.int .i64 ((st.all.length : Int) - (all'.length : Int))) ∧ (d.Perm (st.pins.map Prod.fst) ∧ CollN d st.all all') ∧ PJ n0 P B Mp Mc Mn R cap cnt ⟨st.la, st.la, st.pins, all'⟩ sd nw av pv rv w' ∧ BXp g cs w' ∧ Gos P B Mp Mc Mn R av pv rv av pv rv wr w' := by
  refine (collect_any wr B Mp Mc Mn cap st.la st.fl st.pins st.all nw h.ba).mono ?_
  rintro e w' ⟨d, all', hd1, hd2, hc, rfl, hba, hf⟩
  exact ⟨d, all', rfl, ⟨hd2, hc⟩, h.book (st' := ⟨st.la, st.la, st.pins, all'⟩) hba hf, hx.book h hf, Gos.book hf⟩
end
end Go.Proofs.YtbmohlkcmhhpgaaGreat
/-
  step: Admit, with the stronger frame.
-/
namespace Go.Proofs.YtbmohlkcmhhpgaaGreat
open Go.RowKit Go.Sort

section
variable {n0 P B Mp Mc Mn R : Nat} {cap : Int} {cnt : Nat} {st sd : Bs} {nw : List K} {av pv av1 pv1 : Value} {rv rv1 : Nat → Value} {W : World}
theorem radmF (h : PJ n0 P B Mp Mc Mn R cap cnt st sd nw av pv rv W) (hal : sd.all.length ≤ 65536) (hla : 0 ≤ sd.la ∧ sd.la ≤ 1099511627776) (oa : Option Addr) (n oc : Nat) (L : List (List K)) (hn : n = L.length) (hnb : n ≤ 100000) (hb : ∀ s ∈ L, s.length ≤ 100000) (hw : RWs (fun k => n0 ≤ k) W oa L) {g : Nat} {cs : Array Value} (hx : BXp g cs W) :
    Calls Tryz.prog 19 #[ptr R, .slice oa n oc] W fun e w' => ∃ x E sd', e = .returned (.tuple #[.int .i64 x, .int .i64 E]) ∧ AdB cap L sd sd' x E ∧ (∃ av' pv', PJ n0 P B Mp Mc Mn R cap cnt st sd' nw av' pv' rv w' ∧ Gos P B Mp Mc Mn R av pv rv av' pv' rv W w') ∧ BXp g cs w' := by
  refine (rAdmit_any W n0 R cap av pv sd h.rb h.n0s hal hla oa n oc L hn hw (fun s hs => Nat.le_trans (hb s hs) (by omega)) (by omega)).mono ?_
  rintro e w' (⟨hne, rfl, hb2⟩ | ⟨heq, rfl, hr⟩)
  · exact ⟨0, _, sd, rfl, ⟨rfl, by rw [if_neg hne], by rw [if_neg hne]⟩, ⟨av, pv, h.kept hb2, Gos.keep hb2⟩, hx.kept hb2⟩
  · have hf : Fr (SR R av pv) W w' := by obtain ⟨_, _, _, h2, _⟩ := hr; exact h2
    exact ⟨_, 0, ⟨sd.la + 1, sd.fl, sd.pins, sd.all ++ newFrom (sd.la + 1) 0 L⟩, rfl, ⟨heq.symm, by rw [if_pos rfl], by rw [if_pos rfl]⟩, h.docS hr, hx.doc h hf⟩
end
set_option maxHeartbeats 4000000 in
set_option maxRecDepth 100000 in
theorem step0F_any (n0 P B Mp Mc Mn R : Nat) (cap : Int) (cnt : Nat) (st sd : Bs) (nw : List K) (av pv : Value) (rv : Nat → Value) (wr : World) (hj : PJ n0 P B Mp Mc Mn R cap cnt st sd nw av pv rv wr) (hs : Syn st sd) (oa : Option Addr) (ln oc : Nat) (L : List (List K)) (hn : ln = L.length) (hnb : ln ≤ 100000) (hb : ∀ s ∈ L, s.length ≤ 100000) (hik : ∀ s ∈ L, ∀ k ∈ s, KIn k) (hw : RWs (fun k => n0 ≤ k) wr oa L) (m k1 k2 : Int) :
    Calls Tryz.prog 6 #[ptr P, .agg #[.int .i64 0, .slice oa ln oc, .int .i64 m, .int .i64 k1, .int .i64 k2]] wr fun e w' => StF n0 P B Mp Mc Mn R cap cnt av pv rv wr e w' := by
  obtain ⟨U, hU⟩ : ∃ U, U = wr.alloc (.cells #[.int .i64 0, .slice oa ln oc, .int .i64 m, .int .i64 k1, .int .i64 k2] 45) := ⟨_, rfl⟩
  obtain ⟨g, hg⟩ : ∃ g, g = wr.heap.size := ⟨_, rfl⟩
  have hbU : Below wr.heap.size wr U := by rw [hU]; exact (Below.refl _ _).alloc (Nat.le_refl _) _
  have HJU := hidC (hj.kept hbU)
  obtain ⟨cs, hcs⟩ : ∃ cs : Array Value, cs = #[.int .i64 0, .slice oa ln oc, .int .i64 m, .int .i64 k1, .int .i64 k2] := ⟨_, rfl⟩
  have HXU : Hid (BXp g cs U) := by rw [hU, hg, hcs]; exact heap_alloc_new _ _ rfl
  have HBU : Hid (Below n0 wr U) := hbU.mono hj.n0s
  have HGU : Hid (Gos P B Mp Mc Mn R av pv rv av pv rv wr U) := Gos.keep hbU
  have hsU : wr.heap.size ≤ U.heap.size := hbU.size
  have HPl := hidC (hj.pl hs)
  have HS := hidC hs
  have HXc : Hid (∀ W, BXp g cs W → W.cell? ⟨g, 0, none⟩ = some (.int .i64 0) ∧ W.cell? ⟨g, 1, none⟩ = some (.slice oa ln oc)) := fun W hW => by
    unfold BXp at hW
    rw [hcs] at hW
    refine ⟨?_, ?_⟩ <;> simp [World.cell?, hW]
  have HR : Hid (∀ W, Below n0 wr W → RWs (fun k => n0 ≤ k) W oa L) := fun W hW => hw.fr ⟨hW.os, hW.tape, hW.output, hW.size, fun k hk hS => hW.block k (by omega)⟩
  have HA := hidC (And.intro hn (And.intro hb hik))
  have HLn := hidC (lentB_any n0 U HJU.out.n0s oa ln oc L hn (HR.out U HBU.out) hnb hb)
  clear hj hs hbU hcs hn hb hik hw
  obtain ⟨x0, x1⟩ := HXc.out U HXU.out
  go_enter Tryz.func6, Tryz.ntmps6
  go_upto_region 3 with fail
  rw [← hU, ← hg]
  clear hU hg
  go_wp2_with fail
  clear x0 x1
  refine HLn.out.mono ?_
  rintro e W1 ⟨ia, ic, rfl, hr1, hb1, hbk⟩
  have HJ1 := hidC (HJU.out.kept hb1)
  have HX1 := hidC (HXU.out.kept hb1)
  have HC1 := hidC (admJ HJ1.out ia ln ic L HA.out.1 hnb HA.out.2.1 HA.out.2.2 (hr1.weak (fun k hk => HJU.out.ba.lt hk)) HX1.out)
  have HBk := hidC hbk
  have HB1 := hidC hb1
  clear hr1 hb1 hbk HLn
  obtain ⟨p0, p1, _⟩ := HJ1.out.cells
  go_wp2_with fail
  clear p0 p1
  refine HC1.out.mono ?_
  rintro e W2 ⟨x, E, st2, rfl, hr2, ⟨nw2, hj2⟩, hx2, hf2⟩
  have HJ2 := hidC hj2
  have HX2 := hidC hx2
  have HR2 := hidC hr2
  have HB2 : Hid (Below n0 U W2) := (HB1.out.mono HJU.out.n0s).trans (hf2.below HJ1.out.n0s HJ1.out.sb)
  have HC2 := hidC (HBk.out W2 HB2.out (fun k h1 h2 => hf2.block k h2 (fun hS => by have := HJU.out.ba.lt hS; omega)))
  have HG2 : Hid (Gos P B Mp Mc Mn R av pv rv av pv rv wr W2) := HGU.out.trans ((Gos.keep HB1.out).trans (Gos.book hf2))
  obtain ⟨_, x1⟩ := HXc.out W2 hx2
  have hgU : g < U.heap.size := blk_lt HXU.out
  clear hj2 hx2 hr2 hf2 HC1 HBk
  go_wp2_with fail
  clear x1
  refine HC2.out.mono ?_
  rintro e W3 ⟨rfl, hb3⟩
  have HJ3 : Hid (PJ n0 P B Mp Mc Mn R cap cnt st2 sd nw2 av pv rv W3) := HJ2.out.same (fun k hk => hb3.block k (HJU.out.lt hk))
  have HX3 : Hid (BXp g cs W3) := (hb3.block g hgU).trans HX2.out
  have HB3 : Hid (Below n0 wr W3) := HBU.out.trans (HB2.out.trans (hb3.mono HJU.out.n0s))
  have HG3 : Hid (Gos P B Mp Mc Mn R av pv rv av pv rv wr W3) := HG2.out.after hb3 hsU
  clear hb3 HC2
  have HDr : Hid (Below W3.heap.size W3 W3.drew) := drew_below W3 1
  have HJd := hidC (HJ3.out.kept HDr.out)
  have HXd := hidC (HX3.out.kept HDr.out)
  have HBd : Hid (Below n0 wr W3.drew) := HB3.out.trans (HDr.out.mono HJ3.out.n0s)
  have HGd : Hid (Gos P B Mp Mc Mn R av pv rv av pv rv wr W3.drew) := HG3.out.trans (Gos.keep HDr.out)
  have HC3 := hidC (radmF HJd.out HPl.out.2.1 HPl.out.2.2.2.1 oa ln oc L HA.out.1 hnb HA.out.2.1 (HR.out _ HBd.out) HXd.out)
  obtain ⟨_, p1, _⟩ := HJ3.out.cells
  obtain ⟨_, x1⟩ := HXc.out W3 HX3.out
  go_upto_region 6 with fail
  go_region_held3 (fun w' => w'.cell? ⟨P, 1, none⟩ = some (ptr R) ∧ w'.cell? ⟨g, 1, none⟩ = some (.slice oa ln oc)) (first | with_reducible exact HQ4.out | go_keep) (first
    | (go_at_call 19; with_reducible refine HC3.out.mono ?_; rintro e W4 ⟨y, F, sd4, rfl, hr4, hj4, hx4⟩; have HJ4 := hidC hj4; have HR4 := hidC hr4; have HQ4 := hidC (And.intro (by obtain ⟨_, _, h4, _⟩ := hj4; exact h4.cells.2.1) (HXc.out W4 hx4).2); clear hj4 hx4 hr4))
  clear p1 x1 HQ4 HC3
  obtain ⟨hy, hF, hsy⟩ := HS.out.adm HR2.out HR4.out
  subst hy hF
  have HZ : Hid (StF n0 P B Mp Mc Mn R cap cnt av pv rv wr (.returned (.bool true)) W4) := by
    obtain ⟨a4, p4, h4, g4⟩ := HJ4.out
    exact ⟨rfl, st2, sd4, hsy, nw2, a4, p4, h4.up.up, HGd.out.trans g4⟩
  have hxx : (y == y) = true := by simp
  have hff : (F == F) = true := by simp
  clear hsy
  go_wp2_with fail
  refine (numB_any W4 F).mono ?_
  rintro e Wn ⟨rfl, hWn⟩
  have hWn' := hWn.symm
  subst hWn'
  clear hWn
  go_wp2
  go_ret
  exact HZ.out
end Go.Proofs.YtbmohlkcmhhpgaaGreat
/-
  step: Pin, Unpin, Collect.
-/
namespace Go.Proofs.YtbmohlkcmhhpgaaGreat
open Go.RowKit Go.Sort

set_option maxHeartbeats 4000000 in
set_option maxRecDepth 100000 in
theorem step1F_any (n0 P B Mp Mc Mn R : Nat) (cap : Int) (cnt : Nat) (st sd : Bs) (nw : List K) (av pv : Value) (rv : Nat → Value) (wr : World) (hj : PJ n0 P B Mp Mc Mn R cap cnt st sd nw av pv rv wr) (hs : Syn st sd) (oa : Option Addr) (ln oc : Nat) (m k1 k2 : Int) (hm : In64 m) :
    Calls Tryz.prog 6 #[ptr P, .agg #[.int .i64 1, .slice oa ln oc, .int .i64 m, .int .i64 k1, .int .i64 k2]] wr fun e w' => StF n0 P B Mp Mc Mn R cap cnt av pv rv wr e w' := by
  obtain ⟨U, hU⟩ : ∃ U, U = wr.alloc (.cells #[.int .i64 1, .slice oa ln oc, .int .i64 m, .int .i64 k1, .int .i64 k2] 45) := ⟨_, rfl⟩
  obtain ⟨g, hg⟩ : ∃ g, g = wr.heap.size := ⟨_, rfl⟩
  have hbU : Below wr.heap.size wr U := by rw [hU]; exact (Below.refl _ _).alloc (Nat.le_refl _) _
  have HJU := hidC (hj.kept hbU)
  obtain ⟨cs, hcs⟩ : ∃ cs : Array Value, cs = #[.int .i64 1, .slice oa ln oc, .int .i64 m, .int .i64 k1, .int .i64 k2] := ⟨_, rfl⟩
  have HXU : Hid (BXp g cs U) := by rw [hU, hg, hcs]; exact heap_alloc_new _ _ rfl
  have HBU : Hid (Gos P B Mp Mc Mn R av pv rv av pv rv wr U) := Gos.keep hbU
  have HPl := hidC (hj.pl hs)
  have HCt := hidC (hs.cts hj)
  have HNd := hidC hj.ba.pnd
  have HAn := hidC hj.ba.nodup
  have HRs := hidC hj.ba.rs
  have HS := hidC hs
  have HXc : Hid (∀ W, BXp g cs W → W.cell? ⟨g, 0, none⟩ = some (.int .i64 1) ∧ W.cell? ⟨g, 2, none⟩ = some (.int .i64 m)) := fun W hW => by
    unfold BXp at hW
    rw [hcs] at hW
    constructor <;> simp [World.cell?, hW]
  have HM := hidC hm
  clear hj hs hbU hcs hm
  obtain ⟨x0, x2⟩ := HXc.out U HXU.out
  obtain ⟨p0, p1, _⟩ := HJU.out.cells
  go_enter Tryz.func6, Tryz.ntmps6
  go_upto_region 9 with fail
  rw [← hU, ← hg]
  clear hU hg
  have HDr : Hid (Below U.heap.size U U.drew) := drew_below U 1
  have HJd := hidC (HJU.out.kept HDr.out)
  have HXd := hidC (HXU.out.kept HDr.out)
  have HBd : Hid (Gos P B Mp Mc Mn R av pv rv av pv rv wr U.drew) := HBU.out.trans (Gos.keep HDr.out)
  have HC1 := hidC (pinF HJd.out m HM.out HXd.out)
  have HC2 : Hid (∀ W st', PJ n0 P B Mp Mc Mn R cap cnt st' sd nw av pv rv W → BXp g cs W → _) := fun W st' hW hX => rpinF (st := st') hW HS.out HPl.out.1 HCt.out m hX
  have HKp : Hid (∀ W st' sd' av' pv', PJ n0 P B Mp Mc Mn R cap cnt st' sd' nw av' pv' rv W → BXp g cs W → W.cell? ⟨P, 0, none⟩ = some (ptr B) ∧ W.cell? ⟨P, 1, none⟩ = some (ptr R) ∧ W.cell? ⟨g, 2, none⟩ = some (.int .i64 m)) := fun W st' sd' av' pv' hW hX => ⟨hW.cells.1, hW.cells.2.1, (HXc.out W hX).2⟩
  go_region_held3 (fun w' => w'.cell? ⟨P, 0, none⟩ = some (ptr B) ∧ w'.cell? ⟨P, 1, none⟩ = some (ptr R) ∧ w'.cell? ⟨g, 2, none⟩ = some (.int .i64 m)) (first | with_reducible exact HQ4.out | with_reducible exact HQ3.out | go_keep) (first
    | (go_at_call 20; with_reducible refine HC1.out.mono ?_; rintro e W3 ⟨st3, rfl, hr3, hj3, hx3, hb3⟩; have HJ3 := hidC hj3; have HX3 := hidC hx3; have HB3 := hidC (HBd.out.trans hb3); have HR3 := hidC hr3; have HQ3 := hidC (HKp.out _ _ _ _ _ hj3 hx3); clear hj3 hx3 hb3 hr3)
    | (go_at_call 11; with_reducible refine (numB_any W3 _).mono ?_; rintro e Wn ⟨rfl, hWn⟩; have hWn' := hWn.symm; subst hWn'; clear hWn)
    | (go_at_call 21; with_reducible refine (HC2.out W3 st3 HJ3.out HX3.out).mono ?_; rintro e W4 ⟨sd4, rfl, hr4, hj4, hx4⟩; have HJ4 := hidC hj4; have HR4 := hidC hr4; have HQ4 := hidC (by obtain ⟨a4, p4, h4, _⟩ := hj4; exact HKp.out _ _ _ _ _ h4 hx4); clear hj4 hx4 hr4))
  all_goals (
    have HZ : Hid (StF n0 P B Mp Mc Mn R cap cnt av pv rv wr (.returned (.bool true)) W4) := by
      obtain ⟨a4, p4, h4, g4⟩ := HJ4.out
      refine ⟨rfl, st3, sd4, HS.out.pin HNd.out HR3.out ?_, nw, a4, p4, h4.up.up, HB3.out.trans g4⟩
      rw [HS.out.pinE HNd.out]
      exact HR4.out
    have hee : (pinE st.la st.fl st.pins m == pinE sd.la sd.fl sd.pins m) = true := by rw [HS.out.pinE HNd.out]; simp
    generalize pinE st.la st.fl st.pins m = E1 at *
    generalize pinE sd.la sd.fl sd.pins m = E2 at *
    have HZ2 : Hid (StF n0 P B Mp Mc Mn R cap cnt av pv rv wr (.returned (.bool (E1 == E2))) W4) := by rw [hee]; exact HZ.out
    clear p0 p1 x0 x2 hee
    go_wp2
    go_ret
    exact HZ2.out)

set_option maxHeartbeats 4000000 in
set_option maxRecDepth 100000 in
theorem step2F_any (n0 P B Mp Mc Mn R : Nat) (cap : Int) (cnt : Nat) (st sd : Bs) (nw : List K) (av pv : Value) (rv : Nat → Value) (wr : World) (hj : PJ n0 P B Mp Mc Mn R cap cnt st sd nw av pv rv wr) (hs : Syn st sd) (oa : Option Addr) (ln oc : Nat) (m k1 k2 : Int) (hm : In64 m) :
    Calls Tryz.prog 6 #[ptr P, .agg #[.int .i64 2, .slice oa ln oc, .int .i64 m, .int .i64 k1, .int .i64 k2]] wr fun e w' => StF n0 P B Mp Mc Mn R cap cnt av pv rv wr e w' := by
  obtain ⟨U, hU⟩ : ∃ U, U = wr.alloc (.cells #[.int .i64 2, .slice oa ln oc, .int .i64 m, .int .i64 k1, .int .i64 k2] 45) := ⟨_, rfl⟩
  obtain ⟨g, hg⟩ : ∃ g, g = wr.heap.size := ⟨_, rfl⟩
  have hbU : Below wr.heap.size wr U := by rw [hU]; exact (Below.refl _ _).alloc (Nat.le_refl _) _
  have HJU := hidC (hj.kept hbU)
  obtain ⟨cs, hcs⟩ : ∃ cs : Array Value, cs = #[.int .i64 2, .slice oa ln oc, .int .i64 m, .int .i64 k1, .int .i64 k2] := ⟨_, rfl⟩
  have HXU : Hid (BXp g cs U) := by rw [hU, hg, hcs]; exact heap_alloc_new _ _ rfl
  have HBU : Hid (Gos P B Mp Mc Mn R av pv rv av pv rv wr U) := Gos.keep hbU
  have HPl := hidC (hj.pl hs)
  have HCt := hidC (hs.cts hj)
  have HNd := hidC hj.ba.pnd
  have HAn := hidC hj.ba.nodup
  have HRs := hidC hj.ba.rs
  have HS := hidC hs
  have HXc : Hid (∀ W, BXp g cs W → W.cell? ⟨g, 0, none⟩ = some (.int .i64 2) ∧ W.cell? ⟨g, 2, none⟩ = some (.int .i64 m)) := fun W hW => by
    unfold BXp at hW
    rw [hcs] at hW
    constructor <;> simp [World.cell?, hW]
  have HM := hidC hm
  clear hj hs hbU hcs hm
  obtain ⟨x0, x2⟩ := HXc.out U HXU.out
  obtain ⟨p0, p1, _⟩ := HJU.out.cells
  go_enter Tryz.func6, Tryz.ntmps6
  go_upto_region 11 with fail
  rw [← hU, ← hg]
  clear hU hg
  have HDr : Hid (Below U.heap.size U U.drew) := drew_below U 1
  have HJd := hidC (HJU.out.kept HDr.out)
  have HXd := hidC (HXU.out.kept HDr.out)
  have HBd : Hid (Gos P B Mp Mc Mn R av pv rv av pv rv wr U.drew) := HBU.out.trans (Gos.keep HDr.out)
  have HC1 := hidC (unpF HJd.out m HM.out HXd.out)
  have HC2 : Hid (∀ W st', PJ n0 P B Mp Mc Mn R cap cnt st' sd nw av pv rv W → BXp g cs W → _) := fun W st' hW hX => runpF (st := st') hW HS.out HPl.out.1 HCt.out m hX
  have HKp : Hid (∀ W st' sd' av' pv', PJ n0 P B Mp Mc Mn R cap cnt st' sd' nw av' pv' rv W → BXp g cs W → W.cell? ⟨P, 0, none⟩ = some (ptr B) ∧ W.cell? ⟨P, 1, none⟩ = some (ptr R) ∧ W.cell? ⟨g, 2, none⟩ = some (.int .i64 m)) := fun W st' sd' av' pv' hW hX => ⟨hW.cells.1, hW.cells.2.1, (HXc.out W hX).2⟩
  go_region_held3 (fun w' => w'.cell? ⟨P, 0, none⟩ = some (ptr B) ∧ w'.cell? ⟨P, 1, none⟩ = some (ptr R) ∧ w'.cell? ⟨g, 2, none⟩ = some (.int .i64 m)) (first | with_reducible exact HQ4.out | with_reducible exact HQ3.out | go_keep) (first
    | (go_at_call 22; with_reducible refine HC1.out.mono ?_; rintro e W3 ⟨E1, st3, rfl, hr3, hj3, hx3, hb3⟩; have HJ3 := hidC hj3; have HX3 := hidC hx3; have HB3 := hidC (HBd.out.trans hb3); have HR3 := hidC hr3; have HQ3 := hidC (HKp.out _ _ _ _ _ hj3 hx3); clear hj3 hx3 hb3 hr3)
    | (go_at_call 11; with_reducible refine (numB_any W3 _).mono ?_; rintro e Wn ⟨rfl, hWn⟩; have hWn' := hWn.symm; subst hWn'; clear hWn)
    | (go_at_call 23; with_reducible refine (HC2.out W3 st3 HJ3.out HX3.out).mono ?_; rintro e W4 ⟨E2, sd4, rfl, hr4, hj4, hx4⟩; have HJ4 := hidC hj4; have HR4 := hidC hr4; have HQ4 := hidC (by obtain ⟨a4, p4, h4, _⟩ := hj4; exact HKp.out _ _ _ _ _ h4 hx4); clear hj4 hx4 hr4))
  all_goals (
    obtain ⟨hE, hsy⟩ := HS.out.unp HNd.out HR3.out HR4.out
    subst hE
    have HZ : Hid (StF n0 P B Mp Mc Mn R cap cnt av pv rv wr (.returned (.bool true)) W4) := by
      obtain ⟨a4, p4, h4, g4⟩ := HJ4.out
      exact ⟨rfl, st3, sd4, hsy, nw, a4, p4, h4.up.up, HB3.out.trans g4⟩
    have hee : (E2 == E2) = true := by simp
    have HZ2 : Hid (StF n0 P B Mp Mc Mn R cap cnt av pv rv wr (.returned (.bool (E2 == E2))) W4) := by rw [hee]; exact HZ.out
    clear p0 p1 x0 x2 hee
    go_wp2
    go_ret
    exact HZ2.out)

set_option maxHeartbeats 4000000 in
set_option maxRecDepth 100000 in
theorem step3F_any (n0 P B Mp Mc Mn R : Nat) (cap : Int) (cnt : Nat) (st sd : Bs) (nw : List K) (av pv : Value) (rv : Nat → Value) (wr : World) (hj : PJ n0 P B Mp Mc Mn R cap cnt st sd nw av pv rv wr) (hs : Syn st sd) (oa : Option Addr) (ln oc : Nat) (m k1 k2 : Int) (hm : In64 m) :
    Calls Tryz.prog 6 #[ptr P, .agg #[.int .i64 3, .slice oa ln oc, .int .i64 m, .int .i64 k1, .int .i64 k2]] wr fun e w' => StF n0 P B Mp Mc Mn R cap cnt av pv rv wr e w' := by
  obtain ⟨U, hU⟩ : ∃ U, U = wr.alloc (.cells #[.int .i64 3, .slice oa ln oc, .int .i64 m, .int .i64 k1, .int .i64 k2] 45) := ⟨_, rfl⟩
  obtain ⟨g, hg⟩ : ∃ g, g = wr.heap.size := ⟨_, rfl⟩
  have hbU : Below wr.heap.size wr U := by rw [hU]; exact (Below.refl _ _).alloc (Nat.le_refl _) _
  have HJU := hidC (hj.kept hbU)
  obtain ⟨cs, hcs⟩ : ∃ cs : Array Value, cs = #[.int .i64 3, .slice oa ln oc, .int .i64 m, .int .i64 k1, .int .i64 k2] := ⟨_, rfl⟩
  have HXU : Hid (BXp g cs U) := by rw [hU, hg, hcs]; exact heap_alloc_new _ _ rfl
  have HBU : Hid (Gos P B Mp Mc Mn R av pv rv av pv rv wr U) := Gos.keep hbU
  have HPl := hidC (hj.pl hs)
  have HCt := hidC (hs.cts hj)
  have HNd := hidC hj.ba.pnd
  have HAn := hidC hj.ba.nodup
  have HRs := hidC hj.ba.rs
  have HS := hidC hs
  have HXc : Hid (∀ W, BXp g cs W → W.cell? ⟨g, 0, none⟩ = some (.int .i64 3) ∧ W.cell? ⟨g, 2, none⟩ = some (.int .i64 m)) := fun W hW => by
    unfold BXp at hW
    rw [hcs] at hW
    constructor <;> simp [World.cell?, hW]
  have HM := hidC hm
  clear hj hs hbU hcs hm
  obtain ⟨x0, x2⟩ := HXc.out U HXU.out
  obtain ⟨p0, p1, _⟩ := HJU.out.cells
  go_enter Tryz.func6, Tryz.ntmps6
  go_upto_region 13 with fail
  rw [← hU, ← hg]
  clear hU hg
  have HDr : Hid (Below U.heap.size U U.drew) := drew_below U 1
  have HJd := hidC (HJU.out.kept HDr.out)
  have HXd := hidC (HXU.out.kept HDr.out)
  have HBd : Hid (Gos P B Mp Mc Mn R av pv rv av pv rv wr U.drew) := HBU.out.trans (Gos.keep HDr.out)
  have HC1 := hidC (colF HJd.out HXd.out)
  have HC2 : Hid (∀ W st', PJ n0 P B Mp Mc Mn R cap cnt st' sd nw av pv rv W → BXp g cs W → _) := fun W st' hW hX => rcolF (st := st') hW ⟨HPl.out.1, HPl.out.2.1, HPl.out.2.2.1⟩ hX
  have HKp : Hid (∀ W st' sd' av' pv', PJ n0 P B Mp Mc Mn R cap cnt st' sd' nw av' pv' rv W → BXp g cs W → W.cell? ⟨P, 0, none⟩ = some (ptr B) ∧ W.cell? ⟨P, 1, none⟩ = some (ptr R) ∧ W.cell? ⟨g, 2, none⟩ = some (.int .i64 m)) := fun W st' sd' av' pv' hW hX => ⟨hW.cells.1, hW.cells.2.1, (HXc.out W hX).2⟩
  go_region_held3 (fun w' => w'.cell? ⟨P, 0, none⟩ = some (ptr B) ∧ w'.cell? ⟨P, 1, none⟩ = some (ptr R) ∧ w'.cell? ⟨g, 2, none⟩ = some (.int .i64 m)) (first | with_reducible exact HQ4.out | with_reducible exact HQ3.out | go_keep) (first
    | (go_at_call 24; with_reducible refine HC1.out.mono ?_; rintro e W3 ⟨d3, al3, rfl, hr3, hj3, hx3, hb3⟩; have HJ3 := hidC hj3; have HX3 := hidC hx3; have HB3 := hidC (HBd.out.trans hb3); have HR3 := hidC hr3; have HQ3 := hidC (HKp.out _ _ _ _ _ hj3 hx3); clear hj3 hx3 hb3 hr3)
    | (go_at_call 25; with_reducible refine (HC2.out W3 _ HJ3.out HX3.out).mono ?_; rintro e W4 ⟨rfl, hj4, hx4⟩; have HJ4 := hidC hj4; have HQ4 := hidC (by obtain ⟨a4, p4, h4, _⟩ := hj4; exact HKp.out _ _ _ _ _ h4 hx4); clear hj4 hx4))
  all_goals (
    obtain ⟨hal, hsy⟩ := HS.out.col HAn.out HRs.out HR3.out.1 HR3.out.2
    have HZ : Hid (StF n0 P B Mp Mc Mn R cap cnt av pv rv wr (.returned (.bool true)) W4) := by
      obtain ⟨a4, p4, h4, g4⟩ := HJ4.out
      exact ⟨rfl, _, _, hsy, nw, a4, p4, h4.up.up, HB3.out.trans g4⟩
    have hee : ((st.all.length : Int) - (al3.length : Int) == (sd.all.length : Int) - ((colD (sd.pins.map Prod.fst) sd.all).length : Int)) = true := by rw [hal, HS.out.al]; simp
    clear hal hsy
    generalize (st.all.length : Int) - (al3.length : Int) = E1 at *
    generalize (sd.all.length : Int) - ((colD (sd.pins.map Prod.fst) sd.all).length : Int) = E2 at *
    have HZ2 : Hid (StF n0 P B Mp Mc Mn R cap cnt av pv rv wr (.returned (.bool (E1 == E2))) W4) := by rw [hee]; exact HZ.out
    clear p0 p1 x0 x2 hee
    go_wp2
    go_ret
    exact HZ2.out)
end Go.Proofs.YtbmohlkcmhhpgaaGreat
/-
  step AT ANY OTHER KIND, with the stronger frame.
-/
namespace Go.Proofs.YtbmohlkcmhhpgaaGreat
open Go.RowKit Go.Sort

set_option maxHeartbeats 4000000 in
set_option maxRecDepth 100000 in
theorem stepNF_any (n0 P B Mp Mc Mn R : Nat) (cap : Int) (cnt : Nat) (st sd : Bs) (nw : List K) (av pv : Value) (rv : Nat → Value) (wr : World) (hj : PJ n0 P B Mp Mc Mn R cap cnt st sd nw av pv rv wr) (hs : Syn st sd) (kind : Int) (h0 : kind ≠ 0) (h1 : kind ≠ 1) (h2 : kind ≠ 2) (h3 : kind ≠ 3) (h5 : kind ≠ 5) (h6 : kind ≠ 6) (h7 : kind ≠ 7) (oa : Option Addr) (ln oc : Nat) (m k1 k2 : Int) :
    Calls Tryz.prog 6 #[ptr P, .agg #[.int .i64 kind, .slice oa ln oc, .int .i64 m, .int .i64 k1, .int .i64 k2]] wr fun e w' => StF n0 P B Mp Mc Mn R cap cnt av pv rv wr e w' := by
  obtain ⟨U, hU⟩ : ∃ U, U = wr.alloc (.cells #[.int .i64 kind, .slice oa ln oc, .int .i64 m, .int .i64 k1, .int .i64 k2] 45) := ⟨_, rfl⟩
  have hbU : Below wr.heap.size wr U := by rw [hU]; exact (Below.refl _ _).alloc (Nat.le_refl _) _
  have HJU := hidC (hj.kept hbU)
  have HBU : Hid (Gos P B Mp Mc Mn R av pv rv av pv rv wr U) := Gos.keep hbU
  have HS := hidC hs
  have HNm := hidC (numbers_any U HJU.out hs)
  have e0 : (kind == 0) = false := by simpa using h0
  have e1 : (kind == 1) = false := by simpa using h1
  have e2 : (kind == 2) = false := by simpa using h2
  have e3 : (kind == 3) = false := by simpa using h3
  have e5 : (kind == 5) = false := by simpa using h5
  have e6 : (kind == 6) = false := by simpa using h6
  have e7 : (kind == 7) = false := by simpa using h7
  clear hj hs hbU
  go_enter Tryz.func6, Tryz.ntmps6
  go_wp2_with fail
  rw [← hU]
  clear hU
  refine HNm.out.mono ?_
  rintro e W2 ⟨rfl, q, hW2⟩
  subst hW2
  have HZ : Hid (StF n0 P B Mp Mc Mn R cap cnt av pv rv wr (.returned (.bool true)) (U.drewN q)) := ⟨rfl, st, sd, HS.out, nw, av, pv, (HJU.out.kept (drew_below U q)).up.up, HBU.out.trans (Gos.keep (drew_below U q))⟩
  go_wp2
  go_ret
  exact HZ.out
end Go.Proofs.YtbmohlkcmhhpgaaGreat
/-
  A LIST IS NOTED: which rows grow, which stay.
-/
namespace Go.Proofs.YtbmohlkcmhhpgaaGreat
open Go.RowKit Go.Sort

/-- row i has one value more, the others stay -/
structure Nt (n0 : Nat) (P B Mp Mc Mn R : Nat) (av pv : Value) (rv rv' : Nat → Value) (i : Nat) (v : Value) (W W' : World) : Prop where
  go : Gon P B Mp Mc Mn R av pv rv av pv rv' W W'
  ne : ∀ j, j ≠ i → rv' j = rv j
  me : ∀ xs, xs.length ≤ 1000000 → W.ownsRow n0 (tpR i) 1 (rv i) xs.length xs → W'.ownsRow n0 (tpR i) 1 (rv' i) (xs ++ [v]).length (xs ++ [v])
  ot : ∀ j, 2 ≤ j → j < 8 → j ≠ i → ∀ n xs, W.ownsRow n0 (tpR j) 1 (rv j) n xs → W'.ownsRow n0 (tpR j) 1 (rv' j) n xs
section
variable {n0 P B Mp Mc Mn R : Nat} {cap : Int} {cnt : Nat} {st sd : Bs} {nw : List K} {av pv : Value} {rv : Nat → Value} {W : World}
theorem PJ.noteG (h : PJ n0 P B Mp Mc Mn R cap cnt st sd nw av pv rv W) (i : Nat) (hi : 2 ≤ i) (hi8 : i < 8) (TS TE : TypeId) (hTS : tpS i = TS) (hTE : tpR i = TE) (la : Option Addr) (ln lc : Nat) (hc : cnt ≤ 1000000) (x : Value) (hx : rv i = x) (sz : Nat) (hz : W.heap.size = sz) :
    ∀ ty, ∃ v' w', (Builtin.append_ #[TS, TS] ty #[x, .slice (some ⟨sz, 0, none⟩) 1 1]).run Tryz.prog (W.alloc (.cells #[.slice la ln lc] TE)) = .ok v' w' ∧ ((∃ a m c, v' = .slice a m c) ∧ (∀ j, 2 ≤ j → j < 8 → w'.cell? ⟨P, j, none⟩ = some (rv j)) ∧ w'.frozen? ⟨P, i, none⟩ = false ∧ Hid ((∃ rv', Nt n0 P B Mp Mc Mn R av pv rv rv' i (.slice la ln lc) W (w'.setCell ⟨P, i, none⟩ v') ∧ PJ n0 P B Mp Mc Mn R cap (cnt + 1) st sd nw av pv rv' (w'.setCell ⟨P, i, none⟩ v')) ∧ Below n0 W (w'.setCell ⟨P, i, none⟩ v') ∧ ∀ (k : Nat) (cs : Array Value) (T : TypeId) (z : Nat × Nat), W.heap[k]? = some (.cells cs T z) → T ≠ TE → T ≠ 40 → (w'.setCell ⟨P, i, none⟩ v').heap[k]? = W.heap[k]?)) := fun ty => by
  subst hTS hTE hx hz
  obtain ⟨v', w', z1, z2, z3, z4, ⟨rv', hne, hJ⟩, z6, z7⟩ := h.push i hi hi8 (.slice la ln lc) rfl hc ty h.n0s
  have hiv : rv' i = v' := by
    have h1 : (w'.setCell ⟨P, i, none⟩ v').cell? ⟨P, i, none⟩ = some v' := World.cell?_setCell_same' _ _ _ (by rw [z3 i hi hi8]; rfl)
    have h2 : (w'.setCell ⟨P, i, none⟩ v').cell? ⟨P, i, none⟩ = some (rv' i) := by
      obtain ⟨_, _, c2, c3, c4, c5, c6, c7⟩ := hJ.cells
      have h3 : i = 2 ∨ i = 3 ∨ i = 4 ∨ i = 5 ∨ i = 6 ∨ i = 7 := by omega
      rcases h3 with rfl | rfl | rfl | rfl | rfl | rfl <;> assumption
    rw [h1] at h2
    exact (Option.some.inj h2).symm
  have hfun : (fun j => if j = i then v' else rv j) = rv' := by
    funext j
    by_cases hji : j = i
    · rw [if_pos hji, hji, hiv]
    · rw [if_neg hji, hne j hji]
  obtain ⟨xs0, hx0, hl0⟩ := h.rw i hi hi8
  obtain ⟨g0, _, k0⟩ := h.pushG i hi hi8 (.slice la ln lc) rfl xs0 hx0 (by omega) ty h.n0s z1
  rw [hfun] at g0
  refine ⟨v', w', z1, z2, z3, z4, ⟨rv', ⟨g0, hne, fun xs hl hx => ?_, fun j h1 h2 h3 n xs hx => ?_⟩, hJ⟩, z6.below h.n0s (fun _ hk => hk), z7⟩
  · rw [hiv]
    exact (h.pushG i hi hi8 (.slice la ln lc) rfl xs hx hl ty h.n0s z1).2.1
  · rw [hne j h3]
    refine rowSame hx (fun g hg => k0 g (World.ownsRow.lt hx g hg).2 (fun e => ?_) (fun e => ?_))
    · exact h.ap i j hi hi8 h1 h2 (fun e' => h3 e'.symm) g e hg
    · obtain ⟨cur, hc'⟩ := rowBlock hx hg
      rw [e, h.pb] at hc'
      simp only [Option.some.injEq, Obj.cells.injEq] at hc'
      exact (tpR_ne j).2.2.2.2 hc'.2.1.symm
end
/-- a step that hands a list out -/
def StG (n0 P B Mp Mc Mn R : Nat) (cap : Int) (cnt i : Nat) (TE : TypeId) (av pv : Value) (rv : Nat → Value) (wr : World) (e : Ending) (w' : World) : Prop :=
  e = .returned (.bool true) ∧ ∃ st sd, Syn st sd ∧ ∃ nw rv' va vb L, PJ n0 P B Mp Mc Mn R cap (cnt + 2) st sd nw av pv rv' w' ∧ Gon P B Mp Mc Mn R av pv rv av pv rv' wr w' ∧
    (∀ xs, xs.length ≤ 1000000 → wr.ownsRow n0 (tpR i) 1 (rv i) xs.length xs → w'.ownsRow n0 (tpR i) 1 (rv' i) (xs ++ [va]).length (xs ++ [va])) ∧
    (∀ xs, xs.length ≤ 1000000 → wr.ownsRow n0 (tpR (i + 1)) 1 (rv (i + 1)) xs.length xs → w'.ownsRow n0 (tpR (i + 1)) 1 (rv' (i + 1)) (xs ++ [vb]).length (xs ++ [vb])) ∧
    (∀ j, 2 ≤ j → j < 8 → j ≠ i → j ≠ i + 1 → ∀ n xs, wr.ownsRow n0 (tpR j) 1 (rv j) n xs → w'.ownsRow n0 (tpR j) 1 (rv' j) n xs) ∧
    w'.ownsRow wr.heap.size TE 2 va L.length (cks L) ∧ w'.ownsRow wr.heap.size TE 2 vb L.length (cks L) ∧ (∀ g, va.ownBlock = some g → vb.ownBlock ≠ some g) ∧ L.length ≤ 1000000
/-- two notes, one behind the other -/
theorem Nt.two {n0 P B Mp Mc Mn R : Nat} {cap : Int} {cnt i : Nat} {TE : TypeId} {st sd : Bs} {nw : List K} {av pv : Value} {rv rv1 rv2 : Nat → Value} {wr W W1 W2 : World} {va vb : Value} {L : List K} (hi : 2 ≤ i) (hi8 : i + 1 < 8) (hbw : Below wr.heap.size wr W) (h1 : Nt n0 P B Mp Mc Mn R av pv rv rv1 i va W W1) (h2 : Nt n0 P B Mp Mc Mn R av pv rv1 rv2 (i + 1) vb W1 W2) (hs : Syn st sd) (hJ : PJ n0 P B Mp Mc Mn R cap (cnt + 2) st sd nw av pv rv2 W2)
    (ha : W2.ownsRow wr.heap.size TE 2 va L.length (cks L)) (hb : W2.ownsRow wr.heap.size TE 2 vb L.length (cks L)) (hap : ∀ g, va.ownBlock = some g → vb.ownBlock ≠ some g) (hL : L.length ≤ 1000000) (q : Nat) : StG n0 P B Mp Mc Mn R cap cnt i TE av pv rv wr (.returned (.bool true)) (W2.drewN q) := by
  have hd := drew_below W2 q
  have hr : ∀ {base : Nat} {T : TypeId} {sz n : Nat} {v : Value} {xs : List Value}, W2.ownsRow base T sz v n xs → (W2.drewN q).ownsRow base T sz v n xs := fun h => rowSame h (fun g hg => hd.block g (World.ownsRow.lt h g hg).2)
  have hw : ∀ {base : Nat} {T : TypeId} {sz n : Nat} {v : Value} {xs : List Value}, wr.ownsRow base T sz v n xs → W.ownsRow base T sz v n xs := fun h => rowSame h (fun g hg => hbw.block g (World.ownsRow.lt h g hg).2)
  refine ⟨rfl, st, sd, hs, nw, rv2, va, vb, L, hJ.kept hd, (Gon.keep hbw).trans (h1.go.trans (h2.go.trans (Gon.keep hd))), fun xs hl hx => ?_, fun xs hl hx => ?_, fun j j1 j2 j3 j4 n xs hx => ?_, hr ha, hr hb, hap, hL⟩
  · exact hr (h2.ot i hi (by omega) (by omega) _ _ (h1.me xs hl (hw hx)))
  · have h3 := h1.ot (i + 1) (by omega) hi8 (by omega) _ _ (hw hx)
    exact hr (h2.me xs hl h3)
  · exact hr (h2.ot j j1 j2 j4 _ _ (h1.ot j j1 j2 j3 _ _ (hw hx)))
end Go.Proofs.YtbmohlkcmhhpgaaGreat
/-
  step 5: which list is handed out.
-/
namespace Go.Proofs.YtbmohlkcmhhpgaaGreat
open Go.RowKit Go.Sort

set_option maxHeartbeats 4000000 in
set_option maxRecDepth 100000 in
theorem step5G_any (n0 P B Mp Mc Mn R : Nat) (cap : Int) (cnt : Nat) (st sd : Bs) (nw : List K) (av pv : Value) (rv : Nat → Value) (wr : World) (hj : PJ n0 P B Mp Mc Mn R cap cnt st sd nw av pv rv wr) (hs : Syn st sd) (hct : cnt ≤ 900000) (oa : Option Addr) (ln oc : Nat) (m k1 k2 : Int) (hk : KIn (k1, k2)) :
    Calls Tryz.prog 6 #[ptr P, .agg #[.int .i64 5, .slice oa ln oc, .int .i64 m, .int .i64 k1, .int .i64 k2]] wr fun e w' => StG n0 P B Mp Mc Mn R cap cnt 6 92 av pv rv wr e w' := by
  obtain ⟨U, hU⟩ : ∃ U, U = wr.alloc (.cells #[.int .i64 5, .slice oa ln oc, .int .i64 m, .int .i64 k1, .int .i64 k2] 45) := ⟨_, rfl⟩
  obtain ⟨g, hg⟩ : ∃ g, g = wr.heap.size := ⟨_, rfl⟩
  have hbU : Below wr.heap.size wr U := by rw [hU]; exact (Below.refl _ _).alloc (Nat.le_refl _) _
  have HJU := hidC (hj.kept hbU)
  obtain ⟨cs, hcs⟩ : ∃ cs : Array Value, cs = #[.int .i64 5, .slice oa ln oc, .int .i64 m, .int .i64 k1, .int .i64 k2] := ⟨_, rfl⟩
  have HXU : Hid (BXp g cs U) := by rw [hU, hg, hcs]; exact heap_alloc_new _ _ rfl
  have HBU : Hid (Below wr.heap.size wr U) := hbU
  have HPl := hidC (hj.pl hs)
  have HS := hidC hs
  have HXc : Hid (∀ W, BXp g cs W → W.cell? ⟨g, 0, none⟩ = some (.int .i64 5) ∧ W.cell? ⟨g, 3, none⟩ = some (.int .i64 k1) ∧ W.cell? ⟨g, 4, none⟩ = some (.int .i64 k2)) := fun W hW => by
    unfold BXp at hW
    rw [hcs] at hW
    refine ⟨?_, ?_, ?_⟩ <;> simp [World.cell?, hW]
  have HK := hidC hk
  clear hj hs hbU hcs hk
  obtain ⟨x0, x3, x4⟩ := HXc.out U HXU.out
  obtain ⟨p0, p1, _⟩ := HJU.out.cells
  go_enter Tryz.func6, Tryz.ntmps6
  have HPn := hidC (fun W (hW : PJ n0 P B Mp Mc Mn R cap cnt st sd nw av pv rv W) => pins_any W B Mp Mc Mn cap st.la st.fl st.pins st.all nw hW.ba)
  go_upto_region 15 with fail
  rw [← hU, ← hg]
  clear hU hg
  go_wp2_with fail
  refine (HPn.out U HJU.out).mono ?_
  rintro e W3 ⟨v3, d3, rfl, hd1, hd2, ho3, hb3⟩
  obtain ⟨LL, hLL⟩ : ∃ LL : List K, LL = sd.pins := ⟨_, rfl⟩
  have hde : d3 = sd.pins.map Prod.fst := rise_ints hd1 HS.out.ri (fun x => by rw [hd2.mem_iff, fpn_mem, fpn_mem, HS.out.pn])
  rw [hde, pcs_cks, pnl_doc HS.out.pn HS.out.ri, ← hLL, List.length_map] at ho3
  obtain ⟨la, lm, lc, rfl, hlm⟩ := rowOpenD ho3
  have HJ3 := hidC (HJU.out.kept hb3)
  have HB3 : Hid (Below wr.heap.size wr W3) := HBU.out.trans (hb3.mono HBU.out.size)
  have HL3 : Hid (W3.ownsRow U.heap.size 92 2 (.slice la lm lc) LL.length (cks LL)) := by rw [hLL] at ho3 ⊢; exact ho3
  have HLe := hidC (And.intro hLL hlm)
  have HLl : Hid (LL.length ≤ 1000000) := by show _ ≤ _; rw [hLL]; have := HPl.out.1; omega
  clear hde ho3 hb3 hd1 hd2 hlm hLL
  obtain ⟨q0, q1, _⟩ := HJ3.out.cells
  obtain ⟨pa, pn, pc, hpv, hpn⟩ := rowOpenD HJ3.out.rb.rp
  have r4 := HJ3.out.rb.cells.2.2.2.2
  rw [hpv] at r4
  have HAp : Hid (∀ ty, ∃ v' w', (Builtin.append_ #[22, 22] ty #[.slice none 0 0, .slice pa pn pc]).run Tryz.prog W3 = .ok v' w' ∧ (∃ ma mc, v' = .slice ma lm mc ∧ Hid (w'.ownsRow W3.heap.size 92 2 (.slice ma lm mc) LL.length (cks LL) ∧ Below W3.heap.size W3 w'))) := fun ty => by
    have h1 := HJ3.out.rb.rp
    rw [hpv] at h1
    obtain ⟨e1, h2, h3, _⟩ := rowCs h1
    obtain ⟨v', w', z1, z2, z3, z4⟩ := akPin.app (w := W3) ty W3.heap.size (.slice none 0 0) 0 [] (World.ownsRow_nil _ _ _ _) W3.heap.size pa pn pc (pns sd.pins) (by rw [e1, pns_length]) h2 h3 (pns_one _) (by have := HPl.out.1; omega) (by omega) (Nat.le_refl _)
    obtain ⟨ma, mm, mc, rfl, hmm⟩ := rowOpenD z2
    rw [Nat.zero_add, List.nil_append, e1] at z2
    have hmm2 : mm = lm := by rw [hmm, HLe.out.2, HLe.out.1, e1, Nat.zero_add]
    subst hmm2
    refine ⟨_, w', z1, ma, mc, rfl, ?_, (Below.refl _ _).grown z3 (Nat.le_refl _) (fun k e => by cases e)⟩
    rw [HLe.out.1, pns_cksD]
    exact z2
  clear hpv hpn x0 x3 x4 p0 p1
  obtain ⟨xA, hxA⟩ : ∃ xA, rv 6 = xA := ⟨_, rfl⟩
  obtain ⟨xB, hxB⟩ : ∃ xB, rv 7 = xB := ⟨_, rfl⟩
  have HXAB := hidC (And.intro hxA hxB)
  have HA2 : Hid (∀ (ma : Option Addr) (mc : Nat) (w1 : World) (v1 : Value) rv', rv' 7 = xB → PJ n0 P B Mp Mc Mn R cap (cnt + 1) st sd nw av pv rv' (w1.setCell ⟨P, 6, none⟩ v1) → _) := fun ma mc w1 v1 rv' he hW => hW.noteG 7 (by omega) (by omega) 38 22 rfl rfl ma lm mc (by omega) xB he w1.heap.size (by simp)
  clear hxA hxB
  go_wp2_with (first
    | (at_builtin; with_reducible refine wpL_appI rfl _ _ 38 rfl xB (.slice (some ⟨w1.heap.size, 0, none⟩) 1 1) rfl rfl HA3.out ?_; rintro v2 w2 ⟨⟨a2, m2, c2, rfl⟩, hc2, hf2, HN2⟩; have hd2 := hc2 7 (by omega) (by omega); rw [he1] at hd2)
    | (at_builtin; with_reducible refine wpL_appI rfl _ _ 38 rfl xA (.slice (some ⟨W4.heap.size, 0, none⟩) 1 1) rfl rfl HA1.out ?_; rintro v1 w1 ⟨⟨a1, m1, c1, rfl⟩, hc1, hf1, HN1⟩; have hd1 := hc1 6 (by omega) (by omega); have hd3 := hc1 7 (by omega) (by omega); rw [HXAB.out.1] at hd1; rw [HXAB.out.2] at hd3; obtain ⟨rv1, hr1, hJ1⟩ := HN1.out.1; have HJ1 := hidC hJ1; have he1 : rv1 7 = xB := (hr1.ne 7 (by omega)).trans HXAB.out.2; have HA3 := hidC (HA2.out ma mc w1 _ rv1 he1 hJ1); have HNt1 := hidC hr1; clear hJ1 hc1 hr1)
    | (at_builtin; with_reducible refine wpL_appI rfl _ _ 22 rfl (.slice none 0 0) (.slice pa pn pc) rfl rfl HAp.out ?_; rintro v4 W4 ⟨ma, mc, rfl, HO4⟩; have HJ4 := hidC (HJ3.out.kept HO4.out.2); obtain ⟨y0, y1, y2, y3, y4, y5, y6, y7⟩ := HJ4.out.cells; rw [HXAB.out.1] at y6; rw [HXAB.out.2] at y7; have HA1 := hidC (HJ4.out.noteG 6 (by omega) (by omega) 38 22 rfl rfl la lm lc (by omega) xA HXAB.out.1 W4.heap.size rfl)))
  have HB4 : Hid (Below wr.heap.size wr W4) := HB3.out.trans (HO4.out.2.mono HB3.out.size)
  have HL4 : Hid (W4.ownsRow U.heap.size 92 2 (.slice la lm lc) LL.length (cks LL)) := rowSame HL3.out (fun g hg => HO4.out.2.block g (World.ownsRow.lt HL3.out g hg).2)
  have HM4 := hidC HO4.out.1
  have HApt : Hid ((∀ g, (Value.slice la lm lc).ownBlock = some g → (Value.slice ma lm mc).ownBlock ≠ some g) ∧ wr.heap.size ≤ U.heap.size ∧ wr.heap.size ≤ W3.heap.size) := ⟨fun g h1 h2 => by have a1 := (World.ownsRow.lt HL3.out g h1).2; have a2 := (World.ownsRow.lt HM4.out g h2).1; omega, HBU.out.size, HB3.out.size⟩
  have HLm : Hid (KeysAt (w2.setCell ⟨P, 7, none⟩ (.slice a2 m2 c2)) la LL ∧ KeysAt (w2.setCell ⟨P, 7, none⟩ (.slice a2 m2 c2)) ma LL ∧ lm = LL.length) := by
    have hk : ∀ (k : Nat) (cs : Array Value) (T' : TypeId) (z : Nat × Nat), W4.heap[k]? = some (.cells cs T' z) → T' = 92 → (w2.setCell ⟨P, 7, none⟩ (.slice a2 m2 c2)).heap[k]? = W4.heap[k]? := fun k cs T' z hk hT => by
      have h1 := HN1.out.2.2 k cs T' z hk (by rw [hT]; decide) (by rw [hT]; decide)
      have h2 := HN2.out.2.2 k cs T' z (h1.trans hk) (by rw [hT]; decide) (by rw [hT]; decide)
      exact h2.trans h1
    have hl := rowKept HL4.out hk
    have hm := rowKept HM4.out hk
    obtain ⟨_, ql, el, hkl⟩ := row_at hl
    obtain ⟨_, qm, em, hkm⟩ := row_at hm
    simp only [Value.slice.injEq] at el em
    exact ⟨by rw [el.1]; exact hkl, by rw [em.1]; exact hkm, el.2.1⟩
  have HZ : Hid (∀ q, StG n0 P B Mp Mc Mn R cap cnt 6 92 av pv rv wr (.returned (.bool true)) ((w2.setCell ⟨P, 7, none⟩ (.slice a2 m2 c2)).drewN q)) := fun q => by
    obtain ⟨rv2, hn2, hJ2⟩ := HN2.out.1
    have hk : ∀ (k : Nat) (cs : Array Value) (T' : TypeId) (z : Nat × Nat), W4.heap[k]? = some (.cells cs T' z) → T' = 92 → (w2.setCell ⟨P, 7, none⟩ (.slice a2 m2 c2)).heap[k]? = W4.heap[k]? := fun k cs T' z hk hT => by
      have h1 := HN1.out.2.2 k cs T' z hk (by rw [hT]; decide) (by rw [hT]; decide)
      have h2 := HN2.out.2.2 k cs T' z (h1.trans hk) (by rw [hT]; decide) (by rw [hT]; decide)
      exact h2.trans h1
    exact Nt.two (by omega) (by omega) HB4.out HNt1.out hn2 HS.out hJ2 (rowBaseD (rowKept HL4.out hk) HApt.out.2.1) (rowBaseD (rowKept HM4.out hk) HApt.out.2.2) HApt.out.1 HLl.out q
  clear HA1 HA2 HA3 HN1 HN2 HJ1 hf1 hc2 hf2 hd1 hd2 hd3 he1 y2 y3 y4 y5 y6 y7
  generalize w2.setCell ⟨P, 7, none⟩ (.slice a2 m2 c2) = W6 at *
  refine (samePins_eq W6 la ma lm lc mc LL HLm.out.1 HLm.out.2.1 HLm.out.2.2 (by rw [HLm.out.2.2]; exact Nat.le_trans HLl.out (by omega))).mono ?_
  rintro e W7 ⟨rfl, q, hW7⟩
  subst hW7
  have HZq := hidC (HZ.out q)
  clear HZ
  go_wp2
  go_ret
  exact HZq.out
end Go.Proofs.YtbmohlkcmhhpgaaGreat
/-
  step 6: which list is handed out.
-/
namespace Go.Proofs.YtbmohlkcmhhpgaaGreat
open Go.RowKit Go.Sort

set_option maxHeartbeats 4000000 in
set_option maxRecDepth 100000 in
theorem step6G_any (n0 P B Mp Mc Mn R : Nat) (cap : Int) (cnt : Nat) (st sd : Bs) (nw : List K) (av pv : Value) (rv : Nat → Value) (wr : World) (hj : PJ n0 P B Mp Mc Mn R cap cnt st sd nw av pv rv wr) (hs : Syn st sd) (hct : cnt ≤ 900000) (oa : Option Addr) (ln oc : Nat) (m k1 k2 : Int) (hk : KIn (k1, k2)) :
    Calls Tryz.prog 6 #[ptr P, .agg #[.int .i64 6, .slice oa ln oc, .int .i64 m, .int .i64 k1, .int .i64 k2]] wr fun e w' => StG n0 P B Mp Mc Mn R cap cnt 2 43 av pv rv wr e w' := by
  obtain ⟨U, hU⟩ : ∃ U, U = wr.alloc (.cells #[.int .i64 6, .slice oa ln oc, .int .i64 m, .int .i64 k1, .int .i64 k2] 45) := ⟨_, rfl⟩
  obtain ⟨g, hg⟩ : ∃ g, g = wr.heap.size := ⟨_, rfl⟩
  have hbU : Below wr.heap.size wr U := by rw [hU]; exact (Below.refl _ _).alloc (Nat.le_refl _) _
  have HJU := hidC (hj.kept hbU)
  obtain ⟨cs, hcs⟩ : ∃ cs : Array Value, cs = #[.int .i64 6, .slice oa ln oc, .int .i64 m, .int .i64 k1, .int .i64 k2] := ⟨_, rfl⟩
  have HXU : Hid (BXp g cs U) := by rw [hU, hg, hcs]; exact heap_alloc_new _ _ rfl
  have HBU : Hid (Below wr.heap.size wr U) := hbU
  have HPl := hidC (hj.pl hs)
  have HS := hidC hs
  have HXc : Hid (∀ W, BXp g cs W → W.cell? ⟨g, 0, none⟩ = some (.int .i64 6) ∧ W.cell? ⟨g, 3, none⟩ = some (.int .i64 k1) ∧ W.cell? ⟨g, 4, none⟩ = some (.int .i64 k2)) := fun W hW => by
    unfold BXp at hW
    rw [hcs] at hW
    refine ⟨?_, ?_, ?_⟩ <;> simp [World.cell?, hW]
  have HK := hidC hk
  clear hj hs hbU hcs hk
  obtain ⟨x0, x3, x4⟩ := HXc.out U HXU.out
  obtain ⟨p0, p1, _⟩ := HJU.out.cells
  go_enter Tryz.func6, Tryz.ntmps6
  have HKy := hidC (fun W (hW : PJ n0 P B Mp Mc Mn R cap cnt st sd nw av pv rv W) => keysB_any W B Mp Mc Mn cap st.la st.fl st.pins st.all nw hW.ba)
  have HKr := hidC (fun W (hW : PJ n0 P B Mp Mc Mn R cap cnt st sd nw av pv rv W) => rkeys_any W n0 R cap sd.la sd.fl av pv sd.all sd.pins hW.rb HPl.out.2.1 HPl.out.2.2.2.2)
  obtain ⟨LL, hLL⟩ : ∃ LL : List K, LL = sortK nw := ⟨_, rfl⟩
  have HLs : Hid (sortK (sd.all.map Prod.fst) = LL) := by
    show _ = _
    rw [hLL]
    refine rise_unique (sortK_rise (fun k hk => ?_)) (sortK_rise HJU.out.ba.nwk) (fun k => ?_)
    · obtain ⟨v, hv, rfl⟩ := List.mem_map.1 hk
      exact HPl.out.2.2.2.2 v hv
    · rw [sortK_mem, sortK_mem, HJU.out.ba.nwa, HS.out.al]
      exact ⟨fun h => by obtain ⟨v, hv, e⟩ := List.mem_map.1 h; exact ⟨v, hv, e⟩, fun ⟨v, hv, e⟩ => List.mem_map.2 ⟨v, hv, e⟩⟩
  have HLl : Hid (LL.length ≤ 1000000) := by
    show _ ≤ _
    rw [hLL]
    have h1 : (sortK nw).length ≤ nw.length := by
      have hr := sortK_rise HJU.out.ba.nwk
      have hnS : (sortK nw).Nodup := hr.2.imp (fun {a b} hab e => by subst e; rw [lt_irrefl] at hab; cases hab)
      exact nodup_len (sortK nw) nw hnS (fun x hx => (sortK_mem nw x).1 hx)
    have := HJU.out.ba.nwl
    omega
  have HLL := hidC hLL
  rw [HLs.out] at HKr
  clear hLL HLs
  go_upto_region 22 with fail
  rw [← hU, ← hg]
  clear hU hg
  go_wp2_with fail
  clear x0 x3 x4 p0 p1
  refine (HKy.out U HJU.out).mono ?_
  rintro e W3 ⟨v3, rfl, ho3, _, hb3⟩
  rw [← HLL.out] at ho3
  clear HLL
  obtain ⟨la, lm, lc, rfl, hlm⟩ := rowOpenD ho3
  have HJ3 := hidC (HJU.out.kept hb3)
  have HB3 : Hid (Below wr.heap.size wr W3) := HBU.out.trans (hb3.mono HBU.out.size)
  have HL3 := hidC ho3
  have HLe := hidC hlm
  clear ho3 hb3 hlm HKy
  obtain ⟨q0, q1, _⟩ := HJ3.out.cells
  go_wp2_with fail
  clear q0 q1
  refine (HKr.out W3 HJ3.out).mono ?_
  rintro e W4 ⟨ma, mm, mc, rfl, ho4, hb4⟩
  obtain ⟨ma', mm', mc', e4, hmm⟩ := rowOpenD ho4
  simp only [Value.slice.injEq] at e4
  have hmm2 : mm = lm := by rw [HLe.out, e4.2.1]; exact hmm
  subst hmm2
  have HJ4 := hidC (HJ3.out.kept hb4)
  have HB4 : Hid (Below wr.heap.size wr W4) := HB3.out.trans (hb4.mono HB3.out.size)
  have HL4 : Hid (W4.ownsRow U.heap.size 43 2 (.slice la mm lc) LL.length (cks LL)) := rowSame HL3.out (fun g hg => hb4.block g (World.ownsRow.lt HL3.out g hg).2)
  have HM4 : Hid (W4.ownsRow W3.heap.size 43 2 (.slice ma mm mc) LL.length (cks LL)) := ho4
  have HApt : Hid ((∀ g, (Value.slice la mm lc).ownBlock = some g → (Value.slice ma mm mc).ownBlock ≠ some g) ∧ wr.heap.size ≤ U.heap.size ∧ wr.heap.size ≤ W3.heap.size) := ⟨fun g h1 h2 => by have a1 := (World.ownsRow.lt HL3.out g h1).2; have a2 := (World.ownsRow.lt HM4.out g h2).1; omega, HBU.out.size, HB3.out.size⟩
  clear ho4 hb4 e4 hmm HKr HL3 HJ3 HB3 HLe
  generalize hlmE : mm = lm at *
  clear hlmE
  obtain ⟨_, _, y2, y3, y4, y5, y6, y7⟩ := HJ4.out.cells
  obtain ⟨xA, hxA⟩ : ∃ xA, rv 2 = xA := ⟨_, rfl⟩
  obtain ⟨xB, hxB⟩ : ∃ xB, rv 3 = xB := ⟨_, rfl⟩
  rw [hxA] at y2
  rw [hxB] at y3
  have HA1 := hidC (HJ4.out.noteG 2 (by omega) (by omega) 36 51 rfl rfl la lm lc (by omega) xA hxA W4.heap.size rfl)
  have HA2 : Hid (∀ (w1 : World) (v1 : Value) rv', rv' 3 = xB → PJ n0 P B Mp Mc Mn R cap (cnt + 1) st sd nw av pv rv' (w1.setCell ⟨P, 2, none⟩ v1) → _) := fun w1 v1 rv' he hW => hW.noteG 3 (by omega) (by omega) 36 51 rfl rfl ma lm mc (by omega) xB he w1.heap.size (by simp)
  have HXAB := hidC (And.intro hxA hxB)
  clear hxA hxB
  go_wp2_with (first
    | (at_builtin; with_reducible refine wpL_appI rfl _ _ 36 rfl xB (.slice (some ⟨w1.heap.size, 0, none⟩) 1 1) rfl rfl HA3.out ?_; rintro v2 w2 ⟨⟨a2, m2, c2, rfl⟩, hc2, hf2, HN2⟩; have hd2 := hc2 3 (by omega) (by omega); rw [he1] at hd2)
    | (at_builtin; with_reducible refine wpL_appI rfl _ _ 36 rfl xA (.slice (some ⟨W4.heap.size, 0, none⟩) 1 1) rfl rfl HA1.out ?_; rintro v1 w1 ⟨⟨a1, m1, c1, rfl⟩, hc1, hf1, HN1⟩; have hd1 := hc1 2 (by omega) (by omega); have hd3 := hc1 3 (by omega) (by omega); rw [HXAB.out.1] at hd1; rw [HXAB.out.2] at hd3; obtain ⟨rv1, hr1, hJ1⟩ := HN1.out.1; have HJ1 := hidC hJ1; have he1 : rv1 3 = xB := (hr1.ne 3 (by omega)).trans HXAB.out.2; have HA3 := hidC (HA2.out w1 _ rv1 he1 hJ1); have HNt1 := hidC hr1; clear hJ1 hc1 hr1))
  have HLm : Hid (KeysAt (w2.setCell ⟨P, 3, none⟩ (.slice a2 m2 c2)) la LL ∧ KeysAt (w2.setCell ⟨P, 3, none⟩ (.slice a2 m2 c2)) ma LL ∧ lm = LL.length) := by
    have hk : ∀ (k : Nat) (cs : Array Value) (T' : TypeId) (z : Nat × Nat), W4.heap[k]? = some (.cells cs T' z) → T' = 43 → (w2.setCell ⟨P, 3, none⟩ (.slice a2 m2 c2)).heap[k]? = W4.heap[k]? := fun k cs T' z hk hT => by
      have h1 := HN1.out.2.2 k cs T' z hk (by rw [hT]; decide) (by rw [hT]; decide)
      have h2 := HN2.out.2.2 k cs T' z (h1.trans hk) (by rw [hT]; decide) (by rw [hT]; decide)
      exact h2.trans h1
    have hl := rowKept HL4.out hk
    have hm := rowKept HM4.out hk
    obtain ⟨_, ql, el, hkl⟩ := row_at hl
    obtain ⟨_, qm, em, hkm⟩ := row_at hm
    simp only [Value.slice.injEq] at el em
    exact ⟨by rw [el.1]; exact hkl, by rw [em.1]; exact hkm, el.2.1⟩
  have HZ : Hid (∀ q, StG n0 P B Mp Mc Mn R cap cnt 2 43 av pv rv wr (.returned (.bool true)) ((w2.setCell ⟨P, 3, none⟩ (.slice a2 m2 c2)).drewN q)) := fun q => by
    obtain ⟨rv2, hn2, hJ2⟩ := HN2.out.1
    have hk : ∀ (k : Nat) (cs : Array Value) (T' : TypeId) (z : Nat × Nat), W4.heap[k]? = some (.cells cs T' z) → T' = 43 → (w2.setCell ⟨P, 3, none⟩ (.slice a2 m2 c2)).heap[k]? = W4.heap[k]? := fun k cs T' z hk hT => by
      have h1 := HN1.out.2.2 k cs T' z hk (by rw [hT]; decide) (by rw [hT]; decide)
      have h2 := HN2.out.2.2 k cs T' z (h1.trans hk) (by rw [hT]; decide) (by rw [hT]; decide)
      exact h2.trans h1
    exact Nt.two (by omega) (by omega) HB4.out HNt1.out hn2 HS.out hJ2 (rowBaseD (rowKept HL4.out hk) HApt.out.2.1) (rowBaseD (rowKept HM4.out hk) HApt.out.2.2) HApt.out.1 HLl.out q
  clear HA1 HA2 HA3 HN1 HN2 HJ1 hf1 hc2 hf2 hd1 hd2 hd3 he1 y2 y3 y4 y5 y6 y7
  generalize w2.setCell ⟨P, 3, none⟩ (.slice a2 m2 c2) = W6 at *
  refine (sameKeys_eq W6 la ma lm lc mc LL HLm.out.1 HLm.out.2.1 HLm.out.2.2 (by rw [HLm.out.2.2]; exact Nat.le_trans HLl.out (by omega))).mono ?_
  rintro e W7 ⟨rfl, q, hW7⟩
  subst hW7
  have HZq := hidC (HZ.out q)
  clear HZ
  go_wp2
  go_ret
  exact HZq.out
end Go.Proofs.YtbmohlkcmhhpgaaGreat
/-
  step 7: which list is handed out.
-/
namespace Go.Proofs.YtbmohlkcmhhpgaaGreat
open Go.RowKit Go.Sort

set_option maxHeartbeats 4000000 in
set_option maxRecDepth 100000 in
theorem step7G_any (n0 P B Mp Mc Mn R : Nat) (cap : Int) (cnt : Nat) (st sd : Bs) (nw : List K) (av pv : Value) (rv : Nat → Value) (wr : World) (hj : PJ n0 P B Mp Mc Mn R cap cnt st sd nw av pv rv wr) (hs : Syn st sd) (hct : cnt ≤ 900000) (oa : Option Addr) (ln oc : Nat) (m k1 k2 : Int) (hk : KIn (k1, k2)) :
    Calls Tryz.prog 6 #[ptr P, .agg #[.int .i64 7, .slice oa ln oc, .int .i64 m, .int .i64 k1, .int .i64 k2]] wr fun e w' => StG n0 P B Mp Mc Mn R cap cnt 4 99 av pv rv wr e w' := by
  obtain ⟨U, hU⟩ : ∃ U, U = wr.alloc (.cells #[.int .i64 7, .slice oa ln oc, .int .i64 m, .int .i64 k1, .int .i64 k2] 45) := ⟨_, rfl⟩
  obtain ⟨g, hg⟩ : ∃ g, g = wr.heap.size := ⟨_, rfl⟩
  have hbU : Below wr.heap.size wr U := by rw [hU]; exact (Below.refl _ _).alloc (Nat.le_refl _) _
  have HJU := hidC (hj.kept hbU)
  obtain ⟨cs, hcs⟩ : ∃ cs : Array Value, cs = #[.int .i64 7, .slice oa ln oc, .int .i64 m, .int .i64 k1, .int .i64 k2] := ⟨_, rfl⟩
  have HXU : Hid (BXp g cs U) := by rw [hU, hg, hcs]; exact heap_alloc_new _ _ rfl
  have HBU : Hid (Below wr.heap.size wr U) := hbU
  have HPl := hidC (hj.pl hs)
  have HS := hidC hs
  have HXc : Hid (∀ W, BXp g cs W → W.cell? ⟨g, 0, none⟩ = some (.int .i64 7) ∧ W.cell? ⟨g, 3, none⟩ = some (.int .i64 k1) ∧ W.cell? ⟨g, 4, none⟩ = some (.int .i64 k2)) := fun W hW => by
    unfold BXp at hW
    rw [hcs] at hW
    refine ⟨?_, ?_, ?_⟩ <;> simp [World.cell?, hW]
  have HK := hidC hk
  clear hj hs hbU hcs hk
  obtain ⟨x0, x3, x4⟩ := HXc.out U HXU.out
  obtain ⟨p0, p1, _⟩ := HJU.out.cells
  go_enter Tryz.func6, Tryz.ntmps6
  have HVb : Hid (∀ W, PJ n0 P B Mp Mc Mn R cap cnt st sd nw av pv rv W → Calls Tryz.prog 31 #[ptr B, .agg #[.int .i64 k1, .int .i64 k2]] W fun e w' => ∃ la lm lc, e = .returned (.slice la lm lc) ∧ lm = (plk (ofV (k1, k2) st.all)).length ∧ w'.ownsRow W.heap.size 99 2 (.slice la lm lc) (plk (ofV (k1, k2) st.all)).length (cks (plk (ofV (k1, k2) st.all))) ∧ Below W.heap.size W w') := fun W hW => by
    refine (versions_any W B Mp Mc Mn cap st.la st.fl st.pins st.all nw hW.ba (k1, k2) HK.out).mono ?_
    rintro e w' ⟨v, rfl, ho, hb⟩
    obtain ⟨la, lm, lc, rfl, hlm⟩ := rowOpenD ho
    exact ⟨la, lm, lc, rfl, hlm, ho, hb⟩
  have HVr : Hid (∀ W, PJ n0 P B Mp Mc Mn R cap cnt st sd nw av pv rv W → Calls Tryz.prog 32 #[ptr R, .agg #[.int .i64 k1, .int .i64 k2]] W fun e w' => ∃ ma mc, e = .returned (.slice ma (ofV (k1, k2) sd.all).length mc) ∧ (ofV (k1, k2) sd.all).length = (plk (ofV (k1, k2) sd.all)).length ∧ w'.ownsRow W.heap.size 99 2 (.slice ma (ofV (k1, k2) sd.all).length mc) (ofV (k1, k2) sd.all).length (cks (plk (ofV (k1, k2) sd.all))) ∧ Below W.heap.size W w') := fun W hW => rversions_any W n0 R cap sd.la sd.fl av pv sd.all sd.pins hW.rb HPl.out.2.1 (k1, k2)
  obtain ⟨LL, hLL⟩ : ∃ LL : List K, LL = plk (ofV (k1, k2) sd.all) := ⟨_, rfl⟩
  have HLL := hidC hLL
  have HLl : Hid (LL.length ≤ 1000000) := by
    show _ ≤ _
    rw [hLL]
    have h1 : (plk (ofV (k1, k2) sd.all)).length ≤ sd.all.length := by simp [plk]; exact List.length_filter_le _ _
    have := HPl.out.2.1
    omega
  clear hLL
  go_upto_region 28 with fail
  rw [← hU, ← hg]
  clear hU hg
  have HDr : Hid (Below U.heap.size U U.drew) := drew_below U 1
  have HJd := hidC (HJU.out.kept HDr.out)
  have HXd := hidC (HXU.out.kept HDr.out)
  have HBd : Hid (Below wr.heap.size wr U.drew) := HBU.out.trans (HDr.out.mono HBU.out.size)
  have HC1 := hidC (HVb.out U.drew HJd.out)
  go_region_held3 (fun w' => w'.cell? ⟨P, 0, none⟩ = some (ptr B) ∧ w'.cell? ⟨g, 3, none⟩ = some (.int .i64 k1) ∧ w'.cell? ⟨g, 4, none⟩ = some (.int .i64 k2)) (first | with_reducible exact HQ3.out | go_keep) (first
    | (go_at_call 31; with_reducible refine HC1.out.mono ?_; rintro e W3 ⟨la, lm, lc, rfl, hlm, ho3, hb3⟩; have HJ3 := hidC (HJd.out.kept hb3); have HX3 := hidC (HXd.out.kept hb3); have HB3 := hidC (HBd.out.trans (hb3.mono HBd.out.size)); have HO3 := hidC ho3; have HLm3 := hidC hlm; have HQ3 := hidC (And.intro HJ3.out.cells.1 (HXc.out W3 HX3.out).2); clear ho3 hb3 hlm))
  clear x0 x3 x4 p0 p1 HQ3 HC1 HVb
  obtain ⟨_, p1, _⟩ := HJ3.out.cells
  obtain ⟨_, x3, x4⟩ := HXc.out W3 HX3.out
  have HDs : Hid (Below W3.heap.size W3 W3.drew) := drew_below W3 1
  have HJe := hidC (HJ3.out.kept HDs.out)
  have HXe := hidC (HX3.out.kept HDs.out)
  have HBe : Hid (Below wr.heap.size wr W3.drew) := HB3.out.trans (HDs.out.mono HB3.out.size)
  have HC2 := hidC (HVr.out W3.drew HJe.out)
  have HLl3 : Hid (lm = (ofV (k1, k2) sd.all).length) := by show _ = _; rw [HLm3.out, HS.out.al]; simp [plk]
  rw [← HLl3.out] at HC2
  go_upto_region 29 with fail
  go_region_held3 (fun w' => w'.cell? ⟨P, 1, none⟩ = some (ptr R) ∧ w'.cell? ⟨g, 3, none⟩ = some (.int .i64 k1) ∧ w'.cell? ⟨g, 4, none⟩ = some (.int .i64 k2)) (first | with_reducible exact HQ4.out | go_keep) (first
    | (go_at_call 32; with_reducible refine HC2.out.mono ?_; rintro e W4 ⟨ma, mc, rfl, hln, ho4, hb4⟩; have HJ4 := hidC (HJe.out.kept hb4); have HB4 := hidC (HBe.out.trans (hb4.mono HBe.out.size)); have HO4 := hidC ho4; have HBw := hidC (HDs.out.trans (hb4.mono HDs.out.size)); have HLn := hidC hln; have HQ4 := hidC (And.intro HJ4.out.cells.2.1 (HXc.out W4 (HXe.out.kept hb4)).2); clear ho4 hb4 hln))
  have HL4 : Hid (W4.ownsRow U.drew.heap.size 99 2 (.slice la lm lc) LL.length (cks LL)) := by
    have h1 := HO3.out
    rw [HS.out.al, ← HLL.out] at h1
    exact rowSame h1 (fun g hg => HBw.out.block g (World.ownsRow.lt h1 g hg).2)
  have HM4 : Hid (W4.ownsRow W3.drew.heap.size 99 2 (.slice ma lm mc) LL.length (cks LL)) := by
    have h1 := HO4.out
    have h2 := HLn.out
    rw [← HLL.out] at h1 h2
    rw [← h2]
    exact h1
  have HApt : Hid ((∀ g, (Value.slice la lm lc).ownBlock = some g → (Value.slice ma lm mc).ownBlock ≠ some g) ∧ wr.heap.size ≤ U.drew.heap.size ∧ wr.heap.size ≤ W3.drew.heap.size) := ⟨fun g h1 h2 => by have a1 : g < W3.heap.size := (World.ownsRow.lt HO3.out g h1).2; have a2 : W3.heap.size ≤ g := (World.ownsRow.lt HM4.out g h2).1; omega, HBd.out.size, HBe.out.size⟩
  clear p1 x3 x4 HQ4 HC2 HVr HO3 HO4 HLn HLm3 HLl3 HBw HDs HJe HXe HDr HJd HXd HJ3 HX3
  obtain ⟨_, _, y2, y3, y4, y5, y6, y7⟩ := HJ4.out.cells
  obtain ⟨xA, hxA⟩ : ∃ xA, rv 4 = xA := ⟨_, rfl⟩
  obtain ⟨xB, hxB⟩ : ∃ xB, rv 5 = xB := ⟨_, rfl⟩
  rw [hxA] at y4
  rw [hxB] at y5
  have HA1 := hidC (HJ4.out.noteG 4 (by omega) (by omega) 37 78 rfl rfl la lm lc (by omega) xA hxA W4.heap.size rfl)
  have HA2 : Hid (∀ (w1 : World) (v1 : Value) rv', rv' 5 = xB → PJ n0 P B Mp Mc Mn R cap (cnt + 1) st sd nw av pv rv' (w1.setCell ⟨P, 4, none⟩ v1) → _) := fun w1 v1 rv' he hW => hW.noteG 5 (by omega) (by omega) 37 78 rfl rfl ma lm mc (by omega) xB he w1.heap.size (by simp)
  have HXAB := hidC (And.intro hxA hxB)
  clear hxA hxB
  go_wp2_with (first
    | (at_builtin; with_reducible refine wpL_appI rfl _ _ 37 rfl xB (.slice (some ⟨w1.heap.size, 0, none⟩) 1 1) rfl rfl HA3.out ?_; rintro v2 w2 ⟨⟨a2, m2, c2, rfl⟩, hc2, hf2, HN2⟩; have hd2 := hc2 5 (by omega) (by omega); rw [he1] at hd2)
    | (at_builtin; with_reducible refine wpL_appI rfl _ _ 37 rfl xA (.slice (some ⟨W4.heap.size, 0, none⟩) 1 1) rfl rfl HA1.out ?_; rintro v1 w1 ⟨⟨a1, m1, c1, rfl⟩, hc1, hf1, HN1⟩; have hd1 := hc1 4 (by omega) (by omega); have hd3 := hc1 5 (by omega) (by omega); rw [HXAB.out.1] at hd1; rw [HXAB.out.2] at hd3; obtain ⟨rv1, hr1, hJ1⟩ := HN1.out.1; have HJ1 := hidC hJ1; have he1 : rv1 5 = xB := (hr1.ne 5 (by omega)).trans HXAB.out.2; have HA3 := hidC (HA2.out w1 _ rv1 he1 hJ1); have HNt1 := hidC hr1; clear hJ1 hc1 hr1))
  have HLm : Hid (KeysAt (w2.setCell ⟨P, 5, none⟩ (.slice a2 m2 c2)) la LL ∧ KeysAt (w2.setCell ⟨P, 5, none⟩ (.slice a2 m2 c2)) ma LL ∧ lm = LL.length) := by
    have hk : ∀ (k : Nat) (cs : Array Value) (T' : TypeId) (z : Nat × Nat), W4.heap[k]? = some (.cells cs T' z) → T' = 99 → (w2.setCell ⟨P, 5, none⟩ (.slice a2 m2 c2)).heap[k]? = W4.heap[k]? := fun k cs T' z hk hT => by
      have h1 := HN1.out.2.2 k cs T' z hk (by rw [hT]; decide) (by rw [hT]; decide)
      have h2 := HN2.out.2.2 k cs T' z (h1.trans hk) (by rw [hT]; decide) (by rw [hT]; decide)
      exact h2.trans h1
    have hl := rowKept HL4.out hk
    have hm := rowKept HM4.out hk
    obtain ⟨_, ql, el, hkl⟩ := row_at hl
    obtain ⟨_, qm, em, hkm⟩ := row_at hm
    simp only [Value.slice.injEq] at el em
    exact ⟨by rw [el.1]; exact hkl, by rw [em.1]; exact hkm, el.2.1⟩
  have HZ : Hid (∀ q, StG n0 P B Mp Mc Mn R cap cnt 4 99 av pv rv wr (.returned (.bool true)) ((w2.setCell ⟨P, 5, none⟩ (.slice a2 m2 c2)).drewN q)) := fun q => by
    obtain ⟨rv2, hn2, hJ2⟩ := HN2.out.1
    have hk : ∀ (k : Nat) (cs : Array Value) (T' : TypeId) (z : Nat × Nat), W4.heap[k]? = some (.cells cs T' z) → T' = 99 → (w2.setCell ⟨P, 5, none⟩ (.slice a2 m2 c2)).heap[k]? = W4.heap[k]? := fun k cs T' z hk hT => by
      have h1 := HN1.out.2.2 k cs T' z hk (by rw [hT]; decide) (by rw [hT]; decide)
      have h2 := HN2.out.2.2 k cs T' z (h1.trans hk) (by rw [hT]; decide) (by rw [hT]; decide)
      exact h2.trans h1
    exact Nt.two (by omega) (by omega) HB4.out HNt1.out hn2 HS.out hJ2 (rowBaseD (rowKept HL4.out hk) HApt.out.2.1) (rowBaseD (rowKept HM4.out hk) HApt.out.2.2) HApt.out.1 HLl.out q
  clear HA1 HA2 HA3 HN1 HN2 HJ1 hf1 hc2 hf2 hd1 hd2 hd3 he1 y2 y3 y4 y5 y6 y7
  generalize w2.setCell ⟨P, 5, none⟩ (.slice a2 m2 c2) = W6 at *
  refine (samePlaces_eq W6 la ma lm lc mc LL HLm.out.1 HLm.out.2.1 HLm.out.2.2 (by rw [HLm.out.2.2]; exact Nat.le_trans HLl.out (by omega))).mono ?_
  rintro e W7 ⟨rfl, q, hW7⟩
  subst hW7
  have HZq := hidC (HZ.out q)
  clear HZ
  go_wp2
  go_ret
  exact HZq.out
end Go.Proofs.YtbmohlkcmhhpgaaGreat
