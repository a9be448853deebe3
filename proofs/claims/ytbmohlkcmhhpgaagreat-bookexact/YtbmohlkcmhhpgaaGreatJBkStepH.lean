import Derived.Test.YtbmohlkcmhhpgaaGreatJBkRestH
import Derived.Test.YtbmohlkcmhhpgaaGreatJBkDNew
import Derived.Test.YtbmohlkcmhhpgaaGreatJKRefFind
import Derived.Test.YtbmohlkcmhhpgaaGreatJBkLentF
import Derived.Test.YtbmohlkcmhhpgaaGreatJBkWgt
import Derived.Deep.RegionHeld3
import Derived.BigQuiet
import Derived.Test.YtbmohlkcmhhpgaaGreatJBkShortM
import Derived.Test.YtbmohlkcmhhpgaaGreatJBkVers
import Derived.Test.YtbmohlkcmhhpgaaGreatKList
import Derived.SizedLaws
import Derived.Lib.SmallJoins
import Derived.Deep.Slices
/-
  ONE CALL ON BOTH: WHAT EACH SIDE DOES.
-/
namespace Go.Proofs.YtbmohlkcmhhpgaaGreat
open Go.RowKit Go.Sort

/-- both hold the same -/
structure Syn (st sd : Bs) : Prop where
  la : st.la = sd.la
  fl : st.fl = sd.fl
  al : st.all = sd.all
  pn : ∀ n, fpn st.pins n = fpn sd.pins n
  ri : (sd.pins.map Prod.fst).Pairwise (· < ·)
def StP (n0 P B Mp Mc Mn R : Nat) (cap : Int) (cnt : Nat) (wr : World) (e : Ending) (w' : World) : Prop :=
  e = .returned (.bool true) ∧ (∃ st sd, Syn st sd ∧ ∃ nw av pv rv, PJ n0 P B Mp Mc Mn R cap (cnt + 2) st sd nw av pv rv w') ∧ Below n0 wr w'
section
variable {n0 P B Mp Mc Mn R : Nat} {cap : Int} {cnt : Nat} {st sd st' sd' : Bs} {nw : List K} {av pv : Value} {rv : Nat → Value} {wr wr' : World}
theorem Syn.nd (h : Syn st sd) : (sd.pins.map Prod.fst).Nodup := rise_nodup h.ri
theorem Syn.len (h : Syn st sd) (hn : (st.pins.map Prod.fst).Nodup) : st.pins.length = sd.pins.length := by
  have hm : ∀ n, n ∈ st.pins.map Prod.fst ↔ n ∈ sd.pins.map Prod.fst := fun n => by rw [fpn_mem, fpn_mem, h.pn]
  have := ((List.perm_ext_iff_of_nodup hn h.nd).2 hm).length_eq
  simpa using this
theorem Syn.cts (h : Syn st sd) (hj : PJ n0 P B Mp Mc Mn R cap cnt st sd nw av pv rv wr) : ∀ p ∈ sd.pins, 1 ≤ p.2 ∧ p.2 ≤ 1099511627776 := fun p hp => by
  obtain ⟨i, hi, rfl⟩ := List.getElem_of_mem hp
  have h1 := fpn_ix h.ri hi
  rw [← h.pn] at h1
  obtain ⟨A, C, hA⟩ := fpn_some h1
  have h2 := hj.ba.ps.2 (sd.pins[i].1, sd.pins[i].2) (by rw [hA]; simp)
  exact h2.2.2
theorem PJ.pl (h : PJ n0 P B Mp Mc Mn R cap cnt st sd nw av pv rv wr) (hs : Syn st sd) : sd.pins.length ≤ 32 ∧ sd.all.length ≤ 65536 ∧ (∀ v ∈ sd.all, v.2.1 ≤ sd.la) ∧ (0 ≤ sd.la ∧ sd.la ≤ 1099511627776) ∧ (∀ v ∈ sd.all, isKey v.1 = true) := by
  have h1 := h.ba.ps.1
  have h2 := h.ba.ln
  have h3 := h.ba.cp
  have h4 := h.ba.la
  refine ⟨by rw [← hs.len h.ba.pnd]; exact h1, by rw [← hs.al]; omega, fun v hv => ?_, by rw [← hs.la]; omega, fun v hv => h.ba.ik v (by rw [hs.al]; exact hv)⟩
  have := h.ba.pl v (by rw [hs.al]; exact hv)
  unfold PlOK at this
  rw [← hs.la]
  omega
theorem PJ.n0s (h : PJ n0 P B Mp Mc Mn R cap cnt st sd nw av pv rv wr) : n0 ≤ wr.heap.size := Nat.le_trans h.nP (Nat.le_of_lt (blk_lt h.pb))
/-- a box of the step's own -/
def BXp (g : Nat) (cs : Array Value) (W : World) : Prop := W.heap[g]? = some (.cells cs 45 (0, 0))
theorem BXp.kept {g : Nat} {cs : Array Value} (h : BXp g cs wr) (hb : Below wr.heap.size wr wr') : BXp g cs wr' := (hb.block g (blk_lt h)).trans h
theorem BXp.book {g : Nat} {cs : Array Value} (h : BXp g cs wr) (hj : PJ n0 P B Mp Mc Mn R cap cnt st sd nw av pv rv wr) (hf : Fr (SB B Mp Mc Mn) wr wr') : BXp g cs wr' := (hf.block g (blk_lt h) (notC' hj.ba h (by decide))).trans h
theorem BXp.doc {g : Nat} {cs : Array Value} (h : BXp g cs wr) (hj : PJ n0 P B Mp Mc Mn R cap cnt st sd nw av pv rv wr) (hf : Fr (SR R av pv) wr wr') : BXp g cs wr' := (hf.block g (blk_lt h) (hj.rb.notS h (fun cur T e => by cases e; decide))).trans h
/-- the program's Pin -/
def PinB (E : Int) (s s' : Bs) (m : Int) : Prop := (E ≠ 0 ∧ s' = s) ∨ (E = 0 ∧ ∃ p', Pinned s.pins p' m ∧ s' = ⟨s.la, s.fl, p', s.all⟩)
def PinE (E : Int) (s s' : Bs) (m : Int) : Prop := (E ≠ 0 ∧ s' = s) ∨ (E = 0 ∧ ∃ p', PinD s.pins p' m ∧ s' = ⟨s.la, s.fl, p', s.all⟩)
theorem Syn.pin {E m : Int} (h : Syn st sd) (hn : (st.pins.map Prod.fst).Nodup) (h1 : PinB E st st' m) (h2 : PinE E sd sd' m) : Syn st' sd' := by
  rcases h1 with ⟨e1, rfl⟩ | ⟨e1, p', hp, rfl⟩
  · rcases h2 with ⟨_, rfl⟩ | ⟨e2, _⟩
    · exact h
    · exact absurd e2 e1
  · rcases h2 with ⟨e2, _⟩ | ⟨_, q', hq, rfl⟩
    · exact absurd e1 e2
    · exact ⟨h.la, h.fl, h.al, fun n => by show fpn p' n = fpn q' n; rw [hp.fpn hn, hq.2, h.pn, h.pn], hq.1⟩
theorem Syn.pinE (h : Syn st sd) (hn : (st.pins.map Prod.fst).Nodup) (m : Int) : pinE st.la st.fl st.pins m = pinE sd.la sd.fl sd.pins m := by
  unfold Go.Proofs.YtbmohlkcmhhpgaaGreat.pinE
  rw [h.la, h.fl, h.pn, h.len hn]
theorem pinJ (h : PJ n0 P B Mp Mc Mn R cap cnt st sd nw av pv rv wr) (m : Int) (hm : In64 m) {g : Nat} {cs : Array Value} (hx : BXp g cs wr) :
    Calls Tryz.prog 20 #[ptr B, .int .i64 m] wr fun e w' => ∃ st', e = .returned (.int .i64 (pinE st.la st.fl st.pins m)) ∧ PinB (pinE st.la st.fl st.pins m) st st' m ∧ PJ n0 P B Mp Mc Mn R cap cnt st' sd nw av pv rv w' ∧ BXp g cs w' ∧ Below n0 wr w' := by
  refine (pin_any wr B Mp Mc Mn cap st.la st.fl st.pins st.all nw h.ba m hm).mono ?_
  rintro e w' (⟨hne, rfl, rfl⟩ | ⟨heq, rfl, p', hp, hba, hf⟩)
  · exact ⟨st, rfl, .inl ⟨hne, rfl⟩, h, hx, Below.refl _ _⟩
  · refine ⟨⟨st.la, st.fl, p', st.all⟩, by rw [heq], .inr ⟨heq, p', hp, rfl⟩, h.book hba hf, hx.book h hf, hf.below h.n0s h.sb⟩
theorem rpinJ (h : PJ n0 P B Mp Mc Mn R cap cnt st sd nw av pv rv wr) {s0 : Bs} (hs : Syn s0 sd) (hl : sd.pins.length ≤ 32) (hc : ∀ p ∈ sd.pins, 1 ≤ p.2 ∧ p.2 ≤ 1099511627776) (m : Int) {g : Nat} {cs : Array Value} (hx : BXp g cs wr) :
    Calls Tryz.prog 21 #[ptr R, .int .i64 m] wr fun e w' => ∃ sd', e = .returned (.int .i64 (pinE sd.la sd.fl sd.pins m)) ∧ PinE (pinE sd.la sd.fl sd.pins m) sd sd' m ∧ (∃ av pv, PJ n0 P B Mp Mc Mn R cap cnt st sd' nw av pv rv w') ∧ BXp g cs w' ∧ Below n0 wr w' := by
  refine (rPin_any wr n0 R cap av pv sd h.rb hl hs.ri hc h.n0s m).mono ?_
  rintro e w' (⟨hne, rfl, hb⟩ | ⟨heq, rfl, p', hp, hr⟩)
  · exact ⟨sd, rfl, .inl ⟨hne, rfl⟩, ⟨av, pv, h.kept hb⟩, hx.kept hb, hb.mono h.n0s⟩
  · have hf : Fr (SR R av pv) wr w' := by obtain ⟨_, _, _, h2, _⟩ := hr; exact h2
    exact ⟨⟨sd.la, sd.fl, p', sd.all⟩, by rw [heq], .inr ⟨heq, p', hp, rfl⟩, h.doc hr, hx.doc h hf, hf.below h.n0s (fun k hk => h.rb.geS hk)⟩
/-- Unpin -/
def UnpB (E : Int) (s s' : Bs) (m : Int) : Prop := (E = 102 ∧ fpn s.pins m = none ∧ s' = s) ∨ (E = 0 ∧ (fpn s.pins m).isSome = true ∧ ∃ p', Unpinned s.pins p' m ∧ s' = ⟨s.la, s.fl, p', s.all⟩)
def UnpE (E : Int) (s s' : Bs) (m : Int) : Prop := (E = 102 ∧ fpn s.pins m = none ∧ s' = s) ∨ (E = 0 ∧ (fpn s.pins m).isSome = true ∧ ∃ p', UnpD s.pins p' m ∧ s' = ⟨s.la, s.fl, p', s.all⟩)
theorem Syn.unp {E F m : Int} (h : Syn st sd) (hn : (st.pins.map Prod.fst).Nodup) (h1 : UnpB E st st' m) (h2 : UnpE F sd sd' m) : F = E ∧ Syn st' sd' := by
  rcases h1 with ⟨e1, f1, rfl⟩ | ⟨e1, f1, p', hp, rfl⟩
  · rcases h2 with ⟨e2, _, rfl⟩ | ⟨_, f2, _⟩
    · exact ⟨by rw [e1, e2], h⟩
    · rw [← h.pn, f1] at f2; cases f2
  · rcases h2 with ⟨_, f2, _⟩ | ⟨e2, _, q', hq, rfl⟩
    · rw [h.pn, f2] at f1; cases f1
    · exact ⟨by rw [e1, e2], h.la, h.fl, h.al, fun n => by show fpn p' n = fpn q' n; rw [hp.fpn hn, hq.2, h.pn, h.pn], hq.1⟩
theorem unpJ (h : PJ n0 P B Mp Mc Mn R cap cnt st sd nw av pv rv wr) (m : Int) (hm : In64 m) {g : Nat} {cs : Array Value} (hx : BXp g cs wr) :
    Calls Tryz.prog 22 #[ptr B, .int .i64 m] wr fun e w' => ∃ E st', e = .returned (.int .i64 E) ∧ UnpB E st st' m ∧ PJ n0 P B Mp Mc Mn R cap cnt st' sd nw av pv rv w' ∧ BXp g cs w' ∧ Below n0 wr w' := by
  refine (unpin_any wr B Mp Mc Mn cap st.la st.fl st.pins st.all nw h.ba m hm).mono ?_
  rintro e w' (⟨hne, rfl, rfl⟩ | ⟨heq, rfl, p', hp, hba, hf⟩)
  · exact ⟨102, st, rfl, .inl ⟨rfl, hne, rfl⟩, h, hx, Below.refl _ _⟩
  · refine ⟨0, ⟨st.la, st.fl, p', st.all⟩, rfl, .inr ⟨rfl, heq, p', hp, rfl⟩, h.book hba hf, hx.book h hf, hf.below h.n0s h.sb⟩
theorem runpJ (h : PJ n0 P B Mp Mc Mn R cap cnt st sd nw av pv rv wr) {s0 : Bs} (hs : Syn s0 sd) (hl : sd.pins.length ≤ 32) (hc : ∀ p ∈ sd.pins, 1 ≤ p.2 ∧ p.2 ≤ 1099511627776) (m : Int) {g : Nat} {cs : Array Value} (hx : BXp g cs wr) :
    Calls Tryz.prog 23 #[ptr R, .int .i64 m] wr fun e w' => ∃ F sd', e = .returned (.int .i64 F) ∧ UnpE F sd sd' m ∧ (∃ av pv, PJ n0 P B Mp Mc Mn R cap cnt st sd' nw av pv rv w') ∧ BXp g cs w' ∧ Below n0 wr w' := by
  refine (rUnpin_any wr n0 R cap av pv sd h.rb hl hs.ri hc h.n0s m).mono ?_
  rintro e w' (⟨hne, rfl, hb⟩ | ⟨heq, rfl, p', hp, hr⟩)
  · exact ⟨102, sd, rfl, .inl ⟨rfl, hne, rfl⟩, ⟨av, pv, h.kept hb⟩, hx.kept hb, hb.mono h.n0s⟩
  · have hf : Fr (SR R av pv) wr w' := by obtain ⟨_, _, _, h2, _⟩ := hr; exact h2
    exact ⟨0, ⟨sd.la, sd.fl, p', sd.all⟩, rfl, .inr ⟨rfl, heq, p', hp, rfl⟩, h.doc hr, hx.doc h hf, hf.below h.n0s (fun k hk => h.rb.geS hk)⟩
theorem rcolJ (h : PJ n0 P B Mp Mc Mn R cap cnt st sd nw av pv rv wr) (hl : sd.pins.length ≤ 32 ∧ sd.all.length ≤ 65536 ∧ ∀ v ∈ sd.all, v.2.1 ≤ sd.la) {g : Nat} {cs : Array Value} (hx : BXp g cs wr) :
    Calls Tryz.prog 25 #[ptr R] wr fun e w' => e = .returned (.int .i64 ((sd.all.length : Int) - ((colD (sd.pins.map Prod.fst) sd.all).length : Int))) ∧ (∃ av pv, PJ n0 P B Mp Mc Mn R cap cnt st ⟨sd.la, sd.la, sd.pins, colD (sd.pins.map Prod.fst) sd.all⟩ nw av pv rv w') ∧ BXp g cs w' ∧ Below n0 wr w' := by
  refine (rcollect_any wr n0 R cap av pv sd h.rb hl.2.1 hl.1 hl.2.2 h.n0s).mono ?_
  rintro e w' ⟨rfl, hr⟩
  have hf : Fr (SR R av pv) wr w' := by obtain ⟨_, _, _, h2, _⟩ := hr; exact h2
  exact ⟨rfl, h.doc hr, hx.doc h hf, hf.below h.n0s (fun k hk => h.rb.geS hk)⟩
theorem colJ (h : PJ n0 P B Mp Mc Mn R cap cnt st sd nw av pv rv wr) {g : Nat} {cs : Array Value} (hx : BXp g cs wr) :
    Calls Tryz.prog 24 #[ptr B] wr fun e w' => ∃ d all', e = .returned (.int .i64 ((st.all.length : Int) - (all'.length : Int))) ∧ (d.Perm (st.pins.map Prod.fst) ∧ CollN d st.all all') ∧ PJ n0 P B Mp Mc Mn R cap cnt ⟨st.la, st.la, st.pins, all'⟩ sd nw av pv rv w' ∧ BXp g cs w' ∧ Below n0 wr w' := by
  refine (collect_any wr B Mp Mc Mn cap st.la st.fl st.pins st.all nw h.ba).mono ?_
  rintro e w' ⟨d, all', hd1, hd2, hc, rfl, hba, hf⟩
  exact ⟨d, all', rfl, ⟨hd2, hc⟩, h.book (st' := ⟨st.la, st.la, st.pins, all'⟩) hba hf, hx.book h hf, hf.below h.n0s h.sb⟩
/-- what both keep is one list -/
theorem Syn.col {d : List Int} {all' : List V4} (h : Syn st sd) (hn : st.all.Nodup) (hr : st.all.Pairwise (fun a b => a.1 = b.1 → later b a)) (hd : d.Perm (st.pins.map Prod.fst)) (hc : CollN d st.all all') : all' = colD (sd.pins.map Prod.fst) sd.all ∧ Syn ⟨st.la, st.la, st.pins, all'⟩ ⟨sd.la, sd.la, sd.pins, colD (sd.pins.map Prod.fst) sd.all⟩ := by
  have hm : ∀ x, x ∈ d ↔ x ∈ sd.pins.map Prod.fst := fun x => by rw [hd.mem_iff, fpn_mem, fpn_mem, h.pn]
  have e : all' = colD (sd.pins.map Prod.fst) sd.all := by
    rw [← h.al]
    exact coll_one hn (hc.d hm) (colD_coll hr)
  exact ⟨e, h.la, h.la, e, h.pn, h.ri⟩
end
end Go.Proofs.YtbmohlkcmhhpgaaGreat
/-
  step: Admit.
-/
namespace Go.Proofs.YtbmohlkcmhhpgaaGreat
open Go.RowKit Go.Sort

theorem lgRws {W : World} {g n b0 : Nat} {L : List (List K)} {nn : Nat → Bool} {qs : Nat → Nat} {vs : Nat → Value} (h : LG W g n L nn qs 0 n vs) (hn : n = L.length) (hg : b0 ≤ g) : RWs (fun k => k < b0) W (some ⟨g, 0, none⟩) L := fun i hi => by
  have hc := (h.cell (i := i) (by omega)).1
  rcases h.sets i hi (Nat.zero_le _) (by omega) with ⟨_, h2, h3⟩ | ⟨_, h2, h3⟩
  · refine ⟨g, 0, none, 0, rfl, by omega, h.lt, ?_, .inl h3, fun a ha => absurd h3 ha⟩
    rw [Nat.zero_add, hc, h2, h3]
    rfl
  · have hp := h3.prefix L[i].length (by omega)
    rw [List.take_left] at hp
    obtain ⟨ao', cap', e', hk', _⟩ := hp.slice
    simp only [own, Value.slice.injEq] at e'
    have h4 := h3.lt (qs i) rfl
    refine ⟨g, 0, some ⟨qs i, 0, none⟩, L[i].length + 3, rfl, by omega, h.lt, ?_, by rw [e'.1]; exact hk', fun a _ e => ?_⟩
    · rw [Nat.zero_add, hc, h2]
    · cases e
      exact ⟨by show ¬ qs i < b0; omega, h4.2⟩
set_option maxHeartbeats 1000000 in
theorem backN_any (W : World) (c : Nat) : Calls Tryz.prog 18 #[.slice none 0 0, .slice none 0 c] W fun e w' => e = .returned (.bool true) ∧ w' = W := by
  have hnil := run_eqNilL none 0 c
  simp only [Option.isNone_none] at hnil
  go_enter Tryz.func18, Tryz.ntmps18
  go_wp2
  go_ret
  exact ⟨rfl, rfl⟩
/-- lent, and back behind it -/
theorem lentB_any (n0 : Nat) (U : World) (hn0 : n0 ≤ U.heap.size) (oa : Option Addr) (n oc : Nat) (L : List (List K)) (hn : n = L.length) (h : RWs (fun k => n0 ≤ k) U oa L) (hnb : n ≤ 100000) (hb : ∀ s ∈ L, s.length ≤ 100000) :
    Calls Tryz.prog 16 #[.slice oa n oc] U fun e W1 => ∃ ia ic, e = .returned (.slice ia n ic) ∧ RWs (fun k => k < U.heap.size) W1 ia L ∧ Below U.heap.size U W1 ∧ ∀ W2, Below n0 U W2 → (∀ k, U.heap.size ≤ k → k < W1.heap.size → W2.heap[k]? = W1.heap[k]?) → Calls Tryz.prog 18 #[.slice ia n ic, .slice oa n oc] W2 fun e w' => e = .returned (.bool true) ∧ Below U.heap.size W2 w' := by
  refine (lentF_any _ U oa n oc L hn h hnb hb).mono ?_
  rintro e W1 (⟨rfl, rfl, rfl⟩ | ⟨g, nn, qs, vs, hne, rfl, hlf, htg⟩)
  · have hL : L = [] := by
      rcases L with _ | ⟨s, L⟩
      · rfl
      · obtain ⟨_, _, _, _, e, _⟩ := h 0 (by simp); cases e
    subst hL
    have hn1 : n = 0 := hn
    subst hn1
    refine ⟨none, 0, rfl, fun i hi => by simp at hi, Below.refl _ _, fun W2 hb2 _ => (backN_any W2 oc).mono (fun e w' ⟨h1, h2⟩ => ⟨h1, by rw [h2]; exact Below.refl _ _⟩)⟩
  · refine ⟨some ⟨g, 0, none⟩, n + 3, rfl, lgRws hlf.lg hn hlf.ge, hlf.bel, fun W2 hb2 hs => ?_⟩
    have hF : Fr (fun k => n0 ≤ k) U W2 := ⟨hb2.os, hb2.tape, hb2.output, hb2.size, fun k hk hS => hb2.block k (by omega)⟩
    have hsame : ∀ k, g ≤ k → k < W1.heap.size → W2.heap[k]? = W1.heap[k]? := fun k h1 h2 => hs k (by have := hlf.ge; omega) h2
    refine backW_any W2 U.heap.size oa n oc L hn ((h.fr hF).weak (fun k hk => by omega)) hne hnb hb g nn qs vs (hlf.lg.same hsame) (htg.same hsame) (fun i hi hin b off sa sc e hc => ?_) hlf.ge
    refine hlf.nl i hi hin b off sa sc e ?_
    obtain ⟨b', off', _, _, e', hnb', hlt, _⟩ := h i hi
    rw [e] at e'
    cases e'
    have : W2.heap[b]? = U.heap[b]? := hb2.block b (by omega)
    unfold World.cell? at hc ⊢
    simp only at hc ⊢
    rw [← this]
    exact hc
/-- what an Admit leaves -/
structure AdB (cap : Int) (L : List (List K)) (s s' : Bs) (x E : Int) : Prop where
  e : E = admE cap s.la s.all L
  x : x = if E = 0 then s.la + 1 else 0
  s : s' = if E = 0 then ⟨s.la + 1, s.fl, s.pins, s.all ++ newFrom (s.la + 1) 0 L⟩ else s
theorem Syn.adm {cap : Int} {L : List (List K)} {st st' sd sd' : Bs} {x E y F : Int} (h : Syn st sd) (h1 : AdB cap L st st' x E) (h2 : AdB cap L sd sd' y F) : y = x ∧ F = E ∧ Syn st' sd' := by
  have e1 : F = E := by rw [h1.e, h2.e, h.la, h.al]
  refine ⟨by rw [h1.x, h2.x, e1, h.la], e1, ?_⟩
  rw [h1.s, h2.s, e1]
  split
  · exact ⟨by show st.la + 1 = sd.la + 1; rw [h.la], h.fl, by show st.all ++ _ = sd.all ++ _; rw [h.al, h.la], h.pn, h.ri⟩
  · exact h
section
variable {n0 P B Mp Mc Mn R : Nat} {cap : Int} {cnt : Nat} {st sd : Bs} {nw : List K} {av pv : Value} {rv : Nat → Value} {W : World}
theorem admJ (h : PJ n0 P B Mp Mc Mn R cap cnt st sd nw av pv rv W) (ia : Option Addr) (n ic : Nat) (L : List (List K)) (hn : n = L.length) (hnb : n ≤ 100000) (hb : ∀ s ∈ L, s.length ≤ 100000) (hik : ∀ s ∈ L, ∀ k ∈ s, KIn k) (hw : RWs (SB B Mp Mc Mn) W ia L) {g : Nat} {cs : Array Value} (hx : BXp g cs W) :
    Calls Tryz.prog 17 #[ptr B, .slice ia n ic] W fun e w' => ∃ x E st', e = .returned (.tuple #[.int .i64 x, .int .i64 E]) ∧ AdB cap L st st' x E ∧ (∃ nw, PJ n0 P B Mp Mc Mn R cap cnt st' sd nw av pv rv w') ∧ BXp g cs w' ∧ Fr (SB B Mp Mc Mn) W w' := by
  refine (admit_any W B Mp Mc Mn cap st.la st.fl st.pins st.all nw h.ba ia n ic L hn hw hik (fun s hs => Nat.le_trans (hb s hs) (by omega)) (by omega)).mono ?_
  rintro e w' (⟨hne, rfl, hb2⟩ | ⟨heq, rfl, ⟨nw', hba⟩, hf⟩)
  · exact ⟨0, _, st, rfl, ⟨rfl, by rw [if_neg hne], by rw [if_neg hne]⟩, ⟨nw, h.kept hb2⟩, hx.kept hb2, Fr.ofBelow hb2⟩
  · exact ⟨_, 0, ⟨st.la + 1, st.fl, st.pins, st.all ++ newFrom (st.la + 1) 0 L⟩, rfl, ⟨heq.symm, by rw [if_pos rfl], by rw [if_pos rfl]⟩, ⟨nw', h.book (st' := ⟨st.la + 1, st.fl, st.pins, st.all ++ newFrom (st.la + 1) 0 L⟩) hba hf⟩, hx.book h hf, hf⟩
theorem radmJ (h : PJ n0 P B Mp Mc Mn R cap cnt st sd nw av pv rv W) (hal : sd.all.length ≤ 65536) (hla : 0 ≤ sd.la ∧ sd.la ≤ 1099511627776) (oa : Option Addr) (n oc : Nat) (L : List (List K)) (hn : n = L.length) (hnb : n ≤ 100000) (hb : ∀ s ∈ L, s.length ≤ 100000) (hw : RWs (fun k => n0 ≤ k) W oa L) {g : Nat} {cs : Array Value} (hx : BXp g cs W) :
    Calls Tryz.prog 19 #[ptr R, .slice oa n oc] W fun e w' => ∃ x E sd', e = .returned (.tuple #[.int .i64 x, .int .i64 E]) ∧ AdB cap L sd sd' x E ∧ (∃ av pv, PJ n0 P B Mp Mc Mn R cap cnt st sd' nw av pv rv w') ∧ BXp g cs w' ∧ Below n0 W w' := by
  refine (rAdmit_any W n0 R cap av pv sd h.rb h.n0s hal hla oa n oc L hn hw (fun s hs => Nat.le_trans (hb s hs) (by omega)) (by omega)).mono ?_
  rintro e w' (⟨hne, rfl, hb2⟩ | ⟨heq, rfl, hr⟩)
  · exact ⟨0, _, sd, rfl, ⟨rfl, by rw [if_neg hne], by rw [if_neg hne]⟩, ⟨av, pv, h.kept hb2⟩, hx.kept hb2, hb2.mono h.n0s⟩
  · have hf : Fr (SR R av pv) W w' := by obtain ⟨_, _, _, h2, _⟩ := hr; exact h2
    exact ⟨_, 0, ⟨sd.la + 1, sd.fl, sd.pins, sd.all ++ newFrom (sd.la + 1) 0 L⟩, rfl, ⟨heq.symm, by rw [if_pos rfl], by rw [if_pos rfl]⟩, h.doc hr, hx.doc h hf, hf.below h.n0s (fun k hk => h.rb.geS hk)⟩
end
set_option maxHeartbeats 4000000 in
set_option maxRecDepth 100000 in
theorem step0_any (n0 P B Mp Mc Mn R : Nat) (cap : Int) (cnt : Nat) (st sd : Bs) (nw : List K) (av pv : Value) (rv : Nat → Value) (wr : World) (hj : PJ n0 P B Mp Mc Mn R cap cnt st sd nw av pv rv wr) (hs : Syn st sd) (oa : Option Addr) (ln oc : Nat) (L : List (List K)) (hn : ln = L.length) (hnb : ln ≤ 100000) (hb : ∀ s ∈ L, s.length ≤ 100000) (hik : ∀ s ∈ L, ∀ k ∈ s, KIn k) (hw : RWs (fun k => n0 ≤ k) wr oa L) (m k1 k2 : Int) :
    Calls Tryz.prog 6 #[ptr P, .agg #[.int .i64 0, .slice oa ln oc, .int .i64 m, .int .i64 k1, .int .i64 k2]] wr fun e w' => StP n0 P B Mp Mc Mn R cap cnt wr e w' := by
  obtain ⟨U, hU⟩ : ∃ U, U = wr.alloc (.cells #[.int .i64 0, .slice oa ln oc, .int .i64 m, .int .i64 k1, .int .i64 k2] 45) := ⟨_, rfl⟩
  obtain ⟨g, hg⟩ : ∃ g, g = wr.heap.size := ⟨_, rfl⟩
  have hbU : Below wr.heap.size wr U := by rw [hU]; exact (Below.refl _ _).alloc (Nat.le_refl _) _
  have HJU := hidC (hj.kept hbU)
  obtain ⟨cs, hcs⟩ : ∃ cs : Array Value, cs = #[.int .i64 0, .slice oa ln oc, .int .i64 m, .int .i64 k1, .int .i64 k2] := ⟨_, rfl⟩
  have HXU : Hid (BXp g cs U) := by rw [hU, hg, hcs]; exact heap_alloc_new _ _ rfl
  have HBU : Hid (Below n0 wr U) := hbU.mono hj.n0s
  have HPl := hidC (hj.pl hs)
  have HS := hidC hs
  have HXc : Hid (∀ W, BXp g cs W → W.cell? ⟨g, 0, none⟩ = some (.int .i64 0) ∧ W.cell? ⟨g, 1, none⟩ = some (.slice oa ln oc)) := fun W hW => by
    unfold BXp at hW
    rw [hcs] at hW
    refine ⟨?_, ?_⟩ <;> simp [World.cell?, hW]
  have HR : Hid (∀ W, Below n0 wr W → RWs (fun k => n0 ≤ k) W oa L) := fun W hW => hw.fr ⟨hW.os, hW.tape, hW.output, hW.size, fun k hk hS => hW.block k (by omega)⟩
  have HA := hidC (And.intro hn (And.intro hb hik))
  have HLn := hidC (lentB_any n0 U HJU.out.n0s oa ln oc L hn (HR.out U HBU.out) hnb hb)
  clear hj hs hbU hcs hn hb hik hw
  obtain ⟨x0, x1⟩ := HXc.out U HXU.out
  go_enter Tryz.func6, Tryz.ntmps6
  go_upto_region 3 with fail
  rw [← hU, ← hg]
  clear hU hg
  go_wp2_with fail
  clear x0 x1
  refine HLn.out.mono ?_
  rintro e W1 ⟨ia, ic, rfl, hr1, hb1, hbk⟩
  have HJ1 := hidC (HJU.out.kept hb1)
  have HX1 := hidC (HXU.out.kept hb1)
  have HC1 := hidC (admJ HJ1.out ia ln ic L HA.out.1 hnb HA.out.2.1 HA.out.2.2 (hr1.weak (fun k hk => HJU.out.ba.lt hk)) HX1.out)
  have HBk := hidC hbk
  have HB1 := hidC hb1
  clear hr1 hb1 hbk HLn
  obtain ⟨p0, p1, _⟩ := HJ1.out.cells
  go_wp2_with fail
  clear p0 p1
  refine HC1.out.mono ?_
  rintro e W2 ⟨x, E, st2, rfl, hr2, ⟨nw2, hj2⟩, hx2, hf2⟩
  have HJ2 := hidC hj2
  have HX2 := hidC hx2
  have HR2 := hidC hr2
  have HB2 : Hid (Below n0 U W2) := (HB1.out.mono HJU.out.n0s).trans (hf2.below HJ1.out.n0s HJ1.out.sb)
  have HC2 := hidC (HBk.out W2 HB2.out (fun k h1 h2 => hf2.block k h2 (fun hS => by have := HJU.out.ba.lt hS; omega)))
  obtain ⟨_, x1⟩ := HXc.out W2 hx2
  have hgU : g < U.heap.size := blk_lt HXU.out
  clear hj2 hx2 hr2 hf2 HC1 HBk
  go_wp2_with fail
  clear x1
  refine HC2.out.mono ?_
  rintro e W3 ⟨rfl, hb3⟩
  have HJ3 : Hid (PJ n0 P B Mp Mc Mn R cap cnt st2 sd nw2 av pv rv W3) := HJ2.out.same (fun k hk => hb3.block k (HJU.out.lt hk))
  have HX3 : Hid (BXp g cs W3) := (hb3.block g hgU).trans HX2.out
  have HB3 : Hid (Below n0 wr W3) := HBU.out.trans (HB2.out.trans (hb3.mono HJU.out.n0s))
  clear hb3 HC2
  have HDr : Hid (Below W3.heap.size W3 W3.drew) := drew_below W3 1
  have HJd := hidC (HJ3.out.kept HDr.out)
  have HXd := hidC (HX3.out.kept HDr.out)
  have HBd : Hid (Below n0 wr W3.drew) := HB3.out.trans (HDr.out.mono HJ3.out.n0s)
  have HC3 := hidC (radmJ HJd.out HPl.out.2.1 HPl.out.2.2.2.1 oa ln oc L HA.out.1 hnb HA.out.2.1 (HR.out _ HBd.out) HXd.out)
  obtain ⟨_, p1, _⟩ := HJ3.out.cells
  obtain ⟨_, x1⟩ := HXc.out W3 HX3.out
  go_upto_region 6 with fail
  go_region_held3 (fun w' => w'.cell? ⟨P, 1, none⟩ = some (ptr R) ∧ w'.cell? ⟨g, 1, none⟩ = some (.slice oa ln oc)) (first | with_reducible exact HQ4.out | go_keep) (first
    | (go_at_call 19; with_reducible refine HC3.out.mono ?_; rintro e W4 ⟨y, F, sd4, rfl, hr4, hj4, hx4, hb4⟩; have HJ4 := hidC hj4; have HB4 := hidC (HBd.out.trans hb4); have HR4 := hidC hr4; have HQ4 := hidC (And.intro (by obtain ⟨_, _, h4⟩ := hj4; exact h4.cells.2.1) (HXc.out W4 hx4).2); clear hj4 hx4 hb4 hr4))
  clear p1 x1 HQ4 HC3
  obtain ⟨hy, hF, hsy⟩ := HS.out.adm HR2.out HR4.out
  subst hy hF
  have HZ : Hid (StP n0 P B Mp Mc Mn R cap cnt wr (.returned (.bool true)) W4) := by
    obtain ⟨a4, p4, h4⟩ := HJ4.out
    exact ⟨rfl, ⟨st2, sd4, hsy, nw2, a4, p4, rv, h4.up.up⟩, HB4.out⟩
  have hxx : (y == y) = true := by simp
  have hff : (F == F) = true := by simp
  clear hsy
  go_wp2_with fail
  refine (numB_any W4 F).mono ?_
  rintro e Wn ⟨rfl, hWn⟩
  have hWn' := hWn.symm
  subst hWn'
  clear hWn
  go_wp2
  go_ret
  exact HZ.out
end Go.Proofs.YtbmohlkcmhhpgaaGreat
/-
  numbers; step AT ANY OTHER KIND.
-/
namespace Go.Proofs.YtbmohlkcmhhpgaaGreat
open Go.RowKit Go.Sort

set_option maxHeartbeats 4000000 in
set_option maxRecDepth 100000 in
theorem numbers_any {n0 P B Mp Mc Mn R : Nat} {cap : Int} {cnt : Nat} {st sd : Bs} {nw : List K} {av pv : Value} {rv : Nat → Value} (W : World) (h : PJ n0 P B Mp Mc Mn R cap cnt st sd nw av pv rv W) (hs : Syn st sd) :
    Calls Tryz.prog 34 #[ptr P] W fun e w' => e = .returned (.bool true) ∧ ∃ q, w' = W.drewN q := by
  obtain ⟨p0, p1, _⟩ := h.cells
  obtain ⟨aa, an, ac, hav, han⟩ := rowOpenD h.rb.ra
  obtain ⟨r0, r1, r2, r3, _⟩ := h.rb.cells
  rw [hav] at r3
  rw [← hs.la] at r1
  rw [← hs.fl] at r2
  have HQ : Hid (∀ q, BA (W.drewN q) B Mp Mc Mn cap st.la st.fl st.pins st.all nw) := fun q => h.ba.kept (drew_below W q)
  have hal : st.all.length = an := by rw [hs.al, han]
  have H0 : Hid (∀ q, Calls Tryz.prog 53 #[ptr B] (W.drewN q) fun e w' => e = .returned (.int .i64 cap) ∧ w' = W.drewN q) := fun q => capacity_any _ B Mp Mc Mn cap _ _ _ _ nw (HQ.out q)
  have H1 : Hid (∀ q, Calls Tryz.prog 41 #[ptr B] (W.drewN q) fun e w' => e = .returned (.int .i64 (an : Int)) ∧ w' = W.drewN q) := fun q => by rw [← hal]; exact charge_any _ B Mp Mc Mn cap _ _ _ _ nw (HQ.out q)
  have H2 : Hid (∀ q, Calls Tryz.prog 54 #[ptr B] (W.drewN q) fun e w' => e = .returned (.int .i64 st.la) ∧ w' = W.drewN q) := fun q => latest_any _ B Mp Mc Mn cap _ _ _ _ nw (HQ.out q)
  have H3 : Hid (∀ q, Calls Tryz.prog 55 #[ptr B] (W.drewN q) fun e w' => e = .returned (.int .i64 st.fl) ∧ w' = W.drewN q) := fun q => floor_any _ B Mp Mc Mn cap _ _ _ _ nw (HQ.out q)
  generalize st.la = la at *
  generalize st.fl = fl at *
  clear h hs hav han hal HQ
  go_enter Tryz.func34, Tryz.ntmps34
  go_upto_region 1 with fail
  go_quiet (first | (go_at_call 53; exact (H0.out _).mono (fun e w' hx => ⟨hx.1, _, hx.2⟩)) | (go_at_call 41; exact (H1.out _).mono (fun e w' hx => ⟨hx.1, _, hx.2⟩)) | (go_at_call 54; exact (H2.out _).mono (fun e w' hx => ⟨hx.1, _, hx.2⟩)) | (go_at_call 55; exact (H3.out _).mono (fun e w' hx => ⟨hx.1, _, hx.2⟩)))
  go_wp2
  go_ret
  exact ⟨by first | rfl | simp, nq, rfl⟩
set_option maxHeartbeats 4000000 in
set_option maxRecDepth 100000 in
theorem stepN_any (n0 P B Mp Mc Mn R : Nat) (cap : Int) (cnt : Nat) (st sd : Bs) (nw : List K) (av pv : Value) (rv : Nat → Value) (wr : World) (hj : PJ n0 P B Mp Mc Mn R cap cnt st sd nw av pv rv wr) (hs : Syn st sd) (kind : Int) (h0 : kind ≠ 0) (h1 : kind ≠ 1) (h2 : kind ≠ 2) (h3 : kind ≠ 3) (h5 : kind ≠ 5) (h6 : kind ≠ 6) (h7 : kind ≠ 7) (oa : Option Addr) (ln oc : Nat) (m k1 k2 : Int) :
    Calls Tryz.prog 6 #[ptr P, .agg #[.int .i64 kind, .slice oa ln oc, .int .i64 m, .int .i64 k1, .int .i64 k2]] wr fun e w' => StP n0 P B Mp Mc Mn R cap cnt wr e w' := by
  obtain ⟨U, hU⟩ : ∃ U, U = wr.alloc (.cells #[.int .i64 kind, .slice oa ln oc, .int .i64 m, .int .i64 k1, .int .i64 k2] 45) := ⟨_, rfl⟩
  have hbU : Below wr.heap.size wr U := by rw [hU]; exact (Below.refl _ _).alloc (Nat.le_refl _) _
  have HJU := hidC (hj.kept hbU)
  have HBU : Hid (Below n0 wr U) := hbU.mono hj.n0s
  have HS := hidC hs
  have HNm := hidC (numbers_any U HJU.out hs)
  have e0 : (kind == 0) = false := by simpa using h0
  have e1 : (kind == 1) = false := by simpa using h1
  have e2 : (kind == 2) = false := by simpa using h2
  have e3 : (kind == 3) = false := by simpa using h3
  have e5 : (kind == 5) = false := by simpa using h5
  have e6 : (kind == 6) = false := by simpa using h6
  have e7 : (kind == 7) = false := by simpa using h7
  clear hj hs hbU
  go_enter Tryz.func6, Tryz.ntmps6
  go_wp2_with fail
  rw [← hU]
  clear hU
  refine HNm.out.mono ?_
  rintro e W2 ⟨rfl, q, hW2⟩
  subst hW2
  have HZ : Hid (StP n0 P B Mp Mc Mn R cap cnt wr (.returned (.bool true)) (U.drewN q)) := ⟨rfl, ⟨st, sd, HS.out, nw, av, pv, rv, (HJU.out.kept (drew_below U q)).up.up⟩, HBU.out.trans ((drew_below U q).mono HJU.out.n0s)⟩
  go_wp2
  go_ret
  exact HZ.out
end Go.Proofs.YtbmohlkcmhhpgaaGreat
/-
  step: Pin, Unpin, Collect.
-/
namespace Go.Proofs.YtbmohlkcmhhpgaaGreat
open Go.RowKit Go.Sort

set_option maxHeartbeats 4000000 in
set_option maxRecDepth 100000 in
theorem step1_any (n0 P B Mp Mc Mn R : Nat) (cap : Int) (cnt : Nat) (st sd : Bs) (nw : List K) (av pv : Value) (rv : Nat → Value) (wr : World) (hj : PJ n0 P B Mp Mc Mn R cap cnt st sd nw av pv rv wr) (hs : Syn st sd) (oa : Option Addr) (ln oc : Nat) (m k1 k2 : Int) (hm : In64 m) :
    Calls Tryz.prog 6 #[ptr P, .agg #[.int .i64 1, .slice oa ln oc, .int .i64 m, .int .i64 k1, .int .i64 k2]] wr fun e w' => StP n0 P B Mp Mc Mn R cap cnt wr e w' := by
  obtain ⟨U, hU⟩ : ∃ U, U = wr.alloc (.cells #[.int .i64 1, .slice oa ln oc, .int .i64 m, .int .i64 k1, .int .i64 k2] 45) := ⟨_, rfl⟩
  obtain ⟨g, hg⟩ : ∃ g, g = wr.heap.size := ⟨_, rfl⟩
  have hbU : Below wr.heap.size wr U := by rw [hU]; exact (Below.refl _ _).alloc (Nat.le_refl _) _
  have HJU := hidC (hj.kept hbU)
  obtain ⟨cs, hcs⟩ : ∃ cs : Array Value, cs = #[.int .i64 1, .slice oa ln oc, .int .i64 m, .int .i64 k1, .int .i64 k2] := ⟨_, rfl⟩
  have HXU : Hid (BXp g cs U) := by rw [hU, hg, hcs]; exact heap_alloc_new _ _ rfl
  have HBU : Hid (Below n0 wr U) := hbU.mono hj.n0s
  have HPl := hidC (hj.pl hs)
  have HCt := hidC (hs.cts hj)
  have HNd := hidC hj.ba.pnd
  have HAn := hidC hj.ba.nodup
  have HRs := hidC hj.ba.rs
  have HS := hidC hs
  have HXc : Hid (∀ W, BXp g cs W → W.cell? ⟨g, 0, none⟩ = some (.int .i64 1) ∧ W.cell? ⟨g, 2, none⟩ = some (.int .i64 m)) := fun W hW => by
    unfold BXp at hW
    rw [hcs] at hW
    constructor <;> simp [World.cell?, hW]
  have HM := hidC hm
  clear hj hs hbU hcs hm
  obtain ⟨x0, x2⟩ := HXc.out U HXU.out
  obtain ⟨p0, p1, _⟩ := HJU.out.cells
  go_enter Tryz.func6, Tryz.ntmps6
  go_upto_region 9 with fail
  rw [← hU, ← hg]
  clear hU hg
  have HDr : Hid (Below U.heap.size U U.drew) := drew_below U 1
  have HJd := hidC (HJU.out.kept HDr.out)
  have HXd := hidC (HXU.out.kept HDr.out)
  have HBd : Hid (Below n0 wr U.drew) := HBU.out.trans (HDr.out.mono HJU.out.n0s)
  have HC1 := hidC (pinJ HJd.out m HM.out HXd.out)
  have HC2 : Hid (∀ W st', PJ n0 P B Mp Mc Mn R cap cnt st' sd nw av pv rv W → BXp g cs W → _) := fun W st' hW hX => rpinJ (st := st') hW HS.out HPl.out.1 HCt.out m hX
  have HKp : Hid (∀ W st' sd' av' pv', PJ n0 P B Mp Mc Mn R cap cnt st' sd' nw av' pv' rv W → BXp g cs W → W.cell? ⟨P, 0, none⟩ = some (ptr B) ∧ W.cell? ⟨P, 1, none⟩ = some (ptr R) ∧ W.cell? ⟨g, 2, none⟩ = some (.int .i64 m)) := fun W st' sd' av' pv' hW hX => ⟨hW.cells.1, hW.cells.2.1, (HXc.out W hX).2⟩
  go_region_held3 (fun w' => w'.cell? ⟨P, 0, none⟩ = some (ptr B) ∧ w'.cell? ⟨P, 1, none⟩ = some (ptr R) ∧ w'.cell? ⟨g, 2, none⟩ = some (.int .i64 m)) (first | with_reducible exact HQ4.out | with_reducible exact HQ3.out | go_keep) (first
    | (go_at_call 20; with_reducible refine HC1.out.mono ?_; rintro e W3 ⟨st3, rfl, hr3, hj3, hx3, hb3⟩; have HJ3 := hidC hj3; have HX3 := hidC hx3; have HB3 := hidC (HBd.out.trans hb3); have HR3 := hidC hr3; have HQ3 := hidC (HKp.out _ _ _ _ _ hj3 hx3); clear hj3 hx3 hb3 hr3)
    | (go_at_call 11; with_reducible refine (numB_any W3 _).mono ?_; rintro e Wn ⟨rfl, hWn⟩; have hWn' := hWn.symm; subst hWn'; clear hWn)
    | (go_at_call 21; with_reducible refine (HC2.out W3 st3 HJ3.out HX3.out).mono ?_; rintro e W4 ⟨sd4, rfl, hr4, hj4, hx4, hb4⟩; have HJ4 := hidC hj4; have HB4 := hidC (HB3.out.trans hb4); have HR4 := hidC hr4; have HQ4 := hidC (by obtain ⟨a4, p4, h4⟩ := hj4; exact HKp.out _ _ _ _ _ h4 hx4); clear hj4 hx4 hb4 hr4))
  all_goals (
    have HZ : Hid (StP n0 P B Mp Mc Mn R cap cnt wr (.returned (.bool true)) W4) := by
      obtain ⟨a4, p4, h4⟩ := HJ4.out
      refine ⟨rfl, ⟨st3, sd4, HS.out.pin HNd.out HR3.out ?_, nw, a4, p4, rv, h4.up.up⟩, HB4.out⟩
      rw [HS.out.pinE HNd.out]
      exact HR4.out
    have hee : (pinE st.la st.fl st.pins m == pinE sd.la sd.fl sd.pins m) = true := by rw [HS.out.pinE HNd.out]; simp
    generalize pinE st.la st.fl st.pins m = E1 at *
    generalize pinE sd.la sd.fl sd.pins m = E2 at *
    have HZ2 : Hid (StP n0 P B Mp Mc Mn R cap cnt wr (.returned (.bool (E1 == E2))) W4) := by rw [hee]; exact HZ.out
    clear p0 p1 x0 x2 hee
    go_wp2
    go_ret
    exact HZ2.out)

set_option maxHeartbeats 4000000 in
set_option maxRecDepth 100000 in
theorem step2_any (n0 P B Mp Mc Mn R : Nat) (cap : Int) (cnt : Nat) (st sd : Bs) (nw : List K) (av pv : Value) (rv : Nat → Value) (wr : World) (hj : PJ n0 P B Mp Mc Mn R cap cnt st sd nw av pv rv wr) (hs : Syn st sd) (oa : Option Addr) (ln oc : Nat) (m k1 k2 : Int) (hm : In64 m) :
    Calls Tryz.prog 6 #[ptr P, .agg #[.int .i64 2, .slice oa ln oc, .int .i64 m, .int .i64 k1, .int .i64 k2]] wr fun e w' => StP n0 P B Mp Mc Mn R cap cnt wr e w' := by
  obtain ⟨U, hU⟩ : ∃ U, U = wr.alloc (.cells #[.int .i64 2, .slice oa ln oc, .int .i64 m, .int .i64 k1, .int .i64 k2] 45) := ⟨_, rfl⟩
  obtain ⟨g, hg⟩ : ∃ g, g = wr.heap.size := ⟨_, rfl⟩
  have hbU : Below wr.heap.size wr U := by rw [hU]; exact (Below.refl _ _).alloc (Nat.le_refl _) _
  have HJU := hidC (hj.kept hbU)
  obtain ⟨cs, hcs⟩ : ∃ cs : Array Value, cs = #[.int .i64 2, .slice oa ln oc, .int .i64 m, .int .i64 k1, .int .i64 k2] := ⟨_, rfl⟩
  have HXU : Hid (BXp g cs U) := by rw [hU, hg, hcs]; exact heap_alloc_new _ _ rfl
  have HBU : Hid (Below n0 wr U) := hbU.mono hj.n0s
  have HPl := hidC (hj.pl hs)
  have HCt := hidC (hs.cts hj)
  have HNd := hidC hj.ba.pnd
  have HAn := hidC hj.ba.nodup
  have HRs := hidC hj.ba.rs
  have HS := hidC hs
  have HXc : Hid (∀ W, BXp g cs W → W.cell? ⟨g, 0, none⟩ = some (.int .i64 2) ∧ W.cell? ⟨g, 2, none⟩ = some (.int .i64 m)) := fun W hW => by
    unfold BXp at hW
    rw [hcs] at hW
    constructor <;> simp [World.cell?, hW]
  have HM := hidC hm
  clear hj hs hbU hcs hm
  obtain ⟨x0, x2⟩ := HXc.out U HXU.out
  obtain ⟨p0, p1, _⟩ := HJU.out.cells
  go_enter Tryz.func6, Tryz.ntmps6
  go_upto_region 11 with fail
  rw [← hU, ← hg]
  clear hU hg
  have HDr : Hid (Below U.heap.size U U.drew) := drew_below U 1
  have HJd := hidC (HJU.out.kept HDr.out)
  have HXd := hidC (HXU.out.kept HDr.out)
  have HBd : Hid (Below n0 wr U.drew) := HBU.out.trans (HDr.out.mono HJU.out.n0s)
  have HC1 := hidC (unpJ HJd.out m HM.out HXd.out)
  have HC2 : Hid (∀ W st', PJ n0 P B Mp Mc Mn R cap cnt st' sd nw av pv rv W → BXp g cs W → _) := fun W st' hW hX => runpJ (st := st') hW HS.out HPl.out.1 HCt.out m hX
  have HKp : Hid (∀ W st' sd' av' pv', PJ n0 P B Mp Mc Mn R cap cnt st' sd' nw av' pv' rv W → BXp g cs W → W.cell? ⟨P, 0, none⟩ = some (ptr B) ∧ W.cell? ⟨P, 1, none⟩ = some (ptr R) ∧ W.cell? ⟨g, 2, none⟩ = some (.int .i64 m)) := fun W st' sd' av' pv' hW hX => ⟨hW.cells.1, hW.cells.2.1, (HXc.out W hX).2⟩
  go_region_held3 (fun w' => w'.cell? ⟨P, 0, none⟩ = some (ptr B) ∧ w'.cell? ⟨P, 1, none⟩ = some (ptr R) ∧ w'.cell? ⟨g, 2, none⟩ = some (.int .i64 m)) (first | with_reducible exact HQ4.out | with_reducible exact HQ3.out | go_keep) (first
    | (go_at_call 22; with_reducible refine HC1.out.mono ?_; rintro e W3 ⟨E1, st3, rfl, hr3, hj3, hx3, hb3⟩; have HJ3 := hidC hj3; have HX3 := hidC hx3; have HB3 := hidC (HBd.out.trans hb3); have HR3 := hidC hr3; have HQ3 := hidC (HKp.out _ _ _ _ _ hj3 hx3); clear hj3 hx3 hb3 hr3)
    | (go_at_call 11; with_reducible refine (numB_any W3 _).mono ?_; rintro e Wn ⟨rfl, hWn⟩; have hWn' := hWn.symm; subst hWn'; clear hWn)
    | (go_at_call 23; with_reducible refine (HC2.out W3 st3 HJ3.out HX3.out).mono ?_; rintro e W4 ⟨E2, sd4, rfl, hr4, hj4, hx4, hb4⟩; have HJ4 := hidC hj4; have HB4 := hidC (HB3.out.trans hb4); have HR4 := hidC hr4; have HQ4 := hidC (by obtain ⟨a4, p4, h4⟩ := hj4; exact HKp.out _ _ _ _ _ h4 hx4); clear hj4 hx4 hb4 hr4))
  all_goals (
    obtain ⟨hE, hsy⟩ := HS.out.unp HNd.out HR3.out HR4.out
    subst hE
    have HZ : Hid (StP n0 P B Mp Mc Mn R cap cnt wr (.returned (.bool true)) W4) := by
      obtain ⟨a4, p4, h4⟩ := HJ4.out
      exact ⟨rfl, ⟨st3, sd4, hsy, nw, a4, p4, rv, h4.up.up⟩, HB4.out⟩
    have hee : (E2 == E2) = true := by simp
    have HZ2 : Hid (StP n0 P B Mp Mc Mn R cap cnt wr (.returned (.bool (E2 == E2))) W4) := by rw [hee]; exact HZ.out
    clear p0 p1 x0 x2 hee
    go_wp2
    go_ret
    exact HZ2.out)

set_option maxHeartbeats 4000000 in
set_option maxRecDepth 100000 in
theorem step3_any (n0 P B Mp Mc Mn R : Nat) (cap : Int) (cnt : Nat) (st sd : Bs) (nw : List K) (av pv : Value) (rv : Nat → Value) (wr : World) (hj : PJ n0 P B Mp Mc Mn R cap cnt st sd nw av pv rv wr) (hs : Syn st sd) (oa : Option Addr) (ln oc : Nat) (m k1 k2 : Int) (hm : In64 m) :
    Calls Tryz.prog 6 #[ptr P, .agg #[.int .i64 3, .slice oa ln oc, .int .i64 m, .int .i64 k1, .int .i64 k2]] wr fun e w' => StP n0 P B Mp Mc Mn R cap cnt wr e w' := by
  obtain ⟨U, hU⟩ : ∃ U, U = wr.alloc (.cells #[.int .i64 3, .slice oa ln oc, .int .i64 m, .int .i64 k1, .int .i64 k2] 45) := ⟨_, rfl⟩
  obtain ⟨g, hg⟩ : ∃ g, g = wr.heap.size := ⟨_, rfl⟩
  have hbU : Below wr.heap.size wr U := by rw [hU]; exact (Below.refl _ _).alloc (Nat.le_refl _) _
  have HJU := hidC (hj.kept hbU)
  obtain ⟨cs, hcs⟩ : ∃ cs : Array Value, cs = #[.int .i64 3, .slice oa ln oc, .int .i64 m, .int .i64 k1, .int .i64 k2] := ⟨_, rfl⟩
  have HXU : Hid (BXp g cs U) := by rw [hU, hg, hcs]; exact heap_alloc_new _ _ rfl
  have HBU : Hid (Below n0 wr U) := hbU.mono hj.n0s
  have HPl := hidC (hj.pl hs)
  have HCt := hidC (hs.cts hj)
  have HNd := hidC hj.ba.pnd
  have HAn := hidC hj.ba.nodup
  have HRs := hidC hj.ba.rs
  have HS := hidC hs
  have HXc : Hid (∀ W, BXp g cs W → W.cell? ⟨g, 0, none⟩ = some (.int .i64 3) ∧ W.cell? ⟨g, 2, none⟩ = some (.int .i64 m)) := fun W hW => by
    unfold BXp at hW
    rw [hcs] at hW
    constructor <;> simp [World.cell?, hW]
  have HM := hidC hm
  clear hj hs hbU hcs hm
  obtain ⟨x0, x2⟩ := HXc.out U HXU.out
  obtain ⟨p0, p1, _⟩ := HJU.out.cells
  go_enter Tryz.func6, Tryz.ntmps6
  go_upto_region 13 with fail
  rw [← hU, ← hg]
  clear hU hg
  have HDr : Hid (Below U.heap.size U U.drew) := drew_below U 1
  have HJd := hidC (HJU.out.kept HDr.out)
  have HXd := hidC (HXU.out.kept HDr.out)
  have HBd : Hid (Below n0 wr U.drew) := HBU.out.trans (HDr.out.mono HJU.out.n0s)
  have HC1 := hidC (colJ HJd.out HXd.out)
  have HC2 : Hid (∀ W st', PJ n0 P B Mp Mc Mn R cap cnt st' sd nw av pv rv W → BXp g cs W → _) := fun W st' hW hX => rcolJ (st := st') hW ⟨HPl.out.1, HPl.out.2.1, HPl.out.2.2.1⟩ hX
  have HKp : Hid (∀ W st' sd' av' pv', PJ n0 P B Mp Mc Mn R cap cnt st' sd' nw av' pv' rv W → BXp g cs W → W.cell? ⟨P, 0, none⟩ = some (ptr B) ∧ W.cell? ⟨P, 1, none⟩ = some (ptr R) ∧ W.cell? ⟨g, 2, none⟩ = some (.int .i64 m)) := fun W st' sd' av' pv' hW hX => ⟨hW.cells.1, hW.cells.2.1, (HXc.out W hX).2⟩
  go_region_held3 (fun w' => w'.cell? ⟨P, 0, none⟩ = some (ptr B) ∧ w'.cell? ⟨P, 1, none⟩ = some (ptr R) ∧ w'.cell? ⟨g, 2, none⟩ = some (.int .i64 m)) (first | with_reducible exact HQ4.out | with_reducible exact HQ3.out | go_keep) (first
    | (go_at_call 24; with_reducible refine HC1.out.mono ?_; rintro e W3 ⟨d3, al3, rfl, hr3, hj3, hx3, hb3⟩; have HJ3 := hidC hj3; have HX3 := hidC hx3; have HB3 := hidC (HBd.out.trans hb3); have HR3 := hidC hr3; have HQ3 := hidC (HKp.out _ _ _ _ _ hj3 hx3); clear hj3 hx3 hb3 hr3)
    | (go_at_call 25; with_reducible refine (HC2.out W3 _ HJ3.out HX3.out).mono ?_; rintro e W4 ⟨rfl, hj4, hx4, hb4⟩; have HJ4 := hidC hj4; have HB4 := hidC (HB3.out.trans hb4); have HQ4 := hidC (by obtain ⟨a4, p4, h4⟩ := hj4; exact HKp.out _ _ _ _ _ h4 hx4); clear hj4 hx4 hb4))
  all_goals (
    obtain ⟨hal, hsy⟩ := HS.out.col HAn.out HRs.out HR3.out.1 HR3.out.2
    have HZ : Hid (StP n0 P B Mp Mc Mn R cap cnt wr (.returned (.bool true)) W4) := by
      obtain ⟨a4, p4, h4⟩ := HJ4.out
      exact ⟨rfl, ⟨_, _, hsy, nw, a4, p4, rv, h4.up.up⟩, HB4.out⟩
    have hee : ((st.all.length : Int) - (al3.length : Int) == (sd.all.length : Int) - ((colD (sd.pins.map Prod.fst) sd.all).length : Int)) = true := by rw [hal, HS.out.al]; simp
    clear hal hsy
    generalize (st.all.length : Int) - (al3.length : Int) = E1 at *
    generalize (sd.all.length : Int) - ((colD (sd.pins.map Prod.fst) sd.all).length : Int) = E2 at *
    have HZ2 : Hid (StP n0 P B Mp Mc Mn R cap cnt wr (.returned (.bool (E1 == E2))) W4) := by rw [hee]; exact HZ.out
    clear p0 p1 x0 x2 hee
    go_wp2
    go_ret
    exact HZ2.out)
end Go.Proofs.YtbmohlkcmhhpgaaGreat
/-
  alike, pinned: TWO BOOKS THAT TELL THE SAME.
-/
namespace Go.Proofs.YtbmohlkcmhhpgaaGreat
open Go.RowKit Go.Sort

theorem BA.nwl {w : World} {B Mp Mc Mn : Nat} {cap la fl : Int} {pins : List (Int × Int)} {all : List V4} {nw : List K} (h : BA w B Mp Mc Mn cap la fl pins all nw) : nw.length ≤ 65536 := by
  have hnd : nw.Nodup := by have := h.mn.kn; simpa [List.map_map, Function.comp_def] using this
  have h1 := nodup_len nw (all.map Prod.fst) hnd (fun k hk => by
    obtain ⟨v, hv, rfl⟩ := (h.nwa k).1 hk
    exact List.mem_map.2 ⟨v, hv, rfl⟩)
  have h2 := h.ln
  have h3 := h.cp
  simp at h1
  omega
theorem BA.nkin {w : World} {B Mp Mc Mn : Nat} {cap la fl : Int} {pins : List (Int × Int)} {all : List V4} {nw : List K} (h : BA w B Mp Mc Mn cap la fl pins all nw) : ∀ k ∈ sortK nw, KIn k := fun k hk => by
  have h1 := (sortK_mem nw k).1 hk
  exact h.mn.dm (k, pv (nf f0 all k)) (List.mem_map.2 ⟨k, h1, rfl⟩)
theorem tell_keys {W : World} {B Mp Mc Mn : Nat} {cap la fl : Int} {pins : List (Int × Int)} {all : List V4} {nw : List K} (h : BA W B Mp Mc Mn cap la fl pins all nw) (S : List K) (hS : sortK nw = S) (n : Nat) (hn : n = S.length) :
    Calls Tryz.prog 28 #[ptr B] W fun e w' => ∃ ka kc, e = .returned (.slice ka n kc) ∧ KeysAt w' ka S ∧ Below W.heap.size W w' := by
  subst hn hS
  refine (keysB_any W B Mp Mc Mn cap la fl pins all nw h).mono ?_
  rintro e X ⟨v, rfl, ho, _, hb⟩
  obtain ⟨ka, kc, rfl, hka, _, _⟩ := ho.slice
  exact ⟨ka, kc, rfl, hka, hb⟩
theorem tell_pins {W : World} {B Mp Mc Mn : Nat} {cap la fl : Int} {pins : List (Int × Int)} {all : List V4} {nw : List K} (h : BA W B Mp Mc Mn cap la fl pins all nw) (d : List Int) (hd1 : d.Pairwise (· < ·)) (hd2 : ∀ x, x ∈ d ↔ x ∈ pins.map Prod.fst) (n : Nat) (hn : n = d.length) :
    Calls Tryz.prog 26 #[ptr B] W fun e w' => ∃ ka kc, e = .returned (.slice ka n kc) ∧ KeysAt w' ka (pnl pins d) ∧ Below W.heap.size W w' := by
  subst hn
  refine (pins_any W B Mp Mc Mn cap la fl pins all nw h).mono ?_
  rintro e X ⟨v, d2, rfl, h1, h2, ho, hb⟩
  have hd : d2 = d := rise_ints h1 hd1 (fun x => by rw [h2.mem_iff, hd2])
  subst hd
  have hl : d2.length = (pnl pins d2).length := by simp [pnl]
  rw [pcs_cks, hl] at ho
  obtain ⟨ka, kc, rfl, hka⟩ := row_at ho
  rw [← hl]
  exact ⟨ka, kc, rfl, hka, hb⟩
theorem tell_vers {W : World} {B Mp Mc Mn : Nat} {cap la fl : Int} {pins : List (Int × Int)} {all : List V4} {nw : List K} (h : BA W B Mp Mc Mn cap la fl pins all nw) (k : K) (hk : KIn k) (l : List V4) (hl : ofV k all = l) (n : Nat) (hn : n = l.length) :
    Calls Tryz.prog 31 #[ptr B, kv k] W fun e w' => ∃ ka kc, e = .returned (.slice ka n kc) ∧ KeysAt w' ka (plk l) ∧ Below W.heap.size W w' := by
  subst hn hl
  refine (versions_any W B Mp Mc Mn cap la fl pins all nw h k hk).mono ?_
  rintro e X ⟨v, rfl, ho, hb⟩
  have hl : (ofV k all).length = (plk (ofV k all)).length := by simp [plk]
  obtain ⟨ka, kc, rfl, hka⟩ := row_at ho
  rw [← hl]
  exact ⟨ka, kc, rfl, hka, hb⟩
/-- the pinned batches, rising -/
theorem pins_rise (pins : List (Int × Int)) (h : (pins.map Prod.fst).Nodup) : ∃ d : List Int, d.Pairwise (· < ·) ∧ (∀ x, x ∈ d ↔ x ∈ pins.map Prod.fst) ∧ d.length = pins.length := by
  have key : ∀ l : List Int, l.Nodup → ∃ d : List Int, d.Pairwise (· < ·) ∧ d.Perm l := by
    intro l hl
    refine ⟨l.mergeSort (fun a b => decide (a ≤ b)), ?_, List.mergeSort_perm l _⟩
    have h1 := List.pairwise_mergeSort (le := fun a b : Int => decide (a ≤ b)) (fun a b c h1 h2 => by simp at *; omega) (fun a b => by simp; omega) l
    have h2 : (l.mergeSort (fun a b => decide (a ≤ b))).Nodup := (List.mergeSort_perm l _).nodup_iff.2 hl
    refine (h1.and h2).imp ?_
    intro a b hab
    have := hab.1
    have := hab.2
    simp at *
    omega
  obtain ⟨d, h1, h2⟩ := key _ h
  exact ⟨d, h1, fun x => h2.mem_iff, by have := h2.length_eq; simpa using this⟩
def AlPost (w : World) (e : Ending) (w' : World) : Prop := e = .returned (.bool true) ∧ Below w.heap.size w w'
end Go.Proofs.YtbmohlkcmhhpgaaGreat
/-
  step: Pins, Keys, Versions.
-/
namespace Go.Proofs.YtbmohlkcmhhpgaaGreat
open Go.RowKit Go.Sort

theorem pns_cksD : ∀ l : List (Int × Int), cks l = pns l
  | [] => rfl
  | x :: l => by simp only [cks, pns]; rw [pns_cksD l]
theorem pnl_doc {pins dp : List (Int × Int)} (h : ∀ n, fpn pins n = fpn dp n) (hr : (dp.map Prod.fst).Pairwise (· < ·)) : pnl pins (dp.map Prod.fst) = dp := by
  unfold pnl
  rw [List.map_map]
  apply List.ext_getElem
  · simp
  · intro i h1 h2
    simp only [List.getElem_map, Function.comp]
    rw [h, fpn_ix hr h2]
    rfl
theorem rowKept {W W' : World} {base : Nat} {T : TypeId} {sz n : Nat} {v : Value} {xs : List Value} (h : W.ownsRow base T sz v n xs) (hk : ∀ (k : Nat) (cs : Array Value) (T' : TypeId) (z : Nat × Nat), W.heap[k]? = some (.cells cs T' z) → T' = T → W'.heap[k]? = W.heap[k]?) : W'.ownsRow base T sz v n xs := rowSame h (fun g hg => by
  obtain ⟨cur, hc⟩ := rowBlock h hg
  exact hk g _ _ _ hc rfl)
section
variable {n0 P B Mp Mc Mn R : Nat} {cap : Int} {cnt : Nat} {st sd : Bs} {nw : List K} {av pv : Value} {rv : Nat → Value} {W : World}
/-- a list is noted: the append and the store -/
theorem PJ.note (h : PJ n0 P B Mp Mc Mn R cap cnt st sd nw av pv rv W) (i : Nat) (hi : 2 ≤ i) (hi8 : i < 8) (TS TE : TypeId) (hTS : tpS i = TS) (hTE : tpR i = TE) (la : Option Addr) (ln lc : Nat) (hc : cnt ≤ 1000000) (x : Value) (hx : rv i = x) (sz : Nat) (hz : W.heap.size = sz) :
    ∀ ty, ∃ v' w', (Builtin.append_ #[TS, TS] ty #[x, .slice (some ⟨sz, 0, none⟩) 1 1]).run Tryz.prog (W.alloc (.cells #[.slice la ln lc] TE)) = .ok v' w' ∧ ((∃ a m c, v' = .slice a m c) ∧ (∀ j, 2 ≤ j → j < 8 → w'.cell? ⟨P, j, none⟩ = some (rv j)) ∧ w'.frozen? ⟨P, i, none⟩ = false ∧ Hid ((∃ rv', (∀ j, j ≠ i → rv' j = rv j) ∧ PJ n0 P B Mp Mc Mn R cap (cnt + 1) st sd nw av pv rv' (w'.setCell ⟨P, i, none⟩ v')) ∧ Below n0 W (w'.setCell ⟨P, i, none⟩ v') ∧ ∀ (k : Nat) (cs : Array Value) (T : TypeId) (z : Nat × Nat), W.heap[k]? = some (.cells cs T z) → T ≠ TE → T ≠ 40 → (w'.setCell ⟨P, i, none⟩ v').heap[k]? = W.heap[k]?)) := fun ty => by
  subst hTS hTE hx hz
  obtain ⟨v', w', z1, z2, z3, z4, z5, z6, z7⟩ := h.push i hi hi8 (.slice la ln lc) rfl hc ty h.n0s
  exact ⟨v', w', z1, z2, z3, z4, z5, z6.below h.n0s (fun _ hk => hk), z7⟩
end

set_option maxHeartbeats 4000000 in
set_option maxRecDepth 100000 in
theorem step6_any (n0 P B Mp Mc Mn R : Nat) (cap : Int) (cnt : Nat) (st sd : Bs) (nw : List K) (av pv : Value) (rv : Nat → Value) (wr : World) (hj : PJ n0 P B Mp Mc Mn R cap cnt st sd nw av pv rv wr) (hs : Syn st sd) (hct : cnt ≤ 900000) (oa : Option Addr) (ln oc : Nat) (m k1 k2 : Int) (hk : KIn (k1, k2)) :
    Calls Tryz.prog 6 #[ptr P, .agg #[.int .i64 6, .slice oa ln oc, .int .i64 m, .int .i64 k1, .int .i64 k2]] wr fun e w' => StP n0 P B Mp Mc Mn R cap cnt wr e w' := by
  obtain ⟨U, hU⟩ : ∃ U, U = wr.alloc (.cells #[.int .i64 6, .slice oa ln oc, .int .i64 m, .int .i64 k1, .int .i64 k2] 45) := ⟨_, rfl⟩
  obtain ⟨g, hg⟩ : ∃ g, g = wr.heap.size := ⟨_, rfl⟩
  have hbU : Below wr.heap.size wr U := by rw [hU]; exact (Below.refl _ _).alloc (Nat.le_refl _) _
  have HJU := hidC (hj.kept hbU)
  obtain ⟨cs, hcs⟩ : ∃ cs : Array Value, cs = #[.int .i64 6, .slice oa ln oc, .int .i64 m, .int .i64 k1, .int .i64 k2] := ⟨_, rfl⟩
  have HXU : Hid (BXp g cs U) := by rw [hU, hg, hcs]; exact heap_alloc_new _ _ rfl
  have HBU : Hid (Below n0 wr U) := hbU.mono hj.n0s
  have HPl := hidC (hj.pl hs)
  have HS := hidC hs
  have HXc : Hid (∀ W, BXp g cs W → W.cell? ⟨g, 0, none⟩ = some (.int .i64 6) ∧ W.cell? ⟨g, 3, none⟩ = some (.int .i64 k1) ∧ W.cell? ⟨g, 4, none⟩ = some (.int .i64 k2)) := fun W hW => by
    unfold BXp at hW
    rw [hcs] at hW
    refine ⟨?_, ?_, ?_⟩ <;> simp [World.cell?, hW]
  have HK := hidC hk
  clear hj hs hbU hcs hk
  obtain ⟨x0, x3, x4⟩ := HXc.out U HXU.out
  obtain ⟨p0, p1, _⟩ := HJU.out.cells
  go_enter Tryz.func6, Tryz.ntmps6
  have HKy := hidC (fun W (hW : PJ n0 P B Mp Mc Mn R cap cnt st sd nw av pv rv W) => keysB_any W B Mp Mc Mn cap st.la st.fl st.pins st.all nw hW.ba)
  have HKr := hidC (fun W (hW : PJ n0 P B Mp Mc Mn R cap cnt st sd nw av pv rv W) => rkeys_any W n0 R cap sd.la sd.fl av pv sd.all sd.pins hW.rb HPl.out.2.1 HPl.out.2.2.2.2)
  obtain ⟨LL, hLL⟩ : ∃ LL : List K, LL = sortK nw := ⟨_, rfl⟩
  have HLs : Hid (sortK (sd.all.map Prod.fst) = LL) := by
    show _ = _
    rw [hLL]
    refine rise_unique (sortK_rise (fun k hk => ?_)) (sortK_rise HJU.out.ba.nwk) (fun k => ?_)
    · obtain ⟨v, hv, rfl⟩ := List.mem_map.1 hk
      exact HPl.out.2.2.2.2 v hv
    · rw [sortK_mem, sortK_mem, HJU.out.ba.nwa, HS.out.al]
      exact ⟨fun h => by obtain ⟨v, hv, e⟩ := List.mem_map.1 h; exact ⟨v, hv, e⟩, fun ⟨v, hv, e⟩ => List.mem_map.2 ⟨v, hv, e⟩⟩
  have HLl : Hid (LL.length ≤ 8796093022208) := by
    show _ ≤ _
    rw [hLL]
    have h1 : (sortK nw).length ≤ nw.length := by
      have hr := sortK_rise HJU.out.ba.nwk
      have hnS : (sortK nw).Nodup := hr.2.imp (fun {a b} hab e => by subst e; rw [lt_irrefl] at hab; cases hab)
      exact nodup_len (sortK nw) nw hnS (fun x hx => (sortK_mem nw x).1 hx)
    have := HJU.out.ba.nwl
    omega
  have HLL := hidC hLL
  rw [HLs.out] at HKr
  clear hLL HLs
  go_upto_region 22 with fail
  rw [← hU, ← hg]
  clear hU hg
  go_wp2_with fail
  clear x0 x3 x4 p0 p1
  refine (HKy.out U HJU.out).mono ?_
  rintro e W3 ⟨v3, rfl, ho3, _, hb3⟩
  rw [← HLL.out] at ho3
  clear HLL
  obtain ⟨la, lm, lc, rfl, hlm⟩ := rowOpenD ho3
  have HJ3 := hidC (HJU.out.kept hb3)
  have HB3 : Hid (Below n0 wr W3) := HBU.out.trans (hb3.mono HJU.out.n0s)
  have HL3 := hidC ho3
  have HLe := hidC hlm
  clear ho3 hb3 hlm HKy
  obtain ⟨q0, q1, _⟩ := HJ3.out.cells
  go_wp2_with fail
  clear q0 q1
  refine (HKr.out W3 HJ3.out).mono ?_
  rintro e W4 ⟨ma, mm, mc, rfl, ho4, hb4⟩
  obtain ⟨ma', mm', mc', e4, hmm⟩ := rowOpenD ho4
  simp only [Value.slice.injEq] at e4
  have hmm2 : mm = lm := by rw [HLe.out, e4.2.1]; exact hmm
  subst hmm2
  have HJ4 := hidC (HJ3.out.kept hb4)
  have HB4 : Hid (Below n0 wr W4) := HB3.out.trans (hb4.mono HJ3.out.n0s)
  have HL4 : Hid (W4.ownsRow U.heap.size 43 2 (.slice la mm lc) LL.length (cks LL)) := rowSame HL3.out (fun g hg => hb4.block g (World.ownsRow.lt HL3.out g hg).2)
  have HM4 : Hid (W4.ownsRow W3.heap.size 43 2 (.slice ma mm mc) LL.length (cks LL)) := ho4
  clear ho4 hb4 e4 hmm HKr HL3 HJ3 HB3 HLe
  generalize hlmE : mm = lm at *
  clear hlmE
  obtain ⟨_, _, y2, y3, y4, y5, y6, y7⟩ := HJ4.out.cells
  obtain ⟨xA, hxA⟩ : ∃ xA, rv 2 = xA := ⟨_, rfl⟩
  obtain ⟨xB, hxB⟩ : ∃ xB, rv 3 = xB := ⟨_, rfl⟩
  rw [hxA] at y2
  rw [hxB] at y3
  have HA1 := hidC (HJ4.out.note 2 (by omega) (by omega) 36 51 rfl rfl la lm lc (by omega) xA hxA W4.heap.size rfl)
  have HA2 : Hid (∀ (w1 : World) (v1 : Value) rv', rv' 3 = xB → PJ n0 P B Mp Mc Mn R cap (cnt + 1) st sd nw av pv rv' (w1.setCell ⟨P, 2, none⟩ v1) → _) := fun w1 v1 rv' he hW => hW.note 3 (by omega) (by omega) 36 51 rfl rfl ma lm mc (by omega) xB he w1.heap.size (by simp)
  have HXAB := hidC (And.intro hxA hxB)
  clear hxA hxB
  go_wp2_with (first
    | (at_builtin; with_reducible refine wpL_appI rfl _ _ 36 rfl xB (.slice (some ⟨w1.heap.size, 0, none⟩) 1 1) rfl rfl HA3.out ?_; rintro v2 w2 ⟨⟨a2, m2, c2, rfl⟩, hc2, hf2, HN2⟩; have hd2 := hc2 3 (by omega) (by omega); rw [he1] at hd2)
    | (at_builtin; with_reducible refine wpL_appI rfl _ _ 36 rfl xA (.slice (some ⟨W4.heap.size, 0, none⟩) 1 1) rfl rfl HA1.out ?_; rintro v1 w1 ⟨⟨a1, m1, c1, rfl⟩, hc1, hf1, HN1⟩; have hd1 := hc1 2 (by omega) (by omega); have hd3 := hc1 3 (by omega) (by omega); rw [HXAB.out.1] at hd1; rw [HXAB.out.2] at hd3; obtain ⟨rv1, hr1, hJ1⟩ := HN1.out.1; have HJ1 := hidC hJ1; have he1 : rv1 3 = xB := (hr1 3 (by omega)).trans HXAB.out.2; have HA3 := hidC (HA2.out w1 _ rv1 he1 hJ1); clear hJ1 hc1 hr1))
  have HLm : Hid (KeysAt (w2.setCell ⟨P, 3, none⟩ (.slice a2 m2 c2)) la LL ∧ KeysAt (w2.setCell ⟨P, 3, none⟩ (.slice a2 m2 c2)) ma LL ∧ lm = LL.length) := by
    have hk : ∀ (k : Nat) (cs : Array Value) (T' : TypeId) (z : Nat × Nat), W4.heap[k]? = some (.cells cs T' z) → T' = 43 → (w2.setCell ⟨P, 3, none⟩ (.slice a2 m2 c2)).heap[k]? = W4.heap[k]? := fun k cs T' z hk hT => by
      have h1 := HN1.out.2.2 k cs T' z hk (by rw [hT]; decide) (by rw [hT]; decide)
      have h2 := HN2.out.2.2 k cs T' z (h1.trans hk) (by rw [hT]; decide) (by rw [hT]; decide)
      exact h2.trans h1
    have hl := rowKept HL4.out hk
    have hm := rowKept HM4.out hk
    obtain ⟨_, ql, el, hkl⟩ := row_at hl
    obtain ⟨_, qm, em, hkm⟩ := row_at hm
    simp only [Value.slice.injEq] at el em
    exact ⟨by rw [el.1]; exact hkl, by rw [em.1]; exact hkm, el.2.1⟩
  have HZ : Hid (∀ q, StP n0 P B Mp Mc Mn R cap cnt wr (.returned (.bool true)) ((w2.setCell ⟨P, 3, none⟩ (.slice a2 m2 c2)).drewN q)) := fun q => by
    obtain ⟨rv2, _, hJ2⟩ := HN2.out.1
    have hb := HB4.out.trans (HN1.out.2.1.trans HN2.out.2.1)
    exact ⟨rfl, ⟨st, sd, HS.out, nw, av, pv, rv2, hJ2.kept (drew_below _ q)⟩, hb.trans ((drew_below _ q).mono hJ2.n0s)⟩
  clear HA1 HA2 HA3 HN1 HN2 HJ1 hf1 hc2 hf2 hd1 hd2 hd3 he1 y2 y3 y4 y5 y6 y7
  generalize w2.setCell ⟨P, 3, none⟩ (.slice a2 m2 c2) = W6 at *
  refine (sameKeys_eq W6 la ma lm lc mc LL HLm.out.1 HLm.out.2.1 HLm.out.2.2 (by rw [HLm.out.2.2]; exact HLl.out)).mono ?_
  rintro e W7 ⟨rfl, q, hW7⟩
  subst hW7
  have HZq := hidC (HZ.out q)
  clear HZ
  go_wp2
  go_ret
  exact HZq.out
end Go.Proofs.YtbmohlkcmhhpgaaGreat
/-
  step: Pins.
-/
namespace Go.Proofs.YtbmohlkcmhhpgaaGreat
open Go.RowKit Go.Sort

set_option maxHeartbeats 4000000 in
set_option maxRecDepth 100000 in
theorem step5_any (n0 P B Mp Mc Mn R : Nat) (cap : Int) (cnt : Nat) (st sd : Bs) (nw : List K) (av pv : Value) (rv : Nat → Value) (wr : World) (hj : PJ n0 P B Mp Mc Mn R cap cnt st sd nw av pv rv wr) (hs : Syn st sd) (hct : cnt ≤ 900000) (oa : Option Addr) (ln oc : Nat) (m k1 k2 : Int) (hk : KIn (k1, k2)) :
    Calls Tryz.prog 6 #[ptr P, .agg #[.int .i64 5, .slice oa ln oc, .int .i64 m, .int .i64 k1, .int .i64 k2]] wr fun e w' => StP n0 P B Mp Mc Mn R cap cnt wr e w' := by
  obtain ⟨U, hU⟩ : ∃ U, U = wr.alloc (.cells #[.int .i64 5, .slice oa ln oc, .int .i64 m, .int .i64 k1, .int .i64 k2] 45) := ⟨_, rfl⟩
  obtain ⟨g, hg⟩ : ∃ g, g = wr.heap.size := ⟨_, rfl⟩
  have hbU : Below wr.heap.size wr U := by rw [hU]; exact (Below.refl _ _).alloc (Nat.le_refl _) _
  have HJU := hidC (hj.kept hbU)
  obtain ⟨cs, hcs⟩ : ∃ cs : Array Value, cs = #[.int .i64 5, .slice oa ln oc, .int .i64 m, .int .i64 k1, .int .i64 k2] := ⟨_, rfl⟩
  have HXU : Hid (BXp g cs U) := by rw [hU, hg, hcs]; exact heap_alloc_new _ _ rfl
  have HBU : Hid (Below n0 wr U) := hbU.mono hj.n0s
  have HPl := hidC (hj.pl hs)
  have HS := hidC hs
  have HXc : Hid (∀ W, BXp g cs W → W.cell? ⟨g, 0, none⟩ = some (.int .i64 5) ∧ W.cell? ⟨g, 3, none⟩ = some (.int .i64 k1) ∧ W.cell? ⟨g, 4, none⟩ = some (.int .i64 k2)) := fun W hW => by
    unfold BXp at hW
    rw [hcs] at hW
    refine ⟨?_, ?_, ?_⟩ <;> simp [World.cell?, hW]
  have HK := hidC hk
  clear hj hs hbU hcs hk
  obtain ⟨x0, x3, x4⟩ := HXc.out U HXU.out
  obtain ⟨p0, p1, _⟩ := HJU.out.cells
  go_enter Tryz.func6, Tryz.ntmps6
  have HPn := hidC (fun W (hW : PJ n0 P B Mp Mc Mn R cap cnt st sd nw av pv rv W) => pins_any W B Mp Mc Mn cap st.la st.fl st.pins st.all nw hW.ba)
  go_upto_region 15 with fail
  rw [← hU, ← hg]
  clear hU hg
  go_wp2_with fail
  refine (HPn.out U HJU.out).mono ?_
  rintro e W3 ⟨v3, d3, rfl, hd1, hd2, ho3, hb3⟩
  obtain ⟨LL, hLL⟩ : ∃ LL : List K, LL = sd.pins := ⟨_, rfl⟩
  have hde : d3 = sd.pins.map Prod.fst := rise_ints hd1 HS.out.ri (fun x => by rw [hd2.mem_iff, fpn_mem, fpn_mem, HS.out.pn])
  rw [hde, pcs_cks, pnl_doc HS.out.pn HS.out.ri, ← hLL, List.length_map] at ho3
  obtain ⟨la, lm, lc, rfl, hlm⟩ := rowOpenD ho3
  have HJ3 := hidC (HJU.out.kept hb3)
  have HB3 : Hid (Below n0 wr W3) := HBU.out.trans (hb3.mono HJU.out.n0s)
  have HL3 : Hid (W3.ownsRow U.heap.size 92 2 (.slice la lm lc) LL.length (cks LL)) := by rw [hLL] at ho3 ⊢; exact ho3
  have HLe := hidC (And.intro hLL hlm)
  have HLl : Hid (LL.length ≤ 8796093022208) := by show _ ≤ _; rw [hLL]; have := HPl.out.1; omega
  clear hde ho3 hb3 hd1 hd2 hlm hLL
  obtain ⟨q0, q1, _⟩ := HJ3.out.cells
  obtain ⟨pa, pn, pc, hpv, hpn⟩ := rowOpenD HJ3.out.rb.rp
  have r4 := HJ3.out.rb.cells.2.2.2.2
  rw [hpv] at r4
  have HAp : Hid (∀ ty, ∃ v' w', (Builtin.append_ #[22, 22] ty #[.slice none 0 0, .slice pa pn pc]).run Tryz.prog W3 = .ok v' w' ∧ (∃ ma mc, v' = .slice ma lm mc ∧ Hid (w'.ownsRow W3.heap.size 92 2 (.slice ma lm mc) LL.length (cks LL) ∧ Below W3.heap.size W3 w'))) := fun ty => by
    have h1 := HJ3.out.rb.rp
    rw [hpv] at h1
    obtain ⟨e1, h2, h3, _⟩ := rowCs h1
    obtain ⟨v', w', z1, z2, z3, z4⟩ := akPin.app (w := W3) ty W3.heap.size (.slice none 0 0) 0 [] (World.ownsRow_nil _ _ _ _) W3.heap.size pa pn pc (pns sd.pins) (by rw [e1, pns_length]) h2 h3 (pns_one _) (by have := HPl.out.1; omega) (by omega) (Nat.le_refl _)
    obtain ⟨ma, mm, mc, rfl, hmm⟩ := rowOpenD z2
    rw [Nat.zero_add, List.nil_append, e1] at z2
    have hmm2 : mm = lm := by rw [hmm, HLe.out.2, HLe.out.1, e1, Nat.zero_add]
    subst hmm2
    refine ⟨_, w', z1, ma, mc, rfl, ?_, (Below.refl _ _).grown z3 (Nat.le_refl _) (fun k e => by cases e)⟩
    rw [HLe.out.1, pns_cksD]
    exact z2
  clear hpv hpn x0 x3 x4 p0 p1
  obtain ⟨xA, hxA⟩ : ∃ xA, rv 6 = xA := ⟨_, rfl⟩
  obtain ⟨xB, hxB⟩ : ∃ xB, rv 7 = xB := ⟨_, rfl⟩
  have HXAB := hidC (And.intro hxA hxB)
  have HA2 : Hid (∀ (ma : Option Addr) (mc : Nat) (w1 : World) (v1 : Value) rv', rv' 7 = xB → PJ n0 P B Mp Mc Mn R cap (cnt + 1) st sd nw av pv rv' (w1.setCell ⟨P, 6, none⟩ v1) → _) := fun ma mc w1 v1 rv' he hW => hW.note 7 (by omega) (by omega) 38 22 rfl rfl ma lm mc (by omega) xB he w1.heap.size (by simp)
  clear hxA hxB
  go_wp2_with (first
    | (at_builtin; with_reducible refine wpL_appI rfl _ _ 38 rfl xB (.slice (some ⟨w1.heap.size, 0, none⟩) 1 1) rfl rfl HA3.out ?_; rintro v2 w2 ⟨⟨a2, m2, c2, rfl⟩, hc2, hf2, HN2⟩; have hd2 := hc2 7 (by omega) (by omega); rw [he1] at hd2)
    | (at_builtin; with_reducible refine wpL_appI rfl _ _ 38 rfl xA (.slice (some ⟨W4.heap.size, 0, none⟩) 1 1) rfl rfl HA1.out ?_; rintro v1 w1 ⟨⟨a1, m1, c1, rfl⟩, hc1, hf1, HN1⟩; have hd1 := hc1 6 (by omega) (by omega); have hd3 := hc1 7 (by omega) (by omega); rw [HXAB.out.1] at hd1; rw [HXAB.out.2] at hd3; obtain ⟨rv1, hr1, hJ1⟩ := HN1.out.1; have HJ1 := hidC hJ1; have he1 : rv1 7 = xB := (hr1 7 (by omega)).trans HXAB.out.2; have HA3 := hidC (HA2.out ma mc w1 _ rv1 he1 hJ1); clear hJ1 hc1 hr1)
    | (at_builtin; with_reducible refine wpL_appI rfl _ _ 22 rfl (.slice none 0 0) (.slice pa pn pc) rfl rfl HAp.out ?_; rintro v4 W4 ⟨ma, mc, rfl, HO4⟩; have HJ4 := hidC (HJ3.out.kept HO4.out.2); obtain ⟨y0, y1, y2, y3, y4, y5, y6, y7⟩ := HJ4.out.cells; rw [HXAB.out.1] at y6; rw [HXAB.out.2] at y7; have HA1 := hidC (HJ4.out.note 6 (by omega) (by omega) 38 22 rfl rfl la lm lc (by omega) xA HXAB.out.1 W4.heap.size rfl)))
  have HB4 : Hid (Below n0 wr W4) := HB3.out.trans (HO4.out.2.mono HJ3.out.n0s)
  have HL4 : Hid (W4.ownsRow U.heap.size 92 2 (.slice la lm lc) LL.length (cks LL)) := rowSame HL3.out (fun g hg => HO4.out.2.block g (World.ownsRow.lt HL3.out g hg).2)
  have HM4 := hidC HO4.out.1
  have HLm : Hid (KeysAt (w2.setCell ⟨P, 7, none⟩ (.slice a2 m2 c2)) la LL ∧ KeysAt (w2.setCell ⟨P, 7, none⟩ (.slice a2 m2 c2)) ma LL ∧ lm = LL.length) := by
    have hk : ∀ (k : Nat) (cs : Array Value) (T' : TypeId) (z : Nat × Nat), W4.heap[k]? = some (.cells cs T' z) → T' = 92 → (w2.setCell ⟨P, 7, none⟩ (.slice a2 m2 c2)).heap[k]? = W4.heap[k]? := fun k cs T' z hk hT => by
      have h1 := HN1.out.2.2 k cs T' z hk (by rw [hT]; decide) (by rw [hT]; decide)
      have h2 := HN2.out.2.2 k cs T' z (h1.trans hk) (by rw [hT]; decide) (by rw [hT]; decide)
      exact h2.trans h1
    have hl := rowKept HL4.out hk
    have hm := rowKept HM4.out hk
    obtain ⟨_, ql, el, hkl⟩ := row_at hl
    obtain ⟨_, qm, em, hkm⟩ := row_at hm
    simp only [Value.slice.injEq] at el em
    exact ⟨by rw [el.1]; exact hkl, by rw [em.1]; exact hkm, el.2.1⟩
  have HZ : Hid (∀ q, StP n0 P B Mp Mc Mn R cap cnt wr (.returned (.bool true)) ((w2.setCell ⟨P, 7, none⟩ (.slice a2 m2 c2)).drewN q)) := fun q => by
    obtain ⟨rv2, _, hJ2⟩ := HN2.out.1
    have hb := HB4.out.trans (HN1.out.2.1.trans HN2.out.2.1)
    exact ⟨rfl, ⟨st, sd, HS.out, nw, av, pv, rv2, hJ2.kept (drew_below _ q)⟩, hb.trans ((drew_below _ q).mono hJ2.n0s)⟩
  clear HA1 HA2 HA3 HN1 HN2 HJ1 hf1 hc2 hf2 hd1 hd2 hd3 he1 y2 y3 y4 y5 y6 y7
  generalize w2.setCell ⟨P, 7, none⟩ (.slice a2 m2 c2) = W6 at *
  refine (samePins_eq W6 la ma lm lc mc LL HLm.out.1 HLm.out.2.1 HLm.out.2.2 (by rw [HLm.out.2.2]; exact HLl.out)).mono ?_
  rintro e W7 ⟨rfl, q, hW7⟩
  subst hW7
  have HZq := hidC (HZ.out q)
  clear HZ
  go_wp2
  go_ret
  exact HZq.out
end Go.Proofs.YtbmohlkcmhhpgaaGreat
/-
  step: Versions.
-/
namespace Go.Proofs.YtbmohlkcmhhpgaaGreat
open Go.RowKit Go.Sort

set_option maxHeartbeats 4000000 in
set_option maxRecDepth 100000 in
theorem step7_any (n0 P B Mp Mc Mn R : Nat) (cap : Int) (cnt : Nat) (st sd : Bs) (nw : List K) (av pv : Value) (rv : Nat → Value) (wr : World) (hj : PJ n0 P B Mp Mc Mn R cap cnt st sd nw av pv rv wr) (hs : Syn st sd) (hct : cnt ≤ 900000) (oa : Option Addr) (ln oc : Nat) (m k1 k2 : Int) (hk : KIn (k1, k2)) :
    Calls Tryz.prog 6 #[ptr P, .agg #[.int .i64 7, .slice oa ln oc, .int .i64 m, .int .i64 k1, .int .i64 k2]] wr fun e w' => StP n0 P B Mp Mc Mn R cap cnt wr e w' := by
  obtain ⟨U, hU⟩ : ∃ U, U = wr.alloc (.cells #[.int .i64 7, .slice oa ln oc, .int .i64 m, .int .i64 k1, .int .i64 k2] 45) := ⟨_, rfl⟩
  obtain ⟨g, hg⟩ : ∃ g, g = wr.heap.size := ⟨_, rfl⟩
  have hbU : Below wr.heap.size wr U := by rw [hU]; exact (Below.refl _ _).alloc (Nat.le_refl _) _
  have HJU := hidC (hj.kept hbU)
  obtain ⟨cs, hcs⟩ : ∃ cs : Array Value, cs = #[.int .i64 7, .slice oa ln oc, .int .i64 m, .int .i64 k1, .int .i64 k2] := ⟨_, rfl⟩
  have HXU : Hid (BXp g cs U) := by rw [hU, hg, hcs]; exact heap_alloc_new _ _ rfl
  have HBU : Hid (Below n0 wr U) := hbU.mono hj.n0s
  have HPl := hidC (hj.pl hs)
  have HS := hidC hs
  have HXc : Hid (∀ W, BXp g cs W → W.cell? ⟨g, 0, none⟩ = some (.int .i64 7) ∧ W.cell? ⟨g, 3, none⟩ = some (.int .i64 k1) ∧ W.cell? ⟨g, 4, none⟩ = some (.int .i64 k2)) := fun W hW => by
    unfold BXp at hW
    rw [hcs] at hW
    refine ⟨?_, ?_, ?_⟩ <;> simp [World.cell?, hW]
  have HK := hidC hk
  clear hj hs hbU hcs hk
  obtain ⟨x0, x3, x4⟩ := HXc.out U HXU.out
  obtain ⟨p0, p1, _⟩ := HJU.out.cells
  go_enter Tryz.func6, Tryz.ntmps6
  have HVb : Hid (∀ W, PJ n0 P B Mp Mc Mn R cap cnt st sd nw av pv rv W → Calls Tryz.prog 31 #[ptr B, .agg #[.int .i64 k1, .int .i64 k2]] W fun e w' => ∃ la lm lc, e = .returned (.slice la lm lc) ∧ lm = (plk (ofV (k1, k2) st.all)).length ∧ w'.ownsRow W.heap.size 99 2 (.slice la lm lc) (plk (ofV (k1, k2) st.all)).length (cks (plk (ofV (k1, k2) st.all))) ∧ Below W.heap.size W w') := fun W hW => by
    refine (versions_any W B Mp Mc Mn cap st.la st.fl st.pins st.all nw hW.ba (k1, k2) HK.out).mono ?_
    rintro e w' ⟨v, rfl, ho, hb⟩
    obtain ⟨la, lm, lc, rfl, hlm⟩ := rowOpenD ho
    exact ⟨la, lm, lc, rfl, hlm, ho, hb⟩
  have HVr : Hid (∀ W, PJ n0 P B Mp Mc Mn R cap cnt st sd nw av pv rv W → Calls Tryz.prog 32 #[ptr R, .agg #[.int .i64 k1, .int .i64 k2]] W fun e w' => ∃ ma mc, e = .returned (.slice ma (ofV (k1, k2) sd.all).length mc) ∧ (ofV (k1, k2) sd.all).length = (plk (ofV (k1, k2) sd.all)).length ∧ w'.ownsRow W.heap.size 99 2 (.slice ma (ofV (k1, k2) sd.all).length mc) (ofV (k1, k2) sd.all).length (cks (plk (ofV (k1, k2) sd.all))) ∧ Below W.heap.size W w') := fun W hW => rversions_any W n0 R cap sd.la sd.fl av pv sd.all sd.pins hW.rb HPl.out.2.1 (k1, k2)
  obtain ⟨LL, hLL⟩ : ∃ LL : List K, LL = plk (ofV (k1, k2) sd.all) := ⟨_, rfl⟩
  have HLL := hidC hLL
  have HLl : Hid (LL.length ≤ 8796093022208) := by
    show _ ≤ _
    rw [hLL]
    have h1 : (plk (ofV (k1, k2) sd.all)).length ≤ sd.all.length := by simp [plk]; exact List.length_filter_le _ _
    have := HPl.out.2.1
    omega
  clear hLL
  go_upto_region 28 with fail
  rw [← hU, ← hg]
  clear hU hg
  have HDr : Hid (Below U.heap.size U U.drew) := drew_below U 1
  have HJd := hidC (HJU.out.kept HDr.out)
  have HXd := hidC (HXU.out.kept HDr.out)
  have HBd : Hid (Below n0 wr U.drew) := HBU.out.trans (HDr.out.mono HJU.out.n0s)
  have HC1 := hidC (HVb.out U.drew HJd.out)
  go_region_held3 (fun w' => w'.cell? ⟨P, 0, none⟩ = some (ptr B) ∧ w'.cell? ⟨g, 3, none⟩ = some (.int .i64 k1) ∧ w'.cell? ⟨g, 4, none⟩ = some (.int .i64 k2)) (first | with_reducible exact HQ3.out | go_keep) (first
    | (go_at_call 31; with_reducible refine HC1.out.mono ?_; rintro e W3 ⟨la, lm, lc, rfl, hlm, ho3, hb3⟩; have HJ3 := hidC (HJd.out.kept hb3); have HX3 := hidC (HXd.out.kept hb3); have HB3 := hidC (HBd.out.trans (hb3.mono HJd.out.n0s)); have HO3 := hidC ho3; have HLm3 := hidC hlm; have HQ3 := hidC (And.intro HJ3.out.cells.1 (HXc.out W3 HX3.out).2); clear ho3 hb3 hlm))
  clear x0 x3 x4 p0 p1 HQ3 HC1 HVb
  obtain ⟨_, p1, _⟩ := HJ3.out.cells
  obtain ⟨_, x3, x4⟩ := HXc.out W3 HX3.out
  have HDs : Hid (Below W3.heap.size W3 W3.drew) := drew_below W3 1
  have HJe := hidC (HJ3.out.kept HDs.out)
  have HXe := hidC (HX3.out.kept HDs.out)
  have HBe : Hid (Below n0 wr W3.drew) := HB3.out.trans (HDs.out.mono HJ3.out.n0s)
  have HC2 := hidC (HVr.out W3.drew HJe.out)
  have HLl3 : Hid (lm = (ofV (k1, k2) sd.all).length) := by show _ = _; rw [HLm3.out, HS.out.al]; simp [plk]
  rw [← HLl3.out] at HC2
  go_upto_region 29 with fail
  go_region_held3 (fun w' => w'.cell? ⟨P, 1, none⟩ = some (ptr R) ∧ w'.cell? ⟨g, 3, none⟩ = some (.int .i64 k1) ∧ w'.cell? ⟨g, 4, none⟩ = some (.int .i64 k2)) (first | with_reducible exact HQ4.out | go_keep) (first
    | (go_at_call 32; with_reducible refine HC2.out.mono ?_; rintro e W4 ⟨ma, mc, rfl, hln, ho4, hb4⟩; have HJ4 := hidC (HJe.out.kept hb4); have HB4 := hidC (HBe.out.trans (hb4.mono HJe.out.n0s)); have HO4 := hidC ho4; have HBw := hidC (HDs.out.trans (hb4.mono HDs.out.size)); have HLn := hidC hln; have HQ4 := hidC (And.intro HJ4.out.cells.2.1 (HXc.out W4 (HXe.out.kept hb4)).2); clear ho4 hb4 hln))
  have HL4 : Hid (W4.ownsRow U.drew.heap.size 99 2 (.slice la lm lc) LL.length (cks LL)) := by
    have h1 := HO3.out
    rw [HS.out.al, ← HLL.out] at h1
    exact rowSame h1 (fun g hg => HBw.out.block g (World.ownsRow.lt h1 g hg).2)
  have HM4 : Hid (W4.ownsRow W3.drew.heap.size 99 2 (.slice ma lm mc) LL.length (cks LL)) := by
    have h1 := HO4.out
    have h2 := HLn.out
    rw [← HLL.out] at h1 h2
    rw [← h2]
    exact h1
  clear p1 x3 x4 HQ4 HC2 HVr HO3 HO4 HLn HLm3 HLl3 HBw HDs HJe HXe HDr HJd HXd HJ3 HX3
  obtain ⟨_, _, y2, y3, y4, y5, y6, y7⟩ := HJ4.out.cells
  obtain ⟨xA, hxA⟩ : ∃ xA, rv 4 = xA := ⟨_, rfl⟩
  obtain ⟨xB, hxB⟩ : ∃ xB, rv 5 = xB := ⟨_, rfl⟩
  rw [hxA] at y4
  rw [hxB] at y5
  have HA1 := hidC (HJ4.out.note 4 (by omega) (by omega) 37 78 rfl rfl la lm lc (by omega) xA hxA W4.heap.size rfl)
  have HA2 : Hid (∀ (w1 : World) (v1 : Value) rv', rv' 5 = xB → PJ n0 P B Mp Mc Mn R cap (cnt + 1) st sd nw av pv rv' (w1.setCell ⟨P, 4, none⟩ v1) → _) := fun w1 v1 rv' he hW => hW.note 5 (by omega) (by omega) 37 78 rfl rfl ma lm mc (by omega) xB he w1.heap.size (by simp)
  have HXAB := hidC (And.intro hxA hxB)
  clear hxA hxB
  go_wp2_with (first
    | (at_builtin; with_reducible refine wpL_appI rfl _ _ 37 rfl xB (.slice (some ⟨w1.heap.size, 0, none⟩) 1 1) rfl rfl HA3.out ?_; rintro v2 w2 ⟨⟨a2, m2, c2, rfl⟩, hc2, hf2, HN2⟩; have hd2 := hc2 5 (by omega) (by omega); rw [he1] at hd2)
    | (at_builtin; with_reducible refine wpL_appI rfl _ _ 37 rfl xA (.slice (some ⟨W4.heap.size, 0, none⟩) 1 1) rfl rfl HA1.out ?_; rintro v1 w1 ⟨⟨a1, m1, c1, rfl⟩, hc1, hf1, HN1⟩; have hd1 := hc1 4 (by omega) (by omega); have hd3 := hc1 5 (by omega) (by omega); rw [HXAB.out.1] at hd1; rw [HXAB.out.2] at hd3; obtain ⟨rv1, hr1, hJ1⟩ := HN1.out.1; have HJ1 := hidC hJ1; have he1 : rv1 5 = xB := (hr1 5 (by omega)).trans HXAB.out.2; have HA3 := hidC (HA2.out w1 _ rv1 he1 hJ1); clear hJ1 hc1 hr1))
  have HLm : Hid (KeysAt (w2.setCell ⟨P, 5, none⟩ (.slice a2 m2 c2)) la LL ∧ KeysAt (w2.setCell ⟨P, 5, none⟩ (.slice a2 m2 c2)) ma LL ∧ lm = LL.length) := by
    have hk : ∀ (k : Nat) (cs : Array Value) (T' : TypeId) (z : Nat × Nat), W4.heap[k]? = some (.cells cs T' z) → T' = 99 → (w2.setCell ⟨P, 5, none⟩ (.slice a2 m2 c2)).heap[k]? = W4.heap[k]? := fun k cs T' z hk hT => by
      have h1 := HN1.out.2.2 k cs T' z hk (by rw [hT]; decide) (by rw [hT]; decide)
      have h2 := HN2.out.2.2 k cs T' z (h1.trans hk) (by rw [hT]; decide) (by rw [hT]; decide)
      exact h2.trans h1
    have hl := rowKept HL4.out hk
    have hm := rowKept HM4.out hk
    obtain ⟨_, ql, el, hkl⟩ := row_at hl
    obtain ⟨_, qm, em, hkm⟩ := row_at hm
    simp only [Value.slice.injEq] at el em
    exact ⟨by rw [el.1]; exact hkl, by rw [em.1]; exact hkm, el.2.1⟩
  have HZ : Hid (∀ q, StP n0 P B Mp Mc Mn R cap cnt wr (.returned (.bool true)) ((w2.setCell ⟨P, 5, none⟩ (.slice a2 m2 c2)).drewN q)) := fun q => by
    obtain ⟨rv2, _, hJ2⟩ := HN2.out.1
    have hb := HB4.out.trans (HN1.out.2.1.trans HN2.out.2.1)
    exact ⟨rfl, ⟨st, sd, HS.out, nw, av, pv, rv2, hJ2.kept (drew_below _ q)⟩, hb.trans ((drew_below _ q).mono hJ2.n0s)⟩
  clear HA1 HA2 HA3 HN1 HN2 HJ1 hf1 hc2 hf2 hd1 hd2 hd3 he1 y2 y3 y4 y5 y6 y7
  generalize w2.setCell ⟨P, 5, none⟩ (.slice a2 m2 c2) = W6 at *
  refine (samePlaces_eq W6 la ma lm lc mc LL HLm.out.1 HLm.out.2.1 HLm.out.2.2 (by rw [HLm.out.2.2]; exact HLl.out)).mono ?_
  rintro e W7 ⟨rfl, q, hW7⟩
  subst hW7
  have HZq := hidC (HZ.out q)
  clear HZ
  go_wp2
  go_ret
  exact HZq.out
end Go.Proofs.YtbmohlkcmhhpgaaGreat
/-
  A SCRIPT WITH ONE CALL MORE; THE PARTS OF A MADE.
-/
namespace Go.Proofs.YtbmohlkcmhhpgaaGreat
open Go.RowKit Go.Sort

def ocs : List Oc → List Value
  | [] => []
  | o :: l => .int .i64 o.kind :: .slice o.a o.L.length o.c :: .int .i64 o.m :: .int .i64 o.k.1 :: .int .i64 o.k.2 :: ocs l
theorem ocs_append : ∀ A C : List Oc, ocs (A ++ C) = ocs A ++ ocs C
  | [], _ => rfl
  | x :: A, C => by simp only [List.cons_append, ocs, ocs_append A C]
theorem ocs_length : ∀ l : List Oc, (ocs l).length = l.length * 5
  | [] => rfl
  | x :: l => by simp only [ocs, List.length_cons, ocs_length l]; omega
theorem ocs_one : ∀ (l : List Oc), ∀ v ∈ ocs l, v.oneCell' = true
  | [] => by simp [ocs]
  | x :: l => by
    intro v hv
    simp only [ocs, List.mem_cons] at hv
    rcases hv with rfl | rfl | rfl | rfl | rfl | h
    · rfl
    · rfl
    · rfl
    · rfl
    · rfl
    · exact ocs_one l v h
theorem ocs_at : ∀ (l : List Oc) (i : Nat) (h : i < l.length), (ocs l)[i * 5]? = some (.int .i64 l[i].kind) ∧ (ocs l)[i * 5 + 1]? = some (.slice l[i].a l[i].L.length l[i].c) ∧ (ocs l)[i * 5 + 2]? = some (.int .i64 l[i].m) ∧ (ocs l)[i * 5 + 3]? = some (.int .i64 l[i].k.1) ∧ (ocs l)[i * 5 + 4]? = some (.int .i64 l[i].k.2)
  | [], i, h => by simp at h
  | x :: l, 0, _ => by simp [ocs]
  | x :: l, i + 1, h => by
    have := ocs_at l i (by simp at h; omega)
    rw [show (i + 1) * 5 = i * 5 + 1 + 1 + 1 + 1 + 1 by omega]
    simpa [ocs] using this
theorem ocs_idx {l : List Oc} {j : Nat} {u : Value} (h : (ocs l)[j]? = some u) : ∃ i m, ∃ _ : i < l.length, j = i * 5 + m ∧ m < 5 := by
  have hj : j < l.length * 5 := by rw [← ocs_length]; exact (List.getElem?_eq_some_iff.1 h).1
  exact ⟨j / 5, j % 5, by omega, by omega, by omega⟩
/-- a script's cells -/
theorem OpsAt.cs {G : Nat → Prop} {w : World} {ao : Option Addr} {os : List Oc} (h : OpsAt G w ao os) : CsAt w.heap.size w ao (ocs os) := fun j u hu => by
  obtain ⟨i, m, hi, rfl, hm⟩ := ocs_idx hu
  obtain ⟨b, off, h1, h2⟩ := h i hi
  obtain ⟨e0, e1, e2, e3, e4⟩ := ocs_at os i hi
  refine ⟨b, off, h1, h2.lt, ?_⟩
  have hc : ∀ n x, (ocs os)[i * 5 + n]? = some x → m = n → w.cell? ⟨b, off + i * 5 + n, none⟩ = some x → w.cell? ⟨b, off + (i * 5 + m), none⟩ = some u := fun n x hx hmn hc => by
    subst hmn
    rw [hx] at hu
    cases hu
    rw [← Nat.add_assoc]
    exact hc
  rcases (by omega : m = 0 ∨ m = 1 ∨ m = 2 ∨ m = 3 ∨ m = 4) with hm | hm | hm | hm | hm
  · exact hc 0 _ e0 hm h2.c0
  · exact hc 1 _ e1 hm h2.c1
  · exact hc 2 _ e2 hm h2.c2
  · exact hc 3 _ e3 hm h2.c3
  · exact hc 4 _ e4 hm h2.c4
/-- append of a slice whose cells lie anywhere -/
theorem AKd.app2 {TS TE : TypeId} {sz bt : Nat} {z : Value} (H : AKd TS TE sz bt z) {w : World} (ty : TypeId) (base : Nat) (v : Value) (n : Nat) (xs : List Value) (hown : w.ownsRow base TE sz v n xs) (N : Nat) (ao : Option Addr) (m c : Nat) (ys : List Value) (hm : ys.length = m * sz) (hsrc : CsAt N w ao ys) (h0 : ao = none → c = 0) (h1 : ∀ u ∈ ys, u.oneCell' = true) (hlen : n + m ≤ 10000000000000) (hby : (n + m) * bt ≤ 140737488355328) (hbase : base ≤ w.heap.size) :
    ∃ v' w', (Builtin.append_ #[TS, TS] ty #[v, .slice ao m c]).run Tryz.prog w = .ok v' w' ∧ w'.ownsRow base TE sz v' (n + m) (xs ++ ys) ∧ w.grownBy w' v.ownBlock ∧ (v'.ownBlock = v.ownBlock ∨ v'.ownBlock = some w.heap.size) := by
  obtain ⟨i0, hi, hz0, hz1, hz2⟩ := info_parts H.info
  cases ao with
  | none =>
    have hy : ys = [] := by
      cases ys with
      | nil => rfl
      | cons y ys =>
        obtain ⟨_, _, h2, _⟩ := hsrc 0 y rfl
        cases h2
    subst hy
    have hm0 : m = 0 := by
      rcases Nat.eq_zero_or_pos m with h | h
      · exact h
      · have := Nat.mul_pos h H.pos; simp at hm; omega
    subst hm0
    obtain rfl := h0 rfl
    exact ⟨v, w, run_append_owned_none (P := Tryz.prog) (w := w) base TS ty TE i0 sz H.u hi v n xs hown, by simpa using hown, World.grownBy.refl _ _, .inl rfl⟩
  | some ad =>
    obtain ⟨v', w', hr, h2, h3, _, h5⟩ := run_append_own_at (P := Tryz.prog) (w := w) base TS ty TE i0 z sz bt H.u hi hz0 hz1 hz2 H.zs H.pos v n xs hown ad m c ys hm (by
      intro j u hu
      obtain ⟨b, off, e, _, h⟩ := hsrc j u hu
      cases e
      rw [addr_add]
      exact h) h1 (by unfold maxLen; omega) hby hbase
    exact ⟨v', w', hr, h2, h3, h5⟩
theorem akOp : AKd 28 45 5 56 (.agg #[.int .i64 0, .slice none 0 0, .int .i64 0, .int .i64 0, .int .i64 0]) := ⟨Tryz.underlying28, by kernel_rfl, rfl, by omega⟩
/-- a row of one's own is a script -/
theorem OpsAt.own {w : World} {base : Nat} {a : Option Addr} {m c : Nat} {os : List Oc} (h : w.ownsRow base 45 5 (.slice a m c) os.length (ocs os)) (hw : ∀ o ∈ os, RWs (fun _ => False) w o.a o.L ∧ o.L.length ≤ 140737488351232 ∧ ∀ s ∈ o.L, s.length ≤ 8796093022208) : OpsAt (fun _ => False) w a os := fun i hi => by
  obtain ⟨_, hc, _, _⟩ := rowCs h
  obtain ⟨e0, e1, e2, e3, e4⟩ := ocs_at os i hi
  obtain ⟨b, off, h1, h2, h3⟩ := hc _ _ e0
  have hcc : ∀ n x, (ocs os)[i * 5 + n]? = some x → w.cell? ⟨b, off + i * 5 + n, none⟩ = some x := fun n x hx => by
    obtain ⟨b', off', e, _, hx'⟩ := hc _ _ hx
    rw [h1] at e
    cases e
    rw [Nat.add_assoc]
    exact hx'
  have hm := hw _ (List.getElem_mem hi)
  exact ⟨b, off, h1, fun h => h, h2, h3, hcc 1 _ e1, hcc 2 _ e2, hcc 3 _ e3, hcc 4 _ e4, hm.1, hm.2.1, hm.2.2⟩
/-- the chains of a snapshot, as parts sees them -/
theorem SnAt.chs {N : Nat} {w : World} {s : Sn} (h : SnAt N w s) (hb : ∀ c ∈ s.chs, c.l.length ≤ 140737488351232) : ChsAt w s.ca (s.chs.map (fun c => c.l.length)) := fun i hi => by
  simp only [List.length_map] at hi
  obtain ⟨b, off, h1, _, _, h4⟩ := h.chain hi
  simp only [List.getElem_map]
  exact ⟨b, off, _, _, h1, h4, hb _ (List.getElem_mem hi)⟩
/-- what is known of a Made ahead of parts -/
structure SnIn (s : Sn) : Prop where
  np : s.pins.length ≤ 140737488351232
  nc : s.chs.length ≤ 140737488351232
  nv : ∀ c ∈ s.chs, c.l.length ≤ 140737488351232
  ip : ∀ p ∈ s.pins, In64 p.1 ∧ In64 p.2
  ic : ∀ c ∈ s.chs, KIn c.k ∧ ∀ v ∈ c.l, In64 v.b ∧ In64 v.i
  il : In64 s.la
theorem SnIn.ok {s : Sn} {os : List Oc} {r : Int} (h : SnIn s) (hp : PartsO s.pins.length (s.chs.map (fun c => c.l.length)) os r) (hr : 0 ≤ r) : SnOK s := by
  obtain ⟨h1, h2, h3, _⟩ := hp hr
  exact ⟨h1, by simpa using h2, fun c hc => h3 _ (List.mem_map.2 ⟨c, hc, rfl⟩), h.ip, h.ic, h.il⟩
end Go.Proofs.YtbmohlkcmhhpgaaGreat
/-
  play: A SCRIPT OF CALLS ON BOTH.
-/
namespace Go.Proofs.YtbmohlkcmhhpgaaGreat
open Go.RowKit Go.Sort

theorem step_any (n0 P B Mp Mc Mn R : Nat) (cap : Int) (cnt : Nat) (st sd : Bs) (nw : List K) (av pv : Value) (rv : Nat → Value) (wr : World) (hj : PJ n0 P B Mp Mc Mn R cap cnt st sd nw av pv rv wr) (hs : Syn st sd) (hct : cnt ≤ 900000) (o : Oc) (ho : OcOK o) (hk : KIn o.k) (hw : RWs (fun k => n0 ≤ k) wr o.a o.L) :
    Calls Tryz.prog 6 #[ptr P, opv o] wr fun e w' => StP n0 P B Mp Mc Mn R cap cnt wr e w' := by
  obtain ⟨kind, oa, oc, L, m, k1, k2⟩ := o
  obtain ⟨h1, h2, h3, h4⟩ := ho
  unfold opv
  simp only at h1 h2 h3 h4 hk hw ⊢
  by_cases h : kind = 0
  · subst h
    exact step0_any n0 P B Mp Mc Mn R cap cnt st sd nw av pv rv wr hj hs oa L.length oc L rfl h1 h2 h3 hw m k1 k2
  by_cases h : kind = 1
  · subst h
    exact step1_any n0 P B Mp Mc Mn R cap cnt st sd nw av pv rv wr hj hs oa L.length oc m k1 k2 h4
  by_cases h : kind = 2
  · subst h
    exact step2_any n0 P B Mp Mc Mn R cap cnt st sd nw av pv rv wr hj hs oa L.length oc m k1 k2 h4
  by_cases h : kind = 3
  · subst h
    exact step3_any n0 P B Mp Mc Mn R cap cnt st sd nw av pv rv wr hj hs oa L.length oc m k1 k2 h4
  by_cases h : kind = 5
  · subst h
    exact step5_any n0 P B Mp Mc Mn R cap cnt st sd nw av pv rv wr hj hs hct oa L.length oc m k1 k2 hk
  by_cases h : kind = 6
  · subst h
    exact step6_any n0 P B Mp Mc Mn R cap cnt st sd nw av pv rv wr hj hs hct oa L.length oc m k1 k2 hk
  by_cases h : kind = 7
  · subst h
    exact step7_any n0 P B Mp Mc Mn R cap cnt st sd nw av pv rv wr hj hs hct oa L.length oc m k1 k2 hk
  exact stepN_any n0 P B Mp Mc Mn R cap cnt st sd nw av pv rv wr hj hs kind (by assumption) (by assumption) (by assumption) (by assumption) (by assumption) (by assumption) (by assumption) oa L.length oc m k1 k2
theorem md_rise {cap : Int} {rs : Bool} {s : Sn} (h : mdE cap rs s = 0) : ((mdP rs s).map Prod.fst).Pairwise (· < ·) := by
  cases rs with
  | false => simp [mdP]
  | true =>
    simp only [mdE, if_true, restE] at h
    simp only [mdP, if_true]
    split at h
    · cases h
    · split at h
      · cases h
      · rename_i _ h2
        exact (Classical.not_not.1 h2).2.1.rise
/-- how a pair begins -/
theorem pair_start {w X X5 : World} {P B Mp Mc Mn R : Nat} {cap : Int} {rs : Bool} {s : Sn} {nw : List K} {av pvv : Value} (hb : Below w.heap.size w X) (hE : mdE cap rs s = 0) (hP : X5.heap[P]? = some (.cells #[ptr B, ptr R, .slice none 0 0, .slice none 0 0, .slice none 0 0, .slice none 0 0, .slice none 0 0, .slice none 0 0] 40 (0, 0))) (hPl : X.heap.size ≤ P) (hba : BA X5 B Mp Mc Mn cap (mdL rs s) (mdL rs s) (mdP rs s) (mdA rs s) nw) (hsb : ∀ k, SB B Mp Mc Mn k → X.heap.size ≤ k) (hrb : RB X5 X.heap.size R cap (mdL rs s) (mdL rs s) av pvv (mdA rs s) (mdP rs s)) :
    ∃ st sd, Syn st sd ∧ ∃ nw av pv rv, PJ w.heap.size P B Mp Mc Mn R cap 0 st sd nw av pv rv X5 := by
  have hz := hb.size
  refine ⟨⟨mdL rs s, mdL rs s, mdP rs s, mdA rs s⟩, ⟨mdL rs s, mdL rs s, mdP rs s, mdA rs s⟩, ⟨rfl, rfl, rfl, fun _ => rfl, md_rise hE⟩, nw, av, pvv, fun _ => .slice none 0 0, ⟨hba, ⟨hrb.bk, rowBaseD hrb.ra hz, rowBaseD hrb.rp hz, Nat.le_trans hz hrb.le⟩, hP, fun i _ _ => ⟨[], World.ownsRow_nil _ _ _ _, by simp⟩, (fun i j _ _ _ _ _ g hg => by cases hg), by omega, fun k hk => Nat.le_trans hz (hsb k hk)⟩⟩
def PlPost (w : World) (e : Ending) (w' : World) : Prop := e = .returned (.bool true) ∧ Below w.heap.size w w'
end Go.Proofs.YtbmohlkcmhhpgaaGreat
/-
  FROM THE READING OF A []api.Key ARGUMENT (OR FIELD) TO ITS KEYS.
-/
namespace Go.Proofs.YtbmohlkcmhhpgaaGreat
open Go.ChangeShapes Go.WideShapes Go.ChangeAt Go.RowKit

theorem cellsKey : Tryz.prog.cellsOf 43 = 2 := by kernel_rfl
theorem cellsInt' : Tryz.prog.cellsOf 3 = 1 := by kernel_rfl
theorem cellsInt64' : Tryz.prog.cellsOf 2 = 1 := by kernel_rfl
theorem bytesKey : Tryz.prog.bytesOf 43 = 16 := by kernel_rfl
set_option maxRecDepth 100000 in
/-- one element -/
theorem key_of_trod {H : Type} {enc : TypeId × Value → H} {W : World} {fuel : Nat} {a : Addr} {i : Nat} {cs : List Value} {y : DataW H × List MemPlace} (hc : W.cells? 0 (a.add (i * 2)) 2 = some cs)
    (hf : DataW.trod enc Tryz.prog W 0 (fun _ => true) true fuel 43 cs = some y) :
    ∃ (b off : Nat) (k : K), a.add (i * 2) = ⟨b, off, none⟩ ∧ W.cell? ⟨b, off, none⟩ = some (.int .i64 k.1) ∧ W.cell? ⟨b, off + 1, none⟩ = some (.int .i64 k.2) ∧ In64 k.1 ∧ In64 k.2 := by
  obtain ⟨_, hlen, hcell⟩ := World.cells?_some hc
  obtain ⟨xs, k, hk, hxy, _, hxl, hf⟩ := DataW.trod_struct Tryz.underlying43 hf
  match xs, hxl, cs, hlen with
  | [y0, y1], _, [v0, v1], _ =>
    have g0 := hf 0 _ rfl
    have g1 := hf 1 _ rfl
    simp [cellsInt', cellsInt64'] at g0 g1
    have e0 := hcell 0 (by omega)
    have e1 := hcell 1 (by omega)
    generalize a.add (i * 2) = ad at *
    obtain ⟨b, off, spot⟩ := ad
    have hspot : spot = none := by
      have h1 : (⟨b, off, spot⟩ : Addr).add 0 = ⟨b, off, spot⟩ := by simp [Addr.add]
      rw [h1] at e0
      exact World.cell?_spot e0
    subst hspot
    rw [Go.WideShapes.add_plain] at e0 e1
    obtain ⟨x0, h0, _, wx0⟩ := DataW.trod_int Tryz.underlying3 g0
    obtain ⟨x1, h1, _, wx1⟩ := DataW.trod_int Tryz.underlying2 g1
    simp only [List.cons.injEq, and_true] at h0 h1
    subst h0 h1
    exact ⟨b, off, (x0, x1), rfl, by simpa using e0, by simpa using e1, bounds_i64 wx0, bounds_i64 wx1⟩
theorem cks_of {w : World} {b off : Nat} : ∀ (L : List K) (d : Nat), (∀ i, i < L.length → w.cell? ⟨b, off + (d + i) * 2, none⟩ = some (.int .i64 (kd L i).1) ∧ w.cell? ⟨b, off + (d + i) * 2 + 1, none⟩ = some (.int .i64 (kd L i).2)) →
    ∀ j u, (cks L)[j]? = some u → w.cell? ⟨b, off + d * 2 + j, none⟩ = some u
  | [], _, _, j, u, hu => by simp [cks] at hu
  | k :: L, d, h, 0, u, hu => by
    have := (h 0 (by simp)).1
    simp [cks] at hu
    simpa [kd, hu] using this
  | k :: L, d, h, 1, u, hu => by
    have := (h 0 (by simp)).2
    simp [cks] at hu
    simpa [kd, hu] using this
  | k :: L, d, h, j + 2, u, hu => by
    have ih := cks_of (w := w) (b := b) (off := off) L (d + 1) (fun i hi => by
      have := h (i + 1) (by simp; omega)
      rw [kd_cons_succ, show d + (i + 1) = d + 1 + i by omega] at this
      exact this) j u (by simpa [cks] using hu)
    rw [show off + (d + 1) * 2 + j = off + d * 2 + (j + 2) by omega] at ih
    exact ih
set_option maxRecDepth 100000 in
/-- what the reading of a slice of keys gives -/
theorem keys_of_trod {H : Type} {enc : TypeId × Value → H} {W : World} {fuel : Nat} {cs : List Value} {y : DataW H × List MemPlace}
    (hf : DataW.trod enc Tryz.prog W 0 (fun _ => true) true fuel 51 cs = some y) :
    ∃ (a : Option Addr) (len cap : Nat) (ks : List K), cs = [.slice a len cap] ∧ (len = ks.length ∧ KeysAt W a ks ∧ (a = none → cap = 0) ∧ len ≤ cap ∧ cap ≤ maxLen ∧ ∀ k ∈ ks, In64 k.1 ∧ In64 k.2) ∧
      (len = 0 ∨ ∃ elems spare, y.1 = .slice elems spare ∧ len ≤ elems.length + spare.length) := by
  rcases Deep.open_slice Tryz.underlying51 hf with ⟨rfl, rfl⟩ | ⟨a, len, cap, m, n, D, Pl, rfl, hb, hl, hm, hmm, rfl, hx⟩
  · exact ⟨none, 0, 0, [], rfl, ⟨rfl, .inl rfl, fun _ => rfl, Nat.le_refl _, Nat.zero_le _, by simp⟩, .inl rfl⟩
  · have hle : len ≤ m := by rw [hmm]; simpa using hl
    rw [cellsKey] at hx
    obtain ⟨Z, hZ⟩ := Deep.choose_lt (α := K) (n := len) (p := fun i k => ∃ b off, a.add (i * 2) = ⟨b, off, none⟩ ∧ W.cell? ⟨b, off, none⟩ = some (.int .i64 k.1) ∧ W.cell? ⟨b, off + 1, none⟩ = some (.int .i64 k.2) ∧ In64 k.1 ∧ In64 k.2) (fun i hi => by
      obtain ⟨cs', h1, h2⟩ := hx i (by omega)
      obtain ⟨b, off, k, h3⟩ := key_of_trod h1 h2
      exact ⟨k, b, off, h3⟩)
    refine ⟨some a, len, cap, (List.range len).map Z, rfl, ⟨by simp, ?_, by simp, by simpa using hl, hm, ?_⟩, .inr ⟨_, _, rfl, ?_⟩⟩
    · by_cases h0 : len = 0
      · left; subst h0; rfl
      · right
        obtain ⟨b, off, h1, _⟩ := hZ 0 (by omega)
        have h1' : a = ⟨b, off, none⟩ := by simpa [Addr.add] using h1
        subst h1'
        refine ⟨b, off, rfl, fun j u hu => ?_⟩
        have := cks_of (w := W) (b := b) (off := off) ((List.range len).map Z) 0 (fun i hi => by
          have hi' : i < len := by simpa using hi
          obtain ⟨b', off', h2, h3, h4, _⟩ := hZ i hi'
          rw [Go.WideShapes.add_plain] at h2
          simp only [Addr.mk.injEq, and_true] at h2
          obtain ⟨rfl, rfl⟩ := h2
          have e : kd ((List.range len).map Z) i = Z i := by simp [kd, List.getD_eq_getElem?_getD, hi']
          rw [e, Nat.zero_add]
          exact ⟨h3, h4⟩) j u hu
        simpa using this
    · intro k hk
      obtain ⟨i, hi, rfl⟩ := List.mem_map.1 hk
      obtain ⟨_, _, _, _, _, h5⟩ := hZ i (by simpa using hi)
      exact h5
    · simp
theorem keys_of_sized {H : Type} {ts : List TypeId} {ds : List (DataW H)} {j len : Nat} {d : DataW H} (h : (DataW.weightsEach Tryz.prog ts ds).all (· ≤ reachBytes) = true) (ht : ts[j]? = some 51) (hd : ds[j]? = some d)
    (hx : len = 0 ∨ ∃ elems spare, d = .slice elems spare ∧ len ≤ elems.length + spare.length) : len * 16 ≤ 140737488351232 := by
  rcases hx with h0 | ⟨elems, spare, rfl, hl⟩
  · omega
  · have h1 := sized_slice h ht hd Tryz.underlying51
    rw [bytesKey] at h1
    simp only [reachBytes] at h1
    omega

end Go.Proofs.YtbmohlkcmhhpgaaGreat
/-
  FROM THE READING OF A []preludelaw10.Op ARGUMENT TO ITS CALLS.
-/
namespace Go.Proofs.YtbmohlkcmhhpgaaGreat
open Go.ChangeShapes Go.WideShapes Go.ChangeAt Go.RowKit

theorem cellsSKb : Tryz.prog.cellsOf 51 = 1 := by kernel_rfl
theorem cellsSSKb : Tryz.prog.cellsOf 36 = 1 := by kernel_rfl
theorem bytesSKb : Tryz.prog.bytesOf 51 = 24 := by kernel_rfl
theorem cellsOpb : Tryz.prog.cellsOf 45 = 5 := by kernel_rfl
theorem bytesOpb : Tryz.prog.bytesOf 45 = 56 := by kernel_rfl
theorem cell_ltb {W : World} {b o : Nat} {v : Value} (h : W.cell? ⟨b, o, none⟩ = some v) : b < W.heap.size := by
  by_cases hb : b < W.heap.size
  · exact hb
  · have : W.heap[b]? = none := by simp; omega
    simp [World.cell?, this] at h
theorem wAll_mem {H : Type} {P : Program} {e : TypeId} : ∀ {ds : List (DataW H)} {d : DataW H}, d ∈ ds → ∀ z ∈ d.weights P e, z ∈ DataW.weightsAll P e ds
  | d0 :: ds, d, hd, z, hz => by
    simp only [DataW.weightsAll, List.mem_append]
    rcases List.mem_cons.1 hd with rfl | h
    · exact .inl hz
    · exact .inr (wAll_mem h z hz)
set_option maxRecDepth 100000 in
theorem lists_of_trod {H : Type} {enc : TypeId × Value → H} {W : World} {fuel : Nat} {cs : List Value} {y : DataW H × List MemPlace}
    (hf : DataW.trod enc Tryz.prog W 0 (fun _ => true) true fuel 36 cs = some y) :
    ∃ (a : Option Addr) (len cap : Nat) (L : List (List K)), cs = [.slice a len cap] ∧ len = L.length ∧ (∀ s ∈ L, ∀ k ∈ s, KIn k) ∧ RWs (fun k => W.heap.size ≤ k) W a L ∧
      ((∀ z ∈ y.1.weights Tryz.prog 36, z ≤ reachBytes) → len * 24 ≤ reachBytes ∧ ∀ s ∈ L, s.length * 16 ≤ reachBytes) := by
  rcases Deep.open_slice Tryz.underlying36 hf with ⟨rfl, rfl⟩ | ⟨a, len, cap, m, n, D, Pl, rfl, hb, hl, hm, hmm, rfl, hx⟩
  · exact ⟨none, 0, 0, [], rfl, rfl, by simp, fun i hi => by simp at hi, fun _ => ⟨by simp, by simp⟩⟩
  · have hle : len ≤ m := by rw [hmm]; simpa using hl
    rw [cellsSKb] at hx
    obtain ⟨Z, hZ⟩ := Deep.choose_lt (α := List K × Option Addr × Nat) (n := len) (p := fun i x => ∃ b off, a.add (i * 1) = ⟨b, off, none⟩ ∧ W.cell? ⟨b, off, none⟩ = some (.slice x.2.1 x.1.length x.2.2) ∧ KeysAt W x.2.1 x.1 ∧ (∀ k ∈ x.1, KIn k) ∧ ((∀ z ∈ (D i).weights Tryz.prog 51, z ≤ reachBytes) → x.1.length * 16 ≤ reachBytes)) (fun i hi => by
      obtain ⟨cs', h1, h2⟩ := hx i (by omega)
      obtain ⟨_, hlen, hcell⟩ := World.cells?_some h1
      obtain ⟨sa, sn, sc, ks, rfl, ⟨rfl, hat, _, _, _, hin⟩, hz⟩ := keys_of_trod h2
      have e0 := hcell 0 (by simp)
      generalize a.add (i * 1) = ad at *
      obtain ⟨b, off, spot⟩ := ad
      have hspot : spot = none := by
        have h1 : (⟨b, off, spot⟩ : Addr).add 0 = ⟨b, off, spot⟩ := by simp [Addr.add]
        rw [h1] at e0
        exact World.cell?_spot e0
      subst hspot
      rw [Go.WideShapes.add_plain] at e0
      refine ⟨(ks, sa, sc), b, off, rfl, by simpa using e0, hat, fun k hk => hin k hk, fun hw => ?_⟩
      rcases hz with h0 | ⟨elems, spare, e, hle⟩
      · show ks.length * 16 ≤ _
        rw [h0]
        simp
      · have z2 := hw ((elems.length + spare.length) * 16) (by
          have e' : D i = .slice elems spare := e
          rw [e']
          simp [DataW.weights, Tryz.underlying51, bytesKey])
        show ks.length * 16 ≤ _
        omega)
    have hget : ∀ i (hi : i < ((List.range len).map fun i => (Z i).1).length), i < len ∧ ((List.range len).map fun i => (Z i).1)[i] = (Z i).1 := fun i hi => ⟨by simpa using hi, by simp⟩
    refine ⟨some a, len, cap, (List.range len).map (fun i => (Z i).1), rfl, by simp, fun s hs => ?_, fun i hi => ?_, fun hz => ⟨?_, fun s hs => ?_⟩⟩
    · obtain ⟨i, hi, rfl⟩ := List.mem_map.1 hs
      obtain ⟨_, _, _, _, _, h5, _⟩ := hZ i (by simpa using hi)
      exact h5
    · obtain ⟨hi', e⟩ := hget i hi
      rw [e]
      obtain ⟨b, off, h1, _⟩ := hZ 0 (by omega)
      have h1' : a = ⟨b, off, none⟩ := by simpa [Addr.add] using h1
      subst h1'
      obtain ⟨b', off', h2, h3, h4, _⟩ := hZ i hi'
      rw [Go.WideShapes.add_plain, Nat.mul_one] at h2
      simp only [Addr.mk.injEq, and_true] at h2
      obtain ⟨rfl, rfl⟩ := h2
      have hlt := cell_ltb h3
      refine ⟨b, off, (Z i).2.1, (Z i).2.2, rfl, by omega, hlt, h3, h4, fun ad hne hsa => ?_⟩
      rcases h4 with h0 | ⟨kb, ko, e2, hc⟩
      · exact absurd h0 hne
      · rw [hsa] at e2
        cases e2
        obtain ⟨k, l, hkl⟩ : ∃ k l, (Z i).1 = k :: l := by
          cases hz : (Z i).1 with
          | nil => exact absurd hz hne
          | cons k l => exact ⟨k, l, rfl⟩
        have := hc 0 (.int .i64 k.1) (by rw [hkl]; simp [cks])
        have := cell_ltb this
        exact ⟨by show ¬ W.heap.size ≤ kb; omega, this⟩
    · simp only [DataW.weights, Tryz.underlying36, bytesSKb, List.mem_cons, List.mem_append] at hz
      have := hz _ (.inl rfl)
      simp at this
      omega
    · obtain ⟨i, hi, rfl⟩ := List.mem_map.1 hs
      have hi' : i < len := by simpa using hi
      obtain ⟨_, _, _, _, _, _, h6⟩ := hZ i hi'
      simp only [DataW.weights, Tryz.underlying36, bytesSKb, List.mem_cons, List.mem_append] at hz
      exact h6 (fun z hzz => hz z (.inr (.inl (wAll_mem (ds := (List.range len).map D) (List.mem_map.2 ⟨i, by simpa using hi', rfl⟩) z hzz))))
def SizedO {H : Type} (d : DataW H) : Prop := ∀ z ∈ d.weights Tryz.prog 45, z ≤ reachBytes
def OcB (o : Oc) : Prop := o.L.length * 24 ≤ reachBytes ∧ ∀ s ∈ o.L, s.length * 16 ≤ reachBytes
def OcI (o : Oc) : Prop := (∀ s ∈ o.L, ∀ k ∈ s, KIn k) ∧ In64 o.m ∧ In64 o.kind ∧ KIn o.k
set_option maxRecDepth 100000 in
theorem op_of_trod {H : Type} {enc : TypeId × Value → H} {W : World} {fuel : Nat} {a : Addr} {i : Nat} {cs : List Value} {y : DataW H × List MemPlace} (hc : W.cells? 0 (a.add (i * 5)) 5 = some cs)
    (hf : DataW.trod enc Tryz.prog W 0 (fun _ => true) true fuel 45 cs = some y) :
    ∃ (b off : Nat) (o : Oc), a.add (i * 5) = ⟨b, off, none⟩ ∧ (W.cell? ⟨b, off, none⟩ = some (.int .i64 o.kind) ∧ W.cell? ⟨b, off + 1, none⟩ = some (.slice o.a o.L.length o.c) ∧ W.cell? ⟨b, off + 2, none⟩ = some (.int .i64 o.m) ∧ W.cell? ⟨b, off + 3, none⟩ = some (.int .i64 o.k.1) ∧ W.cell? ⟨b, off + 4, none⟩ = some (.int .i64 o.k.2)) ∧
      RWs (fun k => W.heap.size ≤ k) W o.a o.L ∧ OcI o ∧ (SizedO y.1 → OcB o) := by
  obtain ⟨_, hlen, hcell⟩ := World.cells?_some hc
  obtain ⟨xs, k, hk, rfl, _, hxl, hf⟩ := DataW.trod_struct Tryz.underlying45 hf
  match xs, hxl, cs, hlen with
  | [y0, y1, y2, y3], _, [v0, v1, v2, v3, v4], _ =>
    have g0 := hf 0 _ rfl
    have g1 := hf 1 _ rfl
    have g2 := hf 2 _ rfl
    have g3 := hf 3 _ rfl
    simp [cellsInt', cellsSSKb, cellsKey] at g0 g1 g2 g3
    generalize a.add (i * 5) = ad at *
    obtain ⟨b, off, spot⟩ := ad
    have hspot : spot = none := by
      have e0 := hcell 0 (by omega)
      have h1 : (⟨b, off, spot⟩ : Addr).add 0 = ⟨b, off, spot⟩ := by simp [Addr.add]
      rw [h1] at e0
      exact World.cell?_spot e0
    subst hspot
    obtain ⟨x0, h0, _, wx0⟩ := DataW.trod_int Tryz.underlying3 g0
    obtain ⟨wa, wn, wc, L, hW, hl, hin, hrw, hz⟩ := lists_of_trod g1
    obtain ⟨x2, h2, _, wx2⟩ := DataW.trod_int Tryz.underlying3 g2
    obtain ⟨zs, k', hk', _, _, hzl, hf3⟩ := DataW.trod_struct Tryz.underlying43 g3
    match zs, hzl with
    | [z0, z1], _ =>
      have f0 := hf3 0 _ rfl
      have f1 := hf3 1 _ rfl
      simp [cellsInt', cellsInt64'] at f0 f1
      obtain ⟨x3, h3, _, wx3⟩ := DataW.trod_int Tryz.underlying3 f0
      obtain ⟨x4, h4, _, wx4⟩ := DataW.trod_int Tryz.underlying2 f1
      simp only [List.cons.injEq, and_true] at h0 hW h2 h3 h4
      subst h0 hW h2 h3 h4 hl
      have e : ∀ j u, ([.int .i64 x0, .slice wa L.length wc, .int .i64 x2, .int .i64 x3, .int .i64 x4] : List Value)[j]? = some u → W.cell? ⟨b, off + j, none⟩ = some u := fun j u hu => by
        have hj : j < 5 := (List.getElem?_eq_some_iff.1 hu).1
        have := hcell j hj
        rw [Go.WideShapes.add_plain] at this
        rw [this]
        exact hu
      refine ⟨b, off, ⟨x0, wa, wc, L, x2, (x3, x4)⟩, rfl, ⟨e 0 _ rfl, e 1 _ rfl, e 2 _ rfl, e 3 _ rfl, e 4 _ rfl⟩, hrw, ⟨hin, bounds_i64 wx2, bounds_i64 wx0, bounds_i64 wx3, bounds_i64 wx4⟩, fun hs => ?_⟩
      refine hz (fun z hzz => hs z ?_)
      simp only [DataW.weights, Tryz.underlying45]
      exact DataW.weights_mem_each (j := 1) (t := 36) (d := y1.1) rfl rfl _ hzz
set_option maxRecDepth 100000 in
/-- what the reading of a script gives -/
theorem ops_of_trod {H : Type} {enc : TypeId × Value → H} {W : World} {fuel : Nat} {cs : List Value} {y : DataW H × List MemPlace}
    (hf : DataW.trod enc Tryz.prog W 0 (fun _ => true) true fuel 28 cs = some y) :
    ∃ (a : Option Addr) (len cap : Nat) (os : List Oc), cs = [.slice a len cap] ∧ len = os.length ∧ (∀ o ∈ os, OcI o) ∧
      ((∀ z ∈ y.1.weights Tryz.prog 28, z ≤ reachBytes) → OpsAt (fun k => W.heap.size ≤ k) W a os ∧ len * 56 ≤ reachBytes) := by
  rcases Deep.open_slice Tryz.underlying28 hf with ⟨rfl, rfl⟩ | ⟨a, len, cap, m, n, D, Pl, rfl, hb, hl, hm, hmm, rfl, hx⟩
  · exact ⟨none, 0, 0, [], rfl, rfl, by simp, fun _ => ⟨fun i hi => by simp at hi, by simp⟩⟩
  · have hle : len ≤ m := by rw [hmm]; simpa using hl
    have hI : Inhabited Oc := ⟨⟨0, none, 0, [], 0, (0, 0)⟩⟩
    rw [cellsOpb] at hx
    obtain ⟨Z, hZ⟩ := Deep.choose_lt (α := Oc) (n := len) (p := fun i o => ∃ b off, a.add (i * 5) = ⟨b, off, none⟩ ∧ (W.cell? ⟨b, off, none⟩ = some (.int .i64 o.kind) ∧ W.cell? ⟨b, off + 1, none⟩ = some (.slice o.a o.L.length o.c) ∧ W.cell? ⟨b, off + 2, none⟩ = some (.int .i64 o.m) ∧ W.cell? ⟨b, off + 3, none⟩ = some (.int .i64 o.k.1) ∧ W.cell? ⟨b, off + 4, none⟩ = some (.int .i64 o.k.2)) ∧ RWs (fun k => W.heap.size ≤ k) W o.a o.L ∧ OcI o ∧ (SizedO (D i) → OcB o)) (fun i hi => by
      obtain ⟨cs', h1, h2⟩ := hx i (by omega)
      obtain ⟨b, off, o, h3⟩ := op_of_trod h1 h2
      exact ⟨o, b, off, h3⟩)
    refine ⟨some a, len, cap, (List.range len).map Z, rfl, by simp, fun o ho => ?_, fun hz => ?_⟩
    · obtain ⟨i, hi, rfl⟩ := List.mem_map.1 ho
      obtain ⟨_, _, _, _, _, h5, _⟩ := hZ i (by simpa using hi)
      exact h5
    · simp only [DataW.weights, Tryz.underlying28, bytesOpb, List.mem_cons, List.mem_append] at hz
      refine ⟨fun i hi => ?_, ?_⟩
      · have hi' : i < len := by simpa using hi
        obtain ⟨b, off, h1, _⟩ := hZ 0 (by omega)
        have h1' : a = ⟨b, off, none⟩ := by simpa [Addr.add] using h1
        subst h1'
        obtain ⟨b', off', h2, ⟨d0, d1, d2, d3, d4⟩, h4, _, h6⟩ := hZ i hi'
        rw [Go.WideShapes.add_plain] at h2
        simp only [Addr.mk.injEq, and_true] at h2
        obtain ⟨rfl, rfl⟩ := h2
        have hB := h6 (fun z hzz => hz z (.inr (.inl (wAll_mem (ds := (List.range len).map D) (List.mem_map.2 ⟨i, by simpa using hi', rfl⟩) z hzz))))
        have e : ((List.range len).map Z)[i] = Z i := by simp
        rw [e]
        have hlt := cell_ltb d0
        unfold OcB at hB
        simp only [reachBytes] at hB
        exact ⟨b, off, rfl, by omega, hlt, d0, d1, d2, d3, d4, h4, by omega, fun s hs => by have := hB.2 s hs; omega⟩
      · have := hz _ (.inl rfl)
        simp at this
        omega
end Go.Proofs.YtbmohlkcmhhpgaaGreat
/-
  FROM THE READING OF A preludelaw10.Made ARGUMENT TO ITS SNAPSHOT.
-/
namespace Go.Proofs.YtbmohlkcmhhpgaaGreat
open Go.ChangeShapes Go.WideShapes Go.ChangeAt Go.RowKit

/-- the cells of a list of parts of one length -/
theorem flat_at {α : Type} (f : α → List Value) {sz : Nat} (hl : ∀ x, (f x).length = sz) : ∀ (xs : List α) (j : Nat) (u : Value), (xs.flatMap f)[j]? = some u → ∃ i m, ∃ hi : i < xs.length, j = i * sz + m ∧ m < sz ∧ (f xs[i])[m]? = some u
  | [], j, u, h => by simp at h
  | x :: xs, j, u, h => by
    rw [List.flatMap_cons] at h
    by_cases hj : j < sz
    · rw [List.getElem?_append_left (by rw [hl]; exact hj)] at h
      exact ⟨0, j, by simp, by omega, hj, by simpa using h⟩
    · rw [List.getElem?_append_right (by rw [hl]; omega), hl] at h
      obtain ⟨i, m, hi, e, hm, hu⟩ := flat_at f hl xs (j - sz) u h
      refine ⟨i + 1, m, by simp; omega, ?_, hm, by simpa using hu⟩
      rw [Nat.add_mul]
      omega
set_option maxRecDepth 100000 in
/-- a slice of parts -/
theorem slice_of_trod {H : Type} {enc : TypeId × Value → H} {W : World} {TS TE : TypeId} {sz bt : Nat} {α : Type} [Inhabited α] (f : α → List Value) (hl : ∀ x, (f x).length = sz) (h0 : 0 < sz) (P : α → Prop) (Q : α → Prop)
    (hu : Tryz.prog.underlying TS = some (.slice TE)) (hc : Tryz.prog.cellsOf TE = sz) (hbt : Tryz.prog.bytesOf TE = bt)
    (hel : ∀ fuel cs (y : DataW H × List MemPlace), cs.length = sz → DataW.trod enc Tryz.prog W 0 (fun _ => true) true fuel TE cs = some y → ∃ x, cs = f x ∧ P x ∧ ((∀ z ∈ y.1.weights Tryz.prog TE, z ≤ reachBytes) → Q x))
    {fuel : Nat} {cs : List Value} {y : DataW H × List MemPlace} (hf : DataW.trod enc Tryz.prog W 0 (fun _ => true) true fuel TS cs = some y) :
    ∃ (a : Option Addr) (len cap : Nat) (xs : List α), cs = [.slice a len cap] ∧ len = xs.length ∧ (a = none → cap = 0) ∧ CsAt W.heap.size W a (xs.flatMap f) ∧ (∀ x ∈ xs, P x) ∧
      ((∀ z ∈ y.1.weights Tryz.prog TS, z ≤ reachBytes) → len * bt ≤ reachBytes ∧ ∀ x ∈ xs, Q x) := by
  rcases Deep.open_slice hu hf with ⟨rfl, rfl⟩ | ⟨a, len, cap, m, n, D, Pl, rfl, hb, hle0, hm, hmm, rfl, hx⟩
  · exact ⟨none, 0, 0, [], rfl, rfl, fun _ => rfl, fun j u h => by simp at h, by simp, fun _ => ⟨by simp, by simp⟩⟩
  · have hle : len ≤ m := by rw [hmm]; simpa using hle0
    rw [hc] at hx
    obtain ⟨Z, hZ⟩ := Deep.choose_lt (α := α) (n := len) (p := fun i x => (∃ b off, a.add (i * sz) = ⟨b, off, none⟩ ∧ ∀ j u, (f x)[j]? = some u → W.cell? ⟨b, off + j, none⟩ = some u) ∧ P x ∧ ((∀ z ∈ (D i).weights Tryz.prog TE, z ≤ reachBytes) → Q x)) (fun i hi => by
      obtain ⟨cs', h1, h2⟩ := hx i (by omega)
      obtain ⟨_, hlen, hcell⟩ := World.cells?_some h1
      obtain ⟨x, rfl, hP, hQ⟩ := hel _ _ _ hlen h2
      refine ⟨x, ?_, hP, hQ⟩
      generalize a.add (i * sz) = ad at *
      obtain ⟨b, off, spot⟩ := ad
      have hspot : spot = none := by
        have e0 := hcell 0 h0
        have h1 : (⟨b, off, spot⟩ : Addr).add 0 = ⟨b, off, spot⟩ := by simp [Addr.add]
        rw [h1, List.getElem?_eq_getElem (by omega)] at e0
        exact World.cell?_spot e0
      subst hspot
      refine ⟨b, off, rfl, fun j u hu => ?_⟩
      have := hcell j (by rw [← hl x]; exact (List.getElem?_eq_some_iff.1 hu).1)
      rw [Go.WideShapes.add_plain] at this
      rw [this]
      exact hu)
    refine ⟨some a, len, cap, (List.range len).map Z, rfl, by simp, by simp, fun j u hju => ?_, fun x hxm => ?_, fun hz => ⟨?_, fun x hxm => ?_⟩⟩
    · obtain ⟨i, m', hi, rfl, hm', hfu⟩ := flat_at f hl _ _ _ hju
      have hi' : i < len := by simpa using hi
      have e : ((List.range len).map Z)[i] = Z i := by simp
      rw [e] at hfu
      obtain ⟨⟨b, off, h1, _⟩, _⟩ := hZ 0 (by omega)
      have h1' : a = ⟨b, off, none⟩ := by simpa [Addr.add] using h1
      subst h1'
      obtain ⟨⟨b', off', h2, h3⟩, _⟩ := hZ i hi'
      rw [Go.WideShapes.add_plain] at h2
      simp only [Addr.mk.injEq, and_true] at h2
      obtain ⟨rfl, rfl⟩ := h2
      have h4 := h3 _ _ hfu
      exact ⟨b, off, rfl, cell_ltb h4, by rw [← Nat.add_assoc]; exact h4⟩
    · obtain ⟨i, hi, rfl⟩ := List.mem_map.1 hxm
      exact (hZ i (by simpa using hi)).2.1
    · simp only [DataW.weights, hu, hbt, List.mem_cons, List.mem_append] at hz
      have h1 := hz _ (.inl rfl)
      simp only [List.length_map, List.length_range] at h1
      exact Nat.le_trans (Nat.mul_le_mul_right _ (by omega)) h1
    · obtain ⟨i, hi, rfl⟩ := List.mem_map.1 hxm
      have hi' : i < len := by simpa using hi
      simp only [DataW.weights, hu, hbt, List.mem_cons, List.mem_append] at hz
      exact (hZ i hi').2.2 (fun z hzz => hz z (.inr (.inl (wAll_mem (ds := (List.range len).map D) (List.mem_map.2 ⟨i, by simpa using hi', rfl⟩) z hzz))))
theorem cellsPin : Tryz.prog.cellsOf 92 = 2 := by kernel_rfl
theorem bytesPin : Tryz.prog.bytesOf 92 = 16 := by kernel_rfl
theorem cellsStamp : Tryz.prog.cellsOf 96 = 4 := by kernel_rfl
theorem bytesStamp : Tryz.prog.bytesOf 96 = 32 := by kernel_rfl
theorem cellsCell : Tryz.prog.cellsOf 94 = 2 := by kernel_rfl
theorem cellsBool' : Tryz.prog.cellsOf 4 = 1 := by kernel_rfl
theorem cellsChain : Tryz.prog.cellsOf 50 = 3 := by kernel_rfl
theorem bytesChain : Tryz.prog.bytesOf 50 = 40 := by kernel_rfl
theorem cellsSStamp : Tryz.prog.cellsOf 48 = 1 := by kernel_rfl
theorem cellsSPin : Tryz.prog.cellsOf 22 = 1 := by kernel_rfl
theorem cellsSChain : Tryz.prog.cellsOf 23 = 1 := by kernel_rfl
theorem cellsSnap : Tryz.prog.cellsOf 25 = 3 := by kernel_rfl
theorem cellsMade : Tryz.prog.cellsOf 27 = 5 := by kernel_rfl
def pnf (p : Int × Int) : List Value := [.int .i64 p.1, .int .i64 p.2]
def scf (x : Stp) : List Value := [.int .i64 x.b, .int .i64 x.i, .bool x.s, .int .i64 x.v]
def ccf (x : Ch) : List Value := [.int .i64 x.k.1, .int .i64 x.k.2, .slice x.a x.l.length x.c]
theorem pnf_flat : ∀ l : List (Int × Int), l.flatMap pnf = pns l
  | [] => rfl
  | x :: l => by simp [pnf, pns, pnf_flat l]
theorem scf_flat : ∀ l : List Stp, l.flatMap scf = scs l
  | [] => rfl
  | x :: l => by simp [scf, scs, scf_flat l]
theorem ccf_flat : ∀ l : List Ch, l.flatMap ccf = ccs l
  | [] => rfl
  | x :: l => by simp [ccf, ccs, ccf_flat l]
section
variable {H : Type} {enc : TypeId × Value → H} {W : World}
set_option maxRecDepth 100000 in
theorem pins_of_trod {fuel : Nat} {cs : List Value} {y : DataW H × List MemPlace} (hf : DataW.trod enc Tryz.prog W 0 (fun _ => true) true fuel 22 cs = some y) :
    ∃ (a : Option Addr) (len cap : Nat) (xs : List (Int × Int)), cs = [.slice a len cap] ∧ len = xs.length ∧ (a = none → cap = 0) ∧ CsAt W.heap.size W a (pns xs) ∧ (∀ x ∈ xs, In64 x.1 ∧ In64 x.2) ∧
      ((∀ z ∈ y.1.weights Tryz.prog 22, z ≤ reachBytes) → len * 16 ≤ reachBytes) := by
  obtain ⟨a, len, cap, xs, h1, h2, h3, h4, h5, h6⟩ := slice_of_trod pnf (sz := 2) (fun _ => rfl) (by omega) (fun x => In64 x.1 ∧ In64 x.2) (fun _ => True) Tryz.underlying22 cellsPin bytesPin (fun fuel cs y hl hf => by
    obtain ⟨ys, k, hk, hxy, _, hxl, hf⟩ := DataW.trod_struct Tryz.underlying92 hf
    match ys, hxl, cs, hl with
    | [y0, y1], _, [v0, v1], _ =>
      have g0 := hf 0 _ rfl
      have g1 := hf 1 _ rfl
      simp [cellsInt'] at g0 g1
      obtain ⟨x0, h0, _, wx0⟩ := DataW.trod_int Tryz.underlying3 g0
      obtain ⟨x1, h1, _, wx1⟩ := DataW.trod_int Tryz.underlying3 g1
      simp only [List.cons.injEq, and_true] at h0 h1
      subst h0 h1
      exact ⟨(x0, x1), rfl, ⟨bounds_i64 wx0, bounds_i64 wx1⟩, fun _ => trivial⟩) hf
  rw [pnf_flat] at h4
  exact ⟨a, len, cap, xs, h1, h2, h3, h4, h5, fun hz => (h6 hz).1⟩
set_option maxRecDepth 100000 in
theorem stamps_of_trod {fuel : Nat} {cs : List Value} {y : DataW H × List MemPlace} (hf : DataW.trod enc Tryz.prog W 0 (fun _ => true) true fuel 48 cs = some y) :
    ∃ (a : Option Addr) (len cap : Nat) (xs : List Stp), cs = [.slice a len cap] ∧ len = xs.length ∧ (a = none → cap = 0) ∧ CsAt W.heap.size W a (scs xs) ∧ (∀ x ∈ xs, In64 x.b ∧ In64 x.i) ∧
      ((∀ z ∈ y.1.weights Tryz.prog 48, z ≤ reachBytes) → len * 32 ≤ reachBytes) := by
  have hI : Inhabited Stp := ⟨⟨0, 0, false, 0⟩⟩
  obtain ⟨a, len, cap, xs, h1, h2, h3, h4, h5, h6⟩ := slice_of_trod scf (sz := 4) (fun _ => rfl) (by omega) (fun x => In64 x.b ∧ In64 x.i) (fun _ => True) Tryz.underlying48 cellsStamp bytesStamp (fun fuel cs y hl hf => by
    obtain ⟨ys, k, hk, hxy, _, hxl, hf⟩ := DataW.trod_struct Tryz.underlying96 hf
    match ys, hxl, cs, hl with
    | [y0, y1, y2], _, [v0, v1, v2, v3], _ =>
      have g0 := hf 0 _ rfl
      have g1 := hf 1 _ rfl
      have g2 := hf 2 _ rfl
      simp [cellsInt', cellsCell] at g0 g1 g2
      obtain ⟨x0, h0, _, wx0⟩ := DataW.trod_int Tryz.underlying3 g0
      obtain ⟨x1, h1, _, wx1⟩ := DataW.trod_int Tryz.underlying3 g1
      obtain ⟨zs, k', hk', _, _, hzl, hf2⟩ := DataW.trod_struct Tryz.underlying94 g2
      match zs, hzl with
      | [z0, z1], _ =>
        have f0 := hf2 0 _ rfl
        have f1 := hf2 1 _ rfl
        simp [cellsBool', cellsInt64'] at f0 f1
        obtain ⟨x2, h2, _⟩ := DataW.trod_bool Tryz.underlying4 f0
        obtain ⟨x3, h3, _, wx3⟩ := DataW.trod_int Tryz.underlying2 f1
        simp only [List.cons.injEq, and_true] at h0 h1 h2 h3
        subst h0 h1 h2 h3
        exact ⟨⟨x0, x1, x2, x3⟩, rfl, ⟨bounds_i64 wx0, bounds_i64 wx1⟩, fun _ => trivial⟩) hf
  rw [scf_flat] at h4
  exact ⟨a, len, cap, xs, h1, h2, h3, h4, h5, fun hz => (h6 hz).1⟩
set_option maxRecDepth 100000 in
theorem chains_of_trod {fuel : Nat} {cs : List Value} {y : DataW H × List MemPlace} (hf : DataW.trod enc Tryz.prog W 0 (fun _ => true) true fuel 23 cs = some y) :
    ∃ (a : Option Addr) (len cap : Nat) (xs : List Ch), cs = [.slice a len cap] ∧ len = xs.length ∧ (a = none → cap = 0) ∧ CsAt W.heap.size W a (ccs xs) ∧ (∀ x ∈ xs, CsAt W.heap.size W x.a (scs x.l) ∧ (x.a = none → x.c = 0) ∧ KIn x.k ∧ ∀ v ∈ x.l, In64 v.b ∧ In64 v.i) ∧
      ((∀ z ∈ y.1.weights Tryz.prog 23, z ≤ reachBytes) → len * 40 ≤ reachBytes ∧ ∀ x ∈ xs, x.l.length * 32 ≤ reachBytes) := by
  have hI : Inhabited Ch := ⟨⟨(0, 0), none, 0, []⟩⟩
  obtain ⟨a, len, cap, xs, h1, h2, h3, h4, h5, h6⟩ := slice_of_trod ccf (sz := 3) (fun _ => rfl) (by omega) (fun x => CsAt W.heap.size W x.a (scs x.l) ∧ (x.a = none → x.c = 0) ∧ KIn x.k ∧ ∀ v ∈ x.l, In64 v.b ∧ In64 v.i) (fun x => x.l.length * 32 ≤ reachBytes) Tryz.underlying23 cellsChain bytesChain (fun fuel cs y hl hf => by
    obtain ⟨ys, k, hk, hxy, _, hxl, hf⟩ := DataW.trod_struct Tryz.underlying50 hf
    match ys, hxl, cs, hl with
    | [y0, y1], _, [v0, v1, v2], _ =>
      have g0 := hf 0 _ rfl
      have g1 := hf 1 _ rfl
      simp [cellsKey, cellsSStamp] at g0 g1
      obtain ⟨sa, sn, sc, l, hS, hsn, hs0, hsc, hsi, hsz⟩ := stamps_of_trod g1
      obtain ⟨zs, k', hk', _, _, hzl, hf2⟩ := DataW.trod_struct Tryz.underlying43 g0
      match zs, hzl with
      | [z0, z1], _ =>
        have f0 := hf2 0 _ rfl
        have f1 := hf2 1 _ rfl
        simp [cellsInt', cellsInt64'] at f0 f1
        obtain ⟨x0, h0, _, wx0⟩ := DataW.trod_int Tryz.underlying3 f0
        obtain ⟨x1, h1, _, wx1⟩ := DataW.trod_int Tryz.underlying2 f1
        simp only [List.cons.injEq, and_true] at h0 h1 hS
        subst h0 h1 hS hsn
        refine ⟨⟨(x0, x1), sa, sc, l⟩, rfl, ⟨hsc, hs0, ⟨bounds_i64 wx0, bounds_i64 wx1⟩, hsi⟩, fun hz => hsz (fun z hzz => hz z ?_)⟩
        rw [hxy]
        simp only [DataW.weights, Tryz.underlying50]
        exact DataW.weights_mem_each (j := 1) (t := 48) (d := y1.1) rfl rfl _ hzz) hf
  rw [ccf_flat] at h4
  exact ⟨a, len, cap, xs, h1, h2, h3, h4, h5, h6⟩
theorem array5 {a : Array Value} (h : a.size = 5) : ∃ c0 c1 c2 c3 c4, a = #[c0, c1, c2, c3, c4] := by
  match a, h with
  | ⟨[c0, c1, c2, c3, c4]⟩, _ => exact ⟨c0, c1, c2, c3, c4, rfl⟩
set_option maxRecDepth 100000 in
/-- a Made -/
theorem made_of_trod {r : Reach} {b0 : Nat} {v : Value} {d : DataW H} {q : List MemPlace} (hv : Value.okWide Tryz.prog W r b0 27 v)
    (h : DataW.Trod enc Tryz.prog W 0 (fun _ => true) true 27 v d q) :
    ∃ (cap : Int) (rs : Bool) (s : Sn), v = mdv cap rs s ∧ SnAt W.heap.size W s ∧ ((∀ z ∈ d.weights Tryz.prog 27, z ≤ reachBytes) → SnIn s) := by
  obtain ⟨cs, rfl, hsz⟩ := okWide_struct Tryz.underlying27 hv
  obtain ⟨k0, k1, k2, k3, k4, rfl⟩ := array5 (hsz.trans cellsMade)
  obtain ⟨fuel, hf⟩ := h
  obtain ⟨xs, k, hk, hxy, _, hxl, hf⟩ := DataW.trod_struct Tryz.underlying27 (by simpa [Value.cells] using hf)
  match xs, hxl with
  | [y0, y1, y2], _ =>
    have g0 := hf 0 _ rfl
    have g1 := hf 1 _ rfl
    have g2 := hf 2 _ rfl
    simp [cellsInt', cellsBool', cellsSnap] at g0 g1 g2
    obtain ⟨cap, e0, _, _⟩ := DataW.trod_int Tryz.underlying3 g0
    obtain ⟨rs, e1, _⟩ := DataW.trod_bool Tryz.underlying4 g1
    obtain ⟨zs, k', hk', hzy, _, hzl, hf2⟩ := DataW.trod_struct Tryz.underlying25 g2
    match zs, hzl with
    | [z0, z1, z2], _ =>
      have f0 := hf2 0 _ rfl
      have f1 := hf2 1 _ rfl
      have f2 := hf2 2 _ rfl
      simp [cellsInt', cellsSPin, cellsSChain] at f0 f1 f2
      obtain ⟨la, e2, _, wl⟩ := DataW.trod_int Tryz.underlying3 f0
      obtain ⟨pa, pn, pc, pins, e3, hpn, hp0, hpc, hpi, hpz⟩ := pins_of_trod f1
      obtain ⟨ca, cn, cc, chs, e4, hcn, hc0, hcc, hci, hcz⟩ := chains_of_trod f2
      simp only [List.cons.injEq, and_true] at e0 e1 e2 e3 e4
      subst e0 e1 e2 e3 e4 hpn hcn
      have hd : d = (DataW.agg [y0.1, y1.1, y2.1]) := by simpa using congrArg Prod.fst hxy
      refine ⟨cap, rs, ⟨la, pa, pc, pins, ca, cc, chs⟩, rfl, ⟨hpc, hcc, fun c hc => (hci c hc).1, hp0, fun c hc => (hci c hc).2.1⟩, fun hz => ?_⟩
      have hz2 : ∀ z ∈ y2.1.weights Tryz.prog 25, z ≤ reachBytes := fun z hzz => hz z (by
        rw [hd]
        simp only [DataW.weights, Tryz.underlying27]
        exact DataW.weights_mem_each (j := 2) (t := 25) (d := y2.1) rfl rfl _ hzz)
      have hp1 := hpz (fun z hzz => hz2 z (by
        rw [hzy]
        simp only [DataW.weights, Tryz.underlying25]
        exact DataW.weights_mem_each (j := 1) (t := 22) (d := z1.1) rfl rfl _ hzz))
      have hc1 := hcz (fun z hzz => hz2 z (by
        rw [hzy]
        simp only [DataW.weights, Tryz.underlying25]
        exact DataW.weights_mem_each (j := 2) (t := 23) (d := z2.1) rfl rfl _ hzz))
      simp only [reachBytes] at hp1 hc1
      exact ⟨by show pins.length ≤ _; omega, by show chs.length ≤ _; omega, fun c hc => by have := hc1.2 c hc; omega, hpi, fun c hc => (hci c hc).2.2, bounds_i64 wl⟩
end
/-- a script that is nil has no room -/
theorem ops_nil {H : Type} {enc : TypeId × Value → H} {W : World} {fuel : Nat} {a : Option Addr} {len cap : Nat} {y : DataW H × List MemPlace}
    (hf : DataW.trod enc Tryz.prog W 0 (fun _ => true) true fuel 28 [.slice a len cap] = some y) : a = none → cap = 0 := by
  rcases Deep.open_slice Tryz.underlying28 hf with ⟨h1, _⟩ | ⟨a', len', cap', m, n, D, Pl, h1, _⟩
  · simp at h1; intro _; exact h1.2.2
  · simp at h1; intro e; rw [h1.1] at e; cases e
end Go.Proofs.YtbmohlkcmhhpgaaGreat
