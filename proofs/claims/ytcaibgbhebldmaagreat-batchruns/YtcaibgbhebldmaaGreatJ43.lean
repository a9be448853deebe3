import Derived.Test.YtcaibgbhebldmaaGreatJ23
import Derived.Test.YtcaibgbhebldmaaGreatJ24
import Derived.Test.YtcaibgbhebldmaaGreatJ25
import Derived.Test.YtcaibgbhebldmaaGreatJ29
import Derived.Test.YtcaibgbhebldmaaGreatJ42
/-
  BatchRuns: WHAT Accept GIVES, AND A RUN.
-/
namespace Go.Proofs.YtcaibgbhebldmaaGreat.Kk
open Go.RowKit Go.Sort

theorem chk_all {Ps : List Pr} (h : (checkN Ps).2 = 0) : ∀ i, i < Ps.length → verifyN (pd Ps i).p (pd Ps i).L = 0 := by
  have h1 : Ps.length ≤ 64 ∧ ∀ i, i < Ps.length → chkOne Ps i = 0 := by
    by_cases hl : 64 < Ps.length
    · unfold checkN at h; rw [if_pos hl] at h; cases h
    · refine ⟨by omega, fun i => ?_⟩
      induction i using Nat.strongRecOn with
      | ind i ih =>
        intro hi
        by_cases h0 : chkOne Ps i = 0
        · exact h0
        · have := checkN_stop (by omega) (fun j hj => ih j hj (by omega)) h0 hi
          rw [this] at h; exact absurd h h0
  intro i hi
  have := h1.2 i hi
  unfold chkOne at this
  split at this
  · cases this
  · exact this
/-- what a transaction's soundness says -/
structure Snd1 (Ps : List Pr) (t : Tp) (j : Nat) : Prop where
  pj : t.proc = (j : Int)
  lt : j < Ps.length
  la : (t.args.length : Int) = (pd Ps j).p.args
  lr : (t.reads.length : Int) = (pd Ps j).p.reads
  lw : (t.writes.length : Int) = (pd Ps j).p.writes
  wf : WF t
theorem snd1 {Ps : List Pr} {t : Tp} (h : soundN Ps t = 0) : ∃ j, Snd1 Ps t j := by
  unfold soundN at h
  by_cases h1 : t.proc < 0 ∨ (Ps.length : Int) ≤ t.proc
  · rw [if_pos h1] at h; cases h
  rw [if_neg h1] at h
  by_cases h2 : (t.args.length : Int) ≠ (pd Ps t.proc.toNat).p.args
  · rw [if_pos h2] at h; cases h
  rw [if_neg h2] at h
  by_cases h3 : (t.reads.length : Int) ≠ (pd Ps t.proc.toNat).p.reads
  · rw [if_pos h3] at h; cases h
  rw [if_neg h3] at h
  by_cases h4 : (t.writes.length : Int) ≠ (pd Ps t.proc.toNat).p.writes
  · rw [if_pos h4] at h; cases h
  rw [if_neg h4] at h
  exact ⟨t.proc.toNat, by omega, by omega, by simpa using h2, by simpa using h3, by simpa using h4, wf_of h⟩

/-- what Accept answers, for the law -/
def AccP (w : World) (Ps : List Pr) (zs : List Nat) (e : Ending) (w' : World) : Prop :=
  Below w.heap.size w w' ∧ ((∃ P, e = .returned (.tuple #[.slice none 0 0, .iface 70 (.pointer (some ⟨P, 0, none⟩))])) ∨ (∃ P, e = .returned (.tuple #[.slice none 0 0, .iface 74 (.pointer (some ⟨P, 0, none⟩))])) ∨
    ∃ g Qs m, e = .returned (.tuple #[.slice (some ⟨g, 0, none⟩) m m, .nilIface]) ∧ m = Qs.length ∧ BatAt w' (some ⟨g, 0, none⟩) Qs ∧ batN (Qs.map Bx.t) = zs ∧ (eachN formN (Qs.map Bx.t)).2 = 0 ∧ m ≤ 64 ∧ ∀ i, i < m → ∃ j, Snd1 Ps (bd Qs i).t j)
theorem acc_it (w : World) (lo ao : Option Addr) (n lc m cap : Nat) (Ps : List Pr) (zs : List Nat) (hl : ProcsAt w lo Ps) (hn : n = Ps.length) (hb : BytesAt w ao zs) (hm : m = zs.length) (hs : m ≤ 140737488355328) :
    Calls Tryz.prog 7 #[.slice lo n lc, .slice ao m cap] w fun e w' => AccP w Ps zs e w' := by
  refine (accept_any w lo ao n lc m cap Ps zs hl hn hb hm hs).mono ?_
  rintro e w' ⟨hbl, h⟩
  refine ⟨hbl, ?_⟩
  cases hd : decR zs with
  | error y =>
    obtain ⟨q, x⟩ := y
    rw [hd] at h
    obtain ⟨P, rfl, _⟩ := h
    exact .inl ⟨P, rfl⟩
  | ok Ts =>
    rw [hd] at h
    by_cases hc : (eachN (soundN Ps) Ts).2 = 0
    · simp only [hc, if_true] at h
      obtain ⟨v, rfl, ho⟩ := h
      obtain ⟨h3, h4, h5⟩ := decR_back hb.1 hd
      obtain ⟨g, Qs, rfl, k1, k2, k3⟩ := ho.lst h5
      refine .inr (.inr ⟨g, Qs, Ts.length, rfl, k3, k1, by rw [k2]; exact h3, by rw [k2, each_of h4 (fun t ht => (h5 t ht).1)], h4, fun i hi => ?_⟩)
      have := (eachN_ok hc).2 i hi
      rw [← k2, td_map (by omega)] at this
      exact snd1 this
    · simp only [hc, if_false] at h
      obtain ⟨P, rfl, _⟩ := h
      exact .inr (.inl ⟨P, rfl⟩)

theorem elC : El 53 25 (.agg #[.bool false, .int .i64 0]) 2 16 := ⟨Tryz.underlying53, by kernel_rfl, rfl, by decide, by decide⟩
theorem ccs_rep (k : Nat) (c : C) : ccs (List.replicate (k + 1) c) = ccs (List.replicate k c) ++ [.bool c.1, .int .i64 c.2] := by
  induction k with
  | zero => rfl
  | succ k ih =>
    show Value.bool c.1 :: .int .i64 c.2 :: ccs (List.replicate (k + 1) c) = (Value.bool c.1 :: .int .i64 c.2 :: ccs (List.replicate k c)) ++ [.bool c.1, .int .i64 c.2]
    rw [ih]
    rfl
theorem new_cell2 (w : World) (x y : Value) (T : TypeId) : ∀ j u, ([x, y] : List Value)[j]? = some u → (w.alloc (.cells #[x, y] T)).cell? ((⟨w.heap.size, 0, none⟩ : Addr).add j) = some u := by
  intro j u hu
  have hb := heap_alloc_new (w := w) (.cells #[x, y] T) w.heap.size rfl
  rw [addr_add, World.cell?, hb]
  simpa using hu
theorem row_cells2 {w : World} {base nr cr : Nat} {T : TypeId} {ra : Option Addr} {xs : List Value} (h : w.ownsRow base T 2 (.slice ra nr cr) nr xs) : CellsAt w ra xs ∧ (ra = none → nr = 0 ∧ cr = 0) := by
  obtain ⟨hl, h⟩ := h
  rcases h with ⟨h1, h2⟩ | ⟨g, cap, cur, e, hb, hg, hn, hm, hs, ht⟩
  · cases h1
    have : xs = [] := List.eq_nil_of_length_eq_zero (by omega)
    exact ⟨.inl this, fun _ => ⟨rfl, rfl⟩⟩
  · simp only [Value.slice.injEq] at e
    obtain ⟨rfl, _, rfl⟩ := e
    refine ⟨.inr ⟨g, 0, rfl, fun j u hu => ?_⟩, fun e => by cases e⟩
    have hj := (List.getElem?_eq_some_iff.1 hu).1
    rw [Nat.zero_add, World.ownsRow.cellAt (w := w) (base := base) (e := T) (size := 2) (g := g) (cap := cr) (n := nr) (xs := xs) ⟨hl, .inr ⟨g, cr, cur, rfl, hb, hg, hn, hm, hs, ht⟩⟩ j (by omega)]
    exact hu
theorem pr_of {w : World} {lo : Option Addr} {Ps : List Pr} (hl : LibAt w lo Ps) {j : Nat} (hj : j < Ps.length) : PrOK w (pd Ps j) := hl.ok _ (by
  simp [pd, List.getD_eq_getElem?_getD, List.getElem?_eq_getElem hj])
/-- a run that ends, for the law -/
theorem run_law (w : World) (Ps : List Pr) (lo : Option Addr) (j : Nat) (t : Tp) (hl : LibAt w lo Ps) (hs : Snd1 Ps t j) (hv : verifyN (pd Ps j).p (pd Ps j).L = 0) (aa : Option Addr) (ca : Nat) (ha : NumsAt w aa t.args) (hna : aa = none → ca = 0) (ra : Option Addr) (nr cr base : Nat) (hnr : nr = t.reads.length) (c : C) (hr : w.ownsRow base 25 2 (.slice ra nr cr) nr (ccs (List.replicate nr c))) :
    Calls Tryz.prog 14 #[pv (pd Ps j).p (pd Ps j).ao (pd Ps j).n (pd Ps j).cap, .slice aa t.args.length ca, .slice ra nr cr] w fun e w' => ∃ co cd us a1 n1 k1 a2 k2 st, e = .returned (.tuple #[.agg (eP co cd us a1 n1 k1 a2 t.writes.length k2 ((st : Nat) : Int)), .int .i64 0]) ∧ (st : Int) ≤ (longestN (pd Ps j).p (pd Ps j).L).1 ∧ Below w.heap.size w w' := by
  have hp := pr_of hl hs.lt
  obtain ⟨hc, hcn⟩ := row_cells2 hr
  have hE : newE (pd Ps j).p (pd Ps j).L t.args (List.replicate nr c) = 0 := by
    unfold newE fedB
    rw [if_neg (by simp [hv]), if_neg]
    have h1 := hs.la
    have h2 := hs.lr
    simp [hnr]
    omega
  have hin : CallIn w (pd Ps j).p (pd Ps j).ao (pd Ps j).n (pd Ps j).cap (pd Ps j).L aa t.args.length ca t.args ra nr cr (List.replicate nr c) := by
    refine ⟨hp.nin, hp.ks, hp.len, hp.nil, ⟨ha, fun e => ⟨?_, hna e⟩⟩, rfl, ⟨hc, hcn⟩, by simp⟩
    rcases ha with h0 | ⟨b, off, e2, _⟩
    · simpa using congrArg List.length h0
    · rw [e] at e2; cases e2
  refine (run_ok w _ _ _ _ _ aa t.args.length ca t.args ra nr cr _ hin hE).mono ?_
  rintro e w' ⟨co, cd, us, S, U, a1, k1, a2, k2, st, rfl, hd, hb⟩
  have hU : U.length = t.writes.length := by have h1 := hd.pl; have h2 := hs.lw; omega
  refine ⟨co, cd, us, a1, S.length, k1, a2, k2, st, by rw [hU], ?_, hb⟩
  rw [longN, if_neg (by simp [hv])]
  exact hd.steps
theorem long_law {Ps : List Pr} {j : Nat} (hv : verifyN (pd Ps j).p (pd Ps j).L = 0) : (longestN (pd Ps j).p (pd Ps j).L).2 = 0 := by rw [longN, if_neg (by simp [hv])]
end Go.Proofs.YtcaibgbhebldmaaGreat.Kk
