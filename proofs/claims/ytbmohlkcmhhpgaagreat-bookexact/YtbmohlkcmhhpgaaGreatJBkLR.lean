import Derived.Test.YtbmohlkcmhhpgaaGreatJBkKeptH
import Derived.Test.YtbmohlkcmhhpgaaGreatJBkGo
import Derived.Test.YtbmohlkcmhhpgaaGreatJBkStepH
import Derived.Deep.RegionHeld3
import Derived.ChangeOld
import Derived.ProofKit
import Derived.OpenShut
import Derived.SizedLaws
import Derived.Lib.SmallJoins
/-
  A PAIR WITH ALL THE LISTS THAT IT HANDED OUT.
-/
namespace Go.Proofs.YtbmohlkcmhhpgaaGreat
open Go.RowKit Go.Sort

/-- all that a pair's state hangs on -/
structure QR where
  B : Nat
  Mp : Nat
  Mc : Nat
  Mn : Nat
  R : Nat
  cap : Int
  st : Bs
  sd : Bs
  nw : List K
  av : Value
  pv : Value
  rv : Nat → Value
  ls : Nat → List (Value × List K)
  lw : Nat → List (Value × List K)
abbrev QR.pb (P : Nat) (q : QR) : Nat → Prop := PBk P q.B q.Mp q.Mc q.Mn q.R q.av q.pv q.rv
/-- all its blocks -/
def QR.xb (P : Nat) (q : QR) (k : Nat) : Prop := q.pb P k ∨ LB q.ls k ∨ LB q.lw k
abbrev QR.pj (n0 P cnt : Nat) (q : QR) (W : World) : Prop := PJ n0 P q.B q.Mp q.Mc q.Mn q.R q.cap cnt q.st q.sd q.nw q.av q.pv q.rv W
structure LRx (n0 P cnt : Nat) (q : QR) (W : World) : Prop where
  sy : Syn q.st q.sd
  pj : q.pj n0 P cnt W
  row : ∀ t, t < 3 → W.ownsRow n0 (tqS t) 1 (q.rv (2 + 2 * t)) (q.ls t).length ((q.ls t).map Prod.fst)
  el : ∀ t, t < 3 → ∀ e ∈ q.ls t, W.ownsRow n0 (teS t) 2 e.1 e.2.length (cks e.2)
  ap : ∀ t, t < 3 → ((q.ls t).map Prod.fst).Pairwise (fun a b => ∀ g, a.ownBlock = some g → b.ownBlock ≠ some g)
  rowW : ∀ t, t < 3 → W.ownsRow n0 (tqS t) 1 (q.rv (3 + 2 * t)) (q.lw t).length ((q.lw t).map Prod.fst)
  elW : ∀ t, t < 3 → ∀ e ∈ q.lw t, W.ownsRow n0 (teS t) 2 e.1 e.2.length (cks e.2)
  same : ∀ t, t < 3 → (q.lw t).map Prod.snd = (q.ls t).map Prod.snd
  no : ∀ k, LB q.ls k ∨ LB q.lw k → ¬ q.pb P k
  len : ∀ t, t < 3 → (q.ls t).length ≤ cnt ∧ ∀ e ∈ q.ls t, e.2.length ≤ 1000000
theorem tpR_tq {t : Nat} (ht : t < 3) : tpR (2 + 2 * t) = tqS t ∧ tpR (3 + 2 * t) = tqS t := by
  have h1 : t = 0 ∨ t = 1 ∨ t = 2 := by omega
  rcases h1 with rfl | rfl | rfl <;> decide
theorem tpR_te (i : Nat) {t : Nat} (ht : t < 3) : tpR i ≠ teS t := by
  have h1 : t = 0 ∨ t = 1 ∨ t = 2 := by omega
  unfold tpR
  split
  · rcases h1 with rfl | rfl | rfl <;> decide
  · split
    · rcases h1 with rfl | rfl | rfl <;> decide
    · rcases h1 with rfl | rfl | rfl <;> decide
section
variable {n0 P cnt : Nat} {q q' : QR} {W W' : World}
theorem LRx.lb_lt (h : LRx n0 P cnt q W) {k : Nat} (hk : LB q.ls k ∨ LB q.lw k) : n0 ≤ k ∧ k < W.heap.size := by
  rcases hk with ⟨t, ht, e, he, hg⟩ | ⟨t, ht, e, he, hg⟩
  · exact World.ownsRow.lt (h.el t ht e he) k hg
  · exact World.ownsRow.lt (h.elW t ht e he) k hg
theorem LRx.lt (h : LRx n0 P cnt q W) {k : Nat} (hk : q.xb P k) : k < W.heap.size := by
  rcases hk with hk | hk
  · exact h.pj.lt hk
  · exact (h.lb_lt hk).2
theorem LRx.ge (h : LRx n0 P cnt q W) {k : Nat} (hk : q.xb P k) : n0 ≤ k := by
  rcases hk with hk | hk
  · exact h.pj.ge hk
  · exact (h.lb_lt hk).1
theorem row_pb {t : Nat} (ht : t < 3) {k : Nat} (hk : (q.rv (2 + 2 * t)).ownBlock = some k ∨ (q.rv (3 + 2 * t)).ownBlock = some k) : q.pb P k := by
  rcases hk with hk | hk
  · exact .inr (.inr (.inr ⟨2 + 2 * t, by omega, by omega, hk⟩))
  · exact .inr (.inr (.inr ⟨3 + 2 * t, by omega, by omega, hk⟩))
theorem LRx.same' (h : LRx n0 P cnt q W) (hs : ∀ k, q.xb P k → W'.heap[k]? = W.heap[k]?) : LRx n0 P cnt q W' :=
  ⟨h.sy, h.pj.same (fun k hk => hs k (.inl hk)), fun t ht => rowSame (h.row t ht) (fun g hg => hs g (.inl (row_pb (q := q) ht (.inl hg)))), fun t ht e he => rowSame (h.el t ht e he) (fun g hg => hs g (.inr (.inl ⟨t, ht, e, he, hg⟩))), h.ap,
   fun t ht => rowSame (h.rowW t ht) (fun g hg => hs g (.inl (row_pb (q := q) ht (.inr hg)))), fun t ht e he => rowSame (h.elW t ht e he) (fun g hg => hs g (.inr (.inr ⟨t, ht, e, he, hg⟩))), h.same, h.no, h.len⟩
theorem LRx.up (h : LRx n0 P cnt q W) {c : Nat} (hc : cnt ≤ c) : LRx n0 P c q W :=
  ⟨h.sy, ⟨h.pj.ba, h.pj.rb, h.pj.pb, fun i h1 h2 => by obtain ⟨xs, hx, hl⟩ := h.pj.rw i h1 h2; exact ⟨xs, hx, by omega⟩, h.pj.ap, h.pj.nP, h.pj.sb⟩, h.row, h.el, h.ap, h.rowW, h.elW, h.same, h.no, fun t ht => ⟨by have := (h.len t ht).1; omega, (h.len t ht).2⟩⟩
theorem LRx.kpr (h : LRx n0 P cnt q W) (hc : cnt ≤ 1000000) : KPr W n0 P (ptr q.B) (ptr q.R) q.rv q.ls q.lw :=
  ⟨h.pj.pb, h.row, h.el, h.ap, h.rowW, h.elW, h.same, h.pj.n0s, fun t ht => ⟨by have := (h.len t ht).1; omega, (h.len t ht).2⟩⟩
end
/-- what a step leaves: the pair goes on, only its own blocks turn -/
def StL (n0 P cnt : Nat) (q : QR) (wr : World) (w' : World) : Prop :=
  ∃ q', q'.B = q.B ∧ LRx n0 P (cnt + 2) q' w' ∧ Fr (q.xb P) wr w' ∧ ∀ k, q'.xb P k → k < wr.heap.size → q.xb P k
theorem StF.lr {n0 P cnt : Nat} {q : QR} {wr w' : World} {e : Ending} (hl : LRx n0 P cnt q wr) (h : StF n0 P q.B q.Mp q.Mc q.Mn q.R q.cap cnt q.av q.pv q.rv wr e w') : e = .returned (.bool true) ∧ StL n0 P cnt q wr w' := by
  obtain ⟨rfl, st, sd, hs, nw, av', pv', hj, hg⟩ := h
  have hgo := hg.gon
  have hfr : Fr (q.xb P) wr w' := ⟨hgo.fr.os, hgo.fr.tape, hgo.fr.output, hgo.fr.size, fun k hk hn => hgo.fr.block k hk (fun hp => hn (.inl hp))⟩
  have hlb : ∀ k, LB q.ls k ∨ LB q.lw k → w'.heap[k]? = wr.heap[k]? := fun k hk => hgo.fr.block k (hl.lb_lt hk).2 (hl.no k hk)
  refine ⟨rfl, ⟨q.B, q.Mp, q.Mc, q.Mn, q.R, q.cap, st, sd, nw, av', pv', q.rv, q.ls, q.lw⟩, rfl, ⟨hs, hj, fun t ht => ?_, fun t ht e he => rowSame (hl.el t ht e he) (fun g hg => hlb g (.inl ⟨t, ht, e, he, hg⟩)), hl.ap, fun t ht => ?_, fun t ht e he => rowSame (hl.elW t ht e he) (fun g hg => hlb g (.inr ⟨t, ht, e, he, hg⟩)), hl.same, fun k hk hp => hl.no k hk (hgo.sub k hp (hl.lb_lt hk).2), fun t ht => ⟨by have := (hl.len t ht).1; simp only; omega, (hl.len t ht).2⟩⟩, hfr, fun k hk hlt => ?_⟩
  · have := hl.row t ht
    rw [← (tpR_tq ht).1] at this ⊢
    exact hg.row hl.pj this
  · have := hl.rowW t ht
    rw [← (tpR_tq ht).2] at this ⊢
    exact hg.row hl.pj this
  · rcases hk with hk | hk
    · exact .inl (hgo.sub k hk hlt)
    · exact .inr hk
theorem StG.lr {n0 P cnt t0 : Nat} (ht0 : t0 < 3) {q : QR} {wr w' : World} {e : Ending} (hct : cnt ≤ 900000) (hl : LRx n0 P cnt q wr) (h : StG n0 P q.B q.Mp q.Mc q.Mn q.R q.cap cnt (2 + 2 * t0) (teS t0) q.av q.pv q.rv wr e w') : e = .returned (.bool true) ∧ StL n0 P cnt q wr w' := by
  obtain ⟨rfl, st, sd, hs, nw, rv', va, vb, L, hj, hgo, hr1, hr2, hr3, ha, hb, hab, hL⟩ := h
  have hz : n0 ≤ wr.heap.size := hl.pj.n0s
  have hfr : Fr (q.xb P) wr w' := ⟨hgo.fr.os, hgo.fr.tape, hgo.fr.output, hgo.fr.size, fun k hk hn => hgo.fr.block k hk (fun hp => hn (.inl hp))⟩
  have hlb : ∀ k, LB q.ls k ∨ LB q.lw k → w'.heap[k]? = wr.heap[k]? := fun k hk => hgo.fr.block k (hl.lb_lt hk).2 (hl.no k hk)
  obtain ⟨ls', hls'⟩ : ∃ ls' : Nat → List (Value × List K), ls' = fun t => if t = t0 then q.ls t ++ [(va, L)] else q.ls t := ⟨_, rfl⟩
  obtain ⟨lw', hlw'⟩ : ∃ lw' : Nat → List (Value × List K), lw' = fun t => if t = t0 then q.lw t ++ [(vb, L)] else q.lw t := ⟨_, rfl⟩
  have hls1 : ls' t0 = q.ls t0 ++ [(va, L)] := by rw [hls']; exact if_pos rfl
  have hls2 : ∀ t, t ≠ t0 → ls' t = q.ls t := fun t ht => by rw [hls']; exact if_neg ht
  have hlw1 : lw' t0 = q.lw t0 ++ [(vb, L)] := by rw [hlw']; exact if_pos rfl
  have hlw2 : ∀ t, t ≠ t0 → lw' t = q.lw t := fun t ht => by rw [hlw']; exact if_neg ht
  clear hls' hlw'
  have hmem : ∀ t e, e ∈ ls' t → e ∈ q.ls t ∨ (t = t0 ∧ e = (va, L)) := fun t e he => by
    by_cases h : t = t0
    · subst h
      rw [hls1] at he
      rcases List.mem_append.1 he with he | he
      · exact .inl he
      · exact .inr ⟨rfl, by simpa using he⟩
    · rw [hls2 t h] at he; exact .inl he
  have hmemW : ∀ t e, e ∈ lw' t → e ∈ q.lw t ∨ (t = t0 ∧ e = (vb, L)) := fun t e he => by
    by_cases h : t = t0
    · subst h
      rw [hlw1] at he
      rcases List.mem_append.1 he with he | he
      · exact .inl he
      · exact .inr ⟨rfl, by simpa using he⟩
    · rw [hlw2 t h] at he; exact .inl he
  have hlenW : ∀ t, t < 3 → (q.lw t).length = (q.ls t).length := fun t ht => by simpa using congrArg List.length (hl.same t ht)
  have hnew : ∀ v, w'.ownsRow wr.heap.size (teS t0) 2 v L.length (cks L) → ∀ g, v.ownBlock = some g → wr.heap.size ≤ g ∧ ¬ PBk P q.B q.Mp q.Mc q.Mn q.R q.av q.pv rv' g := fun v hv g hg => by
    have hge := (World.ownsRow.lt hv g hg).1
    obtain ⟨cur, hc⟩ := rowBlock hv hg
    refine ⟨hge, fun hp => ?_⟩
    rcases hp with rfl | hp | hp | ⟨j, j1, j2, hp⟩
    · have := blk_lt hl.pj.pb; omega
    · have := hl.pj.ba.lt hp; omega
    · have := hl.pj.rb.ltS hp; omega
    · obtain ⟨xs, hx, _⟩ := hj.rw j j1 j2
      obtain ⟨cur', hc'⟩ := rowBlock hx hp
      rw [hc] at hc'
      simp only [Option.some.injEq, Obj.cells.injEq] at hc'
      exact tpR_te j ht0 hc'.2.1.symm
  have hLB : ∀ k, LB ls' k → LB q.ls k ∨ (wr.heap.size ≤ k ∧ ¬ PBk P q.B q.Mp q.Mc q.Mn q.R q.av q.pv rv' k) := fun k ⟨t, ht, e, he, hg⟩ => by
    rcases hmem t e he with h | ⟨_, rfl⟩
    · exact .inl ⟨t, ht, e, h, hg⟩
    · exact .inr (hnew va ha k hg)
  have hLBW : ∀ k, LB lw' k → LB q.lw k ∨ (wr.heap.size ≤ k ∧ ¬ PBk P q.B q.Mp q.Mc q.Mn q.R q.av q.pv rv' k) := fun k ⟨t, ht, e, he, hg⟩ => by
    rcases hmemW t e he with h | ⟨_, rfl⟩
    · exact .inl ⟨t, ht, e, h, hg⟩
    · exact .inr (hnew vb hb k hg)
  refine ⟨rfl, ⟨q.B, q.Mp, q.Mc, q.Mn, q.R, q.cap, st, sd, nw, q.av, q.pv, rv', ls', lw'⟩, rfl, ⟨hs, hj, fun t ht => ?_, fun t ht e he => ?_, fun t ht => ?_, fun t ht => ?_, fun t ht e he => ?_, fun t ht => ?_, fun k hk hp => ?_, fun t ht => ?_⟩, hfr, fun k hk hlt => ?_⟩
  · have h0 := hl.row t ht
    simp only
    rw [← (tpR_tq ht).1] at h0 ⊢
    by_cases h : t = t0
    · subst h
      have := hr1 ((q.ls t).map Prod.fst) (by have := (hl.len t ht).1; simp; omega) (by rw [List.length_map]; exact h0)
      rw [hls1]
      simpa using this
    · rw [hls2 t h]
      exact hr3 (2 + 2 * t) (by omega) (by omega) (by omega) (by omega) _ _ h0
  · rcases hmem t e he with h | ⟨rfl, rfl⟩
    · exact rowSame (hl.el t ht e h) (fun g hg => hlb g (.inl ⟨t, ht, e, h, hg⟩))
    · exact rowBaseD ha hz
  · by_cases h : t = t0
    · subst h
      simp only [hls1, List.map_append, List.map_cons, List.map_nil]
      refine List.pairwise_append.2 ⟨hl.ap t ht, by simp, fun a ha' b hb' g hg => ?_⟩
      simp only [List.mem_singleton] at hb'
      subst hb'
      obtain ⟨e, he, rfl⟩ := List.mem_map.1 ha'
      intro hgb
      have h1 := (World.ownsRow.lt (hl.el t ht e he) g hg).2
      have h2 := (World.ownsRow.lt ha g hgb).1
      omega
    · simp only [hls2 t h]
      exact hl.ap t ht
  · have h0 := hl.rowW t ht
    simp only
    rw [← (tpR_tq ht).2] at h0 ⊢
    by_cases h : t = t0
    · subst h
      have := hr2 ((q.lw t).map Prod.fst) (by have := (hl.len t ht).1; have := hlenW t ht; simp; omega) (by rw [List.length_map, show 2 + 2 * t + 1 = 3 + 2 * t by omega]; exact h0)
      rw [show 2 + 2 * t + 1 = 3 + 2 * t by omega] at this
      rw [hlw1]
      simpa using this
    · rw [hlw2 t h]
      exact hr3 (3 + 2 * t) (by omega) (by omega) (by omega) (by omega) _ _ h0
  · rcases hmemW t e he with h | ⟨rfl, rfl⟩
    · exact rowSame (hl.elW t ht e h) (fun g hg => hlb g (.inr ⟨t, ht, e, h, hg⟩))
    · exact rowBaseD hb hz
  · by_cases h : t = t0
    · subst h
      simp only [hls1, hlw1, List.map_append, hl.same t ht]
      rfl
    · simp only [hls2 t h, hlw2 t h]
      exact hl.same t ht
  · rcases hk with hk | hk
    · rcases hLB k hk with h | h
      · exact hl.no k (.inl h) (hgo.sub k hp (hl.lb_lt (.inl h)).2)
      · exact h.2 hp
    · rcases hLBW k hk with h | h
      · exact hl.no k (.inr h) (hgo.sub k hp (hl.lb_lt (.inr h)).2)
      · exact h.2 hp
  · have h0 := hl.len t ht
    simp only
    refine ⟨?_, fun e he => ?_⟩
    · by_cases h : t = t0
      · subst h
        rw [hls1, List.length_append]
        simp
        omega
      · rw [hls2 t h]
        omega
    · rcases hmem t e he with h | ⟨rfl, rfl⟩
      · exact h0.2 e h
      · exact hL
  · rcases hk with hk | hk | hk
    · exact .inl (hgo.sub k hk hlt)
    · rcases hLB k hk with h | h
      · exact .inr (.inl h)
      · omega
    · rcases hLBW k hk with h | h
      · exact .inr (.inr h)
      · omega
/-- one step of any kind -/
theorem stepL_any (n0 P cnt : Nat) (q : QR) (wr : World) (hl : LRx n0 P cnt q wr) (hct : cnt ≤ 900000) (o : Oc) (ho : OcOK o) (hk : KIn o.k) (hw : RWs (fun k => n0 ≤ k) wr o.a o.L) :
    Calls Tryz.prog 6 #[ptr P, opv o] wr fun e w' => e = .returned (.bool true) ∧ StL n0 P cnt q wr w' := by
  obtain ⟨kind, oa, oc, L, m, k1, k2⟩ := o
  obtain ⟨h1, h2, h3, h4⟩ := ho
  unfold opv
  simp only at h1 h2 h3 h4 hk hw ⊢
  by_cases h : kind = 0
  · subst h
    exact (step0F_any n0 P _ _ _ _ _ _ cnt _ _ _ _ _ _ wr hl.pj hl.sy oa L.length oc L rfl h1 h2 h3 hw m k1 k2).mono fun e w' h => h.lr hl
  by_cases h : kind = 1
  · subst h
    exact (step1F_any n0 P _ _ _ _ _ _ cnt _ _ _ _ _ _ wr hl.pj hl.sy oa L.length oc m k1 k2 h4).mono fun e w' h => h.lr hl
  by_cases h : kind = 2
  · subst h
    exact (step2F_any n0 P _ _ _ _ _ _ cnt _ _ _ _ _ _ wr hl.pj hl.sy oa L.length oc m k1 k2 h4).mono fun e w' h => h.lr hl
  by_cases h : kind = 3
  · subst h
    exact (step3F_any n0 P _ _ _ _ _ _ cnt _ _ _ _ _ _ wr hl.pj hl.sy oa L.length oc m k1 k2 h4).mono fun e w' h => h.lr hl
  by_cases h : kind = 5
  · subst h
    exact (step5G_any n0 P _ _ _ _ _ _ cnt _ _ _ _ _ _ wr hl.pj hl.sy hct oa L.length oc m k1 k2 hk).mono fun e w' h => StG.lr (t0 := 2) (by omega) hct hl h
  by_cases h : kind = 6
  · subst h
    exact (step6G_any n0 P _ _ _ _ _ _ cnt _ _ _ _ _ _ wr hl.pj hl.sy hct oa L.length oc m k1 k2 hk).mono fun e w' h => StG.lr (t0 := 0) (by omega) hct hl h
  by_cases h : kind = 7
  · subst h
    exact (step7G_any n0 P _ _ _ _ _ _ cnt _ _ _ _ _ _ wr hl.pj hl.sy hct oa L.length oc m k1 k2 hk).mono fun e w' h => StG.lr (t0 := 1) (by omega) hct hl h
  exact (stepNF_any n0 P _ _ _ _ _ _ cnt _ _ _ _ _ _ wr hl.pj hl.sy kind (by assumption) (by assumption) (by assumption) (by assumption) (by assumption) (by assumption) (by assumption) oa L.length oc m k1 k2).mono fun e w' h => h.lr hl
end Go.Proofs.YtbmohlkcmhhpgaaGreat
/-
  step: Versions; WHAT LIES BESIDE IT IS KEPT.
-/
namespace Go.Proofs.YtbmohlkcmhhpgaaGreat
open Go.RowKit Go.Sort

/-- lists of keys are as they were -/
def KyK (w w' : World) : Prop := ∀ (k : Nat) (cs : Array Value) (z : Nat × Nat), w.heap[k]? = some (.cells cs 43 z) → w'.heap[k]? = w.heap[k]?
def StK (n0 P B Mp Mc Mn R : Nat) (cap : Int) (cnt : Nat) (wr : World) (e : Ending) (w' : World) : Prop := StP n0 P B Mp Mc Mn R cap cnt wr e w' ∧ KyK wr w'
set_option maxHeartbeats 4000000 in
set_option maxRecDepth 100000 in
theorem step7k_any (n0 P B Mp Mc Mn R : Nat) (cap : Int) (cnt : Nat) (st sd : Bs) (nw : List K) (av pv : Value) (rv : Nat → Value) (wr : World) (hj : PJ n0 P B Mp Mc Mn R cap cnt st sd nw av pv rv wr) (hs : Syn st sd) (hct : cnt ≤ 900000) (oa : Option Addr) (ln oc : Nat) (m k1 k2 : Int) (hk : KIn (k1, k2)) :
    Calls Tryz.prog 6 #[ptr P, .agg #[.int .i64 7, .slice oa ln oc, .int .i64 m, .int .i64 k1, .int .i64 k2]] wr fun e w' => StK n0 P B Mp Mc Mn R cap cnt wr e w' := by
  obtain ⟨U, hU⟩ : ∃ U, U = wr.alloc (.cells #[.int .i64 7, .slice oa ln oc, .int .i64 m, .int .i64 k1, .int .i64 k2] 45) := ⟨_, rfl⟩
  obtain ⟨g, hg⟩ : ∃ g, g = wr.heap.size := ⟨_, rfl⟩
  have hbU : Below wr.heap.size wr U := by rw [hU]; exact (Below.refl _ _).alloc (Nat.le_refl _) _
  have HJU := hidC (hj.kept hbU)
  obtain ⟨cs, hcs⟩ : ∃ cs : Array Value, cs = #[.int .i64 7, .slice oa ln oc, .int .i64 m, .int .i64 k1, .int .i64 k2] := ⟨_, rfl⟩
  have HXU : Hid (BXp g cs U) := by rw [hU, hg, hcs]; exact heap_alloc_new _ _ rfl
  have HBU : Hid (Below n0 wr U) := hbU.mono hj.n0s
  have HFU := hidC hbU
  have HPl := hidC (hj.pl hs)
  have HS := hidC hs
  have HXc : Hid (∀ W, BXp g cs W → W.cell? ⟨g, 0, none⟩ = some (.int .i64 7) ∧ W.cell? ⟨g, 3, none⟩ = some (.int .i64 k1) ∧ W.cell? ⟨g, 4, none⟩ = some (.int .i64 k2)) := fun W hW => by
    unfold BXp at hW
    rw [hcs] at hW
    refine ⟨?_, ?_, ?_⟩ <;> simp [World.cell?, hW]
  have HK := hidC hk
  clear hj hs hbU hcs hk
  obtain ⟨x0, x3, x4⟩ := HXc.out U HXU.out
  obtain ⟨p0, p1, _⟩ := HJU.out.cells
  go_enter Tryz.func6, Tryz.ntmps6
  have HVb : Hid (∀ W, PJ n0 P B Mp Mc Mn R cap cnt st sd nw av pv rv W → Calls Tryz.prog 31 #[ptr B, .agg #[.int .i64 k1, .int .i64 k2]] W fun e w' => ∃ la lm lc, e = .returned (.slice la lm lc) ∧ lm = (plk (ofV (k1, k2) st.all)).length ∧ w'.ownsRow W.heap.size 99 2 (.slice la lm lc) (plk (ofV (k1, k2) st.all)).length (cks (plk (ofV (k1, k2) st.all))) ∧ Below W.heap.size W w') := fun W hW => by
    refine (versions_any W B Mp Mc Mn cap st.la st.fl st.pins st.all nw hW.ba (k1, k2) HK.out).mono ?_
    rintro e w' ⟨v, rfl, ho, hb⟩
    obtain ⟨la, lm, lc, rfl, hlm⟩ := rowOpenD ho
    exact ⟨la, lm, lc, rfl, hlm, ho, hb⟩
  have HVr : Hid (∀ W, PJ n0 P B Mp Mc Mn R cap cnt st sd nw av pv rv W → Calls Tryz.prog 32 #[ptr R, .agg #[.int .i64 k1, .int .i64 k2]] W fun e w' => ∃ ma mc, e = .returned (.slice ma (ofV (k1, k2) sd.all).length mc) ∧ (ofV (k1, k2) sd.all).length = (plk (ofV (k1, k2) sd.all)).length ∧ w'.ownsRow W.heap.size 99 2 (.slice ma (ofV (k1, k2) sd.all).length mc) (ofV (k1, k2) sd.all).length (cks (plk (ofV (k1, k2) sd.all))) ∧ Below W.heap.size W w') := fun W hW => rversions_any W n0 R cap sd.la sd.fl av pv sd.all sd.pins hW.rb HPl.out.2.1 (k1, k2)
  obtain ⟨LL, hLL⟩ : ∃ LL : List K, LL = plk (ofV (k1, k2) sd.all) := ⟨_, rfl⟩
  have HLL := hidC hLL
  have HLl : Hid (LL.length ≤ 8796093022208) := by
    show _ ≤ _
    rw [hLL]
    have h1 : (plk (ofV (k1, k2) sd.all)).length ≤ sd.all.length := by simp [plk]; exact List.length_filter_le _ _
    have := HPl.out.2.1
    omega
  clear hLL
  go_upto_region 28 with fail
  rw [← hU, ← hg]
  clear hU hg
  have HDr : Hid (Below U.heap.size U U.drew) := drew_below U 1
  have HJd := hidC (HJU.out.kept HDr.out)
  have HXd := hidC (HXU.out.kept HDr.out)
  have HBd : Hid (Below n0 wr U.drew) := HBU.out.trans (HDr.out.mono HJU.out.n0s)
  have HFd : Hid (Below wr.heap.size wr U.drew) := HFU.out.trans (HDr.out.mono HFU.out.size)
  have HC1 := hidC (HVb.out U.drew HJd.out)
  go_region_held3 (fun w' => w'.cell? ⟨P, 0, none⟩ = some (ptr B) ∧ w'.cell? ⟨g, 3, none⟩ = some (.int .i64 k1) ∧ w'.cell? ⟨g, 4, none⟩ = some (.int .i64 k2)) (first | with_reducible exact HQ3.out | go_keep) (first
    | (go_at_call 31; with_reducible refine HC1.out.mono ?_; rintro e W3 ⟨la, lm, lc, rfl, hlm, ho3, hb3⟩; have HJ3 := hidC (HJd.out.kept hb3); have HX3 := hidC (HXd.out.kept hb3); have HB3 := hidC (HBd.out.trans (hb3.mono HJd.out.n0s)); have HF3 := hidC (HFd.out.trans (hb3.mono HFd.out.size)); have HO3 := hidC ho3; have HLm3 := hidC hlm; have HQ3 := hidC (And.intro HJ3.out.cells.1 (HXc.out W3 HX3.out).2); clear ho3 hb3 hlm))
  clear x0 x3 x4 p0 p1 HQ3 HC1 HVb
  obtain ⟨_, p1, _⟩ := HJ3.out.cells
  obtain ⟨_, x3, x4⟩ := HXc.out W3 HX3.out
  have HDs : Hid (Below W3.heap.size W3 W3.drew) := drew_below W3 1
  have HJe := hidC (HJ3.out.kept HDs.out)
  have HXe := hidC (HX3.out.kept HDs.out)
  have HBe : Hid (Below n0 wr W3.drew) := HB3.out.trans (HDs.out.mono HJ3.out.n0s)
  have HFe : Hid (Below wr.heap.size wr W3.drew) := HF3.out.trans (HDs.out.mono HF3.out.size)
  have HC2 := hidC (HVr.out W3.drew HJe.out)
  have HLl3 : Hid (lm = (ofV (k1, k2) sd.all).length) := by show _ = _; rw [HLm3.out, HS.out.al]; simp [plk]
  rw [← HLl3.out] at HC2
  go_upto_region 29 with fail
  go_region_held3 (fun w' => w'.cell? ⟨P, 1, none⟩ = some (ptr R) ∧ w'.cell? ⟨g, 3, none⟩ = some (.int .i64 k1) ∧ w'.cell? ⟨g, 4, none⟩ = some (.int .i64 k2)) (first | with_reducible exact HQ4.out | go_keep) (first
    | (go_at_call 32; with_reducible refine HC2.out.mono ?_; rintro e W4 ⟨ma, mc, rfl, hln, ho4, hb4⟩; have HJ4 := hidC (HJe.out.kept hb4); have HB4 := hidC (HBe.out.trans (hb4.mono HJe.out.n0s)); have HF4 := hidC (HFe.out.trans (hb4.mono HFe.out.size)); have HO4 := hidC ho4; have HBw := hidC (HDs.out.trans (hb4.mono HDs.out.size)); have HLn := hidC hln; have HQ4 := hidC (And.intro HJ4.out.cells.2.1 (HXc.out W4 (HXe.out.kept hb4)).2); clear ho4 hb4 hln))
  have HL4 : Hid (W4.ownsRow U.drew.heap.size 99 2 (.slice la lm lc) LL.length (cks LL)) := by
    have h1 := HO3.out
    rw [HS.out.al, ← HLL.out] at h1
    exact rowSame h1 (fun g hg => HBw.out.block g (World.ownsRow.lt h1 g hg).2)
  have HM4 : Hid (W4.ownsRow W3.drew.heap.size 99 2 (.slice ma lm mc) LL.length (cks LL)) := by
    have h1 := HO4.out
    have h2 := HLn.out
    rw [← HLL.out] at h1 h2
    rw [← h2]
    exact h1
  clear p1 x3 x4 HQ4 HC2 HVr HO3 HO4 HLn HLm3 HLl3 HBw HDs HJe HXe HDr HJd HXd HJ3 HX3
  obtain ⟨_, _, y2, y3, y4, y5, y6, y7⟩ := HJ4.out.cells
  obtain ⟨xA, hxA⟩ : ∃ xA, rv 4 = xA := ⟨_, rfl⟩
  obtain ⟨xB, hxB⟩ : ∃ xB, rv 5 = xB := ⟨_, rfl⟩
  rw [hxA] at y4
  rw [hxB] at y5
  have HA1 := hidC (HJ4.out.note 4 (by omega) (by omega) 37 78 rfl rfl la lm lc (by omega) xA hxA W4.heap.size rfl)
  have HA2 : Hid (∀ (w1 : World) (v1 : Value) rv', rv' 5 = xB → PJ n0 P B Mp Mc Mn R cap (cnt + 1) st sd nw av pv rv' (w1.setCell ⟨P, 4, none⟩ v1) → _) := fun w1 v1 rv' he hW => hW.note 5 (by omega) (by omega) 37 78 rfl rfl ma lm mc (by omega) xB he w1.heap.size (by simp)
  have HXAB := hidC (And.intro hxA hxB)
  clear hxA hxB
  go_wp2_with (first
    | (at_builtin; with_reducible refine wpL_appI rfl _ _ 37 rfl xB (.slice (some ⟨w1.heap.size, 0, none⟩) 1 1) rfl rfl HA3.out ?_; rintro v2 w2 ⟨⟨a2, m2, c2, rfl⟩, hc2, hf2, HN2⟩; have hd2 := hc2 5 (by omega) (by omega); rw [he1] at hd2)
    | (at_builtin; with_reducible refine wpL_appI rfl _ _ 37 rfl xA (.slice (some ⟨W4.heap.size, 0, none⟩) 1 1) rfl rfl HA1.out ?_; rintro v1 w1 ⟨⟨a1, m1, c1, rfl⟩, hc1, hf1, HN1⟩; have hd1 := hc1 4 (by omega) (by omega); have hd3 := hc1 5 (by omega) (by omega); rw [HXAB.out.1] at hd1; rw [HXAB.out.2] at hd3; obtain ⟨rv1, hr1, hJ1⟩ := HN1.out.1; have HJ1 := hidC hJ1; have he1 : rv1 5 = xB := (hr1 5 (by omega)).trans HXAB.out.2; have HA3 := hidC (HA2.out w1 _ rv1 he1 hJ1); clear hJ1 hc1 hr1))
  have HLm : Hid (KeysAt (w2.setCell ⟨P, 5, none⟩ (.slice a2 m2 c2)) la LL ∧ KeysAt (w2.setCell ⟨P, 5, none⟩ (.slice a2 m2 c2)) ma LL ∧ lm = LL.length) := by
    have hk : ∀ (k : Nat) (cs : Array Value) (T' : TypeId) (z : Nat × Nat), W4.heap[k]? = some (.cells cs T' z) → T' = 99 → (w2.setCell ⟨P, 5, none⟩ (.slice a2 m2 c2)).heap[k]? = W4.heap[k]? := fun k cs T' z hk hT => by
      have h1 := HN1.out.2.2 k cs T' z hk (by rw [hT]; decide) (by rw [hT]; decide)
      have h2 := HN2.out.2.2 k cs T' z (h1.trans hk) (by rw [hT]; decide) (by rw [hT]; decide)
      exact h2.trans h1
    have hl := rowKept HL4.out hk
    have hm := rowKept HM4.out hk
    obtain ⟨_, ql, el, hkl⟩ := row_at hl
    obtain ⟨_, qm, em, hkm⟩ := row_at hm
    simp only [Value.slice.injEq] at el em
    exact ⟨by rw [el.1]; exact hkl, by rw [em.1]; exact hkm, el.2.1⟩
  have HZ : Hid (∀ q, StK n0 P B Mp Mc Mn R cap cnt wr (.returned (.bool true)) ((w2.setCell ⟨P, 5, none⟩ (.slice a2 m2 c2)).drewN q)) := fun q => by
    obtain ⟨rv2, _, hJ2⟩ := HN2.out.1
    have hb := HB4.out.trans (HN1.out.2.1.trans HN2.out.2.1)
    refine ⟨⟨rfl, ⟨st, sd, HS.out, nw, av, pv, rv2, hJ2.kept (drew_below _ q)⟩, hb.trans ((drew_below _ q).mono hJ2.n0s)⟩, fun k cs z hk => ?_⟩
    have h4 := HF4.out.block k (blk_lt hk)
    have h1 := HN1.out.2.2 k cs _ z (h4.trans hk) (by decide) (by decide)
    have h2 := HN2.out.2.2 k cs _ z (h1.trans (h4.trans hk)) (by decide) (by decide)
    exact h2.trans (h1.trans h4)
  clear HA1 HA2 HA3 HN1 HN2 HJ1 hf1 hc2 hf2 hd1 hd2 hd3 he1 y2 y3 y4 y5 y6 y7
  generalize w2.setCell ⟨P, 5, none⟩ (.slice a2 m2 c2) = W6 at *
  refine (samePlaces_eq W6 la ma lm lc mc LL HLm.out.1 HLm.out.2.1 HLm.out.2.2 (by rw [HLm.out.2.2]; exact HLl.out)).mono ?_
  rintro e W7 ⟨rfl, q, hW7⟩
  subst hW7
  have HZq := hidC (HZ.out q)
  clear HZ
  go_wp2
  go_ret
  exact HZq.out
end Go.Proofs.YtbmohlkcmhhpgaaGreat
/-
  all: ALL THAT A BOOK TELLS; BookMakes: THE LAW.
-/
namespace Go.Proofs.YtbmohlkcmhhpgaaGreat
open Go.RowKit Go.Sort

def AllPost (n0 : Nat) (w : World) (e : Ending) (w' : World) : Prop := e = .returned (.bool true) ∧ Below n0 w w'
set_option maxHeartbeats 4000000 in
set_option maxRecDepth 100000 in
theorem all_any (n0 P B Mp Mc Mn R : Nat) (cap : Int) (st sd : Bs) (nw : List K) (av pv : Value) (rv : Nat → Value) (w : World) (hj : PJ n0 P B Mp Mc Mn R cap 0 st sd nw av pv rv w) (hs : Syn st sd) :
    Calls Tryz.prog 7 #[ptr P] w fun e w' => AllPost n0 w e w' := by
  have HPl := hidC (hj.pl hs)
  obtain ⟨LL, hLL⟩ : ∃ LL : List K, LL = sortK (sd.all.map Prod.fst) := ⟨_, rfl⟩
  have HKr := hidC (rkeys_any w n0 R cap sd.la sd.fl av pv sd.all sd.pins hj.rb HPl.out.2.1 HPl.out.2.2.2.2)
  rw [← hLL] at HKr
  have HLk : Hid ((∀ k ∈ LL, KIn k) ∧ LL.length ≤ 65536) := by
    have hr := sortK_rise (l := sd.all.map Prod.fst) (fun k hk => by
      obtain ⟨v, hv, rfl⟩ := List.mem_map.1 hk
      exact HPl.out.2.2.2.2 v hv)
    constructor
    · intro k hk
      rw [hLL] at hk
      obtain ⟨v, hv, rfl⟩ := List.mem_map.1 ((sortK_mem _ k).1 hk)
      exact hj.ba.nkin v.1 ((sortK_mem nw _).2 ((hj.ba.nwa _).2 ⟨v, by rw [hs.al]; exact hv, rfl⟩))
    · rw [hLL]
      have hnS : (sortK (sd.all.map Prod.fst)).Nodup := hr.2.imp (fun {a b} hab e => by subst e; rw [lt_irrefl] at hab; cases hab)
      have h1 := nodup_len _ (sd.all.map Prod.fst) hnS (fun x hx => (sortK_mem _ x).1 hx)
      have := HPl.out.2.1
      simp at h1
      omega
  have HJ := hidC hj
  have HS := hidC hs
  obtain ⟨p0, p1, _⟩ := hj.cells
  clear hj hs hLL
  go_enter Tryz.func7, Tryz.ntmps7
  go_wp2_with fail
  clear p0 p1
  refine HKr.out.mono ?_
  rintro e W1 ⟨la, lm, lc, rfl, ho, hb1⟩
  have hlm : lm = LL.length := by
    obtain ⟨_, _, _, e4, h4⟩ := rowOpenD ho
    simp only [Value.slice.injEq] at e4
    rw [e4.2.1]
    exact h4
  have hlm2 : lm ≤ 65536 := by rw [hlm]; exact HLk.out.2
  have HLm := hidC hlm
  have H1 : Hid ((∃ st sd, Syn st sd ∧ ∃ nw av pv rv, PJ n0 P B Mp Mc Mn R cap (2 * 0) st sd nw av pv rv W1) ∧ OwnK W1 w.heap.size (.slice la lm lc) LL ∧ Below n0 w W1) := ⟨⟨st, sd, HS.out, nw, av, pv, rv, HJ.out.kept hb1⟩, ho, hb1.mono HJ.out.n0s⟩
  clear ho hb1 HKr hlm
  go_wp2_with fail
  go_loopw [4, 5] (fun y _ wr => ∃ i : Nat, i ≤ lm ∧ y = .int .i64 (i : Int) ∧ Hid ((∃ st sd, Syn st sd ∧ ∃ nw av pv rv, PJ n0 P B Mp Mc Mn R cap (2 * i) st sd nw av pv rv wr) ∧ OwnK wr w.heap.size (.slice la lm lc) LL ∧ Below n0 w wr)) (fun y _ _ => lm - (intOf y).toNat)
  case atStart => exact ⟨0, Nat.zero_le _, rfl, H1.out⟩
  case round =>
    clear H1
    obtain ⟨i, hi, rfl, HI⟩ := hrel
    obtain ⟨⟨st1, sd1, hsy, nw1, av1, pv1, rv1, hj1⟩, ho1, hbw⟩ := HI.out
    clear HI
    by_cases hlt : i < lm
    · have hil : i < LL.length := by have := HLm.out; omega
      have hkin := HLk.out.1 _ (kd_mem hil)
      obtain ⟨la', lc', e4, hka, _, _⟩ := ho1.slice
      simp only [Value.slice.injEq] at e4
      have e5 := e4.1
      subst e5
      obtain ⟨b, off, hao, e0, e1⟩ := KeysAt.get2 hka i hil
      subst hao
      have HO1 := hidC ho1
      have HBr := hidC hbw
      generalize kd LL i = kk at *
      obtain ⟨k1, k2⟩ := kk
      simp only at e0 e1
      have HSt := hidC (step7k_any n0 P B Mp Mc Mn R cap (2 * i) st1 sd1 nw1 av1 pv1 rv1 wr hj1 hsy (by omega) none 0 0 0 k1 k2 hkin)
      clear hj1 hsy ho1 hbw hka e4 hkin
      go_wp2_with fail
      clear e0 e1
      refine HSt.out.mono ?_
      rintro e W2 ⟨⟨rfl, hj2, hb2⟩, hkk⟩
      have HZ : Hid ((∃ st sd, Syn st sd ∧ ∃ nw av pv rv, PJ n0 P B Mp Mc Mn R cap (2 * (i + 1)) st sd nw av pv rv W2) ∧ OwnK W2 w.heap.size (.slice (some ⟨b, off, none⟩) lm lc) LL ∧ Below n0 w W2) := by
        refine ⟨by rw [show 2 * (i + 1) = 2 * i + 2 by omega]; exact hj2, HO1.out.same (fun g hg => ?_), HBr.out.trans hb2⟩
        obtain ⟨cur, hc⟩ := rowBlock HO1.out hg
        exact hkk g cur _ hc
      clear hj2 hb2 hkk HSt HBr HO1
      go_wp2
      exact ⟨⟨i + 1, by omega, by go_num, HZ.out⟩, by simp [intOf]; omega⟩
    · have hie : i = lm := by omega
      subst hie
      have HBr := hidC hbw
      have H6 := hidC (step6_any n0 P B Mp Mc Mn R cap (2 * i) st1 sd1 nw1 av1 pv1 rv1 wr hj1 hsy (by omega) none 0 0 0 0 0 (by unfold KIn In64; simp))
      clear hj1 hsy ho1 hbw
      go_wp2_with fail
      refine H6.out.mono ?_
      rintro e W6 ⟨rfl, ⟨st6, sd6, hs6, nw6, av6, pv6, rv6, hj6⟩, hb6⟩
      have HB6 : Hid (Below n0 w W6) := HBr.out.trans hb6
      have H5 := hidC (step5_any n0 P B Mp Mc Mn R cap _ st6 sd6 nw6 av6 pv6 rv6 W6 hj6 hs6 (by omega) none 0 0 0 0 0 (by unfold KIn In64; simp))
      clear hj6 hs6 hb6 H6
      go_wp2_with fail
      refine H5.out.mono ?_
      rintro e W5 ⟨rfl, ⟨st5, sd5, hs5, nw5, av5, pv5, rv5, hj5⟩, hb5⟩
      have HB5 : Hid (Below n0 w W5) := HB6.out.trans hb5
      have HNm := hidC (numbers_any W5 hj5 hs5)
      have hz5 := hj5.n0s
      clear hj5 hs5 hb5 H5
      go_wp2_with fail
      refine HNm.out.mono ?_
      rintro e W7 ⟨rfl, q, hW7⟩
      subst hW7
      have HX : Hid (AllPost n0 w (.returned (.bool true)) (W5.drewN q)) := ⟨rfl, HB5.out.trans ((drew_below W5 q).mono hz5)⟩
      go_wp2
      go_ret
      exact HX.out
end Go.Proofs.YtbmohlkcmhhpgaaGreat
/-
  all: ALL THAT A BOOK TELLS, the lists with it.
-/
namespace Go.Proofs.YtbmohlkcmhhpgaaGreat
open Go.RowKit Go.Sort

theorem go_trans {P : Nat} {q q1 q2 : QR} {w wr w2 : World} (h1 : Fr (q.xb P) w wr) (s1 : ∀ k, q1.xb P k → k < w.heap.size → q.xb P k) (h2 : Fr (q1.xb P) wr w2) (s2 : ∀ k, q2.xb P k → k < wr.heap.size → q1.xb P k) :
    Fr (q.xb P) w w2 ∧ ∀ k, q2.xb P k → k < w.heap.size → q.xb P k := by
  have hs := h1.size
  refine ⟨⟨h2.os.trans h1.os, h2.tape.trans h1.tape, h2.output.trans h1.output, Nat.le_trans hs h2.size, fun k hk hn => ?_⟩, fun k hk hlt => s1 k (s2 k hk (by omega)) hlt⟩
  exact (h2.block k (by omega) (fun hk1 => hn (s1 k hk1 hk))).trans (h1.block k hk hn)
/-- how far it has come -/
def GoX (n0 P c : Nat) (q : QR) (w wr : World) : Prop := ∃ q1, q1.B = q.B ∧ LRx n0 P c q1 wr ∧ Fr (q.xb P) w wr ∧ ∀ k, q1.xb P k → k < w.heap.size → q.xb P k
/-- how far it has come, beside a list -/
def GoV (n0 P c : Nat) (q : QR) (v : Value) (LL : List K) (w wr : World) : Prop := ∃ q1, q1.B = q.B ∧ LRx n0 P c q1 wr ∧ Fr (q.xb P) w wr ∧ (∀ k, q1.xb P k → k < w.heap.size → q.xb P k) ∧ OwnK wr w.heap.size v LL ∧ ∀ g, v.ownBlock = some g → ¬ q1.xb P g
def AllL (n0 P : Nat) (q : QR) (w : World) (e : Ending) (w' : World) : Prop := e = .returned (.bool true) ∧ GoX n0 P 900000 q w w'
theorem okO (kd k1 k2 : Int) : OcOK ⟨kd, none, 0, [], 0, (k1, k2)⟩ := ⟨by simp, by simp, by simp, by unfold In64; simp⟩
theorem rwsO (G : Nat → Prop) (W : World) : RWs G W none [] := fun i hi => by simp at hi
set_option maxHeartbeats 4000000 in
set_option maxRecDepth 100000 in
theorem allL_any (n0 P cnt : Nat) (q : QR) (w : World) (hl : LRx n0 P cnt q w) (hct : cnt ≤ 300000) :
    Calls Tryz.prog 7 #[ptr P] w fun e w' => AllL n0 P q w e w' := by
  have HPl := hidC (hl.pj.pl hl.sy)
  obtain ⟨LL, hLL⟩ : ∃ LL : List K, LL = sortK (q.sd.all.map Prod.fst) := ⟨_, rfl⟩
  have HKr := hidC (rkeys_any w n0 q.R q.cap q.sd.la q.sd.fl q.av q.pv q.sd.all q.sd.pins hl.pj.rb HPl.out.2.1 HPl.out.2.2.2.2)
  rw [← hLL] at HKr
  have HLk : Hid ((∀ k ∈ LL, KIn k) ∧ LL.length ≤ 65536) := by
    have hr := sortK_rise (l := q.sd.all.map Prod.fst) (fun k hk => by
      obtain ⟨v, hv, rfl⟩ := List.mem_map.1 hk
      exact HPl.out.2.2.2.2 v hv)
    constructor
    · intro k hk
      rw [hLL] at hk
      obtain ⟨v, hv, rfl⟩ := List.mem_map.1 ((sortK_mem _ k).1 hk)
      exact hl.pj.ba.nkin v.1 ((sortK_mem q.nw _).2 ((hl.pj.ba.nwa _).2 ⟨v, by rw [hl.sy.al]; exact hv, rfl⟩))
    · rw [hLL]
      have hnS : (sortK (q.sd.all.map Prod.fst)).Nodup := hr.2.imp (fun {a b} hab e => by subst e; rw [lt_irrefl] at hab; cases hab)
      have h1 := nodup_len _ (q.sd.all.map Prod.fst) hnS (fun x hx => (sortK_mem _ x).1 hx)
      have := HPl.out.2.1
      simp at h1
      omega
  have HL := hidC hl
  obtain ⟨p0, p1, _⟩ := hl.pj.cells
  clear hl hLL
  go_enter Tryz.func7, Tryz.ntmps7
  go_wp2_with fail
  clear p0 p1
  refine HKr.out.mono ?_
  rintro e W1 ⟨la, lm, lc, rfl, ho, hb1⟩
  have hlm : lm = LL.length := by
    obtain ⟨_, _, _, e4, h4⟩ := rowOpenD ho
    simp only [Value.slice.injEq] at e4
    rw [e4.2.1]
    exact h4
  have hlm2 : lm ≤ 65536 := by rw [hlm]; exact HLk.out.2
  have HLm := hidC hlm
  have H1 : Hid (GoV n0 P (cnt + 2 * 0) q (.slice la lm lc) LL w W1) := ⟨q, rfl, HL.out.same' (fun k hk => hb1.block k (HL.out.lt hk)), Fr.ofBelow hb1, fun k hk _ => hk, ho, fun g hg hx => by
    have h1 := (World.ownsRow.lt ho g hg).1
    have h2 := HL.out.lt hx
    omega⟩
  clear ho hb1 HKr hlm
  go_wp2_with fail
  go_loopw [4, 5] (fun y _ wr => ∃ i : Nat, i ≤ lm ∧ y = .int .i64 (i : Int) ∧ Hid (GoV n0 P (cnt + 2 * i) q (.slice la lm lc) LL w wr)) (fun y _ _ => lm - (intOf y).toNat)
  case atStart => exact ⟨0, Nat.zero_le _, rfl, H1.out⟩
  case round =>
    clear H1
    obtain ⟨i, hi, rfl, HI⟩ := hrel
    obtain ⟨q1, hB1, hl1, hf1, hs1, ho1, hn1⟩ := HI.out
    clear HI
    by_cases hlt : i < lm
    · have hil : i < LL.length := by have := HLm.out; omega
      have hkin := HLk.out.1 _ (kd_mem hil)
      obtain ⟨la', lc', e4, hka, _, _⟩ := ho1.slice
      simp only [Value.slice.injEq] at e4
      have e5 := e4.1
      subst e5
      obtain ⟨b, off, hao, e0, e1⟩ := KeysAt.get2 hka i hil
      subst hao
      have HI1 := hidC (And.intro hB1 (And.intro hf1 (And.intro hs1 (And.intro ho1 hn1))))
      generalize kd LL i = kk at *
      obtain ⟨k1, k2⟩ := kk
      simp only at e0 e1
      have HSt := hidC (stepL_any n0 P (cnt + 2 * i) q1 wr hl1 (by omega) ⟨7, none, 0, [], 0, (k1, k2)⟩ (okO _ _ _) hkin (rwsO _ _))
      simp only [opv, List.length_nil] at HSt
      clear hl1 hB1 hf1 hs1 ho1 hn1 hka e4 hkin
      go_wp2_with fail
      clear e0 e1
      refine HSt.out.mono ?_
      rintro e W2 ⟨rfl, q2, hB2, hl2, hf2, hs2⟩
      have HZ : Hid (GoV n0 P (cnt + 2 * (i + 1)) q (.slice (some ⟨b, off, none⟩) lm lc) LL w W2) := by
        obtain ⟨hB1, hf1, hs1, ho1, hn1⟩ := HI1.out
        obtain ⟨g1, g2⟩ := go_trans hf1 hs1 hf2 hs2
        refine ⟨q2, hB2.trans hB1, by rw [show cnt + 2 * (i + 1) = cnt + 2 * i + 2 by omega]; exact hl2, g1, g2, ho1.same (fun g hg => hf2.block g (World.ownsRow.lt ho1 g hg).2 (hn1 g hg)), fun g hg hx => hn1 g hg (hs2 g hx (World.ownsRow.lt ho1 g hg).2)⟩
      clear hl2 hf2 hs2 hB2 HSt HI1
      go_wp2
      exact ⟨⟨i + 1, by omega, by go_num, HZ.out⟩, by simp [intOf]; omega⟩
    · have hie : i = lm := by omega
      subst hie
      have HI1 := hidC (And.intro hB1 (And.intro hf1 hs1))
      have H6 := hidC (stepL_any n0 P (cnt + 2 * i) q1 wr hl1 (by omega) ⟨6, none, 0, [], 0, (0, 0)⟩ (okO _ _ _) (by unfold KIn In64; simp) (rwsO _ _))
      simp only [opv, List.length_nil] at H6
      clear hl1 ho1 hn1 hB1 hf1 hs1
      go_wp2_with fail
      refine H6.out.mono ?_
      rintro e W6 ⟨rfl, q6, hB6, hl6, hf6, hs6⟩
      have HI6 : Hid (q6.B = q.B ∧ Fr (q.xb P) w W6 ∧ ∀ k, q6.xb P k → k < w.heap.size → q.xb P k) := ⟨hB6.trans HI1.out.1, go_trans HI1.out.2.1 HI1.out.2.2 hf6 hs6⟩
      have H5 := hidC (stepL_any n0 P _ q6 W6 hl6 (by omega) ⟨5, none, 0, [], 0, (0, 0)⟩ (okO _ _ _) (by unfold KIn In64; simp) (rwsO _ _))
      simp only [opv, List.length_nil] at H5
      clear hl6 hB6 hf6 hs6 H6 HI1
      go_wp2_with fail
      refine H5.out.mono ?_
      rintro e W5 ⟨rfl, q5, hB5, hl5, hf5, hs5⟩
      have HI5 : Hid (q5.B = q.B ∧ Fr (q.xb P) w W5 ∧ ∀ k, q5.xb P k → k < w.heap.size → q.xb P k) := ⟨hB5.trans HI6.out.1, go_trans HI6.out.2.1 HI6.out.2.2 hf5 hs5⟩
      have HNm := hidC (numbers_any W5 hl5.pj hl5.sy)
      have HL5 : Hid (LRx n0 P 900000 q5 W5) := hl5.up (by omega)
      clear hl5 hB5 hf5 hs5 H5 HI6
      go_wp2_with fail
      refine HNm.out.mono ?_
      rintro e W7 ⟨rfl, z, hW7⟩
      subst hW7
      have hd := drew_below W5 z
      have HX : Hid (AllL n0 P q w (.returned (.bool true)) (W5.drewN z)) := ⟨rfl, q5, HI5.out.1, HL5.out.same' (fun k hk => hd.block k (HL5.out.lt hk)), (go_trans HI5.out.2.1 HI5.out.2.2 (Fr.ofBelow hd) (fun k hk _ => hk))⟩
      clear hd
      go_wp2
      go_ret
      exact HX.out
end Go.Proofs.YtbmohlkcmhhpgaaGreat
/-
  TWO PAIRS SIDE BY SIDE, EACH WITH A BOOK OR WITH NONE.
-/
namespace Go.Proofs.YtbmohlkcmhhpgaaGreat
open Go.RowKit Go.Sort

abbrev nilPair : Array Value := #[.pointer none, .pointer none, .slice none 0 0, .slice none 0 0, .slice none 0 0, .slice none 0 0, .slice none 0 0, .slice none 0 0]
/-- a pair with its blocks X -/
def OBJ (n0 P : Nat) (bv : Value) (c : Nat) (X : Nat → Prop) (W : World) : Prop :=
  (bv = .pointer none ∧ W.heap[P]? = some (.cells nilPair 40 (0, 0)) ∧ n0 ≤ P ∧ X = fun k => k = P) ∨ ∃ q, bv = ptr q.B ∧ LRx n0 P c q W ∧ X = q.xb P
section
variable {n0 P c : Nat} {bv : Value} {X : Nat → Prop} {W W' : World}
theorem OBJ.lt (h : OBJ n0 P bv c X W) {k : Nat} (hk : X k) : k < W.heap.size := by
  rcases h with ⟨_, hp, _, rfl⟩ | ⟨q, _, hl, rfl⟩
  · subst hk; exact blk_lt hp
  · exact hl.lt hk
theorem OBJ.ge (h : OBJ n0 P bv c X W) {k : Nat} (hk : X k) : n0 ≤ k := by
  rcases h with ⟨_, _, hg, rfl⟩ | ⟨q, _, hl, rfl⟩
  · subst hk; exact hg
  · exact hl.ge hk
theorem OBJ.n0s (h : OBJ n0 P bv c X W) : n0 ≤ W.heap.size := by
  rcases h with ⟨_, hp, hg, rfl⟩ | ⟨q, _, hl, rfl⟩
  · exact Nat.le_trans hg (Nat.le_of_lt (blk_lt hp))
  · exact hl.pj.n0s
theorem OBJ.same (h : OBJ n0 P bv c X W) (hs : ∀ k, X k → W'.heap[k]? = W.heap[k]?) : OBJ n0 P bv c X W' := by
  rcases h with ⟨h1, hp, hg, rfl⟩ | ⟨q, h1, hl, rfl⟩
  · exact .inl ⟨h1, (hs P rfl).trans hp, hg, rfl⟩
  · exact .inr ⟨q, h1, hl.same' hs, rfl⟩
theorem OBJ.up (h : OBJ n0 P bv c X W) {d : Nat} (hd : c ≤ d) : OBJ n0 P bv d X W := by
  rcases h with h | ⟨q, h1, hl, rfl⟩
  · exact .inl h
  · exact .inr ⟨q, h1, hl.up hd, rfl⟩
theorem OBJ.cell0 (h : OBJ n0 P bv c X W) : W.cell? ⟨P, 0, none⟩ = some bv := by
  rcases h with ⟨rfl, hp, _, _⟩ | ⟨q, rfl, hl, _⟩
  · simp [World.cell?, hp]
  · exact hl.pj.cells.1
theorem OBJ.kept (h : OBJ n0 P bv c X W) (hc : c ≤ 1000000) : Calls Tryz.prog 8 #[ptr P] W fun e w' => e = .returned (.bool true) ∧ Fr X W w' := by
  rcases h with ⟨rfl, hp, hg, rfl⟩ | ⟨q, rfl, hl, rfl⟩
  · have hk : KPr W n0 P (.pointer none) (.pointer none) (fun _ => .slice none 0 0) (fun _ => []) (fun _ => []) :=
      ⟨hp, fun t _ => World.ownsRow_nil _ _ _ _, (fun _ _ _ he => nomatch he), fun t _ => List.Pairwise.nil, fun t _ => World.ownsRow_nil _ _ _ _, (fun _ _ _ he => nomatch he), fun _ _ => rfl, Nat.le_trans hg (Nat.le_of_lt (blk_lt hp)), fun t _ => ⟨by simp, (fun _ he => nomatch he)⟩⟩
    refine (keptS_any W n0 P _ _ _ _ _ hk).mono fun e w' ⟨h1, h2, h3⟩ => ⟨h1, h2.os, h2.tape, h2.output, h2.size, fun k hk _ => h3 k hk (fun ⟨_, _, _, he, _⟩ => nomatch he)⟩
  · refine (keptS_any W n0 P _ _ _ _ _ (hl.kpr hc)).mono fun e w' ⟨h1, h2, h3⟩ => ⟨h1, h2.os, h2.tape, h2.output, h2.size, fun k hk hn => h3 k hk (fun hb => hn (.inr (.inl hb)))⟩
end
/-- what made leaves -/
theorem MadePost.obj {n0 : Nat} {w w' : World} {cap : Int} {rs : Bool} {s : Sn} {e : Ending} (h : MadePost w cap rs s e w') (hn : n0 ≤ w.heap.size) : ∃ P bv X, e = .returned (.tuple #[ptr P, .bool true]) ∧ (bv = .pointer none ∨ ∃ B, bv = ptr B) ∧ OBJ n0 P bv 0 X w' ∧ (∀ k, X k → w.heap.size ≤ k) ∧ Below w.heap.size w w' := by
  obtain ⟨P, bv, rvv, he, hP, hPl, hb, ⟨_, rfl, rfl⟩ | ⟨hE0, B, Mp, Mc, Mn, nw0, R, av, pvv, rfl, rfl, hba, hsb, hrb⟩⟩ := h
  · exact ⟨P, _, _, he, .inl rfl, .inl ⟨rfl, hP, by omega, rfl⟩, fun k hk => by subst hk; exact hPl, hb⟩
  · refine ⟨P, _, _, he, .inr ⟨B, rfl⟩, .inr ⟨⟨B, Mp, Mc, Mn, R, cap, ⟨mdL rs s, mdL rs s, mdP rs s, mdA rs s⟩, ⟨mdL rs s, mdL rs s, mdP rs s, mdA rs s⟩, nw0, av, pvv, fun _ => .slice none 0 0, fun _ => [], fun _ => []⟩, rfl, ⟨⟨rfl, rfl, rfl, fun _ => rfl, md_rise hE0⟩, ⟨hba, ⟨hrb.bk, rowBaseD hrb.ra hn, rowBaseD hrb.rp hn, Nat.le_trans hn hrb.le⟩, hP, fun i _ _ => ⟨[], World.ownsRow_nil _ _ _ _, by simp⟩, (fun i j _ _ _ _ _ g hg => by cases hg), by omega, fun k hk => Nat.le_trans hn (hsb k hk)⟩, fun t _ => World.ownsRow_nil _ _ _ _, (fun _ _ _ he => nomatch he), fun t _ => List.Pairwise.nil, fun t _ => World.ownsRow_nil _ _ _ _, (fun _ _ _ he => nomatch he), fun _ _ => rfl, fun k hk => ?_, fun t _ => ⟨by simp, (fun _ he => nomatch he)⟩⟩, rfl⟩, fun k hk => ?_, hb⟩
    · rcases hk with ⟨t, _, e, he, _⟩ | ⟨t, _, e, he, _⟩ <;> cases he
    · rcases hk with (rfl | hk | hk | ⟨j, _, _, hj⟩) | ⟨t, _, e, he, _⟩ | ⟨t, _, e, he, _⟩
      · exact hPl
      · exact hsb k hk
      · exact hrb.geS hk
      · cases hj
      · cases he
      · cases he
/-- two pairs -/
def TE (n0 : Nat) (w : World) (P1 : Nat) (b1 : Value) (c1 : Nat) (P2 : Nat) (b2 : Value) (c2 : Nat) (W : World) : Prop :=
  ∃ X1 X2, OBJ n0 P1 b1 c1 X1 W ∧ OBJ n0 P2 b2 c2 X2 W ∧ (∀ k, X1 k → ¬ X2 k) ∧ Below n0 w W
section
variable {n0 P1 P2 c1 c2 : Nat} {b1 b2 : Value} {w W W' : World}
theorem TE.swap (h : TE n0 w P1 b1 c1 P2 b2 c2 W) : TE n0 w P2 b2 c2 P1 b1 c1 W := by
  obtain ⟨X1, X2, h1, h2, h3, h4⟩ := h
  exact ⟨X2, X1, h2, h1, fun k a b => h3 k b a, h4⟩
theorem TE.cells (h : TE n0 w P1 b1 c1 P2 b2 c2 W) : W.cell? ⟨P1, 0, none⟩ = some b1 ∧ W.cell? ⟨P2, 0, none⟩ = some b2 := by
  obtain ⟨X1, X2, h1, h2, h3, h4⟩ := h
  exact ⟨h1.cell0, h2.cell0⟩
theorem TE.bel (h : TE n0 w P1 b1 c1 P2 b2 c2 W) : Below n0 w W := by
  obtain ⟨X1, X2, h1, h2, h3, h4⟩ := h
  exact h4
theorem TE.up (h : TE n0 w P1 b1 c1 P2 b2 c2 W) {d1 d2 : Nat} (h1 : c1 ≤ d1) (h2 : c2 ≤ d2) : TE n0 w P1 b1 d1 P2 b2 d2 W := by
  obtain ⟨X1, X2, a, b, c, d⟩ := h
  exact ⟨X1, X2, a.up h1, b.up h2, c, d⟩
theorem te_go {X1 X1' X2 : Nat → Prop} {d : Nat} (h1 : OBJ n0 P1 b1 c1 X1 W) (h2 : OBJ n0 P2 b2 c2 X2 W) (h3 : ∀ k, X1 k → ¬ X2 k) (h4 : Below n0 w W) (h5 : OBJ n0 P1 b1 d X1' W') (hf : Fr X1 W W') (hs : ∀ k, X1' k → k < W.heap.size → X1 k) : TE n0 w P1 b1 d P2 b2 c2 W' :=
  ⟨X1', X2, h5, h2.same (fun k hk => hf.block k (h2.lt hk) (fun h => h3 k h hk)), fun k a b => h3 k (hs k a (h2.lt b)) b, h4.trans (hf.below h1.n0s (fun _ hk => h1.ge hk))⟩
theorem TE.step1 {B : Nat} (h : TE n0 w P1 (ptr B) c1 P2 b2 c2 W) (hc : c1 ≤ 900000) (o : Oc) (ho : OcOK o) (hk : KIn o.k) (hw : RWs (fun k => n0 ≤ k) W o.a o.L) :
    Calls Tryz.prog 6 #[ptr P1, opv o] W fun e w' => e = .returned (.bool true) ∧ TE n0 w P1 (ptr B) (c1 + 2) P2 b2 c2 w' := by
  obtain ⟨X1, X2, h1, h2, h3, h4⟩ := h
  rcases h1 with ⟨e, _⟩ | ⟨q, hB, hl, rfl⟩
  · cases e
  · have hB' : B = q.B := by simpa using hB
    refine (stepL_any n0 P1 c1 q W hl hc o ho hk hw).mono ?_
    rintro e w' ⟨rfl, q', hq, hl', hf, hs⟩
    exact ⟨rfl, te_go (X1 := q.xb P1) (.inr ⟨q, hB, hl, rfl⟩) h2 h3 h4 (.inr ⟨q', by rw [hq, hB'], hl', rfl⟩) hf hs⟩
theorem TE.all1 {B : Nat} (h : TE n0 w P1 (ptr B) c1 P2 b2 c2 W) (hc : c1 ≤ 300000) :
    Calls Tryz.prog 7 #[ptr P1] W fun e w' => e = .returned (.bool true) ∧ TE n0 w P1 (ptr B) 900000 P2 b2 c2 w' := by
  obtain ⟨X1, X2, h1, h2, h3, h4⟩ := h
  rcases h1 with ⟨e, _⟩ | ⟨q, hB, hl, rfl⟩
  · cases e
  · have hB' : B = q.B := by simpa using hB
    refine (allL_any n0 P1 c1 q W hl hc).mono ?_
    rintro e w' ⟨rfl, q', hq, hl', hf, hs⟩
    exact ⟨rfl, te_go (X1 := q.xb P1) (.inr ⟨q, hB, hl, rfl⟩) h2 h3 h4 (.inr ⟨q', by rw [hq, hB'], hl', rfl⟩) hf hs⟩
theorem TE.kept1 (h : TE n0 w P1 b1 c1 P2 b2 c2 W) (hc : c1 ≤ 1000000) (hc2 : c2 ≤ 1000000) :
    Calls Tryz.prog 8 #[ptr P1] W fun e w' => e = .returned (.bool true) ∧ Calls Tryz.prog 8 #[ptr P2] w' fun e w2 => e = .returned (.bool true) ∧ Below n0 w w2 := by
  obtain ⟨X1, X2, h1, h2, h3, h4⟩ := h
  refine (h1.kept hc).mono ?_
  rintro e w' ⟨rfl, hf⟩
  have h5 : OBJ n0 P2 b2 c2 X2 w' := h2.same (fun k hk => hf.block k (h2.lt hk) (fun h => h3 k h hk))
  have hb : Below n0 w w' := h4.trans (hf.below h1.n0s (fun k hk => h1.ge hk))
  refine ⟨rfl, (h5.kept hc2).mono ?_⟩
  rintro e w2 ⟨rfl, hf2⟩
  exact ⟨rfl, hb.trans (hf2.below h5.n0s (fun k hk => h5.ge hk))⟩
end
end Go.Proofs.YtbmohlkcmhhpgaaGreat
/-
  BookExact: THE LAW.
-/
namespace Go.Proofs.YtbmohlkcmhhpgaaGreat
open Go.RowKit Go.Sort

set_option maxHeartbeats 8000000 in
set_option maxRecDepth 100000 in
theorem lawBookExact (w : World) (cap1 : Int) (rs1 : Bool) (s1 : Sn) (hs1 : SnAt w.heap.size w s1) (hsi1 : SnIn s1) (cap2 : Int) (rs2 : Bool) (s2 : Sn) (hs2 : SnAt w.heap.size w s2) (hsi2 : SnIn s2) (ao : Option Addr) (n c : Nat) (os : List Oc) (hn : n = os.length) (hops : OpsAt (fun k => w.heap.size ≤ k) w ao os) (hin : OpsIn os) (hnb : n ≤ 140737488351232) (ta : Option Addr) (tn tc : Nat) (ts : List Bool) (htn : tn = ts.length) (hts : CsAt w.heap.size w ta (ts.map Value.bool)) :
    Calls Tryz.prog 3 #[mdv cap1 rs1 s1, mdv cap2 rs2 s2, .slice ao n c, .slice ta tn tc] w fun e w' => PlPost w e w' := by
  obtain ⟨pn1, hpn1⟩ : ∃ pn, pn = s1.pins.length := ⟨_, rfl⟩
  obtain ⟨cn1, hcn1⟩ : ∃ cn, cn = s1.chs.length := ⟨_, rfl⟩
  obtain ⟨pa1, hpa1⟩ : ∃ pa, pa = s1.pa := ⟨_, rfl⟩
  obtain ⟨ca1, hca1⟩ : ∃ ca, ca = s1.ca := ⟨_, rfl⟩
  obtain ⟨pc1, hpc1⟩ : ∃ pc, pc = s1.pc := ⟨_, rfl⟩
  obtain ⟨cc1, hcc1⟩ : ∃ cc, cc = s1.cc := ⟨_, rfl⟩
  obtain ⟨la1, hla1⟩ : ∃ la, la = s1.la := ⟨_, rfl⟩
  have hmv1 : mdv cap1 rs1 s1 = .agg #[.int .i64 cap1, .bool rs1, .int .i64 la1, .slice pa1 pn1 pc1, .slice ca1 cn1 cc1] := by rw [hla1, hpa1, hpn1, hpc1, hca1, hcn1, hcc1]; rfl
  obtain ⟨pn2, hpn2⟩ : ∃ pn, pn = s2.pins.length := ⟨_, rfl⟩
  obtain ⟨cn2, hcn2⟩ : ∃ cn, cn = s2.chs.length := ⟨_, rfl⟩
  obtain ⟨pa2, hpa2⟩ : ∃ pa, pa = s2.pa := ⟨_, rfl⟩
  obtain ⟨ca2, hca2⟩ : ∃ ca, ca = s2.ca := ⟨_, rfl⟩
  obtain ⟨pc2, hpc2⟩ : ∃ pc, pc = s2.pc := ⟨_, rfl⟩
  obtain ⟨cc2, hcc2⟩ : ∃ cc, cc = s2.cc := ⟨_, rfl⟩
  obtain ⟨la2, hla2⟩ : ∃ la, la = s2.la := ⟨_, rfl⟩
  have hmv2 : mdv cap2 rs2 s2 = .agg #[.int .i64 cap2, .bool rs2, .int .i64 la2, .slice pa2 pn2 pc2, .slice ca2 cn2 cc2] := by rw [hla2, hpa2, hpn2, hpc2, hca2, hcn2, hcc2]; rfl
  obtain ⟨W1, hW1⟩ : ∃ W1, W1 = (w.alloc (.cells #[.int .i64 cap1, .bool rs1, .int .i64 la1, .slice pa1 pn1 pc1, .slice ca1 cn1 cc1] 27)).alloc (.cells #[.int .i64 cap2, .bool rs2, .int .i64 la2, .slice pa2 pn2 pc2, .slice ca2 cn2 cc2] 27) := ⟨_, rfl⟩
  obtain ⟨Ka, hKa⟩ : ∃ Ka, Ka = w.heap.size := ⟨_, rfl⟩
  obtain ⟨Kb, hKb⟩ : ∃ Kb, Kb = w.heap.size + 1 := ⟨_, rfl⟩
  have HB : Hid (Below w.heap.size w W1 ∧ W1.heap[Ka]? = some (.cells #[.int .i64 cap1, .bool rs1, .int .i64 la1, .slice pa1 pn1 pc1, .slice ca1 cn1 cc1] 27 (0, 0)) ∧ W1.heap[Kb]? = some (.cells #[.int .i64 cap2, .bool rs2, .int .i64 la2, .slice pa2 pn2 pc2, .slice ca2 cn2 cc2] 27 (0, 0))) := by
    rw [hW1, hKa, hKb]
    exact ⟨((Below.refl _ _).alloc (Nat.le_refl _) _).alloc (by simp) _, (heap_alloc_old _ _ (by simp)).trans (heap_alloc_new _ _ rfl), heap_alloc_new _ _ (by simp)⟩
  have HK1 : Hid (∀ W, Below W1.heap.size W1 W → W.cell? ⟨Ka, 0, none⟩ = some (.int .i64 cap1) ∧ W.cell? ⟨Ka, 1, none⟩ = some (.bool rs1) ∧ W.cell? ⟨Ka, 2, none⟩ = some (.int .i64 la1) ∧ W.cell? ⟨Ka, 3, none⟩ = some (.slice pa1 pn1 pc1) ∧ W.cell? ⟨Ka, 4, none⟩ = some (.slice ca1 cn1 cc1)) := fun W hW => by
    have h4 : W.heap[Ka]? = _ := (hW.block _ (blk_lt HB.out.2.1)).trans HB.out.2.1
    refine ⟨?_, ?_, ?_, ?_, ?_⟩ <;> simp [World.cell?, h4]
  have HS1 : Hid (∀ W, Below w.heap.size w W → SnAt w.heap.size W s1) := fun W hW => hs1.below hW
  have HK2 : Hid (∀ W, Below W1.heap.size W1 W → W.cell? ⟨Kb, 0, none⟩ = some (.int .i64 cap2) ∧ W.cell? ⟨Kb, 1, none⟩ = some (.bool rs2) ∧ W.cell? ⟨Kb, 2, none⟩ = some (.int .i64 la2) ∧ W.cell? ⟨Kb, 3, none⟩ = some (.slice pa2 pn2 pc2) ∧ W.cell? ⟨Kb, 4, none⟩ = some (.slice ca2 cn2 cc2)) := fun W hW => by
    have h4 : W.heap[Kb]? = _ := (hW.block _ (blk_lt HB.out.2.2)).trans HB.out.2.2
    refine ⟨?_, ?_, ?_, ?_, ?_⟩ <;> simp [World.cell?, h4]
  have HS2 : Hid (∀ W, Below w.heap.size w W → SnAt w.heap.size W s2) := fun W hW => hs2.below hW
  have HO : Hid (∀ W, Below w.heap.size w W → OpsAt (fun k => w.heap.size ≤ k) W ao os) := fun W hW => hops.fr ⟨hW.os, hW.tape, hW.output, hW.size, fun k hk _ => hW.block k hk⟩
  have HT : Hid (∀ W, Below w.heap.size w W → CsAt w.heap.size W ta (ts.map Value.bool)) := fun W hW => hts.below hW
  have HBw : Hid (∀ W, Below W1.heap.size W1 W → Below w.heap.size w W) := fun W hW => HB.out.1.trans (hW.mono HB.out.1.size)
  have HP1 : Hid (∀ W, Below W1.heap.size W1 W → Calls Tryz.prog 4 #[.agg #[.int .i64 cap1, .bool rs1, .int .i64 la1, .slice pa1 pn1 pc1, .slice ca1 cn1 cc1], .slice ao n c] W fun e w' => ∃ r, e = .returned (.int .i64 r) ∧ PartsO pn1 (s1.chs.map (fun c => c.l.length)) os r ∧ Below W.heap.size W w') := fun W hW => by
    have hch : ChsAt W ca1 (s1.chs.map (fun c => c.l.length)) := by rw [hca1]; exact (HS1.out W (HBw.out W hW)).chs hsi1.nv
    exact partsO_any _ W cap1 rs1 la1 pa1 pn1 pc1 ca1 cn1 cc1 _ ao n c os (by rw [List.length_map]; exact hcn1) hn hch (HO.out W (HBw.out W hW)) (by rw [hpn1]; exact hsi1.np) (by rw [hcn1]; exact hsi1.nc) hnb
  have HM1 : Hid (∀ W, Below w.heap.size w W → SnOK s1 → Calls Tryz.prog 5 #[.agg #[.int .i64 cap1, .bool rs1, .int .i64 la1, .slice pa1 pn1 pc1, .slice ca1 cn1 cc1]] W fun e w' => MadePost W cap1 rs1 s1 e w') := fun W hW hso => by
    have h1 := made_any w.heap.size W cap1 rs1 s1 (HS1.out W hW) hW.size hso
    rw [hmv1] at h1
    exact h1
  have HSo1 : Hid (∀ r, PartsO pn1 (s1.chs.map (fun c => c.l.length)) os r → 0 ≤ r → SnOK s1) := fun r hr h0 => hsi1.ok (os := os) (r := r) (by rw [← hpn1]; exact hr) h0
  have HP2 : Hid (∀ W, Below W1.heap.size W1 W → Calls Tryz.prog 4 #[.agg #[.int .i64 cap2, .bool rs2, .int .i64 la2, .slice pa2 pn2 pc2, .slice ca2 cn2 cc2], .slice ao n c] W fun e w' => ∃ r, e = .returned (.int .i64 r) ∧ PartsO pn2 (s2.chs.map (fun c => c.l.length)) os r ∧ Below W.heap.size W w') := fun W hW => by
    have hch : ChsAt W ca2 (s2.chs.map (fun c => c.l.length)) := by rw [hca2]; exact (HS2.out W (HBw.out W hW)).chs hsi2.nv
    exact partsO_any _ W cap2 rs2 la2 pa2 pn2 pc2 ca2 cn2 cc2 _ ao n c os (by rw [List.length_map]; exact hcn2) hn hch (HO.out W (HBw.out W hW)) (by rw [hpn2]; exact hsi2.np) (by rw [hcn2]; exact hsi2.nc) hnb
  have HM2 : Hid (∀ W, Below w.heap.size w W → SnOK s2 → Calls Tryz.prog 5 #[.agg #[.int .i64 cap2, .bool rs2, .int .i64 la2, .slice pa2 pn2 pc2, .slice ca2 cn2 cc2]] W fun e w' => MadePost W cap2 rs2 s2 e w') := fun W hW hso => by
    have h1 := made_any w.heap.size W cap2 rs2 s2 (HS2.out W hW) hW.size hso
    rw [hmv2] at h1
    exact h1
  have HSo2 : Hid (∀ r, PartsO pn2 (s2.chs.map (fun c => c.l.length)) os r → 0 ≤ r → SnOK s2) := fun r hr h0 => hsi2.ok (os := os) (r := r) (by rw [← hpn2]; exact hr) h0
  have HN := hidC hn
  have HTn := hidC htn
  have HIn := hidC hin
  rw [hmv1, hmv2]
  clear hpn1 hcn1 hpa1 hca1 hpc1 hcc1 hla1 hs1 hmv1 hsi1 hpn2 hcn2 hpa2 hca2 hpc2 hcc2 hla2 hs2 hmv2 hsi2 hops hts hn htn hin
  go_enter Tryz.func3, Tryz.ntmps3
  go_upto_region 1 with fail
  rw [← hW1, ← hKb, ← hKa]
  clear hW1 hKb hKa
  obtain ⟨k0, k1, k2, k3, k4⟩ := HK1.out W1 (Below.refl _ _)
  have H1 := hidC (HP1.out W1 (Below.refl _ _))
  go_wp2_with fail
  clear k0 k1 k2 k3 k4
  refine H1.out.mono ?_
  rintro e X2 ⟨r1, rfl, hr1, hb2⟩
  have HQ2 := hidC hb2
  have HR1 := hidC hr1
  clear hr1 hb2 H1
  by_cases hn1 : r1 < 0
  · have hd1 : decide (r1 < 0) = true := decide_eq_true hn1
    have HX : Hid (PlPost w (.returned (.bool true)) X2) := ⟨rfl, HBw.out _ HQ2.out⟩
    go_wp2
    go_ret
    exact HX.out
  have hd1 : decide (r1 < 0) = false := decide_eq_false hn1
  obtain ⟨k0, k1, k2, k3, k4⟩ := HK2.out X2 HQ2.out
  have H2 := hidC (HP2.out X2 HQ2.out)
  go_wp2_with fail
  clear k0 k1 k2 k3 k4
  refine H2.out.mono ?_
  rintro e X3 ⟨r2, rfl, hr2, hb3⟩
  have HQ3 : Hid (Below W1.heap.size W1 X3) := HQ2.out.trans (hb3.mono HQ2.out.size)
  have HR2 := hidC hr2
  clear hr2 hb3 H2 HQ2
  by_cases hn2 : r2 < 0
  · have hd2 : decide (r2 < 0) = true := decide_eq_true hn2
    have HX : Hid (PlPost w (.returned (.bool true)) X3) := ⟨rfl, HBw.out _ HQ3.out⟩
    go_wp2
    go_ret
    exact HX.out
  have hd2 : decide (r2 < 0) = false := decide_eq_false hn2
  have HPo := hidC (HR1.out (by omega))
  have HO1 := hidC (HSo1.out r1 HR1.out (by omega))
  have HO2 := hidC (HSo2.out r2 HR2.out (by omega))
  clear HR1 HR2 HSo1 HSo2 HP1 HP2
  obtain ⟨k0, k1, k2, k3, k4⟩ := HK1.out X3 HQ3.out
  have HC1 := hidC (HM1.out X3 (HBw.out _ HQ3.out) HO1.out)
  go_wp2_with fail
  clear k0 k1 k2 k3 k4
  refine HC1.out.mono ?_
  rintro e X4 hmd
  obtain ⟨P1, b1, Y1, rfl, hbv1, hob1, hY1, hb4⟩ := hmd.obj (n0 := w.heap.size) (HBw.out _ HQ3.out).size
  have HQ4 : Hid (Below W1.heap.size W1 X4) := HQ3.out.trans (hb4.mono HQ3.out.size)
  have HE1 := hidC hob1
  clear hmd hob1 hY1 hb4 HC1 HQ3
  obtain ⟨k0, k1, k2, k3, k4⟩ := HK2.out X4 HQ4.out
  have HC2 := hidC (HM2.out X4 (HBw.out _ HQ4.out) HO2.out)
  go_wp2_with fail
  clear k0 k1 k2 k3 k4
  refine HC2.out.mono ?_
  rintro e X5 hmd
  obtain ⟨P2, b2, Y2, rfl, hbv2, hob2, hY2, hb5⟩ := hmd.obj (n0 := w.heap.size) (HBw.out _ HQ4.out).size
  have HTE : Hid (TE w.heap.size w P1 b1 (2 * 0) P2 b2 (2 * 0) X5) := by
    have h4 := HBw.out _ HQ4.out
    exact ⟨Y1, Y2, HE1.out.same (fun k hk => hb5.block k (HE1.out.lt hk)), hob2, fun k a b => by
      have h1 := HE1.out.lt a
      have h2 := hY2 k b
      omega, h4.trans (hb5.mono h4.size)⟩
  have hn5 : n ≤ 100000 := by rw [HN.out]; exact HPo.out.2.2.2.1
  have HV := hidC (And.intro hbv1 hbv2)
  clear hmd hob2 hY2 hb5 HC2 HQ4 HE1 HM1 HM2 HO1 HO2 HK1 HK2 HS1 HS2 hbv1 hbv2
  go_wp2_with fail
  go_loopw [10, 13] (fun _ y wr => ∃ i : Nat, i ≤ n ∧ y = .int .i64 (i : Int) ∧ Hid (TE w.heap.size w P1 b1 (2 * i) P2 b2 (2 * i) wr)) (fun _ y _ => n - (intOf y).toNat)
  case atStart => exact ⟨0, Nat.zero_le _, rfl, HTE.out⟩
  case round =>
    clear HTE
    obtain ⟨i, hi', rfl, HI⟩ := hrel
    by_cases hlt : i < n
    · have hlti : (i : Int) < (n : Int) := by omega
      have hil : i < os.length := by have := HN.out; omega
      have HPi := hidC (HPo.out.2.2.2.2 os[i] (List.getElem_mem hil))
      have HIo := hidC (HIn.out _ (List.getElem_mem hil))
      obtain ⟨b, off, hao, hoc⟩ := HO.out wr HI.out.bel i hil
      subst hao
      have HOk : Hid (OcOK os[i] ∧ KIn os[i].k ∧ RWs (fun k => w.heap.size ≤ k) wr os[i].a os[i].L) := ⟨⟨HPi.out.1, HPi.out.2, HIo.out.1, HIo.out.2.1⟩, HIo.out.2.2.2, hoc.ws⟩
      obtain ⟨_, _, c0, c1, c2, c3, c4, _⟩ := hoc
      generalize os[i] = o at *
      obtain ⟨kind, oa, occ, oL, m, k1, k2⟩ := o
      simp only at c0 c1 c2 c3 c4
      clear HPi HIo
      obtain ⟨x0, y0⟩ := HI.out.cells
      by_cases hti : i < tn
      · have htii : (i : Int) < (tn : Int) := by omega
        have htl : i < ts.length := by have := HTn.out; omega
        obtain ⟨tb, toff, hta, _, tcell⟩ := HT.out wr HI.out.bel i (.bool ts[i]) (by simp [htl])
        subst hta
        cases htv : ts[i] with
        | true =>
          rw [htv] at tcell
          rcases HV.out.2 with hbe | ⟨B, hbe⟩
          · subst hbe
            have HZ : Hid (TE w.heap.size w P1 b1 (2 * (i + 1)) P2 (.pointer none) (2 * (i + 1)) wr) := HI.out.up (by omega) (by omega)
            clear HI HOk c0 c1 c2 c3 c4
            go_wp2
            exact ⟨⟨i + 1, by omega, by go_num, HZ.out⟩, by simp [intOf]; omega⟩
          · subst hbe
            have HSt := hidC (HI.out.swap.step1 (by omega) ⟨kind, oa, occ, oL, m, (k1, k2)⟩ HOk.out.1 HOk.out.2.1 HOk.out.2.2)
            simp only [opv] at HSt
            generalize oL.length = ln at *
            clear HI HOk
            go_wp2_with fail
            clear c0 c1 c2 c3 c4 x0 y0
            refine HSt.out.mono ?_
            rintro e W2 ⟨rfl, h2⟩
            have HZ : Hid (TE w.heap.size w P1 b1 (2 * (i + 1)) P2 (ptr B) (2 * (i + 1)) W2) := (h2.up (by omega) (by omega)).swap
            clear h2 HSt
            go_wp2
            exact ⟨⟨i + 1, by omega, by go_num, HZ.out⟩, by simp [intOf]; omega⟩
        | false =>
          rw [htv] at tcell
          rcases HV.out.1 with hbe | ⟨B, hbe⟩
          · subst hbe
            have HZ : Hid (TE w.heap.size w P1 (.pointer none) (2 * (i + 1)) P2 b2 (2 * (i + 1)) wr) := HI.out.up (by omega) (by omega)
            clear HI HOk c0 c1 c2 c3 c4
            go_wp2
            exact ⟨⟨i + 1, by omega, by go_num, HZ.out⟩, by simp [intOf]; omega⟩
          · subst hbe
            have HSt := hidC (HI.out.step1 (by omega) ⟨kind, oa, occ, oL, m, (k1, k2)⟩ HOk.out.1 HOk.out.2.1 HOk.out.2.2)
            simp only [opv] at HSt
            generalize oL.length = ln at *
            clear HI HOk
            go_wp2_with fail
            clear c0 c1 c2 c3 c4 x0 y0
            refine HSt.out.mono ?_
            rintro e W2 ⟨rfl, h2⟩
            have HZ : Hid (TE w.heap.size w P1 (ptr B) (2 * (i + 1)) P2 b2 (2 * (i + 1)) W2) := h2.up (by omega) (by omega)
            clear h2 HSt
            go_wp2
            exact ⟨⟨i + 1, by omega, by go_num, HZ.out⟩, by simp [intOf]; omega⟩
      · have htii : ¬ (i : Int) < (tn : Int) := by omega
        rcases HV.out.1 with hbe | ⟨B, hbe⟩
        · subst hbe
          have HZ : Hid (TE w.heap.size w P1 (.pointer none) (2 * (i + 1)) P2 b2 (2 * (i + 1)) wr) := HI.out.up (by omega) (by omega)
          clear HI HOk c0 c1 c2 c3 c4
          go_wp2
          exact ⟨⟨i + 1, by omega, by go_num, HZ.out⟩, by simp [intOf]; omega⟩
        · subst hbe
          have HSt := hidC (HI.out.step1 (by omega) ⟨kind, oa, occ, oL, m, (k1, k2)⟩ HOk.out.1 HOk.out.2.1 HOk.out.2.2)
          simp only [opv] at HSt
          generalize oL.length = ln at *
          clear HI HOk
          go_wp2_with fail
          clear c0 c1 c2 c3 c4 x0 y0
          refine HSt.out.mono ?_
          rintro e W2 ⟨rfl, h2⟩
          have HZ : Hid (TE w.heap.size w P1 (ptr B) (2 * (i + 1)) P2 b2 (2 * (i + 1)) W2) := h2.up (by omega) (by omega)
          clear h2 HSt
          go_wp2
          exact ⟨⟨i + 1, by omega, by go_num, HZ.out⟩, by simp [intOf]; omega⟩
    · have hie : i = n := by omega
      subst hie
      obtain ⟨x0, y0⟩ := HI.out.cells
      have hni : ¬ (i : Int) < (i : Int) := by omega
      rcases HV.out.1 with hbe | ⟨B, hbe⟩
      · subst hbe
        rcases HV.out.2 with hbf | ⟨B', hbf⟩
        · subst hbf
          have HKp := hidC (TE.kept1 HI.out (by omega) (by omega))
          go_wp2_with fail
          refine HKp.out.mono ?_
          rintro e W6 ⟨rfl, hk2⟩
          have HK2 := hidC hk2
          clear hk2 HKp
          go_wp2_with fail
          refine HK2.out.mono ?_
          rintro e W7 ⟨rfl, hb7⟩
          have HX : Hid (PlPost w (.returned (.bool true)) W7) := ⟨rfl, hb7⟩
          clear hb7 HK2
          go_wp2
          go_ret
          exact HX.out
        · subst hbf
          have HA2 := hidC (HI.out.swap.all1 (by omega))
          clear HI
          go_wp2_with fail
          refine HA2.out.mono ?_
          rintro e V2 ⟨rfl, hv2⟩
          have HV2 := hidC hv2.swap
          clear hv2 HA2
          have HKp := hidC (TE.kept1 HV2.out (by omega) (by omega))
          go_wp2_with fail
          refine HKp.out.mono ?_
          rintro e W6 ⟨rfl, hk2⟩
          have HK2 := hidC hk2
          clear hk2 HKp
          go_wp2_with fail
          refine HK2.out.mono ?_
          rintro e W7 ⟨rfl, hb7⟩
          have HX : Hid (PlPost w (.returned (.bool true)) W7) := ⟨rfl, hb7⟩
          clear hb7 HK2
          go_wp2
          go_ret
          exact HX.out
      · subst hbe
        have HA1 := hidC (HI.out.all1 (by omega))
        clear HI
        go_wp2_with fail
        refine HA1.out.mono ?_
        rintro e V1 ⟨rfl, hv1⟩
        have HV1 := hidC hv1
        clear hv1 HA1 x0 y0
        obtain ⟨x0, y0⟩ := HV1.out.cells
        rcases HV.out.2 with hbf | ⟨B', hbf⟩
        · subst hbf
          have HKp := hidC (TE.kept1 HV1.out (by omega) (by omega))
          go_wp2_with fail
          refine HKp.out.mono ?_
          rintro e W6 ⟨rfl, hk2⟩
          have HK2 := hidC hk2
          clear hk2 HKp
          go_wp2_with fail
          refine HK2.out.mono ?_
          rintro e W7 ⟨rfl, hb7⟩
          have HX : Hid (PlPost w (.returned (.bool true)) W7) := ⟨rfl, hb7⟩
          clear hb7 HK2
          go_wp2
          go_ret
          exact HX.out
        · subst hbf
          have HA2 := hidC (HV1.out.swap.all1 (by omega))
          clear HV1
          go_wp2_with fail
          refine HA2.out.mono ?_
          rintro e V2 ⟨rfl, hv2⟩
          have HV2 := hidC hv2.swap
          clear hv2 HA2
          have HKp := hidC (TE.kept1 HV2.out (by omega) (by omega))
          go_wp2_with fail
          refine HKp.out.mono ?_
          rintro e W6 ⟨rfl, hk2⟩
          have HK2 := hidC hk2
          clear hk2 HKp
          go_wp2_with fail
          refine HK2.out.mono ?_
          rintro e W7 ⟨rfl, hb7⟩
          have HX : Hid (PlPost w (.returned (.bool true)) W7) := ⟨rfl, hb7⟩
          clear hb7 HK2
          go_wp2
          go_ret
          exact HX.out
end Go.Proofs.YtbmohlkcmhhpgaaGreat
/-
  FROM THE READING OF A []bool ARGUMENT TO A LIST.
-/
namespace Go.Proofs.YtbmohlkcmhhpgaaGreat
open Go.ChangeShapes Go.WideShapes Go.ChangeAt Go.RowKit

theorem bytesBool' : Tryz.prog.bytesOf 4 = 1 := by kernel_rfl
theorem bools_flat : ∀ l : List Bool, l.flatMap (fun x => [Value.bool x]) = l.map Value.bool
  | [] => rfl
  | x :: l => by simp [bools_flat l]
set_option maxRecDepth 100000 in
theorem bools_of_trod {H : Type} {enc : TypeId × Value → H} {W : World} {fuel : Nat} {cs : List Value} {y : DataW H × List MemPlace} (hf : DataW.trod enc Tryz.prog W 0 (fun _ => true) true fuel 29 cs = some y) :
    ∃ (a : Option Addr) (len cap : Nat) (xs : List Bool), cs = [.slice a len cap] ∧ len = xs.length ∧ (a = none → cap = 0) ∧ CsAt W.heap.size W a (xs.map Value.bool) ∧
      ((∀ z ∈ y.1.weights Tryz.prog 29, z ≤ reachBytes) → len ≤ reachBytes) := by
  obtain ⟨a, len, cap, xs, h1, h2, h3, h4, _, h6⟩ := slice_of_trod (fun x : Bool => [Value.bool x]) (sz := 1) (bt := 1) (fun _ => rfl) (by omega) (fun _ => True) (fun _ => True) Tryz.underlying29 cellsBool' bytesBool' (fun fuel cs y hl hf => by
    obtain ⟨x, h0, _⟩ := DataW.trod_bool Tryz.underlying4 hf
    exact ⟨x, h0, trivial, fun _ => trivial⟩) hf
  rw [bools_flat] at h4
  exact ⟨a, len, cap, xs, h1, h2, h3, h4, fun hz => by have := (h6 hz).1; omega⟩
end Go.Proofs.YtbmohlkcmhhpgaaGreat
/-
  BookExact: THE ROW.
-/
namespace Go.Proofs.YtbmohlkcmhhpgaaGreat.bookExact
open Go.ChangeShapes Go.WideShapes Go.ChangeAt Go.RowKit

theorem weights_at {H : Type} {ts : List TypeId} {ds : List (DataW H)} {j : Nat} {t : TypeId} {d : DataW H} (h : (DataW.weightsEach Tryz.prog ts ds).all (· ≤ reachBytes) = true) (ht : ts[j]? = some t) (hd : ds[j]? = some d) : ∀ z ∈ d.weights Tryz.prog t, z ≤ reachBytes := fun z hz => by
  have := List.all_eq_true.1 h _ (DataW.weights_mem_each ht hd z hz)
  simpa using this
theorem own : ownKnob Tryz.prog.godebug = none := by kernel_rfl
theorem laidOut : laidOutB Tryz.prog = true := by kernel_rfl

set_option maxRecDepth 100000 in
theorem lifted (os : Os) (started : os.Started) (H : Type) (enc : TypeId × Value → H) :
    ReturnsInHanded {} Tryz.checked os 3 .any (Rows.bookExactSpec.pre6 enc Tryz.prog Tryz.f3 Rows.bookExactRow.domain false) (Rows.bookExactSpec.post enc Tryz.prog Tryz.f3 false true false false) := by
  refine returnsInHanded_of_change_sized (C := Tryz.checked) own started (by kernel_rfl) Tryz.func3
    (ChangeSpec.witness6 (enc := enc) (C := Tryz.checked) false ⟨#[], #[.agg #[.int .i64 0, .bool false, .int .i64 0, .slice none 0 0, .slice none 0 0], .agg #[.int .i64 0, .bool false, .int .i64 0, .slice none 0 0, .slice none 0 0], .slice none 0 0, .slice none 0 0], []⟩ 8 (by kernel_rfl) (by kernel_rfl) (by kernel_rfl) (by kernel_rfl)) ?_
  intro W base args ds gs before hval0 hW hcnd hsz0 _
  have hval : ∀ (j : Nat) t v, Tryz.f3.params[j]? = some t → args[j]? = some v → Value.okWide Tryz.prog W .any base t v := hval0
  have hW' := hW
  obtain ⟨p, q, hA0, hV, rfl, hfz, hnd⟩ := hW
  have hA : DataW.TrodAll enc Tryz.prog W 0 (fun _ => true) true Tryz.f3.params.toList args.toList ds p := hA0
  have hsz0 : (DataW.weightsEach Tryz.prog (Tryz.f3.params.toList ++ Rows.bookExactSpec.plain.varTypes Tryz.prog) (ds ++ gs)).all (· ≤ reachBytes) = true := hsz0
  rw [Tryz.params3] at hA hval hsz0
  obtain ⟨v0, vs0, d0, ds0, p0, q0, hargs, rfl, rfl, h0, r0⟩ := trodAll_cons hA
  obtain ⟨v1, vs1, d1, ds1, p1, q1, rfl, rfl, rfl, h1, r1⟩ := trodAll_cons r0
  obtain ⟨v2, vs2, d2, ds2, p2, q2, rfl, rfl, rfl, h2, r2⟩ := trodAll_cons r1
  obtain ⟨v3, vs3, d3, ds3, p3, q3, rfl, rfl, rfl, h3, r3⟩ := trodAll_cons r2
  obtain ⟨rfl, rfl, rfl⟩ := trodAll_nil r3
  obtain rfl : args = #[v0, v1, v2, v3] := by cases args; simp_all
  obtain ⟨rfl, rfl⟩ := trodVars_none hV
  have k0 := h0
  have lt0 : ∀ x ∈ p0, x.block < W.heap.size := by obtain ⟨m, hm⟩ := k0; exact DataW.trod_lt m _ _ _ hm
  obtain ⟨cap_0, rs_0, s_0, rfl, hs_0, hx0⟩ := made_of_trod (hval 0 27 v0 rfl rfl) h0
  have hsi_0 := hx0 (weights_at hsz0 (j := 0) rfl rfl)
  have k1 := h1
  have lt1 : ∀ x ∈ p1, x.block < W.heap.size := by obtain ⟨m, hm⟩ := k1; exact DataW.trod_lt m _ _ _ hm
  obtain ⟨cap_1, rs_1, s_1, rfl, hs_1, hx1⟩ := made_of_trod (hval 1 27 v1 rfl rfl) h1
  have hsi_1 := hx1 (weights_at hsz0 (j := 1) rfl rfl)
  obtain ⟨a_2, len_2, cap_2, rfl⟩ := okWide_slice Tryz.underlying28 (hval 2 28 v2 rfl rfl)
  have k2 := h2
  have lt2 : ∀ x ∈ p2, x.block < W.heap.size := by obtain ⟨m, hm⟩ := k2; exact DataW.trod_lt m _ _ _ hm
  obtain ⟨fuel2, hf2⟩ := h2
  obtain ⟨a2', len2', cap2', os_2, hcs2, hn_2, hin_2, hx2⟩ := ops_of_trod hf2
  simp [Value.cells] at hcs2
  obtain ⟨rfl, rfl, rfl⟩ := hcs2
  obtain ⟨hl_2, hr_2⟩ := hx2 (weights_at hsz0 (j := 2) rfl rfl)
  obtain ⟨a_3, len_3, cap_3, rfl⟩ := okWide_slice Tryz.underlying29 (hval 3 29 v3 rfl rfl)
  have k3 := h3
  have lt3 : ∀ x ∈ p3, x.block < W.heap.size := by obtain ⟨m, hm⟩ := k3; exact DataW.trod_lt m _ _ _ hm
  obtain ⟨fuel3, hf3⟩ := h3
  obtain ⟨a3', len3', cap3', ts_3, hcs3, hn_3, _, ht_3, _⟩ := bools_of_trod hf3
  simp [Value.cells] at hcs3
  obtain ⟨rfl, rfl, rfl⟩ := hcs3
  simp only [reachBytes] at hr_2
  clear hA0 hval0
  refine (lawBookExact W cap_0 rs_0 s_0 hs_0 hsi_0 cap_1 rs_1 s_1 hs_1 hsi_1 a_2 len_2 cap_2 os_2 hn_2 hl_2 hin_2 (by omega) a_3 len_3 cap_3 ts_3 hn_3 ht_3).mono fun e W' hp => ?_
  obtain ⟨he, bel⟩ := hp
  subst he
  exact ⟨_, rfl, _, _, _, [], _, [], hW', trodAll_mk1 (shut_bool Tryz.underlying4 _), (trodAll_cons_mk (Below.trod laidOut (by kernel_rfl) (of_decide_eq_true (by kernel_rfl)) k0 bel lt0) (trodAll_cons_mk (Below.trod laidOut (by kernel_rfl) (of_decide_eq_true (by kernel_rfl)) k1 bel lt1) (trodAll_cons_mk (Below.trod laidOut (by kernel_rfl) (of_decide_eq_true (by kernel_rfl)) k2 bel lt2) (trodAll_cons_mk (Below.trod laidOut (by kernel_rfl) (of_decide_eq_true (by kernel_rfl)) k3 bel lt3) trodAll_mk0)))), rfl, bel.frame _, fun h => by cases h⟩

theorem proved : Rows.BookExactSaid :=
  OpenClaim.holds_of_wide 3 Tryz.f3 rfl rfl rfl rfl rfl rfl rfl ⟨rfl, rfl, rfl, rfl, rfl⟩ rfl rfl rfl rfl rfl (by kernel_rfl) Tryz.func3 (by kernel_rfl)
    (of_decide_eq_true (by kernel_rfl)) (by unfold Func.isWrapper; first | (rw [if_pos (by decide +kernel)]; kernel_rfl) | (rw [if_neg (by decide +kernel)]; exact ⟨rfl, rfl⟩))
    (fun os started H enc _ => lifted os started H enc)
end Go.Proofs.YtbmohlkcmhhpgaaGreat.bookExact
namespace Go.Proofs.YtbmohlkcmhhpgaaGreat
theorem bookExact_holds : Rows.BookExactSaid := bookExact.proved
#print axioms bookExact_holds
end Go.Proofs.YtbmohlkcmhhpgaaGreat
