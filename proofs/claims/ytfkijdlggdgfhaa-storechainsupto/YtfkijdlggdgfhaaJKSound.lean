import Derived.Test.YtfkijdlggdgfhaaSStK
import Derived.Test.YtfkijdlggdgfhaaKMath
import Derived.Test.YtfkijdlggdgfhaaJLawSRoomH
import Derived.Test.YtfkijdlggdgfhaaCKeys
import Derived.RangeFuncNested
import Derived.RangeFuncBound
import Derived.RangeFuncCalls
import Derived.RangeFuncLeaves
import Derived.RangeFuncBox
import Derived.Shelf.Abstract
import Derived.Shelf.RegionOpen
import Derived.WalkKit
import Derived.OwnWalkIn
import Derived.TacticsInMore
import Derived.LoopNIn
import Derived.LoopIn
import Derived.Test.YtfkijdlggdgfhaaKList
import Derived.Test.YtfkijdlggdgfhaaKBase
import Derived.Test.YtfkijdlggdgfhaaKChk
import Derived.Shelf.GgSortFunc.RowK
import Derived.Laws.IdiomCopy
import Derived.Laws.OwnMore
import Derived.Test.YtfkijdlggdgfhaaShelf2
import Derived.Test.YtfkijdlggdgfhaaJSFil
import Derived.Stop.RegionWithIn
/-
  visible, Visible.
-/
namespace Go.Proofs.Ytfkijdlggdgfhaa
open Go.RowKit Go.Sort

/-- the newest one's number that is not above a batch -/
def visN (ys : List Vr) (at_ : Int) : Int := match (ys.filter (fun v => decide (v.ba ≤ at_))).getLast? with | none => 0 | some v => v.n
theorem prefix_of : ∀ (ys : List Vr) (at_ : Int), ys.Pairwise (fun a b => a.ba ≤ b.ba) → ∃ A C, ys = A ++ C ∧ (∀ x ∈ A, x.ba ≤ at_) ∧ (∀ x ∈ C, at_ < x.ba)
  | [], _, _ => ⟨[], [], rfl, by simp, by simp⟩
  | y :: ys, at_, hp => by
    obtain ⟨h1, h2⟩ := List.pairwise_cons.1 hp
    by_cases hy : y.ba ≤ at_
    · obtain ⟨A, C, rfl, hA, hC⟩ := prefix_of ys at_ h2
      refine ⟨y :: A, C, rfl, fun x hx => ?_, hC⟩
      rcases List.mem_cons.1 hx with rfl | hx
      · exact hy
      · exact hA x hx
    · refine ⟨[], y :: ys, rfl, by simp, fun x hx => ?_⟩
      rcases List.mem_cons.1 hx with rfl | hx
      · omega
      · have := h1 x hx; omega
theorem visN_split {A C : List Vr} {at_ : Int} (hA : ∀ x ∈ A, x.ba ≤ at_) (hC : ∀ x ∈ C, at_ < x.ba) : aheadN (A ++ C) A.length = visN (A ++ C) at_ := by
  have hf : (A ++ C).filter (fun v => decide (v.ba ≤ at_)) = A := by
    rw [List.filter_append, List.filter_eq_self.2 (fun x hx => by simpa using hA x hx), List.filter_eq_nil_iff.2 (fun x hx => by have := hC x hx; simp; omega), List.append_nil]
  unfold visN aheadN
  rw [hf]
  rcases Nat.eq_zero_or_pos A.length with h0 | h0
  · have : A = [] := List.length_eq_zero_iff.1 h0
    subst this
    rfl
  · have hne : A ≠ [] := List.length_pos_iff.1 h0
    rw [if_neg (by omega), List.getLast?_eq_some_getLast hne]
    simp only
    rw [getElem!_pos _ (A.length - 1) (by simp; omega), List.getElem_append_left (by omega), List.getLast_eq_getElem]
theorem Line.rise {w : World} {c g off cc : Nat} {ys : List Vr} (h : Line w c g off cc ys) : ys.Pairwise (fun a b => a.ba ≤ b.ba) := h.pl.imp (fun {a b} hab => by unfold later at hab; omega)
set_option maxRecDepth 100000 in
set_option maxHeartbeats 1000000 in
theorem visible_any (w : World) (c g off cc : Nat) (ys : List Vr) (at_ : Int) (h : Line w c g off cc ys) :
    Calls Try.prog 33 #[ptr c, .int .i64 at_] w fun e w' => e = .returned (.int .i64 (visN ys at_)) ∧ Below w.heap.size w w' := by
  obtain ⟨A, C, rfl, hA, hC⟩ := prefix_of ys at_ h.rise
  have hmf : ∀ (fn : Fn) (first cap : Array Value) (w : World), (Instr.makeFunc fn first cap).run Try.prog w = .ok (.func fn first cap) w := fun _ _ _ _ => rfl
  have hc0 := h.chc
  have hcl := blk_lt h.ch
  obtain ⟨W, hW⟩ : ∃ W, W = (w.alloc (.cells #[ptr c] 74)).alloc (.cells #[.int .i64 at_] 3) := ⟨_, rfl⟩
  have HB : Hid (Below w.heap.size w W) := by
    show Below _ _ _
    rw [hW]
    exact ((Below.refl _ _).alloc (Nat.le_refl _) _).alloc (by simp) _
  have k1 : W.cell? ⟨w.heap.size, 0, none⟩ = some (ptr c) := by
    rw [World.cell?, hW, heap_alloc_old _ _ (by simp), heap_alloc_new _ _ rfl]; rfl
  have k2 : W.cell? ⟨w.heap.size + 1, 0, none⟩ = some (.int .i64 at_) := by
    rw [World.cell?, hW, heap_alloc_new _ _ (by simp)]; rfl
  have HL : Hid (Line W c g off cc (A ++ C)) := h.kept HB.out
  have hcW := HL.out.chc
  have HS : Hid (Calls Try.prog 53 #[.int .i64 ((A ++ C).length : Int), .func (.func 54) #[] #[ptr w.heap.size, ptr (w.heap.size + 1)]] W fun e w' => e = .returned (.int .i64 (A.length : Int)) ∧ Below W.heap.size W w') := by
    have hs := Any.sort_Search laysSearch 54 #[ptr w.heap.size, ptr (w.heap.size + 1)] (A ++ C).length (fun i => decide (at_ < (A ++ C)[i]!.ba)) W (enters_of Try.func54 (by kernel_rfl) rfl) (by have := HL.out.sz; omega)
      (fun m os i hi => by
        have hg : Below W.heap.size W (grow (W.drewN m) os) := below_grown_sl _ W m os (Nat.le_refl _)
        refine (vis1_any _ w.heap.size (w.heap.size + 1) c g off cc (A ++ C) at_ i (HL.out.kept hg) hi ((hg.cell (p := ⟨w.heap.size, 0, none⟩) (by rw [hW]; simp; omega)).trans k1) ((hg.cell (p := ⟨w.heap.size + 1, 0, none⟩) (by rw [hW]; simp)).trans k2)).mono ?_
        rintro e w' ⟨rfl, q, rfl⟩
        exact ⟨rfl, q, #[], by rw [grow_empty]⟩)
      (fun a b hab hb ha => by
        have ha' := of_decide_eq_true ha
        refine decide_eq_true ?_
        by_cases e : a = b
        · rw [← e]; exact ha'
        · have hp := List.pairwise_iff_getElem.1 HL.out.rise a b (by omega) hb (by omega)
          rw [getElem!_pos _ a (by omega)] at ha'
          rw [getElem!_pos _ b hb]
          omega)
    have hcn : (List.range (A ++ C).length).countP (fun i => !(fun i : Nat => decide (at_ < (A ++ C)[i]!.ba)) i) = A.length := by
      refine count_split (f := fun x => !decide (at_ < x.ba)) (fun x hx => ?_) (fun x hx => ?_)
      · have := hA x hx; simp; omega
      · have := hC x hx; simp; omega
    rw [hcn] at hs
    refine Calls.mono hs ?_
    rintro e w' ⟨rfl, q, os, rfl⟩
    exact ⟨rfl, below_grown_sl _ W q os (Nat.le_refl _)⟩
  have HV : Hid (aheadN (A ++ C) A.length = visN (A ++ C) at_) := visN_split hA hC
  have HNA : Hid (∀ W', Below W.heap.size W W' → Calls Try.prog 55 #[ptr c, .int .i64 (A.length : Int)] W' fun e w' => e = .returned (.int .i64 (visN (A ++ C) at_)) ∧ w' = W') := fun W' hW' => by
    have := numberAhead_any W' c g off cc (A ++ C) A.length (HL.out.kept hW') (by simp)
    rw [HV.out] at this
    exact this
  have HK1 : Hid (∀ W', Below W.heap.size W W' → W'.cell? ⟨w.heap.size, 0, none⟩ = some (ptr c)) := fun W' hW' => (hW'.cell (p := ⟨w.heap.size, 0, none⟩) (World.block_lt_of_cell? _ _ k1)).trans k1
  clear h hA hC
  generalize (A ++ C).length = m at *
  generalize visN (A ++ C) at_ = res at *
  go_enter Try.func33, Try.ntmps33
  go_wp2_with fail
  rw [← hW]
  refine HS.out.mono ?_
  rintro e w2 ⟨rfl, hb2⟩
  have k3 := HK1.out w2 hb2
  have HN2 := (fun {p : Prop} (h : p) => (show Hid p from h)) (HNA.out w2 hb2)
  have HB2 : Hid (Below w.heap.size w w2) := HB.out.trans (hb2.mono HB.out.size)
  clear hb2 HS HL HB hW k1 k2 hc0 hcW HNA HK1 HV
  go_wp2_with fail
  refine HN2.out.mono ?_
  rintro e w3 ⟨rfl, hw3⟩
  have hw3' := hw3.symm
  subst hw3'
  clear hw3 HN2
  go_wp2
  go_ret
  exact ⟨rfl, HB2.out⟩
set_option maxRecDepth 100000 in
set_option maxHeartbeats 1000000 in
theorem visibleS_any (w : World) (S V D M L P : Nat) (hf : Value) (cap last : Int) (vs : List Vr) (es : List En) (R : K → Nat × Nat × Nat) (k1 k2 at_ : Int) (h : SA w S V D M L P hf cap last vs es R) (hk : KIn (k1, k2)) :
    Calls Try.prog 17 #[ptr S, .agg #[.int .i64 k1, .int .i64 k2], .int .i64 at_] w fun e w' => e = .returned (.int .i64 (visN (ofK (k1, k2) vs) at_)) ∧ Below w.heap.size w w' := by
  obtain ⟨W, hW⟩ : ∃ W, W = w.alloc (.cells #[.int .i64 k1, .int .i64 k2] 28) := ⟨_, rfl⟩
  have HB : Hid (Below w.heap.size w W) := by
    show Below _ _ _
    rw [hW]
    exact (Below.refl _ _).alloc (Nat.le_refl _) _
  have hx : W.heap[w.heap.size]? = some (.cells #[.int .i64 k1, .int .i64 k2] 28 (0, 0)) := by rw [hW]; exact heap_alloc_new _ _ rfl
  have HS : Hid (SA W S V D M L P hf cap last vs es R) := h.kept HB.out
  have HKn : Hid (∀ U, Below W.heap.size W U → U.cell? ⟨S, 4, none⟩ = some (ptr D) ∧ U.cell? ⟨w.heap.size, 0, none⟩ = some (.int .i64 k1) ∧ U.cell? ⟨w.heap.size, 1, none⟩ = some (.int .i64 k2)) := fun U hU => by
    have q := (hU.block _ (blk_lt hx)).trans hx
    refine ⟨(HS.out.kept hU).cells.2.2.2.2, ?_, ?_⟩ <;> simp [World.cell?, q]
  have HG : Hid (Calls Try.prog 28 #[ptr D, .agg #[.int .i64 k1, .int .i64 k2]] W.drew fun e w' => e = .returned (.tuple #[vv (fd es (k1, k2)), .bool (fd es (k1, k2)).isSome]) ∧ Below W.heap.size W w') := by
    have hd : Below W.heap.size W W.drew := ⟨rfl, rfl, rfl, Nat.le_refl _, fun _ _ => rfl⟩
    exact (get_any W.drew D M L P hf es (k1, k2) (HS.out.da.kept hd) hk).mono fun e w' ⟨h1, h2⟩ => ⟨h1, hd.trans h2⟩
  obtain ⟨c4, b0, b1⟩ := HKn.out W (Below.refl _ _)
  clear h hx
  go_enter Try.func17, Try.ntmps17
  go_wp2_with fail
  rw [← hW]
  clear hW
  go_region_held3 (fun w' => w'.cell? ⟨S, 4, none⟩ = some (ptr D) ∧ w'.cell? ⟨w.heap.size, 0, none⟩ = some (.int .i64 k1) ∧ w'.cell? ⟨w.heap.size, 1, none⟩ = some (.int .i64 k2)) (first | exact HKn.out _ HB3.out | go_keep) (first | (go_at_call 28; refine HG.out.mono ?_; rintro e w3 ⟨rfl, hb3⟩; have HB3 : Hid (Below W.heap.size W w3) := hb3; clear hb3))
  clear c4 b0 b1 HG HKn
  have HBw : Hid (Below w.heap.size w w3) := HB.out.trans (HB3.out.mono HB.out.size)
  cases hfd : fd es (k1, k2) with
  | none =>
    have hof := HS.out.none_of hfd
    have HE : Hid (visN (ofK (k1, k2) vs) at_ = 0) := by show _ = _; rw [hof]; rfl
    simp only [vv, Option.isSome]
    clear hfd hof
    go_wp2
    go_ret
    exact ⟨by rw [HE.out]; rfl, HBw.out⟩
  | some e0 =>
    obtain ⟨he0, hk0⟩ := fd_some hfd
    have hl := (HS.out.kept HB3.out).line he0
    rw [hk0] at hl
    have HNw := visible_any w3 e0.v (R (k1, k2)).1 (R (k1, k2)).2.1 (R (k1, k2)).2.2 (ofK (k1, k2) vs) at_ hl
    obtain ⟨res, hres⟩ : ∃ res, res = visN (ofK (k1, k2) vs) at_ := ⟨_, rfl⟩
    have HE : Hid (visN (ofK (k1, k2) vs) at_ = res) := hres.symm
    rw [← hres] at HNw
    clear hres
    simp only [vv, Option.isSome]
    clear hfd he0 hk0 hl
    go_wp2_with fail
    refine HNw.mono ?_
    clear HNw
    rintro e w4 ⟨rfl, hb4⟩
    have HB4 : Hid (Below w.heap.size w w4) := HBw.out.trans (hb4.mono HBw.out.size)
    clear HB3 HS hb4
    go_wp2
    go_ret
    exact ⟨by rw [HE.out]; rfl, HB4.out⟩
theorem visible_st (n0 : Nat) (F : Nat → Prop) (w : World) (S P : Nat) (cap last : Int) (vs : List Vr) (h : ST n0 F w S P cap last vs) (k1 k2 at_ : Int) (hk : KIn (k1, k2)) :
    Calls Try.prog 17 #[ptr S, .agg #[.int .i64 k1, .int .i64 k2], .int .i64 at_] w fun e w' => e = .returned (.int .i64 (visN (ofK (k1, k2) vs) at_)) ∧ Below w.heap.size w w' := by
  obtain ⟨V, D, M, L, es, R, h1, h2⟩ := h
  exact visibleS_any w S V D M L P _ cap last vs es R k1 k2 at_ h1 hk
end Go.Proofs.Ytfkijdlggdgfhaa
/-
  SETS OF KEYS, AS LISTS THAT RISE.
-/
namespace Go.Proofs.Ytfkijdlggdgfhaa

/-- a list that rises -/
def Rise (l : List K) : Prop := (∀ k ∈ l, isKey k = true) ∧ l.Pairwise (fun a b => lt a b = true)
instance (l : List K) : Decidable (Rise l) := by unfold Rise; infer_instance
theorem rise_nil : Rise [] := ⟨by simp, .nil⟩
theorem rise_cons {a : K} {l : List K} : Rise (a :: l) ↔ isKey a = true ∧ (∀ b ∈ l, lt a b = true) ∧ Rise l := by
  unfold Rise
  simp only [List.mem_cons, forall_eq_or_imp, List.pairwise_cons]
  constructor
  · rintro ⟨⟨h1, h2⟩, h3, h4⟩; exact ⟨h1, h3, h2, h4⟩
  · rintro ⟨h1, h3, h2, h4⟩; exact ⟨⟨h1, h2⟩, h3, h4⟩
theorem Rise.sub {l m : List K} (h : Rise l) (s : m.Sublist l) : Rise m := ⟨fun k hk => h.1 k (s.subset hk), h.2.sublist s⟩
theorem Rise.take {l : List K} (h : Rise l) (n : Nat) : Rise (l.take n) := h.sub (List.take_sublist n l)
theorem Rise.drop {l : List K} (h : Rise l) (n : Nat) : Rise (l.drop n) := h.sub (List.drop_sublist n l)
theorem rise_append {l m : List K} : Rise (l ++ m) ↔ Rise l ∧ Rise m ∧ ∀ a ∈ l, ∀ b ∈ m, lt a b = true := by
  unfold Rise
  rw [List.pairwise_append]
  simp only [List.mem_append]
  constructor
  · rintro ⟨h1, h2, h3, h4⟩; exact ⟨⟨fun k hk => h1 k (.inl hk), h2⟩, ⟨fun k hk => h1 k (.inr hk), h3⟩, h4⟩
  · rintro ⟨⟨h1, h2⟩, ⟨h3, h4⟩, h5⟩; exact ⟨fun k hk => hk.elim (h1 k) (h3 k), h2, h4, h5⟩
/-- one more at the end: it is above the last -/
theorem rise_snoc {l : List K} {x : K} (hl : Rise l) (hx : isKey x = true) (h : ∀ (i : Nat) (y : K), i + 1 = l.length → l[i]? = some y → lt y x = true) : Rise (l ++ [x]) := by
  rw [rise_append]
  refine ⟨hl, ⟨by simpa using hx, by simp⟩, ?_⟩
  intro a ha b hb
  simp at hb; subst hb
  have hne : l ≠ [] := by rintro rfl; simp at ha
  have e := List.dropLast_concat_getLast hne
  have hlast : lt (l.getLast hne) b = true := by
    refine h (l.length - 1) _ (by have := List.length_pos_iff.2 hne; omega) ?_
    rw [← List.getLast?_eq_getElem?, List.getLast?_eq_some_getLast hne]
  rw [← e, rise_append] at hl
  rw [← e, List.mem_append] at ha
  rcases ha with ha | ha
  · exact lt_trans (hl.2.2 a ha _ (by simp)) hlast
  · simp at ha; rw [ha]; exact hlast
/-- two that rise and have the same members are one -/
theorem rise_unique {l m : List K} (hl : Rise l) (hm : Rise m) (h : ∀ k, k ∈ l ↔ k ∈ m) : l = m := by
  induction l generalizing m with
  | nil => cases m with | nil => rfl | cons b m => exact absurd ((h b).2 (by simp)) (by simp)
  | cons a l ih =>
    cases m with
    | nil => exact absurd ((h a).1 (by simp)) (by simp)
    | cons b m =>
      rw [rise_cons] at hl hm
      have hab : a = b := by
        have h1 := (h a).1 (by simp)
        have h2 := (h b).2 (by simp)
        simp only [List.mem_cons] at h1 h2
        rcases h1 with h1 | h1
        · exact h1
        · rcases h2 with h2 | h2
          · exact h2.symm
          · have := hm.2.1 a h1
            have h4 := hl.2.1 b h2
            rw [lt_asymm this] at h4; cases h4
      subst hab
      congr 1
      refine ih hl.2.2 hm.2.2 fun k => ?_
      have := h k
      simp only [List.mem_cons] at this
      constructor
      · intro hk
        rcases this.1 (.inr hk) with e | e
        · rw [e] at hk; have := hl.2.1 a hk; rw [lt_irrefl] at this; cases this
        · exact e
      · intro hk
        rcases this.2 (.inr hk) with e | e
        · rw [e] at hk; have := hm.2.1 a hk; rw [lt_irrefl] at this; cases this
        · exact e

/-- a key put into a list that rises -/
def put (l : List K) (k : K) : List K := if k ∈ l then l else l.filter (fun x => lt x k) ++ k :: l.filter (fun x => lt k x)
theorem put_mem (l : List K) (k x : K) : x ∈ put l k ↔ x = k ∨ x ∈ l := by
  unfold put
  split
  · rename_i h
    constructor
    · exact .inr
    · rintro (rfl | h'); exact h; exact h'
  · rename_i h
    simp only [List.mem_append, List.mem_filter, List.mem_cons]
    constructor
    · rintro (⟨h1, _⟩ | h1 | ⟨h1, _⟩)
      · exact .inr h1
      · exact .inl h1
      · exact .inr h1
    · rintro (rfl | h1)
      · exact .inr (.inl rfl)
      · by_cases h2 : lt x k = true
        · exact .inl ⟨h1, h2⟩
        · by_cases h3 : lt k x = true
          · exact .inr (.inr ⟨h1, h3⟩)
          · exact .inr (.inl (eq_of_not_lt (by simpa using h2) (by simpa using h3)))
theorem put_rise {l : List K} {k : K} (hl : Rise l) (hk : isKey k = true) : Rise (put l k) := by
  unfold put
  split
  · exact hl
  · rw [rise_append, rise_cons]
    refine ⟨hl.sub List.filter_sublist, ⟨hk, fun b hb => (List.mem_filter.1 hb).2, hl.sub List.filter_sublist⟩, ?_⟩
    intro a ha b hb
    have h1 := (List.mem_filter.1 ha).2
    rw [List.mem_cons] at hb
    rcases hb with rfl | hb
    · exact h1
    · exact lt_trans h1 (List.mem_filter.1 hb).2
/-- the set of a list -/
def sortK (l : List K) : List K := l.foldl put []
theorem sortK_snoc (l : List K) (k : K) : sortK (l ++ [k]) = put (sortK l) k := by simp [sortK]
theorem sortK_mem (l : List K) (x : K) : x ∈ sortK l ↔ x ∈ l := by
  suffices H : ∀ n, ∀ l : List K, l.length = n → (x ∈ sortK l ↔ x ∈ l) from H _ l rfl
  intro n
  induction n with
  | zero => intro l hl; cases l with | nil => simp [sortK] | cons => simp at hl
  | succ n ih =>
    intro l hl
    have hne : l ≠ [] := by rintro rfl; simp at hl
    rw [← List.dropLast_concat_getLast hne, sortK_snoc, put_mem, ih _ (by simp; omega)]
    simp only [List.mem_append, List.mem_singleton]
    exact Or.comm
theorem sortK_rise {l : List K} (h : ∀ k ∈ l, isKey k = true) : Rise (sortK l) := by
  suffices H : ∀ n, ∀ l : List K, l.length = n → (∀ k ∈ l, isKey k = true) → Rise (sortK l) from H _ l rfl h
  intro n
  induction n with
  | zero => intro l hl _; cases l with | nil => exact rise_nil | cons => simp at hl
  | succ n ih =>
    intro l hl h
    have hne : l ≠ [] := by rintro rfl; simp at hl
    rw [← List.dropLast_concat_getLast hne] at h ⊢
    rw [sortK_snoc]
    exact put_rise (ih _ (by simp; omega) fun k hk => h k (by simp [hk])) (h _ (by simp))
/-- what rises and has a list's members is its set -/
theorem sortK_eq {l m : List K} (hm : Rise m) (h : ∀ k, k ∈ m ↔ k ∈ l) : m = sortK l :=
  rise_unique hm (sortK_rise fun k hk => hm.1 k ((h k).2 hk)) fun k => (h k).trans (sortK_mem l k).symm
theorem sortK_length (l : List K) : (sortK l).length ≤ l.length := by
  suffices H : ∀ n, ∀ l : List K, l.length = n → (sortK l).length ≤ l.length from H _ l rfl
  intro n
  induction n with
  | zero => intro l hl; cases l with | nil => simp [sortK] | cons => simp at hl
  | succ n ih =>
    intro l hl
    have hne : l ≠ [] := by rintro rfl; simp at hl
    have := ih l.dropLast (by simp; omega)
    rw [← List.dropLast_concat_getLast hne, sortK_snoc]
    simp only [List.length_append, List.length_cons, List.length_nil]
    refine Nat.le_trans ?_ (Nat.add_le_add_right this 1)
    generalize sortK l.dropLast = s
    unfold put
    split
    · omega
    · have hd : ∀ s : List K, (s.filter (fun x => lt x (l.getLast hne))).length + (s.filter (fun x => lt (l.getLast hne) x)).length ≤ s.length := by
        intro s
        induction s with
        | nil => simp
        | cons a s ih =>
          simp only [List.filter_cons]
          by_cases h1 : lt a (l.getLast hne) = true
          · simp [h1, lt_asymm h1]; omega
          · by_cases h2 : lt (l.getLast hne) a = true
            · simp [h1, h2]; omega
            · simp [h1, h2]; omega
      have := hd s
      simp; omega

/-- Union, Meet, Minus: the keys that are wanted, by which of the two lists they stand in -/
def choose (f : Bool → Bool → Bool) : Nat → List K → List K → List K
  | 0, _, _ => []
  | _ + 1, [], [] => []
  | n + 1, a :: xa, [] => (if f true false then [a] else []) ++ choose f n xa []
  | n + 1, [], b :: bs => (if f false true then [b] else []) ++ choose f n [] bs
  | n + 1, a :: xa, b :: bs =>
    if a = b then (if f true true then [a] else []) ++ choose f n xa bs
    else if lt a b then (if f true false then [a] else []) ++ choose f n xa (b :: bs)
    else (if f false true then [b] else []) ++ choose f n (a :: xa) bs
theorem mem_ite1 {c : Bool} {a k : K} : k ∈ (if c then [a] else []) ↔ c = true ∧ k = a := by cases c <;> simp
theorem choose_mem (f : Bool → Bool → Bool) (hf : f false false = false) (n : Nat) (a b : List K) (hn : a.length + b.length ≤ n) (ha : Rise a) (hb : Rise b) (k : K) :
    k ∈ choose f n a b ↔ f (decide (k ∈ a)) (decide (k ∈ b)) = true := by
  induction n generalizing a b with
  | zero =>
    obtain ⟨rfl, rfl⟩ : a = [] ∧ b = [] := by
      constructor <;> (apply List.eq_nil_of_length_eq_zero; omega)
    simp [choose, hf]
  | succ n ih =>
    cases a with
    | nil =>
      cases b with
      | nil => simp [choose, hf]
      | cons b bs =>
        rw [rise_cons] at hb
        simp only [choose, List.mem_append, mem_ite1]
        rw [ih [] bs (by simp at hn ⊢; omega) ha hb.2.2]
        by_cases hk : k = b
        · subst hk
          have : k ∉ bs := fun h => by have := hb.2.1 k h; rw [lt_irrefl] at this; cases this
          simp [this, hf]
        · simp [hk]
    | cons a xa =>
      cases b with
      | nil =>
        rw [rise_cons] at ha
        simp only [choose, List.mem_append, mem_ite1]
        rw [ih xa [] (by simp at hn ⊢; omega) ha.2.2 hb]
        by_cases hk : k = a
        · subst hk
          have : k ∉ xa := fun h => by have := ha.2.1 k h; rw [lt_irrefl] at this; cases this
          simp [this, hf]
        · simp [hk]
      | cons b bs =>
        have ha' := ha; have hb' := hb
        rw [rise_cons] at ha hb
        have hna : a ∉ xa := fun h => by have := ha.2.1 a h; rw [lt_irrefl] at this; cases this
        have hnb : b ∉ bs := fun h => by have := hb.2.1 b h; rw [lt_irrefl] at this; cases this
        simp only [choose]
        by_cases hab : a = b
        · subst hab
          simp only [if_true, List.mem_append, mem_ite1]
          rw [ih xa bs (by simp at hn ⊢; omega) ha.2.2 hb.2.2]
          by_cases hk : k = a
          · subst hk; simp [hna, hnb, hf]
          · simp [hk]
        · rw [if_neg hab]
          by_cases hlt : lt a b = true
          · rw [if_pos hlt]
            simp only [List.mem_append, mem_ite1]
            rw [ih xa (b :: bs) (by simp at hn ⊢; omega) ha.2.2 hb']
            by_cases hk : k = a
            · subst hk
              have h2 : k ∉ bs := fun h => by have := lt_trans hlt (hb.2.1 k h); rw [lt_irrefl] at this; cases this
              simp [hna, hab, h2, hf]
            · simp [hk]
          · rw [if_neg hlt]
            simp only [List.mem_append, mem_ite1]
            have hgt : lt b a = true := by
              by_cases h : lt b a = true
              · exact h
              · exact absurd (eq_of_not_lt (by simpa using hlt) (by simpa using h)) hab
            rw [ih (a :: xa) bs (by simp at hn ⊢; omega) ha' hb.2.2]
            by_cases hk : k = b
            · subst hk
              have h2 : k ∉ xa := fun h => by have := lt_trans hgt (ha.2.1 k h); rw [lt_irrefl] at this; cases this
              simp [hnb, Ne.symm hab, h2, hf]
            · simp [hk]
theorem choose_sub (f : Bool → Bool → Bool) (n : Nat) (a b : List K) : ∀ k ∈ choose f n a b, k ∈ a ∨ k ∈ b := by
  induction n generalizing a b with
  | zero => simp [choose]
  | succ n ih =>
    intro k hk
    cases a with
    | nil =>
      cases b with
      | nil => simp [choose] at hk
      | cons b bs =>
        simp only [choose, List.mem_append, mem_ite1] at hk
        rcases hk with hk | hk
        · simp [hk.2]
        · rcases ih _ _ k hk with h | h <;> simp_all
    | cons a xa =>
      cases b with
      | nil =>
        simp only [choose, List.mem_append, mem_ite1] at hk
        rcases hk with hk | hk
        · simp [hk.2]
        · rcases ih _ _ k hk with h | h <;> simp_all
      | cons b bs =>
        simp only [choose] at hk
        split at hk
        · simp only [List.mem_append, mem_ite1] at hk
          rcases hk with hk | hk
          · simp [hk.2]
          · rcases ih _ _ k hk with h | h <;> simp_all
        · split at hk
          · simp only [List.mem_append, mem_ite1] at hk
            rcases hk with hk | hk
            · simp [hk.2]
            · rcases ih _ _ k hk with h | h
              · simp_all
              · exact .inr h
          · simp only [List.mem_append, mem_ite1] at hk
            rcases hk with hk | hk
            · simp [hk.2]
            · rcases ih _ _ k hk with h | h
              · exact .inl h
              · simp_all
theorem rise_ite1 {c : Bool} {a : K} {l : List K} (ha : isKey a = true) (hl : Rise l) (h : ∀ b ∈ l, lt a b = true) : Rise ((if c then [a] else []) ++ l) := by
  cases c
  · simpa using hl
  · simp only [if_true, List.singleton_append, rise_cons]; exact ⟨ha, h, hl⟩
theorem choose_rise (f : Bool → Bool → Bool) (n : Nat) (a b : List K) (ha : Rise a) (hb : Rise b) : Rise (choose f n a b) := by
  induction n generalizing a b with
  | zero => exact rise_nil
  | succ n ih =>
    cases a with
    | nil =>
      cases b with
      | nil => exact rise_nil
      | cons b bs =>
        rw [rise_cons] at hb
        refine rise_ite1 hb.1 (ih _ _ ha hb.2.2) fun k hk => ?_
        rcases choose_sub f n _ _ k hk with h | h
        · simp at h
        · exact hb.2.1 k h
    | cons a xa =>
      cases b with
      | nil =>
        rw [rise_cons] at ha
        refine rise_ite1 ha.1 (ih _ _ ha.2.2 hb) fun k hk => ?_
        rcases choose_sub f n _ _ k hk with h | h
        · exact ha.2.1 k h
        · simp at h
      | cons b bs =>
        have ha' := ha; have hb' := hb
        rw [rise_cons] at ha hb
        simp only [choose]
        by_cases hab : a = b
        · subst hab
          rw [if_pos rfl]
          refine rise_ite1 ha.1 (ih _ _ ha.2.2 hb.2.2) fun k hk => ?_
          rcases choose_sub f n _ _ k hk with h | h
          · exact ha.2.1 k h
          · exact hb.2.1 k h
        · rw [if_neg hab]
          by_cases hlt : lt a b = true
          · rw [if_pos hlt]
            refine rise_ite1 ha.1 (ih _ _ ha.2.2 hb') fun k hk => ?_
            rcases choose_sub f n _ _ k hk with h | h
            · exact ha.2.1 k h
            · rw [List.mem_cons] at h
              rcases h with rfl | h
              · exact hlt
              · exact lt_trans hlt (hb.2.1 k h)
          · have hgt : lt b a = true := by
              by_cases h : lt b a = true
              · exact h
              · exact absurd (eq_of_not_lt (by simpa using hlt) (by simpa using h)) hab
            rw [if_neg hlt]
            refine rise_ite1 hb.1 (ih _ _ ha' hb.2.2) fun k hk => ?_
            rcases choose_sub f n _ _ k hk with h | h
            · rw [List.mem_cons] at h
              rcases h with rfl | h
              · exact hgt
              · exact lt_trans hgt (ha.2.1 k h)
            · exact hb.2.1 k h
theorem choose_union {a b : List K} (n : Nat) (hn : a.length + b.length ≤ n) (ha : Rise a) (hb : Rise b) : choose (fun x y => x || y) n a b = sortK (a ++ b) := by
  refine sortK_eq (choose_rise _ n a b ha hb) fun k => ?_
  rw [choose_mem _ rfl n a b hn ha hb]; simp
theorem choose_meet {a b : List K} (n : Nat) (hn : a.length + b.length ≤ n) (ha : Rise a) (hb : Rise b) : choose (fun x y => x && y) n a b = a.filter (fun k => decide (k ∈ b)) := by
  refine rise_unique (choose_rise _ n a b ha hb) (ha.sub List.filter_sublist) fun k => ?_
  rw [choose_mem _ rfl n a b hn ha hb]; simp
theorem choose_minus {a b : List K} (n : Nat) (hn : a.length + b.length ≤ n) (ha : Rise a) (hb : Rise b) : choose (fun x y => x && !y) n a b = a.filter (fun k => !decide (k ∈ b)) := by
  refine rise_unique (choose_rise _ n a b ha hb) (ha.sub List.filter_sublist) fun k => ?_
  rw [choose_mem _ rfl n a b hn ha hb]; simp

end Go.Proofs.Ytfkijdlggdgfhaa
/-
  StoreChains: THE MATHEMATICS.
-/
namespace Go.Proofs.Ytfkijdlggdgfhaa
open Go.RowKit Go.Sort

/-- the last one's number -/
def lastN (ys : List Vr) : Int := match ys.getLast? with | none => 0 | some v => v.n
theorem newestN_last (k : K) (vs : List Vr) : newestN k vs = lastN (ofK k vs) := rfl
theorem lastN_snoc (ys : List Vr) (y : Vr) : lastN (ys ++ [y]) = y.n := by simp [lastN]
theorem lastN_nil : lastN [] = 0 := rfl
theorem aheadN_last (A C : List Vr) : aheadN (A ++ C) A.length = lastN A := by
  unfold aheadN lastN
  rcases Nat.eq_zero_or_pos A.length with h0 | h0
  · have : A = [] := List.length_eq_zero_iff.1 h0
    subst this
    rfl
  · have hne : A ≠ [] := List.length_pos_iff.1 h0
    rw [if_neg (by omega), List.getLast?_eq_some_getLast hne]
    simp only
    rw [getElem!_pos _ (A.length - 1) (by simp; omega), List.getElem_append_left (by omega), List.getLast_eq_getElem]
/-- how many versions have one of these keys -/
def inL (L : List K) (ws : List Vr) : Nat := (ws.filter (fun v => decide (v.k ∈ L))).length
theorem inL_nil (ws : List Vr) : inL [] ws = 0 := by simp [inL]
theorem inL_snoc (L : List K) (k : K) (h : k ∉ L) : ∀ ws : List Vr, inL (L ++ [k]) ws = inL L ws + (ofK k ws).length
  | [] => rfl
  | v :: ws => by
    have ih := inL_snoc L k h ws
    unfold inL ofK at *
    by_cases h1 : v.k = k
    · have h2 : v.k ∉ L := by rw [h1]; exact h
      rw [List.filter_cons_of_pos (by simp [h1]), List.filter_cons_of_neg (by simp [h2]), List.filter_cons_of_pos (by simp [h1])]
      simp only [List.length_cons]
      omega
    · by_cases h2 : v.k ∈ L
      · rw [List.filter_cons_of_pos (by simp [h2]), List.filter_cons_of_pos (by simp [h2]), List.filter_cons_of_neg (by simp [h1])]
        simp only [List.length_cons]
        omega
      · rw [List.filter_cons_of_neg (by simp [h1, h2]), List.filter_cons_of_neg (by simp [h2]), List.filter_cons_of_neg (by simp [h1])]
        exact ih
/-- how many lie in partitions below p -/
def totP (P : Nat) (p : Int) (ws : List Vr) : Nat := (ws.filter (fun v => decide (((hash v.k % P : Nat) : Int) < p))).length
theorem totP_low (P : Nat) (ws : List Vr) : totP P (-1) ws = 0 := by
  unfold totP
  rw [List.filter_eq_nil_iff.2 (fun v _ => by simp; omega)]
  rfl
theorem totP_all {P : Nat} (hP : 1 ≤ P) {p : Int} (hp : (P : Int) ≤ p) (ws : List Vr) : totP P p ws = ws.length := by
  unfold totP
  rw [List.filter_eq_self.2 (fun v _ => by have := Nat.mod_lt (hash v.k) (show 0 < P by omega); simp; omega)]
theorem totP_step (P : Nat) (p : Int) : ∀ ws : List Vr, totP P (p + 1) ws = totP P p ws + (ws.filter (fun v => decide (((hash v.k % P : Nat) : Int) = p))).length
  | [] => rfl
  | v :: ws => by
    have ih := totP_step P p ws
    unfold totP at *
    by_cases h1 : ((hash v.k % P : Nat) : Int) = p
    · rw [List.filter_cons_of_pos (by simp only [decide_eq_true_eq]; omega), List.filter_cons_of_neg (by simp only [decide_eq_true_eq]; omega), List.filter_cons_of_pos (by simp only [decide_eq_true_eq]; omega)]
      simp only [List.length_cons]
      omega
    · by_cases h2 : ((hash v.k % P : Nat) : Int) < p
      · rw [List.filter_cons_of_pos (by simp only [decide_eq_true_eq]; omega), List.filter_cons_of_pos (by simp only [decide_eq_true_eq]; omega), List.filter_cons_of_neg (by simp only [decide_eq_true_eq]; omega)]
        simp only [List.length_cons]
        omega
      · rw [List.filter_cons_of_neg (by simp only [decide_eq_true_eq]; omega), List.filter_cons_of_neg (by simp only [decide_eq_true_eq]; omega), List.filter_cons_of_neg (by simp only [decide_eq_true_eq]; omega)]
        exact ih
/-- a partition's keys -/
def KsOf (P : Nat) (p : Int) (ws : List Vr) (L : List K) : Prop := Rise L ∧ ∀ k, k ∈ L ↔ (∃ v ∈ ws, v.k = k) ∧ ((hash k % P : Nat) : Int) = p
theorem inL_part {P : Nat} {p : Int} {ws : List Vr} {L : List K} (h : KsOf P p ws L) : inL L ws = (ws.filter (fun v => decide (((hash v.k % P : Nat) : Int) = p))).length := by
  unfold inL
  congr 1
  refine List.filter_congr fun v hv => ?_
  rw [decide_eq_decide, h.2]
  exact ⟨fun h => h.2, fun h => ⟨⟨v, hv, rfl⟩, h⟩⟩
theorem Rise.nodup {L : List K} (h : Rise L) : L.Nodup := h.2.imp (fun {a b} hab e => by subst e; simp [lt] at hab)
theorem inL_take {ws : List Vr} {L : List K} (h : Rise L) {i : Nat} (hi : i < L.length) : inL (L.take (i + 1)) ws = inL (L.take i) ws + (ofK L[i] ws).length := by
  rw [List.take_succ_eq_append_getElem hi]
  refine inL_snoc _ _ (fun hm => ?_) ws
  have hn := h.nodup
  rw [← List.take_append_drop i L, List.nodup_append] at hn
  exact hn.2.2 L[i] hm L[i] (by have h0 := List.drop_eq_getElem_cons hi; rw [h0]; exact List.mem_cons_self) rfl
end Go.Proofs.Ytfkijdlggdgfhaa
/-
  before, Before; Parts, Part, KeyOf.
-/
namespace Go.Proofs.Ytfkijdlggdgfhaa
open Go.RowKit Go.Sort

section
variable {n0 : Nat} {F : Nat → Prop} {w w' : World} {S P : Nat} {cap last : Int} {vs : List Vr}
theorem ST.ik (h : ST n0 F w S P cap last vs) : ∀ v ∈ vs, isKey v.k = true := by
  obtain ⟨V, D, M, L, es, R, h1, h2⟩ := h
  exact h1.ik
theorem ST.P0 (h : ST n0 F w S P cap last vs) : 1 ≤ P ∧ P ≤ 256 := by
  obtain ⟨V, D, M, L, es, R, h1, h2⟩ := h
  exact h1.da.P0
theorem ST.S0 (h : ST n0 F w S P cap last vs) : w.cell? ⟨S, 0, none⟩ = some (.int .i64 (P : Int)) := by
  obtain ⟨V, D, M, L, es, R, h1, h2⟩ := h
  exact h1.cells.1
end
set_option maxHeartbeats 1000000 in
theorem parts_st (n0 : Nat) (F : Nat → Prop) (w : World) (S P : Nat) (cap last : Int) (vs : List Vr) (h : ST n0 F w S P cap last vs) :
    Calls Try.prog 11 #[ptr S] w fun e w' => e = .returned (.int .i64 (P : Int)) ∧ w' = w := by
  have c0 := h.S0
  clear h
  go_enter Try.func11, Try.ntmps11
  go_wp2
  go_ret
  exact ⟨rfl, rfl⟩
set_option maxRecDepth 100000 in
set_option maxHeartbeats 1000000 in
theorem before_any (w : World) (c g off cc : Nat) (A C : List Vr) (v : Vr) (h : Line w c g off cc (A ++ v :: C)) :
    Calls Try.prog 52 #[ptr c, ptr v.b] w fun e w' => e = .returned (.int .i64 (lastN A)) ∧ Below w.heap.size w w' := by
  have HA := hidC (at_any w c g off cc A C v h)
  have HN : Hid (∀ W, Below w.heap.size w W → Calls Try.prog 55 #[ptr c, .int .i64 (A.length : Int)] W fun e w' => e = .returned (.int .i64 (lastN A)) ∧ w' = W) := fun W hW => by
    have := numberAhead_any W c g off cc (A ++ v :: C) A.length (h.kept hW) (by simp)
    rw [aheadN_last] at this
    exact this
  clear h
  generalize A.length = m at *
  generalize lastN A = res at *
  go_enter Try.func52, Try.ntmps52
  go_wp2_with fail
  refine HA.out.mono ?_
  rintro e w2 ⟨rfl, hb2⟩
  have HB2 := hidC hb2
  have HN2 := hidC (HN.out w2 hb2)
  clear hb2 HA HN
  go_wp2_with fail
  refine HN2.out.mono ?_
  rintro e w3 ⟨rfl, hw3⟩
  have hw3' := hw3.symm
  subst hw3'
  clear hw3 HN2
  go_wp2
  go_ret
  exact ⟨rfl, HB2.out⟩
set_option maxRecDepth 100000 in
set_option maxHeartbeats 1000000 in
theorem beforeS_any (w : World) (S V D M L P : Nat) (hf : Value) (cap last : Int) (vs : List Vr) (es : List En) (R : K → Nat × Nat × Nat) (h : SA w S V D M L P hf cap last vs es R) (v : Vr) (A C : List Vr) (hv : v ∈ vs) (hs : ofK v.k vs = A ++ v :: C) :
    Calls Try.prog 32 #[ptr S, .int .i64 v.n] w fun e w' => e = .returned (.int .i64 (lastN A)) ∧ Below w.heap.size w w' := by
  have c3 := h.cells.2.2.2.1
  have hl := h.look (h.nums.1 v hv)
  rw [fv_of h.nums.2 hv] at hl
  simp only [pf] at hl
  obtain ⟨e0, he0, hk0, hfd⟩ := h.find hv
  have HC := hidC (chainOf_any w S V D M L P hf cap last vs es R v h hv e0 hfd)
  have HBf : Hid (∀ W, Below w.heap.size w W → Calls Try.prog 52 #[ptr e0.v, ptr v.b] W fun e w' => e = .returned (.int .i64 (lastN A)) ∧ Below W.heap.size W w') := fun W hW => by
    have hl := (h.kept hW).line he0
    rw [hk0, hs] at hl
    exact before_any W _ _ _ _ A C v hl
  clear h hfd he0 hk0 hs hv
  generalize lastN A = res at *
  go_enter Try.func32, Try.ntmps32
  go_wp2_with fail
  refine HC.out.mono ?_
  rintro e w2 ⟨rfl, hb2⟩
  have HB2 := hidC hb2
  have HB3 := hidC (HBf.out w2 hb2)
  clear hb2 HC HBf
  go_wp2_with fail
  refine HB3.out.mono ?_
  rintro e w3 ⟨rfl, hb3⟩
  have HB4 : Hid (Below w.heap.size w w3) := HB2.out.trans (hb3.mono HB2.out.size)
  clear hb3 HB3
  go_wp2
  go_ret
  exact ⟨rfl, HB4.out⟩
theorem before_st (n0 : Nat) (F : Nat → Prop) (w : World) (S P : Nat) (cap last : Int) (vs : List Vr) (h : ST n0 F w S P cap last vs) (v : Vr) (A C : List Vr) (hv : v ∈ vs) (hs : ofK v.k vs = A ++ v :: C) :
    Calls Try.prog 32 #[ptr S, .int .i64 v.n] w fun e w' => e = .returned (.int .i64 (lastN A)) ∧ Below w.heap.size w w' := by
  obtain ⟨V, D, M, L, es, R, h1, h2⟩ := h
  exact beforeS_any w S V D M L P _ cap last vs es R h1 v A C hv hs
theorem keyOf_st (n0 : Nat) (F : Nat → Prop) (w : World) (S P : Nat) (cap last : Int) (vs : List Vr) (h : ST n0 F w S P cap last vs) (n : Int) (hn : In64 n) :
    Calls Try.prog 31 #[ptr S, .int .i64 n] w fun e w' => e = .returned (.tuple #[kv (koV (fv vs n)).1, .int .i64 (koV (fv vs n)).2]) ∧ Below w.heap.size w w' := by
  obtain ⟨V, D, M, L, es, R, h1, h2⟩ := h
  exact keyOf_any w S V D M L P _ cap last vs es R n h1 hn
set_option maxRecDepth 100000 in
set_option maxHeartbeats 1000000 in
theorem part_st (n0 : Nat) (F : Nat → Prop) (w : World) (S P : Nat) (cap last : Int) (vs : List Vr) (h : ST n0 F w S P cap last vs) (k1 k2 : Int) (hk : KIn (k1, k2)) (hik : isKey (k1, k2) = true) :
    Calls Try.prog 14 #[ptr S, .agg #[.int .i64 k1, .int .i64 k2]] w fun e w' => e = .returned (.int .i64 ((hash (k1, k2) % P : Nat) : Int)) ∧ Below w.heap.size w w' := by
  have HB1 : Hid (Below w.heap.size w (w.alloc (.cells #[.int .i64 k1, .int .i64 k2] 28))) := (Below.refl _ _).alloc (Nat.le_refl _) _
  have c0 := (h.kept HB1.out).S0
  have hP := h.P0
  have HK : Hid (∀ w, Calls Try.prog 27 #[.agg #[.int .i64 k1, .int .i64 k2], .int .i64 (P : Int)] w fun e w' => e = .returned (.tuple #[.int .i64 ((hash (k1, k2) % P : Nat) : Int), .int .i64 0]) ∧ Grew w w') := fun w => by
    have := partition_any w k1 k2 (P : Int) hk.2
    have hok : okParts (P : Int) = true := (okParts_iff _).2 (by omega)
    have e1 : partV (k1, k2) (P : Int) = ((hash (k1, k2) % P : Nat) : Int) := by
      unfold partV; rw [if_pos hik, if_pos hok]; simp
    have e2 : partE (k1, k2) (P : Int) = 0 := by
      unfold partE; rw [if_pos hik, if_pos hok]
    rw [e1, e2] at this
    exact this
  clear h hk hik
  generalize ((hash (k1, k2) % P : Nat) : Int) = hv at *
  have b0 : (w.alloc (.cells #[.int .i64 k1, .int .i64 k2] 28)).cell? ⟨w.heap.size, 0, none⟩ = some (.int .i64 k1) := by rw [World.cell?, heap_alloc_new _ _ rfl]; rfl
  have b1 : (w.alloc (.cells #[.int .i64 k1, .int .i64 k2] 28)).cell? ⟨w.heap.size, 1, none⟩ = some (.int .i64 k2) := by rw [World.cell?, heap_alloc_new _ _ rfl]; rfl
  go_enter Try.func14, Try.ntmps14
  go_wp2_with fail
  generalize w.alloc (.cells #[.int .i64 k1, .int .i64 k2] 28) = W1 at *
  have g0 : ∀ m os, (grow (W1.drewN m) os).cell? ⟨S, 0, none⟩ = some (.int .i64 (P : Int)) := fun m os => Grew.cell ⟨m, os, rfl⟩ c0
  have e0 : ∀ m os, (grow (W1.drewN m) os).cell? ⟨w.heap.size, 0, none⟩ = some (.int .i64 k1) := fun m os => Grew.cell ⟨m, os, rfl⟩ b0
  have e1 : ∀ m os, (grow (W1.drewN m) os).cell? ⟨w.heap.size, 1, none⟩ = some (.int .i64 k2) := fun m os => Grew.cell ⟨m, os, rfl⟩ b1
  clear c0 b0 b1
  refine wp_region_quiet_grown mixed (by kernel_rfl) ?_
  repeat (go_big_quiet_step (exact Calls.grown_of (HK.out _)))
  refine wpQuiet_nil ?_
  intro _ hw'
  obtain ⟨⟨nq, osq⟩, hw''⟩ := hw'
  subst hw''
  have HF : Hid (Below w.heap.size w (grow (W1.drewN nq) osq)) := HB1.out.trans ((Grew.below ⟨nq, osq, rfl⟩).mono HB1.out.size)
  go_wp2
  go_ret
  exact ⟨rfl, HF.out⟩
end Go.Proofs.Ytfkijdlggdgfhaa
/-
  Each.
-/
namespace Go.Proofs.Ytfkijdlggdgfhaa
open Go.RowKit Go.Sort

abbrev TP : TypeId := 111
abbrev TPs : TypeId := 107
/-- the cells of pairs -/
def cps : List En → List Value
  | [] => []
  | e :: l => .int .i64 e.k.1 :: .int .i64 e.k.2 :: ptr e.v :: cps l
theorem cps_append (A B : List En) : cps (A ++ B) = cps A ++ cps B := by
  induction A with
  | nil => rfl
  | cons e A ih => simp [cps, ih]
theorem cps_snoc (l : List En) (e : En) : cps (l ++ [e]) = cps l ++ [.int .i64 e.k.1, .int .i64 e.k.2, ptr e.v] := by rw [cps_append]; rfl
theorem infoP : (Try.prog.info? TP).map (fun i => (i.zero, i.size, i.bytes)) = some (some (.agg #[.int .i64 0, .int .i64 0, .pointer none]), 3, 24) := by kernel_rfl
theorem pair_new (w : World) (x y : Int) (z : Nat) : ∀ j u, ([.int .i64 x, .int .i64 y, ptr z] : List Value)[j]? = some u → (w.alloc (.cells #[.int .i64 x, .int .i64 y, ptr z] TP)).cell? ((⟨w.heap.size, 0, none⟩ : Addr).add j) = some u := by
  intro j u hu
  have hb := heap_alloc_new (w := w) (.cells #[.int .i64 x, .int .i64 y, ptr z] TP) w.heap.size rfl
  rw [addr_add, World.cell?, hb]
  simpa using hu
theorem make_pairs0 (c : Nat) (hc : c * 24 ≤ 281474976710656) (u : World) : (Instr.makeSlice TPs (.int .i64 0) (.int .i64 (c : Int))).run Try.prog u = .ok (.slice (some ⟨u.heap.size, 0, none⟩) 0 c) (u.alloc (.cells (madeCells #[.int .i64 0, .int .i64 0, .pointer none] (c * 3)) TP)) := by
  obtain ⟨i0, hi, hz0, hz1, hz2⟩ := info_parts infoP
  have h := run_make (P := Try.prog) u TPs TP i0 (.agg #[.int .i64 0, .int .i64 0, .pointer none]) Try.underlying107 hi hz0 .i64 .i64 (0 : Int) (c : Int) (by omega) (by omega) (by rw [hz2]; omega) (by omega)
  rw [hz1, Int.toNat_natCast] at h
  exact h
/-- the list of an iterator, in the making -/
structure EL (w wr : World) (B g j n : Nat) (l : List En) : Prop where
  box : wr.heap[B]? = some (.cells #[.slice (some ⟨g, 0, none⟩) j n] TPs (0, 0))
  row : wr.ownsRow w.heap.size TP 3 (.slice (some ⟨g, 0, none⟩) j n) j (cps (l.take j))
  bel : Below w.heap.size w wr
  ge : w.heap.size ≤ B ∧ w.heap.size ≤ g ∧ B ≠ g
theorem EL.cell {w wr : World} {B g j n : Nat} {l : List En} (h : EL w wr B g j n l) : wr.cell? ⟨B, 0, none⟩ = some (.slice (some ⟨g, 0, none⟩) j n) := by rw [World.cell?, h.box]; rfl
theorem gr_set (W : World) (a : Addr) (v : Value) : W.grownBy (W.setCell a v) (some a.block) := ⟨rfl, rfl, rfl, by simp, fun k _ hk => heap_setCell_other W a k v (fun e => hk (by rw [e]))⟩
/-- one pair more -/
theorem EL.more {w wr : World} {B g j n : Nat} {l : List En} (h : EL w wr B g j n l) (hj : j < n) (hl : n = l.length) (x : En) (hx : l[j]? = some x) (ty : TypeId) :
    ∃ W5, (Builtin.append_ #[TPs, TPs] ty #[.slice (some ⟨g, 0, none⟩) j n, .slice (some ⟨wr.heap.size, 0, none⟩) 1 1]).run Try.prog (wr.alloc (.cells #[.int .i64 x.k.1, .int .i64 x.k.2, ptr x.v] TP)).drew = .ok (.slice (some ⟨g, 0, none⟩) (j + 1) n) W5 ∧
      W5.cell? ⟨B, 0, none⟩ = some (.slice (some ⟨g, 0, none⟩) j n) ∧ W5.frozen? ⟨B, 0, none⟩ = false ∧ Hid (EL w (W5.setCell ⟨B, 0, none⟩ (.slice (some ⟨g, 0, none⟩) (j + 1) n)) B g (j + 1) n l) := by
  obtain ⟨i0, hi, hz0, hz1, hz2⟩ := info_parts infoP
  have hlt := blk_lt h.box
  have hrow : (wr.drew.alloc (.cells #[.int .i64 x.k.1, .int .i64 x.k.2, ptr x.v] TP)).ownsRow w.heap.size TP 3 (.slice (some ⟨g, 0, none⟩) j n) j (cps (l.take j)) := World.ownsRow.alloc (w := wr.drew) h.row _
  obtain ⟨W5, hr, ho, hg⟩ := run_append_own_spare (P := Try.prog) (wr.drew.alloc (.cells #[.int .i64 x.k.1, .int .i64 x.k.2, ptr x.v] TP)) w.heap.size TPs ty TP i0 3 Try.underlying107 hi hz1 g j n _ hrow ⟨wr.heap.size, 0, none⟩ 1 1 [.int .i64 x.k.1, .int .i64 x.k.2, ptr x.v] rfl (pair_new wr.drew _ _ _) (by simp [Value.oneCell']) (by omega)
  have hbox : W5.heap[B]? = some (.cells #[.slice (some ⟨g, 0, none⟩) j n] TPs (0, 0)) := by
    rw [hg.block B (by simp; exact Nat.lt_succ_of_lt hlt) (fun e => by cases e; exact h.ge.2.2 rfl), heap_alloc_old (w := wr.drew) _ _ hlt]; exact h.box
  refine ⟨W5, hr, blk_cell hbox rfl, frozen_of_row _ _ _ _ _ hbox, ?_, ?_, ?_, h.ge⟩
  · rw [blk_set _ hbox]; rfl
  · have htk : l.take (j + 1) = l.take j ++ [x] := by
      obtain ⟨h1, h2⟩ := List.getElem?_eq_some_iff.1 hx
      rw [List.take_succ_eq_append_getElem h1, h2]
    rw [htk, cps_snoc]
    refine World.ownsRow.kept ho (row := some B) (gr_set W5 ⟨B, 0, none⟩ _) (.inr ?_)
    intro e; simp [Value.ownBlock] at e; exact h.ge.2.2 e.symm
  · have h0 : Below w.heap.size w wr.drew := ⟨h.bel.os, h.bel.tape, h.bel.output, h.bel.size, h.bel.block⟩
    have h1 : Below w.heap.size w (wr.drew.alloc (.cells #[.int .i64 x.k.1, .int .i64 x.k.2, ptr x.v] TP)) := h0.alloc h.bel.size _
    have h2 : Below w.heap.size w W5 := h1.trans (grown_below hg (fun q hq => by cases hq; exact h.ge.2.1) h1.size)
    exact ⟨h2.os, h2.tape, h2.output, by simpa using h2.size, fun k hk => (heap_setCell_other W5 ⟨B, 0, none⟩ k _ (by have := h.ge.1; simp; omega)).trans (h2.block k hk)⟩
theorem step_el {w wr : World} {B g j n : Nat} {l : List En} {ops : Array Oper} {o : Oper} {a : Act} {K' : Act → World → Prop} {Q : Exit → Act → World → Prop} {E : Prop} (hgd : o.guard = none) (s x : Operand)
    (ho : o.op = .call { callee := .builtin .append, args := #[s, x], argTypes := #[TPs, TPs] }) (h : EL w wr B g j n l) (hj : j < n) (hl : n = l.length) (e : En) (he : l[j]? = some e)
    (hs : a.eval s = .slice (some ⟨g, 0, none⟩) j n) (hx : a.eval x = .slice (some ⟨wr.heap.size, 0, none⟩) 1 1)
    (hK : ∀ W5, W5.cell? ⟨B, 0, none⟩ = some (.slice (some ⟨g, 0, none⟩) j n) → W5.frozen? ⟨B, 0, none⟩ = false → Hid (EL w (W5.setCell ⟨B, 0, none⟩ (.slice (some ⟨g, 0, none⟩) (j + 1) n)) B g (j + 1) n l) → K' (a.put o.dst (.slice (some ⟨g, 0, none⟩) (j + 1) n)) W5) :
    if Region.wanted o (yielded ops a.tmps) = true then Oper.wp Try.prog o a (wr.alloc (.cells #[.int .i64 e.k.1, .int .i64 e.k.2, ptr e.v] TP)).drew K' Q else E := by
  have hw : Region.wanted o (yielded ops a.tmps) = true := by simp [Region.wanted, hgd]
  rw [if_pos hw]
  obtain ⟨W5, hr, h2, h3, h4⟩ := h.more hj hl e he o.type
  unfold Oper.wp execOp
  simp only [ho, resolve, invoke, builtin, Sem.run_bind, Sem.run_pure, Result.andThen_ok, List.map_toArray, List.map_cons, List.map_nil, hs, hx, hr]
  exact hK W5 h2 h3 h4

set_option maxRecDepth 100000 in
set_option maxHeartbeats 1000000 in
theorem each_any (w : World) (D M L P : Nat) (hf : Value) (es : List En) (p : Int) (h : DA w D M L hf P es) (hm : (ptI P p es).length * 24 ≤ 281474976710656) :
    Calls Try.prog 24 #[ptr D, .int .i64 p] w fun e w' => ∃ B g, e = .returned (.func (.func 45) #[] #[ptr B]) ∧ Hid (EL w w' B g (ptI P p es).length (ptI P p es).length (ptI P p es)) := by
  have hmf : ∀ (fn : Fn) (first cap : Array Value) (w : World), (Instr.makeFunc fn first cap).run Try.prog w = .ok (.func fn first cap) w := fun _ _ _ _ => rfl
  have HD : Hid (DA w D M L hf P es) := h
  clear h
  obtain ⟨l, hl⟩ : ∃ l, l = ptI P p es := ⟨_, rfl⟩
  rw [← hl] at hm ⊢
  obtain ⟨n, hn⟩ : ∃ n, n = l.length := ⟨_, rfl⟩
  rw [← hn] at hm ⊢
  go_enter Try.func24, Try.ntmps24
  go_wp2_with fail
  refine (line_any w D M L P hf es p HD.out).mono ?_
  rintro e w1 ⟨rfl, hb1⟩
  have HB1 : Hid (Below w.heap.size w w1) := hb1
  have HN : Hid (n = l.length) := hn
  rw [← hl, ← hn]
  have HLD : Hid (∀ W, Below w.heap.size w W → ∀ X x Y, l = X ++ x :: Y → W.cell? ⟨x.b, 0, none⟩ = some (.int .i64 x.k.1) ∧ W.cell? ⟨x.b, 1, none⟩ = some (.int .i64 x.k.2) ∧ W.cell? ⟨x.b, 2, none⟩ = some (ptr x.v) ∧ W.cell? ⟨x.b, 5, none⟩ = some (hp Y)) := fun W hW X x Y hX => (HD.out.kept hW).node (hl.symm.trans hX)
  clear hb1 hn hl
  obtain ⟨v1, hv1⟩ := hp_ptr l
  obtain ⟨v2, hv2⟩ := lp_ptr l
  rw [hv1, hv2]
  have hmk := fun u => make_pairs0 n hm u
  have HEL : Hid (EL w (((w1.alloc (.cells #[.pointer v1, .pointer v2, .int .i64 (n : Int)] TL)).alloc (.cells (madeCells #[.int .i64 0, .int .i64 0, .pointer none] (n * 3)) TP)).alloc (.cells #[.slice (some ⟨w1.heap.size + 1, 0, none⟩) 0 n] TPs)) (w1.heap.size + 1 + 1) (w1.heap.size + 1) 0 n l) := by
    have hs := HB1.out.size
    refine ⟨heap_alloc_new _ _ (by simp), ?_, ((HB1.out.alloc hs _).alloc (by simp; omega) _).alloc (by simp; omega) _, by omega, by omega, by omega⟩
    rw [List.take_zero]
    have := World.ownsRow_made (e := TP) (size := 3) (w1.alloc (.cells #[.pointer v1, .pointer v2, .int .i64 (n : Int)] TL)) (madeCells #[.int .i64 0, .int .i64 0, .pointer none] (n * 3)) n (base := w.heap.size) (by simp; omega) (by unfold maxLen; omega) (by simp [size_madeCells])
    rw [World.size_alloc] at this
    exact World.ownsRow.alloc this _
  have HV1 : Hid (.pointer v1 = hp (l.drop 0)) := by rw [Hid, List.drop_zero]; exact hv1.symm
  clear hv1 hv2
  go_wp2
  generalize ((w1.alloc (.cells #[.pointer v1, .pointer v2, .int .i64 (n : Int)] TL)).alloc (.cells (madeCells #[.int .i64 0, .int .i64 0, .pointer none] (n * 3)) TP)).alloc (.cells #[.slice (some ⟨w1.heap.size + 1, 0, none⟩) 0 n] TPs) = W2 at *
  generalize w1.heap.size + 1 + 1 = B at *
  generalize w1.heap.size + 1 = g at *
  go_loopw [7] (fun e wr => ∃ j : Nat, j ≤ n ∧ e = hp (l.drop j) ∧ Hid (EL w wr B g j n l)) (fun _ wr => n - slLen ((wr.cell? ⟨B, 0, none⟩).getD undef))
  case atStart => exact ⟨0, Nat.zero_le _, HV1.out, HEL⟩
  case round =>
    obtain ⟨j, hj, rfl, HE⟩ := hrel
    by_cases hlt : j < n
    · have hjl : j < l.length := by have := HN.out; omega
      have hdr : l.drop j = l[j] :: l.drop (j + 1) := List.drop_eq_getElem_cons hjl
      have htk : l = l.take j ++ l[j] :: l.drop (j + 1) := by rw [← hdr, List.take_append_drop]
      obtain ⟨a0, a1, a2, _⟩ := HLD.out wr HE.out.bel _ _ _ htk
      rw [hdr, hp_cons]
      have HLn : Hid (∀ W, Below w.heap.size w W → W.cell? ⟨l[j].b, 5, none⟩ = some (hp (l.drop (j + 1)))) := fun W hW => (HLD.out W hW _ _ _ htk).2.2.2
      obtain ⟨o5, ho5⟩ := hp_ptr (l.drop (j + 1))
      rw [ho5] at HLn
      have HO5 : Hid (.pointer o5 = hp (l.drop (j + 1))) := ho5.symm
      have hc0 := HE.out.cell
      have hM0 : n - slLen ((wr.cell? ⟨B, 0, none⟩).getD undef) = n - j := by rw [hc0]; rfl
      have HX : Hid (l[j]? = some l[j]) := List.getElem?_eq_getElem hjl
      have hcA : (wr.alloc (.cells #[.int .i64 l[j].k.1, .int .i64 l[j].k.2, ptr l[j].v] TP)).cell? ⟨B, 0, none⟩ = some (.slice (some ⟨g, 0, none⟩) j n) := by
        rw [World.cell?, heap_alloc_old _ _ (blk_lt HE.out.box)]
        exact hc0
      generalize l[j] = x at *
      clear ho5 htk hdr
      go_wp2_with fail
      go_region_law (first | (refine step_el rfl _ _ rfl HE.out hlt HN.out x HX.out rfl rfl ?_; intro W5 hc5 hf5 HE5; have a5 := HLn.out _ HE5.out.bel; have hM5 : n - slLen (((W5.setCell ⟨B, 0, none⟩ (.slice (some ⟨g, 0, none⟩) (j + 1) n)).cell? ⟨B, 0, none⟩).getD undef) = n - (j + 1) := (by rw [HE5.out.cell]; rfl)))
      all_goals (
        go_wp2
        go_roundw
        case rel => exact ⟨j + 1, by omega, HO5.out, HE5⟩
        case measure => (rw [hM0, hM5]; omega))
    · obtain rfl : j = n := by omega
      have hdr : l.drop j = [] := List.drop_eq_nil_iff.2 (by have := HN.out; omega)
      rw [hdr]
      simp only [hp]
      go_wp2
      go_ret
      exact ⟨B, g, rfl, HE⟩
end Go.Proofs.Ytfkijdlggdgfhaa
/-
  A REGION THAT DRAWS ITS ORDER AND ONLY READS, IN THE ROUND OF A LOOP OVER A FUNCTION: as outside a round, where no operation is a defer.
-/
namespace Go.Proofs.Ytfkijdlggdgfhaa
open Go.RowKit Go.Sort

def noDefer (o : Oper) : Bool := match o.op with
  | .defer _ => false
  | _ => true
theorem noDefer_ne {o : Oper} (h : noDefer o = true) : ∀ c, o.op ≠ .defer c := by
  intro c e
  unfold noDefer at h
  rw [e] at h
  simp at h
theorem wpIn_round {F : Fence} {n l : Nat} {P : Program} {o : Oper} {a : Act} {w : World} {K : Act → World → Prop} {Q : Exit → Act → World → Prop} (hro : F.round = none) (hd : noDefer o = true) (h : o.wpIn F n P a w K Q) : o.wpIn (F.inRound l) n P a w K Q := by
  obtain ⟨h1, h2⟩ := h
  refine ⟨h1, ?_⟩
  rw [hro, Oper.semAt_none] at h2
  rw [Fence.inRound_round, Oper.semAt_some l _ _ (noDefer_ne hd)]
  generalize (execOp a.eval o).run P w = r at *
  cases r with
  | ok x w' => cases x <;> exact h2
  | halt x w' => cases x <;> exact h2
theorem wpAny_round {F : Fence} {n l : Nat} {P : Program} {md : Region.Mode} {ops : Array Oper} {Q : Exit → Act → World → Prop} (hro : F.round = none) (hd : ops.all noDefer = true) :
    ∀ (fuel : Nat) (listed : Array Bool) (a : Act) (w : World), wpAnyIn F n P md ops Q fuel listed a w → wpAnyIn (F.inRound l) n P md ops Q fuel listed a w
  | 0, _, _, _, h => h
  | fuel + 1, listed, a, w, h => ⟨h.1, fun i hi => by
    have h2 := h.2 i hi
    unfold wpOpIn at h2 ⊢
    cases ho : ops[i]? with
    | none => rw [ho] at h2; exact wpAny_round hro hd fuel _ _ _ h2
    | some o =>
      rw [ho] at h2
      have hn : noDefer o = true := by
        have h3 := Array.all_eq_true.1 hd
        obtain ⟨hlt, he⟩ := Array.getElem?_eq_some_iff.1 ho
        rw [← he]; exact h3 i hlt
      simp only at h2 ⊢
      split
      · rename_i hw
        rw [if_pos hw] at h2
        exact wpIn_round hro hn (Oper.wpIn_mono (fun a w hk => wpAny_round hro hd fuel _ a w hk) h2)
      · rename_i hw
        rw [if_neg hw] at h2
        exact ⟨h2.1, wpAny_round hro hd fuel _ _ _ h2.2⟩⟩
theorem region_round {F : Fence} {n l : Nat} {P : Program} {id : Nat} {Q : Exit → Act → World → Prop} {a : Act} {w : World} {ops : List Oper} (hro : F.round = none) (hm : P.follows .mixedOrders = true) (hB : Region.lexB .any ops.toArray = true) (hd : ops.toArray.all noDefer = true)
    (h : wpQuietIn F n P ops.toArray (fun w' => ∃ n, w' = w.drewN n) (fun a' => ∀ w', (∃ n, w' = w.drewN n) → Q .normal a' w') ops a) : (Code.region id ops.toArray true).wpIn (F.inRound l) n P Q a w := by
  simp only [Region.lexB, Bool.and_eq_true] at hB
  refine wpIn_region_any hm (wpAny_round hro hd _ _ _ _ (wpAnyIn_of_quiet (Q := fun a' => ∀ w', (∃ n, w' = w.drewN n) → Q .normal a' w') hro (fun _ w' hw' h => h w' hw') _ _ _ _ ⟨1, rfl⟩ ?_))
  have := wpAnyQIn_lex (F := F) (n := n) (C := fun w' => ∃ n, w' = w.drewN n) (md := .any) hB.1 ops 0 (Array.replicate ops.toArray.size false) a (by simp) (by simpa using hB.2) h
  simpa using this

/-- a loop over a function, whichever way it ends: what holds behind it -/
theorem loop_cut {F : Fence} {n : Nat} {P : Program} {c : Code} {Q : Exit → Act → World → Prop} {a : Act} {w : World} (id : Nat) (Post : World → Prop) (hex : ∀ a w, Q .normal a w → Q (.exit id) a w)
    (h : c.wpIn F n P (fun e a' w' => (e = .normal ∨ e = .exit id) ∧ ∃ D, w.heap.size ≤ D ∧ a' = { a with defers := { target := .collected D, args := #[] } :: a.defers } ∧ Post w' ∧ w'.heap[D]? = some (.deferred (some []))) a w)
    (hk : ∀ D W, w.heap.size ≤ D → Post W → W.heap[D]? = some (.deferred (some [])) → Q .normal { a with defers := { target := .collected D, args := #[] } :: a.defers } W) : c.wpIn F n P Q a w := by
  refine Code.wpIn_mono ?_ h
  rintro e a' w' ⟨he, D, hD, rfl, hp, hd⟩
  rcases he with rfl | rfl
  · exact hk D w' hD hp hd
  · exact hex _ _ (hk D w' hD hp hd)
/-- a key in a box -/
def KBoxed (W : World) (B : Nat) (x y : Int) : Prop := W.heap[B]? = some (.cells #[.int .i64 x, .int .i64 y] 28 (0, 0))
theorem KBoxed.lt {W : World} {B : Nat} {x y : Int} (h : KBoxed W B x y) : B < W.heap.size := (Array.getElem?_eq_some_iff.1 h).1
theorem KBoxed.cell {W : World} {B : Nat} {x y : Int} (h : KBoxed W B x y) : W.cell? ⟨B, 0, none⟩ = some (.int .i64 x) ∧ W.cell? ⟨B, 1, none⟩ = some (.int .i64 y) := by
  constructor <;> simp [World.cell?, show W.heap[B]? = _ from h]
theorem KBoxed.new (W : World) (x y : Int) : KBoxed (W.alloc (.cells #[.int .i64 x, .int .i64 y] 28)) W.heap.size x y := World.alloc_heap_new W _
theorem KBoxed.kept {W W' : World} {row : Option Nat} {B : Nat} {x y : Int} (h : KBoxed W B x y) (hg : W.grownBy W' row) (hne : some B ≠ row) : KBoxed W' B x y := (hg.block B h.lt hne).trans h
theorem KBoxed.own {W W' : World} {row : Option Nat} {B : Nat} {x y : Int} (h : KBoxed W B x y) (hg : W.grownBy W' row) (hr : ∀ r, row = some r → ∃ o : Obj, W.heap[r]? = some o ∧ o.isCells = false) : KBoxed W' B x y :=
  h.kept hg (fun e => by obtain ⟨o, ho, hc⟩ := hr B e.symm; rw [show W.heap[B]? = _ from h] at ho; cases ho; cases hc)
theorem KBoxed.alloc {W : World} {B : Nat} {x y : Int} (h : KBoxed W B x y) (o : Obj) : KBoxed (W.alloc o) B x y := h.kept (World.grownBy_alloc W o none) (by simp)

end Go.Proofs.Ytfkijdlggdgfhaa
/-
  THE ITERATOR OF Each.
-/
namespace Go.Proofs.Ytfkijdlggdgfhaa
open Go.RowKit Go.Sort Go.Shelf

attribute [local go_sem] Oper.semAt_some

/-- what has come when k rounds are over -/
def upto {α : Type} (f : Nat → α) (k : Nat) : List α := (List.range k).map f
theorem upto_succ {α : Type} (f : Nat → α) (k : Nat) : upto f (k + 1) = upto f k ++ [f k] := by simp [upto, List.range_succ]
theorem upto_length {α : Type} (f : Nat → α) (k : Nat) : (upto f k).length = k := by simp [upto]
/-- a key and a value -/
abbrev PX := { x : K × Nat // KIn x.1 ∧ True }
abbrev encPX (x : PX) : Array Value := #[.agg #[.int .i64 x.1.1.1, .int .i64 x.1.1.2], ptr x.1.2]
def px0 : PX := ⟨((0, 0), 0), by refine ⟨⟨⟨?_, ?_⟩, ⟨?_, ?_⟩⟩, trivial⟩ <;> simp⟩
/-- the j-th pair -/
noncomputable def pd (l : List En) (hl : ∀ e ∈ l, KIn e.k ∧ True) (j : Nat) : PX := if h : j < l.length then ⟨(l[j].k, l[j].v), hl _ (List.getElem_mem h)⟩ else px0
theorem pd_at {l : List En} (hl : ∀ e ∈ l, KIn e.k ∧ True) {j : Nat} (h : j < l.length) : (pd l hl j).1 = (l[j].k, l[j].v) := by unfold pd; rw [dif_pos h]
theorem cps_length (l : List En) : (cps l).length = l.length * 3 := by
  induction l with
  | nil => rfl
  | cons e l ih => simp only [cps, List.length_cons, ih]; omega
theorem cps_at (l : List En) (j : Nat) (h : j < l.length) : (cps l)[j * 3]? = some (.int .i64 l[j].k.1) ∧ (cps l)[j * 3 + 1]? = some (.int .i64 l[j].k.2) ∧ (cps l)[j * 3 + 2]? = some (ptr l[j].v) := by
  induction l generalizing j with
  | nil => simp at h
  | cons e l ih =>
    cases j with
    | zero => simp [cps]
    | succ j =>
      have := ih j (by simp at h; omega)
      rw [show (j + 1) * 3 = j * 3 + 1 + 1 + 1 by omega]
      simpa [cps] using this
/-- the iterator's list, as it stays -/
structure IL (w : World) (B g : Nat) (l : List En) : Prop where
  box : w.heap[B]? = some (.cells #[.slice (some ⟨g, 0, none⟩) l.length l.length] TPs (0, 0))
  at_ : ∀ j u, (cps l)[j]? = some u → w.cell? ⟨g, j, none⟩ = some u
  gl : g < w.heap.size
theorem EL.il {w wr : World} {B g : Nat} {l : List En} (h : EL w wr B g l.length l.length l) : IL wr B g l := by
  refine ⟨h.box, ?_, (h.row.lt g rfl).2⟩
  have hr := h.row
  rw [List.take_length] at hr
  rcases hr.2 with ⟨h0, _⟩ | ⟨g', cap, cur, hv, _, hg, _, _, _, htk⟩
  · cases h0
  · cases hv
    intro j u hu
    rw [World.cell?, hg]
    show cur[j]? = some u
    rw [← htk, List.getElem?_take] at hu
    split at hu
    · simpa using hu
    · cases hu
/-- blocks B and g stay -/
def KBG (B g : Nat) (W W' : World) : Prop := W.heap.size ≤ W'.heap.size ∧ W'.heap[B]? = W.heap[B]? ∧ W'.heap[g]? = W.heap[g]?
theorem KBG.refl (B g : Nat) (W : World) : KBG B g W W := ⟨Nat.le_refl _, rfl, rfl⟩
theorem KBG.trans {B g : Nat} {X Y Z : World} (h : KBG B g X Y) (k : KBG B g Y Z) : KBG B g X Z := ⟨Nat.le_trans h.1 k.1, k.2.1.trans h.2.1, k.2.2.trans h.2.2⟩
theorem KBG.grown {B g : Nat} {W W' : World} {row : Option Nat} (hg : W.grownBy W' row) (h1 : B < W.heap.size) (h2 : g < W.heap.size) (n1 : some B ≠ row) (n2 : some g ≠ row) : KBG B g W W' := ⟨hg.size, hg.block B h1 n1, hg.block g h2 n2⟩
theorem KBG.alloc {B g : Nat} {W : World} (h1 : B < W.heap.size) (h2 : g < W.heap.size) (o : Obj) : KBG B g W (W.alloc o) := KBG.grown (World.grownBy_alloc W o none) h1 h2 (by simp) (by simp)
theorem KBG.below {B g : Nat} {W W' : World} (h : Below W.heap.size W W') (h1 : B < W.heap.size) (h2 : g < W.heap.size) : KBG B g W W' := ⟨h.size, h.block B h1, h.block g h2⟩
theorem KBG.put {B g : Nat} {w : World} (h1 : B < w.heap.size) (h2 : g < w.heap.size) (W : World) (l : Nat) (o o' : Obj) (hl : w.heap.size ≤ l) (_ : W.heap[l]? = some o) (_ : o.isCells = false) (_ : o.isWalk = false) : KBG B g W (W.putObj l o') :=
  ⟨by simp, World.putObj_heap_other (by omega), World.putObj_heap_other (by omega)⟩
theorem KBG.lt {B g : Nat} {W W' : World} (h : KBG B g W W') {k : Nat} (hk : k < W.heap.size) : k < W'.heap.size := Nat.lt_of_lt_of_le hk h.1
theorem IL.kbg {w w' : World} {B g : Nat} {l : List En} (h : IL w B g l) (hb : KBG B g w w') : IL w' B g l :=
  ⟨hb.2.1.trans h.box, fun j u hu => by
    have h1 := h.at_ j u hu
    unfold World.cell? at h1 ⊢
    simp only at h1 ⊢
    rw [hb.2.2]
    exact h1, Nat.lt_of_lt_of_le h.gl hb.1⟩
theorem IL.below {w w' : World} {B g n : Nat} {l : List En} (h : IL w B g l) (hb : Below n w w') (hB : B < n) (hg : g < n) : IL w' B g l :=
  ⟨(hb.block B hB).trans h.box, fun j u hu => (hb.cell (p := ⟨g, j, none⟩) hg).trans (h.at_ j u hu), Nat.lt_of_lt_of_le h.gl hb.size⟩

set_option maxRecDepth 100000 in
set_option maxHeartbeats 4000000 in
theorem each1_in (F : Fence) (n : Nat) (hf : F.fn 45) (hro : F.round = none) (hn : 1 ≤ n) (ly B g m : Nat) (l : List En) (hl : ∀ e ∈ l, KIn e.k ∧ True) (hml : m = l.length) (hm : m * 16 ≤ 140737488355328) (J Jx : List PX → World → Prop)
    (hY : ∀ pre x W, J pre W → pre.length < m → YieldAt F (n - 1) Try.prog ly (encPX x) W fun e W' =>
      (e = .returned (.bool true) ∧ J (pre ++ [x]) W' ∧ KBG B g W W') ∨ (e = .returned (.bool false) ∧ Jx (pre ++ [x]) W'))
    (W : World) (hJ : AbidesFrom W.heap.size J) (hI : IL W B g l) (h0 : J [] W) :
    CallsIn F n Try.prog 45 #[.func (.yield ly) #[] #[], ptr B] W fun e W' => (∃ v, e = .returned v) ∧
      ((∃ ys, ys = upto (pd l hl) m ∧ J ys W') ∨ (∃ pre, (∃ k, k ≤ m ∧ pre = upto (pd l hl) k) ∧ Jx pre W')) := by
  have HI : Hid (∀ W', KBG B g W W' → IL W' B g l) := fun W' hW => hI.kbg hW
  have hBs : W.cell? ⟨B, 0, none⟩ = some (.slice (some ⟨g, 0, none⟩) m m) := by rw [World.cell?, hI.box, hml]; rfl
  have HM : Hid (m = l.length) := hml
  clear hI hml
  refine callsIn_of_wp Try.func45 rfl hf ?_ hro
  simp only [Try.ntmps45, List.size_toArray, List.length_cons, List.length_nil, Nat.reduceAdd, Nat.reduceSub, Array.replicate_succ, Array.replicate_zero, List.push_toArray, List.append_toArray, List.nil_append, List.cons_append]
  gi_wp2
  gi_loopw [7] (fun i wr => ∃ k : Nat, k ≤ m ∧ i = .int .i64 k ∧ J (upto (pd l hl) k) wr ∧ KBG B g W wr ∧ W.heap.size ≤ wr.heap.size)
    (fun i _ => m - (intOf i).toNat)
  case atStart => exact ⟨0, Nat.zero_le _, rfl, h0, KBG.refl _ _ _, Nat.le_refl _⟩
  case round =>
    obtain ⟨k, hk, rfl, hJs, hnx, hsz⟩ := hrel
    by_cases hlt : k < m
    · have hkl : k < l.length := by have := HM.out; omega
      obtain ⟨c1, c2, c3⟩ := cps_at l k hkl
      have a1 := (HI.out wr hnx).at_ _ _ c1
      have a2 := (HI.out wr hnx).at_ _ _ c2
      have a3 := (HI.out wr hnx).at_ _ _ c3
      have HX : Hid ((pd l hl k).1 = (l[k].k, l[k].v)) := pd_at hl hkl
      have e1 : l[k].k.1 = (pd l hl k).1.1.1 := by rw [HX.out]
      have e2 : l[k].k.2 = (pd l hl k).1.1.2 := by rw [HX.out]
      have e3 : l[k].v = (pd l hl k).1.2 := by rw [HX.out]
      rw [e1] at a1
      rw [e2] at a2
      rw [e3] at a3
      clear c1 c2 c3 e1 e2 e3
      have hJ2 : J (upto (pd l hl) k) (wr.alloc (.cells #[.int .i64 (pd l hl k).1.1.1, .int .i64 (pd l hl k).1.1.2, ptr (pd l hl k).1.2] TP)) := hJ _ _ _ none hJs (World.grownBy_alloc wr _ none) (fun r e => by cases e)
      have hb2 : KBG B g wr (wr.alloc (.cells #[.int .i64 (pd l hl k).1.1.1, .int .i64 (pd l hl k).1.1.2, ptr (pd l hl k).1.2] TP)) := KBG.alloc (blk_lt (HI.out wr hnx).box) (HI.out wr hnx).gl _
      obtain ⟨fn, tmps, assign, body, hy, hR⟩ := hY _ (pd l hl k) _ hJ2 (by rw [upto_length]; exact hlt)
      simp only [encPX] at hy
      gi_wp2
      refine hR.mono ?_
      rintro e W3 (⟨rfl, hJ3, hk3⟩ | ⟨rfl, hJx3⟩)
      · have hs3 := hk3.1
        gi_wp2
        go_roundw
        case rel => exact ⟨k + 1, by omega, by go_num, by rw [upto_succ]; exact hJ3, hnx.trans (hb2.trans hk3), by simp at hs3; omega⟩
        case measure => simp [intOf]; omega
      · gi_wp2
        refine bodyPost_ret (results_none rfl _ _ _) rfl ?_
        exact ⟨⟨_, rfl⟩, .inr ⟨_, ⟨k + 1, by omega, (upto_succ _ _).symm⟩, hJx3⟩⟩
    · obtain rfl : k = m := by omega
      gi_wp2
      go_end0
      exact ⟨⟨_, rfl⟩, .inl ⟨_, rfl, hJs⟩⟩

/-- Each hands back a value that goes over the list -/
theorem each_stops (F : Fence) (n : Nat) (hf : F.fn 45) (hro : F.round = none) (hn : 1 ≤ n) (B g m : Nat) (l : List En) (hl : ∀ e ∈ l, KIn e.k ∧ True) (hml : m = l.length) (hm : m * 16 ≤ 140737488355328) (w : World) (hI : IL w B g l) :
    SeqStopsK F n Try.prog 45 #[ptr B] encPX (KBG B g) (fun ys => ys = upto (pd l hl) m) (fun pre => ∃ k, k ≤ m ∧ pre = upto (pd l hl) k) m w := fun ly J Jx W hW hJ _ hY h0 =>
  each1_in F n hf hro hn ly B g m l hl hml hm J Jx hY W hJ (hI.below (n := w.heap.size) hW (blk_lt hI.box) hI.gl) h0
end Go.Proofs.Ytfkijdlggdgfhaa
/-
  THE WALK OF sound.
-/
namespace Go.Proofs.Ytfkijdlggdgfhaa
open Go.RowKit Go.Sort

theorem all_take (L : List K) (k : Nat) (h : (L.take k).all isKey = true) (hk : k < L.length) (h2 : isKey (kd L k) = true) : (L.take (k + 1)).all isKey = true := by
  rw [take_kd L k hk, List.all_append, h]; simp [h2]
theorem all_false {L : List K} {k : Nat} (hk : k < L.length) (h : isKey (kd L k) = false) : L.all isKey = false := by
  rw [List.all_eq_false]
  exact ⟨kd L k, kd_mem hk, by rw [h]; decide⟩


end Go.Proofs.Ytfkijdlggdgfhaa
/-
  THE WALK OF Compare.
-/
namespace Go.Proofs.Ytfkijdlggdgfhaa
open Go.RowKit Go.Sort

theorem compare_any (w : World) (a1 a2 b1 b2 : Int) :
    Calls Try.prog 26 #[.agg #[.int .i64 a1, .int .i64 a2], .agg #[.int .i64 b1, .int .i64 b2]] w fun e w' => e = .returned (.int .i64 (cmp (a1, a2) (b1, b2))) ∧ ∃ q os, w' = grow (w.drewN q) os := by
  have hq := run_eqKey a1 a2 b1 b2
  have hg := fun op x y => run_eqGuard op x y a1 a2 b1 b2
  have HC : Hid (∀ c, cmp (a1, a2) (b1, b2) = c → cmp (a1, a2) (b1, b2) = c) := fun c h => h
  by_cases he : (a1, a2) = (b1, b2)
  · have hd : decide ((a1, a2) = (b1, b2)) = true := by simpa using he
    rw [hd] at hq
    have HR : Hid (cmp (a1, a2) (b1, b2) = 0) := by rw [Hid, he]; exact cmp_self _
    clear he hd
    go_enter Try.func26, Try.ntmps26
    go_wp2
    go_ret
    exact ⟨by rw [HR.out]; rfl, (Grew.alloc (Grew.refl _) _).alloc _⟩
  · have hd : decide ((a1, a2) = (b1, b2)) = false := by simpa using he
    rw [hd] at hq
    clear hd
    by_cases h1 : a1 < b1
    · have HR : Hid (cmp (a1, a2) (b1, b2) = -1) := by rw [Hid]; exact cmp_lt (by rw [lt_iff]; exact .inl h1)
      have h1' : decide (a1 < b1) = true := by simpa using h1
      clear he
      go_enter Try.func26, Try.ntmps26
      go_wp2
      go_ret
      exact ⟨by rw [HR.out]; rfl, (Grew.alloc (Grew.refl _) _).alloc _⟩
    · have h1' : decide (a1 < b1) = false := by simpa using h1
      by_cases h2 : a1 = b1
      · subst h2
        by_cases h3 : a2 < b2
        · have HR : Hid (cmp (a1, a2) (a1, b2) = -1) := by rw [Hid]; exact cmp_lt (by rw [lt_iff]; exact .inr ⟨rfl, h3⟩)
          clear he
          go_enter Try.func26, Try.ntmps26
          go_wp2
          go_ret
          exact ⟨by rw [HR.out]; rfl, (Grew.alloc (Grew.refl _) _).alloc _⟩
        · have h4 : b2 < a2 := by
            rcases Int.lt_trichotomy a2 b2 with h | h | h
            · exact absurd h h3
            · exact absurd (by rw [h]) he
            · exact h
          have HR : Hid (cmp (a1, a2) (a1, b2) = 1) := by rw [Hid]; exact cmp_gt (by rw [lt_iff]; exact .inr ⟨rfl, h4⟩)
          have h3' : decide (a2 < b2) = false := by simpa using h3
          clear he
          go_enter Try.func26, Try.ntmps26
          go_wp2
          go_ret
          exact ⟨by rw [HR.out]; rfl, (Grew.alloc (Grew.refl _) _).alloc _⟩
      · have h2' : (a1 == b1) = false := by simpa using h2
        have HR : Hid (cmp (a1, a2) (b1, b2) = 1) := by rw [Hid]; exact cmp_gt (by rw [lt_iff]; simp only; omega)
        clear he
        go_enter Try.func26, Try.ntmps26
        go_wp2
        go_ret
        exact ⟨by rw [HR.out]; rfl, (Grew.alloc (Grew.refl _) _).alloc _⟩

end Go.Proofs.Ytfkijdlggdgfhaa
/-
  THE WALK OF Rises.
-/
namespace Go.Proofs.Ytfkijdlggdgfhaa
open Go.RowKit Go.Sort

theorem rise_not_key {L : List K} {k : Nat} (hk : k < L.length) (h : isKey (kd L k) = false) : ¬ Rise L := fun hr => by
  have := hr.1 _ (kd_mem hk)
  rw [h] at this; cases this
theorem rise_pair {L : List K} {i j : Nat} (hij : i < j) (hj : j < L.length) (hr : Rise L) : lt (kd L i) (kd L j) = true := by
  have hi : i < L.length := by omega
  have h := (List.pairwise_iff_getElem.1 hr.2) i j hi hj hij
  have e1 := kd_get hi
  have e2 := kd_get hj
  rw [List.getElem?_eq_getElem hi] at e1
  rw [List.getElem?_eq_getElem hj] at e2
  rw [← Option.some.inj e1, ← Option.some.inj e2]
  exact h
theorem rise_next {L : List K} {k : Nat} (hk : k < L.length) (hr : Rise (L.take k)) (hi : isKey (kd L k) = true) (h : ∀ j, j + 1 = k → lt (kd L j) (kd L k) = true) : Rise (L.take (k + 1)) := by
  rw [take_kd L k hk]
  refine rise_snoc hr hi fun i y hil hy => ?_
  have hlen : (L.take k).length = k := by simp; omega
  rw [hlen] at hil
  have h1 := h i hil
  rw [List.getElem?_take, if_pos (by omega)] at hy
  rw [kd_get (by omega)] at hy
  rw [← Option.some.inj hy]; exact h1

set_option maxHeartbeats 4000000 in
set_option maxRecDepth 100000 in
theorem rises_any (w : World) (ao : Option Addr) (cap n : Nat) (L : List K) (hn : n = L.length) (h : KeysAt w ao L) (hm : n ≤ 8796093022208) :
    Calls Try.prog 13 #[.slice ao n cap] w fun e w' => e = .returned (.bool (decide (Rise L))) ∧ ∃ q os, w' = grow (w.drewN q) os := by
  have mx := mixed
  have HN : Hid (n = L.length) := hn
  have HK : Hid (KeysAt w ao L) := h
  clear hn h
  go_enter Try.func13, Try.ntmps13
  go_wp2_with fail
  go_loopw [3, 4, 7] (fun _ _ y wr => ∃ k : Nat, k ≤ n ∧ y = .int .i64 (k : Int) ∧ Hid (Rise (L.take k)) ∧ Hid (Grew w wr)) (fun _ _ y _ => n - (intOf y).toNat)
  case atStart => exact ⟨0, Nat.zero_le _, rfl, by simp [Hid]; exact rise_nil, Grew.refl _⟩
  case round =>
    obtain ⟨k, hk, rfl, HR, HG⟩ := hrel
    by_cases hlt : k < n
    · have hl : k < L.length := by have := HN.out; omega
      rcases HK.out.grew HG.out with h0 | ⟨b, off, rfl, hc⟩
      · rw [h0] at hl; simp at hl
      · obtain ⟨c1, c2⟩ := KeysAt.at hc k hl
        have HNK : Hid (isKey (kd L k) = false → ¬ Rise L) := rise_not_key hl
        have HNX : Hid (isKey (kd L k) = true → (∀ j, j + 1 = k → lt (kd L j) (kd L k) = true) → Rise (L.take (k + 1))) := rise_next hl HR.out
        have HPR : Hid (∀ j, j + 1 = k → Rise L → lt (kd L j) (kd L k) = true) := fun j hj hr => rise_pair (by omega) hl hr
        have HPC : Hid (∀ j, j + 1 = k → wr.cell? ⟨b, off + j * 2, none⟩ = some (.int .i64 (kd L j).1) ∧ wr.cell? ⟨b, off + j * 2 + 1, none⟩ = some (.int .i64 (kd L j).2)) := fun j hj => KeysAt.at hc j (by omega)
        generalize kd L k = kk at *
        obtain ⟨t, r⟩ := kk
        simp only at c1 c2
        clear hc hl HR
        cases hik : isKey (t, r) with
        | false =>
          have HE : Hid (decide (Rise L) = false) := by rw [Hid]; simpa using HNK.out hik
          have HCk : Hid (∀ w, Calls Try.prog 23 #[.agg #[.int .i64 t, .int .i64 r]] w fun e w' => e = .returned (.int .i64 20) ∧ ∃ q os, w' = grow (w.drewN q) os) := fun w => by
            have h := check_any w t r
            rwa [hik] at h
          have HCm : Hid (∀ w, Calls Try.prog 23 #[.agg #[.int .i64 t, .int .i64 r]] w fun e w' => e = .returned (.int .i64 (errOf (isKey (t, r)) 20)) ∧ ∃ q os, w' = grow (w.drewN q) os) := fun w => check_any w t r
          clear HNK HNX HPR HPC hik
          go_wp2_with fail
          have B1 : Hid (Box (wr.alloc (.cells #[.int .i64 t, .int .i64 r] 28)) wr.heap.size t r) := Box.new rfl
          have HG1 : Hid (Grew w (wr.alloc (.cells #[.int .i64 t, .int .i64 r] 28))) := HG.out.alloc _
          have HGa : Hid (Grew wr (wr.alloc (.cells #[.int .i64 t, .int .i64 r] 28))) := (Grew.refl _).alloc _
          generalize wr.alloc (.cells #[.int .i64 t, .int .i64 r] 28) = W1 at *
          have b1 : ∀ n os, (grow (W1.drewN n) os).cell? ⟨wr.heap.size, 0, none⟩ = some (.int .i64 t) := fun n os => Grew.cell ⟨n, os, rfl⟩ B1.out.1
          have b2 : ∀ n os, (grow (W1.drewN n) os).cell? ⟨wr.heap.size, 1, none⟩ = some (.int .i64 r) := fun n os => Grew.cell ⟨n, os, rfl⟩ B1.out.2
          refine wp_region_quiet_grown mx (by kernel_rfl) ?_
          repeat (go_big_quiet_step (first
            | (go_at_call 23; exact Calls.grown_of (HCk.out _))
            | (go_at_call 26; exact Calls.grown_of (HCm.out _))))
          refine wpQuiet_nil ?_
          intro _ hw'
          obtain ⟨⟨nq, osq⟩, hw''⟩ := hw'
          subst hw''
          go_wp2
          go_ret
          exact ⟨by rw [HE.out]; rfl, HG1.out.trans ⟨_, _, rfl⟩⟩
        | true =>
        by_cases hk0 : k = 0
        · have HE : Hid (Rise (L.take (k + 1))) := HNX.out hik (fun j hj => by omega)
          have HCk : Hid (∀ w, Calls Try.prog 23 #[.agg #[.int .i64 t, .int .i64 r]] w fun e w' => e = .returned (.int .i64 0) ∧ ∃ q os, w' = grow (w.drewN q) os) := fun w => by
            have h := check_any w t r
            rwa [hik] at h
          have HCm : Hid (∀ w, Calls Try.prog 23 #[.agg #[.int .i64 t, .int .i64 r]] w fun e w' => e = .returned (.int .i64 (errOf (isKey (t, r)) 20)) ∧ ∃ q os, w' = grow (w.drewN q) os) := fun w => check_any w t r
          clear HNK HNX HPR HPC hik
          have hd0 : decide ((0 : Int) < (k : Int)) = false := by simp; omega
          have hd1 : decide (0 < k) = false := by simp; omega
          clear hk0
          go_wp2_with fail
          have B1 : Hid (Box (wr.alloc (.cells #[.int .i64 t, .int .i64 r] 28)) wr.heap.size t r) := Box.new rfl
          have HG1 : Hid (Grew w (wr.alloc (.cells #[.int .i64 t, .int .i64 r] 28))) := HG.out.alloc _
          have HGa : Hid (Grew wr (wr.alloc (.cells #[.int .i64 t, .int .i64 r] 28))) := (Grew.refl _).alloc _
          generalize wr.alloc (.cells #[.int .i64 t, .int .i64 r] 28) = W1 at *
          have b1 : ∀ n os, (grow (W1.drewN n) os).cell? ⟨wr.heap.size, 0, none⟩ = some (.int .i64 t) := fun n os => Grew.cell ⟨n, os, rfl⟩ B1.out.1
          have b2 : ∀ n os, (grow (W1.drewN n) os).cell? ⟨wr.heap.size, 1, none⟩ = some (.int .i64 r) := fun n os => Grew.cell ⟨n, os, rfl⟩ B1.out.2
          refine wp_region_quiet_grown mx (by kernel_rfl) ?_
          repeat (go_big_quiet_step (first
            | (go_at_call 23; exact Calls.grown_of (HCk.out _))
            | (go_at_call 26; exact Calls.grown_of (HCm.out _))))
          refine wpQuiet_nil ?_
          intro _ hw'
          obtain ⟨⟨nq, osq⟩, hw''⟩ := hw'
          subst hw''
          have HG2 : Hid (Grew w (grow (W1.drewN nq) osq)) := HG1.out.trans ⟨_, _, rfl⟩
          generalize grow (W1.drewN nq) osq = W2 at *
          go_wp2_with fail
          go_roundw
          case rel => exact ⟨k + 1, by omega, by go_num, HE, HG2⟩
          case measure => simp [intOf]; omega
        · have hkp : (0 : Int) < (k : Int) := by omega
          have hd0 : decide ((0 : Int) < (k : Int)) = true := by simpa using hkp
          have hd1 : decide (0 < k) = true := by simp; omega
          obtain ⟨p1, p2⟩ := HPC.out (k - 1) (by omega)
          have HPN : Hid ((∀ j, j + 1 = k → lt (kd L j) (t, r) = true) ↔ lt (kd L (k - 1)) (t, r) = true) := ⟨fun h => h _ (by omega), fun h j hj => by rw [show j = k - 1 by omega]; exact h⟩
          have HPQ : Hid (Rise L → lt (kd L (k - 1)) (t, r) = true) := HPR.out (k - 1) (by omega)
          generalize kd L (k - 1) = pk at *
          obtain ⟨u, s⟩ := pk
          simp only at p1 p2
          have hkm : (k : Int) - 1 = ((k - 1 : Nat) : Int) := by omega
          cases hlu : lt (u, s) (t, r) with
          | false =>
            have HE : Hid (decide (Rise L) = false) := by rw [Hid]; simp; intro hr; have := HPQ.out hr; rw [hlu] at this; cases this
            have hcv : ∃ c : Int, cmp (u, s) (t, r) = c ∧ 0 ≤ c := ⟨_, rfl, by have := cmp_neg (u, s) (t, r); rw [hlu] at this; simp at this; exact this⟩
            obtain ⟨cv, hcv, hcp⟩ := hcv
            have hcd : decide (0 ≤ cv) = true := by simpa using hcp
            have HCk : Hid (∀ w, Calls Try.prog 23 #[.agg #[.int .i64 t, .int .i64 r]] w fun e w' => e = .returned (.int .i64 0) ∧ ∃ q os, w' = grow (w.drewN q) os) := fun w => by
              have h := check_any w t r
              rwa [hik] at h
            have HCm : Hid (∀ w, Calls Try.prog 26 #[.agg #[.int .i64 u, .int .i64 s], .agg #[.int .i64 t, .int .i64 r]] w fun e w' => e = .returned (.int .i64 cv) ∧ ∃ q os, w' = grow (w.drewN q) os) := fun w => by
              have h := compare_any w u s t r
              rwa [hcv] at h
            clear HNK HNX HPR HPC hik HPN HPQ hlu hcv
            go_wp2_with fail
            have B1 : Hid (Box (wr.alloc (.cells #[.int .i64 t, .int .i64 r] 28)) wr.heap.size t r) := Box.new rfl
            have HG1 : Hid (Grew w (wr.alloc (.cells #[.int .i64 t, .int .i64 r] 28))) := HG.out.alloc _
            have HGa : Hid (Grew wr (wr.alloc (.cells #[.int .i64 t, .int .i64 r] 28))) := (Grew.refl _).alloc _
            generalize wr.alloc (.cells #[.int .i64 t, .int .i64 r] 28) = W1 at *
            have b1 : ∀ n os, (grow (W1.drewN n) os).cell? ⟨wr.heap.size, 0, none⟩ = some (.int .i64 t) := fun n os => Grew.cell ⟨n, os, rfl⟩ B1.out.1
            have b2 : ∀ n os, (grow (W1.drewN n) os).cell? ⟨wr.heap.size, 1, none⟩ = some (.int .i64 r) := fun n os => Grew.cell ⟨n, os, rfl⟩ B1.out.2
            have d1 : ∀ n os, (grow (W1.drewN n) os).cell? ⟨b, off + (k - 1) * 2, none⟩ = some (.int .i64 u) := fun n os => Grew.cell ⟨n, os, rfl⟩ (HGa.out.cell p1)
            have d2 : ∀ n os, (grow (W1.drewN n) os).cell? ⟨b, off + (k - 1) * 2 + 1, none⟩ = some (.int .i64 s) := fun n os => Grew.cell ⟨n, os, rfl⟩ (HGa.out.cell p2)
            clear p1 p2
            refine wp_region_quiet_grown mx (by kernel_rfl) ?_
            repeat (go_big_quiet_step (first
              | (go_at_call 23; exact Calls.grown_of (HCk.out _))
              | (go_at_call 26; exact Calls.grown_of (HCm.out _))))
            refine wpQuiet_nil ?_
            intro _ hw'
            obtain ⟨⟨nq, osq⟩, hw''⟩ := hw'
            subst hw''
            go_wp2
            go_ret
            exact ⟨by rw [HE.out]; rfl, HG1.out.trans ⟨_, _, rfl⟩⟩
          | true =>
            have HE : Hid (Rise (L.take (k + 1))) := HNX.out hik (HPN.out.2 hlu)
            have hcv : cmp (u, s) (t, r) = -1 := cmp_lt hlu
            have HCk : Hid (∀ w, Calls Try.prog 23 #[.agg #[.int .i64 t, .int .i64 r]] w fun e w' => e = .returned (.int .i64 0) ∧ ∃ q os, w' = grow (w.drewN q) os) := fun w => by
              have h := check_any w t r
              rwa [hik] at h
            have HCm : Hid (∀ w, Calls Try.prog 26 #[.agg #[.int .i64 u, .int .i64 s], .agg #[.int .i64 t, .int .i64 r]] w fun e w' => e = .returned (.int .i64 (-1)) ∧ ∃ q os, w' = grow (w.drewN q) os) := fun w => by
              have h := compare_any w u s t r
              rwa [hcv] at h
            clear HNK HNX HPR HPC hik HPN HPQ hlu hcv
            go_wp2_with fail
            have B1 : Hid (Box (wr.alloc (.cells #[.int .i64 t, .int .i64 r] 28)) wr.heap.size t r) := Box.new rfl
            have HG1 : Hid (Grew w (wr.alloc (.cells #[.int .i64 t, .int .i64 r] 28))) := HG.out.alloc _
            have HGa : Hid (Grew wr (wr.alloc (.cells #[.int .i64 t, .int .i64 r] 28))) := (Grew.refl _).alloc _
            generalize wr.alloc (.cells #[.int .i64 t, .int .i64 r] 28) = W1 at *
            have b1 : ∀ n os, (grow (W1.drewN n) os).cell? ⟨wr.heap.size, 0, none⟩ = some (.int .i64 t) := fun n os => Grew.cell ⟨n, os, rfl⟩ B1.out.1
            have b2 : ∀ n os, (grow (W1.drewN n) os).cell? ⟨wr.heap.size, 1, none⟩ = some (.int .i64 r) := fun n os => Grew.cell ⟨n, os, rfl⟩ B1.out.2
            have d1 : ∀ n os, (grow (W1.drewN n) os).cell? ⟨b, off + (k - 1) * 2, none⟩ = some (.int .i64 u) := fun n os => Grew.cell ⟨n, os, rfl⟩ (HGa.out.cell p1)
            have d2 : ∀ n os, (grow (W1.drewN n) os).cell? ⟨b, off + (k - 1) * 2 + 1, none⟩ = some (.int .i64 s) := fun n os => Grew.cell ⟨n, os, rfl⟩ (HGa.out.cell p2)
            clear p1 p2
            refine wp_region_quiet_grown mx (by kernel_rfl) ?_
            repeat (go_big_quiet_step (first
              | (go_at_call 23; exact Calls.grown_of (HCk.out _))
              | (go_at_call 26; exact Calls.grown_of (HCm.out _))))
            refine wpQuiet_nil ?_
            intro _ hw'
            obtain ⟨⟨nq, osq⟩, hw''⟩ := hw'
            subst hw''
            have HG2 : Hid (Grew w (grow (W1.drewN nq) osq)) := HG1.out.trans ⟨_, _, rfl⟩
            generalize grow (W1.drewN nq) osq = W2 at *
            go_wp2_with fail
            go_roundw
            case rel => exact ⟨k + 1, by omega, by go_num, HE, HG2⟩
            case measure => simp [intOf]; omega
    · obtain rfl : k = n := by omega
      have HE : Hid (decide (Rise L) = true) := by rw [Hid, decide_eq_true_iff]; have := HR.out; rwa [HN.out, List.take_length] at this
      go_wp2
      go_ret
      exact ⟨by rw [HE.out]; rfl, HG.out⟩

end Go.Proofs.Ytfkijdlggdgfhaa
/-
  '!=' OF KEYS; num.
-/
namespace Go.Proofs.Ytfkijdlggdgfhaa
open Go.RowKit Go.Sort

theorem run_neKey (x1 x2 y1 y2 : Int) (w : World) : Sem.run Try.prog (binOp .neq 28 (.agg #[.int .i64 x1, .int .i64 x2]) (.agg #[.int .i64 y1, .int .i64 y2])) w = .ok (.bool (!decide ((x1, x2) = (y1, y2)))) w := by
  have u3 := Try.underlying3
  have a3 := Try.isAgg3
  have z3 := Try.sizeOf3
  have u2 := Try.underlying2
  have a2 := Try.isAgg2
  have z2 := Try.sizeOf2
  have hS : Try.prog.underlying 28 = some (.struct (Try.prog.fieldsOf 28)) := by kernel_rfl
  have hp : Try.prog.stoodInHeld 28 = false := by kernel_rfl
  rw [run_neq_struct, show (10000 : Nat) = 9999 + 1 from rfl, run_equalIn_agg w 9999 28 _ _ hS hp]
  simp only [Program.fieldsOf, Try.underlying28]
  go_simp
  by_cases h1 : x1 = y1 <;> by_cases h2 : x2 = y2 <;> simp [h1, h2]

end Go.Proofs.Ytfkijdlggdgfhaa
/-
  A ROW OF KEYS OF THE CALL's OWN, WRITTEN INTO; slices.Compact AT []api.Key.
-/
namespace Go.Proofs.Ytfkijdlggdgfhaa
open Go.RowKit Go.Sort

theorem cks_set (M : List K) (i : Nat) (k : K) (h : i < M.length) : cks (M.set i k) = ((cks M).set (i * 2) (.int .i64 k.1)).set (i * 2 + 1) (.int .i64 k.2) := by
  induction M generalizing i with
  | nil => simp at h
  | cons m M ih =>
    cases i with
    | zero => simp [cks]
    | succ i =>
      have := ih i (by simp at h; omega)
      rw [List.set_cons_succ, show (i + 1) * 2 = i * 2 + 1 + 1 by omega]
      simp only [cks, List.set_cons_succ]
      rw [this]
theorem cks_take (M : List K) (m : Nat) : cks (M.take m) = (cks M).take (m * 2) := by
  induction M generalizing m with
  | nil => simp [cks]
  | cons k M ih =>
    cases m with
    | zero => simp [cks]
    | succ m =>
      rw [show (m + 1) * 2 = m * 2 + 1 + 1 by omega]
      simp only [cks, List.take_succ_cons, ih]
theorem kd_set (M : List K) (i j : Nat) (k : K) (h : i < M.length) : kd (M.set i k) j = if i = j then k else kd M j := by
  unfold kd
  rw [List.getD_eq_getElem?_getD, List.getD_eq_getElem?_getD, List.getElem?_set]
  by_cases hij : i = j
  · subst hij; rw [if_pos rfl, if_pos h, if_pos rfl]; rfl
  · rw [if_neg hij, if_neg hij]

abbrev own (g n cap : Nat) : Value := .slice (some ⟨g, 0, none⟩) n cap
theorem OwnK.len {w : World} {base g n cap : Nat} {M : List K} (h : OwnK w base (own g n cap) M) : n = M.length ∧ n ≤ cap ∧ cap ≤ maxLen := by
  rcases h.shape with ⟨e, _⟩ | ⟨g', c', e, _, _, h1, h2, _⟩
  · cases e
  · cases e; exact ⟨rfl, h1, h2⟩
theorem OwnK.at {w : World} {base g n cap : Nat} {M : List K} (h : OwnK w base (own g n cap) M) (i : Nat) (hi : i < n) :
    w.cell? ⟨g, i * 2, none⟩ = some (.int .i64 (kd M i).1) ∧ w.cell? ⟨g, i * 2 + 1, none⟩ = some (.int .i64 (kd M i).2) := by
  obtain ⟨hn, _⟩ := h.len
  rcases h.shape with ⟨e, _⟩ | ⟨g', c', e, _, _, _, _, hk⟩
  · cases e
  · cases e
    rcases hk with h0 | ⟨b, off, e, hc⟩
    · rw [h0] at hi; simp at hi
    · cases e
      have := KeysAt.at hc i hi
      simpa using this
theorem OwnK.frozen {w : World} {base g n cap : Nat} {M : List K} (h : OwnK w base (own g n cap) M) (j : Nat) : w.frozen? ⟨g, j, none⟩ = false := by
  obtain ⟨rfl, _⟩ := h.len
  exact World.ownsRow.frozenAt h j
theorem OwnK.set {w : World} {base g n cap : Nat} {M : List K} (h : OwnK w base (own g n cap) M) (i : Nat) (hi : i < n) (x y : Int) :
    OwnK ((w.setCell ⟨g, i * 2, none⟩ (.int .i64 x)).setCell ⟨g, i * 2 + 1, none⟩ (.int .i64 y)) base (own g n cap) (M.set i (x, y)) ∧ w.grownBy ((w.setCell ⟨g, i * 2, none⟩ (.int .i64 x)).setCell ⟨g, i * 2 + 1, none⟩ (.int .i64 y)) (some g) := by
  obtain ⟨rfl, _⟩ := h.len
  obtain ⟨h1, h2⟩ := World.ownsRow.stored h (i * 2) (.int .i64 x)
  obtain ⟨h3, h4⟩ := World.ownsRow.stored h1 (i * 2 + 1) (.int .i64 y)
  refine ⟨?_, ⟨h4.os.trans h2.os, h4.tape.trans h2.tape, h4.output.trans h2.output, Nat.le_trans h2.size h4.size, fun k hk hne => (h4.block k (Nat.lt_of_lt_of_le hk h2.size) hne).trans (h2.block k hk hne)⟩⟩
  unfold OwnK
  rw [List.length_set, cks_set M i (x, y) hi]
  exact h3
theorem OwnK.prefix {w : World} {base g n cap : Nat} {M : List K} (h : OwnK w base (own g n cap) M) (m : Nat) (hm : m ≤ n) : OwnK w base (own g m cap) (M.take m) := by
  obtain ⟨rfl, _⟩ := h.len
  obtain ⟨hl, h⟩ := h
  rcases h with ⟨e, _⟩ | ⟨g', c', cur, e, hb, hg, hnc, hcm, hs, ht⟩
  · cases e
  · cases e
    have hlen : (M.take m).length = m := by simp; omega
    unfold OwnK
    rw [hlen]
    refine ⟨by rw [cks_length, hlen], .inr ⟨g, cap, cur, rfl, hb, hg, by omega, hcm, hs, ?_⟩⟩
    rw [cks_take, ← ht, List.take_take]
    congr 1
    omega
/-- cells written behind the m-th -/
theorem ownsRow_setCells {base : Nat} {e : TypeId} {size g n cap : Nat} : ∀ (vs : List Value) (o : Nat) (w : World) (xs : List Value), w.ownsRow base e size (.slice (some ⟨g, 0, none⟩) n cap) n xs →
    ∃ xs', (w.setCells g o vs).ownsRow base e size (.slice (some ⟨g, 0, none⟩) n cap) n xs' ∧ xs'.take o = xs.take o ∧ w.grownBy (w.setCells g o vs) (some g)
  | [], o, w, xs, h => ⟨xs, h, rfl, World.grownBy.refl _ _⟩
  | v :: vs, o, w, xs, h => by
    obtain ⟨h1, h2⟩ := World.ownsRow.stored h o v
    obtain ⟨xs', h3, h4, h5⟩ := ownsRow_setCells vs (o + 1) (w.setCell ⟨g, o, none⟩ v) _ h1
    refine ⟨xs', h3, ?_, ⟨h5.os.trans h2.os, h5.tape.trans h2.tape, h5.output.trans h2.output, Nat.le_trans h2.size h5.size, fun k hk hne => (h5.block k (Nat.lt_of_lt_of_le hk h2.size) hne).trans (h2.block k hk hne)⟩⟩
    have := congrArg (List.take o) h4
    rw [List.take_take, List.take_take, Nat.min_eq_left (by omega), List.take_set_of_le (by omega)] at this
    exact this
theorem OwnK.cleared {w : World} {base g n cap : Nat} {M : List K} (h : OwnK w base (own g n cap) M) (m : Nat) (hm : m ≤ n) (vs : List Value) :
    OwnK (w.setCells g (m * 2) vs) base (own g m cap) (M.take m) ∧ w.grownBy (w.setCells g (m * 2) vs) (some g) := by
  obtain ⟨rfl, _⟩ := h.len
  obtain ⟨xs', h1, h2, h3⟩ := ownsRow_setCells vs (m * 2) w _ h
  refine ⟨?_, h3⟩
  obtain ⟨hl, h⟩ := h1
  rcases h with ⟨e, _⟩ | ⟨g', c', cur, e, hb, hg, hnc, hcm, hs, ht⟩
  · cases e
  · cases e
    have hlen : (M.take m).length = m := by simp; omega
    unfold OwnK
    rw [hlen]
    refine ⟨by rw [cks_length, hlen], .inr ⟨g, cap, cur, rfl, hb, hg, by omega, hcm, hs, ?_⟩⟩
    rw [cks_take, ← h2, ← ht, List.take_take]
    congr 1
    omega
/-- clear -/
theorem run_clear_keys (w : World) (ty : TypeId) (b o n c : Nat) (hn : 0 < n) (hc : ∀ j, j < n * 2 → (w.cell? ⟨b, o + j, none⟩).isSome = true) (hf : ∀ j, j < n * 2 → w.frozen? ⟨b, o + j, none⟩ = false) :
    ∃ vs, (Builtin.clear_ #[38] ty #[.slice (some ⟨b, o, none⟩) n c]).run Try.prog w = .ok (.tuple #[]) (w.setCells b o vs) := by
  have hz : ∀ w, (zeroValue 28).run Try.prog w = .ok (.agg #[.int .i64 0, .int .i64 0]) w := Try.zeroValue28
  have hst := run_storeCells_cells (P := Try.prog) b o (Builtin.zeroCells #[.int .i64 0, .int .i64 0] n).toList 0 w (by simpa [Builtin.zeroCells] using hc) (by simpa [Builtin.zeroCells] using hf) (by
    intro v hv
    simp only [Builtin.zeroCells, Array.toList_map, List.mem_map] at hv
    obtain ⟨i, _, rfl⟩ := hv
    have : i % 2 = 0 ∨ i % 2 = 1 := by omega
    rcases this with h | h <;> simp [h] <;> rfl)
  simp only [Nat.add_zero] at hst
  obtain ⟨m, rfl⟩ : ∃ m, n = m + 1 := ⟨n - 1, by omega⟩
  exact ⟨_, by simp [Builtin.clear_, run_underlying Try.underlying38, hz, Value.cells, hst]; rfl⟩

/-- the same members -/
def SameMem (A B : List K) : Prop := ∀ x, x ∈ A ↔ x ∈ B
/-- a list that does not fall -/
def Asc (S : List K) : Prop := ∀ i j, i < j → j < S.length → lt (kd S j) (kd S i) = false
/-- what is kept of the first j -/
structure Comp (S : List K) (j : Nat) (C : List K) : Prop where
  rise : Rise C
  mem : ∀ x, x ∈ C ↔ x ∈ S.take j
  last : ∀ i, i + 1 = C.length → kd C i = kd S (j - 1)
theorem Comp.same {S C : List K} {j : Nat} (h : Comp S j C) (hj : 1 ≤ j) (hl : j < S.length) (he : kd S j = kd S (j - 1)) : Comp S (j + 1) C := by
  refine ⟨h.rise, fun x => ?_, fun i hi => by rw [h.last i hi, ← he]; rfl⟩
  rw [h.mem, take_kd S j hl, List.mem_append, List.mem_singleton]
  constructor
  · exact .inl
  · rintro (h1 | h1)
    · exact h1
    · rw [h1, he]
      have h2 : (S.take j)[j - 1]? = some (kd S (j - 1)) := by rw [List.getElem?_take, if_pos (by omega)]; exact kd_get (by omega)
      exact List.mem_of_getElem? h2
theorem Comp.more {S C : List K} {j : Nat} (h : Comp S j C) (hj : 1 ≤ j) (hl : j < S.length) (hs : Asc S) (hk : ∀ x ∈ S, isKey x = true) (he : kd S j ≠ kd S (j - 1)) : Comp S (j + 1) (C ++ [kd S j]) := by
  refine ⟨rise_snoc h.rise (hk _ (kd_mem hl)) fun i y hi hy => ?_, fun x => ?_, fun i hi => ?_⟩
  · have e1 : kd C i = y := by have := kd_get (L := C) (j := i) (by omega); rw [this] at hy; exact Option.some.inj hy
    rw [← e1, h.last i hi]
    have := hs (j - 1) j (by omega) hl
    cases h1 : lt (kd S (j - 1)) (kd S j) with
    | true => rfl
    | false => exact absurd (eq_of_not_lt this h1) he
  · rw [take_kd S j hl, List.mem_append, List.mem_append, h.mem]
  · have hi' : i = C.length := by simp at hi; omega
    subst hi'
    have := kd_right C [kd S j] 0 (by simp)
    rw [Nat.add_zero] at this
    rw [this]; simp [kd]
theorem Comp.start {S : List K} (h : 1 ≤ S.length) (hk : ∀ x ∈ S, isKey x = true) : Comp S 1 (S.take 1) := by
  obtain ⟨a, S, rfl⟩ : ∃ a T, S = a :: T := by cases S with | nil => simp at h | cons a T => exact ⟨a, T, rfl⟩
  refine ⟨⟨by simpa using (hk a (by simp)), by simp⟩, fun x => Iff.rfl, fun i hi => ?_⟩
  simp at hi; subst hi; simp [kd]
theorem Comp.ne {S C : List K} {j : Nat} (h : Comp S j C) (hj : 1 ≤ j) (hl : j ≤ S.length) : 1 ≤ C.length := by
  have h2 : (S.take j)[0]? = some (kd S 0) := by rw [List.getElem?_take, if_pos (by omega)]; exact kd_get (by omega)
  have := (h.mem _).2 (List.mem_of_getElem? h2)
  cases C with | nil => simp at this | cons => simp

set_option maxHeartbeats 4000000 in
set_option maxRecDepth 100000 in
theorem compact_any (w : World) (base g n cap : Nat) (S : List K) (h : OwnK w base (own g n cap) S) (hs : Asc S) (hk : ∀ x ∈ S, isKey x = true) (hm : n ≤ 8796093022208) :
    Calls Try.prog 48 #[own g n cap] w fun e w' => ∃ m, e = .returned (own g m cap) ∧ ∃ C, OwnK w' base (own g m cap) C ∧ Rise C ∧ SameMem C S ∧ w.grownBy w' (some g) := by
  have HO : Hid (OwnK w base (own g n cap) S) := h
  have HA : Hid (Asc S) := hs
  have HK : Hid (∀ x ∈ S, isKey x = true) := hk
  have HL : Hid (n = S.length) := h.len.1
  have hnc := h.len.2.1
  have hcm := h.len.2.2
  clear h hs hk
  by_cases h2 : n < 2
  · go_enter Try.func48, Try.ntmps48
    go_wp2
    go_ret
    refine ⟨n, rfl, S, HO.out, ?_, fun x => Iff.rfl, World.grownBy.refl _ _⟩
    have hL := HL.out
    match S, hL, HK.out with
    | [], _, _ => exact rise_nil
    | [a], _, hk => exact ⟨by simpa using hk a (by simp), by simp⟩
    | a :: b :: S, hL, _ => simp at hL; omega
  · go_enter Try.func48, Try.ntmps48
    go_wp2_with fail
    go_loopw [3] (fun x wr => ∃ k q : Nat, 1 ≤ k ∧ k ≤ n ∧ x = .int .i64 (k : Int) ∧ wr = w.drewN q ∧ Hid (Comp S k (S.take k))) (fun x _ => n - (intOf x).toNat)
    case atStart => exact ⟨1, 0, Nat.le_refl _, by omega, rfl, rfl, Comp.start (by have := HL.out; omega) HK.out⟩
    case round =>
      obtain ⟨k, q, hk1, hk, rfl, rfl, HC⟩ := hrel
      by_cases hlt : k < n
      · obtain ⟨c1, c2⟩ := HO.out.at k hlt
        obtain ⟨d1, d2⟩ := HO.out.at (k - 1) (by omega)
        have HS1 : Hid (kd S k = kd S (k - 1) → Comp S (k + 1) (S.take k)) := fun he => HC.out.same hk1 (by have := HL.out; omega) he
        have HS2 : Hid (kd S k ≠ kd S (k - 1) → Comp S (k + 1) (S.take (k + 1))) := fun he => by rw [take_kd S k (by have := HL.out; omega)]; exact HC.out.more hk1 (by have := HL.out; omega) HA.out HK.out he
        have hkm : (k : Int) - 1 = ((k - 1 : Nat) : Int) := by omega
        generalize kd S k = kk at *
        generalize kd S (k - 1) = pk at *
        obtain ⟨t, r⟩ := kk
        obtain ⟨u, s⟩ := pk
        simp only at c1 c2 d1 d2
        by_cases he : (t, r) = (u, s)
        · have HC1 : Hid (Comp S (k + 1) (S.take k)) := HS1.out he
          have hq := run_eqKey t r u s
          rw [show decide ((t, r) = (u, s)) = true by simpa using he] at hq
          have hgd := fun op x y => run_eqGuard op x y t r u s
          clear he HS1 HS2 HC
          go_wp2_with fail
          go_quiet (fail)
          go_wp2_with fail
          have HI0 : Hid (OwnK (w.drewN (q + nq)) base (own g n cap) S ∧ w.grownBy (w.drewN (q + nq)) (some g)) := ⟨HO.out, ⟨rfl, rfl, rfl, Nat.le_refl _, fun _ _ _ => rfl⟩⟩
          generalize w.drewN (q + nq) = W1 at *
          clear hq hgd c1 c2 d1 d2
          go_loopw [3, 5] (fun x y wr => ∃ (kk k2 : Nat) (M C : List K), x = .int .i64 (kk : Int) ∧ y = .int .i64 (k2 : Int) ∧ 1 ≤ k2 ∧ k + k2 ≤ n ∧ kk < k + k2 ∧ Hid (OwnK wr base (own g n cap) M ∧ w.grownBy wr (some g)) ∧ Hid (Comp S (k + k2) C ∧ C = M.take kk ∧ ∀ i, kk ≤ i → kd M i = kd S i)) (fun _ y _ => n - (intOf y).toNat)
          case atStart => exact ⟨k, 1, S, S.take k, rfl, rfl, Nat.le_refl _, by omega, by omega, HI0, HC1.out, rfl, fun _ _ => rfl⟩
          case round =>
            clear HI0 HC1
            obtain ⟨kk, k2, M, C, rfl, rfl, hk2, hkn, hkk, HI, HCM⟩ := hrel
            have HML : Hid (n = M.length) := HI.out.1.len.1
            by_cases hlt2 : k2 < n - k
            · obtain ⟨c1, c2⟩ := HI.out.1.at (k + k2) (by omega)
              obtain ⟨d1, d2⟩ := HI.out.1.at (k + k2 - 1) (by omega)
              obtain ⟨e1, e2⟩ := HI.out.1.at kk (by omega)
              have f1 := HI.out.1.frozen (kk * 2)
              have f2 := HI.out.1.frozen (kk * 2 + 1)
              rw [HCM.out.2.2 (k + k2) (by omega), show (k + k2) * 2 = k * 2 + k2 * 2 by omega] at c1 c2
              rw [HCM.out.2.2 (k + k2 - 1) (by omega), show (k + k2 - 1) * 2 = k * 2 + (k2 - 1) * 2 by omega] at d1 d2
              have HS1 : Hid (kd S (k + k2) = kd S (k + k2 - 1) → Comp S (k + (k2 + 1)) C) := fun he => HCM.out.1.same (by omega) (by have := HL.out; omega) he
              have HS2 : Hid (kd S (k + k2) ≠ kd S (k + k2 - 1) → Comp S (k + (k2 + 1)) (C ++ [kd S (k + k2)])) := fun he => HCM.out.1.more (by omega) (by have := HL.out; omega) HA.out HK.out he
              have hkm : (k2 : Int) - 1 = ((k2 - 1 : Nat) : Int) := by omega
              generalize kd S (k + k2) = xk at *
              generalize kd S (k + k2 - 1) = pk at *
              generalize kd M kk = ok at *
              obtain ⟨t, r⟩ := xk
              obtain ⟨u, s⟩ := pk
              obtain ⟨o1, o2⟩ := ok
              simp only at c1 c2 d1 d2 e1 e2
              by_cases he : (t, r) = (u, s)
              · have HC1 : Hid (Comp S (k + (k2 + 1)) C ∧ C = M.take kk ∧ ∀ i, kk ≤ i → kd M i = kd S i) := ⟨HS1.out he, HCM.out.2⟩
                have hq := run_neKey t r u s
                rw [show decide ((t, r) = (u, s)) = true by simpa using he] at hq
                simp only [Bool.not_true] at hq
                have hgd := fun op x y => run_eqGuard op x y t r u s
                clear he HS1 HS2 HCM
                go_wp2_with fail
                go_quiet (fail)
                have HI1 : Hid (OwnK (wr.drewN nq) base (own g n cap) M ∧ w.grownBy (wr.drewN nq) (some g)) := ⟨HI.out.1, ⟨HI.out.2.os, HI.out.2.tape, HI.out.2.output, HI.out.2.size, HI.out.2.block⟩⟩
                go_wp2_with fail
                go_roundw
                case rel => exact ⟨kk, k2 + 1, M, C, rfl, by go_num, by omega, by omega, by omega, HI1, HC1⟩
                case measure => simp [intOf]; omega
              · have HC1 : Hid (Comp S (k + (k2 + 1)) (C ++ [(t, r)]) ∧ C ++ [(t, r)] = (M.set kk (t, r)).take (kk + 1) ∧ ∀ i, kk + 1 ≤ i → kd (M.set kk (t, r)) i = kd S i) := by
                  have hm := HML.out
                  refine ⟨HS2.out he, ?_, fun i hi => ?_⟩
                  · rw [take_kd _ kk (by simp; omega), kd_set _ _ _ _ (by omega), if_pos rfl, HCM.out.2.1, List.take_set_of_le (by omega)]
                  · rw [kd_set _ _ _ _ (by omega), if_neg (by omega)]; exact HCM.out.2.2 i (by omega)
                have hq := run_neKey t r u s
                rw [show decide ((t, r) = (u, s)) = false by simpa using he] at hq
                simp only [Bool.not_false] at hq
                have hgd := fun op x y => run_eqGuard op x y t r u s
                clear he HS1 HS2 HCM
                go_wp2_with fail
                go_quiet (fail)
                have HI1 : Hid (OwnK (wr.drewN nq) base (own g n cap) M ∧ w.grownBy (wr.drewN nq) (some g)) := ⟨HI.out.1, ⟨HI.out.2.os, HI.out.2.tape, HI.out.2.output, HI.out.2.size, HI.out.2.block⟩⟩
                have c1' : (wr.drewN nq).cell? ⟨g, k * 2 + k2 * 2, none⟩ = some (.int .i64 t) := c1
                have c2' : (wr.drewN nq).cell? ⟨g, k * 2 + k2 * 2 + 1, none⟩ = some (.int .i64 r) := c2
                have e1' : (wr.drewN nq).cell? ⟨g, kk * 2, none⟩ = some (.int .i64 o1) := e1
                have e2' : (wr.drewN nq).cell? ⟨g, kk * 2 + 1, none⟩ = some (.int .i64 o2) := e2
                have f1' : (wr.drewN nq).frozen? ⟨g, kk * 2, none⟩ = false := f1
                have f2' : (wr.drewN nq).frozen? ⟨g, kk * 2 + 1, none⟩ = false := f2
                clear c1 c2 e1 e2 f1 f2 d1 d2 hq hgd HI
                generalize wr.drewN nq = W2 at *
                have HI2 : Hid (OwnK ((W2.setCell ⟨g, kk * 2, none⟩ (.int .i64 t)).setCell ⟨g, kk * 2 + 1, none⟩ (.int .i64 r)) base (own g n cap) (M.set kk (t, r)) ∧ w.grownBy ((W2.setCell ⟨g, kk * 2, none⟩ (.int .i64 t)).setCell ⟨g, kk * 2 + 1, none⟩ (.int .i64 r)) (some g)) := by
                  obtain ⟨h1, h2⟩ := HI1.out.1.set kk (by omega) t r
                  have h0 := HI1.out.2
                  exact ⟨h1, ⟨h2.os.trans h0.os, h2.tape.trans h0.tape, h2.output.trans h0.output, Nat.le_trans h0.size h2.size, fun b hb hne => (h2.block b (Nat.lt_of_lt_of_le hb h0.size) hne).trans (h0.block b hb hne)⟩⟩
                go_wp2_with fail
                go_roundw
                case rel => exact ⟨kk + 1, k2 + 1, M.set kk (t, r), C ++ [(t, r)], by go_num, by go_num, by omega, by omega, by omega, HI2, HC1⟩
                case measure => simp [intOf]; omega
            · have hkk' : k2 = n - k := by omega
              subst hkk'
              have HE : Hid (Rise C ∧ SameMem C S ∧ C = M.take kk) := by
                obtain ⟨h1, h2, _⟩ := HCM.out
                refine ⟨h1.rise, fun x => ?_, h2⟩
                rw [h1.mem, show k + (n - k) = S.length by have := HL.out; omega, List.take_length]
              have HCl : Hid (∀ ty, ∃ vs, (Builtin.clear_ #[38] ty #[.slice (some ⟨g, kk * 2, none⟩) (n - kk) (cap - kk)]).run Try.prog wr = .ok (.tuple #[]) (wr.setCells g (kk * 2) vs)) := fun ty => by
                refine run_clear_keys wr ty g (kk * 2) (n - kk) (cap - kk) (by omega) (fun j hj => ?_) (fun j hj => HI.out.1.frozen _)
                have h1 := HI.out.1.at (kk + j / 2) (by omega)
                have : j % 2 = 0 ∨ j % 2 = 1 := by omega
                rcases this with h | h
                · rw [show kk * 2 + j = (kk + j / 2) * 2 by omega, h1.1]; rfl
                · rw [show kk * 2 + j = (kk + j / 2) * 2 + 1 by omega, h1.2]; rfl
              obtain ⟨vs, hcl⟩ := HCl.out 0
              clear HCM HCl
              go_wp2_with fail
              go_ret
              obtain ⟨h1, h2⟩ := HI.out.1.cleared kk (by omega) vs
              have h0 := HI.out.2
              rw [← HE.out.2.2] at h1
              exact ⟨_, rfl, C, h1, HE.out.1, HE.out.2.1, ⟨h2.os.trans h0.os, h2.tape.trans h0.tape, h2.output.trans h0.output, Nat.le_trans h0.size h2.size, fun b hb hne => (h2.block b (Nat.lt_of_lt_of_le hb h0.size) hne).trans (h0.block b hb hne)⟩⟩
        · have HC1 : Hid (Comp S (k + 1) (S.take (k + 1))) := HS2.out he
          have hq := run_eqKey t r u s
          rw [show decide ((t, r) = (u, s)) = false by simpa using he] at hq
          have hgd := fun op x y => run_eqGuard op x y t r u s
          clear he HS1 HS2 HC
          go_wp2_with fail
          go_quiet (fail)
          go_wp2_with fail
          go_roundw
          case rel => exact ⟨k + 1, q + nq, by omega, by omega, by go_num, rfl, HC1⟩
          case measure => simp [intOf]; omega
      · obtain rfl : k = n := by omega
        have HE : Hid (Rise S ∧ SameMem S S) := ⟨by have := HC.out.rise; rwa [HL.out, List.take_length] at this, fun x => Iff.rfl⟩
        go_wp2
        go_ret
        exact ⟨_, rfl, S, HO.out, HE.out.1, HE.out.2, ⟨rfl, rfl, rfl, Nat.le_refl _, fun _ _ _ => rfl⟩⟩

end Go.Proofs.Ytfkijdlggdgfhaa
/-
  THE WALK OF Sort.
-/
namespace Go.Proofs.Ytfkijdlggdgfhaa
open Go.RowKit Go.Sort

theorem ltOf_cmp (x y : K) : ltOf cmp x y = lt x y := by
  unfold ltOf
  cases h : lt x y with
  | true => simpa using (cmp_neg x y).2 h
  | false =>
    have : ¬ cmp x y < 0 := fun h2 => by rw [(cmp_neg x y).1 h2] at h; cases h
    simpa using this
theorem swo : SWO (ltOf cmp) := by
  constructor
  · intro x; rw [ltOf_cmp]; exact lt_irrefl x
  · intro x y z; rw [ltOf_cmp, ltOf_cmp, ltOf_cmp]; exact lt_trans
  · intro x y z
    rw [ltOf_cmp, ltOf_cmp, ltOf_cmp, lt_false, lt_false, lt_false]
    omega
theorem flat_cks (L : List K) : (flatK ck 2 L.toArray).toList = cks L := by
  apply List.ext_getElem?
  intro j
  by_cases hj : j < L.length * 2
  · have hjd : j / 2 < L.length := by omega
    have e := cks_at L (j / 2) hjd
    have hk : L[j / 2]?.getD default = kd L (j / 2) := by rw [kd_get hjd]; rfl
    have : j % 2 = 0 ∨ j % 2 = 1 := by omega
    rw [Array.getElem?_toList]
    rcases this with h | h
    · have hj2 : j = j / 2 * 2 := by omega
      rw [show (cks L)[j]? = (cks L)[j / 2 * 2]? by rw [← hj2], e.1]
      simp [flatK, hj, h, ck, hk]
    · have hj2 : j = j / 2 * 2 + 1 := by omega
      rw [show (cks L)[j]? = (cks L)[j / 2 * 2 + 1]? by rw [← hj2], e.2]
      simp [flatK, hj, h, ck, hk]
  · rw [List.getElem?_eq_none (by simp; omega), List.getElem?_eq_none (by rw [cks_length]; omega)]
theorem OwnK.holds {w : World} {base g n cap : Nat} {L : List K} (h : OwnK w base (own g n cap) L) : HoldsK ck 2 w g 0 L.toArray := by
  obtain ⟨rfl, _⟩ := h.len
  intro j hj
  have hj' : j < L.length * 2 := by simpa using hj
  refine ⟨?_, World.ownsRow.frozenAt h _⟩
  rw [Nat.zero_add, World.ownsRow.cellAt h j hj', ← flat_cks, Array.getElem?_toList]
  simp [hj']
theorem OwnK.sorted {w : World} {base g n cap : Nat} {L M : List K} (h : OwnK w base (own g n cap) L) (hl : M.length = L.length) (m : Nat) (os : Array Obj) :
    OwnK (sortWorldK ck 2 w g 0 m M.toArray os) base (own g n cap) M ∧ w.grownBy (sortWorldK ck 2 w g 0 m M.toArray os) (some g) := by
  obtain ⟨rfl, _⟩ := h.len
  constructor
  · obtain ⟨_, h⟩ := h
    rcases h with ⟨e, _⟩ | ⟨g', c', cur, e, hb, hg, hnc, hcm, hs, ht⟩
    · cases e
    · cases e
      have hgl : g < w.heap.size := (Array.getElem?_eq_some_iff.1 hg).1
      have hh : (sortWorldK ck 2 w g 0 m M.toArray os).heap[g]? = some (.cells (putCells id 0 (flatK ck 2 M.toArray) cur) 28 (0, 0)) := by
        unfold sortWorldK
        rw [heap_grow_old _ _ (by simpa [putRowK, putRow, mapBlock, Sort.ahead] using hgl)]
        simp [putRowK, putRow, mapBlock, Sort.ahead, Array.getElem?_modify, hg, onCells]
      unfold OwnK
      rw [hl]
      refine ⟨by rw [cks_length, hl], .inr ⟨g, cap, _, rfl, hb, hh, hnc, hcm, by simpa [putCells] using hs, ?_⟩⟩
      rw [← flat_cks]
      apply List.ext_getElem?
      intro j
      by_cases hj : j < L.length * 2
      · have hjc : j < cur.size := by omega
        rw [List.getElem?_take_of_lt hj, Array.getElem?_toList, Array.getElem?_toList]
        simp [putCells, hj, hjc, hl]
      · rw [List.getElem?_take_eq_none (by omega), List.getElem?_eq_none (by simp [hl]; omega)]
  · unfold sortWorldK
    refine ⟨rfl, rfl, rfl, by simp [putRowK, putRow, mapBlock, Sort.ahead], fun k hk hne => ?_⟩
    rw [heap_grow_old _ _ (by simpa [putRowK, putRow, mapBlock, Sort.ahead] using hk)]
    have : g ≠ k := fun e => hne (by rw [e])
    simp [putRowK, putRow, mapBlock, Sort.ahead, Array.getElem?_modify, this]

theorem clone_any (w : World) (ao : Option Addr) (cap n : Nat) (L : List K) (hn : n = L.length) (h : KeysAt w ao L) (hsp : ∀ a, ao = some a → a.spot = none) (hm : n * 16 ≤ 140737488355328) :
    Calls Try.prog 46 #[.slice ao n cap] w fun e w' => ∃ v, e = .returned v ∧ OwnK w' w.heap.size v L ∧ Below w.heap.size w w' := by
  obtain ⟨i0, hi, hz0, hz1, hz2⟩ := info_parts infoK
  cases ao with
  | none =>
    have h0 : L = [] := by
      rcases h with h | ⟨b, off, e, _⟩
      · exact h
      · cases e
    subst h0
    refine (AnyE.slices_Clone_nil laysClone n cap w).mono fun e w' ⟨h1, h2⟩ => ⟨_, h1, OwnK.nil _ _, by subst h2; exact (Grew.refl _).below⟩
  | some a =>
    obtain ⟨b, off, sp⟩ := a
    have hsp' : sp = none := hsp _ rfl
    subst hsp'
    refine (AnyE.slices_Clone laysClone i0 (.agg #[.int .i64 0, .int .i64 0]) 2 16 hi hz0 hz1 hz2 rfl (by omega) Try.sizeOf28 b off n cap (cks L) w (by rw [cks_length, hn]) (by unfold maxLen; omega) hm
      (fun j u hu => ?_) (cks_one L)).mono fun e w' ⟨v, h1, h2, _, h3⟩ => ⟨v, h1, by unfold OwnK; rw [← hn]; exact h2, h3⟩
    rcases h with h0 | ⟨b', off', e, hc⟩
    · subst h0; simp [cks] at hu
    · cases e; exact hc j u hu
theorem asc_merge (L : List K) : Asc (L.mergeSort fun x y => !(ltOf cmp) y x) := by
  have h := List.pairwise_mergeSort (le := fun x y => !(ltOf cmp) y x) (fun a b c => by
    simp only [ltOf_cmp, Bool.not_eq_true', lt_false]; omega) (fun a b => by
    simp only [ltOf_cmp]
    cases h1 : lt b a with
    | false => simp
    | true => simp [lt_asymm h1]) L
  intro i j hij hj
  have := (List.pairwise_iff_getElem.1 h) i j (by omega) hj hij
  rw [ltOf_cmp] at this
  have e1 := kd_get (L := L.mergeSort fun x y => !(ltOf cmp) y x) (j := i) (by omega)
  have e2 := kd_get hj
  rw [List.getElem?_eq_getElem (by omega)] at e1
  rw [List.getElem?_eq_getElem hj] at e2
  rw [← Option.some.inj e1, ← Option.some.inj e2]
  simpa using this
theorem sortFunc_any (w : World) (base g n cap : Nat) (L : List K) (h : OwnK w base (own g n cap) L) (hm : n ≤ 8796093022208) :
    Calls Try.prog 47 #[own g n cap, .func (.func 26) #[] #[]] w fun e w' => e = .returned (.tuple #[]) ∧ ∃ S, OwnK w' base (own g n cap) S ∧ Asc S ∧ SameMem S L ∧ w.grownBy w' (some g) := by
  obtain ⟨hn, _⟩ := h.len
  have hlt : g < w.heap.size := (h.lt g rfl).2
  have := AnyQ.slices_SortFunc_total laysSort 2 Try.isAgg28 Try.sizeOf28 ck (fun x => rfl) (fun x v hv => by simp [ck] at hv; rcases hv with rfl | rfl <;> rfl) cmp swo 26 #[] g 0 cap L.toArray w
    (enters_of Try.func26 (by kernel_rfl) rfl)
    (fun m os dk _ x y => compare_any _ _ _ _ _) h.holds hlt (by simp; omega) (fun x y h1 h2 => by rw [ltOf_cmp] at h1 h2; exact eq_of_not_lt h1 h2)
  have e : L.toArray.size = n := by simp [hn]
  rw [e] at this
  refine this.mono fun e w' ⟨h1, m, os, h2⟩ => ⟨h1, L.toArray.toList.mergeSort (fun x y => !(ltOf cmp) y x), ?_⟩
  rw [h2]
  have h3 := h.sorted (M := L.toArray.toList.mergeSort fun x y => !(ltOf cmp) y x) (by simp) m os
  exact ⟨h3.1, asc_merge _, fun x => by simp [List.mem_mergeSort], h3.2⟩

theorem compact_nil (w : World) : Calls Try.prog 48 #[.slice none 0 0] w fun e w' => e = .returned (.slice none 0 0) ∧ w' = w := by
  go_enter Try.func48, Try.ntmps48
  go_wp2
  go_ret
  exact ⟨rfl, rfl⟩
set_option maxHeartbeats 2000000 in
set_option maxRecDepth 100000 in
theorem sort_any (w : World) (ao : Option Addr) (cap n : Nat) (L : List K) (hn : n = L.length) (h : KeysAt w ao L) (hsp : ∀ a, ao = some a → a.spot = none) (hm : n * 16 ≤ 140737488355328) :
    Calls Try.prog 25 #[.slice ao n cap] w fun e w' => ((L.all isKey = true ∧ ∃ v, e = .returned (.tuple #[v, .int .i64 0]) ∧ OwnK w' w.heap.size v (sortK L)) ∨ (L.all isKey = false ∧ e = .returned (.tuple #[.slice none 0 0, .int .i64 20]))) ∧ Below w.heap.size w w' := by
  have HN : Hid (n = L.length) := hn
  have HK : Hid (KeysAt w ao L) := h
  have HSp : Hid (∀ a, ao = some a → a.spot = none) := hsp
  clear hn h hsp
  go_enter Try.func25, Try.ntmps25
  go_wp2_with fail
  go_loopw [5, 6, 10] (fun _ _ y wr => ∃ k : Nat, k ≤ n ∧ y = .int .i64 (k : Int) ∧ Hid ((L.take k).all isKey = true) ∧ Hid (Grew w wr)) (fun _ _ y _ => n - (intOf y).toNat)
  case atStart => exact ⟨0, Nat.zero_le _, rfl, by simp [Hid], Grew.refl _⟩
  case round =>
    obtain ⟨k, hk, rfl, HA, HG⟩ := hrel
    by_cases hlt : k < n
    · have hl : k < L.length := by have := HN.out; omega
      rcases HK.out.grew HG.out with h0 | ⟨b, off, rfl, hc⟩
      · rw [h0] at hl; simp at hl
      · obtain ⟨c1, c2⟩ := KeysAt.at hc k hl
        have HAT : Hid (isKey (kd L k) = true → (L.take (k + 1)).all isKey = true) := all_take L k HA.out hl
        have HAF : Hid (isKey (kd L k) = false → L.all isKey = false) := all_false hl
        generalize kd L k = kk at *
        obtain ⟨t, r⟩ := kk
        simp only at c1 c2
        clear hc hl HA
        cases hik : isKey (t, r) with
        | false =>
          have HE : Hid (L.all isKey = false) := HAF.out hik
          have HCk : Hid (∀ w, Calls Try.prog 23 #[.agg #[.int .i64 t, .int .i64 r]] w fun e w' => e = .returned (.int .i64 20) ∧ ∃ q os, w' = grow (w.drewN q) os) := fun w => by
            have h := check_any w t r
            rwa [hik] at h
          clear HAT HAF hik
          go_wp2_with fail
          have HG1 : Hid (Grew w (wr.alloc (.cells #[.int .i64 t, .int .i64 r] 28))) := HG.out.alloc _
          generalize wr.alloc (.cells #[.int .i64 t, .int .i64 r] 28) = W1 at *
          refine (HCk.out W1).mono ?_
          rintro e w2 ⟨rfl, g2⟩
          have HB2 : Hid (Below w.heap.size w w2) := (HG1.out.trans g2).below
          clear g2 HCk HG1 c1 c2
          go_wp2
          go_ret2
          exact ⟨.inr ⟨HE.out, rfl⟩, HB2.out⟩
        | true =>
          have HE : Hid ((L.take (k + 1)).all isKey = true) := HAT.out hik
          have HCk : Hid (∀ w, Calls Try.prog 23 #[.agg #[.int .i64 t, .int .i64 r]] w fun e w' => e = .returned (.int .i64 0) ∧ ∃ q os, w' = grow (w.drewN q) os) := fun w => by
            have h := check_any w t r
            rwa [hik] at h
          clear HAT HAF hik
          go_wp2_with fail
          have HG1 : Hid (Grew w (wr.alloc (.cells #[.int .i64 t, .int .i64 r] 28))) := HG.out.alloc _
          generalize wr.alloc (.cells #[.int .i64 t, .int .i64 r] 28) = W1 at *
          refine (HCk.out W1).mono ?_
          rintro e w2 ⟨rfl, g2⟩
          have HG2 : Hid (Grew w w2) := HG1.out.trans g2
          clear g2 HCk HG1 c1 c2
          go_wp2_with fail
          go_roundw
          case rel => exact ⟨k + 1, by omega, by go_num, HE, HG2⟩
          case measure => simp [intOf]; omega
    · obtain rfl : k = n := by omega
      have HAll : Hid (L.all isKey = true) := by have := HA.out; rwa [HN.out, List.take_length] at this
      have HKs : Hid (∀ S, SameMem S L → ∀ x ∈ S, isKey x = true) := fun S hs x hx => List.all_eq_true.1 HAll.out x ((hs x).1 hx)
      clear HA
      go_wp2_with fail
      refine (clone_any wr ao cap k L HN.out (HK.out.grew HG.out) HSp.out hm).mono ?_
      rintro e w1 ⟨v, rfl, hown, hbel⟩
      have HB1 : Hid (Below w.heap.size w w1) := HG.out.below.trans (hbel.mono HG.out.size)
      have HO1 : Hid (OwnK w1 w.heap.size v L) := hown.mono HG.out.size
      clear hown hbel
      rcases HO1.out.shape with ⟨rfl, hL0⟩ | ⟨g, c, rfl, hbg, _, _, _, _⟩
      · have HS0 : Hid (sortK L = []) := by rw [Hid, hL0]; rfl
        have HSf : Hid (∀ w, Calls Try.prog 47 #[.slice none 0 0, .func (.func 26) #[] #[]] w fun e w' => e = .returned (.tuple #[]) ∧ w' = w) := fun w => AnyF.slices_SortFunc_none laysSort none 0 _ w
        have HCo : Hid (∀ w, Calls Try.prog 48 #[.slice none 0 0] w fun e w' => e = .returned (.slice none 0 0) ∧ w' = w) := fun w => compact_nil w
        clear hL0 HO1
        go_wp2_with fail
        refine (HSf.out w1).mono ?_
        rintro e w2 ⟨rfl, rfl⟩
        go_wp2_with fail
        refine (HCo.out w2).mono ?_
        rintro e w3 ⟨rfl, rfl⟩
        go_wp2
        go_ret2
        exact ⟨.inl ⟨HAll.out, _, rfl, by rw [HS0.out]; exact OwnK.nil _ _⟩, HB1.out⟩
      · rw [← HN.out]
        have HO2 : Hid (OwnK w1 w.heap.size (own g k c) L) := by have := HO1.out; rwa [← HN.out] at this
        have hmm : k ≤ 8796093022208 := by omega
        clear HO1
        go_wp2_with fail
        refine (sortFunc_any w1 w.heap.size g k c L HO2.out hmm).mono ?_
        rintro e w2 ⟨rfl, S, ho2, ha2, hs2, hg2⟩
        have HO3 : Hid (OwnK w2 w.heap.size (own g k c) S) := ho2
        have HA3 : Hid (Asc S) := ha2
        have HS3 : Hid (SameMem S L) := hs2
        have HB3 : Hid (Below w.heap.size w w2) := HB1.out.trans (grown_below hg2 (fun b hb => by cases hb; exact hbg) HB1.out.size)
        clear ho2 ha2 hs2 hg2 HO2 HB1
        go_wp2_with fail
        refine (compact_any w2 w.heap.size g k c S HO3.out HA3.out (HKs.out S HS3.out) hmm).mono ?_
        rintro e w3 ⟨m, rfl, C, ho, hr, hs, hg⟩
        have HO4 : Hid (OwnK w3 w.heap.size (own g m c) (sortK L)) := by
          rw [← sortK_eq (l := L) hr (fun x => (hs x).trans (HS3.out x))]; exact ho
        have HB4 : Hid (Below w.heap.size w w3) := HB3.out.trans (grown_below hg (fun b hb => by cases hb; exact hbg) HB3.out.size)
        clear ho hr hs hg HB3 HO3 HA3 HS3
        go_wp2
        go_ret2
        exact ⟨.inl ⟨HAll.out, _, rfl, HO4.out⟩, HB4.out⟩
end Go.Proofs.Ytfkijdlggdgfhaa
/-
  Keys.
-/
namespace Go.Proofs.Ytfkijdlggdgfhaa
open Go.RowKit Go.Sort Go.Shelf

attribute [local go_sem] Oper.semAt_some

theorem rowOwn {X Y : World} {b : Nat} {T : TypeId} {sz n : Nat} {v : Value} {xs : List Value} {row : Option Nat} (h : X.ownsRow b T sz v n xs) (hg : X.grownBy Y row) (hr : ∀ r, row = some r → ∃ o : Obj, X.heap[r]? = some o ∧ o.isCells = false) : Y.ownsRow b T sz v n xs := by
  obtain ⟨hl, h⟩ := h
  refine ⟨hl, ?_⟩
  rcases h with h | ⟨g, cap, cur, rfl, hb, hh, r⟩
  · exact .inl h
  · refine .inr ⟨g, cap, cur, rfl, hb, (hg.block g (blk_lt hh) (fun e => ?_)).trans hh, r⟩
    obtain ⟨o, ho, hc⟩ := hr g e.symm
    rw [hh] at ho
    cases ho
    cases hc
theorem keepsRow {X Y : World} {b : Nat} {T : TypeId} {sz n : Nat} {v : Value} {xs : List Value} (h : X.ownsRow b T sz v n xs) (hg : X.grownBy Y v.ownBlock) : KeepsOthers X Y := by
  refine ⟨hg.size, fun k o hk ho => (hg.block k (blk_lt hk) (fun e => ?_)).trans hk⟩
  obtain ⟨_, ⟨rfl, _⟩ | ⟨g, cap, cur, rfl, hb, hh, r⟩⟩ := h
  · cases e
  · cases e
    rw [hh] at hk
    cases hk
    cases ho
theorem wpLIn_app {F : Fence} {n : Nat} {w : World} {ops : Array Oper} {rest : List Oper} {o : Oper} {a : Act} {Q : Exit → Act → World → Prop} (hgd : o.guard = none) (s x : Operand) (TS : TypeId)
    (ho : o.op = .call { callee := .builtin .append, args := #[s, x], argTypes := #[TS, TS] }) (v u : Value) (hs : a.eval s = v) (hx : a.eval x = u) {post : Value → World → Prop}
    (hr : ∀ ty, ∃ v' w', (Builtin.append_ #[TS, TS] ty #[v, u]).run Try.prog w = .ok v' w' ∧ post v' w') (h : ∀ v' w', post v' w' → wpListIn F n Try.prog ops Q rest (a.put o.dst v') w') : wpListIn F n Try.prog ops Q (o :: rest) a w := by
  obtain ⟨v', w', hr, h2⟩ := hr o.type
  refine wpListIn_plain hgd fun K hK' => ?_
  unfold Oper.wpIn
  refine ⟨?_, ?_⟩
  · simp [Oper.about, ho, resolve, Target.leads]
  · rw [Oper.semAt_plain F _ _ (by rw [ho]; intro c hc'; cases hc')]
    simp [execOp, ho, resolve, invoke, builtin, hs, hx, hr, Result.andThen]
    exact hK' _ _ (h v' w' h2)
/-- the list that grows -/
structure KG (w : World) (n0 Bl : Nat) (L : List K) (W : World) (v : Value) : Prop where
  bx : Boxed W Bl 38 v
  ow : OwnK W n0 v L
  bel : Below w.heap.size w W
  sz : n0 ≤ W.heap.size
theorem KG.own {w : World} {n0 Bl B : Nat} {β : Type} (f : β → List K) (hB : w.heap.size ≤ B) : OwnFrom B (fun (s : β) W => ∃ v, KG w n0 Bl (f s) W v) := fun _ X Y row ⟨v, h⟩ hg hr =>
  ⟨v, boxed_own Bl 38 (fun _ : Unit => v) () X Y row h.bx hg (fun r e => (hr r e).2), rowOwn h.ow hg (fun r e => (hr r e).2), h.bel.grown hg h.bel.size (fun k e => Nat.le_trans hB (hr k e).1), Nat.le_trans h.sz hg.size⟩
set_option maxRecDepth 100000 in
set_option maxHeartbeats 2000000 in
theorem keysS_any (w : World) (S V D M L P : Nat) (hf : Value) (cap last : Int) (vs : List Vr) (es : List En) (R : K → Nat × Nat × Nat) (p : Int) (h : SA w S V D M L P hf cap last vs es R) :
    Calls Try.prog 12 #[ptr S, .int .i64 p] w fun e w' => ∃ v, e = .returned v ∧ OwnK w' w.heap.size v (sortK ((ptI P p es).map En.k)) ∧ Below w.heap.size w w' := by
  obtain ⟨W1, hW1⟩ : ∃ W1, W1 = w.alloc (.cells #[.slice none 0 0] 38) := ⟨_, rfl⟩
  have HB1 : Hid (Below w.heap.size w W1 ∧ Boxed W1 w.heap.size 38 (.slice none 0 0)) := by
    rw [hW1]
    exact ⟨(Below.refl _ _).alloc (Nat.le_refl _) _, Boxed.new w _ _⟩
  have c4 : ∀ o, (w.alloc o).cell? ⟨S, 4, none⟩ = some (ptr D) := fun o => Lib.cell?_alloc_some _ h.cells.2.2.2.2
  obtain ⟨l, hl⟩ : ∃ l, l = ptI P p es := ⟨_, rfl⟩
  have hsub : ∀ e ∈ l, e ∈ es := fun e he => by
    rw [hl] at he
    unfold ptI at he
    split at he
    · exact (pt_mem.1 he).1
    · cases he
  have HL : Hid ((∀ e ∈ l, KIn e.k ∧ True) ∧ l.length ≤ 65536 ∧ (l.map En.k).all isKey = true) := by
    refine ⟨fun e he => ⟨(h.da.pp e (hsub e he)).2.1, trivial⟩, ?_, ?_⟩
    · have h1 : l.length ≤ es.length := by
        rw [hl]; unfold ptI; split
        · exact List.length_filter_le _ _
        · simp
      have := h.el; have := h.lt; omega
    · rw [List.all_eq_true]
      intro k hk
      obtain ⟨e, he, rfl⟩ := List.mem_map.1 hk
      obtain ⟨v, hv⟩ := List.exists_mem_of_ne_nil _ (h.ne e (hsub e he))
      have h2 : v ∈ vs ∧ v.k = e.k := by simpa [ofK] using hv
      rw [← h2.2]
      exact h.ik v h2.1
  have HE := hidC (each_any W1 D M L P hf es p (h.da.kept HB1.out.1) (by have := HL.out.2.1; rw [← hl]; omega))
  rw [← hl] at HE ⊢
  clear h hl hsub
  refine (callsIn_wide (n := 10)).1 ?_
  refine callsIn_of_wp_marks Try.func12 rfl trivial ?_ rfl
  refine wpIn_wide.2 ?_
  simp only [Try.ntmps12, List.size_toArray, List.length_cons, List.length_nil, Nat.reduceAdd, Nat.reduceSub, Array.replicate_succ, Array.replicate_zero, List.push_toArray, List.append_toArray, List.nil_append, List.cons_append]
  go_wp2_with fail
  rw [← hW1]
  clear hW1
  refine HE.out.mono ?_
  clear HE
  rintro e W2 ⟨B, g, rfl, HEl⟩
  have hb2 := HEl.out.bel
  have HI : Hid (IL W2 B g l) := HEl.out.il
  have HG0 : Hid (KG w W2.heap.size w.heap.size [] W2 (.slice none 0 0) ∧ w.heap.size < W2.heap.size ∧ B < W2.heap.size ∧ g < W2.heap.size ∧ w.heap.size < B ∧ w.heap.size < g) := by
    have hb := HB1.out.1
    have hl := HB1.out.2.lt
    have hz := hb2.size
    have h1 := HEl.out.ge
    exact ⟨⟨(hb2.block _ hl).trans HB1.out.2, OwnK.nil _ _, hb.trans (hb2.mono hb.size), Nat.le_refl _⟩, by omega, blk_lt HI.out.box, HI.out.gl, by omega, by omega⟩
  clear hb2 HEl c4 HB1
  go_wp2_with fail
  refine (wpIn_wide (n := 10)).1 ?_
  refine loop_cut 0 (fun W => ∃ v, KG w W2.heap.size w.heap.size (l.map En.k) W v) (fun _ _ h => h) ?loop ?rest
  case loop =>
    refine wpIn_rangeFunc_ownH rfl (by omega) (gf := 45) (lb := #[ptr B]) rfl trivial (enters_of Try.func45 (by kernel_rfl) rfl)
      (each_stops Fence.wide 9 trivial rfl (by omega) B g l.length l HL.out.1 rfl (by have := HL.out.2.1; omega) W2 HI.out) KBG.trans (KBG.put HG0.out.2.2.1 HG0.out.2.2.2.1) (Below.refl _ _) (fun _ => rfl)
      (fun pre W => ∃ v, KG w W2.heap.size w.heap.size (pre.map (fun x : PX => x.1.1)) W v)
      (fun _ _ _ => False)
      (KG.own _ (by have := HG0.out.2.1; omega))
      (fun _ _ _ _ _ hs _ _ => hs)
      ⟨_, HG0.out.1⟩
      (fun x a' W => ∃ Bx, w.heap.size < Bx ∧ KBoxed W Bx x.1.1.1 x.1.1.2 ∧ a' = { tmps := #[ptr S, .int .i64 p, undef, undef, .slice none 0 0, ptr w.heap.size, ptr Bx, undef, undef, ptr S, ptr S, .pointer (some ⟨S, 4, none⟩), ptr D, .int .i64 p, .func (.func 45) #[] #[ptr B], .agg #[.int .i64 x.1.1.1, .int .i64 x.1.1.2], ptr x.1.2, undef, undef, undef, undef, undef, undef, undef, undef, undef, undef], defers := [] })
      (fun x a' _ X Y row hs hg hr => by obtain ⟨Bx, e1, e2, e3⟩ := hs; exact ⟨Bx, e1, e2.own hg (fun r e => (hr r e).2), e3⟩)
      ?assign ?body ?done ?stop
    case assign =>
      rintro ll pre x W K ⟨v, hk⟩ hK
      gi_wp2
      exact hK _ _ ((KeepsOthers.alloc _ _).from _) (KBG.alloc (by have := hk.sz; have := HG0.out.2.2.1; omega) (by have := hk.sz; have := HG0.out.2.2.2.1; omega) _) ⟨v, hk.bx.alloc _, hk.ow.alloc _, hk.bel.alloc hk.bel.size _, by have := hk.sz; simp; omega⟩ ⟨W.heap.size, by have := hk.sz; have := HG0.out.2.1; omega, KBoxed.new W _ _, rfl⟩
    case body =>
      rintro ll pre x a' W hll ⟨r, hr⟩ ⟨v, hk⟩ ⟨Bx, hBx, bX, rfl⟩ hlt
      obtain ⟨a0, n0, c0, rfl⟩ : ∃ a0 n0 c0, v = .slice a0 n0 c0 := by
        rcases hk.ow.shape with ⟨h1, _⟩ | ⟨g', cap', h1, _⟩
        · exact ⟨_, _, _, h1⟩
        · exact ⟨_, _, _, h1⟩
      have cN := hk.bx.cell
      have x1 := bX.cell.1
      have x2 := bX.cell.2
      obtain ⟨⟨⟨xt, xr⟩, xv⟩, hxk, hxv⟩ := x
      simp only at x1 x2
      have HX : Hid (∀ ty, ∃ v' W5, (Builtin.append_ #[38, 38] ty #[(.slice a0 n0 c0), .slice (some ⟨W.heap.size, 0, none⟩) 1 1]).run Try.prog (W.alloc (.cells #[.int .i64 xt, .int .i64 xr] 28)) = .ok v' W5 ∧ (∃ a' n' c', v' = .slice a' n' c') ∧ (W5.cell? ⟨w.heap.size, 0, none⟩ = some (.slice a0 n0 c0) ∧ W5.frozen? ⟨w.heap.size, 0, none⟩ = false) ∧ KeepsOthers W W5 ∧ KBG B g W (W5.setCell ⟨w.heap.size, 0, none⟩ v') ∧ KG w W2.heap.size w.heap.size (pre.map (fun x : PX => x.1.1) ++ [(xt, xr)]) (W5.setCell ⟨w.heap.size, 0, none⟩ v') v') := by
        intro ty
        have hA : OwnK (W.alloc (.cells #[.int .i64 xt, .int .i64 xr] 28)) W2.heap.size (.slice a0 n0 c0) (pre.map (fun x : PX => x.1.1)) := hk.ow.alloc _
        have hlen := HL.out.2.1
        obtain ⟨v', W5, hr5, ho5, hg5, hw5⟩ := run_append_keys ty W2.heap.size (.slice a0 n0 c0) (pre.map (fun x : PX => x.1.1)) hA (some ⟨W.heap.size, 0, none⟩) 1 1 [(xt, xr)] rfl (.inr ⟨W.heap.size, 0, rfl, fun j u hu => by
          have hb := heap_alloc_new (w := W) (.cells #[.int .i64 xt, .int .i64 xr] 28) W.heap.size rfl
          rw [World.cell?, hb]
          simpa [cks] using hu⟩) (by simp) (by simp; omega) (by have := hk.sz; simp; omega)
        have hbl : w.heap.size < W.heap.size := hk.bx.lt
        have hne : some w.heap.size ≠ (Value.slice a0 n0 c0).ownBlock := fun e => by
          have := (hk.ow.lt _ e.symm).1
          have := HG0.out.2.1
          omega
        have hb5 : Boxed W5 w.heap.size 38 (.slice a0 n0 c0) := (hk.bx.alloc _).kept hg5 hne
        have hBW : ∀ k, k < W2.heap.size → some k ≠ (Value.slice a0 n0 c0).ownBlock := fun k hk' e => by
          have := (hk.ow.lt _ e.symm).1
          omega
        have hk5 : KBG B g W W5 := (KBG.alloc (by have := hk.sz; have := HG0.out.2.2.1; omega) (by have := hk.sz; have := HG0.out.2.2.2.1; omega) _).trans (KBG.grown hg5 (by have := hk.sz; have := HG0.out.2.2.1; simp; omega) (by have := hk.sz; have := HG0.out.2.2.2.1; simp; omega) (hBW _ HG0.out.2.2.1) (hBW _ HG0.out.2.2.2.1))
        refine ⟨v', W5, hr5, ?_, ⟨hb5.cell, hb5.frozen⟩, (KeepsOthers.alloc _ _).trans (keepsRow hA hg5), hk5.trans ⟨by simp, heap_setCell_other _ _ _ _ (by have := HG0.out.2.2.2.2.1; simp; omega), heap_setCell_other _ _ _ _ (by have := HG0.out.2.2.2.2.2; simp; omega)⟩, hb5.set v', ?_, ?_, ?_⟩
        · rcases ho5.shape with ⟨h1, _⟩ | ⟨g', cap', h1, _⟩
          · exact ⟨_, _, _, h1⟩
          · exact ⟨_, _, _, h1⟩
        · refine ho5.same (fun q hq => heap_setCell_other _ _ _ _ ?_)
          have := (ho5.lt q hq).1
          have := HG0.out.2.1
          simp; omega
        · have h1 : Below w.heap.size w W5 := (hk.bel.alloc hk.bel.size _).trans ((Below.refl _ _).grown hg5 (by have := hk.bel.size; simp; omega) (fun k e => by have := (hk.ow.lt _ e).1; have := HG0.out.2.1; omega))
          exact h1.setCell (p := ⟨w.heap.size, 0, none⟩) (Nat.le_refl _) _
        · have := hk.sz; have := hg5.size; simp at this ⊢; omega
      gi_wp2_with (
        gi_at_builtin
        refine wpLIn_app rfl _ _ 38 rfl (.slice a0 n0 c0) (.slice (some ⟨W.heap.size, 0, none⟩) 1 1) rfl rfl HX.out ?_
        rintro v' W5 ⟨⟨a', n', c', rfl⟩, ⟨c5, f5⟩, HK5⟩
        have HK6 := hidC HK5
        clear HX HK5)
      exact ⟨(HK6.out.1.trans (KeepsOthers.setCell _ _ _)).from _, HK6.out.2.1, _, by simpa using HK6.out.2.2⟩
    case done =>
      rintro D' ys W hD rfl ⟨v, hk⟩ hK
      refine ⟨.inl rfl, D', hD, rfl, ⟨v, ?_⟩, hK⟩
      have e1 : (upto (pd l HL.out.1) l.length).map (fun x : PX => x.1.1) = l.map En.k := by
        refine List.ext_getElem (by simp [upto]) (fun i h1 h2 => ?_)
        simp only [List.getElem_map, upto, List.getElem_range]
        rw [pd_at HL.out.1 (by simpa [upto] using h1)]
      rw [e1] at hk
      exact hk
    case stop =>
      rintro D' c pre W hD _ hIx hK
      exact hIx.elim
  case rest =>
    rintro D1 W6 hD1 ⟨v, hk⟩ hK1
    have cN := hk.bx.cell
    obtain ⟨ao, cc, rfl, hka, _, hcc⟩ : ∃ ao cc, v = .slice ao l.length cc ∧ KeysAt W6 ao (l.map En.k) ∧ (ao = none → cc = 0) ∧ (∀ a, ao = some a → a.spot = none) := by
      rcases hk.ow.shape with ⟨rfl, h0⟩ | ⟨g', cap', rfl, _, _, _, _, hb⟩
      · have : l.length = 0 := by have := congrArg List.length h0; simpa using this
        exact ⟨none, 0, by rw [this], .inl h0, fun _ => rfl, fun a e => by cases e⟩
      · exact ⟨_, cap', by simp, hb, by simp, fun a e => by cases e; rfl⟩
    have HS := hidC (sort_any W6 ao cc l.length (l.map En.k) (by simp) hka hcc (by have := HL.out.2.1; omega))
    have HB6 : Hid (Below w.heap.size w W6 ∧ W6.heap[D1]? = some (.deferred (some [])) ∧ w.heap.size ≤ D1) := ⟨hk.bel, hK1, by have := HG0.out.2.1; omega⟩
    clear hk hka hcc hK1
    go_wp2_with fail
    refine HS.out.mono ?_
    rintro e W7 ⟨⟨_, v7, rfl, ho7⟩ | ⟨hx, _⟩, hb7⟩
    · have HO7 := hidC ho7
      have HB7 := hidC hb7
      clear ho7 hb7 HS
      go_wp2
      have hd7 : W7.heap[D1]? = some (.deferred (some [])) := (HB7.out.block _ (blk_lt HB6.out.2.1)).trans HB6.out.2.1
      refine ⟨by simp, .inl ⟨D1, _, rfl, run_takeDeferred hd7, ?_⟩⟩
      refine ⟨v7, by simp [results, Try.f12, go_sem], v7, rfl, ?_, ?_⟩
      · refine rowOwn (OwnK.mono HO7.out (by have := HB6.out.1.size; omega)) (grownBy_putObj' W7 D1 _) (fun r e => by cases e; exact ⟨_, hd7, rfl⟩)
      · have h1 := HB6.out.1.trans (HB7.out.mono HB6.out.1.size)
        exact h1.trans (belowK_b (w := w) (Nat.le_refl _) W7 D1 _ (.deferred none) HB6.out.2.2 hd7 rfl rfl)
    · rw [HL.out.2.2] at hx; cases hx
theorem keys_st (n0 : Nat) (F : Nat → Prop) (w : World) (S P : Nat) (cap last : Int) (vs : List Vr) (h : ST n0 F w S P cap last vs) (p : Int) :
    Calls Try.prog 12 #[ptr S, .int .i64 p] w fun e w' => ∃ v L, e = .returned v ∧ OwnK w' w.heap.size v L ∧ KsOf P p vs L ∧ Below w.heap.size w w' := by
  obtain ⟨V, D, M, L, es, R, h1, h2⟩ := h
  refine (keysS_any w S V D M L P _ cap last vs es R p h1).mono ?_
  rintro e w' ⟨v, rfl, ho, hb⟩
  refine ⟨v, _, rfl, ho, ⟨sortK_rise (fun k hk => ?_), fun k => ?_⟩, hb⟩
  · obtain ⟨e, he, rfl⟩ := List.mem_map.1 hk
    have he' : e ∈ es := by
      unfold ptI at he
      split at he
      · exact (pt_mem.1 he).1
      · cases he
    obtain ⟨x, hx⟩ := List.exists_mem_of_ne_nil _ (h1.ne e he')
    have h3 : x ∈ vs ∧ x.k = e.k := by simpa [ofK] using hx
    rw [← h3.2]
    exact h1.ik x h3.1
  · rw [sortK_mem]
    constructor
    · intro hk
      obtain ⟨e, he, rfl⟩ := List.mem_map.1 hk
      unfold ptI at he
      split at he
      · rename_i hp
        obtain ⟨he1, he2⟩ := pt_mem.1 he
        obtain ⟨x, hx⟩ := List.exists_mem_of_ne_nil _ (h1.ne e he1)
        have h3 : x ∈ vs ∧ x.k = e.k := by simpa [ofK] using hx
        refine ⟨⟨x, h3.1, h3.2⟩, ?_⟩
        rw [← h1.ph e he1, he2]
        omega
      · cases he
    · rintro ⟨⟨x, hx, rfl⟩, hp⟩
      obtain ⟨e, he, hek⟩ := h1.all x hx
      refine List.mem_map.2 ⟨e, ?_, hek⟩
      have h4 := h1.ph e he
      have h5 := (h1.da.pp e he).1
      rw [hek] at h4
      unfold ptI
      rw [if_pos (by omega)]
      exact pt_mem.2 ⟨he, by omega⟩
end Go.Proofs.Ytfkijdlggdgfhaa
/-
  slices.Backward: THE ITERATOR FROM THE BACK.
-/
namespace Go.Proofs.Ytfkijdlggdgfhaa
open Go.RowKit Go.Sort Go.Shelf

attribute [local go_sem] Oper.semAt_some

/-- a place within m -/
def cl (m i : Nat) : Nat := min i (m - 1)
theorem cl_lt {m i : Nat} (h : 0 < m) : cl m i < m := by unfold cl; omega
theorem cl_of {m i : Nat} (h : i < m) : cl m i = i := by unfold cl; omega
/-- the last k places, from the back -/
def dn (m k : Nat) : List Nat := (List.range k).map (fun j => m - 1 - j)
theorem dn_succ (m k : Nat) : dn m (k + 1) = dn m k ++ [m - 1 - k] := by simp [dn, List.range_succ]
theorem dn_length (m k : Nat) : (dn m k).length = k := by simp [dn]
def nd (L : List Nat) (j : Nat) : Nat := L.getD j 0
/-- what is handed on at a place -/
abbrev encB (m : Nat) (L : List Nat) (i : Nat) : Array Value := #[.int .i64 ((cl m i : Nat) : Int), ptr (nd L (cl m i))]
/-- the iterator's box, and the list -/
structure BK (W : World) (Bs g off c : Nat) (L : List Nat) : Prop where
  bx : W.heap[Bs]? = some (.cells #[.slice (some ⟨g, off, none⟩) L.length c] 98 (0, 0))
  at_ : ∀ j, j < L.length → W.cell? ⟨g, off + j, none⟩ = some (ptr (nd L j))
  gl : g < W.heap.size
theorem BK.kbg {W W' : World} {Bs g off c : Nat} {L : List Nat} (h : BK W Bs g off c L) (hk : KBG Bs g W W') : BK W' Bs g off c L :=
  ⟨hk.2.1.trans h.bx, fun j hj => by
    have h1 := h.at_ j hj
    unfold World.cell? at h1 ⊢
    simp only at h1 ⊢
    rw [hk.2.2]
    exact h1, Nat.lt_of_lt_of_le h.gl hk.1⟩
theorem BK.cell {W : World} {Bs g off c : Nat} {L : List Nat} (h : BK W Bs g off c L) : W.cell? ⟨Bs, 0, none⟩ = some (.slice (some ⟨g, off, none⟩) L.length c) := by rw [World.cell?, h.bx]; rfl

set_option maxRecDepth 100000 in
set_option maxHeartbeats 1000000 in
theorem back1_in (F : Fence) (n : Nat) (hf : F.fn 80) (hro : F.round = none) (hn : 1 ≤ n) (l Bs g off c m : Nat) (L : List Nat) (hm : m ≤ 1000000) (hLm : m = L.length) (J Jx : List Nat → World → Prop)
    (hY : ∀ pre x W, J pre W → pre.length < m → YieldAt F (n - 1) Try.prog l (encB m L x) W fun e W' =>
      (e = .returned (.bool true) ∧ J (pre ++ [x]) W' ∧ KBG Bs g W W') ∨ (e = .returned (.bool false) ∧ Jx (pre ++ [x]) W'))
    (W : World) (hB : BK W Bs g off c L) (h0 : J [] W) :
    CallsIn F n Try.prog 80 #[.func (.yield l) #[] #[], ptr Bs] W fun e W' => (∃ v, e = .returned v) ∧
      ((∃ ys, ys = dn m m ∧ J ys W') ∨ (∃ pre, (∃ k, k ≤ m ∧ pre = dn m k) ∧ Jx pre W')) := by
  have HL : Hid (BK W Bs g off c L) := hB
  have HLm : Hid (m = L.length) := hLm
  have hBs := hB.cell
  rw [← hLm] at hBs
  clear hB hLm
  refine callsIn_of_wp Try.func80 rfl hf ?_ hro
  simp only [Try.ntmps80, List.size_toArray, List.length_cons, List.length_nil, Nat.reduceAdd, Nat.reduceSub, Array.replicate_succ, Array.replicate_zero, List.push_toArray, List.append_toArray, List.nil_append, List.cons_append]
  gi_wp2
  clear hBs
  gi_loopw [3] (fun i wr => ∃ k : Nat, k ≤ m ∧ i = .int .i64 ((m : Int) - 1 - (k : Int)) ∧ J (dn m k) wr ∧ KBG Bs g W wr)
    (fun i _ => (intOf i + 1).toNat)
  case atStart => exact ⟨0, Nat.zero_le _, by simp, h0, KBG.refl _ _ _⟩
  case round =>
    obtain ⟨k, hk, rfl, hJs, hnx⟩ := hrel
    have hBw := HL.out.kbg hnx
    have hBs := hBw.cell
    rw [← HLm.out] at hBs
    by_cases hlt : k < m
    · have c1 := hBw.at_ (m - 1 - k) (by have := HLm.out; omega)
      obtain ⟨fn, tmps, assign, body, hy, hR⟩ := hY _ (m - 1 - k) _ hJs (by rw [dn_length]; exact hlt)
      simp only [encB] at hy
      rw [cl_of (by omega)] at hy
      have hi : ((m : Int) - 1 - (k : Int)) = ((m - 1 - k : Nat) : Int) := by omega
      have hge : (0 : Int) ≤ ((m - 1 - k : Nat) : Int) := by omega
      have HI : Hid (((m : Int) - 1 - (k : Int)) = ((m - 1 - k : Nat) : Int)) := hi
      clear hi hBw
      rw [HI.out]
      obtain ⟨q, hq⟩ : ∃ q, q = m - 1 - k := ⟨_, rfl⟩
      rw [← hq] at c1 hy hR hge ⊢
      have HQ : Hid (q = m - 1 - k) := hq
      have hqm : q < m := by omega
      clear hq
      gi_wp2
      refine hR.mono ?_
      rintro e W3 (⟨rfl, hJ3, hk3⟩ | ⟨rfl, hJx3⟩)
      · gi_wp2
        go_roundw
        case rel => exact ⟨k + 1, by omega, by have := HQ.out; congr 1; omega, by rw [dn_succ, ← HQ.out]; exact hJ3, hnx.trans hk3⟩
        case measure => have := HQ.out; simp [intOf] <;> omega
      · gi_wp2
        refine bodyPost_ret (results_none rfl _ _ _) rfl ?_
        exact ⟨⟨_, rfl⟩, .inr ⟨_, ⟨k + 1, by omega, by rw [dn_succ, ← HQ.out]⟩, hJx3⟩⟩
    · obtain rfl : k = m := by omega
      rw [show ((k : Int) - 1 - (k : Int)) = -1 by omega]
      gi_wp2
      go_end0
      exact ⟨⟨_, rfl⟩, .inl ⟨_, rfl, hJs⟩⟩

theorem backward_any (w : World) (ao : Option Addr) (n cap : Nat) :
    Calls Try.prog 67 #[.slice ao n cap] w fun e w' => e = .returned (.func (.func 80) #[] #[.pointer (some ⟨w.heap.size, 0, none⟩)]) ∧ w' = w.alloc (.cells #[.slice ao n cap] 98) := by
  go_enter Try.func67, Try.ntmps67
  go_wp2
  go_ret
  exact ⟨rfl, rfl⟩

theorem back_stops (F : Fence) (n : Nat) (hf : F.fn 80) (hro : F.round = none) (hn : 1 ≤ n) (Bs g off c m : Nat) (L : List Nat) (hm : m ≤ 1000000) (hLm : m = L.length) (w : World) (hB : BK w Bs g off c L) :
    SeqStopsK F n Try.prog 80 #[ptr Bs] (encB m L) (KBG Bs g) (fun ys => ys = dn m m) (fun pre => ∃ k, k ≤ m ∧ pre = dn m k) m w := fun l J Jx W hW _ _ hY h0 =>
  back1_in F n hf hro hn l Bs g off c m L hm hLm J Jx hY W (hB.kbg (KBG.below hW (blk_lt hB.bx) hB.gl)) h0
end Go.Proofs.Ytfkijdlggdgfhaa
/-
  told (of a chain), Chain.
-/
namespace Go.Proofs.Ytfkijdlggdgfhaa
open Go.RowKit Go.Sort Go.Shelf

attribute [local go_sem] Oper.semAt_some

abbrev TV : TypeId := 61
abbrev TVs : TypeId := 85
theorem elV : El TVs TV (.agg #[.int .i64 0, .int .i64 0, .bool false, .bool false, .int .i64 0]) 5 40 := ⟨Try.underlying85, by kernel_rfl, rfl, by decide, by decide⟩
/-- the cells of versions, as they are told -/
def c1v (v : Vr) : List Value := [.int .i64 v.ba, .int .i64 v.ix, .bool v.fl, .bool v.ci, .int .i64 v.cv]
def ctv (l : List Vr) : List Value := l.flatMap c1v
theorem ctv_snoc (l : List Vr) (v : Vr) : ctv (l ++ [v]) = ctv l ++ c1v v := by simp [ctv]
theorem make_vers (c : Nat) (hc : c ≤ 65536) (u : World) : (Instr.makeSlice TVs (.int .i64 0) (.int .i64 (c : Int))).run Try.prog u = .ok (.slice (some ⟨u.heap.size, 0, none⟩) 0 c) (u.alloc (.cells (madeCells #[.int .i64 0, .int .i64 0, .bool false, .bool false, .int .i64 0] (c * 5)) TV)) := by
  obtain ⟨i0, hi, hz0, hz1, hz2⟩ := info_parts elV.i
  have h := run_make (P := Try.prog) u TVs TV i0 (.agg #[.int .i64 0, .int .i64 0, .bool false, .bool false, .int .i64 0]) Try.underlying85 hi hz0 .i64 .i64 (0 : Int) (c : Int) (by omega) (by omega) (by rw [hz2]; omega) (by omega)
  rw [hz1, Int.toNat_natCast] at h
  exact h
theorem getD_of {α : Type} {l : List α} {i : Nat} {d : α} (h : i < l.length) : l.getD i d = l[i] := by rw [List.getD_eq_getElem?_getD, List.getElem?_eq_getElem h]; rfl
/-- the version at a place -/
def yv (ys : List Vr) (i : Nat) : Vr := ys.getD (cl ys.length i) v0
theorem yv_b (ys : List Vr) (i : Nat) (h : 0 < ys.length) : nd (ys.map Vr.b) (cl ys.length i) = (yv ys i).b := by
  have h1 := cl_lt (i := i) h
  unfold nd yv
  rw [getD_of (by simpa using h1), getD_of h1, List.getElem_map]
theorem yv_mem (ys : List Vr) (i : Nat) (h : 0 < ys.length) : yv ys i ∈ ys := by
  have h1 := cl_lt (i := i) h
  unfold yv
  rw [getD_of h1]
  exact List.getElem_mem _
theorem yv_dn (ys : List Vr) : (dn ys.length ys.length).map (yv ys) = ys.reverse := by
  refine List.ext_getElem (by simp [dn]) (fun i h1 h2 => ?_)
  have hi : i < ys.length := by simpa using h2
  simp only [List.getElem_map, dn, List.getElem_range, List.getElem_reverse]
  unfold yv
  rw [cl_of (by omega), getD_of (by omega)]
/-- the list that grows -/
structure TG (w : World) (Bl Bs : Nat) (xs : List Vr) (W : World) (v : Value) : Prop where
  bx : Boxed W Bl TVs v
  ow : W.ownsRow w.heap.size TV 5 v xs.length (ctv xs)
  bel : Below w.heap.size w W
  nb : ∀ k, v.ownBlock = some k → k ≠ Bs ∧ k ≠ Bl
  lt : Bs < W.heap.size
theorem TG.own {w : World} {Bl Bs B : Nat} {β : Type} (f : β → List Vr) (hB : w.heap.size ≤ B) : OwnFrom B (fun (s : β) W => ∃ v, TG w Bl Bs (f s) W v) := fun _ X Y row ⟨v, h⟩ hg hr =>
  ⟨v, boxed_own Bl TVs (fun _ : Unit => v) () X Y row h.bx hg (fun r e => (hr r e).2), rowOwn h.ow hg (fun r e => (hr r e).2), h.bel.grown hg h.bel.size (fun k e => Nat.le_trans hB (hr k e).1), h.nb, Nat.lt_of_lt_of_le h.lt hg.size⟩
theorem row_slice {W : World} {b : Nat} {T : TypeId} {sz n : Nat} {v : Value} {xs : List Value} (h : W.ownsRow b T sz v n xs) : ∃ a0 c0, v = .slice a0 n c0 := by
  obtain ⟨_, ⟨rfl, rfl⟩ | ⟨g, cap, cur, rfl, _⟩⟩ := h
  · exact ⟨_, _, rfl⟩
  · exact ⟨_, _, rfl⟩
theorem keeps_below2 {W W' : World} (h : Below W.heap.size W W') : KeepsOthers W W' := ⟨h.size, fun k _ hk _ => (h.block k (blk_lt hk)).trans hk⟩
theorem stepIn_app {F : Fence} {n : Nat} {w : World} {ops : Array Oper} {o : Oper} {a : Act} {K' : Act → World → Prop} {Q : Exit → Act → World → Prop} {E : Prop} (hgd : o.guard = none) (s x : Operand) (TS : TypeId)
    (ho : o.op = .call { callee := .builtin .append, args := #[s, x], argTypes := #[TS, TS] }) (v u : Value) (hs : a.eval s = v) (hx : a.eval x = u) {post : Value → World → Prop}
    (hr : ∀ ty, ∃ v' w', (Builtin.append_ #[TS, TS] ty #[v, u]).run Try.prog w = .ok v' w' ∧ post v' w') (h : ∀ v' w', post v' w' → K' (a.put o.dst v') w') :
    if Region.wanted o (yielded ops a.tmps) = true then Oper.wpIn F n Try.prog o a w K' Q else E := by
  have hw : Region.wanted o (yielded ops a.tmps) = true := by simp [Region.wanted, hgd]
  rw [if_pos hw]
  obtain ⟨v', w', hr, h2⟩ := hr o.type
  unfold Oper.wpIn
  refine ⟨?_, ?_⟩
  · simp [Oper.about, ho, resolve, Target.leads, Sem.run_pure]
  · rw [Oper.semAt_plain F _ _ (by rw [ho]; intro c hc'; cases hc')]
    simp [execOp, ho, resolve, invoke, builtin, hs, hx, hr, Result.andThen]
    exact h v' w' h2
/-- one more -/
theorem TG.app {w W W2 : World} {Bl Bs g n : Nat} {xs : List Vr} {a0 : Option Addr} {c0 : Nat} (h : TG w Bl Bs xs W (.slice a0 n c0)) (hb : Below W.heap.size W W2) (x : Vr) (hl : xs.length + 1 ≤ 1000000) (hg : g < w.heap.size) (hBl : w.heap.size ≤ Bl ∧ Bl < Bs) :
    ∀ ty, ∃ v' W5, (Builtin.append_ #[TVs, TVs] ty #[.slice a0 n c0, .slice (some ⟨W2.heap.size, 0, none⟩) 1 1]).run Try.prog (W2.alloc (.cells #[.int .i64 x.ba, .int .i64 x.ix, .bool x.fl, .bool x.ci, .int .i64 x.cv] TV)) = .ok v' W5 ∧ (∃ a' n' c', v' = .slice a' n' c') ∧ (W5.cell? ⟨Bl, 0, none⟩ = some (.slice a0 n c0) ∧ W5.frozen? ⟨Bl, 0, none⟩ = false) ∧ KeepsOthers W W5 ∧ KBG Bs g W (W5.setCell ⟨Bl, 0, none⟩ v') ∧ TG w Bl Bs (xs ++ [x]) (W5.setCell ⟨Bl, 0, none⟩ v') v' := by
  intro ty
  obtain ⟨o, ho⟩ : ∃ o, o = Obj.cells #[.int .i64 x.ba, .int .i64 x.ix, .bool x.fl, .bool x.ci, .int .i64 x.cv] TV := ⟨_, rfl⟩
  have hbA : Below W.heap.size W (W2.alloc o) := hb.alloc hb.size _
  have hA : (W2.alloc o).ownsRow w.heap.size TV 5 (.slice a0 n c0) xs.length (ctv xs) := ownsRow_same h.ow (fun k hk => hbA.block k (World.ownsRow.lt h.ow k hk).2)
  have hz := hbA.size
  obtain ⟨v', W5, hr5, ho5, hg5, hw5⟩ := run_append_E elV (w := W2.alloc o) ty w.heap.size _ _ _ hA ⟨W2.heap.size, 0, none⟩ 1 1 (c1v x) rfl (by rw [ho]; exact new_cells (news := c1v x)) (by simp [c1v, Value.oneCell']) (by omega) (by have := h.bel.size; omega)
  rw [← ho]
  have hbl : Bl < W.heap.size := h.bx.lt
  have hbA2 : Boxed (W2.alloc o) Bl TVs (.slice a0 n c0) := (hbA.block _ hbl).trans h.bx
  have hne : some Bl ≠ (Value.slice a0 n c0).ownBlock := fun e => (h.nb _ e.symm).2 rfl
  have hnes : some Bs ≠ (Value.slice a0 n c0).ownBlock := fun e => (h.nb _ e.symm).1 rfl
  have hneg : some g ≠ (Value.slice a0 n c0).ownBlock := fun e => by have := (World.ownsRow.lt h.ow _ e.symm).1; omega
  have hb5 : Boxed W5 Bl TVs (.slice a0 n c0) := hbA2.kept hg5 hne
  have hk5 : KBG Bs g W W5 := (KBG.below hbA h.lt (by have := h.bel.size; omega)).trans (KBG.grown hg5 (by have := h.lt; omega) (by have := h.bel.size; omega) hnes hneg)
  refine ⟨v', W5, hr5, ?_, ⟨hb5.cell, hb5.frozen⟩, ?_, hk5.trans ⟨by simp, heap_setCell_other _ _ _ _ (by simp; omega), heap_setCell_other _ _ _ _ (by simp; omega)⟩, hb5.set v', ?_, ?_, ?_, ?_⟩
  · obtain ⟨a', c', e⟩ := row_slice ho5
    exact ⟨_, _, _, e⟩
  · exact (keeps_below2 hbA).trans (keepsRow hA hg5)
  · rw [ctv_snoc, List.length_append, List.length_singleton]
    refine ownsRow_same ho5 (fun q hq => heap_setCell_other _ _ _ _ ?_)
    simp
    intro e
    subst e
    rcases hw5 with h1 | h1
    · rw [h1] at hq; exact hne hq.symm
    · rw [h1] at hq; cases hq; omega
  · have h1 : Below w.heap.size w W5 := (h.bel.trans (hbA.mono h.bel.size)).trans ((Below.refl _ _).grown hg5 (by have := h.bel.size; omega) (fun k e => (World.ownsRow.lt h.ow _ e).1))
    exact h1.setCell (p := ⟨Bl, 0, none⟩) hBl.1 _
  · intro k hk
    rcases hw5 with h1 | h1
    · rw [h1] at hk; exact h.nb k hk
    · rw [h1] at hk
      cases hk
      have := h.lt
      omega
  · have := h.lt; have := hg5.size; simp; omega
set_option maxRecDepth 100000 in
set_option maxHeartbeats 2000000 in
theorem toldC_any (w : World) (c g off cc : Nat) (ys : List Vr) (h : Line w c g off cc ys) :
    Calls Try.prog 51 #[ptr c] w fun e w' => ∃ v, e = .returned v ∧ w'.ownsRow w.heap.size TV 5 v ys.length (ctv ys.reverse) ∧ Below w.heap.size w w' := by
  have HL : Hid (∀ W, Below w.heap.size w W → Line W c g off cc ys) := fun W hW => h.kept hW
  have c0 := h.chc
  have c0a : ∀ o, (w.alloc o).cell? ⟨c, 0, none⟩ = some (.slice (some ⟨g, off, none⟩) ys.length cc) := fun o => Lib.cell?_alloc_some _ c0
  have c0b : ∀ o o', ((w.alloc o).alloc o').cell? ⟨c, 0, none⟩ = some (.slice (some ⟨g, off, none⟩) ys.length cc) := fun o o' => Lib.cell?_alloc_some _ (c0a o)
  have HZ : Hid (ys.length ≤ 65536 ∧ g < w.heap.size) := ⟨h.sz, h.lt (.inr (.inl rfl))⟩
  obtain ⟨n, hn⟩ : ∃ n, n = ys.length := ⟨_, rfl⟩
  have HN : Hid (n = ys.length) := hn
  rw [← hn] at c0 c0a c0b ⊢
  have hmk := fun u => make_vers n (by have := HZ.out.1; omega) u
  obtain ⟨W3, hW3⟩ : ∃ W3, W3 = (w.alloc (.cells (madeCells #[.int .i64 0, .int .i64 0, .bool false, .bool false, .int .i64 0] (n * 5)) TV)).alloc (.cells #[.slice (some ⟨w.heap.size, 0, none⟩) 0 n] TVs) := ⟨_, rfl⟩
  have HW3 : Hid (Below w.heap.size w W3 ∧ W3.heap.size = w.heap.size + 2 ∧ Boxed W3 (w.heap.size + 1) TVs (.slice (some ⟨w.heap.size, 0, none⟩) 0 n) ∧ W3.ownsRow w.heap.size TV 5 (.slice (some ⟨w.heap.size, 0, none⟩) 0 n) 0 []) := by
    rw [hW3]
    refine ⟨((Below.refl _ _).alloc (Nat.le_refl _) _).alloc (by simp) _, by simp, ?_, ?_⟩
    · have := Boxed.new (w.alloc (.cells (madeCells #[.int .i64 0, .int .i64 0, .bool false, .bool false, .int .i64 0] (n * 5)) TV)) TVs (.slice (some ⟨w.heap.size, 0, none⟩) 0 n)
      rwa [World.size_alloc] at this
    · have := World.ownsRow_made (e := TV) (size := 5) w (madeCells #[.int .i64 0, .int .i64 0, .bool false, .bool false, .int .i64 0] (n * 5)) n (base := w.heap.size) (Nat.le_refl _) (by have := HZ.out.1; have := HN.out; unfold maxLen; omega) (by simp [size_madeCells])
      exact World.ownsRow.alloc this _
  clear h hn
  refine (callsIn_wide (n := 10)).1 ?_
  refine callsIn_of_wp_marks Try.func51 rfl trivial ?_ rfl
  refine wpIn_wide.2 ?_
  simp only [Try.ntmps51, List.size_toArray, List.length_cons, List.length_nil, Nat.reduceAdd, Nat.reduceSub, Array.replicate_succ, Array.replicate_zero, List.push_toArray, List.append_toArray, List.nil_append, List.cons_append]
  go_wp2_with fail
  refine (backward_any _ (some ⟨g, off, none⟩) n cc).mono ?_
  rintro e W4 ⟨rfl, hW4⟩
  simp only [World.size_alloc] at hW4 ⊢
  rw [← hW3] at hW4
  have HG0 : Hid (TG w (w.heap.size + 1) (w.heap.size + 2) [] W4 (.slice (some ⟨w.heap.size, 0, none⟩) 0 n) ∧ BK W4 (w.heap.size + 2) g off cc (ys.map Vr.b) ∧ W4.heap.size = w.heap.size + 3) := by
    have h1 := HW3.out
    have hb4 : Below W3.heap.size W3 W4 := by rw [hW4]; exact (Below.refl _ _).alloc (Nat.le_refl _) _
    have hb : Below w.heap.size w W4 := h1.1.trans (hb4.mono h1.1.size)
    have hz : W4.heap.size = w.heap.size + 3 := by rw [hW4]; simp [h1.2.1]
    refine ⟨⟨(hb4.block _ (by omega)).trans h1.2.2.1, ownsRow_same h1.2.2.2 (fun k hk => by simp [Value.ownBlock] at hk; subst hk; exact hb4.block _ (by omega)), hb, fun k hk => by simp [Value.ownBlock] at hk; omega, by omega⟩, ⟨?_, fun j hj => ?_, by have := HZ.out.2; omega⟩, hz⟩
    · rw [List.length_map, ← HN.out, hW4, ← h1.2.1]
      exact heap_alloc_new _ _ rfl
    · rw [List.length_map] at hj
      have h2 := (HL.out W4 hb).rwc hj
      rw [h2]
      unfold nd
      rw [getD_of (by simpa using hj), List.getElem_map, getElem!_pos _ j hj]
  clear hW4 hW3 HW3 hmk c0 c0a c0b
  go_wp2_with fail
  refine (wpIn_wide (n := 10)).1 ?_
  refine loop_cut 0 (fun W => ∃ v, TG w (w.heap.size + 1) (w.heap.size + 2) ys.reverse W v) (fun _ _ h => h) ?loop ?rest
  case loop =>
    refine wpIn_rangeFunc_ownH rfl (by omega) (gf := 80) (lb := #[ptr (w.heap.size + 2)]) rfl trivial (enters_of Try.func80 (by kernel_rfl) rfl)
      (back_stops Fence.wide 9 trivial rfl (by omega) (w.heap.size + 2) g off cc n (ys.map Vr.b) (by have := HZ.out.1; have := HN.out; omega) (by rw [List.length_map]; exact HN.out) W4 HG0.out.2.1) KBG.trans (KBG.put (by have := HG0.out.2.2; omega) (by have := HZ.out.2; have := HG0.out.2.2; omega)) (Below.refl _ _) (fun _ => rfl)
      (fun pre W => ∃ v, TG w (w.heap.size + 1) (w.heap.size + 2) (pre.map (yv ys)) W v)
      (fun _ _ _ => False)
      (TG.own _ (by have := HG0.out.2.2; omega))
      (fun _ _ _ _ _ hs _ _ => hs)
      ⟨_, HG0.out.1⟩
      (fun x a' _ => a' = { tmps := #[ptr c, undef, .slice none 0 0, ptr (w.heap.size + 1), undef, ptr (nd (ys.map Vr.b) (cl n x)), ptr c, ptr c, ptr c, .slice (some ⟨g, off, none⟩) n cc, .int .i64 (n : Int), .slice (some ⟨w.heap.size, 0, none⟩) 0 n, ptr c, ptr c, ptr c, .slice (some ⟨g, off, none⟩) n cc, .func (.func 80) #[] #[ptr (w.heap.size + 2)], .int .i64 ((cl n x : Nat) : Int), ptr (nd (ys.map Vr.b) (cl n x)), undef, undef, undef, undef, undef, undef], defers := [] })
      (fun _ _ _ _ _ _ hs _ _ => hs)
      ?assign ?body ?done ?stop
    case assign =>
      rintro ll pre x W K ⟨v, hk⟩ hK
      gi_wp2
      exact hK _ _ ((KeepsOthers.refl _).from _) (KBG.refl _ _ _) ⟨v, hk⟩ rfl
    case body =>
      rintro ll pre x a' W hll ⟨r, hr⟩ ⟨v, hk⟩ rfl hlt
      have hpos : 0 < ys.length := by have := HN.out; omega
      have hyb := yv_b ys x hpos
      rw [← HN.out] at hyb
      rw [hyb]
      obtain ⟨q, a0, c0, rfl⟩ : ∃ q a0 c0, v = .slice a0 q c0 := by
        obtain ⟨a0, c0, e⟩ := row_slice hk.ow
        exact ⟨_, a0, c0, e⟩
      have cN := hk.bx.cell
      have HT : Hid (Calls Try.prog 42 #[ptr (yv ys x).b] W.drew fun e w' => e = .returned (toldV (yv ys x)) ∧ Below W.heap.size W w') :=
        (told_any W.drew (yv ys x).b (yv ys x) ((HL.out W hk.bel).vb _ (yv_mem ys x hpos))).mono fun e w' ⟨h1, h2⟩ => ⟨h1, (drew_below W 1).trans h2⟩
      have HC : Hid (∀ W2, Below W.heap.size W W2 → W2.cell? ⟨w.heap.size + 1, 0, none⟩ = some (.slice a0 q c0)) := fun W2 hb => (hb.cell (p := ⟨w.heap.size + 1, 0, none⟩) hk.bx.lt).trans cN
      have HA : Hid (∀ W2, Below W.heap.size W W2 → ∀ ty, ∃ v' W5, (Builtin.append_ #[TVs, TVs] ty #[.slice a0 q c0, .slice (some ⟨W2.heap.size, 0, none⟩) 1 1]).run Try.prog (W2.alloc (.cells #[.int .i64 (yv ys x).ba, .int .i64 (yv ys x).ix, .bool (yv ys x).fl, .bool (yv ys x).ci, .int .i64 (yv ys x).cv] TV)) = .ok v' W5 ∧ (∃ a' n' c', v' = .slice a' n' c') ∧ (W5.cell? ⟨w.heap.size + 1, 0, none⟩ = some (.slice a0 q c0) ∧ W5.frozen? ⟨w.heap.size + 1, 0, none⟩ = false) ∧ KeepsOthers W W5 ∧ KBG (w.heap.size + 2) g W (W5.setCell ⟨w.heap.size + 1, 0, none⟩ v') ∧ TG w (w.heap.size + 1) (w.heap.size + 2) (pre.map (yv ys) ++ [yv ys x]) (W5.setCell ⟨w.heap.size + 1, 0, none⟩ v') v') := fun W2 hb => hk.app hb (yv ys x) (by simp; have := HZ.out.1; have := HN.out; omega) HZ.out.2 (by omega)
      clear hk hyb
      obtain ⟨y, hy⟩ : ∃ y, yv ys x = y := ⟨_, rfl⟩
      rw [hy] at HT HA ⊢
      have HY : Hid (yv ys x = y) := hy
      clear hy
      obtain ⟨yb, yn, yk, yba, yix, yfl, yci, ycv⟩ := y
      simp only [toldV] at HT HA ⊢
      gi_wp2_with fail
      refine wpIn_region_any (by kernel_rfl) ?_
      change wpAnyIn _ _ _ _ _ _ _ _ _ (World.drew _)
      refine wpAnyIn_ready (rs := [0, 1]) (by kernel_rfl) (by simp) ?_
      refine AllReadyIn.cons rfl (fun K hK => ?_) (AllReadyIn.cons rfl (fun K hK => ?_) (AllReadyIn.nil))
      · go_simp
        refine hK _ _ ?_
        clear hK K
        refine wpAnyIn_ready (rs := [1]) (by kernel_rfl) (by simp) ?_
        refine AllReadyIn.cons rfl (fun K hK => ?_) (AllReadyIn.nil)
        go_simp
        refine hK _ _ ?_
        clear hK K
        refine wpAnyIn_ready (rs := [2]) (by kernel_rfl) (by simp) ?_
        refine AllReadyIn.cons rfl (fun K hK => ?_) (AllReadyIn.nil)
        go_simp
        refine ⟨trivial, (CallsIn.inRound ll (callsIn_wide.2 HT.out)).mono ?_⟩
        rintro e W2 ⟨rfl, hb2⟩
        have HB2 : Hid (Below W.heap.size W W2) := hb2
        have c2 := HC.out W2 hb2
        have c2a : ∀ o, (W2.alloc o).cell? ⟨w.heap.size + 1, 0, none⟩ = some (.slice a0 q c0) := fun o => Lib.cell?_alloc_some _ c2
        have HA2 := hidC (HA.out W2 hb2)
        clear hb2 HT HA HC
        refine hK _ _ ?_
        clear hK K
        refine wpAnyIn_ready (rs := [3]) (by kernel_rfl) (by simp) ?_
        refine AllReadyIn.cons rfl (fun K hK => ?_) (AllReadyIn.nil)
        go_simp
        refine hK _ _ ?_
        clear hK K
        refine wpAnyIn_ready (rs := [4]) (by kernel_rfl) (by simp) ?_
        refine AllReadyIn.cons rfl (fun K hK => ?_) (AllReadyIn.nil)
        refine stepIn_app rfl _ _ TVs rfl (.slice a0 q c0) (.slice (some ⟨W2.heap.size, 0, none⟩) 1 1) rfl rfl HA2.out ?_
        rintro v' W5 ⟨⟨a', n', c', rfl⟩, ⟨c5, f5⟩, hk5⟩
        have HK6 := hidC hk5
        clear hk5 HA2
        refine hK _ _ ?_
        clear hK K
        refine wpAnyIn_ready (rs := [5]) (by kernel_rfl) (by simp) ?_
        refine AllReadyIn.cons rfl (fun K hK => ?_) (AllReadyIn.nil)
        go_simp
        refine hK _ _ ?_
        clear hK K
        refine wpAnyIn_done (by kernel_rfl) ?_ _
        gi_wp2
        exact ⟨(HK6.out.1.trans (KeepsOthers.setCell _ _ _)).from _, HK6.out.2.1, _, by have h9 := HK6.out.2.2; rw [← HY.out] at h9; simpa using h9⟩
      · go_simp
        refine hK _ _ ?_
        clear hK K
        refine wpAnyIn_ready (rs := [0, 2]) (by kernel_rfl) (by simp) ?_
        refine AllReadyIn.cons rfl (fun K hK => ?_) (AllReadyIn.cons rfl (fun K hK => ?_) (AllReadyIn.nil))
        · go_simp
          refine hK _ _ ?_
          clear hK K
          refine wpAnyIn_ready (rs := [2]) (by kernel_rfl) (by simp) ?_
          refine AllReadyIn.cons rfl (fun K hK => ?_) (AllReadyIn.nil)
          go_simp
          refine ⟨trivial, (CallsIn.inRound ll (callsIn_wide.2 HT.out)).mono ?_⟩
          rintro e W2 ⟨rfl, hb2⟩
          have HB2 : Hid (Below W.heap.size W W2) := hb2
          have c2 := HC.out W2 hb2
          have c2a : ∀ o, (W2.alloc o).cell? ⟨w.heap.size + 1, 0, none⟩ = some (.slice a0 q c0) := fun o => Lib.cell?_alloc_some _ c2
          have HA2 := hidC (HA.out W2 hb2)
          clear hb2 HT HA HC
          refine hK _ _ ?_
          clear hK K
          refine wpAnyIn_ready (rs := [3]) (by kernel_rfl) (by simp) ?_
          refine AllReadyIn.cons rfl (fun K hK => ?_) (AllReadyIn.nil)
          go_simp
          refine hK _ _ ?_
          clear hK K
          refine wpAnyIn_ready (rs := [4]) (by kernel_rfl) (by simp) ?_
          refine AllReadyIn.cons rfl (fun K hK => ?_) (AllReadyIn.nil)
          refine stepIn_app rfl _ _ TVs rfl (.slice a0 q c0) (.slice (some ⟨W2.heap.size, 0, none⟩) 1 1) rfl rfl HA2.out ?_
          rintro v' W5 ⟨⟨a', n', c', rfl⟩, ⟨c5, f5⟩, hk5⟩
          have HK6 := hidC hk5
          clear hk5 HA2
          refine hK _ _ ?_
          clear hK K
          refine wpAnyIn_ready (rs := [5]) (by kernel_rfl) (by simp) ?_
          refine AllReadyIn.cons rfl (fun K hK => ?_) (AllReadyIn.nil)
          go_simp
          refine hK _ _ ?_
          clear hK K
          refine wpAnyIn_done (by kernel_rfl) ?_ _
          gi_wp2
          exact ⟨(HK6.out.1.trans (KeepsOthers.setCell _ _ _)).from _, HK6.out.2.1, _, by have h9 := HK6.out.2.2; rw [← HY.out] at h9; simpa using h9⟩
        · go_simp
          refine ⟨trivial, (CallsIn.inRound ll (callsIn_wide.2 HT.out)).mono ?_⟩
          rintro e W2 ⟨rfl, hb2⟩
          have HB2 : Hid (Below W.heap.size W W2) := hb2
          have c2 := HC.out W2 hb2
          have c2a : ∀ o, (W2.alloc o).cell? ⟨w.heap.size + 1, 0, none⟩ = some (.slice a0 q c0) := fun o => Lib.cell?_alloc_some _ c2
          have HA2 := hidC (HA.out W2 hb2)
          clear hb2 HT HA HC
          refine hK _ _ ?_
          clear hK K
          refine wpAnyIn_ready (rs := [0, 3]) (by kernel_rfl) (by simp) ?_
          refine AllReadyIn.cons rfl (fun K hK => ?_) (AllReadyIn.cons rfl (fun K hK => ?_) (AllReadyIn.nil))
          · go_simp
            refine hK _ _ ?_
            clear hK K
            refine wpAnyIn_ready (rs := [3]) (by kernel_rfl) (by simp) ?_
            refine AllReadyIn.cons rfl (fun K hK => ?_) (AllReadyIn.nil)
            go_simp
            refine hK _ _ ?_
            clear hK K
            refine wpAnyIn_ready (rs := [4]) (by kernel_rfl) (by simp) ?_
            refine AllReadyIn.cons rfl (fun K hK => ?_) (AllReadyIn.nil)
            refine stepIn_app rfl _ _ TVs rfl (.slice a0 q c0) (.slice (some ⟨W2.heap.size, 0, none⟩) 1 1) rfl rfl HA2.out ?_
            rintro v' W5 ⟨⟨a', n', c', rfl⟩, ⟨c5, f5⟩, hk5⟩
            have HK6 := hidC hk5
            clear hk5 HA2
            refine hK _ _ ?_
            clear hK K
            refine wpAnyIn_ready (rs := [5]) (by kernel_rfl) (by simp) ?_
            refine AllReadyIn.cons rfl (fun K hK => ?_) (AllReadyIn.nil)
            go_simp
            refine hK _ _ ?_
            clear hK K
            refine wpAnyIn_done (by kernel_rfl) ?_ _
            gi_wp2
            exact ⟨(HK6.out.1.trans (KeepsOthers.setCell _ _ _)).from _, HK6.out.2.1, _, by have h9 := HK6.out.2.2; rw [← HY.out] at h9; simpa using h9⟩
          · go_simp
            refine hK _ _ ?_
            clear hK K
            refine wpAnyIn_ready (rs := [0]) (by kernel_rfl) (by simp) ?_
            refine AllReadyIn.cons rfl (fun K hK => ?_) (AllReadyIn.nil)
            go_simp
            refine hK _ _ ?_
            clear hK K
            refine wpAnyIn_ready (rs := [4]) (by kernel_rfl) (by simp) ?_
            refine AllReadyIn.cons rfl (fun K hK => ?_) (AllReadyIn.nil)
            refine stepIn_app rfl _ _ TVs rfl (.slice a0 q c0) (.slice (some ⟨W2.heap.size, 0, none⟩) 1 1) rfl rfl HA2.out ?_
            rintro v' W5 ⟨⟨a', n', c', rfl⟩, ⟨c5, f5⟩, hk5⟩
            have HK6 := hidC hk5
            clear hk5 HA2
            refine hK _ _ ?_
            clear hK K
            refine wpAnyIn_ready (rs := [5]) (by kernel_rfl) (by simp) ?_
            refine AllReadyIn.cons rfl (fun K hK => ?_) (AllReadyIn.nil)
            go_simp
            refine hK _ _ ?_
            clear hK K
            refine wpAnyIn_done (by kernel_rfl) ?_ _
            gi_wp2
            exact ⟨(HK6.out.1.trans (KeepsOthers.setCell _ _ _)).from _, HK6.out.2.1, _, by have h9 := HK6.out.2.2; rw [← HY.out] at h9; simpa using h9⟩
    case done =>
      rintro D' xs W hD rfl ⟨v, hk⟩ hK
      rw [HN.out, yv_dn] at hk
      exact ⟨.inl rfl, D', hD, rfl, ⟨v, hk⟩, hK⟩
    case stop =>
      rintro D' c pre W hD _ hIx hK
      exact hIx.elim
  case rest =>
    rintro D1 W6 hD1 ⟨v, hk⟩ hK1
    obtain ⟨q, a0, c0, rfl⟩ : ∃ q a0 c0, v = .slice a0 q c0 := by
      obtain ⟨a0, c0, e⟩ := row_slice hk.ow
      exact ⟨_, a0, c0, e⟩
    have cN := hk.bx.cell
    have HK := hidC hk
    have HB6 : Hid (W6.heap[D1]? = some (.deferred (some [])) ∧ w.heap.size ≤ D1) := ⟨hK1, by have := HG0.out.2.2; omega⟩
    clear hk hK1
    go_wp2
    have hd7 := HB6.out.1
    refine ⟨by simp, .inl ⟨D1, _, rfl, run_takeDeferred hd7, ?_⟩⟩
    refine ⟨.slice a0 q c0, by simp [results, Try.f51, go_sem], _, rfl, ?_, ?_⟩
    · have h1 := rowOwn HK.out.ow (grownBy_putObj' W6 D1 (.deferred none)) (fun r e => by cases e; exact ⟨_, hd7, rfl⟩)
      rwa [List.length_reverse, ← HN.out] at h1
    · exact HK.out.bel.trans (belowK_b (w := w) (Nat.le_refl _) W6 D1 _ (.deferred none) HB6.out.2 hd7 rfl rfl)
end Go.Proofs.Ytfkijdlggdgfhaa
/-
  Chain.
-/
namespace Go.Proofs.Ytfkijdlggdgfhaa
open Go.RowKit Go.Sort

set_option maxRecDepth 100000 in
set_option maxHeartbeats 1000000 in
theorem chainS_any (w : World) (S V D M L P : Nat) (hf : Value) (cap last : Int) (vs : List Vr) (es : List En) (R : K → Nat × Nat × Nat) (k1 k2 : Int) (h : SA w S V D M L P hf cap last vs es R) (hk : KIn (k1, k2)) :
    Calls Try.prog 30 #[ptr S, .agg #[.int .i64 k1, .int .i64 k2]] w fun e w' => ∃ v, e = .returned v ∧ w'.ownsRow w.heap.size TV 5 v (ofK (k1, k2) vs).length (ctv (ofK (k1, k2) vs).reverse) ∧ Below w.heap.size w w' := by
  obtain ⟨W, hW⟩ : ∃ W, W = w.alloc (.cells #[.int .i64 k1, .int .i64 k2] 28) := ⟨_, rfl⟩
  have HB : Hid (Below w.heap.size w W) := by
    show Below _ _ _
    rw [hW]
    exact (Below.refl _ _).alloc (Nat.le_refl _) _
  have hx : W.heap[w.heap.size]? = some (.cells #[.int .i64 k1, .int .i64 k2] 28 (0, 0)) := by rw [hW]; exact heap_alloc_new _ _ rfl
  have HS : Hid (SA W S V D M L P hf cap last vs es R) := h.kept HB.out
  have HKn : Hid (∀ U, Below W.heap.size W U → U.cell? ⟨S, 4, none⟩ = some (ptr D) ∧ U.cell? ⟨w.heap.size, 0, none⟩ = some (.int .i64 k1) ∧ U.cell? ⟨w.heap.size, 1, none⟩ = some (.int .i64 k2)) := fun U hU => by
    have q := (hU.block _ (blk_lt hx)).trans hx
    refine ⟨(HS.out.kept hU).cells.2.2.2.2, ?_, ?_⟩ <;> simp [World.cell?, q]
  have HG : Hid (Calls Try.prog 28 #[ptr D, .agg #[.int .i64 k1, .int .i64 k2]] W.drew fun e w' => e = .returned (.tuple #[vv (fd es (k1, k2)), .bool (fd es (k1, k2)).isSome]) ∧ Below W.heap.size W w') := by
    have hd : Below W.heap.size W W.drew := ⟨rfl, rfl, rfl, Nat.le_refl _, fun _ _ => rfl⟩
    exact (get_any W.drew D M L P hf es (k1, k2) (HS.out.da.kept hd) hk).mono fun e w' ⟨h1, h2⟩ => ⟨h1, hd.trans h2⟩
  obtain ⟨c4, b0, b1⟩ := HKn.out W (Below.refl _ _)
  clear h hx
  go_enter Try.func30, Try.ntmps30
  go_wp2_with fail
  rw [← hW]
  clear hW
  go_region_held3 (fun w' => w'.cell? ⟨S, 4, none⟩ = some (ptr D) ∧ w'.cell? ⟨w.heap.size, 0, none⟩ = some (.int .i64 k1) ∧ w'.cell? ⟨w.heap.size, 1, none⟩ = some (.int .i64 k2)) (first | exact HKn.out _ HB3.out | go_keep) (first | (go_at_call 28; refine HG.out.mono ?_; rintro e w3 ⟨rfl, hb3⟩; have HB3 : Hid (Below W.heap.size W w3) := hb3; clear hb3))
  clear c4 b0 b1 HG HKn
  have HBw : Hid (Below w.heap.size w w3) := HB.out.trans (HB3.out.mono HB.out.size)
  cases hfd : fd es (k1, k2) with
  | none =>
    have hof := HS.out.none_of hfd
    have HE := hidC hof
    simp only [vv, Option.isSome]
    clear hfd hof
    go_wp2
    go_ret
    exact ⟨_, rfl, by rw [HE.out]; exact World.ownsRow_nil _ _ _ _, HBw.out⟩
  | some e0 =>
    obtain ⟨he0, hk0⟩ := fd_some hfd
    have hl := (HS.out.kept HB3.out).line he0
    rw [hk0] at hl
    have HNw := toldC_any w3 e0.v (R (k1, k2)).1 (R (k1, k2)).2.1 (R (k1, k2)).2.2 (ofK (k1, k2) vs) hl
    simp only [vv, Option.isSome]
    clear hfd he0 hk0 hl
    go_wp2_with fail
    refine HNw.mono ?_
    clear HNw
    rintro e w4 ⟨v4, rfl, ho4, hb4⟩
    have HB4 : Hid (Below w.heap.size w w4) := HBw.out.trans (hb4.mono HBw.out.size)
    have HO4 : Hid (w4.ownsRow w.heap.size TV 5 v4 (ofK (k1, k2) vs).length (ctv (ofK (k1, k2) vs).reverse)) := ownsRow_mono ho4 HBw.out.size
    clear HB3 HS hb4 ho4
    go_wp2
    go_ret
    exact ⟨_, rfl, HO4.out, HB4.out⟩
theorem chain_st (n0 : Nat) (F : Nat → Prop) (w : World) (S P : Nat) (cap last : Int) (vs : List Vr) (h : ST n0 F w S P cap last vs) (k1 k2 : Int) (hk : KIn (k1, k2)) :
    Calls Try.prog 30 #[ptr S, .agg #[.int .i64 k1, .int .i64 k2]] w fun e w' => ∃ v, e = .returned v ∧ w'.ownsRow w.heap.size TV 5 v (ofK (k1, k2) vs).length (ctv (ofK (k1, k2) vs).reverse) ∧ Below w.heap.size w w' := by
  obtain ⟨V, D, M, L, es, R, h1, h2⟩ := h
  exact chainS_any w S V D M L P _ cap last vs es R k1 k2 h1 hk
end Go.Proofs.Ytfkijdlggdgfhaa
