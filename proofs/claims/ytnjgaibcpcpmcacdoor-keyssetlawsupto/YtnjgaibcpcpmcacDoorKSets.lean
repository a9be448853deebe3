/-
  THE CONTRACTS OF THE SET CALLS, OF LISTS AS ARGUMENTS.
-/
import Derived.Test.YtnjgaibcpcpmcacDoorKSort
import Derived.Test.YtnjgaibcpcpmcacDoorKFind
import Derived.Test.YtnjgaibcpcpmcacDoorKUnion
import Derived.Test.YtnjgaibcpcpmcacDoorKLst
namespace Go.Proofs.YtnjgaibcpcpmcacDoor
open Go.RowKit Go.Sort

theorem Box.kept {w w1 : World} {b : Nat} {x y : Int} (h : Box w b x y) (hb : Below w.heap.size w w1) : Box w1 b x y :=
  ⟨(hb.cell (p := ⟨b, 0, none⟩) (cell_lt h.1)).trans h.1, (hb.cell (p := ⟨b, 1, none⟩) (cell_lt h.2)).trans h.2⟩
theorem below_drewN (w : World) (q : Nat) : Below w.heap.size w (w.drewN q) := ⟨rfl, rfl, rfl, Nat.le_refl _, fun _ _ => rfl⟩
theorem copied_l (w : World) (ao : Option Addr) (n cap : Nat) (L : List K) (h : Lst w ao n cap L) (hm : n * 16 ≤ 140737488355328) :
    Calls Tryd.prog 7 #[.slice ao n cap] w fun e w' => ∃ a c, e = .returned (.slice a n c) ∧ Lst w' a n c L ∧ Flat a ∧ Below w.heap.size w w' :=
  (copiedK_any w ao cap n L h.len h.at_ h.nil hm).mono fun e w' ⟨v, h1, h2, h3⟩ => by
    obtain ⟨a, m, c, rfl, h4, h5⟩ := h2.lst
    obtain rfl : m = n := h4.len.trans h.len.symm
    exact ⟨a, c, h1, h4, h5, h3⟩
theorem sort_l (w : World) (ao : Option Addr) (n cap : Nat) (L : List K) (h : Lst w ao n cap L) (hf : Flat ao) (hm : n * 16 ≤ 140737488355328) :
    Calls Tryd.prog 6 #[.slice ao n cap] w fun e w' => ((L.all isKey = true ∧ ∃ a m c, e = .returned (.tuple #[.slice a m c, .int .i64 0]) ∧ Lst w' a m c (sortK L) ∧ Flat a) ∨ (L.all isKey = false ∧ e = .returned (.tuple #[.slice none 0 0, .int .i64 20]))) ∧ Below w.heap.size w w' :=
  (sort_any w ao cap n L h.len h.at_ hf hm).mono fun e w' ⟨h1, h2⟩ => ⟨h1.imp (fun ⟨h3, v, h4, h5⟩ => by
    obtain ⟨a, m, c, rfl, h6, h7⟩ := h5.lst
    exact ⟨h3, a, m, c, h4, h6, h7⟩) id, h2⟩
theorem rises_l (w : World) (ao : Option Addr) (n cap : Nat) (L : List K) (h : Lst w ao n cap L) (hr : Rise L) (hm : n ≤ 8796093022208) :
    Calls Tryd.prog 10 #[.slice ao n cap] w fun e w' => e = .returned (.bool true) ∧ Below w.heap.size w w' :=
  (rises_any w ao cap n L h.len h.at_ hm).mono fun e w' ⟨h1, h2⟩ => ⟨by rw [h1, decide_eq_true hr], Grew.below h2⟩
theorem sound_l (w : World) (ao : Option Addr) (n cap : Nat) (L : List K) (h : Lst w ao n cap L) (hm : n ≤ 8796093022208) :
    Calls Tryd.prog 8 #[.slice ao n cap] w fun e w' => e = .returned (.bool (L.all isKey)) ∧ w = w' :=
  (sound_any w ao cap n L h.len h.at_ hm).mono fun _ _ h => ⟨h.1, h.2.symm⟩
theorem same_l (w : World) (ao bo : Option Addr) (n cap m cb : Nat) (L : List K) (h : Lst w ao n cap L) (h' : Lst w bo m cb L) (hm : n ≤ 8796093022208) :
    Calls Tryd.prog 11 #[.slice ao n cap, .slice bo m cb] w fun e w' => e = .returned (.bool true) ∧ Below w.heap.size w w' :=
  (sameKeys_any w ao bo n cap m cb L L h h' hm (by have := h.len; have := h'.len; omega)).mono fun e w' ⟨h1, q, h2⟩ => ⟨by rw [h1, decide_eq_true rfl], by subst h2; exact below_drewN _ _⟩
theorem stands_l (w : World) (ao : Option Addr) (n cap : Nat) (L : List K) (t r : Int) (b : Bool) (hb : b = true ↔ (t, r) ∈ L) (h : Lst w ao n cap L) (hm : n ≤ 8796093022208) :
    Calls Tryd.prog 15 #[.slice ao n cap, .agg #[.int .i64 t, .int .i64 r]] w fun e w' => e = .returned (.bool b) ∧ Below w.heap.size w w' :=
  (stands_any w ao n cap L t r h hm).mono fun e w' ⟨h1, h2⟩ => ⟨by rw [h1]; congr 2; cases b <;> simp at hb ⊢ <;> exact hb, Grew.below h2⟩
theorem union_l (w : World) (ao bo : Option Addr) (n m ca cb : Nat) (A B : List K) (hA : Lst w ao n ca A) (hB : Lst w bo m cb B) (ha : Rise A) (hb : Rise B) (hm : (n + m) * 16 ≤ 140737488355328) :
    Calls Tryd.prog 12 #[.slice ao n ca, .slice bo m cb] w fun e w' => ∃ a k c, e = .returned (.tuple #[.slice a k c, .int .i64 0]) ∧ Lst w' a k c (sortK (A ++ B)) ∧ Flat a ∧ Below w.heap.size w w' :=
  (union_any w ao bo n m ca cb A B hA.len hB.len hA.at_ hB.at_ hA.cap hB.cap hm).mono fun e w' ⟨h1, h2⟩ => by
    rcases h1 with ⟨_, _, v, h3, h4⟩ | ⟨h3, _⟩
    · obtain ⟨a, k, c, rfl, h5, h6⟩ := h4.lst
      exact ⟨a, k, c, h3, h5, h6, h2⟩
    · exact absurd ⟨ha, hb⟩ h3
theorem meet_l (w : World) (ao bo : Option Addr) (n m ca cb : Nat) (A B : List K) (hA : Lst w ao n ca A) (hB : Lst w bo m cb B) (ha : Rise A) (hb : Rise B) (hm : (n + m) * 16 ≤ 140737488355328) :
    Calls Tryd.prog 13 #[.slice ao n ca, .slice bo m cb] w fun e w' => ∃ a k c, e = .returned (.tuple #[.slice a k c, .int .i64 0]) ∧ Lst w' a k c (A.filter (fun k => decide (k ∈ B))) ∧ Flat a ∧ Below w.heap.size w w' :=
  (meet_any w ao bo n m ca cb A B hA.len hB.len hA.at_ hB.at_ hA.cap hB.cap hm).mono fun e w' ⟨h1, h2⟩ => by
    rcases h1 with ⟨_, _, v, h3, h4⟩ | ⟨h3, _⟩
    · obtain ⟨a, k, c, rfl, h5, h6⟩ := h4.lst
      exact ⟨a, k, c, h3, h5, h6, h2⟩
    · exact absurd ⟨ha, hb⟩ h3
theorem minus_l (w : World) (ao bo : Option Addr) (n m ca cb : Nat) (A B : List K) (hA : Lst w ao n ca A) (hB : Lst w bo m cb B) (ha : Rise A) (hb : Rise B) (hm : (n + m) * 16 ≤ 140737488355328) :
    Calls Tryd.prog 14 #[.slice ao n ca, .slice bo m cb] w fun e w' => ∃ a k c, e = .returned (.tuple #[.slice a k c, .int .i64 0]) ∧ Lst w' a k c (A.filter (fun k => !decide (k ∈ B))) ∧ Flat a ∧ Below w.heap.size w w' :=
  (minus_any w ao bo n m ca cb A B hA.len hB.len hA.at_ hB.at_ hA.cap hB.cap hm).mono fun e w' ⟨h1, h2⟩ => by
    rcases h1 with ⟨_, _, v, h3, h4⟩ | ⟨h3, _⟩
    · obtain ⟨a, k, c, rfl, h5, h6⟩ := h4.lst
      exact ⟨a, k, c, h3, h5, h6, h2⟩
    · exact absurd ⟨ha, hb⟩ h3
theorem find_l (w : World) (ao : Option Addr) (n cap : Nat) (L : List K) (t r : Int) (b : Bool) (hb : b = true ↔ (t, r) ∈ L) (h : Lst w ao n cap L) (hr : Rise L) (hm : n ≤ 8796093022208) :
    Calls Tryd.prog 16 #[.slice ao n cap, .agg #[.int .i64 t, .int .i64 r]] w fun e w' => e = .returned (.tuple #[.int .i64 (cnt L (t, r) : Int), .bool b]) ∧ Below w.heap.size w w' :=
  (find_any w ao cap n L t r h.len h.at_ hm).mono fun e w' ⟨h1, h2⟩ => ⟨by
    have e1 : findN L (t, r) = cnt L (t, r) := if_pos hr
    have e2 : findB L (t, r) = b := by unfold findB; rw [decide_eq_true hr, Bool.true_and]; cases b <;> simp at hb ⊢ <;> exact hb
    rw [h1, e1, e2], Grew.below h2⟩

theorem rise_nodup {L : List K} (h : Rise L) : L.Nodup := h.2.imp fun h => ne_of_lt h
theorem sortK_self {L : List K} (h : Rise L) : sortK L = L := (sortK_eq h fun _ => Iff.rfl).symm
theorem all_iff (L : List K) : L.all isKey = true ↔ ∀ k ∈ L, isKey k = true := List.all_eq_true
theorem meet_rise {A : List K} (B : List K) (h : Rise A) : Rise (A.filter (fun k => decide (k ∈ B))) := h.sub List.filter_sublist
theorem minus_rise {A : List K} (B : List K) (h : Rise A) : Rise (A.filter (fun k => !decide (k ∈ B))) := h.sub List.filter_sublist
theorem union_rise {A B : List K} (ha : Rise A) (hb : Rise B) : Rise (sortK (A ++ B)) := sortK_rise fun k hk => (List.mem_append.1 hk).elim (ha.1 k) (hb.1 k)
theorem parts_len (A B : List K) : (A.filter (fun k => !decide (k ∈ B))).length + (A.filter (fun k => decide (k ∈ B))).length = A.length := by
  induction A with
  | nil => rfl
  | cons a A ih =>
    by_cases h : a ∈ B
    · simp only [List.filter_cons, h, decide_true, Bool.not_true, if_true, List.length_cons]; simp; omega
    · simp only [List.filter_cons, h, decide_false, Bool.not_false, if_true, List.length_cons]; simp; omega
theorem union_len {A B : List K} (ha : Rise A) (hb : Rise B) : (sortK (A ++ B)).length + (A.filter (fun k => decide (k ∈ B))).length = A.length + B.length := by
  have h1 : (sortK (A ++ B)).length = (A.filter (fun k => !decide (k ∈ B)) ++ B).length := by
    refine List.Perm.length_eq ((List.perm_ext_iff_of_nodup (rise_nodup (union_rise ha hb)) ?_).2 fun k => ?_)
    · rw [List.nodup_append]
      refine ⟨rise_nodup (minus_rise B ha), rise_nodup hb, fun x hx y hy => ?_⟩
      rintro rfl
      simp at hx
      exact hx.2 hy
    · rw [sortK_mem, List.mem_append, List.mem_append, List.mem_filter]
      by_cases h : k ∈ B <;> simp [h]
  have h2 := parts_len A B
  rw [h1, List.length_append]; omega
theorem cnt_le (L : List K) (k : K) : cnt L k ≤ L.length := List.length_filter_le _ _
theorem cnt_at {L : List K} {k : K} (hr : Rise L) (hk : k ∈ L) : cnt L k < L.length ∧ kd L (cnt L k) = k := by
  obtain ⟨j, hj, he⟩ := List.mem_iff_getElem.1 hk
  have hg := kd_get hj
  rw [List.getElem?_eq_getElem hj, Option.some.injEq, he] at hg
  have : cnt L k = j := cnt_eq (by omega) (fun x hx => by rw [hg]; exact rise_pair hx hj hr) (fun x hx hxl => by
    by_cases hxj : x = j
    · subst hxj; rw [hg]; exact lt_irrefl _
    · rw [hg]; exact lt_asymm (rise_pair (i := j) (j := x) (by omega) hxl hr))
  rw [this]
  exact ⟨hj, hg.symm⟩

end Go.Proofs.YtnjgaibcpcpmcacDoor
