/-
  THE WALK OF THE DOCUMENT's Sort.
-/
import Derived.Test.YtnjgaibcpcpmcabKRefPut
namespace Go.Proofs.Ytnjgaibcpcpmcab
open Go.RowKit Go.Sort

set_option maxHeartbeats 2000000 in
set_option maxRecDepth 100000 in
theorem refSort_any (w : World) (ao : Option Addr) (cap n : Nat) (L : List K) (hn : n = L.length) (h : KeysAt w ao L) (hm : n * 16 ≤ 140737488355328) :
    Calls Try.prog 27 #[.slice ao n cap] w fun e w' => ((L.all isKey = true ∧ ∃ a m c, e = .returned (.tuple #[.slice a m c, .int .i64 0]) ∧ Hid (OwnK w' w.heap.size (.slice a m c) (sortK L))) ∨ (L.all isKey = false ∧ e = .returned (.tuple #[.slice none 0 0, .int .i64 20]))) ∧ Below w.heap.size w w' := by
  have HN : Hid (n = L.length) := hn
  have HK : Hid (KeysAt w ao L) := h
  clear hn h
  go_enter Try.func27, Try.ntmps27
  go_wp2_with fail
  refine (refAll_any w ao cap n L HN.out HK.out (by omega)).mono ?_
  rintro e w1 ⟨rfl, hg⟩
  have HG1 : Hid (Below w.heap.size w w1) := Grew.below hg
  clear hg
  cases hall : L.all isKey with
  | false =>
    have HX : Hid (L.all isKey = false) := hall
    clear hall
    go_wp2
    go_ret2
    exact ⟨.inr ⟨HX.out, rfl⟩, HG1.out⟩
  | true =>
    have HX : Hid (L.all isKey = true) := hall
    have HAll : Hid (∀ k ∈ L, isKey k = true) := List.all_eq_true.1 hall
    clear hall
    go_wp2_with fail
    go_loopw [6, 5] (fun x y wr => ∃ (k m c : Nat) (a : Option Addr), k ≤ n ∧ x = .int .i64 (k : Int) ∧ y = .slice a m c ∧ Hid (OwnK wr w.heap.size (.slice a m c) (sortK (L.take k))) ∧ Hid (Below w.heap.size w wr)) (fun x _ _ => n - (intOf x).toNat)
    case atStart => exact ⟨0, 0, 0, none, Nat.zero_le _, rfl, rfl, OwnK.nil _ _, HG1⟩
    case round =>
      clear HG1
      obtain ⟨k, m, c, a, hk, rfl, rfl, HO, HB⟩ := hrel
      by_cases hlt : k < n
      · have hl : k < L.length := by have := HN.out; omega
        rcases HK.out.kept HB.out with h0 | ⟨bb, off, rfl, hc⟩
        · rw [h0] at hl; simp at hl
        · obtain ⟨c1, c2⟩ := KeysAt.at hc k hl
          have HS : Hid (sortK (L.take (k + 1)) = put (sortK (L.take k)) (kd L k)) := by rw [take_kd L k hl, sortK_snoc]; rfl
          have HR : Hid (Rise (sortK (L.take k))) := sortK_rise fun x hx => HAll.out x (List.mem_of_mem_take hx)
          have hml : m ≤ k := by
            obtain ⟨a', m', c', e, hl', _⟩ := HO.out.lst
            cases e
            have h1 := sortK_length (L.take k)
            rw [← hl'.len] at h1
            simp at h1; omega
          generalize kd L k = kk at *
          obtain ⟨t, r⟩ := kk
          simp only at c1 c2
          clear hc hl
          go_wp2_with fail
          obtain ⟨a', m', c', e, hl', hf'⟩ := HO.out.lst
          cases e
          refine (refPut_any wr a m c _ t r hl' hf' HR.out (by omega)).mono ?_
          rintro e w2 ⟨v, rfl, hv, hb⟩
          have HB2 : Hid (Below w.heap.size w w2) := HB.out.trans (hb.mono HB.out.size)
          have HO2 : Hid (OwnK w2 w.heap.size v (sortK (L.take (k + 1)))) := by
            rw [HS.out]
            rcases hv.out with ⟨rfl, hp⟩ | ho
            · rw [hp]; exact HO.out.kept hb
            · exact ho.mono HB.out.size
          obtain ⟨a2, m2, c3, hv2, _, _⟩ := HO2.out.lst
          subst hv2
          clear hl' hf' hv hb HO
          go_wp2_with fail
          go_roundw
          case rel => exact ⟨k + 1, m2, c3, a2, by omega, by go_num, rfl, HO2, HB2⟩
          case measure => simp [intOf]; omega
      · obtain rfl : k = n := by omega
        have HE : Hid (OwnK wr w.heap.size (.slice a m c) (sortK L)) := by have := HO.out; rwa [HN.out, List.take_length] at this
        clear HO
        go_wp2
        go_ret2
        exact ⟨.inl ⟨HX.out, a, m, c, rfl, HE⟩, HB.out⟩

set_option maxHeartbeats 2000000 in
set_option maxRecDepth 100000 in
theorem refUnion_any (w : World) (ao bo : Option Addr) (n m ca cb : Nat) (A B : List K) (hA : Lst w ao n ca A) (hB : Lst w bo m cb B) (hm : (n + m) * 16 ≤ 140737488355328) :
    Calls Try.prog 31 #[.slice ao n ca, .slice bo m cb] w fun e w' => (((Rise A ∧ Rise B) ∧ ∃ a k c, e = .returned (.tuple #[.slice a k c, .int .i64 0]) ∧ Hid (OwnK w' w.heap.size (.slice a k c) (sortK (A ++ B)))) ∨ (¬ (Rise A ∧ Rise B) ∧ e = .returned (.tuple #[.slice none 0 0, .int .i64 22]))) ∧ Below w.heap.size w w' := by
  have HA : Hid (Lst w ao n ca A) := hA
  have HB : Hid (Lst w bo m cb B) := hB
  clear hA hB
  go_enter Try.func31, Try.ntmps31
  go_wp2_with fail
  refine (both_any w ao bo ca n cb m A B HA.out.len HA.out.at_ (by omega) HB.out.len HB.out.at_ (by omega)).mono ?_
  rintro e w1 ⟨he, hg⟩
  have HG1 : Hid (Below w.heap.size w w1) := Grew.below hg
  clear hg
  by_cases hr : Rise A ∧ Rise B
  case neg =>
    rw [decide_eq_false hr] at he
    subst he
    have HX : Hid (¬ (Rise A ∧ Rise B)) := hr
    clear hr
    go_wp2
    go_ret2
    exact ⟨.inr ⟨HX.out, rfl⟩, HG1.out⟩
  rw [decide_eq_true hr] at he
  subst he
  have HX : Hid (Rise A ∧ Rise B) := hr
  have HAl : Hid ((A ++ B).all isKey = true) := List.all_eq_true.2 fun k hk => (List.mem_append.1 hk).elim (hr.1.1 k) (hr.2.1 k)
  clear hr
  have HA1 : Hid (Lst w1 ao n ca A) := HA.out.kept HG1.out
  have hb1 : w.heap.size ≤ w1.heap.size := HG1.out.size
  go_wp2_with (first | (at_builtin; refine wpList_append_keys rfl _ _ rfl w.heap.size v2 A rfl HO2.out.1 bo m cb B rfl HB.out.len (HB.out.at_.kept HO2.out.2) HB.out.nil (by rw [← HA.out.len, ← HB.out.len]; omega) hb2 ?_; intro v3 w3 h3 hg3 _; have HO3 : Hid (OwnK w3 w.heap.size v3 (A ++ B) ∧ Below w.heap.size w w3) := ⟨h3, HO2.out.2.trans (grown_below hg3 (fun k hk => (HO2.out.1.lt k hk).1) hb2)⟩; clear h3 hg3; obtain ⟨a3, n3, c3, hv3, hl3, hf3⟩ := HO3.out.1.lst; subst hv3) | (at_builtin; refine wpList_append_keys rfl _ _ rfl w.heap.size (.slice none 0 0) [] rfl (OwnK.nil _ _) ao n ca A rfl HA1.out.len HA1.out.at_ HA1.out.nil (by rw [← HA.out.len]; simp; omega) hb1 ?_; intro v2 w2 h2 hg2 _; have HO2 : Hid (OwnK w2 w.heap.size v2 A ∧ Below w.heap.size w w2) := ⟨by simpa using h2, HG1.out.trans (grown_below hg2 (fun k hk => by cases hk) hb1)⟩; have hb2 : w.heap.size ≤ w2.heap.size := HO2.out.2.size; clear h2 hg2))
  refine (refSort_any w3 a3 c3 n3 (A ++ B) hl3.len hl3.at_ (by rw [hl3.len, List.length_append, ← HA.out.len, ← HB.out.len]; omega)).mono ?_
  rintro e w4 ⟨h1 | h1, hb4⟩
  · obtain ⟨_, a, k, c, rfl, ho⟩ := h1
    have HO4 : Hid (OwnK w4 w.heap.size (.slice a k c) (sortK (A ++ B)) ∧ Below w.heap.size w w4) := ⟨ho.out.mono HO3.out.2.size, HO3.out.2.trans (hb4.mono HO3.out.2.size)⟩
    clear ho hb4 hl3 hf3
    go_wp2
    go_ret2
    exact ⟨.inl ⟨HX.out, a, k, c, rfl, HO4.out.1⟩, HO4.out.2⟩
  · exact absurd (HAl.out.symm.trans h1.1) (by decide)

theorem some_step (A B : List K) (inn : Bool) (k : Nat) (hk : k < A.length) : (A.take (k + 1)).filter (fun x => decide (x ∈ B) == inn) = (A.take k).filter (fun x => decide (x ∈ B) == inn) ++ (if decide (kd A k ∈ B) == inn then [kd A k] else []) := by
  rw [take_kd A k hk, List.filter_append]
  congr 1
  cases h : (decide (kd A k ∈ B) == inn) <;> simp [h]

set_option maxHeartbeats 2000000 in
set_option maxRecDepth 100000 in
theorem refSome_any (w : World) (ao bo : Option Addr) (n m ca cb : Nat) (A B : List K) (inn : Bool) (hA : Lst w ao n ca A) (hB : Lst w bo m cb B) (hm : (n + m) * 16 ≤ 140737488355328) :
    Calls Try.prog 52 #[.slice ao n ca, .slice bo m cb, .bool inn] w fun e w' => (((Rise A ∧ Rise B) ∧ ∃ a k c, e = .returned (.tuple #[.slice a k c, .int .i64 0]) ∧ Hid (OwnK w' w.heap.size (.slice a k c) (A.filter (fun x => decide (x ∈ B) == inn)))) ∨ (¬ (Rise A ∧ Rise B) ∧ e = .returned (.tuple #[.slice none 0 0, .int .i64 22]))) ∧ Below w.heap.size w w' := by
  have HA : Hid (Lst w ao n ca A) := hA
  have HB : Hid (Lst w bo m cb B) := hB
  clear hA hB
  go_enter Try.func52, Try.ntmps52
  go_wp2_with fail
  refine (both_any w ao bo ca n cb m A B HA.out.len HA.out.at_ (by omega) HB.out.len HB.out.at_ (by omega)).mono ?_
  rintro e w1 ⟨he, hg⟩
  have HG1 : Hid (Below w.heap.size w w1) := Grew.below hg
  clear hg
  by_cases hr : Rise A ∧ Rise B
  case neg =>
    rw [decide_eq_false hr] at he
    subst he
    have HX : Hid (¬ (Rise A ∧ Rise B)) := hr
    clear hr
    go_wp2
    go_ret2
    exact ⟨.inr ⟨HX.out, rfl⟩, HG1.out⟩
  rw [decide_eq_true hr] at he
  subst he
  have HX : Hid (Rise A ∧ Rise B) := hr
  clear hr
  go_wp2_with fail
  go_loopw [10, 9] (fun x y wr => ∃ (k l c : Nat) (a : Option Addr), k ≤ n ∧ x = .int .i64 (k : Int) ∧ y = .slice a l c ∧ Hid (OwnK wr w.heap.size (.slice a l c) ((A.take k).filter (fun x => decide (x ∈ B) == inn))) ∧ Hid (Below w.heap.size w wr)) (fun x _ _ => n - (intOf x).toNat)
  case atStart => exact ⟨0, 0, 0, none, Nat.zero_le _, rfl, rfl, OwnK.nil _ _, HG1⟩
  case round =>
    clear HG1
    obtain ⟨k, l, c, a, hk, rfl, rfl, HO, HBl⟩ := hrel
    by_cases hlt : k < n
    · have hl : k < A.length := by have := HA.out.len; omega
      have HS := some_step A B inn k hl
      have HS' : Hid _ := HS
      clear HS
      obtain ⟨bb, off, e, c1, c2⟩ := (HA.out.kept HBl.out).at k hlt
      have HE : Hid (∀ W, Below w.heap.size w W → W.cell? ⟨bb, off + k * 2, none⟩ = some (.int .i64 (kd A k).1) ∧ W.cell? ⟨bb, off + k * 2 + 1, none⟩ = some (.int .i64 (kd A k).2)) := fun W hb => by
        obtain ⟨b', off', e', h1, h2⟩ := (HA.out.kept hb).at k hlt
        rw [e] at e'; cases e'; exact ⟨h1, h2⟩
      subst e
      have hll : l ≤ k := by
        obtain ⟨a', m', c', e, hl', _⟩ := HO.out.lst
        cases e
        rw [hl'.len]
        exact Nat.le_trans (List.length_filter_le _ _) (by simp; omega)
      generalize kd A k = x at *
      obtain ⟨t, r⟩ := x
      simp only at c1 c2 HE
      clear hl
      go_wp2_with fail
      refine (refHas_any wr bo cb m B t r HB.out.len (HB.out.at_.kept HBl.out) (by omega)).mono ?_
      rintro e w2 ⟨rfl, hg⟩
      have HB2 : Hid (Below w.heap.size w w2) := HBl.out.trans (Grew.below hg |>.mono HBl.out.size)
      have HO1 : Hid (OwnK w2 w.heap.size (.slice a l c) ((A.take k).filter (fun x => decide (x ∈ B) == inn))) := HO.out.kept (Grew.below hg)
      clear hg c1 c2 HO
      obtain ⟨c1, c2⟩ := HE.out _ HB2.out
      have hb2 : w.heap.size ≤ w2.heap.size := HB2.out.size
      generalize decide ((t, r) ∈ B) = bm at *
      cases hbi : (bm == inn) with
      | false =>
        have HO2 : Hid (OwnK w2 w.heap.size (.slice a l c) ((A.take (k + 1)).filter (fun x => decide (x ∈ B) == inn))) := by
          rw [HS'.out, hbi, if_neg (by decide), List.append_nil]; exact HO1.out
        clear HS'
        go_wp2_with fail
        go_roundw
        case rel => exact ⟨k + 1, l, c, a, by omega, by go_num, rfl, HO2, HB2⟩
        case measure => simp [intOf]; omega
      | true =>
        have HS2 : Hid ((A.take (k + 1)).filter (fun x => decide (x ∈ B) == inn) = (A.take k).filter (fun x => decide (x ∈ B) == inn) ++ [(t, r)]) := by rw [HS'.out, hbi]; rfl
        have HLn : Hid (((A.take k).filter (fun x => decide (x ∈ B) == inn)).length = l) := by
          obtain ⟨a', m', c', e, hl', _⟩ := HO1.out.lst
          cases e
          exact hl'.len.symm
        clear HS'
        go_wp2_with (at_builtin; refine wpList_append_keys rfl _ _ rfl w.heap.size (.slice a l c) _ rfl (HO1.out.alloc _) _ _ _ [(t, r)] rfl rfl (key_src w2 _ t r rfl) (by simp) (by rw [HLn.out]; simp; omega) (by simp only [World.size_alloc]; omega) ?_; intro v3 w3 h3 hg3 _; have HO3 : Hid (OwnK w3 w.heap.size v3 ((A.take (k + 1)).filter (fun x => decide (x ∈ B) == inn)) ∧ Below w.heap.size w w3) := ⟨by rw [HS2.out]; exact h3, HB2.out.trans (((Below.refl _ w2).alloc hb2 _).trans (grown_below hg3 (fun k hk => (HO1.out.lt k hk).1) (by simp only [World.size_alloc]; omega)))⟩; clear h3 hg3; obtain ⟨a3, n3, c3, hv3, _, _⟩ := HO3.out.1.lst; subst hv3)
        go_roundw
        case rel => exact ⟨k + 1, n3, c3, a3, by omega, by go_num, rfl, HO3.out.1, HO3.out.2⟩
        case measure => simp [intOf]; omega
    · obtain rfl : k = n := by omega
      have HE : Hid (OwnK wr w.heap.size (.slice a l c) (A.filter (fun x => decide (x ∈ B) == inn))) := by have := HO.out; rwa [HA.out.len, List.take_length] at this
      clear HO
      go_wp2
      go_ret2
      exact ⟨.inl ⟨HX.out, a, l, c, rfl, HE⟩, HBl.out⟩

theorem refMeet_any (w : World) (ao bo : Option Addr) (n m ca cb : Nat) (A B : List K) (hA : Lst w ao n ca A) (hB : Lst w bo m cb B) (hm : (n + m) * 16 ≤ 140737488355328) :
    Calls Try.prog 33 #[.slice ao n ca, .slice bo m cb] w fun e w' => (((Rise A ∧ Rise B) ∧ ∃ a k c, e = .returned (.tuple #[.slice a k c, .int .i64 0]) ∧ Hid (OwnK w' w.heap.size (.slice a k c) (A.filter (fun k => decide (k ∈ B))))) ∨ (¬ (Rise A ∧ Rise B) ∧ e = .returned (.tuple #[.slice none 0 0, .int .i64 22]))) ∧ Below w.heap.size w w' := by
  have HA : Hid (Lst w ao n ca A) := hA
  have HB : Hid (Lst w bo m cb B) := hB
  have HF : Hid ((fun x => decide (x ∈ B) == true) = fun k => decide (k ∈ B)) := by rw [Hid]; funext x; simp
  clear hA hB
  go_enter Try.func33, Try.ntmps33
  go_wp2_with fail
  refine (refSome_any w ao bo n m ca cb A B true HA.out HB.out hm).mono ?_
  rintro e w4 ⟨h1 | h1, hb4⟩
  · obtain ⟨hx, a, k, c, rfl, ho⟩ := h1
    have HX : Hid ((Rise A ∧ Rise B) ∧ OwnK w4 w.heap.size (.slice a k c) (A.filter (fun k => decide (k ∈ B))) ∧ Below w.heap.size w w4) := ⟨hx, HF.out ▸ ho.out, hb4⟩
    clear hx ho hb4
    go_wp2
    go_ret2
    exact ⟨.inl ⟨HX.out.1, a, k, c, rfl, HX.out.2.1⟩, HX.out.2.2⟩
  · obtain ⟨hx, rfl⟩ := h1
    have HX : Hid (¬ (Rise A ∧ Rise B) ∧ Below w.heap.size w w4) := ⟨hx, hb4⟩
    clear hx hb4
    go_wp2
    go_ret2
    exact ⟨.inr ⟨HX.out.1, rfl⟩, HX.out.2⟩
theorem refMinus_any (w : World) (ao bo : Option Addr) (n m ca cb : Nat) (A B : List K) (hA : Lst w ao n ca A) (hB : Lst w bo m cb B) (hm : (n + m) * 16 ≤ 140737488355328) :
    Calls Try.prog 35 #[.slice ao n ca, .slice bo m cb] w fun e w' => (((Rise A ∧ Rise B) ∧ ∃ a k c, e = .returned (.tuple #[.slice a k c, .int .i64 0]) ∧ Hid (OwnK w' w.heap.size (.slice a k c) (A.filter (fun k => !decide (k ∈ B))))) ∨ (¬ (Rise A ∧ Rise B) ∧ e = .returned (.tuple #[.slice none 0 0, .int .i64 22]))) ∧ Below w.heap.size w w' := by
  have HA : Hid (Lst w ao n ca A) := hA
  have HB : Hid (Lst w bo m cb B) := hB
  have HF : Hid ((fun x => decide (x ∈ B) == false) = fun k => !decide (k ∈ B)) := by rw [Hid]; funext x; by_cases h : x ∈ B <;> simp [h]
  clear hA hB
  go_enter Try.func35, Try.ntmps35
  go_wp2_with fail
  refine (refSome_any w ao bo n m ca cb A B false HA.out HB.out hm).mono ?_
  rintro e w4 ⟨h1 | h1, hb4⟩
  · obtain ⟨hx, a, k, c, rfl, ho⟩ := h1
    have HX : Hid ((Rise A ∧ Rise B) ∧ OwnK w4 w.heap.size (.slice a k c) (A.filter (fun k => !decide (k ∈ B))) ∧ Below w.heap.size w w4) := ⟨hx, HF.out ▸ ho.out, hb4⟩
    clear hx ho hb4
    go_wp2
    go_ret2
    exact ⟨.inl ⟨HX.out.1, a, k, c, rfl, HX.out.2.1⟩, HX.out.2.2⟩
  · obtain ⟨hx, rfl⟩ := h1
    have HX : Hid (¬ (Rise A ∧ Rise B) ∧ Below w.heap.size w w4) := ⟨hx, hb4⟩
    clear hx hb4
    go_wp2
    go_ret2
    exact ⟨.inr ⟨HX.out.1, rfl⟩, HX.out.2⟩

end Go.Proofs.Ytnjgaibcpcpmcab
