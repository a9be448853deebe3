/-
  slices.BinarySearch AT []int; seen.
-/
import Derived.Test.YtbmohlkcmhhpgaaGreatBkPin
namespace Go.Proofs.YtbmohlkcmhhpgaaGreat
open Go.RowKit Go.Sort

/-- a list of ints -/
def IAt (W : World) (ao : Option Addr) (d : List Int) : Prop := ∀ i (hi : i < d.length), ∃ g off, ao = some ⟨g, off, none⟩ ∧ W.cell? ⟨g, off + i, none⟩ = some (.int .i64 d[i])
theorem IAt.fr {G : Nat → Prop} {W W' : World} {ao : Option Addr} {d : List Int} (h : IAt W ao d) (hf : Fr G W W') (hG : ∀ a, ao = some a → ¬ G a.block) : IAt W' ao d := fun i hi => by
  obtain ⟨g, off, h1, h2⟩ := h i hi
  refine ⟨g, off, h1, ?_⟩
  have hb := World.block_lt_of_cell? _ _ h2
  have : W'.heap[g]? = W.heap[g]? := hf.block g hb (hG _ h1)
  unfold World.cell? at h2 ⊢
  simp only at h2 ⊢
  rw [this]
  exact h2
set_option maxHeartbeats 1000000 in
theorem nan1_any (w : World) (x : Int) : Calls Tryz.prog 85 #[.int .i64 x] w fun e w' => e = .returned (.bool false) ∧ w' = w := by
  go_enter Tryz.func85, Tryz.ntmps85
  go_wp2
  go_ret
  exact ⟨by simp, rfl⟩
set_option maxHeartbeats 1000000 in
theorem nan2_any (w : World) (x : Int) : Calls Tryz.prog 104 #[.int .i64 x] w fun e w' => e = .returned (.bool false) ∧ w' = w := by
  go_enter Tryz.func104, Tryz.ntmps104
  go_wp2
  go_ret
  exact ⟨by simp, rfl⟩
set_option maxHeartbeats 1000000 in
theorem less_any (w : World) (x y : Int) : Calls Tryz.prog 84 #[.int .i64 x, .int .i64 y] w fun e w' => e = .returned (.bool (decide (x < y))) ∧ w' = w := by
  have HN := nan2_any w x
  go_enter Tryz.func84, Tryz.ntmps84
  go_wp2_with fail
  refine HN.mono ?_
  rintro e w2 ⟨rfl, hw2⟩
  have hw2' := hw2.symm
  subst hw2'
  clear hw2 HN
  go_wp2
  go_ret
  exact ⟨rfl, rfl⟩
def BsPost (w : World) (d : List Int) (x : Int) (e : Ending) (w' : World) : Prop := ∃ (i : Nat) (fd : Bool), e = .returned (.tuple #[.int .i64 (i : Int), .bool fd]) ∧ i ≤ d.length ∧ (∀ j (hj : j < d.length), j < i → d[j] < x) ∧ (∀ j (hj : j < d.length), i ≤ j → x ≤ d[j]) ∧ w' = w
set_option maxRecDepth 100000 in
set_option maxHeartbeats 2000000 in
theorem bsearch_any (w : World) (ao : Option Addr) (n c : Nat) (d : List Int) (x : Int) (hn : n = d.length) (h : IAt w ao d) (hs : d.Pairwise (· < ·)) (hb : n ≤ 1000000) :
    Calls Tryz.prog 78 #[.slice ao n c, .int .i64 x] w fun e w' => BsPost w d x e w' := by
  have HN := hidC hn
  have HI := hidC h
  have HS := hidC hs
  clear hn h hs
  go_enter Tryz.func78, Tryz.ntmps78
  go_wp2_with fail
  go_loopw [7, 8, 9] (fun xi xj _ wr => ∃ (i j : Nat), i ≤ j ∧ j ≤ n ∧ xi = .int .i64 (i : Int) ∧ xj = .int .i64 (j : Int) ∧ Hid ((∀ k (hk : k < d.length), k < i → d[k] < x) ∧ (∀ k (hk : k < d.length), j ≤ k → x ≤ d[k])) ∧ wr = w) (fun xi xj _ _ => (intOf xj).toNat - (intOf xi).toNat)
  case atStart => exact ⟨0, n, Nat.zero_le _, Nat.le_refl _, rfl, rfl, ⟨fun k _ h => by omega, fun k hk h => by have := HN.out; omega⟩, rfl⟩
  case round =>
    obtain ⟨i, j, hij, hjn, rfl, rfl, HR, hw⟩ := hrel
    subst hw
    by_cases hlt : i < j
    · have hm1 : i ≤ (i + j) / 2 ∧ (i + j) / 2 < j := by omega
      have hml : (i + j) / 2 < d.length := by have := HN.out; omega
      obtain ⟨g, off, rfl, c1⟩ := HI.out _ hml
      have hii : (i : Int) < (j : Int) := by omega
      obtain ⟨y, hy⟩ : ∃ y, y = d[(i + j) / 2] := ⟨_, rfl⟩
      have HY : Hid (∃ hml : (i + j) / 2 < d.length, y = d[(i + j) / 2]) := ⟨hml, hy⟩
      rw [← hy] at c1
      have HLs := hidC (less_any wr y x)
      clear hy hml
      go_wp2_with fail
      refine HLs.out.mono ?_
      rintro e w2 ⟨rfl, hw2⟩
      have hw2' := hw2.symm
      subst hw2'
      clear hw2 HLs c1
      by_cases hyx : y < x
      · have hyb : decide (y < x) = true := decide_eq_true hyx
        have HN2 : Hid ((∀ k (hk : k < d.length), k < (i + j) / 2 + 1 → d[k] < x) ∧ (∀ k (hk : k < d.length), j ≤ k → x ≤ d[k])) := by
          refine ⟨fun k hk hk2 => ?_, HR.out.2⟩
          obtain ⟨hml, hy⟩ := HY.out
          by_cases e : k = (i + j) / 2
          · subst e; rw [← hy]; exact hyx
          · have := List.pairwise_iff_getElem.1 HS.out k ((i + j) / 2) hk hml (by omega)
            omega
        clear HR
        go_wp2
        refine ⟨⟨(i + j) / 2 + 1, j, by omega, hjn, ?_, rfl, HN2, trivial⟩, ?_⟩
        · congr 1
        · simp [intOf]; omega
      · have hyb : decide (y < x) = false := decide_eq_false hyx
        have HN2 : Hid ((∀ k (hk : k < d.length), k < i → d[k] < x) ∧ (∀ k (hk : k < d.length), (i + j) / 2 ≤ k → x ≤ d[k])) := by
          refine ⟨HR.out.1, fun k hk hk2 => ?_⟩
          obtain ⟨hml, hy⟩ := HY.out
          by_cases e : k = (i + j) / 2
          · subst e; rw [← hy]; omega
          · have := List.pairwise_iff_getElem.1 HS.out ((i + j) / 2) k hml hk (by omega)
            omega
        clear HR
        go_wp2
        refine ⟨⟨i, (i + j) / 2, by omega, by omega, rfl, ?_, HN2, trivial⟩, ?_⟩
        · congr 1
        · simp [intOf]; omega
    · have hje : i = j := by omega
      subst hje
      have hii : ¬ (i : Int) < (i : Int) := by omega
      by_cases hin : i < n
      · have hinb : (i : Int) < (n : Int) := by omega
        have hil : i < d.length := by have := HN.out; omega
        obtain ⟨g, off, rfl, c1⟩ := HI.out i hil
        generalize d[i] = y at c1
        clear hil
        have HNa := hidC (nan1_any wr y)
        by_cases hyx : y = x
        · have hyb : (y == x) = true := by simpa using hyx
          go_wp2
          go_ret2
          exact ⟨i, true, rfl, by have := HN.out; omega, HR.out.1, HR.out.2, rfl⟩
        · have hyb : (y == x) = false := by simpa using hyx
          go_wp2_with fail
          refine HNa.out.mono ?_
          rintro e w2 ⟨rfl, hw2⟩
          have hw2' := hw2.symm
          subst hw2'
          clear hw2 HNa
          go_wp2
          go_ret2
          exact ⟨i, false, rfl, by have := HN.out; omega, HR.out.1, HR.out.2, rfl⟩
      · have hinb : ¬ (i : Int) < (n : Int) := by omega
        go_wp2
        go_ret2
        exact ⟨i, false, rfl, by have := HN.out; omega, HR.out.1, HR.out.2, rfl⟩
/-- is there a pin from a batch on, below another one? -/
def seenN (d : List Int) (b nx : Int) : Bool := d.any (fun p => decide (b ≤ p) && decide (p < nx))
set_option maxRecDepth 100000 in
set_option maxHeartbeats 1000000 in
theorem seen_any (w : World) (b nx : Int) (ao : Option Addr) (n c : Nat) (d : List Int) (hn : n = d.length) (h : IAt w ao d) (hs : d.Pairwise (· < ·)) (hb : n ≤ 1000000) :
    Calls Tryz.prog 66 #[.int .i64 b, .int .i64 nx, .slice ao n c] w fun e w' => e = .returned (.bool (seenN d b nx)) ∧ w' = w := by
  have HB := hidC (bsearch_any w ao n c d b hn h hs hb)
  have HN := hidC hn
  have HI := hidC h
  have HS := hidC hs
  clear hn h hs
  go_enter Tryz.func66, Tryz.ntmps66
  go_wp2_with fail
  refine HB.out.mono ?_
  rintro e w2 ⟨i, fd, rfl, hi, h1, h2, hw2⟩
  have hw2' := hw2.symm
  subst hw2'
  clear hw2 HB
  by_cases hin : i < n
  · have hinb : (i : Int) < (n : Int) := by omega
    have hil : i < d.length := by have := HN.out; omega
    obtain ⟨g, off, rfl, c1⟩ := HI.out i hil
    have HE : Hid (decide (d[i] < nx) = seenN d b nx) := by
      show _ = _
      rw [Bool.eq_iff_iff]
      simp only [decide_eq_true_eq, seenN, List.any_eq_true, Bool.and_eq_true]
      constructor
      · intro h3
        exact ⟨d[i], List.getElem_mem hil, h2 i hil (Nat.le_refl _), h3⟩
      · rintro ⟨p, hp, hb1, hb2⟩
        obtain ⟨j, hj, rfl⟩ := List.getElem_of_mem hp
        by_cases hji : j < i
        · have := h1 j hj hji; omega
        · by_cases e : j = i
          · subst e; exact hb2
          · have := List.pairwise_iff_getElem.1 HS.out i j hil hj (by omega)
            omega
    generalize d[i] = y at c1 HE
    clear h1 h2 hil
    go_wp2
    go_ret
    exact ⟨by rw [← HE.out]; rfl, rfl⟩
  · have hinb : ¬ (i : Int) < (n : Int) := by omega
    have HE : Hid (seenN d b nx = false) := by
      show _ = _
      rw [seenN, List.any_eq_false]
      intro p hp
      obtain ⟨j, hj, rfl⟩ := List.getElem_of_mem hp
      have := h1 j hj (by have := HN.out; omega)
      simp
      omega
    clear h1 h2
    go_wp2
    go_ret
    exact ⟨by rw [HE.out]; rfl, rfl⟩
end Go.Proofs.YtbmohlkcmhhpgaaGreat
