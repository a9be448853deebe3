/-
  slices.Backward: THE ITERATOR FROM THE BACK.
-/
import Derived.Test.YtbpgafchagpmoaaLRound
namespace Go.Proofs.Ytbpgafchagpmoaa
open Go.RowKit Go.Sort Go.Shelf

attribute [local go_sem] Oper.semAt_some

/-- a place within m -/
def cl (m i : Nat) : Nat := min i (m - 1)
theorem cl_lt {m i : Nat} (h : 0 < m) : cl m i < m := by unfold cl; omega
theorem cl_of {m i : Nat} (h : i < m) : cl m i = i := by unfold cl; omega
/-- the last k places, from the back -/
def dn (m k : Nat) : List Nat := (List.range k).map (fun j => m - 1 - j)
theorem dn_succ (m k : Nat) : dn m (k + 1) = dn m k ++ [m - 1 - k] := by simp [dn, List.range_succ]
theorem dn_length (m k : Nat) : (dn m k).length = k := by simp [dn]
/-- what is handed on at a place -/
abbrev encP (m : Nat) (L : List K) (i : Nat) : Array Value := #[.int .i64 ((cl m i : Nat) : Int), .agg #[.int .i64 (cd L (cl m i)).1, .int .i64 (cd L (cl m i)).2]]

/-- what a round leaves: all below n₀, and the box -/
def KB (n₀ Bs : Nat) (A B : World) : Prop := Below n₀ A B ∧ B.heap[Bs]? = A.heap[Bs]?
theorem KB.refl (n₀ Bs : Nat) (A : World) : KB n₀ Bs A A := ⟨Below.refl _ _, rfl⟩
theorem KB.trans {n₀ Bs : Nat} {A B C : World} (h : KB n₀ Bs A B) (k : KB n₀ Bs B C) : KB n₀ Bs A C := ⟨h.1.trans k.1, k.2.trans h.2⟩
theorem KB.cell {n₀ Bs : Nat} {A B : World} (h : KB n₀ Bs A B) (i : Nat) : B.cell? ⟨Bs, i, none⟩ = A.cell? ⟨Bs, i, none⟩ := by simp only [World.cell?, h.2]

set_option maxRecDepth 100000 in
set_option maxHeartbeats 1000000 in
theorem back1_in (F : Fence) (n : Nat) (hf : F.fn 50) (hro : F.round = none) (hn : 1 ≤ n) (l Bs n₀ m c : Nat) (ao : Option Addr) (L : List K) (hm : m ≤ 1000000) (hLm : m = L.length) (J Jx : List Nat → World → Prop)
    (hY : ∀ pre x W, J pre W → pre.length < m → YieldAt F (n - 1) Try.prog l (encP m L x) W fun e W' =>
      (e = .returned (.bool true) ∧ J (pre ++ [x]) W' ∧ KB n₀ Bs W W') ∨ (e = .returned (.bool false) ∧ Jx (pre ++ [x]) W'))
    (W : World) (hBs : W.cell? ⟨Bs, 0, none⟩ = some (.slice ao m c)) (hL : KeysAt W ao L) (hlt : ∀ a, L ≠ [] → ao = some a → a.block < n₀) (h0 : J [] W) :
    CallsIn F n Try.prog 50 #[.func (.yield l) #[] #[], .pointer (some ⟨Bs, 0, none⟩)] W fun e W' => (∃ v, e = .returned v) ∧
      ((∃ ys, ys = dn m m ∧ J ys W') ∨ (∃ pre, (∃ k, k ≤ m ∧ pre = dn m k) ∧ Jx pre W')) := by
  have HL : Hid (KeysAt W ao L) := hL
  have HA : Hid (∀ a, L ≠ [] → ao = some a → a.block < n₀) := hlt
  have HLm : Hid (m = L.length) := hLm
  have HBs : Hid (W.cell? ⟨Bs, 0, none⟩ = some (.slice ao m c)) := hBs
  clear hL hlt hLm
  refine callsIn_of_wp Try.func50 rfl hf ?_ hro
  simp only [Try.ntmps50, List.size_toArray, List.length_cons, List.length_nil, Nat.reduceAdd, Nat.reduceSub, Array.replicate_succ, Array.replicate_zero, List.push_toArray, List.append_toArray, List.nil_append, List.cons_append]
  gi_wp2
  clear hBs
  gi_loopw [3] (fun i wr => ∃ k : Nat, k ≤ m ∧ i = .int .i64 ((m : Int) - 1 - (k : Int)) ∧ J (dn m k) wr ∧ KB n₀ Bs W wr)
    (fun i _ => (intOf i + 1).toNat)
  case atStart => exact ⟨0, Nat.zero_le _, by simp, h0, KB.refl _ _ _⟩
  case round =>
    obtain ⟨k, hk, rfl, hJs, hnx⟩ := hrel
    have hBs := (hnx.cell 0).trans HBs.out
    by_cases hlt : k < m
    · obtain ⟨b, off, rfl, c1, c2⟩ := (HL.out.below hnx.1 HA.out).get (m - 1 - k) (by have := HLm.out; omega)
      obtain ⟨fn, tmps, assign, body, hy, hR⟩ := hY _ (m - 1 - k) _ hJs (by rw [dn_length]; exact hlt)
      simp only [encP] at hy
      rw [cl_of (by omega)] at hy
      have hi : ((m : Int) - 1 - (k : Int)) = ((m - 1 - k : Nat) : Int) := by omega
      have hge : (0 : Int) ≤ ((m - 1 - k : Nat) : Int) := by omega
      have HI : Hid (((m : Int) - 1 - (k : Int)) = ((m - 1 - k : Nat) : Int)) := hi
      clear hi
      rw [HI.out]
      obtain ⟨q, hq⟩ : ∃ q, q = m - 1 - k := ⟨_, rfl⟩
      rw [← hq] at c1 c2 hy hR hge ⊢
      have HQ : Hid (q = m - 1 - k) := hq
      have hqm : q < m := by omega
      clear hq
      gi_wp2
      refine hR.mono ?_
      rintro e W3 (⟨rfl, hJ3, hk3⟩ | ⟨rfl, hJx3⟩)
      · gi_wp2
        go_roundw
        case rel => exact ⟨k + 1, by omega, by have := HQ.out; congr 1; omega, by rw [dn_succ, ← HQ.out]; exact hJ3, hnx.trans hk3⟩
        case measure => have := HQ.out; simp [intOf] <;> omega
      · gi_wp2
        refine bodyPost_ret (results_none rfl _ _ _) rfl ?_
        exact ⟨⟨_, rfl⟩, .inr ⟨_, ⟨k + 1, by omega, by rw [dn_succ, ← HQ.out]⟩, hJx3⟩⟩
    · obtain rfl : k = m := by omega
      rw [show ((k : Int) - 1 - (k : Int)) = -1 by omega]
      gi_wp2
      go_end0
      exact ⟨⟨_, rfl⟩, .inl ⟨_, rfl, hJs⟩⟩

theorem backward_any (w : World) (ao : Option Addr) (n cap : Nat) :
    Calls Try.prog 38 #[.slice ao n cap] w fun e w' => e = .returned (.func (.func 50) #[] #[.pointer (some ⟨w.heap.size, 0, none⟩)]) ∧ w' = w.alloc (.cells #[.slice ao n cap] 22) := by
  go_enter Try.func38, Try.ntmps38
  go_wp2
  go_ret
  exact ⟨rfl, rfl⟩

theorem back_stops (F : Fence) (n : Nat) (hf : F.fn 50) (hro : F.round = none) (hn : 1 ≤ n) (Bs n₀ m c : Nat) (ao : Option Addr) (L : List K) (hm : m ≤ 1000000) (hLm : m = L.length) (w : World) (hBw : Bs < w.heap.size)
    (hc : w.cell? ⟨Bs, 0, none⟩ = some (.slice ao m c)) (hL : KeysAt w ao L) (hlt : ∀ a, L ≠ [] → ao = some a → a.block < n₀) :
    SeqStopsK F n Try.prog 50 #[.pointer (some ⟨Bs, 0, none⟩)] (encP m L) (KB n₀ Bs) (fun ys => ys = dn m m) (fun pre => ∃ k, k ≤ m ∧ pre = dn m k) m w := fun l J Jx W hW _ _ hY h0 =>
  back1_in F n hf hro hn l Bs n₀ m c ao L hm hLm J Jx hY W ((hW.cell (p := ⟨Bs, 0, none⟩) hBw).trans hc) (hL.kept hW) hlt h0
end Go.Proofs.Ytbpgafchagpmoaa
