/-
  All: THE ITERATOR OVER A LIST OF KEYS.
-/
import Derived.Test.YtnjgaibcpcpmcabKRound
import Derived.Test.YtnjgaibcpcpmcabKSort
namespace Go.Proofs.Ytnjgaibcpcpmcab
open Go.RowKit Go.Sort Go.Shelf

attribute [local go_sem] Oper.semAt_some

/-- what has come when k rounds are over -/
def upto {α : Type} (f : Nat → α) (k : Nat) : List α := (List.range k).map f
theorem upto_succ {α : Type} (f : Nat → α) (k : Nat) : upto f (k + 1) = upto f k ++ [f k] := by simp [upto, List.range_succ]
theorem upto_length {α : Type} (f : Nat → α) (k : Nat) : (upto f k).length = k := by simp [upto]
abbrev KX := Nat × K
abbrev encK (x : KX) : Array Value := #[.int .i64 (x.1 : Int), .agg #[.int .i64 x.2.1, .int .i64 x.2.2]]

set_option maxRecDepth 100000 in
set_option maxHeartbeats 4000000 in
theorem all1_in (F : Fence) (n : Nat) (hf : F.fn 22) (hro : F.round = none) (hn : 1 ≤ n) (l Bs n₀ m c : Nat) (ao : Option Addr) (L : List K) (hm : m ≤ 8796093022208) (J Jx : List KX → World → Prop)
    (hY : ∀ pre x W, J pre W → pre.length < m → YieldAt F (n - 1) Try.prog l (encK x) W fun e W' =>
      (e = .returned (.bool true) ∧ J (pre ++ [x]) W' ∧ Below n₀ W W') ∨ (e = .returned (.bool false) ∧ Jx (pre ++ [x]) W'))
    (W : World) (hJ : AbidesFrom W.heap.size J) (hBs : W.cell? ⟨Bs, 0, none⟩ = some (.slice ao m c)) (hL : Lst W ao m c L) (hlt : ∀ a, L ≠ [] → ao = some a → a.block < n₀) (hn0 : n₀ ≤ W.heap.size) (h0 : J [] W) :
    CallsIn F n Try.prog 22 #[.func (.yield l) #[] #[], .pointer (some ⟨Bs, 0, none⟩)] W fun e W' => (∃ v, e = .returned v) ∧
      ((∃ ys, ys = upto (fun j => (j, kd L j)) m ∧ J ys W') ∨ (∃ pre, (∃ k, k ≤ m ∧ pre = upto (fun j => (j, kd L j)) k) ∧ Jx pre W')) := by
  have HL : Hid (Lst W ao m c L) := hL
  have HA : Hid (∀ a, L ≠ [] → ao = some a → a.block < n₀) := hlt
  clear hL hlt
  refine callsIn_of_wp Try.func22 rfl hf ?_ hro
  simp only [Try.ntmps22, List.size_toArray, List.length_cons, List.length_nil, Nat.reduceAdd, Nat.reduceSub, Array.replicate_succ, Array.replicate_zero, List.push_toArray, List.append_toArray, List.nil_append, List.cons_append]
  gi_wp2
  gi_loopw [7] (fun i wr => ∃ k : Nat, k ≤ m ∧ i = .int .i64 k ∧ J (upto (fun j => (j, kd L j)) k) wr ∧ Below n₀ W wr ∧ W.heap.size ≤ wr.heap.size)
    (fun i _ => m - (intOf i).toNat)
  case atStart => exact ⟨0, Nat.zero_le _, rfl, h0, Below.refl _ _, Nat.le_refl _⟩
  case round =>
    obtain ⟨k, hk, rfl, hJs, hnx, hsz⟩ := hrel
    by_cases hlt : k < m
    · obtain ⟨b, off, rfl, c1, c2⟩ := (HL.out.far hnx HA.out).at k hlt
      have hJ2 : J (upto (fun j => (j, kd L j)) k) (wr.alloc (.cells #[.int .i64 (kd L k).1, .int .i64 (kd L k).2] 28)) := hJ _ _ _ none hJs (World.grownBy_alloc wr _ none) (fun r e => by cases e)
      have hb2 : Below n₀ wr (wr.alloc (.cells #[.int .i64 (kd L k).1, .int .i64 (kd L k).2] 28)) := (Below.refl n₀ wr).alloc (Nat.le_trans hn0 hsz) _
      obtain ⟨fn, tmps, assign, body, hy, hR⟩ := hY _ (k, kd L k) _ hJ2 (by rw [upto_length]; exact hlt)
      simp only [encK] at hy
      gi_wp2
      refine hR.mono ?_
      rintro e W3 (⟨rfl, hJ3, hk3⟩ | ⟨rfl, hJx3⟩)
      · have hs3 := hk3.size
        gi_wp2
        go_roundw
        case rel => exact ⟨k + 1, by omega, by go_num, by rw [upto_succ]; exact hJ3, hnx.trans (hb2.trans hk3), by simp at hs3; omega⟩
        case measure => simp [intOf]; omega
      · gi_wp2
        refine bodyPost_ret (results_none rfl _ _ _) rfl ?_
        exact ⟨⟨_, rfl⟩, .inr ⟨_, ⟨k + 1, by omega, (upto_succ _ _).symm⟩, hJx3⟩⟩
    · obtain rfl : k = m := by omega
      gi_wp2
      go_end0
      exact ⟨⟨_, rfl⟩, .inl ⟨_, rfl, hJs⟩⟩

set_option maxHeartbeats 1000000 in
/-- All: a copy, boxed; the function value captures the box -/
theorem all_any (w : World) (ao : Option Addr) (n cap : Nat) (L : List K) (h : Lst w ao n cap L) (hf : Flat ao) (hm : n * 16 ≤ 140737488355328) :
    Calls Try.prog 11 #[.slice ao n cap] w fun e w' => ∃ Bs a c, e = .returned (.func (.func 22) #[] #[.pointer (some ⟨Bs, 0, none⟩)]) ∧ Hid (Lst w' a n c L) ∧ Hid (Flat a) ∧ Hid (Boxed w' Bs 29 (.slice a n c)) ∧ Hid (w.heap.size ≤ Bs ∧ ∀ x, a = some x → w.heap.size ≤ x.block) ∧ Below w.heap.size w w' := by
  have HL : Hid (Lst w ao n cap L) := h
  have HF : Hid (Flat ao) := hf
  clear h hf
  go_enter Try.func11, Try.ntmps11
  go_wp2_with fail
  refine (clone_any w ao cap n L HL.out.len HL.out.at_ HF.out hm).mono ?_
  rintro e w1 ⟨v, rfl, ho, hb⟩
  obtain ⟨a, m, c, rfl, hl, hfl⟩ := ho.lst
  obtain rfl : m = n := hl.len.trans HL.out.len.symm
  have HO : Hid (Lst w1 a m c L ∧ Flat a ∧ Below w.heap.size w w1 ∧ ∀ x, a = some x → w.heap.size ≤ x.block) := ⟨hl, hfl, hb, fun x e => (ho.lt x.block (by subst e; rfl)).1⟩
  clear ho hb hl hfl
  go_wp2
  go_ret
  obtain ⟨h1, h2, h3, h4⟩ := HO.out
  have hb := (Below.refl w1.heap.size w1).alloc (Nat.le_refl _) (.cells #[.slice a m c] 29)
  exact ⟨_, _, _, rfl, h1.kept hb, h2, Boxed.new w1 _ _, ⟨h3.size, h4⟩, h3.trans (hb.mono h3.size)⟩

/-- All hands back a value that goes over the list -/
theorem all_stops (F : Fence) (n : Nat) (hf : F.fn 22) (hro : F.round = none) (hn : 1 ≤ n) (Bs n₀ m c : Nat) (ao : Option Addr) (L : List K) (hm : m ≤ 8796093022208) (w : World) (hBs : Bs < w.heap.size) (hn₀ : n₀ ≤ w.heap.size)
    (hc : w.cell? ⟨Bs, 0, none⟩ = some (.slice ao m c)) (hL : Lst w ao m c L) (hlt : ∀ a, L ≠ [] → ao = some a → a.block < n₀) :
    SeqStopsK F n Try.prog 22 #[.pointer (some ⟨Bs, 0, none⟩)] encK (Below n₀) (fun ys => ys = upto (fun j => (j, kd L j)) m) (fun pre => ∃ k, k ≤ m ∧ pre = upto (fun j => (j, kd L j)) k) m w := fun l J Jx W hW hJ _ hY h0 =>
  all1_in F n hf hro hn l Bs n₀ m c ao L hm J Jx hY W hJ ((hW.cell (p := ⟨Bs, 0, none⟩) hBs).trans hc) (hL.kept hW) hlt (Nat.le_trans hn₀ hW.size) h0

end Go.Proofs.Ytnjgaibcpcpmcab
