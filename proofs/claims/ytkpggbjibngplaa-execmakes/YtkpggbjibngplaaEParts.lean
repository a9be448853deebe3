/-
  THE DOCUMENT'S Parts OF A LIBRARY (out of ALRefL).
-/
import Derived.Test.YtkpggbjibngplaaLProc
namespace Go.Proofs.Ytkpggbjibngplaa
open Go.RowKit Go.Sort

def used : List Pr → Nat
  | [] => 0
  | x :: Ps => 1 + x.name.size + x.n + used Ps
theorem used_append (A B : List Pr) : used (A ++ B) = used A + used B := by
  induction A with
  | nil => simp [used]
  | cons x A ih => simp [used, ih]; omega
theorem used_take (Ps : List Pr) (k : Nat) (h : k < Ps.length) : used (Ps.take (k + 1)) = used (Ps.take k) + (1 + (pd Ps k).name.size + (pd Ps k).n) := by
  rw [pd_take Ps k h, used_append]; simp [used]
theorem used_all {Ps : List Pr} : Ps.length ≤ used Ps ∧ ∀ x ∈ Ps, x.name.size ≤ used Ps ∧ x.n ≤ used Ps := by
  induction Ps with
  | nil => simp [used]
  | cons y Ps ih =>
    refine ⟨by simp [used]; omega, fun x hx => ?_⟩
    rcases List.mem_cons.1 hx with rfl | hx
    · simp [used]; omega
    · have := ih.2 x hx
      simp [used]; omega
def PartsPost (n : Nat) (Ps : List Pr) (e : Ending) : Prop := ∃ r : Int, e = .returned (.int .i64 r) ∧ (0 ≤ r → n ≤ 100000 ∧ ∀ x ∈ Ps, x.name.size ≤ 100000 ∧ x.n ≤ 100000)
set_option maxRecDepth 100000 in
set_option maxHeartbeats 1000000 in
theorem parts_any (w : World) (ao : Option Addr) (n cap : Nat) (Ps : List Pr) (h : LibAt w ao Ps) (hn : n = Ps.length) (hm : n ≤ 140737488351232) :
    Calls Try.prog 4 #[.slice ao n cap, .int .i64 100000] w fun e w' => PartsPost n Ps e ∧ ∃ q, w' = w.drewN q := by
  have H : Hid (LibAt w ao Ps) := h
  have HN : Hid (n = Ps.length) := hn
  clear h hn
  go_enter Try.func4, Try.ntmps4
  go_wp2_with fail
  go_loopw [1, 5] (fun x y wr => ∃ (k q : Nat) (r : Int), k ≤ n ∧ x = .int .i64 r ∧ y = .int .i64 (k : Int) ∧ Hid (r = 100000 - (used (Ps.take k) : Int)) ∧ r ≤ 100000 ∧ -300000000000000 ≤ r ∧ wr = w.drewN q) (fun _ y _ => n - (intOf y).toNat)
  case atStart => exact ⟨0, 0, 100000, Nat.zero_le _, rfl, rfl, by simp [Hid, used], by omega, by omega, rfl⟩
  case round =>
    obtain ⟨k, q, r, hk, rfl, rfl, HRe, hr1, hr2, rfl⟩ := hrel
    by_cases hlt : k < n
    · by_cases hr0 : 0 ≤ r
      · have hlt' : k < Ps.length := by have := HN.out; omega
        obtain ⟨b, off, rfl, c0, c1, c2, c3, c4, c5⟩ := H.out.at_.get k hlt'
        have HU : Hid (used (Ps.take (k + 1)) = used (Ps.take k) + (1 + (pd Ps k).name.size + (pd Ps k).n)) := used_take Ps k hlt'
        have HOk := H.out.ok _ (pd_mem hlt')
        have hb1 := HOk.str
        have hb2 := HOk.big
        clear HOk
        generalize pd Ps k = x at *
        generalize hns : x.name.size = ns at *
        generalize x.n = xn at *
        have hns' : x.name.size = ns := hns
        clear hns c1 c2 c3 c4
        have d0 : (w.drewN q).cell? ⟨b, off + k * 6, none⟩ = some (.string x.name) := c0
        have d5 : (w.drewN q).cell? ⟨b, off + k * 6 + 5, none⟩ = some (.slice x.ao xn x.cap) := c5
        have HW1 : Hid (∀ m, (w.drewN q).drewN m = w.drewN (q + m)) := fun m => World.drewN_drewN _ _ _
        generalize w.drewN q = w1 at *
        have hw1 : IntKind.i64.wrap (r - 1) = r - 1 := by rw [IntKind.wrap_i64]; omega
        have hw2 : IntKind.i64.wrap (r - 1 - (ns : Int)) = r - 1 - (ns : Int) := by rw [IntKind.wrap_i64]; omega
        have hw3 : IntKind.i64.wrap (r - 1 - (ns : Int) - (xn : Int)) = r - 1 - (ns : Int) - (xn : Int) := by rw [IntKind.wrap_i64]; omega
        have HR2 : Hid (r - 1 - (ns : Int) - (xn : Int) = 100000 - (used (Ps.take (k + 1)) : Int)) := by rw [HU.out, HRe.out]; show _ = _; omega
        clear HU c0 c5
        go_wp2_with fail
        go_quiet (fail)
        go_wp2_with fail
        go_roundw
        case rel => exact ⟨k + 1, q + nq, r - 1 - (ns : Int) - (xn : Int), by omega, rfl, by go_num, HR2, by omega, by omega, HW1.out nq⟩
        case measure => simp [intOf]; omega
      · have hr0' : ¬ (r ≥ 0) := by omega
        have hrn : r < 0 := by omega
        have HPp : Hid (PartsPost n Ps (.returned (.int .i64 r))) := ⟨r, rfl, fun h => absurd h (by omega)⟩
        clear HRe
        go_wp2
        go_ret
        exact ⟨HPp.out, q, rfl⟩
    · obtain rfl : k = n := by omega
      have HPp : Hid (PartsPost k Ps (.returned (.int .i64 r))) := ⟨r, rfl, fun h => by
        have hu := HRe.out
        rw [HN.out, List.take_length] at hu
        obtain ⟨h1, h2⟩ := used_all (Ps := Ps)
        refine ⟨by rw [HN.out]; omega, fun x hx => ?_⟩
        have := h2 x hx
        omega⟩
      clear HRe
      go_wp2
      go_ret
      exact ⟨HPp.out, q, rfl⟩
end Go.Proofs.Ytkpggbjibngplaa
