/-
  THE WALKS OF THE DOCUMENT's Parts.
-/
import Derived.Test.YtciogmenoighoaaTxForm
namespace Go.Proofs.Ytciogmenoighoaa.Kk
open Go.RowKit Go.Sort

/-- what a library's parts come to -/
def used : List Pr → Nat
  | [] => 0
  | x :: Ps => 1 + x.name.size + x.n + used Ps
theorem used_append (A B : List Pr) : used (A ++ B) = used A + used B := by
  induction A with
  | nil => simp [used]
  | cons x A ih => simp [used, ih]; omega
theorem used_take (Ps : List Pr) (k : Nat) (h : k < Ps.length) : used (Ps.take (k + 1)) = used (Ps.take k) + (1 + (pd Ps k).name.size + (pd Ps k).n) := by
  rw [pd_take Ps k h, used_append]; simp [used]
theorem used_all {Ps : List Pr} : Ps.length ≤ used Ps ∧ ∀ x ∈ Ps, x.name.size ≤ used Ps ∧ x.n ≤ used Ps := by
  induction Ps with
  | nil => simp [used]
  | cons y Ps ih =>
    refine ⟨by simp [used]; omega, fun x hx => ?_⟩
    rcases List.mem_cons.1 hx with rfl | hx
    · simp [used]; omega
    · have := ih.2 x hx
      simp [used]; omega
def PartsPost (n : Nat) (Ps : List Pr) (e : Ending) : Prop := ∃ r : Int, e = .returned (.int .i64 r) ∧ (0 ≤ r → n ≤ 100000 ∧ ∀ x ∈ Ps, x.name.size ≤ 100000 ∧ x.n ≤ 100000) ∧ r ≤ 100000 ∧ -300000000000000 ≤ r
/-- what a batch's parts come to -/
def usedB : List Bx → Nat
  | [] => 0
  | x :: Bs => 1 + x.t.args.length + x.t.reads.length + x.t.writes.length + usedB Bs
theorem usedB_append (A B : List Bx) : usedB (A ++ B) = usedB A + usedB B := by
  induction A with
  | nil => simp [usedB]
  | cons x A ih => simp [usedB, ih]; omega
theorem usedB_take (Bs : List Bx) (k : Nat) (h : k < Bs.length) : usedB (Bs.take (k + 1)) = usedB (Bs.take k) + (1 + (bd Bs k).t.args.length + (bd Bs k).t.reads.length + (bd Bs k).t.writes.length) := by
  rw [bd_take Bs k h, usedB_append]; simp [usedB]
theorem usedB_all {Bs : List Bx} : Bs.length ≤ usedB Bs ∧ ∀ x ∈ Bs, x.t.args.length ≤ usedB Bs ∧ x.t.reads.length ≤ usedB Bs ∧ x.t.writes.length ≤ usedB Bs := by
  induction Bs with
  | nil => simp [usedB]
  | cons y Bs ih =>
    refine ⟨by simp [usedB]; omega, fun x hx => ?_⟩
    rcases List.mem_cons.1 hx with rfl | hx
    · simp [usedB]; omega
    · have := ih.2 x hx
      simp [usedB]; omega
def PartsB (left : Int) (n : Nat) (Bs : List Bx) (e : Ending) : Prop := ∃ r : Int, e = .returned (.int .i64 r) ∧ (0 ≤ r → 0 ≤ left ∧ n ≤ 100000 ∧ ∀ x ∈ Bs, x.t.args.length ≤ 100000 ∧ x.t.reads.length ≤ 100000 ∧ x.t.writes.length ≤ 100000)
set_option maxRecDepth 100000 in
set_option maxHeartbeats 1000000 in
theorem partsB_any (w : World) (ao : Option Addr) (n cap : Nat) (Bs : List Bx) (left : Int) (h : BatAt w ao Bs) (hn : n = Bs.length) (hm : n ≤ 140737488351232) (l1 : left ≤ 100000) (l2 : -300000000000000 ≤ left) :
    Calls Try.prog 7 #[.slice ao n cap, .int .i64 left] w fun e w' => PartsB left n Bs e ∧ ∃ q, w' = w.drewN q := by
  have H : Hid (BatAt w ao Bs) := h
  have HN : Hid (n = Bs.length) := hn
  clear h hn
  go_enter Try.func7, Try.ntmps7
  go_wp2_with fail
  go_loopw [1, 5] (fun x y wr => ∃ (k q : Nat) (r : Int), k ≤ n ∧ x = .int .i64 r ∧ y = .int .i64 (k : Int) ∧ Hid (r = left - (usedB (Bs.take k) : Int)) ∧ r ≤ 100000 ∧ -300000000000000 ≤ r ∧ wr = w.drewN q) (fun _ y _ => n - (intOf y).toNat)
  case atStart => exact ⟨0, 0, left, Nat.zero_le _, rfl, rfl, by simp [Hid, usedB], l1, l2, rfl⟩
  case round =>
    obtain ⟨k, q, r, hk, rfl, rfl, HRe, hr1, hr2, rfl⟩ := hrel
    by_cases hlt : k < n
    · by_cases hr0 : 0 ≤ r
      · have hlt' : k < Bs.length := by have := HN.out; omega
        obtain ⟨b, off, rfl, c0, c1, c2, c3⟩ := TxsAt.get H.out.at_ k hlt'
        have HU : Hid (usedB (Bs.take (k + 1)) = usedB (Bs.take k) + (1 + (bd Bs k).t.args.length + (bd Bs k).t.reads.length + (bd Bs k).t.writes.length)) := usedB_take Bs k hlt'
        have HOk := H.out.lst k hlt'
        have hb1 := HOk.bigA
        have hb2 := HOk.bigR
        have hb3 := HOk.bigW
        clear HOk
        generalize bd Bs k = x at *
        generalize x.t.args.length = na at *
        generalize x.t.reads.length = nr at *
        generalize x.t.writes.length = nw at *
        have d1 : (w.drewN q).cell? ⟨b, off + k * 4 + 1, none⟩ = some (.slice x.aA na x.cA) := c1
        have d2 : (w.drewN q).cell? ⟨b, off + k * 4 + 2, none⟩ = some (.slice x.aR nr x.cR) := c2
        have d3 : (w.drewN q).cell? ⟨b, off + k * 4 + 3, none⟩ = some (.slice x.aW nw x.cW) := c3
        have HW1 : Hid (∀ m, (w.drewN q).drewN m = w.drewN (q + m)) := fun m => World.drewN_drewN _ _ _
        generalize w.drewN q = w1 at *
        have hw1 : IntKind.i64.wrap (r - 1) = r - 1 := by rw [IntKind.wrap_i64]; omega
        have hw2 : IntKind.i64.wrap (r - 1 - (na : Int)) = r - 1 - (na : Int) := by rw [IntKind.wrap_i64]; omega
        have hw3 : IntKind.i64.wrap (r - 1 - (na : Int) - (nr : Int)) = r - 1 - (na : Int) - (nr : Int) := by rw [IntKind.wrap_i64]; omega
        have hw4 : IntKind.i64.wrap (r - 1 - (na : Int) - (nr : Int) - (nw : Int)) = r - 1 - (na : Int) - (nr : Int) - (nw : Int) := by rw [IntKind.wrap_i64]; omega
        have HR2 : Hid (r - 1 - (na : Int) - (nr : Int) - (nw : Int) = left - (usedB (Bs.take (k + 1)) : Int)) := by rw [HU.out, HRe.out]; show _ = _; omega
        clear HU c0 c1 c2 c3
        go_wp2_with fail
        go_quiet (fail)
        go_wp2_with fail
        go_roundw
        case rel => exact ⟨k + 1, q + nq, r - 1 - (na : Int) - (nr : Int) - (nw : Int), by omega, rfl, by go_num, HR2, by omega, by omega, HW1.out nq⟩
        case measure => simp [intOf]; omega
      · have hr0' : ¬ (r ≥ 0) := by omega
        have hrn : r < 0 := by omega
        have HPp : Hid (PartsB left n Bs (.returned (.int .i64 r))) := ⟨r, rfl, fun h => absurd h (by omega)⟩
        clear HRe
        go_wp2
        go_ret
        exact ⟨HPp.out, q, rfl⟩
    · obtain rfl : k = n := by omega
      have HPp : Hid (PartsB left k Bs (.returned (.int .i64 r))) := ⟨r, rfl, fun h => by
        have hu := HRe.out
        rw [HN.out, List.take_length] at hu
        obtain ⟨h1, h2⟩ := usedB_all (Bs := Bs)
        refine ⟨by omega, by rw [HN.out]; omega, fun x hx => ?_⟩
        have := h2 x hx
        omega⟩
      clear HRe
      go_wp2
      go_ret
      exact ⟨HPp.out, q, rfl⟩
end Go.Proofs.Ytciogmenoighoaa.Kk
