/-
  THE WALKS OF sameProgram, intact, sameInts.
-/
import Derived.Test.YtjmlogljfboleaaLRoomy
namespace Go.Proofs.Ytjmlogljfboleaa
open Go.RowKit Go.Sort

theorem run_neKey (x1 x2 y1 y2 : Int) (w : World) : Sem.run Try.prog (binOp .neq 72 (.agg #[.int .i64 x1, .int .i64 x2]) (.agg #[.int .i64 y1, .int .i64 y2])) w = .ok (.bool (!decide ((x1, x2) = (y1, y2)))) w := by
  have u3 := Try.underlying3
  have a3 := Try.isAgg3
  have z3 := Try.sizeOf3
  have u2 := Try.underlying2
  have a2 := Try.isAgg2
  have z2 := Try.sizeOf2
  have hS : Try.prog.underlying 72 = some (.struct (Try.prog.fieldsOf 72)) := by kernel_rfl
  have hp : Try.prog.stoodInHeld 72 = false := by kernel_rfl
  rw [run_neq_struct, show (10000 : Nat) = 9999 + 1 from rfl, run_equalIn_agg w 9999 72 _ _ hS hp]
  simp only [Program.fieldsOf, Try.underlying72]
  go_simp
  by_cases h1 : x1 = y1 <;> by_cases h2 : x2 = y2 <;> simp [h1, h2]
theorem run_neSame (x1 x2 : Int) (w : World) : Sem.run Try.prog (binOp .neq 72 (.agg #[.int .i64 x1, .int .i64 x2]) (.agg #[.int .i64 x1, .int .i64 x2])) w = .ok (.bool false) w := by
  have h := run_neKey x1 x2 x1 x2 w
  rw [h]; simp

set_option maxHeartbeats 1000000 in
theorem sameProgram_eq (w : World) (p : Nums) (a1 a2 : Option Addr) (n c1 c2 : Nat) (L : List K) (h1 : KeysAt w a1 L) (h2 : KeysAt w a2 L) (hn : n = L.length) (hm : n * 16 ≤ 140737488355328) :
    Calls Try.prog 25 #[pv p a1 n c1, pv p a2 n c2] w fun e w' => e = .returned (.bool true) ∧ ∃ q os, w' = grow (w.drewN q) os := by
  have H1 : Hid (KeysAt w a1 L) := h1
  have H2 : Hid (KeysAt w a2 L) := h2
  have HN : Hid (n = L.length) := hn
  clear h1 h2 hn
  obtain ⟨y1, y2, y3, y4⟩ := p
  go_enter Try.func25, Try.ntmps25
  go_wp2_with fail
  have HG : Hid (Grew w ((w.alloc (.cells #[.int .i64 y1, .int .i64 y2, .int .i64 y3, .int .i64 y4, .slice a1 n c1] 24)).alloc (.cells #[.int .i64 y1, .int .i64 y2, .int .i64 y3, .int .i64 y4, .slice a2 n c2] 24))) := ((Grew.refl _).alloc _).alloc _
  have HP1 : Hid (PBox ((w.alloc (.cells #[.int .i64 y1, .int .i64 y2, .int .i64 y3, .int .i64 y4, .slice a1 n c1] 24)).alloc (.cells #[.int .i64 y1, .int .i64 y2, .int .i64 y3, .int .i64 y4, .slice a2 n c2] 24)) w.heap.size ⟨y1, y2, y3, y4⟩ a1 n c1) := (PBox.new w ⟨y1, y2, y3, y4⟩ a1 n c1).kept ((Below.refl _ _).alloc (Nat.le_refl _) _)
  have HP2 : Hid (PBox ((w.alloc (.cells #[.int .i64 y1, .int .i64 y2, .int .i64 y3, .int .i64 y4, .slice a1 n c1] 24)).alloc (.cells #[.int .i64 y1, .int .i64 y2, .int .i64 y3, .int .i64 y4, .slice a2 n c2] 24)) (w.heap.size + 1) ⟨y1, y2, y3, y4⟩ a2 n c2) := by
    have := PBox.new (w.alloc (.cells #[.int .i64 y1, .int .i64 y2, .int .i64 y3, .int .i64 y4, .slice a1 n c1] 24)) ⟨y1, y2, y3, y4⟩ a2 n c2
    rw [World.size_alloc] at this
    exact this
  generalize (w.alloc (.cells #[.int .i64 y1, .int .i64 y2, .int .i64 y3, .int .i64 y4, .slice a1 n c1] 24)).alloc (.cells #[.int .i64 y1, .int .i64 y2, .int .i64 y3, .int .i64 y4, .slice a2 n c2] 24) = W0 at *
  go_loopw [5] (fun x wr => ∃ k : Nat, k ≤ n ∧ x = .int .i64 (k : Int) ∧ Hid (Grew w wr) ∧ Hid (PBox wr w.heap.size ⟨y1, y2, y3, y4⟩ a1 n c1) ∧ Hid (PBox wr (w.heap.size + 1) ⟨y1, y2, y3, y4⟩ a2 n c2)) (fun x _ => n - (intOf x).toNat)
  case atStart => exact ⟨0, by omega, rfl, HG, HP1, HP2⟩
  case round =>
    clear HG HP1 HP2
    obtain ⟨k, hk, rfl, HG, HP1, HP2⟩ := hrel
    have x4 := HP1.out.cells.2.2.2.2
    have z4 := HP2.out.cells.2.2.2.2
    by_cases hlt : k < n
    · obtain ⟨b1, o1, rfl, c11, c12⟩ := (H1.out.grew HG.out).get k (by have := HN.out; omega)
      obtain ⟨b2, o2, rfl, c21, c22⟩ := (H2.out.grew HG.out).get k (by have := HN.out; omega)
      generalize cd L k = kk at *
      obtain ⟨t, r⟩ := kk
      simp only at c11 c12 c21 c22
      have hq := run_neSame t r
      have hgd := fun op x y => run_eqGuard op x y t r t r
      go_wp2_with fail
      go_quiet (fail)
      go_wp2
      go_roundw
      case rel => exact ⟨k + 1, by omega, by go_num, HG.out.drewN nq, HP1, HP2⟩
      case measure => simp [intOf]; omega
    · obtain rfl : k = n := by omega
      go_wp2
      go_ret
      exact ⟨rfl, HG.out⟩

set_option maxHeartbeats 1000000 in
/-- what was copied is as it was -/
theorem intact_eq (w : World) (p : Nums) (ao : Option Addr) (G n cap : Nat) (L : List K) (h1 : RowK w G (L ++ marks)) (h2 : KeysAt w ao L) (hn : n = L.length) (hm : n * 16 ≤ 140737488351232) :
    Calls Try.prog 14 #[pv p (some ⟨G, 0, none⟩) n (n + 2), .slice (some ⟨G, 0, none⟩) (n + 2) (n + 2), pv p ao n cap] w fun e w' => e = .returned (.bool true) ∧ ∃ q os, w' = grow (w.drewN q) os := by
  have H1 : Hid (RowK w G (L ++ marks)) := h1
  have H2 : Hid (KeysAt w ao L) := h2
  have HN : Hid (n = L.length) := hn
  clear h1 h2 hn
  obtain ⟨y1, y2, y3, y4⟩ := p
  go_enter Try.func14, Try.ntmps14
  go_wp2_with fail
  have HG : Hid (Grew w ((w.alloc (.cells #[.int .i64 y1, .int .i64 y2, .int .i64 y3, .int .i64 y4, .slice (some ⟨G, 0, none⟩) n (n + 2)] 24)).alloc (.cells #[.int .i64 y1, .int .i64 y2, .int .i64 y3, .int .i64 y4, .slice ao n cap] 24))) := ((Grew.refl _).alloc _).alloc _
  generalize (w.alloc (.cells #[.int .i64 y1, .int .i64 y2, .int .i64 y3, .int .i64 y4, .slice (some ⟨G, 0, none⟩) n (n + 2)] 24)).alloc (.cells #[.int .i64 y1, .int .i64 y2, .int .i64 y3, .int .i64 y4, .slice ao n cap] 24) = W0 at *
  have H10 : Hid (RowK W0 G (L ++ marks)) := H1.out.kept HG.out.below
  refine (sameProgram_eq W0 ⟨y1, y2, y3, y4⟩ (some ⟨G, 0, none⟩) ao n (n + 2) cap L H10.out.keys (H2.out.grew HG.out) HN.out (by omega)).mono ?_
  rintro e w2 ⟨rfl, g2⟩
  have HG2 : Hid (Grew w w2) := HG.out.trans g2
  have H12 : Hid (RowK w2 G (L ++ marks)) := H10.out.kept (Grew.below g2)
  obtain ⟨b, off, e, c1, _⟩ := (RowK.keys0 H12.out).get n (by have := HN.out; simp [marks]; omega)
  cases e
  obtain ⟨b, off, e, c2, _⟩ := (RowK.keys0 H12.out).get (n + 1) (by have := HN.out; simp [marks]; omega)
  cases e
  have e1 : cd (L ++ marks) n = (-31, 0) := by rw [HN.out]; simp [cd, marks]
  have e2 : cd (L ++ marks) (n + 1) = (-32, 0) := by rw [HN.out]; simp [cd, marks]
  rw [e1, Nat.zero_add] at c1
  rw [e2, Nat.zero_add] at c2
  simp only at c1 c2
  clear e1 e2 g2
  go_wp2
  go_ret
  exact ⟨rfl, HG2.out⟩

set_option maxHeartbeats 1000000 in
theorem sameInts_eq (w : World) (a1 a2 : Option Addr) (n c1 c2 : Nat) (L : List Int) (h1 : L = [] ∨ ∃ g, a1 = some ⟨g, 0, none⟩ ∧ IRead w g L) (h2 : L = [] ∨ ∃ g, a2 = some ⟨g, 0, none⟩ ∧ IRead w g L) (hn : n = L.length) (hm : n ≤ 1000000) :
    Calls Try.prog 13 #[.slice a1 n c1, .slice a2 n c2] w fun e w' => e = .returned (.bool true) ∧ ∃ q os, w' = grow (w.drewN q) os := by
  have H1 : Hid (L = [] ∨ ∃ g, a1 = some ⟨g, 0, none⟩ ∧ IRead w g L) := h1
  have H2 : Hid (L = [] ∨ ∃ g, a2 = some ⟨g, 0, none⟩ ∧ IRead w g L) := h2
  have HN : Hid (n = L.length) := hn
  clear h1 h2 hn
  go_enter Try.func13, Try.ntmps13
  go_wp2_with fail
  go_loopw [5] (fun x wr => ∃ k : Nat, k ≤ n ∧ x = .int .i64 (k : Int) ∧ Hid (Grew w wr)) (fun x _ => n - (intOf x).toNat)
  case atStart => exact ⟨0, by omega, rfl, Grew.refl _⟩
  case round =>
    obtain ⟨k, hk, rfl, HG⟩ := hrel
    by_cases hlt : k < n
    · have hne : L ≠ [] := by intro e; have := HN.out; rw [e] at this; simp at this; omega
      obtain ⟨g1, rfl, r1⟩ := H1.out.resolve_left hne
      obtain ⟨g2, rfl, r2⟩ := H2.out.resolve_left hne
      have d1 := (r1.kept HG.out.below) k (by have := HN.out; omega)
      have d2 := (r2.kept HG.out.below) k (by have := HN.out; omega)
      generalize L.getD k 0 = y at *
      clear r1 r2 hne
      go_wp2_with fail
      go_quiet (fail)
      go_wp2
      go_roundw
      case rel => exact ⟨k + 1, by omega, by go_num, HG.out.drewN nq⟩
      case measure => simp [intOf]; omega
    · obtain rfl : k = n := by omega
      go_wp2
      go_ret
      exact ⟨rfl, HG.out⟩

end Go.Proofs.Ytjmlogljfboleaa
