/-
  KeysAlgebra: THE WALK OF THE LAW.
-/
import Derived.Test.YtnjgaibcpcpmcaaLawSets
import Derived.Test.YtnjgaibcpcpmcaaKUnion
import Derived.Test.YtnjgaibcpcpmcaaKAsk3
import Derived.Test.YtnjgaibcpcpmcaaKAsk4
import Derived.Test.YtnjgaibcpcpmcaaKAsk5
namespace Go.Proofs.Ytnjgaibcpcpmcaa
open Go.RowKit Go.Sort

theorem rise_21 : Rise [((2, 0) : K)] ∧ Rise [((1, 0) : K)] := by
  refine ⟨⟨?_, ?_⟩, ⟨?_, ?_⟩⟩
  · intro k hk; simp at hk; subst hk; decide
  · simp
  · intro k hk; simp at hk; subst hk; decide
  · simp
theorem sort_21 : sortK ([((2, 0) : K)] ++ [(1, 0)]) = [(1, 0), (2, 0)] := by decide

set_option maxHeartbeats 2000000 in
set_option maxRecDepth 100000 in
theorem algebra_any (w : World) (so : Option Addr) (n cs : Nat) (ops : Nat → OpR) (h : OpsAt w so n ops) (hn : n ≤ 2097152) :
    Calls Try.prog 7 #[.slice so n cs] w fun e w' => e = .returned (.bool true) ∧ Below w.heap.size w w' := by
  have HO : Hid (OpsAt w so n ops) := h
  clear h
  go_enter Try.func7, Try.ntmps7
  go_wp2_with fail
  have HA0 : Hid (KeysAt (w.alloc (.cells #[.int .i64 2, .int .i64 0] 23)) (some ⟨w.heap.size, 0, none⟩) [(2, 0)]) := key_src w _ 2 0 rfl
  have HB0 : Hid (Below w.heap.size w (w.alloc (.cells #[.int .i64 2, .int .i64 0] 23))) := below_alloc _ _
  have HS0 : (w.alloc (.cells #[.int .i64 2, .int .i64 0] 23)).heap.size = w.heap.size + 1 := by rw [World.size_alloc]
  generalize w.alloc (.cells #[.int .i64 2, .int .i64 0] 23) = W0 at *
  have HK1 : Hid (KeysAt (W0.alloc (.cells #[.int .i64 1, .int .i64 0] 23)) (some ⟨w.heap.size + 1, 0, none⟩) [(1, 0)]) := key_src W0 _ 1 0 HS0.symm
  have hb1 : Below W0.heap.size W0 (W0.alloc (.cells #[.int .i64 1, .int .i64 0] 23)) := below_alloc _ _
  have HK0 : Hid (KeysAt (W0.alloc (.cells #[.int .i64 1, .int .i64 0] 23)) (some ⟨w.heap.size, 0, none⟩) [(2, 0)]) := HA0.out.kept hb1
  have HB1 : Hid (Below w.heap.size w (W0.alloc (.cells #[.int .i64 1, .int .i64 0] 23))) := HB0.out.trans (hb1.mono HB0.out.size)
  clear hb1 HA0 HB0
  generalize W0.alloc (.cells #[.int .i64 1, .int .i64 0] 23) = W1 at *
  refine (union_any W1 (some ⟨w.heap.size, 0, none⟩) (some ⟨w.heap.size + 1, 0, none⟩) 1 1 1 1 [(2, 0)] [(1, 0)] rfl rfl HK0.out HK1.out (by omega) (by omega) (by omega)).mono ?_
  rintro e W2 ⟨h3, hb3⟩
  have HB2 : Hid (Below w.heap.size w W2) := HB1.out.trans (hb3.mono HB1.out.size)
  clear hb3
  rcases h3 with ⟨_, _, v, rfl, ho⟩ | ⟨hf, _⟩
  case inr => exact absurd rise_21 hf
  rw [sort_21] at ho
  obtain ⟨a, c, hv, hg⟩ := own_shape ho
  obtain ⟨g, rfl⟩ := hg (by simp)
  subst hv
  obtain ⟨c1, _⟩ := ho.at 0 (by decide)
  have c1' : W2.cell? ⟨g, 0, none⟩ = some (.int .i64 1) := c1
  clear c1 ho
  go_wp2_with fail
  refine (num_any' _ _).mono ?_
  rintro e w' ⟨rfl, rfl⟩
  go_wp2_with fail
  refine (play_any 3 5 (fun k h1 h2 => by
    have : k = 3 ∨ k = 4 ∨ k = 5 := by omega
    rcases this with rfl | rfl | rfl
    · exact ask_3
    · exact ask_4
    · exact ask_5) W2 so n cs ops (HO.out.kept HB2.out) hn).mono ?_
  rintro e w3 ⟨rfl, hb3⟩
  have HB3 : Hid (Below w.heap.size w w3) := HB2.out.trans (hb3.mono HB2.out.size)
  clear hb3
  go_wp2
  go_ret
  exact ⟨rfl, HB3.out⟩

end Go.Proofs.Ytnjgaibcpcpmcaa
