/-
  KeysExact: THE WALK OF THE LAW.
-/
import Derived.Test.YtnjgaibcpcpmcabSPlay
import Derived.Test.YtnjgaibcpcpmcabSAsk6
import Derived.Test.YtnjgaibcpcpmcabSAsks
namespace Go.Proofs.Ytnjgaibcpcpmcab
open Go.RowKit Go.Sort

theorem OpsAt.kept {w w1 : World} {so : Option Addr} {n : Nat} {ops : Nat → OpR} (h : OpsAt w so n ops) (hb : Below w.heap.size w w1) : OpsAt w1 so n ops := by
  refine ⟨?_, fun i hi => (h.A i hi).kept hb, fun i hi => (h.B i hi).kept hb, h.small, h.in64⟩
  rcases h.at_ with h0 | ⟨b, off, e, hc⟩
  · exact .inl h0
  · refine .inr ⟨b, off, e, fun i hi => ?_⟩
    obtain ⟨c0, c1, c2, c3, c4, c5⟩ := hc i hi
    have hl : b < w.heap.size := cell_lt c0
    exact ⟨(hb.cell (p := ⟨b, _, none⟩) hl).trans c0, (hb.cell (p := ⟨b, _, none⟩) hl).trans c1, (hb.cell (p := ⟨b, _, none⟩) hl).trans c2, (hb.cell (p := ⟨b, _, none⟩) hl).trans c3, (hb.cell (p := ⟨b, _, none⟩) hl).trans c4, (hb.cell (p := ⟨b, _, none⟩) hl).trans c5⟩
theorem sort_two : sortK [((2, 0) : K), (1, 0)] = [(1, 0), (2, 0)] := by decide
/-- a list of two keys, built -/
theorem keys_two (w : World) (x1 x2 y1 y2 : Int) : KeysAt (w.alloc (.cells #[.int .i64 x1, .int .i64 x2, .int .i64 y1, .int .i64 y2] 28)) (some ⟨w.heap.size, 0, none⟩) [(x1, x2), (y1, y2)] := by
  refine .inr ⟨w.heap.size, 0, rfl, fun j u hu => ?_⟩
  have hh := heap_alloc_new (w := w) (.cells #[.int .i64 x1, .int .i64 x2, .int .i64 y1, .int .i64 y2] 28) w.heap.size rfl
  simp only [World.cell?, hh, Nat.zero_add]
  simpa [cks] using hu

set_option maxHeartbeats 2000000 in
set_option maxRecDepth 100000 in
theorem exact_any (w : World) (so : Option Addr) (n cs : Nat) (ops : Nat → OpR) (h : OpsAt w so n ops) (hn : n ≤ 2097152) :
    Calls Try.prog 4 #[.slice so n cs] w fun e w' => e = .returned (.bool true) ∧ Below w.heap.size w w' := by
  have HO : Hid (OpsAt w so n ops) := h
  clear h
  go_enter Try.func4, Try.ntmps4
  go_wp2_with fail
  have HK : Hid (KeysAt (w.alloc (.cells #[.int .i64 2, .int .i64 0, .int .i64 1, .int .i64 0] 28)) (some ⟨w.heap.size, 0, none⟩) [(2, 0), (1, 0)]) := keys_two w 2 0 1 0
  have HB0 : Hid (Below w.heap.size w (w.alloc (.cells #[.int .i64 2, .int .i64 0, .int .i64 1, .int .i64 0] 28))) := below_alloc _ _
  generalize w.alloc (.cells #[.int .i64 2, .int .i64 0, .int .i64 1, .int .i64 0] 28) = W1 at *
  refine (sort_any W1 (some ⟨w.heap.size, 0, none⟩) 2 2 [(2, 0), (1, 0)] rfl HK.out (fun a e => by cases e; rfl) (by omega)).mono ?_
  rintro e W2 ⟨h3, hb3⟩
  have HB2 : Hid (Below w.heap.size w W2) := HB0.out.trans (hb3.mono HB0.out.size)
  clear hb3
  rcases h3 with ⟨_, v, rfl, ho⟩ | ⟨hf, _⟩
  case inr => exact absurd hf (by decide)
  rw [sort_two] at ho
  obtain ⟨a, c, hv, hg⟩ := own_shape ho
  obtain ⟨g, rfl⟩ := hg (by simp)
  subst hv
  clear ho
  go_wp2_with fail
  refine (num_any' _ _).mono ?_
  rintro e w' ⟨rfl, rfl⟩
  go_wp2_with fail
  refine (play_any 0 6 (fun k h1 h2 => by
    have : k = 0 ∨ k = 1 ∨ k = 2 ∨ k = 3 ∨ k = 4 ∨ k = 5 ∨ k = 6 := by omega
    rcases this with rfl | rfl | rfl | rfl | rfl | rfl | rfl
    · exact ask_of ask_0
    · exact ask_of ask_1
    · exact ask_of ask_2
    · exact ask_of ask_3
    · exact ask_of ask_4
    · exact ask_of ask_5
    · exact ask_6) W2 so n cs ops (HO.out.kept HB2.out) hn).mono ?_
  rintro e w3 ⟨rfl, hb3⟩
  have HB3 : Hid (Below w.heap.size w w3) := HB2.out.trans (hb3.mono HB2.out.size)
  clear hb3
  go_wp2
  go_ret
  exact ⟨rfl, HB3.out⟩

end Go.Proofs.Ytnjgaibcpcpmcab
