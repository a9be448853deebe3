/-
  KeysSplits: THE WALK OF THE LAW.
-/
import Derived.Test.YtnjgaibcpcpmcabSPlay
import Derived.Test.YtnjgaibcpcpmcabSAsk6
namespace Go.Proofs.Ytnjgaibcpcpmcab
open Go.RowKit Go.Sort

theorem OpsAt.kept {w w1 : World} {so : Option Addr} {n : Nat} {ops : Nat → OpR} (h : OpsAt w so n ops) (hb : Below w.heap.size w w1) : OpsAt w1 so n ops := by
  refine ⟨?_, fun i hi => (h.A i hi).kept hb, fun i hi => (h.B i hi).kept hb, h.small, h.in64⟩
  rcases h.at_ with h0 | ⟨b, off, e, hc⟩
  · exact .inl h0
  · refine .inr ⟨b, off, e, fun i hi => ?_⟩
    obtain ⟨c0, c1, c2, c3, c4, c5⟩ := hc i hi
    have hl : b < w.heap.size := cell_lt c0
    exact ⟨(hb.cell (p := ⟨b, _, none⟩) hl).trans c0, (hb.cell (p := ⟨b, _, none⟩) hl).trans c1, (hb.cell (p := ⟨b, _, none⟩) hl).trans c2, (hb.cell (p := ⟨b, _, none⟩) hl).trans c3, (hb.cell (p := ⟨b, _, none⟩) hl).trans c4, (hb.cell (p := ⟨b, _, none⟩) hl).trans c5⟩
theorem part_one : partL [((2, 0) : K)] 1 0 = [(2, 0)] := by simp [partL, pn, Nat.mod_one]
theorem all_two : ([((2, 0) : K)]).all isKey = true := by decide

set_option maxHeartbeats 2000000 in
set_option maxRecDepth 100000 in
theorem splits_any (w : World) (so : Option Addr) (n cs : Nat) (ops : Nat → OpR) (h : OpsAt w so n ops) (hn : n ≤ 2097152) :
    Calls Try.prog 3 #[.slice so n cs] w fun e w' => e = .returned (.bool true) ∧ Below w.heap.size w w' := by
  have HO : Hid (OpsAt w so n ops) := h
  clear h
  go_enter Try.func3, Try.ntmps3
  go_wp2_with fail
  have HK : Hid (KeysAt (w.alloc (.cells #[.int .i64 2, .int .i64 0] 28)) (some ⟨w.heap.size, 0, none⟩) [(2, 0)]) := key_src w _ 2 0 rfl
  have HB0 : Hid (Below w.heap.size w (w.alloc (.cells #[.int .i64 2, .int .i64 0] 28))) := below_alloc _ _
  generalize w.alloc (.cells #[.int .i64 2, .int .i64 0] 28) = W1 at *
  have HSp : Hid _ := split_any W1 (some ⟨w.heap.size, 0, none⟩) 1 1 1 [(2, 0)] rfl HK.out (fun k hk => by simp at hk; subst hk; exact ⟨by decide, by decide⟩) (by omega) (by omega) (by omega)
  refine Calls.mono HSp.out ?_
  rintro e W2 ⟨h3, hb3⟩
  have HB2 : Hid (Below w.heap.size w W2) := HB0.out.trans (hb3.mono HB0.out.size)
  clear hb3 HSp
  rcases h3 with ⟨_, vs, rfl, hP⟩ | ⟨hf, _⟩
  case inr => rw [all_two] at hf; cases hf
  have c0 := hP.cell 0 (by omega)
  have ho := hP.own 0 (by omega)
  rw [part_one] at ho
  obtain ⟨a, c, hv, -⟩ := own_shape ho
  rw [hv] at c0
  clear ho hv hP
  generalize W1.heap.size = G at *
  go_wp2_with fail
  refine (num_any' _ _).mono ?_
  rintro e w' ⟨rfl, rfl⟩
  go_wp2_with fail
  refine (play_any 6 6 (fun k h1 h2 => by
    have : k = 6 := by omega
    subst this
    exact ask_6) W2 so n cs ops (HO.out.kept HB2.out) hn).mono ?_
  rintro e w3 ⟨rfl, hb3⟩
  have HB3 : Hid (Below w.heap.size w w3) := HB2.out.trans (hb3.mono HB2.out.size)
  clear hb3
  go_wp2
  go_ret
  exact ⟨rfl, HB3.out⟩

end Go.Proofs.Ytnjgaibcpcpmcab
