/-
  THE WALK OF play.
-/
import Derived.Test.YtnjgaibcpcpmcabSKept
namespace Go.Proofs.Ytnjgaibcpcpmcab
open Go.RowKit Go.Sort

/-- one call of a script -/
structure OpR where
  kind : Int
  aA : Option Addr
  nA : Nat
  cA : Nat
  aB : Option Addr
  nB : Nat
  cB : Nat
  t : Int
  r : Int
  parts : Int
  A : List K
  B : List K
/-- a script, as it lies -/
structure OpsAt (w : World) (so : Option Addr) (n : Nat) (ops : Nat → OpR) : Prop where
  at_ : n = 0 ∨ ∃ b off, so = some ⟨b, off, none⟩ ∧ ∀ i, i < n → w.cell? ⟨b, off + i * 6, none⟩ = some (.int .i64 (ops i).kind) ∧ w.cell? ⟨b, off + i * 6 + 1, none⟩ = some (.slice (ops i).aA (ops i).nA (ops i).cA) ∧ w.cell? ⟨b, off + i * 6 + 2, none⟩ = some (.slice (ops i).aB (ops i).nB (ops i).cB) ∧
    w.cell? ⟨b, off + i * 6 + 3, none⟩ = some (.int .i64 (ops i).t) ∧ w.cell? ⟨b, off + i * 6 + 4, none⟩ = some (.int .i64 (ops i).r) ∧ w.cell? ⟨b, off + i * 6 + 5, none⟩ = some (.int .i64 (ops i).parts)
  A : ∀ i, i < n → Lst w (ops i).aA (ops i).nA (ops i).cA (ops i).A
  B : ∀ i, i < n → Lst w (ops i).aB (ops i).nB (ops i).cB (ops i).B
  small : ∀ i, i < n → (ops i).nA + (ops i).nB ≤ 2097152
  in64 : ∀ i, i < n → ∀ k ∈ (ops i).A, In64 k.2
theorem ShO.mono {w : World} {base SB i j : Nat} (h : ShO w base SB i) (hij : i ≤ j) : ShO w base SB j := by
  obtain ⟨O, X, lv, wv, xs, ys, Ms, Q, us, zs, es, fs, Cs, h1, h2, h3, h4, h5, h6, h7, h8⟩ := h
  exact ⟨O, X, lv, wv, xs, ys, Ms, Q, us, zs, es, fs, Cs, h1, h2, h3, h4, h5, by omega, by omega, h8⟩
set_option maxHeartbeats 8000000 in
set_option maxRecDepth 100000 in
theorem play_any (lo hi : Int) (hask : ∀ k, lo ≤ k → k ≤ hi → AskO k) (w : World) (so : Option Addr) (n cs : Nat) (ops : Nat → OpR) (h : OpsAt w so n ops) (hn : n ≤ 2097152) :
    Calls Try.prog 8 #[.slice so n cs, .int .i64 lo, .int .i64 hi] w fun e w' => e = .returned (.bool true) ∧ Below w.heap.size w w' := by
  have HO : Hid (OpsAt w so n ops) := h
  have HK : Hid (∀ k, lo ≤ k → k ≤ hi → AskO k) := hask
  clear h hask
  go_enter Try.func8, Try.ntmps8
  go_wp2_with fail
  have HS0 : Hid (ShO (w.alloc (.cells #[.slice none 0 0, .slice none 0 0, .slice none 0 0, .slice none 0 0] 47)) w.heap.size w.heap.size 0) := ShO.start w
  have HB0 : Hid (Below w.heap.size w (w.alloc (.cells #[.slice none 0 0, .slice none 0 0, .slice none 0 0, .slice none 0 0] 47))) := below_alloc _ _
  generalize w.alloc (.cells #[.slice none 0 0, .slice none 0 0, .slice none 0 0, .slice none 0 0] 47) = W0 at *
  go_loopw [8] (fun x wr => ∃ i : Nat, i ≤ n ∧ x = .int .i64 (i : Int) ∧ Hid (ShO wr w.heap.size w.heap.size i) ∧ Hid (Below w.heap.size w wr)) (fun x _ => n - (intOf x).toNat)
  case atStart => exact ⟨0, Nat.zero_le _, rfl, HS0, HB0⟩
  case round =>
    clear HS0 HB0
    obtain ⟨i, hi', rfl, HS, HB⟩ := hrel
    by_cases hlt : i < n
    · rcases HO.out.at_ with hz | ⟨b, off, e, hc⟩
      · omega
      subst e
      obtain ⟨c0, c1, c2, c3, c4, c5⟩ := hc i hlt
      have hsm := HO.out.small i hlt
      have HLA : Hid (Lst w (ops i).aA (ops i).nA (ops i).cA (ops i).A ∧ Lst w (ops i).aB (ops i).nB (ops i).cB (ops i).B) := ⟨HO.out.A i hlt, HO.out.B i hlt⟩
      have HI64 : Hid (∀ k ∈ (ops i).A, In64 k.2) := HO.out.in64 i hlt
      have hbl : b < w.heap.size := cell_lt c0
      replace c0 := (HB.out.cell (p := ⟨b, off + i * 6, none⟩) hbl).trans c0
      replace c1 := (HB.out.cell (p := ⟨b, off + i * 6 + 1, none⟩) hbl).trans c1
      replace c2 := (HB.out.cell (p := ⟨b, off + i * 6 + 2, none⟩) hbl).trans c2
      replace c3 := (HB.out.cell (p := ⟨b, off + i * 6 + 3, none⟩) hbl).trans c3
      replace c4 := (HB.out.cell (p := ⟨b, off + i * 6 + 4, none⟩) hbl).trans c4
      replace c5 := (HB.out.cell (p := ⟨b, off + i * 6 + 5, none⟩) hbl).trans c5
      generalize ops i = op at *
      obtain ⟨kind, aA, nA, cA, aB, nB, cB, t, r, parts, A, B⟩ := op
      simp only at c0 c1 c2 c3 c4 c5 hsm HLA HI64
      clear hc hbl
      have HS2 : Hid (ShO wr w.heap.size w.heap.size (i + 1)) := HS.out.mono (by omega)
      have HAb : Hid ((∀ a, A ≠ [] → aA = some a → a.block < w.heap.size) ∧ (∀ a, B ≠ [] → aB = some a → a.block < w.heap.size)) := ⟨HLA.out.1.at_.lt, HLA.out.2.at_.lt⟩
      by_cases hlo : kind < lo
      · have d0 : decide (kind < lo) = true := decide_eq_true hlo
        clear hlo
        go_wp2_with fail
        go_roundw
        case rel => exact ⟨i + 1, by omega, by go_num, HS2, HB⟩
        case measure => simp [intOf]; omega
      · have d0 : decide (kind < lo) = false := decide_eq_false hlo
        by_cases hhi : hi < kind
        · have d1 : decide (hi < kind) = true := decide_eq_true hhi
          clear hlo hhi
          go_wp2_with fail
          go_roundw
          case rel => exact ⟨i + 1, by omega, by go_num, HS2, HB⟩
          case measure => simp [intOf]; omega
        · have d1 : decide (hi < kind) = false := decide_eq_false hhi
          have HAsk : Hid (AskO kind) := HK.out kind (by omega) (by omega)
          clear hlo hhi HS2
          go_wp2_with fail
          refine (HAsk.out wr w.heap.size w.heap.size i t r parts aA aB nA cA nB cB A B HS.out (HLA.out.1.kept HB.out) (HLA.out.2.kept HB.out) HI64.out HAb.out.1 HAb.out.2 hsm (by omega) HB.out.size).mono ?_
          rintro e w2 ⟨rfl, hq2, hb2⟩
          have HB2 : Hid (Below w.heap.size w w2) := HB.out.trans hb2
          have HS2 : Hid (ShO w2 w.heap.size w.heap.size (i + 1)) := hq2
          clear hq2 hb2 HS c0 c1 c2 c3 c4 c5
          go_wp2_with fail
          go_roundw
          case rel => exact ⟨i + 1, by omega, by go_num, HS2, HB2⟩
          case measure => simp [intOf]; omega
    · obtain rfl : i = n := by omega
      obtain ⟨O, h1⟩ := HS.out
      have HQ : Hid (ShP wr w.heap.size w.heap.size O (257 * i) i) := h1
      clear h1 HS
      go_wp2_with fail
      refine (keptO_any wr w.heap.size w.heap.size (257 * i) i O HQ.out (by omega) (by omega)).mono ?_
      rintro e w2 ⟨rfl, hb2⟩
      have HB2 : Hid (Below w.heap.size w w2) := HB.out.trans hb2
      clear hb2
      go_wp2
      go_ret
      exact ⟨rfl, HB2.out⟩

end Go.Proofs.Ytnjgaibcpcpmcab
