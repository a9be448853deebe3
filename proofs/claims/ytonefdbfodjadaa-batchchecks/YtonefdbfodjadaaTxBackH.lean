/-
  THE WALKS OF layer 6's tail, wipe.
-/
import Derived.Test.YtonefdbfodjadaaTxLentB
namespace Go.Proofs.Ytonefdbfodjadaa.Kk
open Go.RowKit Go.Sort

theorem kd_pad (L : List K) (j : Nat) (hj : j < 3) : kd (L ++ padK3 3) (L.length + j) = (-31, 0) := by
  rw [kd_right _ _ _ (by rw [padK3_len]; exact hj)]
  revert hj; revert j; decide
theorem ad_pad (L : List Int) (j : Nat) (hj : j < 3) : ad (L ++ pad3 3) (L.length + j) = -31 := by
  have : ad (L ++ pad3 3) (L.length + j) = ad (pad3 3) j := by simp [ad, List.getD_eq_getElem?_getD, List.getElem?_append_right]
  rw [this]
  clear this
  revert hj; revert j; decide

set_option maxRecDepth 100000 in
set_option maxHeartbeats 1000000 in
theorem tail_any (w : World) (lo hi : Nat) (ao a : Option Addr) (n c : Nat) (L : List K) (h : LnK w lo hi ao a c L) (hn : n = L.length) (hm : n ≤ 1000000) :
    Calls Try.prog 36 #[.slice a n c] w fun e w' => e = .returned (.bool true) ∧ Grew w w' := by
  have HN : Hid (n = L.length) := hn
  clear hn
  rcases h with ⟨_, rfl, rfl, _⟩ | ⟨_, G, rfl, hc, _, _, hr⟩
  · have hnil := eqNilK none n 0
    go_enter Try.func36, Try.ntmps36
    go_wp2
    go_ret
    exact ⟨rfl, Grew.refl _⟩
  · have HR : Hid (RK w G (L ++ padK3 3)) := hr
    obtain rfl : c = n + 3 := by rw [hc, HN.out]
    clear hr hc
    have hnil := eqNilK (some ⟨G, 0, none⟩) n (n + 3)
    simp only [Option.isNone_some] at hnil
    go_enter Try.func36, Try.ntmps36
    go_wp2_with fail
    go_loopw [4] (fun x wr => ∃ k : Nat, n ≤ k ∧ k ≤ n + 3 ∧ x = .int .i64 (k : Int) ∧ Hid (Grew w wr)) (fun x _ => n + 3 - (intOf x).toNat)
    case atStart => exact ⟨n, Nat.le_refl _, by omega, rfl, Grew.refl _⟩
    case round =>
      obtain ⟨k, hk1, hk2, rfl, HG⟩ := hrel
      by_cases hlt : k < n + 3
      · have hlti : (k : Int) < (n : Int) + 3 := by omega
        have HR1 : Hid (RK wr G (L ++ padK3 3)) := HR.out.same (HG.out.heap HR.out.lt)
        obtain ⟨m0, m1⟩ := HR1.out.cell k (by rw [List.length_append, padK3_len, ← HN.out]; omega)
        have e : kd (L ++ padK3 3) k = (-31, 0) := by
          have := kd_pad L (k - n) (by omega)
          rw [← HN.out, show n + (k - n) = k by omega] at this; exact this
        rw [e] at m0 m1
        simp only at m0 m1
        have hq := run_neKey (-31) 0 (-31) 0
        have hgd := fun op x y => run_eqGuard op x y (-31) 0 (-31) 0
        simp only [decide_true, Bool.not_true] at hq
        go_wp2
        go_roundw
        case rel => exact ⟨k + 1, by omega, by omega, by go_num, HG⟩
        case measure => simp [intOf]; omega
      · obtain rfl : k = n + 3 := by omega
        go_wp2
        go_ret
        exact ⟨rfl, HG.out⟩

/-- rows that may be written over -/
def WI (W : World) (lo hi : Nat) (a : Option Addr) (n : Nat) : Prop := n = 0 ∨ ∃ G M, a = some ⟨G, 0, none⟩ ∧ lo ≤ G ∧ G < hi ∧ R64 W G M ∧ n ≤ M.length
def WK (W : World) (lo hi : Nat) (a : Option Addr) (n : Nat) : Prop := n = 0 ∨ ∃ G M, a = some ⟨G, 0, none⟩ ∧ lo ≤ G ∧ G < hi ∧ RK W G M ∧ n ≤ M.length
theorem LnI.wi {W : World} {lo hi : Nat} {ao a : Option Addr} {c : Nat} {A : List Int} (h : LnI W lo hi ao a c A) : WI W lo hi a A.length := by
  rcases h with ⟨_, _, _, rfl⟩ | ⟨_, G, e, _, h1, h2, h3⟩
  · exact .inl rfl
  · exact .inr ⟨G, _, e, h1, h2, h3, by simp⟩
theorem LnK.wk {W : World} {lo hi : Nat} {ao a : Option Addr} {c : Nat} {A : List K} (h : LnK W lo hi ao a c A) : WK W lo hi a A.length := by
  rcases h with ⟨_, _, _, rfl⟩ | ⟨_, G, e, _, h1, h2, h3⟩
  · exact .inl rfl
  · exact .inr ⟨G, _, e, h1, h2, h3, by simp⟩
theorem WK.same {W W' : World} {lo hi : Nat} {a : Option Addr} {n : Nat} (h : WK W lo hi a n) (hs : ∀ G, lo ≤ G → G < hi → G < W.heap.size → W'.heap[G]? = W.heap[G]?) : WK W' lo hi a n := by
  rcases h with h | ⟨G, M, e, h1, h2, h3, h4⟩
  · exact .inl h
  · exact .inr ⟨G, M, e, h1, h2, h3.same (hs G h1 h2 h3.lt), h4⟩
theorem WI.same {W W' : World} {lo hi : Nat} {a : Option Addr} {n : Nat} (h : WI W lo hi a n) (hs : ∀ G, lo ≤ G → G < hi → G < W.heap.size → W'.heap[G]? = W.heap[G]?) : WI W' lo hi a n := by
  rcases h with h | ⟨G, M, e, h1, h2, h3, h4⟩
  · exact .inl h
  · exact .inr ⟨G, M, e, h1, h2, h3.same (hs G h1 h2 h3.lt), h4⟩
theorem Mid.cell {g h : Nat} {W W' : World} (m : Mid g h W W') {b i : Nat} {v : Value} (hc : W.cell? ⟨b, i, none⟩ = some v) (hb : b < g ∨ h ≤ b) : W'.cell? ⟨b, i, none⟩ = some v := by
  have := cell_lt hc
  simp only [World.cell?] at hc ⊢
  rw [m.block b this hb]; exact hc

set_option maxRecDepth 100000 in
set_option maxHeartbeats 2000000 in
theorem wipe_any (w : World) (lo m1 m2 hi : Nat) (y : Bx) (h1 : lo ≤ m1) (h2 : m1 ≤ m2) (h3 : m2 ≤ hi) (h4 : hi ≤ w.heap.size) (hA : WI w lo m1 y.aA y.t.args.length) (hR : WK w m1 m2 y.aR y.t.reads.length) (hW : WK w m2 hi y.aW y.t.writes.length) (lA : y.t.args.length ≤ 1000000) (lR : y.t.reads.length ≤ 1000000) (lW : y.t.writes.length ≤ 1000000) :
    Calls Try.prog 37 #[bxv y] w fun e w' => e = .returned (.tuple #[]) ∧ Mid lo hi w w' := by
  obtain ⟨⟨proc, args, reads, writes⟩, aA, cA, aR, cR, aW, cW⟩ := y
  simp only [bxv] at *
  generalize args.length = na at *
  generalize reads.length = nr at *
  generalize writes.length = nw at *
  have HO : Hid (lo ≤ m1 ∧ m1 ≤ m2 ∧ m2 ≤ hi ∧ hi ≤ w.heap.size) := ⟨h1, h2, h3, h4⟩
  have HG0 : Hid (Grew w (w.alloc (.cells #[.int .i64 proc, .slice aA na cA, .slice aR nr cR, .slice aW nw cW] 65))) := (Grew.refl _).alloc _
  have HA0 : Hid (WI (w.alloc (.cells #[.int .i64 proc, .slice aA na cA, .slice aR nr cR, .slice aW nw cW] 65)) lo m1 aA na) := hA.same (fun G _ _ hG => HG0.out.heap hG)
  have HR0 : Hid (WK (w.alloc (.cells #[.int .i64 proc, .slice aA na cA, .slice aR nr cR, .slice aW nw cW] 65)) m1 m2 aR nr) := hR.same (fun G _ _ hG => HG0.out.heap hG)
  have HW0 : Hid (WK (w.alloc (.cells #[.int .i64 proc, .slice aA na cA, .slice aR nr cR, .slice aW nw cW] 65)) m2 hi aW nw) := hW.same (fun G _ _ hG => HG0.out.heap hG)
  have HC : Hid ((w.alloc (.cells #[.int .i64 proc, .slice aA na cA, .slice aR nr cR, .slice aW nw cW] 65)).cell? ⟨w.heap.size, 1, none⟩ = some (.slice aA na cA) ∧ (w.alloc (.cells #[.int .i64 proc, .slice aA na cA, .slice aR nr cR, .slice aW nw cW] 65)).cell? ⟨w.heap.size, 2, none⟩ = some (.slice aR nr cR) ∧ (w.alloc (.cells #[.int .i64 proc, .slice aA na cA, .slice aR nr cR, .slice aW nw cW] 65)).cell? ⟨w.heap.size, 3, none⟩ = some (.slice aW nw cW)) := ⟨cell_new _ _ _ 1 _ rfl, cell_new _ _ _ 2 _ rfl, cell_new _ _ _ 3 _ rfl⟩
  clear hA hR hW h1 h2 h3 h4
  go_enter Try.func37, Try.ntmps37
  go_upto_region 1 with fail
  generalize w.alloc (.cells #[.int .i64 proc, .slice aA na cA, .slice aR nr cR, .slice aW nw cW] 65) = W0 at *
  have HB : Hid (∀ W, Mid lo hi W0 W → W.cell? ⟨w.heap.size, 1, none⟩ = some (.slice aA na cA) ∧ W.cell? ⟨w.heap.size, 2, none⟩ = some (.slice aR nr cR) ∧ W.cell? ⟨w.heap.size, 3, none⟩ = some (.slice aW nw cW)) := fun W hm => ⟨hm.cell HC.out.1 (.inr HO.out.2.2.2), hm.cell HC.out.2.1 (.inr HO.out.2.2.2), hm.cell HC.out.2.2 (.inr HO.out.2.2.2)⟩
  clear HC
  go_wp2_with fail
  go_loopw [2] (fun x wr => ∃ k : Nat, k ≤ na ∧ x = .int .i64 (k : Int) ∧ Hid (Mid lo m1 W0 wr) ∧ Hid (WI wr lo m1 aA na)) (fun x _ => na - (intOf x).toNat)
  case atStart => exact ⟨0, Nat.zero_le _, rfl, Mid.refl _ _ _, HA0⟩
  case round =>
    clear HA0
    obtain ⟨k, hk, rfl, HM, HA⟩ := hrel
    obtain ⟨b1, b2, b3⟩ := HB.out wr (HM.out.wide (Nat.le_refl _) (by have := HO.out; omega))
    by_cases hlt : k < na
    · rcases HA.out with h0 | ⟨G, M, rfl, g1, g2, hr, hl⟩
      · omega
      have HRw : Hid (R64 wr G M ∧ lo ≤ G ∧ G < m1 ∧ na ≤ M.length) := ⟨hr, g1, g2, hl⟩
      have e1 := hr.cell k (by omega)
      have f1 := hr.frozen k
      have HM2 : Hid (Mid lo m1 W0 (wr.setCell ⟨G, k, none⟩ (.int .i64 (-33)))) := HM.out.set G k _ g1 g2
      have HA2 : Hid (WI (wr.setCell ⟨G, k, none⟩ (.int .i64 (-33))) lo m1 (some ⟨G, 0, none⟩) na) := .inr ⟨G, _, rfl, g1, g2, hr.set k (-33), by rw [List.length_set]; exact hl⟩
      clear HA hr g1 g2 hl HM
      go_wp2_with fail
      exact ⟨⟨k + 1, by omega, by go_num, HM2, HA2⟩, by simp [intOf]; omega⟩
    · obtain rfl : k = na := by omega
      have HM1 : Hid (Mid lo m2 W0 wr) := HM.out.wide (Nat.le_refl _) HO.out.2.1
      have HR1 : Hid (WK wr m1 m2 aR nr) := HR0.out.same (fun G g1 _ hG => HM.out.block G hG (.inr g1))
      clear HM HA hk hlt HR0
      go_wp2_with fail
      clear b1 b2 b3
      generalize wr = wy at *
      go_loopw [3] (fun x wr => ∃ k : Nat, k ≤ nr ∧ x = .int .i64 (k : Int) ∧ Hid (Mid lo m2 W0 wr) ∧ Hid (WK wr m1 m2 aR nr)) (fun x _ => nr - (intOf x).toNat)
      case atStart => exact ⟨0, Nat.zero_le _, rfl, HM1, HR1⟩
      case round =>
        clear HM1 HR1
        obtain ⟨k, hk, rfl, HM, HA⟩ := hrel
        obtain ⟨b1, b2, b3⟩ := HB.out wr (HM.out.wide (Nat.le_refl _) HO.out.2.2.1)
        by_cases hlt : k < nr
        · rcases HA.out with h0 | ⟨G, M, rfl, g1, g2, hr, hl⟩
          · omega
          obtain ⟨e1, e2⟩ := hr.cell k (by omega)
          have f1 := hr.frozen (k * 2)
          have f2 := hr.frozen (k * 2 + 1)
          have hg0 : lo ≤ G := Nat.le_trans HO.out.1 g1
          have HM2 : Hid (Mid lo m2 W0 ((wr.setCell ⟨G, k * 2, none⟩ (.int .i64 (-33))).setCell ⟨G, k * 2 + 1, none⟩ (.int .i64 0))) := (HM.out.set G (k * 2) _ hg0 g2).set G (k * 2 + 1) _ hg0 g2
          have HA2 : Hid (WK ((wr.setCell ⟨G, k * 2, none⟩ (.int .i64 (-33))).setCell ⟨G, k * 2 + 1, none⟩ (.int .i64 0)) m1 m2 (some ⟨G, 0, none⟩) nr) := .inr ⟨G, _, rfl, g1, g2, hr.set k (-33) 0 (by omega), by rw [List.length_set]; exact hl⟩
          clear HA hr g1 g2 hl HM hg0
          go_wp2_with fail
          exact ⟨⟨k + 1, by omega, by go_num, HM2, HA2⟩, by simp [intOf]; omega⟩
        · obtain rfl : k = nr := by omega
          have HM1 : Hid (Mid lo hi W0 wr) := HM.out.wide (Nat.le_refl _) HO.out.2.2.1
          have HR1 : Hid (WK wr m2 hi aW nw) := HW0.out.same (fun G g1 _ hG => HM.out.block G hG (.inr g1))
          clear HM HA hk hlt HW0
          go_wp2_with fail
          clear b1 b2 b3
          generalize wr = wz at *
          go_loopw [4] (fun x wr => ∃ k : Nat, k ≤ nw ∧ x = .int .i64 (k : Int) ∧ Hid (Mid lo hi W0 wr) ∧ Hid (WK wr m2 hi aW nw)) (fun x _ => nw - (intOf x).toNat)
          case atStart => exact ⟨0, Nat.zero_le _, rfl, HM1, HR1⟩
          case round =>
            clear HM1 HR1
            obtain ⟨k, hk, rfl, HM, HA⟩ := hrel
            obtain ⟨b1, b2, b3⟩ := HB.out wr HM.out
            by_cases hlt : k < nw
            · rcases HA.out with h0 | ⟨G, M, rfl, g1, g2, hr, hl⟩
              · omega
              obtain ⟨e1, e2⟩ := hr.cell k (by omega)
              have f1 := hr.frozen (k * 2)
              have f2 := hr.frozen (k * 2 + 1)
              have hg0 : lo ≤ G := by have := HO.out; omega
              have HM2 : Hid (Mid lo hi W0 ((wr.setCell ⟨G, k * 2, none⟩ (.int .i64 (-33))).setCell ⟨G, k * 2 + 1, none⟩ (.int .i64 0))) := (HM.out.set G (k * 2) _ hg0 g2).set G (k * 2 + 1) _ hg0 g2
              have HA2 : Hid (WK ((wr.setCell ⟨G, k * 2, none⟩ (.int .i64 (-33))).setCell ⟨G, k * 2 + 1, none⟩ (.int .i64 0)) m2 hi (some ⟨G, 0, none⟩) nw) := .inr ⟨G, _, rfl, g1, g2, hr.set k (-33) 0 (by omega), by rw [List.length_set]; exact hl⟩
              clear HA hr g1 g2 hl HM hg0
              go_wp2_with fail
              exact ⟨⟨k + 1, by omega, by go_num, HM2, HA2⟩, by simp [intOf]; omega⟩
            · obtain rfl : k = nw := by omega
              have HF : Hid (Mid lo hi w wr) := (Mid.of_below HG0.out.below).trans HM.out
              clear HM HA
              go_wp2
              go_end0
              exact ⟨rfl, HF.out⟩
end Go.Proofs.Ytonefdbfodjadaa.Kk
