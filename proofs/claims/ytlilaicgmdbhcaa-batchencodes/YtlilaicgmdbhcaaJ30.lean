import Derived.Test.YtlilaicgmdbhcaaJ29
import Derived.Test.YtlilaicgmdbhcaaJ28
import Derived.Test.YtlilaicgmdbhcaaJ27
import Derived.Test.YtlilaicgmdbhcaaJ14
/-
  THE WALKS OF layer 6's tail, wipe.
-/
namespace Go.Proofs.Ytlilaicgmdbhcaa.Kk
open Go.RowKit Go.Sort

theorem kd_pad (L : List K) (j : Nat) (hj : j < 3) : kd (L ++ padK3 3) (L.length + j) = (-31, 0) := by
  rw [kd_right _ _ _ (by rw [padK3_len]; exact hj)]
  revert hj; revert j; decide
theorem ad_pad (L : List Int) (j : Nat) (hj : j < 3) : ad (L ++ pad3 3) (L.length + j) = -31 := by
  have : ad (L ++ pad3 3) (L.length + j) = ad (pad3 3) j := by simp [ad, List.getD_eq_getElem?_getD, List.getElem?_append_right]
  rw [this]
  clear this
  revert hj; revert j; decide

set_option maxRecDepth 100000 in
set_option maxHeartbeats 1000000 in
theorem tail_any (w : World) (lo hi : Nat) (ao a : Option Addr) (n c : Nat) (L : List K) (h : LnK w lo hi ao a c L) (hn : n = L.length) (hm : n ≤ 1000000) :
    Calls Try.prog 37 #[.slice a n c] w fun e w' => e = .returned (.bool true) ∧ Grew w w' := by
  have HN : Hid (n = L.length) := hn
  clear hn
  rcases h with ⟨_, rfl, rfl, _⟩ | ⟨_, G, rfl, hc, _, _, hr⟩
  · have hnil := eqNilK none n 0
    go_enter Try.func37, Try.ntmps37
    go_wp2
    go_ret
    exact ⟨rfl, Grew.refl _⟩
  · have HR : Hid (RK w G (L ++ padK3 3)) := hr
    obtain rfl : c = n + 3 := by rw [hc, HN.out]
    clear hr hc
    have hnil := eqNilK (some ⟨G, 0, none⟩) n (n + 3)
    simp only [Option.isNone_some] at hnil
    go_enter Try.func37, Try.ntmps37
    go_wp2_with fail
    go_loopw [4] (fun x wr => ∃ k : Nat, n ≤ k ∧ k ≤ n + 3 ∧ x = .int .i64 (k : Int) ∧ Hid (Grew w wr)) (fun x _ => n + 3 - (intOf x).toNat)
    case atStart => exact ⟨n, Nat.le_refl _, by omega, rfl, Grew.refl _⟩
    case round =>
      obtain ⟨k, hk1, hk2, rfl, HG⟩ := hrel
      by_cases hlt : k < n + 3
      · have hlti : (k : Int) < (n : Int) + 3 := by omega
        have HR1 : Hid (RK wr G (L ++ padK3 3)) := HR.out.same (HG.out.heap HR.out.lt)
        obtain ⟨m0, m1⟩ := HR1.out.cell k (by rw [List.length_append, padK3_len, ← HN.out]; omega)
        have e : kd (L ++ padK3 3) k = (-31, 0) := by
          have := kd_pad L (k - n) (by omega)
          rw [← HN.out, show n + (k - n) = k by omega] at this; exact this
        rw [e] at m0 m1
        simp only at m0 m1
        have hq := run_neKey (-31) 0 (-31) 0
        have hgd := fun op x y => run_eqGuard op x y (-31) 0 (-31) 0
        simp only [decide_true, Bool.not_true] at hq
        go_wp2
        go_roundw
        case rel => exact ⟨k + 1, by omega, by omega, by go_num, HG⟩
        case measure => simp [intOf]; omega
      · obtain rfl : k = n + 3 := by omega
        go_wp2
        go_ret
        exact ⟨rfl, HG.out⟩

/-- rows that may be written over -/
def WI (W : World) (lo hi : Nat) (a : Option Addr) (n : Nat) : Prop := n = 0 ∨ ∃ G M, a = some ⟨G, 0, none⟩ ∧ lo ≤ G ∧ G < hi ∧ R64 W G M ∧ n ≤ M.length
def WK (W : World) (lo hi : Nat) (a : Option Addr) (n : Nat) : Prop := n = 0 ∨ ∃ G M, a = some ⟨G, 0, none⟩ ∧ lo ≤ G ∧ G < hi ∧ RK W G M ∧ n ≤ M.length
theorem LnI.wi {W : World} {lo hi : Nat} {ao a : Option Addr} {c : Nat} {A : List Int} (h : LnI W lo hi ao a c A) : WI W lo hi a A.length := by
  rcases h with ⟨_, _, _, rfl⟩ | ⟨_, G, e, _, h1, h2, h3⟩
  · exact .inl rfl
  · exact .inr ⟨G, _, e, h1, h2, h3, by simp⟩
theorem LnK.wk {W : World} {lo hi : Nat} {ao a : Option Addr} {c : Nat} {A : List K} (h : LnK W lo hi ao a c A) : WK W lo hi a A.length := by
  rcases h with ⟨_, _, _, rfl⟩ | ⟨_, G, e, _, h1, h2, h3⟩
  · exact .inl rfl
  · exact .inr ⟨G, _, e, h1, h2, h3, by simp⟩
theorem WK.same {W W' : World} {lo hi : Nat} {a : Option Addr} {n : Nat} (h : WK W lo hi a n) (hs : ∀ G, lo ≤ G → G < hi → G < W.heap.size → W'.heap[G]? = W.heap[G]?) : WK W' lo hi a n := by
  rcases h with h | ⟨G, M, e, h1, h2, h3, h4⟩
  · exact .inl h
  · exact .inr ⟨G, M, e, h1, h2, h3.same (hs G h1 h2 h3.lt), h4⟩
theorem WI.same {W W' : World} {lo hi : Nat} {a : Option Addr} {n : Nat} (h : WI W lo hi a n) (hs : ∀ G, lo ≤ G → G < hi → G < W.heap.size → W'.heap[G]? = W.heap[G]?) : WI W' lo hi a n := by
  rcases h with h | ⟨G, M, e, h1, h2, h3, h4⟩
  · exact .inl h
  · exact .inr ⟨G, M, e, h1, h2, h3.same (hs G h1 h2 h3.lt), h4⟩
theorem Mid.cell {g h : Nat} {W W' : World} (m : Mid g h W W') {b i : Nat} {v : Value} (hc : W.cell? ⟨b, i, none⟩ = some v) (hb : b < g ∨ h ≤ b) : W'.cell? ⟨b, i, none⟩ = some v := by
  have := cell_lt hc
  simp only [World.cell?] at hc ⊢
  rw [m.block b this hb]; exact hc

set_option maxRecDepth 100000 in
set_option maxHeartbeats 2000000 in
theorem wipe_any (w : World) (lo m1 m2 hi : Nat) (y : Bx) (h1 : lo ≤ m1) (h2 : m1 ≤ m2) (h3 : m2 ≤ hi) (h4 : hi ≤ w.heap.size) (hA : WI w lo m1 y.aA y.t.args.length) (hR : WK w m1 m2 y.aR y.t.reads.length) (hW : WK w m2 hi y.aW y.t.writes.length) (lA : y.t.args.length ≤ 1000000) (lR : y.t.reads.length ≤ 1000000) (lW : y.t.writes.length ≤ 1000000) :
    Calls Try.prog 38 #[bxv y] w fun e w' => e = .returned (.tuple #[]) ∧ Mid lo hi w w' := by
  obtain ⟨⟨proc, args, reads, writes⟩, aA, cA, aR, cR, aW, cW⟩ := y
  simp only [bxv] at *
  generalize args.length = na at *
  generalize reads.length = nr at *
  generalize writes.length = nw at *
  have HO : Hid (lo ≤ m1 ∧ m1 ≤ m2 ∧ m2 ≤ hi ∧ hi ≤ w.heap.size) := ⟨h1, h2, h3, h4⟩
  have HG0 : Hid (Grew w (w.alloc (.cells #[.int .i64 proc, .slice aA na cA, .slice aR nr cR, .slice aW nw cW] 57))) := (Grew.refl _).alloc _
  have HA0 : Hid (WI (w.alloc (.cells #[.int .i64 proc, .slice aA na cA, .slice aR nr cR, .slice aW nw cW] 57)) lo m1 aA na) := hA.same (fun G _ _ hG => HG0.out.heap hG)
  have HR0 : Hid (WK (w.alloc (.cells #[.int .i64 proc, .slice aA na cA, .slice aR nr cR, .slice aW nw cW] 57)) m1 m2 aR nr) := hR.same (fun G _ _ hG => HG0.out.heap hG)
  have HW0 : Hid (WK (w.alloc (.cells #[.int .i64 proc, .slice aA na cA, .slice aR nr cR, .slice aW nw cW] 57)) m2 hi aW nw) := hW.same (fun G _ _ hG => HG0.out.heap hG)
  have HC : Hid ((w.alloc (.cells #[.int .i64 proc, .slice aA na cA, .slice aR nr cR, .slice aW nw cW] 57)).cell? ⟨w.heap.size, 1, none⟩ = some (.slice aA na cA) ∧ (w.alloc (.cells #[.int .i64 proc, .slice aA na cA, .slice aR nr cR, .slice aW nw cW] 57)).cell? ⟨w.heap.size, 2, none⟩ = some (.slice aR nr cR) ∧ (w.alloc (.cells #[.int .i64 proc, .slice aA na cA, .slice aR nr cR, .slice aW nw cW] 57)).cell? ⟨w.heap.size, 3, none⟩ = some (.slice aW nw cW)) := ⟨cell_new _ _ _ 1 _ rfl, cell_new _ _ _ 2 _ rfl, cell_new _ _ _ 3 _ rfl⟩
  clear hA hR hW h1 h2 h3 h4
  go_enter Try.func38, Try.ntmps38
  go_upto_region 1 with fail
  generalize w.alloc (.cells #[.int .i64 proc, .slice aA na cA, .slice aR nr cR, .slice aW nw cW] 57) = W0 at *
  have HB : Hid (∀ W, Mid lo hi W0 W → W.cell? ⟨w.heap.size, 1, none⟩ = some (.slice aA na cA) ∧ W.cell? ⟨w.heap.size, 2, none⟩ = some (.slice aR nr cR) ∧ W.cell? ⟨w.heap.size, 3, none⟩ = some (.slice aW nw cW)) := fun W hm => ⟨hm.cell HC.out.1 (.inr HO.out.2.2.2), hm.cell HC.out.2.1 (.inr HO.out.2.2.2), hm.cell HC.out.2.2 (.inr HO.out.2.2.2)⟩
  clear HC
  go_wp2_with fail
  go_loopw [2] (fun x wr => ∃ k : Nat, k ≤ na ∧ x = .int .i64 (k : Int) ∧ Hid (Mid lo m1 W0 wr) ∧ Hid (WI wr lo m1 aA na)) (fun x _ => na - (intOf x).toNat)
  case atStart => exact ⟨0, Nat.zero_le _, rfl, Mid.refl _ _ _, HA0⟩
  case round =>
    clear HA0
    obtain ⟨k, hk, rfl, HM, HA⟩ := hrel
    obtain ⟨b1, b2, b3⟩ := HB.out wr (HM.out.wide (Nat.le_refl _) (by have := HO.out; omega))
    by_cases hlt : k < na
    · rcases HA.out with h0 | ⟨G, M, rfl, g1, g2, hr, hl⟩
      · omega
      have HRw : Hid (R64 wr G M ∧ lo ≤ G ∧ G < m1 ∧ na ≤ M.length) := ⟨hr, g1, g2, hl⟩
      have e1 := hr.cell k (by omega)
      have f1 := hr.frozen k
      have HM2 : Hid (Mid lo m1 W0 (wr.setCell ⟨G, k, none⟩ (.int .i64 (-33)))) := HM.out.set G k _ g1 g2
      have HA2 : Hid (WI (wr.setCell ⟨G, k, none⟩ (.int .i64 (-33))) lo m1 (some ⟨G, 0, none⟩) na) := .inr ⟨G, _, rfl, g1, g2, hr.set k (-33), by rw [List.length_set]; exact hl⟩
      clear HA hr g1 g2 hl HM
      go_wp2_with fail
      exact ⟨⟨k + 1, by omega, by go_num, HM2, HA2⟩, by simp [intOf]; omega⟩
    · obtain rfl : k = na := by omega
      have HM1 : Hid (Mid lo m2 W0 wr) := HM.out.wide (Nat.le_refl _) HO.out.2.1
      have HR1 : Hid (WK wr m1 m2 aR nr) := HR0.out.same (fun G g1 _ hG => HM.out.block G hG (.inr g1))
      clear HM HA hk hlt HR0
      go_wp2_with fail
      clear b1 b2 b3
      generalize wr = wy at *
      go_loopw [3] (fun x wr => ∃ k : Nat, k ≤ nr ∧ x = .int .i64 (k : Int) ∧ Hid (Mid lo m2 W0 wr) ∧ Hid (WK wr m1 m2 aR nr)) (fun x _ => nr - (intOf x).toNat)
      case atStart => exact ⟨0, Nat.zero_le _, rfl, HM1, HR1⟩
      case round =>
        clear HM1 HR1
        obtain ⟨k, hk, rfl, HM, HA⟩ := hrel
        obtain ⟨b1, b2, b3⟩ := HB.out wr (HM.out.wide (Nat.le_refl _) HO.out.2.2.1)
        by_cases hlt : k < nr
        · rcases HA.out with h0 | ⟨G, M, rfl, g1, g2, hr, hl⟩
          · omega
          obtain ⟨e1, e2⟩ := hr.cell k (by omega)
          have f1 := hr.frozen (k * 2)
          have f2 := hr.frozen (k * 2 + 1)
          have hg0 : lo ≤ G := Nat.le_trans HO.out.1 g1
          have HM2 : Hid (Mid lo m2 W0 ((wr.setCell ⟨G, k * 2, none⟩ (.int .i64 (-33))).setCell ⟨G, k * 2 + 1, none⟩ (.int .i64 0))) := (HM.out.set G (k * 2) _ hg0 g2).set G (k * 2 + 1) _ hg0 g2
          have HA2 : Hid (WK ((wr.setCell ⟨G, k * 2, none⟩ (.int .i64 (-33))).setCell ⟨G, k * 2 + 1, none⟩ (.int .i64 0)) m1 m2 (some ⟨G, 0, none⟩) nr) := .inr ⟨G, _, rfl, g1, g2, hr.set k (-33) 0 (by omega), by rw [List.length_set]; exact hl⟩
          clear HA hr g1 g2 hl HM hg0
          go_wp2_with fail
          exact ⟨⟨k + 1, by omega, by go_num, HM2, HA2⟩, by simp [intOf]; omega⟩
        · obtain rfl : k = nr := by omega
          have HM1 : Hid (Mid lo hi W0 wr) := HM.out.wide (Nat.le_refl _) HO.out.2.2.1
          have HR1 : Hid (WK wr m2 hi aW nw) := HW0.out.same (fun G g1 _ hG => HM.out.block G hG (.inr g1))
          clear HM HA hk hlt HW0
          go_wp2_with fail
          clear b1 b2 b3
          generalize wr = wz at *
          go_loopw [4] (fun x wr => ∃ k : Nat, k ≤ nw ∧ x = .int .i64 (k : Int) ∧ Hid (Mid lo hi W0 wr) ∧ Hid (WK wr m2 hi aW nw)) (fun x _ => nw - (intOf x).toNat)
          case atStart => exact ⟨0, Nat.zero_le _, rfl, HM1, HR1⟩
          case round =>
            clear HM1 HR1
            obtain ⟨k, hk, rfl, HM, HA⟩ := hrel
            obtain ⟨b1, b2, b3⟩ := HB.out wr HM.out
            by_cases hlt : k < nw
            · rcases HA.out with h0 | ⟨G, M, rfl, g1, g2, hr, hl⟩
              · omega
              obtain ⟨e1, e2⟩ := hr.cell k (by omega)
              have f1 := hr.frozen (k * 2)
              have f2 := hr.frozen (k * 2 + 1)
              have hg0 : lo ≤ G := by have := HO.out; omega
              have HM2 : Hid (Mid lo hi W0 ((wr.setCell ⟨G, k * 2, none⟩ (.int .i64 (-33))).setCell ⟨G, k * 2 + 1, none⟩ (.int .i64 0))) := (HM.out.set G (k * 2) _ hg0 g2).set G (k * 2 + 1) _ hg0 g2
              have HA2 : Hid (WK ((wr.setCell ⟨G, k * 2, none⟩ (.int .i64 (-33))).setCell ⟨G, k * 2 + 1, none⟩ (.int .i64 0)) m2 hi (some ⟨G, 0, none⟩) nw) := .inr ⟨G, _, rfl, g1, g2, hr.set k (-33) 0 (by omega), by rw [List.length_set]; exact hl⟩
              clear HA hr g1 g2 hl HM hg0
              go_wp2_with fail
              exact ⟨⟨k + 1, by omega, by go_num, HM2, HA2⟩, by simp [intOf]; omega⟩
            · obtain rfl : k = nw := by omega
              have HF : Hid (Mid lo hi w wr) := (Mid.of_below HG0.out.below).trans HM.out
              clear HM HA
              go_wp2
              go_end0
              exact ⟨rfl, HF.out⟩
end Go.Proofs.Ytlilaicgmdbhcaa.Kk
/-
  THE WALK OF layer 6's back.
-/
namespace Go.Proofs.Ytlilaicgmdbhcaa.Kk
open Go.RowKit Go.Sort

theorem LnI.nums {W : World} {lo hi : Nat} {ao a : Option Addr} {c : Nat} {A : List Int} (h : LnI W lo hi ao a c A) : NumsAt W a A ∧ (a = none → c = 0) ∧ A.length ≤ c := by
  rcases h with ⟨_, rfl, rfl, rfl⟩ | ⟨_, G, rfl, rfl, _, _, hr⟩
  · exact ⟨.inl rfl, fun _ => rfl, Nat.le_refl _⟩
  · exact ⟨hr.nums, by simp, by omega⟩
theorem LnK.keys {W : World} {lo hi : Nat} {ao a : Option Addr} {c : Nat} {A : List K} (h : LnK W lo hi ao a c A) : KeysAt W a A ∧ (a = none → c = 0) ∧ A.length ≤ c := by
  rcases h with ⟨_, rfl, rfl, rfl⟩ | ⟨_, G, rfl, rfl, _, _, hr⟩
  · exact ⟨.inl rfl, fun _ => rfl, Nat.le_refl _⟩
  · exact ⟨hr.keys, by simp, by omega⟩
/-- a transaction that was lent is as it was -/
theorem LnT.ok {W : World} {lo hi : Nat} {x y : Bx} (h : LnT W lo hi x y) (hx : BxOK W x) : BxOK W y := by
  obtain ⟨h0, m1, m2, _, _, _, h4, h5, h6⟩ := h
  obtain ⟨a1, a2, a3⟩ := h4.nums
  obtain ⟨b1, b2, b3⟩ := h5.keys
  obtain ⟨c1, c2, c3⟩ := h6.keys
  obtain ⟨t, aA, cA, aR, cR, aW, cW⟩ := y
  simp only at *
  subst h0
  exact ⟨a1, b1, c1, hx.pin, hx.ain, hx.rin, hx.win, a2, b2, c2, a3, b3, c3, hx.bigA, hx.bigR, hx.bigW⟩
theorem LtS.bat {w W : World} {n : Nat} {Bs Qs : List Bx} {lo : Nat → Nat} {ao : Option Addr} (h : LtS w W n n Bs Qs lo) (hn : n = Bs.length) (hb : BatAt W ao Bs) : BatAt W (some ⟨w.heap.size, 0, none⟩) (Qs.take n) ∧ (Qs.take n).map Bx.t = Bs.map Bx.t := by
  have hl : (Qs.take n).length = n := by rw [List.length_take, h.len]; omega
  refine ⟨⟨?_, fun x hx => ?_⟩, ?_⟩
  · have : RT W w.heap.size (Qs.take n ++ Qs.drop n) := by rw [List.take_append_drop]; exact h.row
    exact this.txs
  · obtain ⟨i, hi, rfl⟩ := List.mem_iff_getElem.1 hx
    have hi' : i < n := by omega
    have h1 := (h.one i hi').ok (hb.lst i (by omega))
    have e : bd Qs i = (Qs.take n)[i] := by
      rw [← bd_tk hi']; simp [bd, List.getD_eq_getElem?_getD, List.getElem?_eq_getElem hi]
    rw [e] at h1; exact h1
  · apply List.ext_getElem
    · rw [List.length_map, List.length_map, hl, hn]
    · intro i h1 h2
      simp only [List.length_map] at h1 h2
      have hi' : i < n := by omega
      have e1 : bd (Qs.take n) i = (Qs.take n)[i] := by simp [bd, List.getD_eq_getElem?_getD, List.getElem?_eq_getElem h1]
      have e2 : bd Bs i = Bs[i] := by simp [bd, List.getD_eq_getElem?_getD, List.getElem?_eq_getElem h2]
      simp only [List.getElem_map]
      rw [← e1, ← e2, bd_tk hi', (h.one i hi').1]

theorem neNil64 (ao : Option Addr) (n c : Nat) (w : World) : (binOp .neq 55 (.slice ao n c) (.slice none 0 0)).run Try.prog w = .ok (.bool (!ao.isNone)) w := by
  have h := eqNil64 ao n c w
  simp only [binOp] at h ⊢
  simp [run_equal_slice_nil w 55 2 ao n c Try.underlying55]
theorem back_nilB (w : World) (n cap : Nat) (Bs : List Bx) (h : BatAt w none Bs) (hn : n = Bs.length) :
    Calls Try.prog 10 #[.slice none 0 0, .slice none n cap] w fun e w' => e = .returned (.bool true) ∧ Grew w w' := by
  have hP : Bs = [] := bxcs_nil (CellsAt.nil h.at_)
  subst hP
  obtain rfl : n = 0 := hn
  have hnil := eqNilT none 0 cap
  have HC : Hid (Calls Try.prog 16 #[.slice none 0 0, .slice none 0 cap] w fun e w' => e = .returned (.bool true) ∧ Grew w w') :=
    sameBatch_eq w none none 0 0 cap [] [] (Like.of h h rfl) rfl (by omega)
  clear h
  go_enter Try.func10, Try.ntmps10
  go_wp2_with fail
  refine HC.out.mono ?_
  rintro e w1 ⟨rfl, hg⟩
  have HB : Hid (Grew w w1) := hg
  clear HC hg
  go_wp2
  go_ret
  exact ⟨rfl, HB.out⟩
/-- what stands while a batch is given back: k of it are looked at and written over -/
structure BkS (w W1 W : World) (n k : Nat) (Bs Qs Rs : List Bx) (lo : Nat → Nat) : Prop where
  row : RT W w.heap.size Rs
  len : Rs.length = n + 3
  one : ∀ i, k ≤ i → i < n → bd Rs i = bd Qs i ∧ LnT W (lo i) (lo (i + 1)) (bd Bs i) (bd Rs i)
  mid : Mid w.heap.size (lo n) W1 W
theorem BkS.start {w W1 W : World} {n : Nat} {Bs Qs : List Bx} {lo : Nat → Nat} (h : LtS w W1 n n Bs Qs lo) (hg : Grew W1 W) : BkS w W1 W n 0 Bs Qs Qs lo := by
  have h2 := h.kept hg.below
  exact ⟨h2.row, h2.len, fun i _ hi => ⟨rfl, h2.one i hi⟩, Mid.of_below hg.below⟩
theorem BkS.kept {w W1 W W' : World} {n k : Nat} {Bs Qs Rs : List Bx} {lo : Nat → Nat} (h : BkS w W1 W n k Bs Qs Rs lo) (hg : Grew W W') : BkS w W1 W' n k Bs Qs Rs lo :=
  ⟨h.row.same (hg.heap h.row.lt), h.len, fun i h1 h2 => ⟨(h.one i h1 h2).1, (h.one i h1 h2).2.same (fun _ _ _ hG => hg.heap hG)⟩, h.mid.trans (Mid.of_below hg.below)⟩
/-- behind wipe and the store -/
theorem BkS.next {w W1 W W' : World} {n k : Nat} {Bs Qs Rs : List Bx} {lo : Nat → Nat} (h0 : LtS w W1 n n Bs Qs lo) (h : BkS w W1 W n k Bs Qs Rs lo) (hk : k < n) (hm : Mid (lo k) (lo (k + 1)) W W') :
    RT W' w.heap.size Rs ∧ BkS w W1 ((((W'.setCell ⟨w.heap.size, k * 4, none⟩ (.int .i64 (-32))).setCell ⟨w.heap.size, k * 4 + 1, none⟩ (.slice none 0 0)).setCell ⟨w.heap.size, k * 4 + 2, none⟩ (.slice none 0 0)).setCell ⟨w.heap.size, k * 4 + 3, none⟩ (.slice none 0 0)) n (k + 1) Bs Qs (Rs.set k ⟨⟨-32, [], [], []⟩, none, 0, none, 0, none, 0⟩) lo := by
  have hge : ∀ i, i ≤ n → w.heap.size + 1 ≤ lo i := fun i hi => h0.ge i hi
  have hle : ∀ i, i ≤ n → lo i ≤ lo n := fun i hi => h0.le i hi
  have hrow : RT W' w.heap.size Rs := h.row.same (hm.block _ h.row.lt (.inl (by have := hge k (by omega); omega)))
  have hkl : k < Rs.length := by have := h.len; omega
  have hP := hrow.put hkl ⟨⟨-32, [], [], []⟩, none, 0, none, 0, none, 0⟩
  refine ⟨hrow, hP, by rw [List.length_set]; exact h.len, fun i h1 h2 => ?_, ?_⟩
  · rw [bd_set_ne _ _ _ _ (by omega)]
    refine ⟨(h.one i (by omega) h2).1, (h.one i (by omega) h2).2.same (fun G g1 _ hG => ?_)⟩
    have hg := hge i (by omega)
    have hmono : lo (k + 1) ≤ lo i := by
      obtain ⟨d, rfl⟩ : ∃ d, i = k + 1 + d := ⟨i - (k + 1), by omega⟩
      suffices ∀ e, e ≤ d → lo (k + 1) ≤ lo (k + 1 + e) from this d (Nat.le_refl _)
      intro e
      induction e with
      | zero => intro _; exact Nat.le_refl _
      | succ e ih => intro he; exact Nat.le_trans (ih (by omega)) (h0.mono (k + 1 + e) (by omega))
    rw [heap_setCell_other _ _ G _ (by show G ≠ w.heap.size; omega), heap_setCell_other _ _ G _ (by show G ≠ w.heap.size; omega), heap_setCell_other _ _ G _ (by show G ≠ w.heap.size; omega), heap_setCell_other _ _ G _ (by show G ≠ w.heap.size; omega)]
    exact hm.block G hG (.inr (by omega))
  · have h5 := hge n (Nat.le_refl _)
    have h6 := hge k (by omega)
    have h7 : Mid w.heap.size (lo n) W1 W' := h.mid.trans (hm.wide (by omega) (hle (k + 1) (by omega)))
    exact (((h7.set _ _ _ (Nat.le_refl _) (by omega)).set _ _ _ (Nat.le_refl _) (by omega)).set _ _ _ (Nat.le_refl _) (by omega)).set _ _ _ (Nat.le_refl _) (by omega)

set_option maxRecDepth 100000 in
set_option maxHeartbeats 400000 in
theorem back_some (w w1 : World) (n cap : Nat) (a : Addr) (Bs Qs : List Bx) (lo : Nat → Nat) (h : LtS w w1 n n Bs Qs lo) (hb : BatAt w1 (some a) Bs) (hn : n = Bs.length) (hm : n ≤ 100000) (hx : ∀ x ∈ Bs, x.t.args.length ≤ 100000 ∧ x.t.reads.length ≤ 100000 ∧ x.t.writes.length ≤ 100000) :
    Calls Try.prog 10 #[.slice (some ⟨w.heap.size, 0, none⟩) n (n + 3), .slice (some a) n cap] w1 fun e w' => e = .returned (.bool true) ∧ Mid w.heap.size (lo n) w1 w' := by
  have H : Hid (LtS w w1 n n Bs Qs lo) := h
  have HN : Hid (n = Bs.length) := hn
  have HM : Hid (∀ x ∈ Bs, x.t.args.length ≤ 100000 ∧ x.t.reads.length ≤ 100000 ∧ x.t.writes.length ≤ 100000) := hx
  have hnil := eqNilT (some a) n cap
  have HC : Hid (Calls Try.prog 16 #[.slice (some ⟨w.heap.size, 0, none⟩) n (n + 3), .slice (some a) n cap] w1 fun e w' => e = .returned (.bool true) ∧ Grew w1 w') :=
    sameBatch_eq w1 _ _ n (n + 3) cap (Qs.take n) Bs (Like.of (h.bat hn hb).1 hb (h.bat hn hb).2) (by rw [List.length_take, h.len]; omega) (by omega)
  clear h hb hn hx
  go_enter Try.func10, Try.ntmps10
  go_wp2_with fail
  refine HC.out.mono ?_
  rintro e w2 ⟨rfl, hg⟩
  have HB1 : Hid (Grew w1 w2) := hg
  clear HC hg
  go_wp2_with fail
  clear hnil
  go_loopw [5, 7] (fun y x wr => ∃ k : Nat, n ≤ k ∧ k ≤ n + 3 ∧ y = .bool true ∧ x = .int .i64 (k : Int) ∧ Hid (Grew w1 wr)) (fun _ x _ => n + 3 - (intOf x).toNat)
  case atStart => exact ⟨n, Nat.le_refl _, by omega, rfl, rfl, HB1⟩
  case round =>
    clear HB1
    obtain ⟨k, hk0, hk, rfl, rfl, HB⟩ := hrel
    by_cases hlt : k < n + 3
    · have hlti : (k : Int) < (n : Int) + 3 := by omega
      have HL := H.out.kept HB.out.below
      obtain ⟨p0, _⟩ := HL.row.cell k (by rw [HL.len]; exact hlt)
      rw [HL.pad k hk0 hlt] at p0
      simp only [padB] at p0
      clear HL
      go_wp2_with fail
      exact ⟨⟨k + 1, by omega, by omega, by simp, by go_num, HB⟩, by simp [intOf]; omega⟩
    · have hlti : ¬ (k : Int) < (n : Int) + 3 := by omega
      have HS0 : Hid (BkS w w1 wr n 0 Bs Qs Qs lo) := BkS.start H.out HB.out
      generalize k = kk at *
      clear HB
      go_wp2_with fail
      clear hlti hlt hk hk0
      generalize wr = wx at *
      go_loopw [5, 8] (fun y x wr => ∃ k : Nat, k ≤ n ∧ y = .bool true ∧ x = .int .i64 (k : Int) ∧ ∃ Rs, Hid (BkS w w1 wr n k Bs Qs Rs lo)) (fun _ x _ => n - (intOf x).toNat)
      case atStart => exact ⟨0, Nat.zero_le _, rfl, rfl, _, HS0⟩
      case round =>
        clear HS0
        obtain ⟨k, hk, rfl, rfl, Rs, HS⟩ := hrel
        by_cases hlt : k < n
        · have hlt' : k < Bs.length := by have := HN.out; omega
          have hxs := HM.out _ (bd_mem hlt')
          have hk3 : (k : Int) < (n : Int) + 3 := by omega
          have hk0 : (0 : Int) ≤ (k : Int) := by omega
          have hkn : (k : Int) < (n : Int) := by omega
          have HRow : Hid (∀ W, Grew wr W → RT W w.heap.size Rs) := fun W hg => (HS.out.kept hg).row
          have HLen : Hid (k < Rs.length) := by have := HS.out.len; simp only [Hid]; omega
          have HLn : Hid (LnT wr (lo k) (lo (k + 1)) (bd Bs k) (bd Rs k)) := (HS.out.one k (Nat.le_refl _) hlt).2
          have HX : Hid (∀ W, Grew wr W → W.cell? ⟨w.heap.size, k * 4, none⟩ = some (.int .i64 (bd Rs k).t.proc) ∧ W.cell? ⟨w.heap.size, k * 4 + 1, none⟩ = some (.slice (bd Rs k).aA (bd Rs k).t.args.length (bd Rs k).cA) ∧ W.cell? ⟨w.heap.size, k * 4 + 2, none⟩ = some (.slice (bd Rs k).aR (bd Rs k).t.reads.length (bd Rs k).cR) ∧ W.cell? ⟨w.heap.size, k * 4 + 3, none⟩ = some (.slice (bd Rs k).aW (bd Rs k).t.writes.length (bd Rs k).cW)) := fun W hg => (HRow.out W hg).cell k HLen.out
          have HHi : Hid (lo (k + 1) ≤ wr.heap.size ∧ (bd Rs k).t = (bd Bs k).t) := ⟨Nat.le_trans (H.out.le (k + 1) (by omega)) (Nat.le_trans H.out.lok HS.out.mid.size), HLn.out.1⟩
          rw [← HHi.out.2] at hxs
          have HNx : Hid (∀ W W', Grew wr W → Mid (lo k) (lo (k + 1)) W W' → RT W' w.heap.size Rs ∧ BkS w w1 ((((W'.setCell ⟨w.heap.size, k * 4, none⟩ (.int .i64 (-32))).setCell ⟨w.heap.size, k * 4 + 1, none⟩ (.slice none 0 0)).setCell ⟨w.heap.size, k * 4 + 2, none⟩ (.slice none 0 0)).setCell ⟨w.heap.size, k * 4 + 3, none⟩ (.slice none 0 0)) n (k + 1) Bs Qs (Rs.set k ⟨⟨-32, [], [], []⟩, none, 0, none, 0, none, 0⟩) lo) := fun W W' hg hm => BkS.next H.out (HS.out.kept hg) hlt hm
          obtain ⟨ht, m1, m2, l1, l2, l3, hA, hR, hW⟩ := HLn.out
          rw [← ht] at hA hR hW
          generalize bd Bs k = xb at *
          have HTl : Hid (∀ W, Grew wr W → Calls Try.prog 37 #[.slice (bd Rs k).aR (bd Rs k).t.reads.length (bd Rs k).cR] W fun e w' => e = .returned (.bool true) ∧ Grew W w') := fun W hg => tail_any W m1 m2 xb.aR _ _ _ _ (hR.same (fun _ _ _ hG => hg.heap hG)) rfl (by omega)
          have HTw : Hid (∀ W, Grew wr W → Calls Try.prog 37 #[.slice (bd Rs k).aW (bd Rs k).t.writes.length (bd Rs k).cW] W fun e w' => e = .returned (.bool true) ∧ Grew W w') := fun W hg => tail_any W m2 (lo (k + 1)) xb.aW _ _ _ _ (hW.same (fun _ _ _ hG => hg.heap hG)) rfl (by omega)
          have HWp : Hid (∀ W, Grew wr W → Calls Try.prog 38 #[bxv (bd Rs k)] W fun e w' => e = .returned (.tuple #[]) ∧ Mid (lo k) (lo (k + 1)) W w') := fun W hg => wipe_any W (lo k) m1 m2 (lo (k + 1)) (bd Rs k) l1 l2 l3 (Nat.le_trans HHi.out.1 hg.size) (hA.wi.same (fun _ _ _ hG => hg.heap hG)) (hR.wk.same (fun _ _ _ hG => hg.heap hG)) (hW.wk.same (fun _ _ _ hG => hg.heap hG)) (by omega) (by omega) (by omega)
          have HAr : Hid (LnI wr (lo k) m1 xb.aA (bd Rs k).aA (bd Rs k).cA (bd Rs k).t.args) := hA
          clear hA hR hW HLn HHi l1 l2 l3 ht HRow
          generalize bd Rs k = y at *
          obtain ⟨⟨proc, args, reads, writes⟩, yA, kA, yR, kR, yW, kW⟩ := y
          simp only [bxv] at hxs HX HTl HTw HWp HAr
          obtain ⟨x0, x1, x2, x3⟩ := HX.out wr (Grew.refl _)
          go_wp2_with fail
          refine (HTl.out _ (Grew.refl _)).mono ?_
          rintro e w3 ⟨rfl, hg3⟩
          have HG3 : Hid (Grew wr w3) := hg3
          clear hg3 x0 x1 x2 x3
          obtain ⟨x0, x1, x2, x3⟩ := HX.out w3 HG3.out
          go_wp2_with fail
          refine (HTw.out _ HG3.out).mono ?_
          rintro e w4 ⟨rfl, hg4⟩
          have HG4 : Hid (Grew wr w4) := HG3.out.trans hg4
          clear hg4 x0 x1 x2 x3 HG3
          obtain ⟨x0, x1, x2, x3⟩ := HX.out w4 HG4.out
          rcases HAr.out with ⟨_, rfl, rfl, rfl⟩ | ⟨_, G, rfl, hkA, _, _, hr⟩
          · have hnn := neNil64 none 0 0
            simp only [List.length_nil] at x1 HWp
            clear HAr HX HTl HTw
            simp only [Option.isNone_none, Bool.not_true] at hnn
            go_wp2_with fail
            with_reducible refine (HWp.out _ HG4.out).mono ?_
            rintro e w5 ⟨rfl, hm5⟩
            obtain ⟨hrow, hnx⟩ := HNx.out _ _ HG4.out hm5
            obtain ⟨s0, s1, s2, s3⟩ := hrow.cell k HLen.out
            have f0 := hrow.frozen (k * 4)
            have f1 := hrow.frozen (k * 4 + 1)
            have f2 := hrow.frozen (k * 4 + 2)
            have f3 := hrow.frozen (k * 4 + 3)
            have HS2 : Hid (BkS w w1 _ n (k + 1) Bs Qs _ lo) := hnx
            clear hnx hrow hm5 x0 x1 x2 x3 hnn
            go_wp2
            go_roundw
            case rel => exact ⟨k + 1, by omega, rfl, by go_num, _, HS2⟩
            case measure => simp [intOf]; omega
          · have HR : Hid (R64 wr G (args ++ pad3 3)) := hr
            clear hr HAr
            subst hkA
            have hnn := neNil64 (some ⟨G, 0, none⟩) args.length (args.length + 3)
            simp only [Option.isNone_some, Bool.not_false] at hnn
            have hal : (args.length : Int) + 3 ≤ 1000000 := by omega
            clear HTl HTw
            go_upto_region 16 with fail
            go_quiet (fail)
            have HG5 : Hid (Grew wr (w4.drewN nq)) := HG4.out.drewN nq
            generalize w4.drewN nq = w5 at *
            clear x0 x1 x2 x3
            obtain ⟨x0, x1, x2, x3⟩ := HX.out w5 HG5.out
            go_wp2_with fail
            clear x0 x1 x2 x3 HG4 HS
            generalize wr = wq at *
            go_loopw [5, 12] (fun y x wz => ∃ j : Nat, args.length ≤ j ∧ j ≤ args.length + 3 ∧ y = .bool true ∧ x = .int .i64 (j : Int) ∧ Hid (Grew wq wz)) (fun _ x _ => args.length + 3 - (intOf x).toNat)
            case atStart => exact ⟨args.length, Nat.le_refl _, by omega, rfl, rfl, HG5⟩
            case round =>
              clear HG5
              obtain ⟨j, hj0, hj, rfl, rfl, HG6⟩ := hrel
              by_cases hjl : j < args.length + 3
              · have hjli : (j : Int) < (args.length : Int) + 3 := by omega
                have e1 := (HR.out.same (HG6.out.heap HR.out.lt)).cell j (by rw [List.length_append, pad3_len]; exact hjl)
                have e2 : ad (args ++ pad3 3) j = -31 := by
                  have := ad_pad args (j - args.length) (by omega)
                  rw [show args.length + (j - args.length) = j by omega] at this; exact this
                rw [e2] at e1
                go_wp2_with fail
                exact ⟨⟨j + 1, by omega, by omega, by simp, by go_num, HG6⟩, by simp [intOf]; omega⟩
              · have hjli : ¬ (j : Int) < (args.length : Int) + 3 := by omega
                clear hj hjl
                generalize j = jj at *
                obtain ⟨x0, x1, x2, x3⟩ := HX.out wr HG6.out
                go_wp2_with fail
                with_reducible refine (HWp.out _ HG6.out).mono ?_
                rintro e w7 ⟨rfl, hm7⟩
                obtain ⟨hrow, hnx⟩ := HNx.out _ _ HG6.out hm7
                obtain ⟨s0, s1, s2, s3⟩ := hrow.cell k HLen.out
                have f0 := hrow.frozen (k * 4)
                have f1 := hrow.frozen (k * 4 + 1)
                have f2 := hrow.frozen (k * 4 + 2)
                have f3 := hrow.frozen (k * 4 + 3)
                have HS2 : Hid (BkS w w1 _ n (k + 1) Bs Qs _ lo) := hnx
                clear hnx hrow hm7 x0 x1 x2 x3 hnn
                go_wp2
                go_roundw
                case rel => exact ⟨k + 1, by omega, rfl, by go_num, _, HS2⟩
                case measure => simp [intOf]; omega
        · obtain rfl : k = n := by omega
          have HF : Hid (Mid w.heap.size (lo k) w1 wr) := HS.out.mid
          go_wp2
          go_ret
          exact ⟨rfl, HF.out⟩
end Go.Proofs.Ytlilaicgmdbhcaa.Kk
/-
  Accept WHERE IT TAKES; plain, works.
-/
namespace Go.Proofs.Ytlilaicgmdbhcaa.Kk
open Go.RowKit Go.Sort

theorem num_b (w : World) (x : Int) : Calls Try.prog 11 #[.int .i64 x] w fun e w' => e = .returned (.int .i64 x) ∧ w' = w := by
  go_enter Try.func11, Try.ntmps11
  go_wp2
  go_ret
  exact ⟨rfl, rfl⟩

theorem DcT.ok {W : World} {lo hi : Nat} {y : Bx} (h : DcT W lo hi y) (hw : WF y.t) (hi' : TIn y.t) : BxOK W y := by
  obtain ⟨ga, gr, gw, e, h1, h2, h3, _⟩ := h
  obtain ⟨t, aA, cA, aR, cR, aW, cW⟩ := y
  simp only [Bx.mk.injEq, true_and] at e h1 h2 h3 hw hi'
  obtain ⟨rfl, rfl, rfl, rfl, rfl, rfl⟩ := e
  have a := hw.a; have r := hw.r; have w := hw.w; have p0 := hw.p0; have p1 := hw.p1
  have k1 : R64 W ga (t.args ++ []) := by rw [List.append_nil]; exact h1
  have k2 : RK W gr (t.reads ++ []) := by rw [List.append_nil]; exact h2
  have k3 : RK W gw (t.writes ++ []) := by rw [List.append_nil]; exact h3
  exact ⟨k1.nums, k2.keys, k3.keys, ⟨by show -9223372036854775808 ≤ t.proc; omega, by show t.proc ≤ 9223372036854775807; omega⟩, hi'.a, hi'.r, hi'.w, by simp, by simp, by simp, Nat.le_refl _, Nat.le_refl _, Nat.le_refl _, by show t.args.length * 8 ≤ _; omega, by show t.reads.length * 16 ≤ _; omega, by show t.writes.length * 16 ≤ _; omega⟩
theorem Dcd.bat {W : World} {base g n : Nat} {Ts : List Tp} {Qs : List Bx} {lo : Nat → Nat} (h : Dcd W base g n n Ts Qs lo) (hz : ∀ t ∈ Ts, WF t ∧ TIn t) : BatAt W (some ⟨g, 0, none⟩) Qs ∧ Qs.map Bx.t = Ts ∧ Qs.length = n := by
  have hts := h.ts
  rw [List.take_of_length_le (by rw [h.len]; omega)] at hts
  refine ⟨⟨h.row.txs0, fun x hx => ?_⟩, hts, h.len⟩
  obtain ⟨i, hi, rfl⟩ := List.mem_iff_getElem.1 hx
  have e : bd Qs i = Qs[i] := by simp [bd, List.getD_eq_getElem?_getD, List.getElem?_eq_getElem hi]
  have hm := hz Qs[i].t (by rw [← hts]; exact List.mem_map.2 ⟨_, hx, rfl⟩)
  rw [← e] at hm ⊢
  exact (h.one i (by rw [← h.len]; exact hi)).ok hm.1 hm.2
theorem OwnBat.lst {w0 w' : World} {Ts : List Tp} {v : Value} (h : OwnBat w0 Ts v w') (hz : ∀ t ∈ Ts, WF t ∧ TIn t) : ∃ g Qs, v = .slice (some ⟨g, 0, none⟩) Ts.length Ts.length ∧ BatAt w' (some ⟨g, 0, none⟩) Qs ∧ Qs.map Bx.t = Ts ∧ Ts.length = Qs.length := by
  obtain ⟨g, Qs, lo, rfl, hd⟩ := h
  obtain ⟨h1, h2, h3⟩ := hd.bat hz
  exact ⟨g, Qs, rfl, h1, h2, h3.symm⟩

def pr0 (s : Nat) : Pr := ⟨⟨#[112, 117, 116]⟩, ⟨1, 0, 1, 0⟩, some ⟨s, 0, none⟩, 2, 2, [(6, 0), (32, 0)]⟩
def t0 : Tp := ⟨0, [10], [], [(0, 1)]⟩
def bx0 (s : Nat) : Bx := ⟨t0, some ⟨s + 2, 0, none⟩, 1, none, 0, some ⟨s + 3, 0, none⟩, 1⟩
def raw0 : List Nat := [1, 0, 1, 20, 0, 1, 0, 0, 128, 0, 0, 0, 0, 0, 0, 1]

theorem chain6 (w : World) (o0 o1 o2 o3 o4 o5 : Obj) :
    ((((((w.alloc o0).alloc o1).alloc o2).alloc o3).alloc o4).alloc o5).heap[w.heap.size]? = some o0 ∧ ((((((w.alloc o0).alloc o1).alloc o2).alloc o3).alloc o4).alloc o5).heap[w.heap.size + 1]? = some o1 ∧ ((((((w.alloc o0).alloc o1).alloc o2).alloc o3).alloc o4).alloc o5).heap[w.heap.size + 1 + 1]? = some o2 ∧
    ((((((w.alloc o0).alloc o1).alloc o2).alloc o3).alloc o4).alloc o5).heap[w.heap.size + 1 + 1 + 1]? = some o3 ∧ ((((((w.alloc o0).alloc o1).alloc o2).alloc o3).alloc o4).alloc o5).heap[w.heap.size + 1 + 1 + 1 + 1]? = some o4 ∧ ((((((w.alloc o0).alloc o1).alloc o2).alloc o3).alloc o4).alloc o5).heap[w.heap.size + 1 + 1 + 1 + 1 + 1]? = some o5 := by
  have a1 : (w.alloc o0).heap.size = w.heap.size + 1 := by simp
  have a2 : ((w.alloc o0).alloc o1).heap.size = w.heap.size + 1 + 1 := by simp
  have a3 : (((w.alloc o0).alloc o1).alloc o2).heap.size = w.heap.size + 1 + 1 + 1 := by simp
  have a4 : ((((w.alloc o0).alloc o1).alloc o2).alloc o3).heap.size = w.heap.size + 1 + 1 + 1 + 1 := by simp
  have a5 : (((((w.alloc o0).alloc o1).alloc o2).alloc o3).alloc o4).heap.size = w.heap.size + 1 + 1 + 1 + 1 + 1 := by simp
  refine ⟨?_, ?_, ?_, ?_, ?_, heap_alloc_new _ _ a5.symm⟩
  · rw [heap_alloc_old _ _ (by omega), heap_alloc_old _ _ (by omega), heap_alloc_old _ _ (by omega), heap_alloc_old _ _ (by omega), heap_alloc_old _ _ (by omega)]; exact heap_alloc_new _ _ rfl
  · rw [heap_alloc_old _ _ (by omega), heap_alloc_old _ _ (by omega), heap_alloc_old _ _ (by omega), heap_alloc_old _ _ (by omega)]; exact heap_alloc_new _ _ a1.symm
  · rw [heap_alloc_old _ _ (by omega), heap_alloc_old _ _ (by omega), heap_alloc_old _ _ (by omega)]; exact heap_alloc_new _ _ a2.symm
  · rw [heap_alloc_old _ _ (by omega), heap_alloc_old _ _ (by omega)]; exact heap_alloc_new _ _ a3.symm
  · rw [heap_alloc_old _ _ (by omega)]; exact heap_alloc_new _ _ a4.symm
theorem cells_at {W : World} {g : Nat} {xs : List Value} {T : TypeId} (h : W.heap[g]? = some (.cells xs.toArray T (0, 0))) (j : Nat) (u : Value) (hu : xs[j]? = some u) : W.cell? ⟨g, 0 + j, none⟩ = some u := by
  rw [Nat.zero_add]
  simp only [World.cell?, h]
  simpa using hu
/-- what plain hands out -/
structure Pl (w w' : World) : Prop where
  lib : ProcsAt w' (some ⟨w.heap.size + 1, 0, none⟩) [pr0 w.heap.size]
  bat : BatAt w' (some ⟨w.heap.size + 1 + 1 + 1 + 1, 0, none⟩) [bx0 w.heap.size]
  raw : BytesAt w' (some ⟨w.heap.size + 1 + 1 + 1 + 1 + 1, 0, none⟩) raw0
  bel : Below w.heap.size w w'

theorem wf_t0 : WF t0 ∧ TIn t0 := ⟨⟨by decide, by decide, by decide, by decide, by decide, rise_nil, ⟨by simp [t0, isKey], by simp [t0]⟩⟩, ⟨by simp [t0, In64], by simp [t0], by simp [t0, KIn, In64]⟩⟩
theorem bat_t0 : batN [t0] = raw0 := by decide
theorem each_t0 (f : Tp → Int) (h : f t0 = 0) : eachN f [t0] = (0, 0) := eachN_zero (by simp) (fun i hi => by
  have : i = 0 := by simp at hi; omega
  subst this; exact h)
theorem sound_t0 (s : Nat) : soundN [pr0 s] t0 = 0 := by
  unfold soundN
  have h1 := wf_t0.1.form
  simp [t0, pr0, pd] at h1 ⊢
  exact h1
end Go.Proofs.Ytlilaicgmdbhcaa.Kk
