/-
  THE WALKS OF Depths, Verify.
-/
import Derived.Test.YtkpggbjibngplaaLSearch
namespace Go.Proofs.Ytkpggbjibngplaa
open Go.RowKit Go.Sort

/-- A PROGRAM IN A BOX -/
def PBox (W : World) (B : Nat) (p : Nums) (ao : Option Addr) (n cap : Nat) : Prop := W.heap[B]? = some (.cells #[.int .i64 p.args, .int .i64 p.reads, .int .i64 p.writes, .int .i64 p.locals, .slice ao n cap] 32 (0, 0))
theorem PBox.new (w : World) (p : Nums) (ao : Option Addr) (n cap : Nat) : PBox (w.alloc (.cells #[.int .i64 p.args, .int .i64 p.reads, .int .i64 p.writes, .int .i64 p.locals, .slice ao n cap] 32)) w.heap.size p ao n cap := heap_alloc_new _ _ rfl
theorem PBox.lt {W : World} {B : Nat} {p : Nums} {ao : Option Addr} {n cap : Nat} (h : PBox W B p ao n cap) : B < W.heap.size := (Array.getElem?_eq_some_iff.1 h).1
theorem PBox.below {W W' : World} {B C : Nat} {p : Nums} {ao : Option Addr} {n cap : Nat} (h : PBox W B p ao n cap) (hb : Below C W W') (hc : B < C) : PBox W' B p ao n cap := (hb.block B hc).trans h
theorem PBox.kept {W W' : World} {B : Nat} {p : Nums} {ao : Option Addr} {n cap : Nat} (h : PBox W B p ao n cap) (hb : Below W.heap.size W W') : PBox W' B p ao n cap := h.below hb h.lt
theorem PBox.cells {W : World} {B : Nat} {p : Nums} {ao : Option Addr} {n cap : Nat} (h : PBox W B p ao n cap) :
    W.cell? ⟨B, 0, none⟩ = some (.int .i64 p.args) ∧ W.cell? ⟨B, 1, none⟩ = some (.int .i64 p.reads) ∧ W.cell? ⟨B, 2, none⟩ = some (.int .i64 p.writes) ∧ W.cell? ⟨B, 3, none⟩ = some (.int .i64 p.locals) ∧ W.cell? ⟨B, 4, none⟩ = some (.slice ao n cap) := by
  refine ⟨?_, ?_, ?_, ?_, ?_⟩ <;> simp [World.cell?, show W.heap[B]? = _ from h]

def DPost (p : Nums) (L : List K) (B : Nat) (e : Ending) (w' : World) : Prop :=
  (verifyN p L ≠ 0 ∧ e = .returned (.tuple #[.slice none 0 0, .int .i64 (verifyN p L)])) ∨
  (verifyN p L = 0 ∧ ∃ g, e = .returned (.tuple #[.slice (some ⟨g, 0, none⟩) (L.length + 1) (L.length + 1), .int .i64 0]) ∧ RowI w' g (depthsN p L).1 ∧ B ≤ g)
theorem look_bound (p : Nums) (n i : Nat) (k : K) : 0 ≤ lookN p n i k ∧ lookN p n i k ≤ 33 := by
  unfold lookN; split; omega; split; omega; split <;> omega

set_option maxRecDepth 100000 in
set_option maxHeartbeats 1000000 in
theorem depths_any (w : World) (p : Nums) (ao : Option Addr) (n cap : Nat) (L : List K) (hp : NIn p) (h : KeysAt w ao L) (hn : n = L.length) :
    Calls Try.prog 32 #[pv p ao n cap] w fun e w' => DPost p L w.heap.size e w' ∧ Below w.heap.size w w' := by
  have HL : Hid (KeysAt w ao L) := h
  have HN : Hid (n = L.length) := hn
  have HP : Hid (NIn p) := hp
  clear h hn hp
  go_enter Try.func32, Try.ntmps32
  go_wp2_with fail
  refine (withinLimits_any _ p ao n cap).mono ?_
  rintro e w1 ⟨rfl, g1⟩
  have HB1 : Hid (PBox w1 w.heap.size p ao n cap) := (PBox.new w p ao n cap).kept (Grew.below g1)
  have HW1 : Hid (Below w.heap.size w w1) := ((Below.refl _ _).alloc (Nat.le_refl _) _).trans ((Grew.below g1).mono (by simp))
  clear g1
  obtain ⟨x0, x1, x2, x3, x4⟩ := HB1.out.cells
  cases hl : limB p n with
  | false =>
    have HV : Hid (verifyN p L = 30) := by unfold verifyN depthsN; rw [← HN.out, hl]; rfl
    go_wp2
    go_ret2
    exact ⟨.inl ⟨by rw [HV.out]; decide, by rw [HV.out]; rfl⟩, HW1.out⟩
  | true =>
    have hm : n ≤ 256 := ((limB_iff p n).1 hl).2.2.2.2
    have HLim : Hid (limB p L.length = true) := by rw [← HN.out]; exact hl
    clear hl
    go_wp2_with fail
    clear x0 x1 x2 x3 x4
    go_loopw [12] (fun x wr => ∃ k : Nat, k ≤ n ∧ x = .int .i64 (k : Int) ∧ Hid (lookAll p L k = 0) ∧ Hid (PBox wr w.heap.size p ao n cap) ∧ Hid (Below w.heap.size w wr)) (fun x _ => n - (intOf x).toNat)
    case atStart => exact ⟨0, by omega, rfl, rfl, HB1, HW1⟩
    case round =>
      clear HB1 HW1
      obtain ⟨k, hk, rfl, HA, HB, HW⟩ := hrel
      obtain ⟨x0, x1, x2, x3, x4⟩ := HB.out.cells
      by_cases hlt : k < n
      · go_wp2_with fail
        refine (look_any wr p ao n cap k L HP.out (HL.out.kept HW.out) HN.out hlt).mono ?_
        rintro e w2 ⟨rfl, hb2⟩
        have HB2 : Hid (PBox w2 w.heap.size p ao n cap) := HB.out.kept hb2
        have HW2 : Hid (Below w.heap.size w w2) := HW.out.trans (hb2.mono HW.out.size)
        have HLk : Hid (lookN p n k (cd L k) = 0 → lookAll p L (k + 1) = 0) := fun h => by
          unfold lookAll firstE
          rw [show firstE _ k = 0 from HA.out, if_neg (by simp), ← HN.out]; exact h
        have HLe : Hid (lookN p n k (cd L k) ≠ 0 → verifyN p L = lookN p n k (cd L k)) := fun h => by
          have e : lookAll p L L.length = lookN p n k (cd L k) := by
            have := firstE_stop (n := L.length) (f := fun i => lookN p L.length i (cd L i)) HA.out (by rw [← HN.out]; exact h) (by rw [← HN.out]; exact hlt)
            unfold lookAll; rw [this, ← HN.out]
          unfold verifyN depthsN
          rw [HLim.out, if_neg (by simp), if_pos (by rw [e]; exact h)]; exact e
        obtain ⟨lb0, lb1⟩ := look_bound p n k (cd L k)
        generalize lookN p n k (cd L k) = le at *
        clear hb2 x0 x1 x2 x3 x4
        by_cases h0 : le = 0
        · subst h0
          have HN2 : Hid (lookAll p L (k + 1) = 0) := HLk.out rfl
          go_wp2
          go_roundw
          case rel => exact ⟨k + 1, by omega, by go_num, HN2, HB2, HW2⟩
          case measure => simp [intOf]; omega
        · have h0' : (le != 0) = true := by simpa using h0
          have HV : Hid (verifyN p L = le) := HLe.out h0
          go_wp2
          go_ret2
          exact ⟨.inl ⟨by rw [HV.out]; exact h0, by rw [HV.out]; rfl⟩, HW2.out⟩
      · obtain rfl : k = n := by omega
        have HS : Hid (lookAll p L L.length = 0) := by rw [← HN.out]; exact HA.out
        go_wp2_with fail
        refine (search_any wr ao k cap L (HL.out.kept HW.out) HN.out hm (sane_of HS.out)).mono ?_
        rintro e w2 ⟨hs, hb2⟩
        have HW2 : Hid (Below w.heap.size w w2) := HW.out.trans (hb2.mono HW.out.size)
        rcases hs with ⟨h1, rfl⟩ | ⟨d, g, h1, rfl, h2, h3⟩
        · have HV : Hid (verifyN p L = 34) := by unfold verifyN depthsN; rw [HLim.out, if_neg (by simp), HS.out, if_neg (by simp), h1]; rfl
          go_wp2
          go_ret2
          exact ⟨.inl ⟨by rw [HV.out]; decide, by rw [HV.out]; rfl⟩, HW2.out⟩
        · have HV : Hid (depthsN p L = (d, 0)) := by unfold depthsN; rw [HLim.out, if_neg (by simp), HS.out, if_neg (by simp), h1]; rfl
          have HR : Hid (RowI w2 g d ∧ wr.heap.size ≤ g) := ⟨h2, h3⟩
          clear h1 h2 h3
          go_wp2
          go_ret2
          refine ⟨.inr ⟨by unfold verifyN; rw [HV.out], g, rfl, by rw [HV.out]; exact HR.out.1, Nat.le_trans HW.out.size HR.out.2⟩, HW2.out⟩

theorem verify_any (w : World) (p : Nums) (ao : Option Addr) (n cap : Nat) (L : List K) (hp : NIn p) (h : KeysAt w ao L) (hn : n = L.length) :
    Calls Try.prog 25 #[pv p ao n cap] w fun e w' => e = .returned (.int .i64 (verifyN p L)) ∧ Below w.heap.size w w' := by
  go_enter Try.func25, Try.ntmps25
  have hb0 : Below w.heap.size w (w.alloc (.cells #[.int .i64 p.args, .int .i64 p.reads, .int .i64 p.writes, .int .i64 p.locals, .slice ao n cap] 32)) := (Below.refl _ _).alloc (Nat.le_refl _) _
  have HC := depths_any (w.alloc (.cells #[.int .i64 p.args, .int .i64 p.reads, .int .i64 p.writes, .int .i64 p.locals, .slice ao n cap] 32)) p ao n cap L hp (h.kept hb0) hn
  have HB0 : Hid (Below w.heap.size w (w.alloc (.cells #[.int .i64 p.args, .int .i64 p.reads, .int .i64 p.writes, .int .i64 p.locals, .slice ao n cap] 32))) := hb0
  clear h hn hp hb0
  go_wp2_with fail
  refine HC.mono ?_
  rintro e w1 ⟨hd, hb1⟩
  have HB : Hid (Below w.heap.size w w1) := HB0.out.trans (hb1.mono HB0.out.size)
  rcases hd with ⟨h1, rfl⟩ | ⟨h1, g, rfl, h2, h3⟩
  · have HV : Hid (verifyN p L ≠ 0) := h1
    clear h1
    go_wp2
    go_ret
    exact ⟨rfl, HB.out⟩
  · have HV : Hid (verifyN p L = 0) := h1
    clear h1 h2 h3
    go_wp2
    go_ret
    exact ⟨by rw [HV.out]; rfl, HB.out⟩

end Go.Proofs.Ytkpggbjibngplaa
