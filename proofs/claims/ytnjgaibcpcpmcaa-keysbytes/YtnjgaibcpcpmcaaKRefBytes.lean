/-
  THE WALK OF THE DOCUMENT's Bytes; bytes there and back.
-/
import Derived.Test.YtnjgaibcpcpmcaaRefFrom
namespace Go.Proofs.Ytnjgaibcpcpmcaa
open Go.RowKit Go.Sort

theorem below_grown' {w w1 : World} {row : Option Nat} {B : Nat} (h : w.grownBy w1 row) (hr : ∀ k, row = some k → B ≤ k) (hB : B ≤ w.heap.size) : Below B w w1 :=
  ⟨h.os, h.tape, h.output, h.size, fun k hk => h.block k (by omega) (fun e => by have := hr k e.symm; omega)⟩

theorem grown_alloc' {w : World} {o : Obj} {row : Option Nat} (w1 : World) (h : (w.alloc o).grownBy w1 row) : w.grownBy w1 row :=
  ⟨h.os, h.tape, h.output, Nat.le_trans (by simp) h.size, fun k hk hne => (h.block k (by simp; omega) hne).trans (Below.heap_alloc w o k hk)⟩

set_option maxHeartbeats 1000000 in
set_option maxRecDepth 20000 in
theorem refBytes_key (w : World) (t : Nat) (r : Int) (ht : t ≤ 65535) (hr : In64 r) :
    Calls Try.prog 14 #[.agg #[.int .i64 (t : Int), .int .i64 r]] w fun e w' => ∃ v, e = .returned (.tuple #[v, .int .i64 0]) ∧ OwnB w' w.heap.size v (keyBytes ((t : Int), r)) ∧ Below w.heap.size w w' := by
  have hk : isKey ((t : Int), r) = true := (isKey_iff _ _).2 (by omega)
  have hlen := keyBytes_length ((t : Int), r)
  have hlt := keyBytes_lt hk
  have HSp : Hid (∀ w, Calls Try.prog 27 #[.agg #[.int .i64 (t : Int), .int .i64 r]] w fun e w' => e = .returned (.agg (cellsU8 (keyBytes ((t : Int), r)))) ∧ ∃ q os, w' = grow (w.drewN q) os) := fun w => ten_any w t r ht hr
  have HCk : Hid (∀ w, Calls Try.prog 10 #[.agg #[.int .i64 (t : Int), .int .i64 r]] w fun e w' => e = .returned (.int .i64 0) ∧ ∃ q os, w' = grow (w.drewN q) os) := fun w => by
    have := refCheck_any w t r
    rwa [hk] at this
  generalize keyBytes ((t : Int), r) = L at *
  clear hk hr ht
  go_enter Try.func14, Try.ntmps14
  go_wp2_with fail
  have B0 : Hid (Box (w.alloc (.cells #[.int .i64 (t : Int), .int .i64 r] 23)) w.heap.size t r) := Box.new rfl
  have HG : Hid (Grew w (w.alloc (.cells #[.int .i64 (t : Int), .int .i64 r] 23))) := (Grew.refl _).alloc _
  generalize w.alloc (.cells #[.int .i64 (t : Int), .int .i64 r] 23) = W at *
  refine (HCk.out W).mono ?_
  rintro e w1 ⟨rfl, g1⟩
  have B1 : Hid (Box w1 w.heap.size t r) := B0.out.grew g1
  have HG1 : Hid (Grew w w1) := HG.out.trans g1
  clear g1 HCk B0 HG
  obtain ⟨p1, p2⟩ := B1.out
  go_wp2_with fail
  refine (HSp.out w1).mono ?_
  rintro e w2 ⟨rfl, g2⟩
  have HG2 : Hid (Grew w w2) := HG1.out.trans g2
  clear g2 HSp HG1 B1 p1 p2
  obtain ⟨a, b, c, d, f, g, i, j, k, l, hL⟩ := list10 hlen
  have hC := cells10 a b c d f g i j k l
  rw [← hL] at hC
  rw [hC]
  go_wp2
  rw [← hC]
  clear hC hL
  have HB2 : Hid (w.heap.size ≤ w2.heap.size) := HG2.out.size
  have HRow : Hid ((w2.alloc (.cells (cellsU8 L) 50)).heap[w2.heap.size]? = some (.cells (cellsU8 L) 50 (0, 0))) := heap_alloc_new _ _ rfl
  have HG3 : Hid (Grew w (w2.alloc (.cells (cellsU8 L) 50))) := HG2.out.alloc _
  have HS3 : Hid ((w2.alloc (.cells (cellsU8 L) 50)).heap.size = w2.heap.size + 1) := by rw [Hid]; simp
  generalize w2.alloc (.cells (cellsU8 L) 50) = W3 at *
  go_loopw [6, 7] (fun x y wr => ∃ n : Nat, n ≤ 10 ∧ y = .int .i64 (n : Int) ∧ Hid (OwnB wr W3.heap.size x (L.take n)) ∧ Hid (Below W3.heap.size W3 wr)) (fun _ y _ => 10 - (intOf y).toNat)
  case atStart => exact ⟨0, by omega, rfl, OwnB.nil _ _, Below.refl _ _⟩
  case round =>
    obtain ⟨n, hn, rfl, hO, hB⟩ := hrel
    by_cases hn' : n < 10
    · have hrow : wr.heap[w2.heap.size]? = some (.cells (cellsU8 L) 50 (0, 0)) := by rw [hB.out.block _ (by rw [HS3.out]; omega)]; exact HRow.out
      have hcell := row_cell hrow n (by omega)
      have hb := getD_lt hlt n
      have HT : Hid (L.take (n + 1) = L.take n ++ [L.getD n 0]) := take_snoc L n (by omega)
      clear hrow
      generalize L.getD n 0 = z at *
      go_wp2_with (at_builtin; refine wpList_append_bytes rfl _ _ rfl W3.heap.size _ (L.take n) rfl (hO.out.alloc _) _ _ _ [z] rfl rfl (byte_src _ _ z rfl hb) (by simp) (by simp; omega) (by have := hB.out.size; simp; omega) ?_; intro v' w4 hown1 hgrow1)
      have HW1 : Hid (OwnB w4 W3.heap.size v' (L.take (n + 1))) := by rw [HT.out]; exact hown1
      have HB1 : Hid (Below W3.heap.size W3 w4) := hB.out.trans (below_grown' (grown_alloc' w4 hgrow1) (fun k hk => (hO.out.2.lt k hk).1) hB.out.size)
      go_roundw
      case rel => exact ⟨n + 1, by omega, by go_num, HW1, HB1⟩
      case measure => simp [intOf]; omega
    · obtain rfl : n = 10 := by omega
      have HE : Hid (L.take 10 = L) := by rw [Hid, List.take_of_length_le (by omega)]
      go_wp2
      go_ret2
      refine ⟨u6, rfl, ?_, ?_⟩
      · have := hO.out.mono HG3.out.size
        rwa [HE.out] at this
      · exact HG3.out.below.trans (hB.out.mono HG3.out.size)

theorem refBytes_none (w : World) (t r : Int) (hk : isKey (t, r) = false) :
    Calls Try.prog 14 #[.agg #[.int .i64 t, .int .i64 r]] w fun e w' => e = .returned (.tuple #[.slice none 0 0, .int .i64 20]) ∧ Grew w w' := by
  have HCk : Hid (∀ w, Calls Try.prog 10 #[.agg #[.int .i64 t, .int .i64 r]] w fun e w' => e = .returned (.int .i64 20) ∧ ∃ q os, w' = grow (w.drewN q) os) := fun w => by
    have := refCheck_any w t r
    rwa [hk] at this
  clear hk
  go_enter Try.func14, Try.ntmps14
  go_wp2_with fail
  refine (HCk.out _).mono ?_
  rintro e w1 ⟨rfl, g1⟩
  have HG1 : Hid (Grew w w1) := ((Grew.refl _).alloc _).trans g1
  clear g1
  go_wp2
  go_ret2
  exact ⟨rfl, HG1.out⟩

end Go.Proofs.Ytnjgaibcpcpmcaa
