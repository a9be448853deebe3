/-
  A RECORD OF A JOURNAL, AND WHAT Scan FINDS, AS MATHEMATICS; recordAt.
-/
import Derived.Test.YtcpaonjidioclaaDoorUnsealAny
import Derived.Test.YtcpaonjidioclaaDoorRefUnseal
namespace Go.Proofs.YtcpaonjidioclaaDoor
open Go.RowKit

theorem hidJ {p : Prop} (h : p) : Hid p := h

/-- what Unseal's fourth answer is, and where a record that is whole ends -/
theorem opened_ok (zs : List Nat) (p : Nat) (h : (Rec.opened zs (p : Int)).2.2.2 = 0) : ∃ q : Nat, (Rec.opened zs (p : Int)).2.2.1 = (q : Int) ∧ p + 13 ≤ q ∧ q ≤ zs.length := by
  unfold Rec.opened at h ⊢
  rw [Int.toNat_natCast] at h ⊢
  split at h
  · exact absurd h (by decide)
  · rename_i h1
    rw [if_neg h1]
    split at h
    · exact absurd h (by decide)
    · rename_i h2
      rw [if_neg h2]
      split at h
      · exact absurd h (by decide)
      · rename_i h3
        rw [if_neg h3]
        split at h
        · exact absurd h (by decide)
        · rename_i h4
          rw [if_neg h4]
          split at h
          · exact absurd h (by decide)
          · rename_i h5
            rw [if_neg h5]
            split at h
            · exact absurd h (by decide)
            · rename_i h6
              rw [if_neg h6]
              refine ⟨p + Rec.un4 ((zs.drop p).drop 1) + 13, by simp, by omega, ?_⟩
              rw [List.length_drop] at h5
              omega

/-- records from a place on: how many have been read, where they end, and why -/
def scanF (zs : List Nat) : Nat → Nat → Nat → Nat × Nat × Int
  | 0, n, p => (n, p, 0)
  | f + 1, n, p => if p < zs.length then
      if (Rec.opened zs (p : Int)).2.2.2 = 0 then scanF zs f (n + 1) (Rec.opened zs (p : Int)).2.2.1.toNat else (n, p, (Rec.opened zs (p : Int)).2.2.2)
    else (n, p, 0)
def scanN (zs : List Nat) : Nat × Nat × Int := scanF zs zs.length 0 0

/-- how far a scan has come -/
structure ScanTo (zs : List Nat) (n p : Nat) : Prop where
  le : p ≤ zs.length
  np : n ≤ p
  ex : ∃ f, zs.length - p ≤ f ∧ scanF zs f n p = scanN zs
theorem ScanTo.start (zs : List Nat) : ScanTo zs 0 0 := ⟨Nat.zero_le _, Nat.le_refl _, _, Nat.sub_le _ _, rfl⟩
theorem ScanTo.next {zs : List Nat} {n p : Nat} (h : ScanTo zs n p) (hp : p < zs.length) (ho : (Rec.opened zs (p : Int)).2.2.2 = 0) :
    ∃ q : Nat, (Rec.opened zs (p : Int)).2.2.1 = (q : Int) ∧ p < q ∧ q ≤ zs.length ∧ ScanTo zs (n + 1) q := by
  obtain ⟨q, hq, h1, h2⟩ := opened_ok zs p ho
  obtain ⟨f, hf, he⟩ := h.ex
  refine ⟨q, hq, by omega, h2, h2, by have := h.np; omega, ?_⟩
  cases f with
  | zero => omega
  | succ f =>
    refine ⟨f, by omega, ?_⟩
    rw [← he]
    show _ = if p < zs.length then _ else _
    rw [if_pos hp, if_pos ho, hq, Int.toNat_natCast]
theorem ScanTo.stop {zs : List Nat} {n p : Nat} (h : ScanTo zs n p) (hp : p < zs.length) (ho : (Rec.opened zs (p : Int)).2.2.2 ≠ 0) : scanN zs = (n, p, (Rec.opened zs (p : Int)).2.2.2) := by
  obtain ⟨f, hf, he⟩ := h.ex
  cases f with
  | zero => omega
  | succ f =>
    rw [← he]
    show (if p < zs.length then _ else _) = _
    rw [if_pos hp, if_neg ho]
theorem ScanTo.whole {zs : List Nat} {n p : Nat} (h : ScanTo zs n p) (hp : ¬ p < zs.length) : scanN zs = (n, p, 0) := by
  obtain ⟨f, hf, he⟩ := h.ex
  rw [← he]
  cases f with
  | zero => rfl
  | succ f =>
    show (if p < zs.length then _ else _) = _
    rw [if_neg hp]

/-- an error of a byte's place in memory -/
def ByteErr (w : World) (P : Nat) (at_ code : Int) : Prop := w.heap[P]? = some (.cells #[.int .i64 at_, .iface 41 (.int .i64 code)] 44 (0, 0))
theorem ByteErr.kept {w w' : World} {P : Nat} {a c : Int} (h : ByteErr w P a c) (hb : Below w.heap.size w w') : ByteErr w' P a c := by
  have hP := (Array.getElem?_eq_some_iff.1 h).1
  rw [ByteErr, hb.block P hP]; exact h

theorem wrongAt_any (w : World) (at_ code : Int) :
    Calls Tryd.prog 13 #[.int .i64 at_, .int .i64 code] w fun e w' => e = .returned (.iface 42 (.pointer (some ⟨w.heap.size, 0, none⟩))) ∧ ByteErr w' w.heap.size at_ code ∧ Below w.heap.size w w' := by
  have HB : Hid (ByteErr (w.alloc (.cells #[.int .i64 at_, .iface 41 (.int .i64 code)] 44)) w.heap.size at_ code) := heap_alloc_new _ _
  have HC : Hid (Below w.heap.size w (w.alloc (.cells #[.int .i64 at_, .iface 41 (.int .i64 code)] 44))) := (Below.refl _ _).alloc (Nat.le_refl _) _
  go_enter Tryd.func13, Tryd.ntmps13
  go_wp2
  go_ret
  exact ⟨rfl, HB.out, HC.out⟩

theorem bsetJ {B G i : Nat} {w wr : World} (hb : Below B w wr) (v : Value) (h : B ≤ G) : Below B w (wr.setCell ⟨G, i, none⟩ v) := by
  have h2 : Below B wr (wr.setCell ⟨G, i, none⟩ v) := ⟨rfl, rfl, rfl, by simp, fun k hk => heap_setCell_other wr ⟨G, i, none⟩ k v (by simp; omega)⟩
  exact hb.trans h2
theorem ownJ_same {w w1 : World} {base : Nat} {v : Value} {L : List Nat} (h : OwnB w base v L) (hs : ∀ k, v.ownBlock = some k → w1.heap[k]? = w.heap[k]?) : OwnB w1 base v L := by
  obtain ⟨hz, hl, h0 | ⟨g, cap, cur, rfl, hb, hg, r⟩⟩ := h
  · exact ⟨hz, hl, .inl h0⟩
  · exact ⟨hz, hl, .inr ⟨g, cap, cur, rfl, hb, by rw [hs g rfl]; exact hg, r⟩⟩
/-- a box of three cells that is written over -/
theorem box3 {w : World} {B T : Nat} {a b c : Value} (h : w.heap[B]? = some (.cells #[a, b, c] T (0, 0))) (x y z : Value) :
    (((w.setCell ⟨B, 0, none⟩ x).setCell ⟨B, 1, none⟩ y).setCell ⟨B, 2, none⟩ z).heap[B]? = some (.cells #[x, y, z] T (0, 0)) := by
  have h1 := heap_setCell_same w B 0 _ _ x h
  have h2 := heap_setCell_same _ B 1 _ _ y h1
  have h3 := heap_setCell_same _ B 2 _ _ z h2
  simpa using h3

/-- what recordAt answers -/
def RecAns (w : World) (at_ : Int) (r : Nat × List Nat × Int × Int) (e : Ending) (w' : World) : Prop :=
  Below w.heap.size w w' ∧ ((r.2.2.2 = 0 ∧ ∃ v, e = .returned (.tuple #[.agg #[.int .u8 ((r.1 : Nat) : Int), v, .int .i64 r.2.2.1], .nilIface]) ∧ OwnB w' w.heap.size v r.2.1) ∨
    (r.2.2.2 ≠ 0 ∧ ∃ P, e = .returned (.tuple #[.agg #[.int .u8 0, .slice none 0 0, .int .i64 0], .iface 42 (.pointer (some ⟨P, 0, none⟩))]) ∧ w.heap.size ≤ P ∧ ByteErr w' P at_ r.2.2.2))

set_option maxRecDepth 100000 in
set_option maxHeartbeats 1000000 in
theorem recordAt_any (w : World) (ao : Option Addr) (cap n : Nat) (place : Int) (zs : List Nat) (hn : n = zs.length) (h : BytesAt w ao zs) (hm : n ≤ 140737488351232) (hcap : n ≤ cap) (hmax : cap ≤ maxLen) (hnil : ao = none → cap = 0) (ht : TabAt w) :
    Calls Tryd.prog 9 #[.slice ao n cap, .int .i64 place] w fun e w' => RecAns w place (Rec.opened zs place) e w' := by
  have hA : Below w.heap.size w (w.alloc (.cells #[.int .u8 0, .slice none 0 0, .int .i64 0] 36)) := (Below.refl _ _).alloc (Nat.le_refl _) _
  have HU := hidJ (unseal_any (w.alloc (.cells #[.int .u8 0, .slice none 0 0, .int .i64 0] 36)) ao cap n place zs hn (h.kept hA) hm hcap hmax hnil (ht.kept hA))
  have HA : Hid (Below w.heap.size w (w.alloc (.cells #[.int .u8 0, .slice none 0 0, .int .i64 0] 36))) := hA
  clear hn h hm hcap hmax hnil ht hA
  generalize Rec.opened zs place = r at *
  obtain ⟨kind, load, next, code⟩ := r
  go_enter Tryd.func9, Tryd.ntmps9
  go_wp2_with fail
  refine HU.out.mono ?_
  rintro e w1 ⟨v1, rfl, ho1, hb1⟩
  have hbx : w1.heap[w.heap.size]? = some (.cells #[.int .u8 0, .slice none 0 0, .int .i64 0] 36 (0, 0)) := (hb1.block _ (by simp)).trans (heap_alloc_new _ _)
  have HB1 : Hid (Below w.heap.size w w1) := HA.out.trans (hb1.mono HA.out.size)
  have HO1 : Hid (OwnB w1 (w.heap.size + 1) v1 load) := by
    have : (w.alloc (.cells #[.int .u8 0, .slice none 0 0, .int .i64 0] 36)).heap.size = w.heap.size + 1 := by simp
    rw [← this]; exact ho1
  have HX : Hid (w1.heap[w.heap.size]? = some (.cells #[.int .u8 0, .slice none 0 0, .int .i64 0] 36 (0, 0))) := hbx
  clear HU HA ho1 hb1
  have k0 : w1.cell? ⟨w.heap.size, 0, none⟩ = some (.int .u8 0) := by rw [World.cell?, hbx]; rfl
  have k1 : w1.cell? ⟨w.heap.size, 1, none⟩ = some (.slice none 0 0) := by rw [World.cell?, hbx]; rfl
  have k2 : w1.cell? ⟨w.heap.size, 2, none⟩ = some (.int .i64 0) := by rw [World.cell?, hbx]; rfl
  have z0 : w1.frozen? ⟨w.heap.size, 0, none⟩ = false := frozen_of_row _ _ 0 _ _ hbx
  have z1 : w1.frozen? ⟨w.heap.size, 1, none⟩ = false := frozen_of_row _ _ 1 _ _ hbx
  have z2 : w1.frozen? ⟨w.heap.size, 2, none⟩ = false := frozen_of_row _ _ 2 _ _ hbx
  have HBs : Hid (∀ (x y z : Value), Below w.heap.size w (((w1.setCell ⟨w.heap.size, 0, none⟩ x).setCell ⟨w.heap.size, 1, none⟩ y).setCell ⟨w.heap.size, 2, none⟩ z)) := fun x y z => bsetJ (bsetJ (bsetJ HB1.out _ (Nat.le_refl _)) _ (Nat.le_refl _)) _ (Nat.le_refl _)
  by_cases hc : code = 0
  · subst hc
    obtain ⟨la, lc, hv, _⟩ := HO1.out.slice
    subst hv
    have HE : Hid (RecAns w place (kind, load, next, 0) (.returned (.tuple #[.agg #[.int .u8 (kind : Int), .slice la load.length lc, .int .i64 next], .nilIface])) (((w1.setCell ⟨w.heap.size, 0, none⟩ (.int .u8 (kind : Int))).setCell ⟨w.heap.size, 1, none⟩ (.slice la load.length lc)).setCell ⟨w.heap.size, 2, none⟩ (.int .i64 next))) := by
      refine ⟨HBs.out _ _ _, .inl ⟨rfl, _, rfl, ?_⟩⟩
      refine ownJ_same (HO1.out.mono (Nat.le_succ _)) fun k hk => ?_
      have hk1 := (HO1.out.2.lt k hk).1
      rw [heap_setCell_other _ _ k _ (by simp; omega), heap_setCell_other _ _ k _ (by simp; omega), heap_setCell_other _ _ k _ (by simp; omega)]
    have hbz := box3 hbx (.int .u8 (kind : Int)) (.slice la load.length lc) (.int .i64 next)
    have y0 : (((w1.setCell ⟨w.heap.size, 0, none⟩ (.int .u8 (kind : Int))).setCell ⟨w.heap.size, 1, none⟩ (.slice la load.length lc)).setCell ⟨w.heap.size, 2, none⟩ (.int .i64 next)).cell? ⟨w.heap.size, 0, none⟩ = some (.int .u8 (kind : Int)) := by rw [World.cell?, hbz]; rfl
    have y1 : (((w1.setCell ⟨w.heap.size, 0, none⟩ (.int .u8 (kind : Int))).setCell ⟨w.heap.size, 1, none⟩ (.slice la load.length lc)).setCell ⟨w.heap.size, 2, none⟩ (.int .i64 next)).cell? ⟨w.heap.size, 1, none⟩ = some (.slice la load.length lc) := by rw [World.cell?, hbz]; rfl
    have y2 : (((w1.setCell ⟨w.heap.size, 0, none⟩ (.int .u8 (kind : Int))).setCell ⟨w.heap.size, 1, none⟩ (.slice la load.length lc)).setCell ⟨w.heap.size, 2, none⟩ (.int .i64 next)).cell? ⟨w.heap.size, 2, none⟩ = some (.int .i64 next) := by rw [World.cell?, hbz]; rfl
    clear hbx hbz
    go_wp2_with fail
    refine bodyPost_ret (v := .tuple #[.agg #[.int .u8 (kind : Int), .slice la load.length lc, .int .i64 next], .nilIface]) (by simp [results, Tryd.results9, go_sem, y0, y1, y2]) rfl ?_
    exact HE.out
  · have hcb : (code != 0) = true := by simpa using hc
    have HW := hidJ (wrongAt_any w1 place code)
    clear hbx
    go_wp2_with fail
    refine HW.out.mono ?_
    rintro e w2 ⟨rfl, hbe, hb2⟩
    have hlt : w.heap.size < w1.heap.size := (Array.getElem?_eq_some_iff.1 HX.out).1
    have hbx2 : w2.heap[w.heap.size]? = some (.cells #[.int .u8 0, .slice none 0 0, .int .i64 0] 36 (0, 0)) := (hb2.block _ hlt).trans HX.out
    have HB2 : Hid (Below w.heap.size w w2) := HB1.out.trans (hb2.mono HB1.out.size)
    have j0 : w2.cell? ⟨w.heap.size, 0, none⟩ = some (.int .u8 0) := by rw [World.cell?, hbx2]; rfl
    have j1 : w2.cell? ⟨w.heap.size, 1, none⟩ = some (.slice none 0 0) := by rw [World.cell?, hbx2]; rfl
    have j2 : w2.cell? ⟨w.heap.size, 2, none⟩ = some (.int .i64 0) := by rw [World.cell?, hbx2]; rfl
    have x0 : w2.frozen? ⟨w.heap.size, 0, none⟩ = false := frozen_of_row _ _ 0 _ _ hbx2
    have x1 : w2.frozen? ⟨w.heap.size, 1, none⟩ = false := frozen_of_row _ _ 1 _ _ hbx2
    have x2 : w2.frozen? ⟨w.heap.size, 2, none⟩ = false := frozen_of_row _ _ 2 _ _ hbx2
    have HE : Hid (RecAns w place (kind, load, next, code) (.returned (.tuple #[.agg #[.int .u8 0, .slice none 0 0, .int .i64 0], .iface 42 (.pointer (some ⟨w1.heap.size, 0, none⟩))])) (((w2.setCell ⟨w.heap.size, 0, none⟩ (.int .u8 0)).setCell ⟨w.heap.size, 1, none⟩ (.slice none 0 0)).setCell ⟨w.heap.size, 2, none⟩ (.int .i64 0))) := by
      refine ⟨bsetJ (bsetJ (bsetJ HB2.out _ (Nat.le_refl _)) _ (Nat.le_refl _)) _ (Nat.le_refl _), .inr ⟨hc, _, rfl, HB1.out.size, ?_⟩⟩
      rw [ByteErr, heap_setCell_other _ _ _ _ (by simp; omega), heap_setCell_other _ _ _ _ (by simp; omega), heap_setCell_other _ _ _ _ (by simp; omega)]
      exact hbe
    have hbz := box3 hbx2 (.int .u8 0) (.slice none 0 0) (.int .i64 0)
    have y0 : (((w2.setCell ⟨w.heap.size, 0, none⟩ (.int .u8 0)).setCell ⟨w.heap.size, 1, none⟩ (.slice none 0 0)).setCell ⟨w.heap.size, 2, none⟩ (.int .i64 0)).cell? ⟨w.heap.size, 0, none⟩ = some (.int .u8 0) := by rw [World.cell?, hbz]; rfl
    have y1 : (((w2.setCell ⟨w.heap.size, 0, none⟩ (.int .u8 0)).setCell ⟨w.heap.size, 1, none⟩ (.slice none 0 0)).setCell ⟨w.heap.size, 2, none⟩ (.int .i64 0)).cell? ⟨w.heap.size, 1, none⟩ = some (.slice none 0 0) := by rw [World.cell?, hbz]; rfl
    have y2 : (((w2.setCell ⟨w.heap.size, 0, none⟩ (.int .u8 0)).setCell ⟨w.heap.size, 1, none⟩ (.slice none 0 0)).setCell ⟨w.heap.size, 2, none⟩ (.int .i64 0)).cell? ⟨w.heap.size, 2, none⟩ = some (.int .i64 0) := by rw [World.cell?, hbz]; rfl
    clear hbx2 hbz hbe hb2 hlt HW k0 k1 k2 z0 z1 z2
    go_wp2_with fail
    refine bodyPost_ret (v := .tuple #[.agg #[.int .u8 0, .slice none 0 0, .int .i64 0], .iface 42 (.pointer (some ⟨w1.heap.size, 0, none⟩))]) (by simp [results, Tryd.results9, go_sem, y0, y1, y2]) rfl ?_
    exact HE.out

end Go.Proofs.YtcpaonjidioclaaDoor
