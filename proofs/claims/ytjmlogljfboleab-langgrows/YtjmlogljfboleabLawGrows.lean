/-
  THE WALK OF LangGrows.
-/
import Derived.Test.YtjmlogljfboleabLGMath
import Derived.Test.YtjmlogljfboleabLAwake
import Derived.Test.YtjmlogljfboleabLSameI
import Derived.Deep.DeepCutAuto
namespace Go.Proofs.Ytjmlogljfboleab
open Go.RowKit Go.Sort

/-- four numbers in a box -/
def MBox (W : World) (B : Nat) (m0 m1 m2 m3 : Int) : Prop := W.heap[B]? = some (.cells #[.int .i64 m0, .int .i64 m1, .int .i64 m2, .int .i64 m3] 62 (0, 0))
theorem MBox.lt {W : World} {B : Nat} {m0 m1 m2 m3 : Int} (h : MBox W B m0 m1 m2 m3) : B < W.heap.size := (Array.getElem?_eq_some_iff.1 h).1
theorem MBox.kept {W W' : World} {B : Nat} {m0 m1 m2 m3 : Int} (h : MBox W B m0 m1 m2 m3) (hb : Below W.heap.size W W') : MBox W' B m0 m1 m2 m3 := (hb.block B h.lt).trans h
theorem MBox.cells {W : World} {B : Nat} {m0 m1 m2 m3 : Int} (h : MBox W B m0 m1 m2 m3) : W.cell? ⟨B, 0, none⟩ = some (.int .i64 m0) ∧ W.cell? ⟨B, 1, none⟩ = some (.int .i64 m1) ∧ W.cell? ⟨B, 2, none⟩ = some (.int .i64 m2) ∧ W.cell? ⟨B, 3, none⟩ = some (.int .i64 m3) := by
  refine ⟨?_, ?_, ?_, ?_⟩ <;> simp [World.cell?, show W.heap[B]? = _ from h]
/-- what stands: the program, the four numbers, its depths -/
structure GS (w W : World) (p : Nums) (ao : Option Addr) (n cap g : Nat) (d : List Int) (m0 m1 m2 m3 : Int) : Prop where
  bx : PBox W w.heap.size p ao n cap
  mb : MBox W (w.heap.size + 1) m0 m1 m2 m3
  row : RowI W g d
  bel : Below w.heap.size w W
  gl : w.heap.size + 2 ≤ g
theorem GS.kept {w W W' : World} {p : Nums} {ao : Option Addr} {n cap g : Nat} {d : List Int} {m0 m1 m2 m3 : Int} (h : GS w W p ao n cap g d m0 m1 m2 m3) (hb : Below W.heap.size W W') : GS w W' p ao n cap g d m0 m1 m2 m3 :=
  ⟨h.bx.kept hb, h.mb.kept hb, h.row.kept hb, h.bel.trans (hb.mono h.bel.size), h.gl⟩
/-- and the greater program, in the box B -/
structure GQ (w W : World) (p : Nums) (ao : Option Addr) (n cap g : Nat) (d : List Int) (m0 m1 m2 m3 : Int) (B : Nat) (q : Nums) (aq : Option Addr) (nq cq : Nat) : Prop where
  gs : GS w W p ao n cap g d m0 m1 m2 m3
  qb : PBox W B q aq nq cq
  ng : g < B
theorem GQ.kept {w W W' : World} {p : Nums} {ao : Option Addr} {n cap g : Nat} {d : List Int} {m0 m1 m2 m3 : Int} {B : Nat} {q : Nums} {aq : Option Addr} {nq cq : Nat} (h : GQ w W p ao n cap g d m0 m1 m2 m3 B q aq nq cq) (hb : Below W.heap.size W W') : GQ w W' p ao n cap g d m0 m1 m2 m3 B q aq nq cq := ⟨h.gs.kept hb, h.qb.kept hb, h.ng⟩
theorem GQ.set {w W : World} {p : Nums} {ao : Option Addr} {n cap g : Nat} {d : List Int} {m0 m1 m2 m3 : Int} {B : Nat} {q q' : Nums} {aq aq' : Option Addr} {nq cq nq' cq' : Nat} (h : GQ w W p ao n cap g d m0 m1 m2 m3 B q aq nq cq) (i : Nat) (v : Value)
    (hc : (#[.int .i64 q.args, .int .i64 q.reads, .int .i64 q.writes, .int .i64 q.locals, .slice aq nq cq] : Array Value).setIfInBounds i v = #[.int .i64 q'.args, .int .i64 q'.reads, .int .i64 q'.writes, .int .i64 q'.locals, .slice aq' nq' cq']) :
    GQ w (W.setCell ⟨B, i, none⟩ v) p ao n cap g d m0 m1 m2 m3 B q' aq' nq' cq' := by
  have hg := h.gs.gl
  have hn := h.ng
  refine ⟨⟨?_, ?_, h.gs.row.other v (by simp; omega), below_set h.gs.bel _ _ (by simp; omega), h.gs.gl⟩, ?_, h.ng⟩
  · exact (heap_setCell_other W ⟨B, i, none⟩ w.heap.size v (by simp; omega)).trans h.gs.bx
  · exact (heap_setCell_other W ⟨B, i, none⟩ (w.heap.size + 1) v (by simp; omega)).trans h.gs.mb
  · have := heap_setCell_same W B i _ _ v h.qb
    unfold PBox
    rw [this, hc]

def gv (a m : Int) : Int := wrap64 (a + wrap64 ((IntKind.u64.wrap m).tmod (17 - a)))
theorem gv_in {a : Int} (m : Int) (h0 : 0 ≤ a) (h1 : a ≤ 16) : a ≤ gv a m ∧ gv a m ≤ 16 := by
  have hu : 0 ≤ IntKind.u64.wrap m := wrap_u64_nonneg m
  have e : (IntKind.u64.wrap m).tmod (17 - a) = IntKind.u64.wrap m % (17 - a) := Int.tmod_eq_emod_of_nonneg hu
  have r0 := Int.emod_nonneg (IntKind.u64.wrap m) (show 17 - a ≠ 0 by omega)
  have r1 := Int.emod_lt_of_pos (IntKind.u64.wrap m) (show 0 < 17 - a by omega)
  unfold gv
  rw [e]
  generalize IntKind.u64.wrap m % (17 - a) = r at *
  rw [IntWalk.wrap64_in r (by omega), IntWalk.wrap64_in _ (by omega)]
  omega
/-- what is laid of the tail -/
def tOp (op : Int) : Int := wrap64 (10 + wrap64 ((IntKind.u64.wrap op).tmod 10))
theorem tOp_in (op : Int) : 10 ≤ tOp op ∧ tOp op ≤ 19 := by
  have hu : 0 ≤ IntKind.u64.wrap op := wrap_u64_nonneg op
  have e : (IntKind.u64.wrap op).tmod 10 = IntKind.u64.wrap op % 10 := Int.tmod_eq_emod_of_nonneg hu
  unfold tOp
  rw [e]
  generalize IntKind.u64.wrap op = u at *
  rw [IntWalk.wrap64_in (u % 10) (by omega), IntWalk.wrap64_in _ (by omega)]
  omega
def tK (k : K) : K := (tOp k.1, 0)
theorem tK_in (T : List K) : ∀ k ∈ T.map tK, (10 ≤ k.1 ∧ k.1 ≤ 19) ∧ k.2 = 0 := by
  intro k hk
  obtain ⟨x, _, rfl⟩ := List.mem_map.1 hk
  exact ⟨tOp_in x.1, rfl⟩
theorem KeysAt.other {w : World} {ao : Option Addr} {L : List K} (h : KeysAt w ao L) {x : Addr} (v : Value) (hne : ∀ a, ao = some a → a.block ≠ x.block) : KeysAt (w.setCell x v) ao L := by
  rcases h with rfl | ⟨b, off, rfl, hc⟩
  · exact .inl rfl
  · refine .inr ⟨b, off, rfl, fun j u hu => ?_⟩
    have h1 := hc j u hu
    simp only [World.cell?] at h1 ⊢
    rw [heap_setCell_other w x b v (hne _ rfl)]; exact h1
theorem below_drew1 (W : World) : Below W.heap.size W W.drew := ⟨rfl, rfl, rfl, Nat.le_refl _, fun _ _ => rfl⟩

set_option maxRecDepth 100000 in
set_option maxHeartbeats 4000000 in
theorem grows_walk (w : World) (p : Nums) (ao : Option Addr) (n cap : Nat) (L : List K) (hp : NIn p) (h : KeysAt w ao L) (hn : n = L.length) (hnil : ao = none → cap = 0) (m0 m1 m2 m3 : Int)
    (ao2 : Option Addr) (n2 cap2 : Nat) (T : List K) (h2 : KeysAt w ao2 T) (hn2 : n2 = T.length) (hm2 : n2 * 16 ≤ 140737488351232) :
    Calls Try.prog 6 #[pv p ao n cap, .agg #[.int .i64 m0, .int .i64 m1, .int .i64 m2, .int .i64 m3], .slice ao2 n2 cap2] w fun e w' => e = .returned (.bool true) ∧ Below w.heap.size w w' := by
  have HL : Hid (KeysAt w ao L) := h
  have HN : Hid (n = L.length) := hn
  have HP : Hid (NIn p) := hp
  have HT : Hid (KeysAt w ao2 T) := h2
  have HN2 : Hid (n2 = T.length) := hn2
  have HZ : Hid (ao = none → cap = 0) := hnil
  clear h hn hp h2 hn2 hnil
  go_enter Try.func6, Try.ntmps6
  go_wp2_with fail
  refine (awake_any _).mono ?_
  rintro e w1 ⟨rfl, hb1⟩
  have HP1 : Hid (PBox w1 w.heap.size p ao n cap) := ((PBox.new w p ao n cap).kept ((Below.refl _ _).alloc (Nat.le_refl _) _)).kept hb1
  have HM1 : Hid (MBox w1 (w.heap.size + 1) m0 m1 m2 m3) := MBox.kept (heap_alloc_new _ _ (by simp)) hb1
  have HB1 : Hid (Below w.heap.size w w1) := (((Below.refl _ _).alloc (Nat.le_refl _) _).alloc (by simp) _).trans (hb1.mono (by simp; omega))
  have HS1 : Hid (w.heap.size + 2 ≤ w1.heap.size) := by have := hb1.size; simp at this; show _ ≤ _; omega
  clear hb1
  obtain ⟨x0, x1, x2, x3, x4⟩ := HP1.out.cells
  go_wp2_with fail
  refine (depths_any w1 p ao n cap L HP.out (HL.out.kept HB1.out) HN.out).mono ?_
  rintro e w2 ⟨hd, hb2⟩
  have HB2 : Hid (Below w.heap.size w w2) := HB1.out.trans (hb2.mono HB1.out.size)
  clear x0 x1 x2 x3 x4
  rcases hd with ⟨hv, rfl⟩ | ⟨hv, g, rfl, hrow, hg⟩
  · have hv' : (verifyN p L != 0) = true := by simpa using hv
    generalize verifyN p L = v at *
    clear hb2
    go_wp2
    go_ret
    exact ⟨rfl, HB2.out⟩
  · have HVz : Hid (verifyN p L = 0) := hv
    have HG2 : Hid (GS w w2 p ao n cap g (depthsN p L).1 m0 m1 m2 m3) := ⟨HP1.out.kept hb2, HM1.out.kept hb2, hrow, HB2.out, Nat.le_trans HS1.out hg⟩
    obtain ⟨hlim, hlook, d, hrun, hdep⟩ := verify_ok hv
    have HDl : Hid (d.length = n + 1) := by rw [HN.out]; exact runD_length hrun
    have HDd : Hid (depthsN p L = (d, 0)) := hdep
    obtain ⟨⟨p0, p0'⟩, ⟨p1, p1'⟩, ⟨p2, p2'⟩, ⟨p3, p3'⟩, hn256⟩ := (limB_iff p L.length).1 hlim
    rw [← HN.out] at hn256
    rw [hdep] at HG2
    rw [← HN.out]
    clear hrow hg hb2 hlim hlook hrun hdep hv HP1 HM1 HB1 HS1 HB2
    obtain ⟨a0, a1, a2, a3⟩ := p
    simp only at p0 p0' p1 p1' p2 p2' p3 p3'
    go_upto_region 6 with fail
    go_cut [61] (fun x wx => x = .bool false ∧ wx = w2)
    case first =>
      obtain ⟨x0, x1, x2, x3, x4⟩ := HG2.out.bx.cells
      simp only at x0 x1 x2 x3 x4
      have np0 : ¬ a0 < 0 := by omega
      have np0' : ¬ 16 < a0 := by omega
      have np1 : ¬ a1 < 0 := by omega
      have np1' : ¬ 16 < a1 := by omega
      have np2 : ¬ a2 < 0 := by omega
      have np2' : ¬ 16 < a2 := by omega
      have np3 : ¬ a3 < 0 := by omega
      have np3' : ¬ 16 < a3 := by omega
      go_wp2_with fail
      go_meet
      case rel => exact ⟨rfl, rfl⟩
    obtain ⟨rfl, rfl⟩ := hcut
    obtain ⟨x0, x1, x2, x3, x4⟩ := HG2.out.bx.cells
    simp only at x0 x1 x2 x3 x4
    have HQ3 : Hid (GQ w (wc.alloc (.cells #[.int .i64 a0, .int .i64 a1, .int .i64 a2, .int .i64 a3, .slice ao n cap] 37)) ⟨a0, a1, a2, a3⟩ ao n cap g d m0 m1 m2 m3 wc.heap.size ⟨a0, a1, a2, a3⟩ ao n cap) := by
      have hA : Below wc.heap.size wc (wc.alloc (.cells #[.int .i64 a0, .int .i64 a1, .int .i64 a2, .int .i64 a3, .slice ao n cap] 37)) := (Below.refl _ _).alloc (Nat.le_refl _) _
      exact ⟨HG2.out.kept hA, PBox.new wc ⟨a0, a1, a2, a3⟩ ao n cap, HG2.out.row.lt⟩
    go_wp2_with fail
    generalize wc.alloc (.cells #[.int .i64 a0, .int .i64 a1, .int .i64 a2, .int .i64 a3, .slice ao n cap] 37) = W3 at *
    generalize wc.heap.size = B at *
    clear x0 x1 x2 x3 x4
    go_cut [] (fun wx => ∃ b0 : Int, (a0 ≤ b0 ∧ b0 ≤ 16) ∧ Hid (GQ w wx ⟨a0, a1, a2, a3⟩ ao n cap g d m0 m1 m2 m3 B ⟨b0, a1, a2, a3⟩ ao n cap))
    case first =>
      obtain ⟨x0, x1, x2, x3, x4⟩ := HQ3.out.gs.bx.cells
      obtain ⟨y0, y1, y2, y3⟩ := HQ3.out.gs.mb.cells
      simp only at x0 x1 x2 x3 x4
      have f0 : W3.frozen? ⟨B, 0, none⟩ = false := frozen_of_row W3 B 0 _ _ HQ3.out.qb
      obtain ⟨z0, z1, z2, z3, z4⟩ := HQ3.out.qb.cells
      simp only at z0 z1 z2 z3 z4
      have HR : Hid (GQ w (W3.setCell ⟨B, 0, none⟩ (.int .i64 (gv a0 m0))).drew ⟨a0, a1, a2, a3⟩ ao n cap g d m0 m1 m2 m3 B ⟨gv a0 m0, a1, a2, a3⟩ ao n cap) := (HQ3.out.set (q' := ⟨gv a0 m0, a1, a2, a3⟩) 0 _ rfl).kept (below_drew1 _)
      have HI : Hid (a0 ≤ gv a0 m0 ∧ gv a0 m0 ≤ 16) := gv_in m0 p0 p0'
      go_region
      go_wp2_with fail
      go_meet
      case rel => exact ⟨gv a0 m0, HI.out, HR⟩
    obtain ⟨b0, ⟨g0, g0'⟩, HQ4⟩ := hcut
    clear HQ3
    generalize wc = W4 at *
    go_wp2_with fail
    go_cut [] (fun wx => ∃ b1 : Int, (a1 ≤ b1 ∧ b1 ≤ 16) ∧ Hid (GQ w wx ⟨a0, a1, a2, a3⟩ ao n cap g d m0 m1 m2 m3 B ⟨b0, b1, a2, a3⟩ ao n cap))
    case first =>
      obtain ⟨x0, x1, x2, x3, x4⟩ := HQ4.out.gs.bx.cells
      obtain ⟨y0, y1, y2, y3⟩ := HQ4.out.gs.mb.cells
      simp only at x0 x1 x2 x3 x4
      have f0 : W4.frozen? ⟨B, 1, none⟩ = false := frozen_of_row W4 B 1 _ _ HQ4.out.qb
      obtain ⟨z0, z1, z2, z3, z4⟩ := HQ4.out.qb.cells
      simp only at z0 z1 z2 z3 z4
      have HR : Hid (GQ w (W4.setCell ⟨B, 1, none⟩ (.int .i64 (gv a1 m1))).drew ⟨a0, a1, a2, a3⟩ ao n cap g d m0 m1 m2 m3 B ⟨b0, gv a1 m1, a2, a3⟩ ao n cap) := (HQ4.out.set (q' := ⟨b0, gv a1 m1, a2, a3⟩) 1 _ rfl).kept (below_drew1 _)
      have HI : Hid (a1 ≤ gv a1 m1 ∧ gv a1 m1 ≤ 16) := gv_in m1 p1 p1'
      go_region
      go_wp2_with fail
      go_meet
      case rel => exact ⟨gv a1 m1, HI.out, HR⟩
    obtain ⟨b1, ⟨g1, g1'⟩, HQ5⟩ := hcut
    clear HQ4
    generalize wc = W5 at *
    go_wp2_with fail
    go_cut [] (fun wx => ∃ b2 : Int, (a2 ≤ b2 ∧ b2 ≤ 16) ∧ Hid (GQ w wx ⟨a0, a1, a2, a3⟩ ao n cap g d m0 m1 m2 m3 B ⟨b0, b1, b2, a3⟩ ao n cap))
    case first =>
      obtain ⟨x0, x1, x2, x3, x4⟩ := HQ5.out.gs.bx.cells
      obtain ⟨y0, y1, y2, y3⟩ := HQ5.out.gs.mb.cells
      simp only at x0 x1 x2 x3 x4
      have f0 : W5.frozen? ⟨B, 2, none⟩ = false := frozen_of_row W5 B 2 _ _ HQ5.out.qb
      obtain ⟨z0, z1, z2, z3, z4⟩ := HQ5.out.qb.cells
      simp only at z0 z1 z2 z3 z4
      have HR : Hid (GQ w (W5.setCell ⟨B, 2, none⟩ (.int .i64 (gv a2 m2))).drew ⟨a0, a1, a2, a3⟩ ao n cap g d m0 m1 m2 m3 B ⟨b0, b1, gv a2 m2, a3⟩ ao n cap) := (HQ5.out.set (q' := ⟨b0, b1, gv a2 m2, a3⟩) 2 _ rfl).kept (below_drew1 _)
      have HI : Hid (a2 ≤ gv a2 m2 ∧ gv a2 m2 ≤ 16) := gv_in m2 p2 p2'
      go_region
      go_wp2_with fail
      go_meet
      case rel => exact ⟨gv a2 m2, HI.out, HR⟩
    obtain ⟨b2, ⟨g2, g2'⟩, HQ6⟩ := hcut
    clear HQ5
    generalize wc = W6 at *
    go_wp2_with fail
    go_cut [] (fun wx => ∃ b3 : Int, (a3 ≤ b3 ∧ b3 ≤ 16) ∧ Hid (GQ w wx ⟨a0, a1, a2, a3⟩ ao n cap g d m0 m1 m2 m3 B ⟨b0, b1, b2, b3⟩ ao n cap))
    case first =>
      obtain ⟨x0, x1, x2, x3, x4⟩ := HQ6.out.gs.bx.cells
      obtain ⟨y0, y1, y2, y3⟩ := HQ6.out.gs.mb.cells
      simp only at x0 x1 x2 x3 x4
      have f0 : W6.frozen? ⟨B, 3, none⟩ = false := frozen_of_row W6 B 3 _ _ HQ6.out.qb
      obtain ⟨z0, z1, z2, z3, z4⟩ := HQ6.out.qb.cells
      simp only at z0 z1 z2 z3 z4
      have HR : Hid (GQ w (W6.setCell ⟨B, 3, none⟩ (.int .i64 (gv a3 m3))).drew ⟨a0, a1, a2, a3⟩ ao n cap g d m0 m1 m2 m3 B ⟨b0, b1, b2, gv a3 m3⟩ ao n cap) := (HQ6.out.set (q' := ⟨b0, b1, b2, gv a3 m3⟩) 3 _ rfl).kept (below_drew1 _)
      have HI : Hid (a3 ≤ gv a3 m3 ∧ gv a3 m3 ≤ 16) := gv_in m3 p3 p3'
      go_region
      go_wp2_with fail
      go_meet
      case rel => exact ⟨gv a3 m3, HI.out, HR⟩
    obtain ⟨b3, ⟨g3, g3'⟩, HQ7⟩ := hcut
    clear HQ6
    generalize wc = W7 at *
    have HMo : Hid (MoreP ⟨a0, a1, a2, a3⟩ ⟨b0, b1, b2, b3⟩) := ⟨g0, g0', g1, g1', g2, g2', g3, g3'⟩
    have HSm : Hid (depthsN ⟨b0, b1, b2, b3⟩ L = (d, 0) ∧ verifyN ⟨b0, b1, b2, b3⟩ L = 0) := by
      have := grows_same HVz.out HMo.out
      rw [HDd.out] at this; exact this
    have HNq : Hid (NIn ⟨b0, b1, b2, b3⟩) := by unfold NIn In64; show _ ∧ _; simp only; omega
    obtain ⟨z0, z1, z2, z3, z4⟩ := HQ7.out.qb.cells
    simp only at z0 z1 z2 z3 z4
    go_wp2_with fail
    refine (depths_any W7 ⟨b0, b1, b2, b3⟩ ao n cap L HNq.out (HL.out.kept HQ7.out.gs.bel) HN.out).mono ?_
    rintro e W8 ⟨hd8, hb8⟩
    obtain ⟨g8, rfl, hr8⟩ : ∃ g', e = .returned (.tuple #[.slice (some ⟨g', 0, none⟩) (n + 1) (n + 1), .int .i64 0]) ∧ RowI W8 g' d := by
      rcases hd8 with ⟨h1, _⟩ | ⟨_, g', h2, h3, h4⟩
      · exact absurd HSm.out.2 h1
      · rw [HSm.out.1] at h3; rw [← HN.out] at h2; exact ⟨g', h2, h3⟩
    have HQ8 : Hid (GQ w W8 ⟨a0, a1, a2, a3⟩ ao n cap g d m0 m1 m2 m3 B ⟨b0, b1, b2, b3⟩ ao n cap) := HQ7.out.kept hb8
    have HR8 : Hid (RowI W8 g8 d) := hr8
    clear hd8 hb8 hr8 HQ7 z0 z1 z2 z3 z4
    go_wp2_with fail
    refine (sameInts_eq W8 _ _ (n + 1) (n + 1) (n + 1) d (.inr ⟨g8, rfl, HR8.out.read⟩) (.inr ⟨g, rfl, HQ8.out.gs.row.read⟩) HDl.out.symm (by omega)).mono ?_
    rintro e W9 ⟨rfl, gA⟩
    have HQ9 : Hid (GQ w W9 ⟨a0, a1, a2, a3⟩ ao n cap g d m0 m1 m2 m3 B ⟨b0, b1, b2, b3⟩ ao n cap) := HQ8.out.kept (Grew.below gA)
    clear gA HQ8 HR8
    have HL9 : Hid (KeysAt W9 ao L) := HL.out.kept HQ9.out.gs.bel
    have HT9 : Hid (KeysAt W9 ao2 T) := HT.out.kept HQ9.out.gs.bel
    obtain ⟨x0, x1, x2, x3, x4⟩ := HQ9.out.gs.bx.cells
    simp only at x0 x1 x2 x3 x4
    have HLL : Hid (([] : List K).length + L.length ≤ 256) := by have := HN.out; show _ ≤ _; simp; omega
    by_cases hbig : 256 < n + 1 + n2
    · have hbig' : (256 : Int) < (n : Int) + 1 + (n2 : Int) := by omega
      go_wp2_with (at_builtin; refine wpList_append_keys rfl _ _ rfl W9.heap.size (.slice none 0 0) [] rfl (OwnK.nil _ _) _ _ _ L rfl HN.out HL9.out HZ.out (by have := HLL.out; omega) (Nat.le_refl _) ?_; intro v10 w10 ho10 hg10 hat10; have HBx : Hid (Below w.heap.size w w10) := HQ9.out.gs.bel.trans (show Below w.heap.size W9 w10 from ⟨hg10.os, hg10.tape, hg10.output, hg10.size, fun k hk => hg10.block k (by have := HQ9.out.gs.bel.size; omega) (by simp [Value.ownBlock])⟩); obtain ⟨a10, c10, hv10, _, _, _⟩ := ho10.slice; rw [List.nil_append, ← HN.out] at hv10; subst hv10; clear ho10 hg10 hat10)
      go_ret
      exact ⟨rfl, HBx.out⟩
    · have hbig' : ¬ (256 : Int) < (n : Int) + 1 + (n2 : Int) := by omega
      go_wp2_with (first
        | (at_builtin; refine wpList_append_keys rfl _ _ rfl W9.heap.size _ L rfl (HO10.out.alloc _) _ _ _ [(0, 0)] rfl rfl (key_src _ _ 0 0 rfl) (by simp) (by have := HLL.out; simp at this ⊢; omega) (by have := HB10.out.size; simp; omega) ?_; intro v11 w11 ho11 hg11 hat11; have HO11 : Hid (OwnK w11 W9.heap.size v11 (L ++ [(0, 0)])) := ho11; have HB11 : Hid (Below W9.heap.size W9 w11) := (HB10.out.trans ((show Below w10.heap.size w10 _ from (Below.refl _ _).alloc (Nat.le_refl _) _).mono HB10.out.size)).trans (show Below W9.heap.size _ w11 from ⟨hg11.os, hg11.tape, hg11.output, hg11.size, fun k hk => hg11.block k (by have := HB10.out.size; simp; omega) (fun e => by have := (HO10.out.lt k e.symm).1; omega)⟩); clear ho11 hg11 hat11 HO10 HB10)
        | (at_builtin; refine wpList_append_keys rfl _ _ rfl W9.heap.size (.slice none 0 0) [] rfl (OwnK.nil _ _) _ _ _ L rfl HN.out HL9.out HZ.out (by have := HLL.out; omega) (Nat.le_refl _) ?_; intro v10 w10 ho10 hg10 hat10; have HB10 : Hid (Below W9.heap.size W9 w10) := ⟨hg10.os, hg10.tape, hg10.output, hg10.size, fun k hk => hg10.block k hk (by simp [Value.ownBlock])⟩; obtain ⟨a10, c10, hv10, _, _, _⟩ := ho10.slice; rw [List.nil_append] at ho10; rw [List.nil_append, ← HN.out] at hv10; subst hv10; have HO10 : Hid (OwnK w10 W9.heap.size (.slice a10 n c10) L) := ho10; clear ho10 hg10 hat10))
      have HT11 : Hid (T.length = n2) := HN2.out.symm
      have HO0 : Hid (OwnK w11 W9.heap.size v11 (L ++ (0, 0) :: (T.take 0).map tK)) := HO11
      clear HO11 HLL hbig' x0 x1 x2 x3 x4
      go_loopw [12, 13] (fun v x wr => ∃ k : Nat, k ≤ n2 ∧ x = .int .i64 (k : Int) ∧ Hid (OwnK wr W9.heap.size v (L ++ (0, 0) :: (T.take k).map tK)) ∧ Hid (Below W9.heap.size W9 wr)) (fun _ x _ => n2 - (intOf x).toNat)
      case atStart => exact ⟨0, by omega, rfl, HO0, HB11⟩
      case round =>
        clear HO0 HB11
        obtain ⟨k, hk, rfl, HO, HB⟩ := hrel
        by_cases hlt : k < n2
        · have hlt' : k < T.length := by have := HT11.out; omega
          obtain ⟨kb, koff, rfl, c0, c1⟩ := (HT9.out.kept HB.out).get k hlt'
          have HTk : Hid ((T.take (k + 1)).map tK = (T.take k).map tK ++ [tK (cd T k)]) := by
            show _ = _
            rw [List.take_succ_eq_append_getElem hlt', List.map_append]
            simp [cd, List.getD_eq_getElem?_getD, List.getElem?_eq_getElem hlt']
          have HLn : Hid ((L ++ (0, 0) :: (T.take k).map tK).length + 1 ≤ 256) := by
            have h1 := HN.out
            have h2 : (T.take k).length ≤ k := by simp; omega
            simp only [List.length_append, List.length_cons, List.length_map]; show _ ≤ _; omega
          generalize cd T k = kk at *
          obtain ⟨op, a⟩ := kk
          simp only at c0 c1
          go_wp2_with (at_builtin; refine wpList_append_keys rfl _ _ rfl W9.heap.size u12 _ rfl (HO.out.alloc _) _ _ _ [(tOp op, 0)] rfl rfl (key_src _ _ (tOp op) 0 rfl) (by simp) (by have := HLn.out; simp at this ⊢; omega) (by have := HB.out.size; simp; omega) ?_; intro v13 w13 ho13 hg13 hat13)
          have HO13 : Hid (OwnK w13 W9.heap.size v13 (L ++ (0, 0) :: (T.take (k + 1)).map tK)) := by
            rw [HTk.out]
            have e : L ++ (0, 0) :: ((T.take k).map tK ++ [tK (op, a)]) = (L ++ (0, 0) :: (T.take k).map tK) ++ [(tOp op, 0)] := by simp [tK]
            rw [e]; exact ho13
          have HB13 : Hid (Below W9.heap.size W9 w13) := (HB.out.trans ((show Below wr.heap.size wr _ from (Below.refl _ _).alloc (Nat.le_refl _) _).mono HB.out.size)).trans (show Below W9.heap.size _ w13 from ⟨hg13.os, hg13.tape, hg13.output, hg13.size, fun k hk => hg13.block k (by have := HB.out.size; simp; omega) (fun e => by have := (HO.out.lt k e.symm).1; omega)⟩)
          clear ho13 hg13 hat13
          go_roundw
          case rel => exact ⟨k + 1, by omega, by go_num, HO13, HB13⟩
          case measure => simp [intOf]; omega
        · obtain rfl : k = n2 := by omega
          have HGr : Hid (depthsN ⟨b0, b1, b2, b3⟩ (L ++ (0, 0) :: T.map tK) = (d ++ List.replicate (k + 1) (-1), 0) ∧ verifyN ⟨b0, b1, b2, b3⟩ (L ++ (0, 0) :: T.map tK) = 0) := by
            have := grows_tail (T := T.map tK) HVz.out HMo.out (by have := HN.out; have := HT11.out; simp only [List.length_append, List.length_cons, List.length_map]; omega) (tK_in T)
            rw [HDd.out, List.length_map, HT11.out] at this; exact this
          have HLe : Hid (n + 1 + k = (L ++ (0, 0) :: T.map tK).length) := by
            have := HN.out; have := HT11.out; simp only [List.length_append, List.length_cons, List.length_map]; show _ = _; omega
          have HO2 : Hid (OwnK wr W9.heap.size u12 (L ++ (0, 0) :: T.map tK)) := by
            have := HO.out
            rw [show T.take k = T by rw [← HT11.out, List.take_length]] at this; exact this
          generalize L ++ (0, 0) :: T.map tK = LL at *
          obtain ⟨a12, c12, hv12, hk12, _, _⟩ := HO2.out.slice
          rw [← HLe.out] at hv12
          subst hv12
          have HQr : Hid (GQ w wr ⟨a0, a1, a2, a3⟩ ao n cap g d m0 m1 m2 m3 B ⟨b0, b1, b2, b3⟩ ao n cap) := HQ9.out.kept HB.out
          have HQs : Hid (GQ w (wr.setCell ⟨B, 4, none⟩ (.slice a12 (n + 1 + k) c12)) ⟨a0, a1, a2, a3⟩ ao n cap g d m0 m1 m2 m3 B ⟨b0, b1, b2, b3⟩ a12 (n + 1 + k) c12) := HQr.out.set (q' := ⟨b0, b1, b2, b3⟩) 4 _ rfl
          have HKs : Hid (KeysAt (wr.setCell ⟨B, 4, none⟩ (.slice a12 (n + 1 + k) c12)) a12 LL) := hk12.other _ (fun a e => by
            subst e
            obtain ⟨_, h⟩ := HO2.out
            rcases h with ⟨h, _⟩ | ⟨g', c', cu, h, hg', _⟩
            · cases h
            · simp only [Value.slice.injEq, Option.some.injEq] at h
              rw [h.1]
              have := HQ9.out.qb.lt
              simp; omega)
          have f4 : wr.frozen? ⟨B, 4, none⟩ = false := frozen_of_row wr B 4 _ _ HQr.out.qb
          obtain ⟨z0, z1, z2, z3, z4⟩ := HQr.out.qb.cells
          obtain ⟨y0, y1, y2, y3, y4⟩ := HQs.out.qb.cells
          simp only at z0 z1 z2 z3 z4 y0 y1 y2 y3 y4
          clear HO HO2 hk12 HQr HB HQ9
          go_wp2_with fail
          generalize wr.setCell ⟨B, 4, none⟩ (.slice a12 (n + 1 + k) c12) = WA at *
          refine (depths_any WA ⟨b0, b1, b2, b3⟩ a12 (n + 1 + k) c12 LL HNq.out HKs.out HLe.out).mono ?_
          rintro e WB ⟨hdB, hbB⟩
          obtain ⟨gB, rfl, hrB⟩ : ∃ g', e = .returned (.tuple #[.slice (some ⟨g', 0, none⟩) (n + 1 + k + 1) (n + 1 + k + 1), .int .i64 0]) ∧ RowI WB g' (d ++ List.replicate (k + 1) (-1)) := by
            rcases hdB with ⟨h1, _⟩ | ⟨_, g', h2, h3, h4⟩
            · exact absurd HGr.out.2 h1
            · rw [HGr.out.1] at h3; rw [← HLe.out] at h2; exact ⟨g', h2, h3⟩
          have HQB : Hid (GS w WB ⟨a0, a1, a2, a3⟩ ao n cap g d m0 m1 m2 m3) := HQs.out.gs.kept hbB
          have HRB : Hid (RowI WB gB (d ++ List.replicate (k + 1) (-1))) := hrB
          clear hdB hbB hrB HQs z0 z1 z2 z3 z4 y0 y1 y2 y3 y4 f4
          go_wp2_with fail
          refine (sameInts_eq WB (some ⟨gB, 0, none⟩) (some ⟨g, 0, none⟩) (n + 1) (n + 1 + k + 1) (n + 1) d (.inr ⟨gB, rfl, fun j hj => by
            have := HRB.out.cell j (by simp; omega)
            rw [this]; congr 2
            rw [List.getD_eq_getElem?_getD, List.getD_eq_getElem?_getD, List.getElem?_append_left hj]⟩) (.inr ⟨g, rfl, HQB.out.row.read⟩) HDl.out.symm (by omega)).mono ?_
          rintro e WC ⟨rfl, gC⟩
          have HBC : Hid (Below w.heap.size w WC) := HQB.out.bel.trans ((Grew.below gC).mono HQB.out.bel.size)
          have HRC : Hid (RowI WC gB (d ++ List.replicate (k + 1) (-1))) := HRB.out.kept (Grew.below gC)
          clear gC HRB HQB
          go_wp2_with fail
          generalize wr = wy at *
          go_loopw [14] (fun x wr => ∃ i : Nat, n + 1 ≤ i ∧ i ≤ n + 1 + k + 1 ∧ x = .int .i64 (i : Int) ∧ wr = WC) (fun x _ => n + 1 + k + 1 - (intOf x).toNat)
          case atStart => exact ⟨n + 1, by omega, by omega, by go_num, rfl⟩
          case round =>
            obtain ⟨i, hi0, hi, rfl, rfl⟩ := hrel
            by_cases hli : i < n + 1 + k + 1
            · have cc := HRC.out.cell i (by have := HDl.out; simp; omega)
              have e1 : (d ++ List.replicate (k + 1) (-1)).getD i 0 = -1 := by
                have := HDl.out
                rw [List.getD_eq_getElem?_getD, List.getElem?_append_right (by omega), List.getElem?_replicate, if_pos (by omega)]; rfl
              rw [e1] at cc
              clear e1
              go_wp2
              go_roundw
              case rel => exact ⟨i + 1, by omega, by omega, by go_num, by trivial⟩
              case measure => simp [intOf]; omega
            · obtain rfl : i = n + 1 + k + 1 := by omega
              go_wp2
              go_ret
              exact ⟨rfl, HBC.out⟩
end Go.Proofs.Ytjmlogljfboleab
