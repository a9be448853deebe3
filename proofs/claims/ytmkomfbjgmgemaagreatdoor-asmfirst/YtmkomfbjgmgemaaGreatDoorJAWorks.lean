import Derived.Test.YtmkomfbjgmgemaaGreatDoorJARd
import Derived.Test.YtmkomfbjgmgemaaGreatDoorJAAssem
import Derived.Test.YtmkomfbjgmgemaaGreatDoorJLDecH
/-
  works: the example is assembled, and listed as it stands.
-/
namespace Go.Proofs.YtmkomfbjgmgemaaGreatDoor
open Go.RowKit Go.Sort

theorem ex_out (a1 a2 : Option Addr) (n1 c1 n2 c2 : Nat) : outT (exPs a1 a2 n1 c1 n2 c2) = exL ∧ outE (exPs a1 a2 n1 c1 n2 c2) = 0 := by
  have h1 : listT (exPs a1 a2 n1 c1 n2 c2) = exL := by kernel_rfl
  unfold outT outE
  rw [h1, ex_check, ex_size]
  exact ⟨by simp, by simp⟩
theorem ex_sz : AsSz exA 22 := ⟨by omega, by decide, by decide, by decide, by decide, rfl, by decide, by decide, by simp [exA], by simp [exA], by simp [exA]⟩
/-- what Assemble makes of the example -/
def ExPost (w : World) (e : Ending) (w' : World) : Prop := ∃ g cap cg cc a2 n1 n2 c2, e = .returned (.tuple #[.slice (some ⟨g, 0, none⟩) 2 cap, .nilIface]) ∧ w'.cell? ⟨g, 0, none⟩ = some (.string (S [109, 111, 118, 101])) ∧ w'.cell? ⟨g, 5, none⟩ = some (.slice (some ⟨cg, 0, none⟩) 14 cc) ∧ w'.cell? ⟨cg, 7, none⟩ = some (.int .i64 6) ∧ LibAt w' (some ⟨g, 0, none⟩) (exPs (some ⟨cg, 0, none⟩) a2 n1 cc n2 c2) ∧ 2 ≤ cap ∧ Go.RowKit.Below w.heap.size w w'
theorem ex_post {w w' : World} {e : Ending} (h : AsmPost w exL e w') : ExPost w e w' := by
  rcases h with ⟨v, E, _, h2, _⟩ | ⟨M, B, line, a, Ps, vl, vn, vm, vj, W3, h1, h2, h3, h4, h5⟩
  · rw [ex_lines] at h2; cases h2
  · rw [ex_lines] at h1
    simp only [Except.ok.injEq] at h1
    subst h1
    obtain ⟨a1, a2, n1, c1, n2, c2, rfl⟩ := ex_ps h2.eq
    rcases h5 with ⟨v, _, h6, _⟩ | ⟨v, _, _, h6, _⟩ | ⟨h6, _, _, h7⟩
    · cases h6
    · rw [ex_check] at h6; exact absurd rfl h6
    · have hA := h2.below h7
      obtain ⟨g, cap, e1, hcap⟩ := own_some hA.lib (by show 0 < 2; omega)
      have e1' : vl = .slice (some ⟨g, 0, none⟩) 2 cap := e1
      subst e1'
      have hx := hA.code ⟨S [109, 111, 118, 101], ⟨1, 2, 2, 0⟩, a1, n1, c1, exC1⟩ (by simp [exPs])
      have hn1 : n1 = 14 := hx.1
      subst hn1
      obtain ⟨cg, cc, e2, _⟩ := own_some hx.2 (by show 0 < 14; omega)
      unfold cdV at e2
      simp only [Value.slice.injEq, true_and] at e2
      obtain ⟨rfl, rfl⟩ := e2
      have hlr : w'.ownsRow M 38 6 (.slice (some ⟨g, 0, none⟩) 2 cap) 2 (prcs (exPs (some ⟨cg, 0, none⟩) a2 14 c1 n2 c2)) := hA.lib
      have hcr : w'.ownsRow M 40 2 (.slice (some ⟨cg, 0, none⟩) 14 c1) 14 (cks exC1) := hx.2
      refine ⟨g, cap, cg, c1, a2, 14, n2, c2, h6, ?_, ?_, ?_, hA.libAt ex_sz, hcap, h4⟩
      · rw [World.ownsRow.cellAt hlr 0 (by omega)]; rfl
      · rw [World.ownsRow.cellAt hlr 5 (by omega)]; rfl
      · rw [World.ownsRow.cellAt hcr 7 (by omega)]; rfl
theorem nw_kw {w : World} (h : NwAt w) : KwAt w := fun i hi => by
  obtain rfl | rfl | rfl | rfl : i = 0 ∨ i = 1 ∨ i = 2 ∨ i = 3 := by omega
  · exact h 0 (by omega)
  · exact h 1 (by omega)
  · exact h 2 (by omega)
  · exact h 3 (by omega)
theorem numL_any (w : World) (x : Int) : Calls Tryz.prog 11 #[.int .i64 x] w fun e w' => e = .returned (.int .i64 x) ∧ w' = w := by
  go_enter Tryz.func11, Tryz.ntmps11
  go_wp2
  go_ret
  exact ⟨rfl, rfl⟩
set_option maxRecDepth 100000 in
theorem example_any (w : World) : Calls Tryz.prog 9 #[] w fun e w' => e = .returned (.string (S exL)) ∧ w' = w := by
  go_enter Tryz.func9, Tryz.ntmps9
  go_wp2
  go_ret
  exact ⟨rfl, rfl⟩
set_option maxRecDepth 100000 in
set_option maxHeartbeats 1000000 in
theorem works_any (w : World) (hv : NumVars w) (hs : Vs w) (he : ErrVar w) (hB : 8 ≤ w.heap.size) :
    Calls Tryz.prog 5 #[] w fun e w' => e = .returned (.bool true) ∧ Go.RowKit.Below w.heap.size w w' := by
  have HEx := hidA (fun w => example_any w)
  have HAs := hidA (assemble_any w exL ex_len hv hs.nm (nw_kw hs.nw) he hB)
  have HVs := hidA hs
  clear hv hs he
  have htx : ∃ tx, tx = S exL := ⟨_, rfl⟩
  obtain ⟨tx, htx⟩ := htx
  have HTx := hidA htx
  rw [← htx] at HEx HAs
  clear htx
  go_enter Tryz.func5, Tryz.ntmps5
  go_wp2_with fail
  refine (HEx.out w).mono ?_
  rintro e w0 ⟨rfl, hw0⟩
  have hw0' := hw0.symm
  subst hw0'
  clear hw0
  go_wp2_with fail
  refine HAs.out.mono ?_
  intro e w1 hp
  obtain ⟨g, cap, cg, cc, a2, n1, n2, c2, rfl, y0, y5, y7, hL, hcap, hb⟩ := ex_post hp
  have HLi := hidA (list_any w1 (some ⟨g, 0, none⟩) 2 cap (exPs (some ⟨cg, 0, none⟩) a2 n1 cc n2 c2) hL rfl hcap (by omega) (HVs.out.kept hb))
  rw [(ex_out _ _ _ _ _ _).1, (ex_out _ _ _ _ _ _).2, ← HTx.out] at HLi
  have HB1 := hidA hb
  have hmv : ((S [109, 111, 118, 101]).toList == [109, 111, 118, 101]) = true := by rw [S_toList]; rfl
  clear hp hL hcap hb HAs
  go_wp2_with fail
  refine HLi.out.mono ?_
  rintro e w2 ⟨rfl, hb2⟩
  have HB2 : Hid (Go.RowKit.Below w.heap.size w w2) := HB1.out.trans (hb2.mono HB1.out.size)
  clear hb2 HLi y0 y5 y7
  go_wp2_with fail
  refine (HEx.out w2).mono ?_
  rintro e w3 ⟨rfl, hw3⟩
  have hw3' := hw3.symm
  subst hw3'
  clear hw3
  go_wp2_with fail
  refine (numL_any w2 0).mono ?_
  rintro e w4 ⟨rfl, hw4⟩
  have hw4' := hw4.symm
  subst hw4'
  clear hw4
  go_wp2_with fail
  go_ret
  exact ⟨rfl, HB2.out⟩
end Go.Proofs.YtmkomfbjgmgemaaGreatDoor
/-
  fault: an error's place and number.
-/
namespace Go.Proofs.YtmkomfbjgmgemaaGreatDoor
open Go.RowKit Go.Sort

/-- a fault's box -/
def FB (W : World) (b : Nat) (x y z : Value) : Prop := W.heap[b]? = some (.cells #[x, y, z] 29 (0, 0))
theorem load_fault {W : World} {b : Nat} {x y z : Value} (h : FB W b x y z) : (loadVar 29 ⟨b, 0, none⟩).run Tryz.prog W = .ok (.agg #[x, y, z]) W := by
  have q0 : W.cell? ⟨b, 0, none⟩ = some x := by simp [World.cell?, show W.heap[b]? = _ from h]
  have q1 : W.cell? ⟨b, 1, none⟩ = some y := by simp [World.cell?, show W.heap[b]? = _ from h]
  have q2 : W.cell? ⟨b, 2, none⟩ = some z := by simp [World.cell?, show W.heap[b]? = _ from h]
  simp [go_sem, q0, q1, q2]
set_option maxRecDepth 100000 in
theorem faultNil_any (w : World) : Calls Tryz.prog 7 #[.nilIface] w fun e w' => e = .returned (.agg #[.int .i64 0, .int .i64 0, .int .i64 0]) ∧ Go.RowKit.Below w.heap.size w w' := by
  have hF : FB (w.alloc (.cells #[.int .i64 0, .int .i64 0, .int .i64 0] 29)) w.heap.size (.int .i64 0) (.int .i64 0) (.int .i64 0) := heap_alloc_new _ _ rfl
  have hld := load_fault hF
  have HB := hidA (bel_al w (.cells #[.int .i64 0, .int .i64 0, .int .i64 0] 29))
  clear hF
  go_enter Tryz.func7, Tryz.ntmps7
  go_wp2
  refine bodyPost_ret (v := .agg #[.int .i64 0, .int .i64 0, .int .i64 0]) ?_ rfl ?_
  · simp [results, Tryz.results7, asAddr, hld]
  · exact ⟨rfl, HB.out⟩
/-- what errors.As leaves where it hits: the target has it -/
theorem hit_facts (W : World) (o1 o2 o3 o4 : Obj) (t : Nat) (T : TypeId) (u v : Value) (h : W.heap[t]? = some (.cells #[u] T (0, 0))) : (∀ k, k < W.heap.size → k ≠ t → (((((W.alloc o1).alloc o2).alloc o3).alloc o4).setCell ⟨t, 0, none⟩ v).heap[k]? = W.heap[k]?) ∧ (((((W.alloc o1).alloc o2).alloc o3).alloc o4).setCell ⟨t, 0, none⟩ v).heap[t]? = some (.cells #[v] T (0, 0)) ∧ (∀ C, C ≤ t → Go.RowKit.Below C W (((((W.alloc o1).alloc o2).alloc o3).alloc o4).setCell ⟨t, 0, none⟩ v)) := by
  have ht := (Array.getElem?_eq_some_iff.1 h).1
  have old : ∀ k, k < W.heap.size → ((((W.alloc o1).alloc o2).alloc o3).alloc o4).heap[k]? = W.heap[k]? := fun k hk => (heap_alloc_old _ _ (by simp only [World.size_alloc]; omega)).trans ((heap_alloc_old _ _ (by simp only [World.size_alloc]; omega)).trans ((heap_alloc_old _ _ (by simp only [World.size_alloc]; omega)).trans (heap_alloc_old _ _ hk)))
  refine ⟨fun k hk hne => (heap_setCell_other _ _ _ _ hne).trans (old k hk), heap_setCell_same _ t 0 _ _ _ ((old t ht).trans h), fun C hC => ?_⟩
  exact (((((Below.refl C W).alloc (by omega) _).alloc (by simp only [World.size_alloc]; omega) _).alloc (by simp only [World.size_alloc]; omega) _).alloc (by simp only [World.size_alloc]; omega) _).trans (below_setC _ _ hC)
theorem ErrVar.bel {W W' : World} (h : ErrVar W) {C : Nat} (hb : Go.RowKit.Below C W W') (hC : 8 ≤ C) : ErrVar W' := by
  have h2 := hb.block 0 (by omega)
  unfold ErrVar at h ⊢
  simp only [World.cell?] at h ⊢
  rw [h2]
  exact h
set_option maxRecDepth 100000 in
set_option maxHeartbeats 1000000 in
theorem fault_any (w : World) (v : Value) (line col : Nat) (n : Int) (h : ErrAt w v line col n) (he : ErrVar w) (hB : 8 ≤ w.heap.size) : Calls Tryz.prog 7 #[v] w fun e w' => e = .returned (.agg #[.int .i64 (line : Int), .int .i64 (col : Int), .int .i64 n]) ∧ Go.RowKit.Below w.heap.size w w' := by
  obtain ⟨b, rfl, hb⟩ := h
  have hbl := (Array.getElem?_eq_some_iff.1 hb).1
  obtain ⟨f, hf⟩ : ∃ f, f = w.heap.size := ⟨_, rfl⟩
  obtain ⟨W3, hW3⟩ : ∃ W3, W3 = ((w.alloc (.cells #[.int .i64 0, .int .i64 0, .int .i64 0] 29)).alloc (.cells #[.pointer none] 58)).alloc (.cells #[.int .i64 0] 43) := ⟨_, rfl⟩
  have hB3 : Go.RowKit.Below f w W3 := by rw [hW3, hf]; exact (((Below.refl _ w).alloc (Nat.le_refl _) _).alloc (by simp only [World.size_alloc]; omega) _).alloc (by simp only [World.size_alloc]; omega) _
  have hs3 : W3.heap.size = f + 3 := by rw [hW3, hf]; simp only [World.size_alloc]
  have hf3 : FB W3 f (.int .i64 0) (.int .i64 0) (.int .i64 0) := by rw [hW3, hf]; exact (heap_alloc_old _ _ (by simp only [World.size_alloc]; omega)).trans ((heap_alloc_old _ _ (by simp only [World.size_alloc]; omega)).trans (heap_alloc_new _ _ rfl))
  have hp3 : W3.heap[f + 1]? = some (.cells #[.pointer none] 58 (0, 0)) := by rw [hW3, hf]; exact (heap_alloc_old _ _ (by simp only [World.size_alloc]; omega)).trans (heap_alloc_new _ _ (by simp only [World.size_alloc]))
  have hn3 : W3.heap[f + 2]? = some (.cells #[.int .i64 0] 43 (0, 0)) := by rw [hW3, hf]; exact heap_alloc_new _ _ (by simp only [World.size_alloc])
  have hb3 := (hB3.block b (by omega)).trans hb
  have hE3 := he.bel hB3 (by omega)
  have HA1 := hidA (as_hitP ⟨b, 0, none⟩ ⟨f + 1, 0, none⟩ (.pointer none) W3 hE3 (by unfold World.cell?; rw [hp3]; rfl) (frozen_of_row _ _ 0 _ _ hp3))
  have HF3 := hidA (And.intro hB3 (And.intro hs3 (And.intro hf3 (And.intro hp3 (And.intro hn3 (And.intro hb3 hE3))))))
  have HB' : Hid (8 ≤ f ∧ b < f) := ⟨by omega, by omega⟩
  clear he hb hB3 hs3 hf3 hp3 hn3 hb3 hE3
  go_enter Tryz.func7, Tryz.ntmps7
  go_upto_region 5 with fail
  rw [← hW3]
  clear hW3
  rw [← hf]
  rw [show f + 1 + 1 = f + 2 from rfl]
  have HFq := hidA hf
  clear hbl hB hf
  go_wp2_with fail
  refine HA1.out.mono ?_
  rintro e w4 ⟨rfl, hw4⟩
  obtain ⟨hB3, hs3, hf3, hp3, hn3, hb3, hE3⟩ := HF3.out
  obtain ⟨k1, k2, k3⟩ := hit_facts W3 (.cells #[.pointer (some ⟨f + 1, 0, none⟩)] 60) (.cells #[.pointer (some ⟨8, 60, none⟩), .pointer (some ⟨W3.heap.size, 0, none⟩), .int .u64 150] 85) (.cells #[.pointer (some ⟨8, 60, none⟩), .pointer (some ⟨W3.heap.size, 0, none⟩), .int .u64 150] 85) (.cells #[.pointer (some ⟨b, 0, none⟩)] 58) (f + 1) _ _ (.pointer (some ⟨b, 0, none⟩)) hp3
  rw [← hw4] at k1 k2 k3
  have hbf := HB'.out
  have hB4 := hB3.trans (k3 f (by omega))
  have hs4 : f + 3 ≤ w4.heap.size := by have := (k3 f (by omega)).size; omega
  have hf4 : FB w4 f (.int .i64 0) (.int .i64 0) (.int .i64 0) := (k1 f (by omega) (by omega)).trans hf3
  have hn4 := (k1 (f + 2) (by omega) (by omega)).trans hn3
  have hb4 := (k1 b (by omega) (by omega)).trans hb3
  have hE4 := hE3.bel (k3 f (by omega)) hbf.1
  have HA2 := hidA (as_hitN n ⟨f + 2, 0, none⟩ (.int .i64 0) w4 hE4 (by unfold World.cell?; rw [hn4]; rfl) (frozen_of_row _ _ 0 _ _ hn4))
  have y0 : w4.cell? ⟨f + 1, 0, none⟩ = some (.pointer (some ⟨b, 0, none⟩)) := by unfold World.cell?; rw [k2]; rfl
  have y1 : w4.cell? ⟨b, 2, none⟩ = some (.iface 43 (.int .i64 n)) := by unfold World.cell?; rw [hb4]; rfl
  have HF4 := hidA (And.intro hB4 (And.intro hs4 (And.intro hf4 (And.intro k2 (And.intro hn4 hb4)))))
  clear hB3 hs3 hf3 hp3 hn3 hb3 hE3 k1 k2 k3 hw4 hbf hB4 hs4 hf4 hn4 hb4 hE4 HA1 HF3
  go_wp2_with fail
  refine HA2.out.mono ?_
  rintro e w5 ⟨rfl, hw5⟩
  obtain ⟨hB4, hs4, hf4, hp4, hn4, hb4⟩ := HF4.out
  obtain ⟨k1, k2, k3⟩ := hit_facts w4 (.cells #[.pointer (some ⟨f + 2, 0, none⟩)] 65) (.cells #[.pointer (some ⟨8, 65, none⟩), .pointer (some ⟨w4.heap.size, 0, none⟩), .int .u64 150] 85) (.cells #[.pointer (some ⟨8, 65, none⟩), .pointer (some ⟨w4.heap.size, 0, none⟩), .int .u64 150] 85) (.cells #[.int .i64 n] 43) (f + 2) _ _ (.int .i64 n) hn4
  rw [← hw5] at k1 k2 k3
  have hbf := HB'.out
  have hf5 : FB w5 f (.int .i64 0) (.int .i64 0) (.int .i64 0) := (k1 f (by omega) (by omega)).trans hf4
  have hp5 := (k1 (f + 1) (by omega) (by omega)).trans hp4
  have hb5 := (k1 b (by omega) (by omega)).trans hb4
  have hB5 := hB4.trans (k3 f (by omega))
  have HS5 : Hid (∀ W' : World, (∀ k, k < w5.heap.size → k ≠ f → W'.heap[k]? = w5.heap[k]?) → W'.cell? ⟨f + 1, 0, none⟩ = some (.pointer (some ⟨b, 0, none⟩)) ∧ W'.cell? ⟨b, 0, none⟩ = some (.int .i64 (line : Int)) ∧ W'.cell? ⟨b, 1, none⟩ = some (.int .i64 (col : Int)) ∧ W'.cell? ⟨f + 2, 0, none⟩ = some (.int .i64 n)) := fun W' hk => by
    have q1 := (hk (f + 1) (Array.getElem?_eq_some_iff.1 hp5).1 (by omega)).trans hp5
    have q2 := (hk b (Array.getElem?_eq_some_iff.1 hb5).1 (by omega)).trans hb5
    have q3 := (hk (f + 2) (Array.getElem?_eq_some_iff.1 k2).1 (by omega)).trans k2
    refine ⟨?_, ?_, ?_, ?_⟩ <;> simp [World.cell?, q1, q2, q3]
  have hS6 := HS5.out (((w5.drew.setCell ⟨f, 0, none⟩ (.int .i64 (line : Int))).setCell ⟨f, 1, none⟩ (.int .i64 (col : Int))).setCell ⟨f, 2, none⟩ (.int .i64 n)) (fun k _ hne => (heap_setCell_other _ _ _ _ hne).trans ((heap_setCell_other _ _ _ _ hne).trans (heap_setCell_other _ _ _ _ hne)))
  have hbd : ∀ k, k < w5.heap.size → k ≠ f → w5.drew.heap[k]? = w5.heap[k]? := fun _ _ _ => rfl
  have hf7 : FB ((((w5.setCell ⟨f, 0, none⟩ (.int .i64 (line : Int))).setCell ⟨f, 1, none⟩ (.int .i64 (col : Int))).setCell ⟨f, 2, none⟩ (.int .i64 n)).drew) f (.int .i64 (line : Int)) (.int .i64 (col : Int)) (.int .i64 n) := heap_setCell_same _ f 2 _ _ _ (heap_setCell_same _ f 1 _ _ _ (heap_setCell_same w5 f 0 _ _ _ hf5))
  have hld := load_fault hf7
  have hs5 : f ≤ w5.heap.size := by have := (k3 f (by omega)).size; omega
  have HB6 : Hid (Go.RowKit.Below w.heap.size w (((w5.drew.setCell ⟨f, 0, none⟩ (.int .i64 (line : Int))).setCell ⟨f, 1, none⟩ (.int .i64 (col : Int))).setCell ⟨f, 2, none⟩ (.int .i64 n))) := by
    show Go.RowKit.Below _ _ _
    rw [← HFq.out]
    exact (((hB5.trans ((bel_drewN w5 1).mono hs5)).trans (below_setC _ _ (Nat.le_refl _))).trans (below_setC _ _ (Nat.le_refl _))).trans (below_setC _ _ (Nat.le_refl _))
  have g0 := frozen_of_row w5 f 0 _ _ hf5
  have g1 := frozen_of_row w5 f 1 _ _ hf5
  have g2 := frozen_of_row w5 f 2 _ _ hf5
  have c0 : w5.cell? ⟨f, 0, none⟩ = some (.int .i64 0) := by unfold World.cell?; rw [show w5.heap[f]? = _ from hf5]; rfl
  have c1 : w5.cell? ⟨f, 1, none⟩ = some (.int .i64 0) := by unfold World.cell?; rw [show w5.heap[f]? = _ from hf5]; rfl
  have c2 : w5.cell? ⟨f, 2, none⟩ = some (.int .i64 0) := by unfold World.cell?; rw [show w5.heap[f]? = _ from hf5]; rfl
  clear hB4 hs4 hf4 hp4 hn4 hb4 k1 k2 k3 hw5 hbf hf5 hp5 hb5 hB5 hf7 hs5 y0 y1 HA2 HF4
  go_upto_region 6 with fail
  refine wp_region_held_drew (S := fun w' => w'.cell? ⟨f + 1, 0, none⟩ = some (.pointer (some ⟨b, 0, none⟩)) ∧ w'.cell? ⟨b, 0, none⟩ = some (.int .i64 (line : Int)) ∧ w'.cell? ⟨b, 1, none⟩ = some (.int .i64 (col : Int)) ∧ w'.cell? ⟨f + 2, 0, none⟩ = some (.int .i64 n)) (by kernel_rfl) ?_ (fun hHeld => ?_)
  · exact HS5.out _ hbd
  refine wpAnyH_take (i := 0) (v := .pointer (some ⟨b, 0, none⟩)) rfl (by kernel_rfl) (by kernel_rfl) (by kernel_rfl) (fun _ _ _ h => h) (Or.inl ⟨by rfl, by intro w hSw; (try dsimp only at hSw); go_simp⟩) (by assumption) ?_
  refine wpAnyH_take (i := 1) (v := .pointer (some ⟨b, 0, none⟩)) rfl (by kernel_rfl) (by kernel_rfl) (by kernel_rfl) (fun _ _ _ h => h) (Or.inl ⟨by rfl, by intro w hSw; (try dsimp only at hSw); go_simp⟩) (by assumption) ?_
  refine wpAnyH_take (i := 2) (v := .pointer (some ⟨b, 0, none⟩)) rfl (by kernel_rfl) (by kernel_rfl) (by kernel_rfl) (fun _ _ _ h => h) (Or.inl ⟨by rfl, by intro w hSw; (try dsimp only at hSw); go_simp⟩) (by assumption) ?_
  refine wpAnyH_take (i := 3) (v := .int .i64 (line : Int)) rfl (by kernel_rfl) (by kernel_rfl) (by kernel_rfl) (fun _ _ _ h => h) (Or.inl ⟨by rfl, by intro w hSw; (try dsimp only at hSw); go_simp⟩) (by assumption) ?_
  refine wpAnyH_take (i := 4) (v := .pointer (some ⟨b, 0, none⟩)) rfl (by kernel_rfl) (by kernel_rfl) (by kernel_rfl) (fun _ _ _ h => h) (Or.inl ⟨by rfl, by intro w hSw; (try dsimp only at hSw); go_simp⟩) (by assumption) ?_
  refine wpAnyH_take (i := 5) (v := .pointer (some ⟨b, 0, none⟩)) rfl (by kernel_rfl) (by kernel_rfl) (by kernel_rfl) (fun _ _ _ h => h) (Or.inl ⟨by rfl, by intro w hSw; (try dsimp only at hSw); go_simp⟩) (by assumption) ?_
  refine wpAnyH_take (i := 6) (v := .pointer (some ⟨b, 1, none⟩)) rfl (by kernel_rfl) (by kernel_rfl) (by kernel_rfl) (fun _ _ _ h => h) (Or.inl ⟨by rfl, by intro w hSw; (try dsimp only at hSw); go_simp⟩) (by assumption) ?_
  refine wpAnyH_take (i := 7) (v := .int .i64 (col : Int)) rfl (by kernel_rfl) (by kernel_rfl) (by kernel_rfl) (fun _ _ _ h => h) (Or.inl ⟨by rfl, by intro w hSw; (try dsimp only at hSw); go_simp⟩) (by assumption) ?_
  refine wpAnyH_take (i := 8) (v := .int .i64 n) rfl (by kernel_rfl) (by kernel_rfl) (by kernel_rfl) (fun _ _ _ h => h) (Or.inl ⟨by rfl, by intro w hSw; (try dsimp only at hSw); go_simp⟩) (by assumption) ?_
  refine wpAnyH_take (i := 9) (v := .agg #[.int .i64 (line : Int), .int .i64 (col : Int), .int .i64 n]) rfl (by kernel_rfl) (by kernel_rfl) (by kernel_rfl) (fun _ _ _ h => h) (Or.inl ⟨by rfl, by intro w hSw; (try dsimp only at hSw); go_simp⟩) (by assumption) ?_
  refine wpAnyH_ready (rs := [10]) (by kernel_rfl) (by simp) ?_
  refine AllReadyH.cons rfl (fun K hK => ?_) ?_
  · go_simp
    refine hK.out _ _ (by exact hS6) (fun hHeld => ?_)
    clear hK K
    refine wpAnyH_done (by kernel_rfl) ?_ _
    go_wp2_with fail
    refine bodyPost_ret (v := .agg #[.int .i64 (line : Int), .int .i64 (col : Int), .int .i64 n]) ?_ rfl ?_
    · simp [results, Tryz.results7, asAddr, hld]
    · exact ⟨rfl, HB6.out⟩
  exact AllReadyH.nil
end Go.Proofs.YtmkomfbjgmgemaaGreatDoor
/-
  A TEXT AND MORE LINES BEHIND IT.
-/
namespace Go.Proofs.YtmkomfbjgmgemaaGreatDoor

theorem piece_pre (t u : List UInt8) (f k : Nat) (hk : k ≤ t.length) : pieceL (t ++ u) f k = pieceL t f k := by
  unfold pieceL
  rw [List.take_append_of_le_length hk]
theorem byte_pre (t u : List UInt8) {k : Nat} (hk : k ≤ t.length) : byteAt (t ++ 10 :: u) k = byteAt t k := by
  unfold byteAt
  rw [List.append_assoc, List.getD_eq_getElem?_getD, List.getD_eq_getElem?_getD]
  by_cases h : k < t.length
  · rw [List.getElem?_append_left h, List.getElem?_append_left h]
  · obtain rfl : k = t.length := by omega
    rw [List.getElem?_append_right (Nat.le_refl _), List.getElem?_append_right (Nat.le_refl _)]
    simp
theorem end_pre (t u : List UInt8) (x : Sc) (k c : Nat) (hk : k ≤ t.length) : scEnd (t ++ u) x k c = scEnd t x k c := by
  unfold scEnd
  cases x.wf with
  | none => rfl
  | some f => simp only; rw [piece_pre t u f k hk]
theorem step_pre (t u : List UInt8) (x : Sc) (k c : Nat) (hk : k ≤ t.length) : scStep (t ++ u) x k c = scStep t x k c := by
  unfold scStep
  rw [end_pre t u x k c hk]
theorem run_pre (t u : List UInt8) : ∀ k, k ≤ t.length + 1 → scRun (t ++ 10 :: u) k = scRun t k
  | 0, _ => rfl
  | k + 1, hk => by
    show scStep _ _ _ _ = scStep _ _ _ _
    rw [run_pre t u k (by omega), byte_pre t u (by omega), step_pre t _ _ k _ (by omega)]
theorem lines_more (l : List UInt8) (k : Nat) : ∀ m, ∃ more, (scRun l (k + m)).lines = (scRun l k).lines ++ more
  | 0 => ⟨[], by simp⟩
  | m + 1 => by
    obtain ⟨more, h⟩ := lines_more l k m
    have e : scRun l (k + (m + 1)) = scStep l (scRun l (k + m)) (k + m) (byteAt l (k + m)) := rfl
    obtain ⟨_, _, e1⟩ := scEnd_frm l (scRun l (k + m)) (k + m) (byteAt l (k + m))
    rw [e]
    unfold scStep
    split
    · refine ⟨more ++ [(scEnd l (scRun l (k + m)) (k + m) (byteAt l (k + m))).words], ?_⟩
      show (scEnd l (scRun l (k + m)) (k + m) (byteAt l (k + m))).lines ++ _ = _
      rw [e1, h, List.append_assoc]
    · split
      · exact ⟨more, by show (scEnd l (scRun l (k + m)) (k + m) (byteAt l (k + m))).lines = _; rw [e1, h]⟩
      · split
        · exact ⟨more, h⟩
        · exact ⟨more, by rw [e1, h]⟩
theorem split_pre (t u : List UInt8) : ∃ more, splitN (t ++ 10 :: u) = splitN t ++ more := by
  obtain ⟨more, h⟩ := lines_more (t ++ 10 :: u) (t.length + 1) (u.length + 1)
  refine ⟨more, ?_⟩
  unfold splitN
  rw [← run_pre t u (t.length + 1) (Nat.le_refl _), ← h]
  congr 2
  simp
  omega
theorem linesA_pre (ls more : List (List Wd)) : ∀ k, k ≤ ls.length → linesA (ls ++ more) k = linesA ls k
  | 0, _ => rfl
  | k + 1, hk => by
    rw [linesA, linesA, linesA_pre ls more k (by omega), List.getD_eq_getElem?_getD, List.getD_eq_getElem?_getD, List.getElem?_append_left (by omega)]
/-- an error within the lines stays, whatever lines follow -/
theorem first_stays (t u : List UInt8) {E : Nat × Nat × Int} (h : linesA (splitN t) (splitN t).length = .error E) : linesA (splitN (t ++ 10 :: u)) (splitN (t ++ 10 :: u)).length = .error E := by
  obtain ⟨more, e⟩ := split_pre t u
  rw [e]
  refine linesA_up (i := (splitN t).length) ?_ _ (by simp)
  rw [linesA_pre _ _ _ (Nat.le_refl _)]
  exact h
end Go.Proofs.YtmkomfbjgmgemaaGreatDoor
