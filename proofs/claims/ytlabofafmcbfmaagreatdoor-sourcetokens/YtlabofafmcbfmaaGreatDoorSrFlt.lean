/-
  SOURCE: fault, an error's place and number. By gen_srflt.py.
-/
import Derived.Test.YtlabofafmcbfmaaGreatDoorSrTkH
import Derived.Test.YtlabofafmcbfmaaGreatDoorAErr
import Derived.Stop.Asserts
namespace Go.Proofs.YtlabofafmcbfmaaGreatDoor
open Go.RowKit Go.Sort Go.Extern

theorem bel_drewN (w : World) (n : Nat) : Go.RowKit.Below w.heap.size w (w.drewN n) := ((Grew.refl w).drewN n).below
def ErrVar (W : World) : Prop := W.cell? ⟨0, 0, none⟩ = some (.iface 96 (.agg #[.pointer (some ⟨10, 28, none⟩)]))
theorem below_setC {C : Nat} {W : World} (a : Addr) (v : Value) (hC : C ≤ a.block) : Go.RowKit.Below C W (W.setCell a v) := ⟨rfl, rfl, rfl, by simp, fun k hk => heap_setCell_other W a k v (by omega)⟩
/-- a fault's box -/
def FB (W : World) (b : Nat) (x y z : Value) : Prop := W.heap[b]? = some (.cells #[x, y, z] 24 (0, 0))
theorem load_fault {W : World} {b : Nat} {x y z : Value} (h : FB W b x y z) : (loadVar 24 ⟨b, 0, none⟩).run Tryz.prog W = .ok (.agg #[x, y, z]) W := by
  have q0 : W.cell? ⟨b, 0, none⟩ = some x := by simp [World.cell?, show W.heap[b]? = _ from h]
  have q1 : W.cell? ⟨b, 1, none⟩ = some y := by simp [World.cell?, show W.heap[b]? = _ from h]
  have q2 : W.cell? ⟨b, 2, none⟩ = some z := by simp [World.cell?, show W.heap[b]? = _ from h]
  simp [go_sem, q0, q1, q2]
set_option maxRecDepth 100000 in
theorem faultNil_any (w : World) : Calls Tryz.prog 6 #[.nilIface] w fun e w' => e = .returned (.agg #[.int .i64 0, .int .i64 0, .int .i64 0]) ∧ Go.RowKit.Below w.heap.size w w' := by
  have hF : FB (w.alloc (.cells #[.int .i64 0, .int .i64 0, .int .i64 0] 24)) w.heap.size (.int .i64 0) (.int .i64 0) (.int .i64 0) := heap_alloc_new _ _ rfl
  have hld := load_fault hF
  have HB := hidS (bel_al w (.cells #[.int .i64 0, .int .i64 0, .int .i64 0] 24))
  clear hF
  go_enter Tryz.func6, Tryz.ntmps6
  go_wp2
  refine bodyPost_ret (v := .agg #[.int .i64 0, .int .i64 0, .int .i64 0]) ?_ rfl ?_
  · simp [results, Tryz.results6, asAddr, hld]
  · exact ⟨rfl, HB.out⟩
/-- what errors.As leaves where it hits: the target has it -/
theorem hit_facts (W : World) (o1 o2 o3 o4 : Obj) (t : Nat) (T : TypeId) (u v : Value) (h : W.heap[t]? = some (.cells #[u] T (0, 0))) : (∀ k, k < W.heap.size → k ≠ t → (((((W.alloc o1).alloc o2).alloc o3).alloc o4).setCell ⟨t, 0, none⟩ v).heap[k]? = W.heap[k]?) ∧ (((((W.alloc o1).alloc o2).alloc o3).alloc o4).setCell ⟨t, 0, none⟩ v).heap[t]? = some (.cells #[v] T (0, 0)) ∧ (∀ C, C ≤ t → Go.RowKit.Below C W (((((W.alloc o1).alloc o2).alloc o3).alloc o4).setCell ⟨t, 0, none⟩ v)) := by
  have ht := (Array.getElem?_eq_some_iff.1 h).1
  have old : ∀ k, k < W.heap.size → ((((W.alloc o1).alloc o2).alloc o3).alloc o4).heap[k]? = W.heap[k]? := fun k hk => (heap_alloc_old _ _ (by simp only [World.size_alloc]; omega)).trans ((heap_alloc_old _ _ (by simp only [World.size_alloc]; omega)).trans ((heap_alloc_old _ _ (by simp only [World.size_alloc]; omega)).trans (heap_alloc_old _ _ hk)))
  refine ⟨fun k hk hne => (heap_setCell_other _ _ _ _ hne).trans (old k hk), heap_setCell_same _ t 0 _ _ _ ((old t ht).trans h), fun C hC => ?_⟩
  exact (((((Below.refl C W).alloc (by omega) _).alloc (by simp only [World.size_alloc]; omega) _).alloc (by simp only [World.size_alloc]; omega) _).alloc (by simp only [World.size_alloc]; omega) _).trans (below_setC _ _ hC)
theorem ErrVar.bel {W W' : World} (h : ErrVar W) {C : Nat} (hb : Go.RowKit.Below C W W') (hC : 10 ≤ C) : ErrVar W' := by
  have h2 := hb.block 0 (by omega)
  unfold ErrVar at h ⊢
  simp only [World.cell?] at h ⊢
  rw [h2]
  exact h
set_option maxRecDepth 100000 in
set_option maxHeartbeats 1000000 in
theorem fault_any (w : World) (v : Value) (line col : Nat) (n : Int) (h : ErrAt w v line col n) (he : ErrVar w) (hB : 10 ≤ w.heap.size) : Calls Tryz.prog 6 #[v] w fun e w' => e = .returned (.agg #[.int .i64 (line : Int), .int .i64 (col : Int), .int .i64 n]) ∧ Go.RowKit.Below w.heap.size w w' := by
  obtain ⟨b, rfl, hb⟩ := h
  have hbl := (Array.getElem?_eq_some_iff.1 hb).1
  obtain ⟨f, hf⟩ : ∃ f, f = w.heap.size := ⟨_, rfl⟩
  obtain ⟨W3, hW3⟩ : ∃ W3, W3 = ((w.alloc (.cells #[.int .i64 0, .int .i64 0, .int .i64 0] 24)).alloc (.cells #[.pointer none] 54)).alloc (.cells #[.int .i64 0] 45) := ⟨_, rfl⟩
  have hB3 : Go.RowKit.Below f w W3 := by rw [hW3, hf]; exact (((Below.refl _ w).alloc (Nat.le_refl _) _).alloc (by simp only [World.size_alloc]; omega) _).alloc (by simp only [World.size_alloc]; omega) _
  have hs3 : W3.heap.size = f + 3 := by rw [hW3, hf]; simp only [World.size_alloc]
  have hf3 : FB W3 f (.int .i64 0) (.int .i64 0) (.int .i64 0) := by rw [hW3, hf]; exact (heap_alloc_old _ _ (by simp only [World.size_alloc]; omega)).trans ((heap_alloc_old _ _ (by simp only [World.size_alloc]; omega)).trans (heap_alloc_new _ _ rfl))
  have hp3 : W3.heap[f + 1]? = some (.cells #[.pointer none] 54 (0, 0)) := by rw [hW3, hf]; exact (heap_alloc_old _ _ (by simp only [World.size_alloc]; omega)).trans (heap_alloc_new _ _ (by simp only [World.size_alloc]))
  have hn3 : W3.heap[f + 2]? = some (.cells #[.int .i64 0] 45 (0, 0)) := by rw [hW3, hf]; exact heap_alloc_new _ _ (by simp only [World.size_alloc])
  have hb3 := (hB3.block b (by omega)).trans hb
  have hE3 := he.bel hB3 (by omega)
  have HA1 := hidS (as_hitP ⟨b, 0, none⟩ ⟨f + 1, 0, none⟩ (.pointer none) W3 hE3 (by unfold World.cell?; rw [hp3]; rfl) (frozen_of_row _ _ 0 _ _ hp3))
  have HF3 := hidS (And.intro hB3 (And.intro hs3 (And.intro hf3 (And.intro hp3 (And.intro hn3 (And.intro hb3 hE3))))))
  have HB' : Hid (10 ≤ f ∧ b < f) := ⟨by omega, by omega⟩
  clear he hb hB3 hs3 hf3 hp3 hn3 hb3 hE3
  go_enter Tryz.func6, Tryz.ntmps6
  go_upto_region 5 with fail
  rw [← hW3]
  clear hW3
  rw [← hf]
  rw [show f + 1 + 1 = f + 2 from rfl]
  have HFq := hidS hf
  clear hbl hB hf
  go_wp2_with fail
  refine HA1.out.mono ?_
  rintro e w4 ⟨rfl, hw4⟩
  obtain ⟨hB3, hs3, hf3, hp3, hn3, hb3, hE3⟩ := HF3.out
  obtain ⟨k1, k2, k3⟩ := hit_facts W3 (.cells #[.pointer (some ⟨f + 1, 0, none⟩)] 56) (.cells #[.pointer (some ⟨10, 56, none⟩), .pointer (some ⟨W3.heap.size, 0, none⟩), .int .u64 150] 76) (.cells #[.pointer (some ⟨10, 56, none⟩), .pointer (some ⟨W3.heap.size, 0, none⟩), .int .u64 150] 76) (.cells #[.pointer (some ⟨b, 0, none⟩)] 54) (f + 1) _ _ (.pointer (some ⟨b, 0, none⟩)) hp3
  rw [← hw4] at k1 k2 k3
  have hbf := HB'.out
  have hB4 := hB3.trans (k3 f (by omega))
  have hs4 : f + 3 ≤ w4.heap.size := by have := (k3 f (by omega)).size; omega
  have hf4 : FB w4 f (.int .i64 0) (.int .i64 0) (.int .i64 0) := (k1 f (by omega) (by omega)).trans hf3
  have hn4 := (k1 (f + 2) (by omega) (by omega)).trans hn3
  have hb4 := (k1 b (by omega) (by omega)).trans hb3
  have hE4 := hE3.bel (k3 f (by omega)) hbf.1
  have HA2 := hidS (as_hitN n ⟨f + 2, 0, none⟩ (.int .i64 0) w4 hE4 (by unfold World.cell?; rw [hn4]; rfl) (frozen_of_row _ _ 0 _ _ hn4))
  have y0 : w4.cell? ⟨f + 1, 0, none⟩ = some (.pointer (some ⟨b, 0, none⟩)) := by unfold World.cell?; rw [k2]; rfl
  have y1 : w4.cell? ⟨b, 2, none⟩ = some (.iface 45 (.int .i64 n)) := by unfold World.cell?; rw [hb4]; rfl
  have HF4 := hidS (And.intro hB4 (And.intro hs4 (And.intro hf4 (And.intro k2 (And.intro hn4 hb4)))))
  clear hB3 hs3 hf3 hp3 hn3 hb3 hE3 k1 k2 k3 hw4 hbf hB4 hs4 hf4 hn4 hb4 hE4 HA1 HF3
  go_wp2_with fail
  refine HA2.out.mono ?_
  rintro e w5 ⟨rfl, hw5⟩
  obtain ⟨hB4, hs4, hf4, hp4, hn4, hb4⟩ := HF4.out
  obtain ⟨k1, k2, k3⟩ := hit_facts w4 (.cells #[.pointer (some ⟨f + 2, 0, none⟩)] 59) (.cells #[.pointer (some ⟨10, 59, none⟩), .pointer (some ⟨w4.heap.size, 0, none⟩), .int .u64 150] 76) (.cells #[.pointer (some ⟨10, 59, none⟩), .pointer (some ⟨w4.heap.size, 0, none⟩), .int .u64 150] 76) (.cells #[.int .i64 n] 45) (f + 2) _ _ (.int .i64 n) hn4
  rw [← hw5] at k1 k2 k3
  have hbf := HB'.out
  have hf5 : FB w5 f (.int .i64 0) (.int .i64 0) (.int .i64 0) := (k1 f (by omega) (by omega)).trans hf4
  have hp5 := (k1 (f + 1) (by omega) (by omega)).trans hp4
  have hb5 := (k1 b (by omega) (by omega)).trans hb4
  have hB5 := hB4.trans (k3 f (by omega))
  have HS5 : Hid (∀ W' : World, (∀ k, k < w5.heap.size → k ≠ f → W'.heap[k]? = w5.heap[k]?) → W'.cell? ⟨f + 1, 0, none⟩ = some (.pointer (some ⟨b, 0, none⟩)) ∧ W'.cell? ⟨b, 0, none⟩ = some (.int .i64 (line : Int)) ∧ W'.cell? ⟨b, 1, none⟩ = some (.int .i64 (col : Int)) ∧ W'.cell? ⟨f + 2, 0, none⟩ = some (.int .i64 n)) := fun W' hk => by
    have q1 := (hk (f + 1) (Array.getElem?_eq_some_iff.1 hp5).1 (by omega)).trans hp5
    have q2 := (hk b (Array.getElem?_eq_some_iff.1 hb5).1 (by omega)).trans hb5
    have q3 := (hk (f + 2) (Array.getElem?_eq_some_iff.1 k2).1 (by omega)).trans k2
    refine ⟨?_, ?_, ?_, ?_⟩ <;> simp [World.cell?, q1, q2, q3]
  have hS6 := HS5.out (((w5.drew.setCell ⟨f, 0, none⟩ (.int .i64 (line : Int))).setCell ⟨f, 1, none⟩ (.int .i64 (col : Int))).setCell ⟨f, 2, none⟩ (.int .i64 n)) (fun k _ hne => (heap_setCell_other _ _ _ _ hne).trans ((heap_setCell_other _ _ _ _ hne).trans (heap_setCell_other _ _ _ _ hne)))
  have hbd : ∀ k, k < w5.heap.size → k ≠ f → w5.drew.heap[k]? = w5.heap[k]? := fun _ _ _ => rfl
  have hf7 : FB ((((w5.setCell ⟨f, 0, none⟩ (.int .i64 (line : Int))).setCell ⟨f, 1, none⟩ (.int .i64 (col : Int))).setCell ⟨f, 2, none⟩ (.int .i64 n)).drew) f (.int .i64 (line : Int)) (.int .i64 (col : Int)) (.int .i64 n) := heap_setCell_same _ f 2 _ _ _ (heap_setCell_same _ f 1 _ _ _ (heap_setCell_same w5 f 0 _ _ _ hf5))
  have hld := load_fault hf7
  have hs5 : f ≤ w5.heap.size := by have := (k3 f (by omega)).size; omega
  have HB6 : Hid (Go.RowKit.Below w.heap.size w (((w5.drew.setCell ⟨f, 0, none⟩ (.int .i64 (line : Int))).setCell ⟨f, 1, none⟩ (.int .i64 (col : Int))).setCell ⟨f, 2, none⟩ (.int .i64 n))) := by
    show Go.RowKit.Below _ _ _
    rw [← HFq.out]
    exact (((hB5.trans ((bel_drewN w5 1).mono hs5)).trans (below_setC _ _ (Nat.le_refl _))).trans (below_setC _ _ (Nat.le_refl _))).trans (below_setC _ _ (Nat.le_refl _))
  have g0 := frozen_of_row w5 f 0 _ _ hf5
  have g1 := frozen_of_row w5 f 1 _ _ hf5
  have g2 := frozen_of_row w5 f 2 _ _ hf5
  have c0 : w5.cell? ⟨f, 0, none⟩ = some (.int .i64 0) := by unfold World.cell?; rw [show w5.heap[f]? = _ from hf5]; rfl
  have c1 : w5.cell? ⟨f, 1, none⟩ = some (.int .i64 0) := by unfold World.cell?; rw [show w5.heap[f]? = _ from hf5]; rfl
  have c2 : w5.cell? ⟨f, 2, none⟩ = some (.int .i64 0) := by unfold World.cell?; rw [show w5.heap[f]? = _ from hf5]; rfl
  clear hB4 hs4 hf4 hp4 hn4 hb4 k1 k2 k3 hw5 hbf hf5 hp5 hb5 hB5 hf7 hs5 y0 y1 HA2 HF4
  go_upto_region 6 with fail
  refine wp_region_held_drew (S := fun w' => w'.cell? ⟨f + 1, 0, none⟩ = some (.pointer (some ⟨b, 0, none⟩)) ∧ w'.cell? ⟨b, 0, none⟩ = some (.int .i64 (line : Int)) ∧ w'.cell? ⟨b, 1, none⟩ = some (.int .i64 (col : Int)) ∧ w'.cell? ⟨f + 2, 0, none⟩ = some (.int .i64 n)) (by kernel_rfl) ?_ (fun hHeld => ?_)
  · exact HS5.out _ hbd
  refine wpAnyH_take (i := 0) (v := .pointer (some ⟨b, 0, none⟩)) rfl (by kernel_rfl) (by kernel_rfl) (by kernel_rfl) (fun _ _ _ h => h) (Or.inl ⟨by rfl, by intro w hSw; (try dsimp only at hSw); go_simp⟩) (by assumption) ?_
  refine wpAnyH_take (i := 1) (v := .pointer (some ⟨b, 0, none⟩)) rfl (by kernel_rfl) (by kernel_rfl) (by kernel_rfl) (fun _ _ _ h => h) (Or.inl ⟨by rfl, by intro w hSw; (try dsimp only at hSw); go_simp⟩) (by assumption) ?_
  refine wpAnyH_take (i := 2) (v := .pointer (some ⟨b, 0, none⟩)) rfl (by kernel_rfl) (by kernel_rfl) (by kernel_rfl) (fun _ _ _ h => h) (Or.inl ⟨by rfl, by intro w hSw; (try dsimp only at hSw); go_simp⟩) (by assumption) ?_
  refine wpAnyH_take (i := 3) (v := .int .i64 (line : Int)) rfl (by kernel_rfl) (by kernel_rfl) (by kernel_rfl) (fun _ _ _ h => h) (Or.inl ⟨by rfl, by intro w hSw; (try dsimp only at hSw); go_simp⟩) (by assumption) ?_
  refine wpAnyH_take (i := 4) (v := .pointer (some ⟨b, 0, none⟩)) rfl (by kernel_rfl) (by kernel_rfl) (by kernel_rfl) (fun _ _ _ h => h) (Or.inl ⟨by rfl, by intro w hSw; (try dsimp only at hSw); go_simp⟩) (by assumption) ?_
  refine wpAnyH_take (i := 5) (v := .pointer (some ⟨b, 0, none⟩)) rfl (by kernel_rfl) (by kernel_rfl) (by kernel_rfl) (fun _ _ _ h => h) (Or.inl ⟨by rfl, by intro w hSw; (try dsimp only at hSw); go_simp⟩) (by assumption) ?_
  refine wpAnyH_take (i := 6) (v := .pointer (some ⟨b, 1, none⟩)) rfl (by kernel_rfl) (by kernel_rfl) (by kernel_rfl) (fun _ _ _ h => h) (Or.inl ⟨by rfl, by intro w hSw; (try dsimp only at hSw); go_simp⟩) (by assumption) ?_
  refine wpAnyH_take (i := 7) (v := .int .i64 (col : Int)) rfl (by kernel_rfl) (by kernel_rfl) (by kernel_rfl) (fun _ _ _ h => h) (Or.inl ⟨by rfl, by intro w hSw; (try dsimp only at hSw); go_simp⟩) (by assumption) ?_
  refine wpAnyH_take (i := 8) (v := .int .i64 n) rfl (by kernel_rfl) (by kernel_rfl) (by kernel_rfl) (fun _ _ _ h => h) (Or.inl ⟨by rfl, by intro w hSw; (try dsimp only at hSw); go_simp⟩) (by assumption) ?_
  refine wpAnyH_take (i := 9) (v := .agg #[.int .i64 (line : Int), .int .i64 (col : Int), .int .i64 n]) rfl (by kernel_rfl) (by kernel_rfl) (by kernel_rfl) (fun _ _ _ h => h) (Or.inl ⟨by rfl, by intro w hSw; (try dsimp only at hSw); go_simp⟩) (by assumption) ?_
  refine wpAnyH_ready (rs := [10]) (by kernel_rfl) (by simp) ?_
  refine AllReadyH.cons rfl (fun K hK => ?_) ?_
  · go_simp
    refine hK.out _ _ (by exact hS6) (fun hHeld => ?_)
    clear hK K
    refine wpAnyH_done (by kernel_rfl) ?_ _
    go_wp2_with fail
    refine bodyPost_ret (v := .agg #[.int .i64 (line : Int), .int .i64 (col : Int), .int .i64 n]) ?_ rfl ?_
    · simp [results, Tryz.results6, asAddr, hld]
    · exact ⟨rfl, HB6.out⟩
  exact AllReadyH.nil
theorem asgnM (w : World) : (ReflectliteType.relation "AssignableTo" ReflectliteType.assignableTo #[.agg #[.pointer (some ⟨10, 45, none⟩)], .iface 96 (.agg #[.pointer (some ⟨10, 54, none⟩)])]).run Tryz.prog w = .ok (.bool false) w := by kernel_rfl
theorem lackM0 (v : Value) (xT : TypeId) (w : World) : (Instr.typeAssert (.iface 45 v) xT 101 true).run Tryz.prog w = .ok (.tuple #[.nilIface, .bool false]) w := run_typeAssert_lacksB Tryz.underlying101 (by kernel_rfl) (by kernel_rfl) v xT w
theorem lackM1 (v : Value) (xT : TypeId) (w : World) : (Instr.typeAssert (.iface 45 v) xT 104 true).run Tryz.prog w = .ok (.tuple #[.nilIface, .bool false]) w := run_typeAssert_lacksB Tryz.underlying104 (by kernel_rfl) (by kernel_rfl) v xT w
theorem lackM2 (v : Value) (xT : TypeId) (w : World) : (Instr.typeAssert (.iface 45 v) xT 106 true).run Tryz.prog w = .ok (.tuple #[.nilIface, .bool false]) w := run_typeAssert_lacksB Tryz.underlying106 (by kernel_rfl) (by kernel_rfl) v xT w
set_option maxRecDepth 100000 in
set_option maxHeartbeats 4000000 in
theorem as_missN (e : Int) (t : Addr) (w : World) (hg : w.cell? ⟨0, 0, none⟩ = some (.iface 96 (.agg #[.pointer (some ⟨10, 28, none⟩)]))) :
    Calls Tryz.prog 21 #[.iface 45 (.int .i64 e), .iface 56 (.pointer (some t))] w fun ev w' => ev = .returned (.bool false) ∧ Go.RowKit.Below w.heap.size w w' := by
  have h1 := @run_callFunc_extern Tryz.prog 37 _ (fun args => ReflectliteValue.unpack (args.getD 0 (.tuple #[]))) Tryz.func37 (by kernel_rfl) (by kernel_rfl) (by kernel_rfl) (by kernel_rfl)
  have h2 := @run_callFunc_extern Tryz.prog 38 _ (ReflectliteValue.methodAny (ReflectliteValue.valueError "reflectlite.Value.Type" 0) (fun t _ _ _ => ReflectliteType.toType t)) Tryz.func38 (by kernel_rfl) (by kernel_rfl) (by kernel_rfl) (by kernel_rfl)
  have h3 := @run_callFunc_extern Tryz.prog 39 _ (ReflectliteValue.method (ReflectliteValue.valueError "reflectlite.Value.IsNil" 0) ReflectliteValue.isNil) Tryz.func39 (by kernel_rfl) (by kernel_rfl) (by kernel_rfl) (by kernel_rfl)
  have h4 := @run_callFunc_extern Tryz.prog 116 _ (ReflectliteType.abiMethod fun t => do pure (.int .u8 (← Rtype.kind t))) Tryz.func116 (by kernel_rfl) (by kernel_rfl) (by kernel_rfl) (by kernel_rfl)
  have h5 := @run_callFunc_extern Tryz.prog 128 _ (ReflectliteType.method ReflectliteType.elem) Tryz.func128 (by kernel_rfl) (by kernel_rfl) (by kernel_rfl) (by kernel_rfl)
  have h6 := @run_callFunc_extern Tryz.prog 129 _ (ReflectliteType.relation "Implements" ReflectliteType.implements_) Tryz.func129 (by kernel_rfl) (by kernel_rfl) (by kernel_rfl) (by kernel_rfl)
  have h7 := @run_callFunc_extern Tryz.prog 53 _ ReflectliteType.typeOf Tryz.func53 (by kernel_rfl) (by kernel_rfl) (by kernel_rfl) (by kernel_rfl)
  have h8 := @run_callFunc_extern Tryz.prog 126 _ (ReflectliteType.relation "AssignableTo" ReflectliteType.assignableTo) Tryz.func126 (by kernel_rfl) (by kernel_rfl) (by kernel_rfl) (by kernel_rfl)
  have f1 := valTP
  have f2 := typTP
  have f3 := m_kind
  have f4 := m_elem
  have f5 := m_impl
  have f6 := m_asgn
  have f7 := kindTP
  have f8 := kindEP
  have f9 := elemTP
  have f10 := typeEN
  have f11 := asgnM
  have f12 := implP
  have n8 := isNilP ⟨w.heap.size, 0, none⟩ t ((w.alloc (.cells #[.pointer (some t)] 56)).alloc (.cells #[.pointer (some ⟨10, 56, none⟩), .pointer (some ⟨w.heap.size, 0, none⟩), .int .u64 150] 76)) (by simp)
  have hlt : 0 < w.heap.size := cell_lt' hg
  have hg2 : ((w.alloc (.cells #[.pointer (some t)] 56)).alloc (.cells #[.pointer (some ⟨10, 56, none⟩), .pointer (some ⟨w.heap.size, 0, none⟩), .int .u64 150] 76)).cell? ⟨0, 0, none⟩ = some (.iface 96 (.agg #[.pointer (some ⟨10, 28, none⟩)])) := by
    rw [World.cell?_alloc_lt _ _ ⟨0, 0, none⟩ (by simp <;> omega), World.cell?_alloc_lt _ _ ⟨0, 0, none⟩ hlt]; exact hg
  have l0 := lackM0
  have l1 := lackM1
  have l2 := lackM2
  have HB : Hid (Go.RowKit.Below w.heap.size w (((w.alloc (.cells #[.pointer (some t)] 56)).alloc (.cells #[.pointer (some ⟨10, 56, none⟩), .pointer (some ⟨w.heap.size, 0, none⟩), .int .u64 150] 76)).alloc (.cells #[.pointer (some ⟨10, 56, none⟩), .pointer (some ⟨w.heap.size, 0, none⟩), .int .u64 150] 76))) := ((bel_al _ _).trans ((bel_al _ _).mono (by simp))).trans ((bel_al _ _).mono (by simp; omega))
  go_enter Tryz.func21, Tryz.ntmps21
  go_wp2
  refine wp_loop_rounds 1 ?_
  rw [rounds_succ]
  go_wp2
  go_ret
  exact ⟨rfl, HB.out⟩
theorem eqlM (w : World) : (binOp .eql 28 (.iface 45 (.int .i64 44)) (.iface 45 (.int .i64 44))).run Tryz.prog w = .ok (.bool true) w := by kernel_rfl
set_option maxRecDepth 100000 in
set_option maxHeartbeats 4000000 in
theorem faultLong_any (w : World) (he : ErrVar w) (hB : 10 ≤ w.heap.size) : Calls Tryz.prog 6 #[.iface 45 (.int .i64 44)] w fun e w' => e = .returned (.agg #[.int .i64 0, .int .i64 0, .int .i64 44]) ∧ Go.RowKit.Below w.heap.size w w' := by
  obtain ⟨f, hf⟩ : ∃ f, f = w.heap.size := ⟨_, rfl⟩
  obtain ⟨W3, hW3⟩ : ∃ W3, W3 = ((w.alloc (.cells #[.int .i64 0, .int .i64 0, .int .i64 0] 24)).alloc (.cells #[.pointer none] 54)).alloc (.cells #[.int .i64 0] 45) := ⟨_, rfl⟩
  have hB3 : Go.RowKit.Below f w W3 := by rw [hW3, hf]; exact (((Below.refl _ w).alloc (Nat.le_refl _) _).alloc (by simp only [World.size_alloc]; omega) _).alloc (by simp only [World.size_alloc]; omega) _
  have hf3 : FB W3 f (.int .i64 0) (.int .i64 0) (.int .i64 0) := by rw [hW3, hf]; exact (heap_alloc_old _ _ (by simp only [World.size_alloc]; omega)).trans ((heap_alloc_old _ _ (by simp only [World.size_alloc]; omega)).trans (heap_alloc_new _ _ rfl))
  have hE3 := he.bel hB3 (by omega)
  have HA1 := hidS (as_missN 44 ⟨f + 1, 0, none⟩ W3 hE3)
  have HF3 := hidS (And.intro hB3 hf3)
  have eq := eqlM
  clear he hB3 hf3 hE3
  go_enter Tryz.func6, Tryz.ntmps6
  go_upto_region 5 with fail
  rw [← hW3]
  clear hW3
  rw [← hf]
  have HFq := hidS hf
  clear hB hf
  go_wp2_with fail
  refine HA1.out.mono ?_
  rintro e w4 ⟨rfl, hb4⟩
  have hF4 : FB w4 f (.int .i64 0) (.int .i64 0) (.int .i64 0) := (hb4.block f (Array.getElem?_eq_some_iff.1 HF3.out.2).1).trans HF3.out.2
  have hc0 : w4.cell? ⟨f, 0, none⟩ = some (.int .i64 0) := by unfold World.cell?; rw [show w4.heap[f]? = _ from hF4]; rfl
  have hc1 : w4.cell? ⟨f, 1, none⟩ = some (.int .i64 0) := by unfold World.cell?; rw [show w4.heap[f]? = _ from hF4]; rfl
  have hc2 : w4.cell? ⟨f, 2, none⟩ = some (.int .i64 0) := by unfold World.cell?; rw [show w4.heap[f]? = _ from hF4]; rfl
  have g0 := frozen_of_row w4 f 0 _ _ hF4
  have g1 := frozen_of_row w4 f 1 _ _ hF4
  have g2 := frozen_of_row w4 f 2 _ _ hF4
  have hF5 : FB (((w4.setCell ⟨f, 0, none⟩ (.int .i64 0)).setCell ⟨f, 1, none⟩ (.int .i64 0)).setCell ⟨f, 2, none⟩ (.int .i64 44)) f (.int .i64 0) (.int .i64 0) (.int .i64 44) := heap_setCell_same _ f 2 _ _ _ (heap_setCell_same _ f 1 _ _ _ (heap_setCell_same w4 f 0 _ _ _ hF4))
  have hld := load_fault hF5
  have HX : Hid (Go.RowKit.Below w.heap.size w (((w4.setCell ⟨f, 0, none⟩ (.int .i64 0)).setCell ⟨f, 1, none⟩ (.int .i64 0)).setCell ⟨f, 2, none⟩ (.int .i64 44))) := by
    have h3 := HF3.out.1
    have h4 : Go.RowKit.Below f w w4 := h3.trans (hb4.mono (by have := h3.size; have := HFq.out; omega))
    rw [Hid, ← HFq.out]
    exact ((h4.trans (below_setC _ _ (Nat.le_refl _))).trans (below_setC _ _ (Nat.le_refl _))).trans (below_setC _ _ (Nat.le_refl _))
  clear hb4 hF4 hF5 HA1 HF3
  go_wp2_with fail
  refine bodyPost_ret (v := .agg #[.int .i64 0, .int .i64 0, .int .i64 44]) ?_ rfl ?_
  · simp [results, Tryz.results6, asAddr, hld]
  · exact ⟨rfl, HX.out⟩
end Go.Proofs.YtlabofafmcbfmaaGreatDoor
