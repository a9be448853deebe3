import Derived.Test.YtoihdlhdbmepgaaJSWrH
import Derived.Test.YtoihdlhdbmepgaaJSWrite
import Derived.Deep.RegionHeld3
import Derived.Test.YtoihdlhdbmepgaaKList
import Derived.SizedLaws
import Derived.Lib.SmallJoins
import Derived.Deep.Slices
import Derived.Test.YtoihdlhdbmepgaaRows
import Derived.ChangeOld
import Derived.ProofKit
import Derived.OpenShut
import Derived.JoinedCond
/-
  StoreFills: WHAT IT STANDS ON.
-/
namespace Go.Proofs.Ytoihdlhdbmepgaa
open Go.RowKit Go.Sort

theorem run_neCell (x1 : Bool) (x2 : Int) (y1 : Bool) (y2 : Int) (w : World) : Sem.run Try.prog (binOp .neq 30 (.agg #[.bool x1, .int .i64 x2]) (.agg #[.bool y1, .int .i64 y2])) w = .ok (.bool (!decide ((x1, x2) = (y1, y2)))) w := by
  have u3 := Try.underlying4
  have a3 := Try.isAgg4
  have z3 := Try.sizeOf4
  have u2 := Try.underlying2
  have a2 := Try.isAgg2
  have z2 := Try.sizeOf2
  have hS : Try.prog.underlying 30 = some (.struct (Try.prog.fieldsOf 30)) := by kernel_rfl
  have hp : Try.prog.stoodInHeld 30 = false := by kernel_rfl
  rw [run_neq_struct, show (10000 : Nat) = 9999 + 1 from rfl, run_equalIn_agg w 9999 30 _ _ hS hp]
  simp only [Program.fieldsOf, Try.underlying30]
  go_simp
  cases x1 <;> cases y1 <;> by_cases h2 : x2 = y2 <;> simp [h2]
section
variable {n0 : Nat} {F : Nat → Prop} {w : World} {B S P : Nat} {av : Value} {vs ws : List Vr} {lb last batch : Int}
/-- its list is let go -/
theorem WS.clearAll (h : WS n0 F w B S P av vs ws lb last batch) : WS n0 F (w.setCell ⟨B, 1, none⟩ (.slice none 0 0)) B S P (.slice none 0 0) vs [] lb last batch := by
  have hs : ∀ k, k ≠ B → (w.setCell ⟨B, 1, none⟩ (.slice none 0 0)).heap[k]? = w.heap[k]? := fun k hk => heap_setCell_other _ _ _ _ hk
  refine ⟨blk_set _ h.bx, (h.st.off (fun k _ hn => hs k (fun e => hn (.inr (.inl e))))).frame (fun k hk => .inl ?_), World.ownsRow_nil _ _ _ _, h.Bn, h.FB, fun k hk => (by cases hk), fun k hF => by simpa using h.Fl k hF, by simpa using h.n0l⟩
  rcases hk with h1 | h1 | h1
  · exact .inl h1
  · exact .inr (.inl h1)
  · cases h1
theorem WS.look (h : WS n0 F w B S P av vs ws lb last batch) (n : Int) (hn : In64 n) {v : Vr} (hf : fv vs n = some v) :
    Calls Try.prog 21 #[ptr S, .int .i64 n] w fun e w' => e = .returned (.tuple #[.agg #[.int .i64 v.ba, .int .i64 v.ix, .bool v.fl, .bool v.ci, .int .i64 v.cv], .int .i64 0]) ∧ Below w.heap.size w w' := by
  have := look_st _ _ w S P 65536 last vs h.st n hn
  rw [hf] at this
  exact this
theorem WS.fillX (h : WS n0 F w B S P av vs ws lb last batch) (n : Int) (ci : Bool) (cv : Int) (hn : In64 n) (hcv : In64 cv) (E : Int) (hE : filE (fv vs n) = E) (h0 : E ≠ 0) :
    Calls Try.prog 22 #[ptr S, .int .i64 n, .agg #[.bool ci, .int .i64 cv]] w fun e w' => e = .returned (.int .i64 E) ∧ WS n0 F w' B S P av vs ws lb last batch ∧ Kp n0 F w w' := by
  have hL : filL vs n ci cv = vs := by unfold filL; rw [hE, if_neg h0]
  refine (fill_st _ _ w S P 65536 last vs h.st n ci cv hn hcv).mono ?_
  rintro e w' ⟨rfl, hkp, hst⟩
  rw [hL] at hst
  exact ⟨by rw [hE], h.kp hkp hst, hkp.mono (fun k _ hF => .inl hF)⟩
end
/-- the first version, filled -/
abbrev f1 (b : Nat) (ci : Bool) (cv : Int) : Vr := fillV (v1 b) ci cv
theorem fv_f1 (b : Nat) (ci : Bool) (cv : Int) (ws : List Vr) : fv ([f1 b ci cv] ++ ws) 1 = some (f1 b ci cv) := by
  unfold fv
  rw [List.cons_append, List.find?_cons_of_pos]
  simp [fillV]
/-- the loop's state -/
structure FL (n0 : Nat) (A : Nat) (w0 wr : World) (B S P : Nat) (b : Nat) (ci : Bool) (cv : Int) (j : Nat) (av : Value) (ws : List Vr) (last batch : Int) : Prop where
  wsx : WS n0 (fun k => k = A) wr B S P av ([f1 b ci cv] ++ ws) ws last last batch
  ba : ∀ v ∈ [f1 b ci cv] ++ ws, v.ba ≤ batch
  la : 1 ≤ last ∧ last ≤ 1 + j
  bt : 2 ≤ batch ∧ batch ≤ 2 + 100 * j
  bel : Below n0 w0 wr
  av_ : ∃ c0 c1 c2 c3 c4, RV wr A c0 c1 c2 c3 c4
theorem FL.write {n0 A : Nat} {w0 wr : World} {B S P b : Nat} {ci : Bool} {cv : Int} {j : Nat} {av : Value} {ws : List Vr} {last batch : Int} (h : FL n0 A w0 wr B S P b ci cv j av ws last batch) {x : Wq} {e : Ending} {w' : World} (hp : WrPost n0 (fun k => k = A) wr B S P [f1 b ci cv] ws last batch x e w') : e = .returned (.bool true) ∧ ∃ av' ws' last' batch', FL n0 A w0 w' B S P b ci cv (j + 1) av' ws' last' batch' := by
  obtain ⟨he, hk, av', hp⟩ := hp
  have hbel := h.bel.trans (hk.below h.wsx.n0l)
  have hav : ∃ c0 c1 c2 c3 c4, RV w' A c0 c1 c2 c3 c4 := by
    obtain ⟨c0, c1, c2, c3, c4, hr⟩ := h.av_
    exact ⟨c0, c1, c2, c3, c4, hk.heap rfl hr⟩
  have hsub : ∀ v ∈ [f1 b ci cv] ++ dropL x.dr ws, v.ba ≤ batch := fun v hv => h.ba v (by
    rcases List.mem_append.1 hv with h1 | h1
    · exact List.mem_append.2 (.inl h1)
    · exact List.mem_append.2 (.inr ((dropL_sub x.dr ws).subset h1)))
  have h1 := h.la
  have h2 := h.bt
  refine ⟨he, ?_⟩
  rcases hp with hp | ⟨v, ba', hp⟩
  · exact ⟨av', _, last, batch, hp, hsub, by omega, by omega, hbel, hav⟩
  · have h3 := hp.lt
    refine ⟨av', _, last + 1, ba', hp.ws, fun u hu => ?_, by omega, by omega, hbel, hav⟩
    rcases List.mem_append.1 hu with h4 | h4
    · have := hsub u (List.mem_append.2 (.inl h4)); omega
    · rcases List.mem_append.1 h4 with h5 | h5
      · have := hsub u (List.mem_append.2 (.inr h5)); omega
      · simp at h5; rw [h5, hp.ba]; exact Int.le_refl _
theorem fr_e5 (W : World) (A : Nat) (c0 c1 c2 c3 c4 : Value) : Fr (fun k => k = A) W (e5 W A c0 c1 c2 c3 c4) := by
  have s1 : Fr (fun k => k = A) W (W.setCell ⟨A, 0, none⟩ c0) := (Fr.refl _ W).set ⟨A, 0, none⟩ c0 (.inr rfl)
  have s2 := s1.set ⟨A, 1, none⟩ c1 (.inr rfl)
  have s3 := s2.set ⟨A, 2, none⟩ c2 (.inr rfl)
  have s4 := s3.set ⟨A, 3, none⟩ c3 (.inr rfl)
  exact s4.set ⟨A, 4, none⟩ c4 (.inr rfl)
/-- what the loop's round leaves -/
theorem WS.five {n0 A : Nat} {w : World} {B S P : Nat} {av : Value} {vs ws : List Vr} {lb last batch : Int} (h : WS n0 (fun k => k = A) w B S P av vs ws lb last batch) (c0 c1 c2 c3 c4 : Value) : WS n0 (fun k => k = A) (e5 w A c0 c1 c2 c3 c4) B S P av vs ws lb last batch :=
  h.off (fr_e5 w A c0 c1 c2 c3 c4).size (fr_e5 w A c0 c1 c2 c3 c4).block
theorem WS.removeN {n0 : Nat} {F : Nat → Prop} {w : World} {B S P : Nat} {av : Value} {vs ws : List Vr} {lb last batch : Int} (h : WS n0 F w B S P av vs ws lb last batch) (n : Int) (hn : In64 n) {v : Vr} (hf : fv vs n = some v) :
    Calls Try.prog 20 #[ptr S, .int .i64 n] w fun e w' => e = .returned (.int .i64 0) ∧ (∃ vs', fv vs' n = none ∧ WS n0 F w' B S P av vs' ws lb last batch) ∧ Kp n0 F w w' := by
  refine (remove_st _ _ w S P 65536 last vs h.st n hn).mono ?_
  rintro e w' ⟨hkp, ⟨h0, _⟩ | ⟨A, u, C, h1, h2, rfl, hst⟩⟩
  · rw [hf] at h0; cases h0
  · refine ⟨rfl, ⟨A ++ C, ?_, h.kp hkp hst⟩, hkp.mono (fun k _ hF => .inl hF)⟩
    have hnd := h.st.nd
    rw [h1] at hnd
    have hs := nodup_split hnd
    refine List.find?_eq_none.2 fun x hx => ?_
    simp only [decide_eq_true_eq]
    rw [← h2]
    rcases List.mem_append.1 hx with m | m
    · exact hs.1 x m
    · exact hs.2 x m
end Go.Proofs.Ytoihdlhdbmepgaa
/-
  StoreFills.
-/
namespace Go.Proofs.Ytoihdlhdbmepgaa
open Go.RowKit Go.Sort

/-- writes as they lie -/
def WrsAt (w : World) (ao : Option Addr) (l : List Wq) : Prop := l = [] ∨ ∃ b off, ao = some ⟨b, off, none⟩ ∧ b < w.heap.size ∧ ∀ j (h : j < l.length) i u, (wqc l[j])[i]? = some u → w.cell? ⟨b, off + j * 8 + i, none⟩ = some u
set_option maxRecDepth 100000 in
set_option maxHeartbeats 8000000 in
theorem law_sfills (w : World) (pp : Int) (ao : Option Addr) (m cp : Nat) (l : List Wq) (ci : Bool) (cv : Int) (hm : m = l.length) (hm2 : m ≤ 1048576) (hw : WrsAt w ao l) (hin : ∀ x ∈ l, WqIn x) (hcv : In64 cv) :
    Calls Try.prog 6 #[.int .i64 pp, .slice ao m cp, .agg #[.bool ci, .int .i64 cv]] w fun e w' => e = .returned (.bool true) ∧ Below w.heap.size w w' := by
  have HL : Hid (WrsAt w ao l ∧ m = l.length ∧ (∀ x ∈ l, WqIn x) ∧ In64 cv) := ⟨hw, hm, hin, hcv⟩
  clear hw hm hin hcv
  obtain ⟨C, hC⟩ : ∃ C, C = w.heap.size := ⟨_, rfl⟩
  obtain ⟨W0, hW0⟩ : ∃ W0, W0 = w.alloc (.cells #[.bool ci, .int .i64 cv] 30) := ⟨_, rfl⟩
  have HB0 : Hid (Below w.heap.size w W0 ∧ W0.heap[C]? = some (.cells #[.bool ci, .int .i64 cv] 30 (0, 0))) := by
    refine ⟨?_, ?_⟩
    · rw [hW0]; exact (Below.refl _ _).alloc (Nat.le_refl _) _
    · rw [hW0, hC]; exact heap_alloc_new _ _ rfl
  have HCc : Hid (∀ W, Below W0.heap.size W0 W → W.cell? ⟨C, 0, none⟩ = some (.bool ci) ∧ W.cell? ⟨C, 1, none⟩ = some (.int .i64 cv)) := fun W hW => by
    have h1 := (hW.block C (blk_lt HB0.out.2)).trans HB0.out.2
    exact ⟨by rw [World.cell?, h1]; rfl, by rw [World.cell?, h1]; rfl⟩
  have HBg := begun_any W0 pp
  go_enter Try.func6, Try.ntmps6
  go_upto_region 1 with fail
  rw [← hW0, ← hC]
  clear hW0 hC
  go_wp2_with fail
  refine HBg.mono ?_
  clear HBg
  rintro e w1 ⟨B, S, P, b, g, rfl, _, _, hb1, hws1⟩
  have HW1 := hidC hws1
  have HB1 := hidC hb1
  clear hws1 hb1
  obtain ⟨s0, _⟩ := HW1.out.cells
  have HLk := HW1.out.look 1 (by unfold In64; omega) (v := v1 b) rfl
  go_wp2_with fail
  refine HLk.mono ?_
  clear HLk
  rintro e w2 ⟨rfl, hb2⟩
  have HW2 := hidC (HW1.out.kept hb2)
  have HB2 : Hid (Below W0.heap.size W0 w2) := HB1.out.trans (hb2.mono HB1.out.size)
  clear hb2 s0 HW1 HB1
  go_upto_region 5 with fail
  obtain ⟨A, hA⟩ : ∃ A, A = w2.heap.size := ⟨_, rfl⟩
  obtain ⟨W3, hW3⟩ : ∃ W3, W3 = w2.alloc (.cells #[.int .i64 1, .int .i64 0, .bool false, .bool false, .int .i64 0] 61) := ⟨_, rfl⟩
  have HB3 : Hid (Below w2.heap.size w2 W3 ∧ RV W3 A (.int .i64 1) (.int .i64 0) (.bool false) (.bool false) (.int .i64 0)) := by
    refine ⟨?_, ?_⟩
    · rw [hW3]; exact (Below.refl _ _).alloc (Nat.le_refl _) _
    · rw [hW3, hA]; exact heap_alloc_new _ _ rfl
  have HW3 : Hid (WS W0.heap.size (fun k => False ∨ k = A) W3 B S P (.slice (some ⟨g, 0, none⟩) 1 1) [v1 b] [v1 b] 1 1 2) := HW2.out.box HB3.out.1 (by omega) (blk_lt HB3.out.2)
  have HBl3 : Hid (Below W0.heap.size W0 W3) := HB2.out.trans (HB3.out.1.mono HB2.out.size)
  have HAn : Hid (W0.heap.size ≤ A) := by show _ ≤ _; rw [hA]; exact HB2.out.size
  rw [← hW3, ← hA]
  clear hW3 hA HW2 HB2
  have HCl : Hid (∀ W vs', WS W0.heap.size (fun k => False ∨ k = A) W B S P (.slice (some ⟨g, 0, none⟩) 1 1) vs' [v1 b] 1 1 2 → Kp W0.heap.size (fun k => False ∨ k = A) W3 W → (W.cell? ⟨A, 2, none⟩ = some (.bool false) ∧ W.cell? ⟨A, 3, none⟩ = some (.bool false) ∧ W.cell? ⟨A, 4, none⟩ = some (.int .i64 0)) ∧ W.cell? ⟨B, 0, none⟩ = some (ptr S) ∧ W.cell? ⟨C, 0, none⟩ = some (.bool ci) ∧ W.cell? ⟨C, 1, none⟩ = some (.int .i64 cv)) := fun W vs' h1 h2 => by
    have h3 : RV W A _ _ _ _ _ := h2.heap (.inr rfl) HB3.out.2
    have h4 := HCc.out W (HBl3.out.trans (h2.below HBl3.out.size))
    exact ⟨⟨h3.cells.2.2.1, h3.cells.2.2.2.1, h3.cells.2.2.2.2⟩, h1.cells.1, h4.1, h4.2⟩
  have HF1 : Hid (Calls Try.prog 22 #[ptr S, .int .i64 1, .agg #[.bool ci, .int .i64 cv]] W3.drew fun e w' => e = .returned (.int .i64 0) ∧ WS W0.heap.size (fun k => False ∨ k = A) w' B S P (.slice (some ⟨g, 0, none⟩) 1 1) [f1 b ci cv] [v1 b] 1 1 2 ∧ Kp W0.heap.size (fun k => False ∨ k = A) W3 w') := by
    have h0 := HW3.out.kept (drew_below W3 1)
    have hc := h0.fill 1 ci cv (by unfold In64; omega) HL.out.2.2.2 (v := v1 b) rfl rfl
    exact hc.mono fun e w' ⟨a1, a2, a3⟩ => ⟨a1, a2, (Kp.ofBelow (drew_below W3 1)).trans a3⟩
  have HF2 : Hid (∀ W, WS W0.heap.size (fun k => False ∨ k = A) W B S P (.slice (some ⟨g, 0, none⟩) 1 1) [f1 b ci cv] [v1 b] 1 1 2 → Kp W0.heap.size (fun k => False ∨ k = A) W3 W → Calls Try.prog 22 #[ptr S, .int .i64 1, .agg #[.bool true, .int .i64 7]] W fun e w' => e = .returned (.int .i64 95) ∧ WS W0.heap.size (fun k => False ∨ k = A) w' B S P (.slice (some ⟨g, 0, none⟩) 1 1) [f1 b ci cv] [v1 b] 1 1 2 ∧ Kp W0.heap.size (fun k => False ∨ k = A) W3 w') := fun W h1 h2 => by
    have hc := h1.fillX 1 true 7 (by unfold In64; omega) (by unfold In64; omega) 95 (by rw [show fv [f1 b ci cv] 1 = some (f1 b ci cv) from fv_f1 b ci cv []]; rfl) (by decide)
    exact hc.mono fun e w' ⟨a1, a2, a3⟩ => ⟨a1, a2, h2.trans a3⟩
  obtain ⟨⟨z2, z3, z4⟩, s0, y0, y1⟩ := HCl.out W3 _ HW3.out (Kp.refl _ _ _)
  have hne : ∀ w : World, Sem.run Try.prog (binOp .neq 30 (.agg #[.bool false, .int .i64 0]) (.agg #[.bool false, .int .i64 0])) w = .ok (.bool false) w := fun w => by rw [run_neCell]; rfl
  go_region_held3 (fun w' => (w'.cell? ⟨A, 2, none⟩ = some (.bool false) ∧ w'.cell? ⟨A, 3, none⟩ = some (.bool false) ∧ w'.cell? ⟨A, 4, none⟩ = some (.int .i64 0)) ∧ w'.cell? ⟨B, 0, none⟩ = some (ptr S) ∧ w'.cell? ⟨C, 0, none⟩ = some (.bool ci) ∧ w'.cell? ⟨C, 1, none⟩ = some (.int .i64 cv)) (first | with_reducible exact HQ5.out | with_reducible exact HQ4.out | go_keep) (first
    | (go_at_call 22; with_reducible refine HF1.out.mono ?_; rintro e w4 ⟨rfl, hw4, hk4⟩; have HQ4 := hidC (HCl.out _ _ hw4 hk4); have HW4 := hidC hw4; have HK4 := hidC hk4; clear hw4 hk4)
    | (go_at_call 22; with_reducible refine (HF2.out _ HW4.out HK4.out).mono ?_; rintro e w5 ⟨rfl, hw5, hk5⟩; have HQ5 := hidC (HCl.out _ _ hw5 hk5); have HW5 := hidC hw5; have HK5 := hidC hk5; clear hw5 hk5))
  clear z2 z3 z4 s0 y0 y1 HF1 HF2 HCl HQ4 HQ5 HW4 HK4
  obtain ⟨_, s1, _⟩ := HW5.out.cells
  have f1' := HW5.out.frozen 1
  have HFL : Hid (FL W0.heap.size A W0 (w5.setCell ⟨B, 1, none⟩ (.slice none 0 0)) B S P b ci cv 0 (.slice none 0 0) [] 1 2) := by
    have hk5 : Below W0.heap.size W0 w5 := HBl3.out.trans (HK5.out.below HBl3.out.size)
    have hAB : A ≠ B := fun e => HW5.out.FB (.inr e.symm)
    refine ⟨HW5.out.clearAll.unbox (fun k hk => .inr hk), fun v hv => ?_, by omega, by omega, hk5.trans ⟨rfl, rfl, rfl, by simp, fun k hk => heap_setCell_other w5 ⟨B, 1, none⟩ k _ (by have := HW5.out.Bn; show k ≠ B; omega)⟩, .int .i64 1, .int .i64 0, .bool false, .bool false, .int .i64 0, ?_⟩
    · simp at hv; subst hv; show (1 : Int) ≤ 2; omega
    · exact (heap_setCell_other w5 ⟨B, 1, none⟩ A _ hAB).trans (HK5.out.heap (.inr rfl) HB3.out.2)
  clear HW5 HK5 HB3 HW3 HBl3
  go_wp2_with fail
  go_loopw [10, 11, 12] (fun _ x _ wr => ∃ (j : Nat) (av : Value) (ws : List Vr) (last batch : Int), j ≤ m ∧ x = .int .i64 (j : Int) ∧ Hid (FL W0.heap.size A W0 wr B S P b ci cv j av ws last batch)) (fun _ x _ _ => m - (intOf x).toNat)
  case atStart => exact ⟨0, _, _, _, _, Nat.zero_le _, rfl, HFL⟩
  case round =>
    clear HFL s1 f1'
    obtain ⟨j, av, ws, last, batch, hj, rfl, HFr⟩ := hrel
    by_cases hlt : j < m
    · obtain ⟨lb, lo, hao, hbl, x, HXi, x0, x1, x2, x3, x4, x5, x6, x7⟩ : ∃ lb lo, ao = some ⟨lb, lo, none⟩ ∧ lb < w.heap.size ∧ ∃ x : Wq, Hid (WqIn x) ∧ wr.cell? ⟨lb, lo + j * 8, none⟩ = some (.int .i64 x.k.1) ∧ wr.cell? ⟨lb, lo + j * 8 + 1, none⟩ = some (.int .i64 x.k.2) ∧ wr.cell? ⟨lb, lo + j * 8 + 2, none⟩ = some (.int .i64 x.la) ∧ wr.cell? ⟨lb, lo + j * 8 + 3, none⟩ = some (.int .i64 x.ix) ∧ wr.cell? ⟨lb, lo + j * 8 + 4, none⟩ = some (.bool x.fl) ∧ wr.cell? ⟨lb, lo + j * 8 + 5, none⟩ = some (.bool x.ci) ∧ wr.cell? ⟨lb, lo + j * 8 + 6, none⟩ = some (.int .i64 x.cv) ∧ wr.cell? ⟨lb, lo + j * 8 + 7, none⟩ = some (.int .i64 x.dr) := by
        obtain ⟨h1, h2, h3, _⟩ := HL.out
        have hbel : Below w.heap.size w wr := HB0.out.1.trans (HFr.out.bel.mono HB0.out.1.size)
        rcases h1 with h1 | ⟨lb, lo, h1, hlb, h4⟩
        · rw [h1] at h2; simp at h2; omega
        · have hjl : j < l.length := by omega
          have hc : ∀ i u, (wqc l[j])[i]? = some u → wr.cell? ⟨lb, lo + j * 8 + i, none⟩ = some u := fun i u hu => (hbel.cell (p := ⟨lb, lo + j * 8 + i, none⟩) hlb).trans (h4 j hjl i u hu)
          exact ⟨lb, lo, h1, hlb, l[j], h3 _ (List.getElem_mem hjl), hc 0 _ rfl, hc 1 _ rfl, hc 2 _ rfl, hc 3 _ rfl, hc 4 _ rfl, hc 5 _ rfl, hc 6 _ rfl, hc 7 _ rfl⟩
      subst hao
      have HWr := hidC (write_any W0.heap.size (fun k => k = A) wr B S P av [f1 b ci cv] ws last batch x HFr.out.wsx HFr.out.ba HXi.out (by have := HFr.out.la; omega) (by have := HFr.out.bt; omega) (by simp))
      obtain ⟨⟨xk1, xk2⟩, xla, xix, xfl, xci, xcv, xdr⟩ := x
      simp only [wqc] at x0 x1 x2 x3 x4 x5 x6 x7 HWr
      go_wp2_with fail
      refine HWr.out.mono ?_
      clear HWr x0 x1 x2 x3 x4 x5 x6 x7 HXi
      intro e w6 hwp
      obtain ⟨rfl, av', ws', last', batch', hf6⟩ := HFr.out.write hwp
      have HF6 := hidC hf6
      clear hf6 hwp HFr
      obtain ⟨s0, _⟩ := HF6.out.wsx.cells
      obtain ⟨d3, hd3⟩ : ∃ d3, d3 = (f1 b ci cv).ci := ⟨_, rfl⟩
      obtain ⟨d4, hd4⟩ : ∃ d4, d4 = (f1 b ci cv).cv := ⟨_, rfl⟩
      have HD34 : Hid (d3 = (f1 b ci cv).ci ∧ d4 = (f1 b ci cv).cv) := ⟨hd3, hd4⟩
      have HLk : Calls Try.prog 21 #[ptr S, .int .i64 1] w6 fun e w' => e = .returned (.tuple #[.agg #[.int .i64 1, .int .i64 0, .bool true, .bool d3, .int .i64 d4], .int .i64 0]) ∧ Below w6.heap.size w6 w' := by
        have h1 := HF6.out.wsx.look 1 (by unfold In64; omega) (v := f1 b ci cv) (fv_f1 b ci cv ws')
        rw [← hd3, ← hd4] at h1
        exact h1
      clear hd3 hd4
      go_wp2_with fail
      refine HLk.mono ?_
      clear HLk
      rintro e w7 ⟨rfl, hb7⟩
      have HW7 := hidC (HF6.out.wsx.kept hb7)
      have HB7 : Hid (Below W0.heap.size W0 w7) := HF6.out.bel.trans (hb7.mono HF6.out.bel.size)
      obtain ⟨q0, q1, q2, q3, q4, hrv⟩ := HF6.out.av_
      have HRv : Hid (RV w7 A q0 q1 q2 q3 q4) := (hb7.block A (blk_lt hrv)).trans hrv
      have HFb : Hid ((∀ v ∈ [f1 b ci cv] ++ ws', v.ba ≤ batch') ∧ (1 ≤ last' ∧ last' ≤ 1 + ((j + 1 : Nat) : Int)) ∧ (2 ≤ batch' ∧ batch' ≤ 2 + 100 * ((j + 1 : Nat) : Int))) := ⟨HF6.out.ba, HF6.out.la, HF6.out.bt⟩
      clear hrv hb7 HF6 s0
      obtain ⟨z0, z1, z2, z3, z4⟩ := HRv.out.cells
      have g0 := HRv.out.frozen 0
      have g1 := HRv.out.frozen 1
      have g2 := HRv.out.frozen 2
      have g3 := HRv.out.frozen 3
      have g4 := HRv.out.frozen 4
      go_upto_region 14 with fail
      have HR8 : Hid (RV (e5 w7 A (.int .i64 1) (.int .i64 0) (.bool true) (.bool d3) (.int .i64 d4)) A (.int .i64 1) (.int .i64 0) (.bool true) (.bool d3) (.int .i64 d4)) := HRv.out.five _ _ _ _ _
      have HW8 : Hid (WS W0.heap.size (fun k => k = A) (e5 w7 A (.int .i64 1) (.int .i64 0) (.bool true) (.bool d3) (.int .i64 d4)) B S P av' ([f1 b ci cv] ++ ws') ws' last' last' batch') := HW7.out.five _ _ _ _ _
      have HB8 : Hid (Below W0.heap.size W0 (e5 w7 A (.int .i64 1) (.int .i64 0) (.bool true) (.bool d3) (.int .i64 d4))) := below_e5 HB7.out HAn.out _ _ _ _ _
      clear z0 z1 z2 z3 z4 g0 g1 g2 g3 g4 HRv HW7 HB7
      have hne2 : ∀ (x : Bool) (y : Int) (w : World), Sem.run Try.prog (binOp .neq 30 (.agg #[.bool x, .int .i64 y]) (.agg #[.bool x, .int .i64 y])) w = .ok (.bool false) w := fun x y w => by rw [run_neCell]; simp
      unfold e5 at HR8 HW8 HB8
      generalize (((((w7.setCell ⟨A, 0, none⟩ (.int .i64 1)).setCell ⟨A, 1, none⟩ (.int .i64 0)).setCell ⟨A, 2, none⟩ (.bool true)).setCell ⟨A, 3, none⟩ (.bool d3)).setCell ⟨A, 4, none⟩ (.int .i64 d4)) = W8 at *
      have HDD : Hid (d3 = ci ∧ d4 = if ci then cv else 0) := by
        obtain ⟨h1, h2⟩ := HD34.out
        rw [h1, h2]
        cases ci <;> exact ⟨rfl, rfl⟩
      obtain ⟨hdd3, hdd4⟩ := HDD.out
      rw [hdd3, hdd4] at HR8
      clear HD34 HDD hdd3 hdd4
      cases ci with
      | false =>
        have HRA : Hid (∀ W, Below W8.heap.size W8 W → W.cell? ⟨A, 0, none⟩ = some (.int .i64 1) ∧ W.cell? ⟨A, 1, none⟩ = some (.int .i64 0) ∧ W.cell? ⟨A, 2, none⟩ = some (.bool true) ∧ W.cell? ⟨A, 3, none⟩ = some (.bool false) ∧ W.cell? ⟨A, 4, none⟩ = some (.int .i64 0)) := fun W hW => by
          have h1 : RV W A _ _ _ _ _ := (hW.block A (blk_lt HR8.out)).trans HR8.out
          exact h1.cells
        have HBa8 : Hid (∀ o, Below W8.heap.size W8 (W8.alloc o)) := fun o => (Below.refl _ _).alloc (Nat.le_refl _) _
        have a0 : ∀ o, (W8.alloc o).cell? ⟨A, 0, none⟩ = some (.int .i64 1) := fun o => (HRA.out _ (HBa8.out o)).1
        have a1 : ∀ o, (W8.alloc o).cell? ⟨A, 1, none⟩ = some (.int .i64 0) := fun o => (HRA.out _ (HBa8.out o)).2.1
        have a2 : ∀ o, (W8.alloc o).cell? ⟨A, 2, none⟩ = some (.bool true) := fun o => (HRA.out _ (HBa8.out o)).2.2.1
        have a3 : ∀ o, (W8.alloc o).cell? ⟨A, 3, none⟩ = some (.bool false) := fun o => (HRA.out _ (HBa8.out o)).2.2.2.1
        have a4 : ∀ o, (W8.alloc o).cell? ⟨A, 4, none⟩ = some (.int .i64 0) := fun o => (HRA.out _ (HBa8.out o)).2.2.2.2
        have y0 : ∀ o, (W8.alloc o).cell? ⟨C, 0, none⟩ = some (.bool false) := fun o => (HCc.out _ (HB8.out.trans ((HBa8.out o).mono HB8.out.size))).1
        have y1 : ∀ o, (W8.alloc o).cell? ⟨C, 1, none⟩ = some (.int .i64 cv) := fun o => (HCc.out _ (HB8.out.trans ((HBa8.out o).mono HB8.out.size))).2
        go_wp2
        refine ⟨⟨j + 1, av', ws', last', batch', by omega, by rw [show ((j + 1 : Nat) : Int) = (j : Int) + 1 by omega], ?_⟩, by simp [intOf]; omega⟩
        exact ⟨HW8.out.kept (HBa8.out _), HFb.out.1, HFb.out.2.1, HFb.out.2.2, HB8.out.trans ((HBa8.out _).mono HB8.out.size), _, _, _, _, _, ((HBa8.out _).block A (blk_lt HR8.out)).trans HR8.out⟩
      | true =>
        have HRA : Hid (∀ W, Below W8.heap.size W8 W → W.cell? ⟨A, 0, none⟩ = some (.int .i64 1) ∧ W.cell? ⟨A, 1, none⟩ = some (.int .i64 0) ∧ W.cell? ⟨A, 2, none⟩ = some (.bool true) ∧ W.cell? ⟨A, 3, none⟩ = some (.bool true) ∧ W.cell? ⟨A, 4, none⟩ = some (.int .i64 cv)) := fun W hW => by
          have h1 : RV W A _ _ _ _ _ := (hW.block A (blk_lt HR8.out)).trans HR8.out
          exact h1.cells
        have HBa8 : Hid (∀ o, Below W8.heap.size W8 (W8.alloc o)) := fun o => (Below.refl _ _).alloc (Nat.le_refl _) _
        have a0 : ∀ o, (W8.alloc o).cell? ⟨A, 0, none⟩ = some (.int .i64 1) := fun o => (HRA.out _ (HBa8.out o)).1
        have a1 : ∀ o, (W8.alloc o).cell? ⟨A, 1, none⟩ = some (.int .i64 0) := fun o => (HRA.out _ (HBa8.out o)).2.1
        have a2 : ∀ o, (W8.alloc o).cell? ⟨A, 2, none⟩ = some (.bool true) := fun o => (HRA.out _ (HBa8.out o)).2.2.1
        have a3 : ∀ o, (W8.alloc o).cell? ⟨A, 3, none⟩ = some (.bool true) := fun o => (HRA.out _ (HBa8.out o)).2.2.2.1
        have a4 : ∀ o, (W8.alloc o).cell? ⟨A, 4, none⟩ = some (.int .i64 cv) := fun o => (HRA.out _ (HBa8.out o)).2.2.2.2
        have y0 : ∀ o, (W8.alloc o).cell? ⟨C, 0, none⟩ = some (.bool true) := fun o => (HCc.out _ (HB8.out.trans ((HBa8.out o).mono HB8.out.size))).1
        have y1 : ∀ o, (W8.alloc o).cell? ⟨C, 1, none⟩ = some (.int .i64 cv) := fun o => (HCc.out _ (HB8.out.trans ((HBa8.out o).mono HB8.out.size))).2
        go_wp2
        refine ⟨⟨j + 1, av', ws', last', batch', by omega, by rw [show ((j + 1 : Nat) : Int) = (j : Int) + 1 by omega], ?_⟩, by simp [intOf]; omega⟩
        exact ⟨HW8.out.kept (HBa8.out _), HFb.out.1, HFb.out.2.1, HFb.out.2.2, HB8.out.trans ((HBa8.out _).mono HB8.out.size), _, _, _, _, _, ((HBa8.out _).block A (blk_lt HR8.out)).trans HR8.out⟩
    · have HCl : Hid (∀ W vs', WS W0.heap.size (fun k => k = A) W B S P av vs' ws last last batch → Kp W0.heap.size (fun k => k = A) wr W → W.cell? ⟨B, 0, none⟩ = some (ptr S) ∧ W.cell? ⟨C, 0, none⟩ = some (.bool ci) ∧ W.cell? ⟨C, 1, none⟩ = some (.int .i64 cv)) := fun W vs' h1 h2 => by
        have h4 := HCc.out W (HFr.out.bel.trans (h2.below HFr.out.bel.size))
        exact ⟨h1.cells.1, h4.1, h4.2⟩
      have HF1 : Hid (Calls Try.prog 22 #[ptr S, .int .i64 1, .agg #[.bool ci, .int .i64 cv]] wr.drew fun e w' => e = .returned (.int .i64 95) ∧ WS W0.heap.size (fun k => k = A) w' B S P av ([f1 b ci cv] ++ ws) ws last last batch ∧ Kp W0.heap.size (fun k => k = A) wr w') := by
        have h0 := HFr.out.wsx.kept (drew_below wr 1)
        have hc := h0.fillX 1 ci cv (by unfold In64; omega) HL.out.2.2.2 95 (by rw [fv_f1 b ci cv ws]; rfl) (by decide)
        exact hc.mono fun e w' ⟨a1, a2, a3⟩ => ⟨a1, a2, (Kp.ofBelow (drew_below wr 1)).trans a3⟩
      have HRm : Hid (∀ W, WS W0.heap.size (fun k => k = A) W B S P av ([f1 b ci cv] ++ ws) ws last last batch → Kp W0.heap.size (fun k => k = A) wr W → Calls Try.prog 20 #[ptr S, .int .i64 1] W fun e w' => e = .returned (.int .i64 0) ∧ (∃ vs', fv vs' 1 = none ∧ WS W0.heap.size (fun k => k = A) w' B S P av vs' ws last last batch) ∧ Kp W0.heap.size (fun k => k = A) wr w') := fun W h1 h2 =>
        (h1.removeN 1 (by unfold In64; omega) (fv_f1 b ci cv ws)).mono fun e w' ⟨a1, a2, a3⟩ => ⟨a1, a2, h2.trans a3⟩
      have HF3 : Hid (∀ W vs', fv vs' 1 = none → WS W0.heap.size (fun k => k = A) W B S P av vs' ws last last batch → Kp W0.heap.size (fun k => k = A) wr W → Calls Try.prog 22 #[ptr S, .int .i64 1, .agg #[.bool ci, .int .i64 cv]] W fun e w' => e = .returned (.int .i64 93) ∧ WS W0.heap.size (fun k => k = A) w' B S P av vs' ws last last batch ∧ Kp W0.heap.size (fun k => k = A) wr w') := fun W vs' h0 h1 h2 =>
        (h1.fillX 1 ci cv (by unfold In64; omega) HL.out.2.2.2 93 (by rw [h0]; rfl) (by decide)).mono fun e w' ⟨a1, a2, a3⟩ => ⟨a1, a2, h2.trans a3⟩
      have HBw : Hid (∀ W, Kp W0.heap.size (fun k => k = A) wr W → Below w.heap.size w W) := fun W hW => HB0.out.1.trans ((HFr.out.bel.trans (hW.below HFr.out.bel.size)).mono HB0.out.1.size)
      obtain ⟨s0, y0, y1⟩ := HCl.out wr _ HFr.out.wsx (Kp.refl _ _ _)
      clear HFr
      go_upto_region 19 with fail
      go_region_held3 (fun w' => w'.cell? ⟨B, 0, none⟩ = some (ptr S) ∧ w'.cell? ⟨C, 0, none⟩ = some (.bool ci) ∧ w'.cell? ⟨C, 1, none⟩ = some (.int .i64 cv)) (first | with_reducible exact HQ6.out | with_reducible exact HQ5.out | with_reducible exact HQ4.out | go_keep) (first
        | (go_at_call 22; with_reducible refine HF1.out.mono ?_; rintro e w4 ⟨rfl, hw4, hk4⟩; have HQ4 := hidC (HCl.out _ _ hw4 hk4); have HW4 := hidC hw4; have HK4 := hidC hk4; clear hw4 hk4)
        | (go_at_call 20; with_reducible refine (HRm.out _ HW4.out HK4.out).mono ?_; rintro e w5 ⟨rfl, ⟨vs5, hf5, hw5⟩, hk5⟩; have HQ5 := hidC (HCl.out _ _ hw5 hk5); have HW5 := hidC hw5; have HV5 := hidC hf5; have HK5 := hidC hk5; clear hw5 hk5 hf5)
        | (go_at_call 22; with_reducible refine (HF3.out _ _ HV5.out HW5.out HK5.out).mono ?_; rintro e w6 ⟨rfl, hw6, hk6⟩; have HQ6 := hidC (HCl.out _ _ hw6 hk6); have HK6 := hidC hk6; clear hw6 hk6))
      go_wp2
      go_ret
      exact ⟨rfl, HBw.out _ HK6.out⟩
end Go.Proofs.Ytoihdlhdbmepgaa
/-
  FROM THE READING OF A []api.Key ARGUMENT (OR FIELD) TO ITS KEYS.
-/
namespace Go.Proofs.Ytoihdlhdbmepgaa
open Go.ChangeShapes Go.WideShapes Go.ChangeAt Go.RowKit

theorem cellsKey : Try.prog.cellsOf 28 = 2 := by kernel_rfl
theorem cellsInt' : Try.prog.cellsOf 3 = 1 := by kernel_rfl
theorem cellsInt64' : Try.prog.cellsOf 2 = 1 := by kernel_rfl
theorem bytesKey : Try.prog.bytesOf 28 = 16 := by kernel_rfl
set_option maxRecDepth 100000 in
/-- one element -/
theorem key_of_trod {H : Type} {enc : TypeId × Value → H} {W : World} {fuel : Nat} {a : Addr} {i : Nat} {cs : List Value} {y : DataW H × List MemPlace} (hc : W.cells? 0 (a.add (i * 2)) 2 = some cs)
    (hf : DataW.trod enc Try.prog W 0 (fun _ => true) true fuel 28 cs = some y) :
    ∃ (b off : Nat) (k : K), a.add (i * 2) = ⟨b, off, none⟩ ∧ W.cell? ⟨b, off, none⟩ = some (.int .i64 k.1) ∧ W.cell? ⟨b, off + 1, none⟩ = some (.int .i64 k.2) ∧ In64 k.1 ∧ In64 k.2 := by
  obtain ⟨_, hlen, hcell⟩ := World.cells?_some hc
  obtain ⟨xs, k, hk, hxy, _, hxl, hf⟩ := DataW.trod_struct Try.underlying28 hf
  match xs, hxl, cs, hlen with
  | [y0, y1], _, [v0, v1], _ =>
    have g0 := hf 0 _ rfl
    have g1 := hf 1 _ rfl
    simp [cellsInt', cellsInt64'] at g0 g1
    have e0 := hcell 0 (by omega)
    have e1 := hcell 1 (by omega)
    generalize a.add (i * 2) = ad at *
    obtain ⟨b, off, spot⟩ := ad
    have hspot : spot = none := by
      have h1 : (⟨b, off, spot⟩ : Addr).add 0 = ⟨b, off, spot⟩ := by simp [Addr.add]
      rw [h1] at e0
      exact World.cell?_spot e0
    subst hspot
    rw [Go.WideShapes.add_plain] at e0 e1
    obtain ⟨x0, h0, _, wx0⟩ := DataW.trod_int Try.underlying3 g0
    obtain ⟨x1, h1, _, wx1⟩ := DataW.trod_int Try.underlying2 g1
    simp only [List.cons.injEq, and_true] at h0 h1
    subst h0 h1
    exact ⟨b, off, (x0, x1), rfl, by simpa using e0, by simpa using e1, bounds_i64 wx0, bounds_i64 wx1⟩
theorem cks_of {w : World} {b off : Nat} : ∀ (L : List K) (d : Nat), (∀ i, i < L.length → w.cell? ⟨b, off + (d + i) * 2, none⟩ = some (.int .i64 (kd L i).1) ∧ w.cell? ⟨b, off + (d + i) * 2 + 1, none⟩ = some (.int .i64 (kd L i).2)) →
    ∀ j u, (cks L)[j]? = some u → w.cell? ⟨b, off + d * 2 + j, none⟩ = some u
  | [], _, _, j, u, hu => by simp [cks] at hu
  | k :: L, d, h, 0, u, hu => by
    have := (h 0 (by simp)).1
    simp [cks] at hu
    simpa [kd, hu] using this
  | k :: L, d, h, 1, u, hu => by
    have := (h 0 (by simp)).2
    simp [cks] at hu
    simpa [kd, hu] using this
  | k :: L, d, h, j + 2, u, hu => by
    have ih := cks_of (w := w) (b := b) (off := off) L (d + 1) (fun i hi => by
      have := h (i + 1) (by simp; omega)
      rw [kd_cons_succ, show d + (i + 1) = d + 1 + i by omega] at this
      exact this) j u (by simpa [cks] using hu)
    rw [show off + (d + 1) * 2 + j = off + d * 2 + (j + 2) by omega] at ih
    exact ih
set_option maxRecDepth 100000 in
/-- what the reading of a slice of keys gives -/
theorem keys_of_trod {H : Type} {enc : TypeId × Value → H} {W : World} {fuel : Nat} {cs : List Value} {y : DataW H × List MemPlace}
    (hf : DataW.trod enc Try.prog W 0 (fun _ => true) true fuel 38 cs = some y) :
    ∃ (a : Option Addr) (len cap : Nat) (ks : List K), cs = [.slice a len cap] ∧ (len = ks.length ∧ KeysAt W a ks ∧ (a = none → cap = 0) ∧ len ≤ cap ∧ cap ≤ maxLen ∧ ∀ k ∈ ks, In64 k.1 ∧ In64 k.2) ∧
      (len = 0 ∨ ∃ elems spare, y.1 = .slice elems spare ∧ len ≤ elems.length + spare.length) := by
  rcases Deep.open_slice Try.underlying38 hf with ⟨rfl, rfl⟩ | ⟨a, len, cap, m, n, D, Pl, rfl, hb, hl, hm, hmm, rfl, hx⟩
  · exact ⟨none, 0, 0, [], rfl, ⟨rfl, .inl rfl, fun _ => rfl, Nat.le_refl _, Nat.zero_le _, by simp⟩, .inl rfl⟩
  · have hle : len ≤ m := by rw [hmm]; simpa using hl
    rw [cellsKey] at hx
    obtain ⟨Z, hZ⟩ := Deep.choose_lt (α := K) (n := len) (p := fun i k => ∃ b off, a.add (i * 2) = ⟨b, off, none⟩ ∧ W.cell? ⟨b, off, none⟩ = some (.int .i64 k.1) ∧ W.cell? ⟨b, off + 1, none⟩ = some (.int .i64 k.2) ∧ In64 k.1 ∧ In64 k.2) (fun i hi => by
      obtain ⟨cs', h1, h2⟩ := hx i (by omega)
      obtain ⟨b, off, k, h3⟩ := key_of_trod h1 h2
      exact ⟨k, b, off, h3⟩)
    refine ⟨some a, len, cap, (List.range len).map Z, rfl, ⟨by simp, ?_, by simp, by simpa using hl, hm, ?_⟩, .inr ⟨_, _, rfl, ?_⟩⟩
    · by_cases h0 : len = 0
      · left; subst h0; rfl
      · right
        obtain ⟨b, off, h1, _⟩ := hZ 0 (by omega)
        have h1' : a = ⟨b, off, none⟩ := by simpa [Addr.add] using h1
        subst h1'
        refine ⟨b, off, rfl, fun j u hu => ?_⟩
        have := cks_of (w := W) (b := b) (off := off) ((List.range len).map Z) 0 (fun i hi => by
          have hi' : i < len := by simpa using hi
          obtain ⟨b', off', h2, h3, h4, _⟩ := hZ i hi'
          rw [Go.WideShapes.add_plain] at h2
          simp only [Addr.mk.injEq, and_true] at h2
          obtain ⟨rfl, rfl⟩ := h2
          have e : kd ((List.range len).map Z) i = Z i := by simp [kd, List.getD_eq_getElem?_getD, hi']
          rw [e, Nat.zero_add]
          exact ⟨h3, h4⟩) j u hu
        simpa using this
    · intro k hk
      obtain ⟨i, hi, rfl⟩ := List.mem_map.1 hk
      obtain ⟨_, _, _, _, _, h5⟩ := hZ i (by simpa using hi)
      exact h5
    · simp
theorem keys_of_sized {H : Type} {ts : List TypeId} {ds : List (DataW H)} {j len : Nat} {d : DataW H} (h : (DataW.weightsEach Try.prog ts ds).all (· ≤ reachBytes) = true) (ht : ts[j]? = some 38) (hd : ds[j]? = some d)
    (hx : len = 0 ∨ ∃ elems spare, d = .slice elems spare ∧ len ≤ elems.length + spare.length) : len * 16 ≤ 140737488351232 := by
  rcases hx with h0 | ⟨elems, spare, rfl, hl⟩
  · omega
  · have h1 := sized_slice h ht hd Try.underlying38
    rw [bytesKey] at h1
    simp only [reachBytes] at h1
    omega

end Go.Proofs.Ytoihdlhdbmepgaa
/-
  FROM THE READING OF A []Write ARGUMENT (layer 9) TO ITS WRITES.
-/
namespace Go.Proofs.Ytoihdlhdbmepgaa
open Go.ChangeShapes Go.WideShapes Go.ChangeAt Go.RowKit

instance : Inhabited Wq := ⟨⟨(0, 0), 0, 0, false, false, 0, 0⟩⟩
theorem cellsWr : Try.prog.cellsOf 32 = 8 := by kernel_rfl
theorem cellsCell : Try.prog.cellsOf 30 = 2 := by kernel_rfl
theorem cellsBoolW : Try.prog.cellsOf 4 = 1 := by kernel_rfl
set_option maxRecDepth 100000 in
/-- one element -/
theorem wr_of_trod {H : Type} {enc : TypeId × Value → H} {W : World} {fuel : Nat} {a : Addr} {i : Nat} {cs : List Value} {y : DataW H × List MemPlace} (hc : W.cells? 0 (a.add (i * 8)) 8 = some cs)
    (hf : DataW.trod enc Try.prog W 0 (fun _ => true) true fuel 32 cs = some y) :
    ∃ (b off : Nat) (x : Wq), a.add (i * 8) = ⟨b, off, none⟩ ∧ (∀ j u, (wqc x)[j]? = some u → W.cell? ⟨b, off + j, none⟩ = some u) ∧ WqIn x := by
  obtain ⟨_, hlen, hcell⟩ := World.cells?_some hc
  obtain ⟨xs, k, hk, hxy, _, hxl, hf⟩ := DataW.trod_struct Try.underlying32 hf
  match xs, hxl, cs, hlen with
  | [y0, y1, y2, y3, y4, y5], _, [v0, v1, v2, v3, v4, v5, v6, v7], _ =>
    have g0 := hf 0 _ rfl
    have g1 := hf 1 _ rfl
    have g2 := hf 2 _ rfl
    have g3 := hf 3 _ rfl
    have g4 := hf 4 _ rfl
    have g5 := hf 5 _ rfl
    simp [cellsInt', cellsKey, cellsBoolW, cellsCell] at g0 g1 g2 g3 g4 g5
    have e0 := hcell 0 (by omega)
    have e1 := hcell 1 (by omega)
    have e2 := hcell 2 (by omega)
    have e3 := hcell 3 (by omega)
    have e4 := hcell 4 (by omega)
    have e5 := hcell 5 (by omega)
    have e6 := hcell 6 (by omega)
    have e7 := hcell 7 (by omega)
    generalize a.add (i * 8) = ad at *
    obtain ⟨b, off, spot⟩ := ad
    have hspot : spot = none := by
      have h1 : (⟨b, off, spot⟩ : Addr).add 0 = ⟨b, off, spot⟩ := by simp [Addr.add]
      rw [h1] at e0
      exact World.cell?_spot e0
    subst hspot
    rw [Go.WideShapes.add_plain] at e0 e1 e2 e3 e4 e5 e6 e7
    obtain ⟨x2, h2, _, w2⟩ := DataW.trod_int Try.underlying3 g1
    obtain ⟨x3, h3, _, w3⟩ := DataW.trod_int Try.underlying3 g2
    obtain ⟨x4, h4, _⟩ := DataW.trod_bool Try.underlying4 g3
    obtain ⟨x7, h7, _, w7⟩ := DataW.trod_int Try.underlying3 g5
    obtain ⟨zs, kz, _, _, _, hzl, hz⟩ := DataW.trod_struct Try.underlying28 g0
    obtain ⟨rs, kr, _, _, _, hrl, hr⟩ := DataW.trod_struct Try.underlying30 g4
    match zs, hzl, rs, hrl with
    | [u0, u1], _, [r0, r1], _ =>
      have q0 := hz 0 _ rfl
      have q1 := hz 1 _ rfl
      have p0 := hr 0 _ rfl
      have p1 := hr 1 _ rfl
      simp [cellsInt', cellsInt64', cellsBoolW] at q0 q1 p0 p1
      obtain ⟨t0, m0, _, w0⟩ := DataW.trod_int Try.underlying3 q0
      obtain ⟨t1, m1, _, w1⟩ := DataW.trod_int Try.underlying2 q1
      obtain ⟨t5, m5, _⟩ := DataW.trod_bool Try.underlying4 p0
      obtain ⟨t6, m6, _, w6⟩ := DataW.trod_int Try.underlying2 p1
      simp only [List.cons.injEq, and_true] at h2 h3 h4 h7 m0 m1 m5 m6
      subst h2 h3 h4 h7 m0 m1 m5 m6
      refine ⟨b, off, ⟨(t0, t1), x2, x3, x4, t5, t6, x7⟩, rfl, fun j u hu => ?_, ⟨bounds_i64 w0, bounds_i64 w1⟩, bounds_i64 w2, bounds_i64 w3, bounds_i64 w6, bounds_i64 w7⟩
      match j, hu with
      | 0, hu => simp [wqc] at hu; subst hu; simpa using e0
      | 1, hu => simp [wqc] at hu; subst hu; simpa using e1
      | 2, hu => simp [wqc] at hu; subst hu; simpa using e2
      | 3, hu => simp [wqc] at hu; subst hu; simpa using e3
      | 4, hu => simp [wqc] at hu; subst hu; simpa using e4
      | 5, hu => simp [wqc] at hu; subst hu; simpa using e5
      | 6, hu => simp [wqc] at hu; subst hu; simpa using e6
      | 7, hu => simp [wqc] at hu; subst hu; simpa using e7
      | j + 8, hu => simp [wqc] at hu
set_option maxRecDepth 100000 in
theorem ws_of_trod {H : Type} {enc : TypeId × Value → H} {W : World} {fuel : Nat} {cs : List Value} {y : DataW H × List MemPlace}
    (hf : DataW.trod enc Try.prog W 0 (fun _ => true) true fuel 22 cs = some y) :
    ∃ (a : Option Addr) (len cap : Nat) (S : List Wq), cs = [.slice a len cap] ∧ len = S.length ∧ WrsAt W a S ∧ (∀ x ∈ S, WqIn x) ∧
      (len = 0 ∨ ∃ elems spare, y.1 = .slice elems spare ∧ len ≤ elems.length + spare.length) := by
  rcases Deep.open_slice Try.underlying22 hf with ⟨rfl, rfl⟩ | ⟨a, len, cap, m, n, D, Pl, rfl, hb, hl, hm, hmm, rfl, hx⟩
  · exact ⟨none, 0, 0, [], rfl, rfl, .inl rfl, by simp, .inl rfl⟩
  · have hle : len ≤ m := by rw [hmm]; simpa using hl
    rw [cellsWr] at hx
    obtain ⟨Z, hZ⟩ := Deep.choose_lt (α := Wq) (n := len) (p := fun i x => ∃ b off, a.add (i * 8) = ⟨b, off, none⟩ ∧ (∀ j u, (wqc x)[j]? = some u → W.cell? ⟨b, off + j, none⟩ = some u) ∧ WqIn x) (fun i hi => by
      obtain ⟨cs', h1, h2⟩ := hx i (by omega)
      obtain ⟨b, off, x, h3, h4, h5⟩ := wr_of_trod h1 h2
      exact ⟨x, b, off, h3, h4, h5⟩)
    refine ⟨some a, len, cap, (List.range len).map Z, rfl, by simp, ?_, ?_, .inr ⟨_, _, rfl, by simp⟩⟩
    · by_cases h0 : len = 0
      · left; subst h0; rfl
      · right
        obtain ⟨b, off, h1, h1c, _⟩ := hZ 0 (by omega)
        have h1' : a = ⟨b, off, none⟩ := by simpa [Addr.add] using h1
        subst h1'
        refine ⟨b, off, rfl, ?_, fun j hj i u hu => ?_⟩
        · have := h1c 0 _ rfl
          exact World.block_lt_of_cell? _ _ this
        · have hj' : j < len := by simpa using hj
          obtain ⟨b', off', h2, h3, _⟩ := hZ j hj'
          rw [Go.WideShapes.add_plain] at h2
          simp only [Addr.mk.injEq, and_true] at h2
          obtain ⟨rfl, rfl⟩ := h2
          simp only [List.getElem_map, List.getElem_range] at hu
          exact h3 i u hu
    · intro o ho
      obtain ⟨i, hi, rfl⟩ := List.mem_map.1 ho
      obtain ⟨_, _, _, _, h5⟩ := hZ i (by simpa using hi)
      exact h5
end Go.Proofs.Ytoihdlhdbmepgaa
/-
  WHAT THE BOUND ON THE BULK GIVES.
-/
namespace Go.Proofs.Ytoihdlhdbmepgaa

theorem bulk_one {H : Type} (d : DataW H) : 1 ≤ Rows.uptoBulk d := by
  cases d with
  | lit l => cases l <;> simp [Rows.uptoBulk]
  | _ => simp [Rows.uptoBulk]
theorem bulk_length {H : Type} (l : List (DataW H)) : l.length ≤ Rows.uptoBulkAll l := by
  induction l with
  | nil => simp [Rows.uptoBulkAll]
  | cons x r ih => have := bulk_one x; simp only [Rows.uptoBulkAll, List.length_cons]; omega
theorem bulk_slice {H : Type} (elems spare : List (DataW H)) : elems.length + spare.length + 1 ≤ Rows.uptoBulk (.slice elems spare) := by
  have h1 := bulk_length elems
  have h2 := bulk_length spare
  simp only [Rows.uptoBulk]
  omega
theorem bulk_bytes {H : Type} {d : DataW H} {len : Nat} (h : len = 0 ∨ ∃ elems spare, d = .slice elems spare ∧ len ≤ elems.length + spare.length) : len + 1 ≤ Rows.uptoBulk d := by
  rcases h with h | ⟨elems, spare, rfl, hl⟩
  · have := bulk_one d; omega
  · have := bulk_slice elems spare; omega
theorem bulk_of_small {H : Type} {l : List (DataW H)} (h : Rows.uptoSmall H l = true) : Rows.uptoBulkAll l ≤ 1048576 := of_decide_eq_true h

end Go.Proofs.Ytoihdlhdbmepgaa
/-
  StoreFills: THE ROW.
-/
namespace Go.Proofs.Ytoihdlhdbmepgaa.storeFills
open Go.ChangeShapes Go.WideShapes Go.ChangeAt Go.RowKit

theorem own : ownKnob Try.prog.godebug = none := by kernel_rfl
theorem laidOut : laidOutB Try.prog = true := by kernel_rfl

set_option maxRecDepth 100000 in
theorem contract (H : Type) (enc : TypeId × Value → H) (W : World) (base : Nat) (args : Array Value) (ds gs : List (DataW H)) (before : List MemPlace)
    (hval : ∀ (j : Nat) t v, Try.f6.params[j]? = some t → args[j]? = some v → Value.okWide Try.prog W .any base t v)
    (hW : DataW.Whole enc Try.prog Try.f6.params.toList Rows.storeFillsSpec.vars false W args.toList ds gs before) (hk : Rows.uptoSmall H (ds ++ gs) = true) :
    Calls Try.prog 6 args W fun e W' => ∃ v, e = .returned v ∧ Rows.storeFillsSpec.post enc Try.prog Try.f6 false true false false W args v W' := by
  have hW' := hW
  obtain ⟨p, q, hA0, hV, rfl, hfz, hnd⟩ := hW
  have hA : DataW.TrodAll enc Try.prog W 0 (fun _ => true) true Try.f6.params.toList args.toList ds p := hA0
  rw [Try.params6] at hA hval
  obtain ⟨v0, vs0, d0, ds0, p0, q0, hargs, rfl, rfl, h0, r0⟩ := trodAll_cons hA
  obtain ⟨v1, vs1, d1, ds1, p1, q1, rfl, rfl, rfl, h1, r1⟩ := trodAll_cons r0
  obtain ⟨v2, vs2, d2, ds2, p2, q2, rfl, rfl, rfl, h2, r2⟩ := trodAll_cons r1
  obtain ⟨rfl, rfl, rfl⟩ := trodAll_nil r2
  obtain rfl : args = #[v0, v1, v2] := by cases args; simp_all
  obtain ⟨rfl, rfl⟩ := trodVars_none hV
  have hbulk := bulk_of_small hk
  simp only [List.append_nil, Rows.uptoBulkAll] at hbulk
  have k0 := h0
  have lt0 : ∀ x ∈ p0, x.block < W.heap.size := by obtain ⟨m, hm⟩ := k0; exact DataW.trod_lt m _ _ _ hm
  obtain ⟨x_0, rfl, rfl, rfl, wx_0⟩ := open_int Try.underlying3 (hval 0 3 v0 rfl rfl) h0
  have inx_0 : In64 x_0 := bounds_i64 wx_0
  obtain ⟨a_1, len_1, cap_1, rfl⟩ := okWide_slice Try.underlying22 (hval 1 22 v1 rfl rfl)
  have k1 := h1
  have lt1 : ∀ x ∈ p1, x.block < W.heap.size := by obtain ⟨m, hm⟩ := k1; exact DataW.trod_lt m _ _ _ hm
  obtain ⟨fuel1, hf1⟩ := h1
  obtain ⟨a1', len1', cap1', S_1, hcs1, ln_1, hs_1, inS_1, hx1⟩ := ws_of_trod hf1
  simp [Value.cells] at hcs1
  obtain ⟨rfl, rfl, rfl⟩ := hcs1
  have hu_1 := bulk_bytes hx1
  simp only at hu_1
  have k2 := h2
  have lt2 : ∀ x ∈ p2, x.block < W.heap.size := by obtain ⟨m, hm⟩ := k2; exact DataW.trod_lt m _ _ _ hm
  obtain ⟨c0, c1, y0, y1, m, rfl, rfl, rfl, hy0, hy1⟩ := Joins.open_agg2 Try.underlying30 (by kernel_rfl) (by kernel_rfl) (hval 2 30 v2 rfl rfl) h2
  obtain ⟨b_2, e0, _⟩ := DataW.trod_bool Try.underlying4 hy0
  obtain ⟨x_2, e1, _, wx1⟩ := DataW.trod_int Try.underlying2 hy1
  simp only [List.cons.injEq, and_true] at e0 e1
  subst e0 e1
  have inx_2 : In64 x_2 := bounds_i64 wx1
  clear hy0 hy1 wx1
  clear hA0
  refine (law_sfills W x_0 a_1 len_1 cap_1 S_1 b_2 x_2 ln_1 (by omega) hs_1 inS_1 inx_2).mono fun e W' ⟨he, bel⟩ => ?_
  subst he
  exact ⟨_, rfl, _, _, _, [], _, [], hW', trodAll_mk1 (shut_bool Try.underlying4 _), (trodAll_cons_mk (Below.trod laidOut (by kernel_rfl) (of_decide_eq_true (by kernel_rfl)) k0 bel lt0) (trodAll_cons_mk (Below.trod laidOut (by kernel_rfl) (of_decide_eq_true (by kernel_rfl)) k1 bel lt1) (trodAll_cons_mk (Below.trod laidOut (by kernel_rfl) (of_decide_eq_true (by kernel_rfl)) k2 bel lt2) trodAll_mk0))), rfl, bel.frame _, fun h => by cases h⟩

set_option maxRecDepth 100000 in
theorem lifted (os : Os) (started : os.Started) (H : Type) (enc : TypeId × Value → H) (F : Stop.Interp) :
    ReturnsInHanded {} Try.checked os 6 .any ((Rows.OpenSpec.upto Rows.storeFillsSpec).pre6 enc Try.prog Try.f6 Rows.storeFillsUptoRow.domain false) (((Rows.OpenSpec.upto Rows.storeFillsSpec).at F).post enc Try.prog Try.f6 false true false false) := by
  refine returnsInHanded_of_cond (C := Try.checked) (s := Rows.OpenSpec.upto Rows.storeFillsSpec) (k := Rows.uptoSmall) rfl own started (by kernel_rfl) Try.func6
    (OpenSpec.witness (enc := enc) (C := Try.checked) (s := Rows.OpenSpec.upto Rows.storeFillsSpec) (k := Rows.uptoSmall) rfl false ⟨#[], #[.int .i64 0, .slice none 0 0, .agg #[.bool false, .int .i64 0]], []⟩ 8 (by kernel_rfl) (by kernel_rfl) (by kernel_rfl)
      (x := ([.lit (.int .i64 0), .nil, .agg [.lit (.bool false), .lit (.int .i64 0)]], [], [])) (by kernel_rfl) rfl (by kernel_rfl)) ?_
  intro W base args ds gs before hval hW _ hk _
  exact contract H enc W base args ds gs before hval hW hk

theorem proved : Rows.StoreFillsUptoSaid :=
  OpenClaim.holds_of_cond 6 Try.f6 rfl rfl rfl rfl rfl rfl rfl ⟨rfl, rfl, rfl, rfl, rfl⟩ rfl rfl rfl rfl rfl (by kernel_rfl) Try.func6 (by kernel_rfl)
    (of_decide_eq_true (by kernel_rfl)) (by unfold Func.isWrapper; first | (rw [if_pos (by decide +kernel)]; kernel_rfl) | (rw [if_neg (by decide +kernel)]; exact ⟨rfl, rfl⟩))
    (fun os started H enc _ F => lifted os started H enc F)
end Go.Proofs.Ytoihdlhdbmepgaa.storeFills
namespace Go.Proofs.Ytoihdlhdbmepgaa
theorem storeFillsUpto_holds : Rows.StoreFillsUptoSaid := storeFills.proved
#print axioms storeFillsUpto_holds
end Go.Proofs.Ytoihdlhdbmepgaa
