import Derived.Test.YtfkijdlggdgfhaaJSBeg
import Derived.Test.YtfkijdlggdgfhaaJSWrite
import Derived.Deep.RegionHeld3
import Derived.Test.YtfkijdlggdgfhaaJKSound
import Derived.Laws.AppendOwnNone
import Derived.BigQuiet
import Derived.Test.YtfkijdlggdgfhaaKList
import Derived.SizedLaws
import Derived.Lib.SmallJoins
import Derived.Deep.Slices
import Derived.Test.YtfkijdlggdgfhaaRows
import Derived.ChangeOld
import Derived.ProofKit
import Derived.OpenShut
import Derived.JoinedCond
/-
  StoreFills: WHAT IT STANDS ON.
-/
namespace Go.Proofs.Ytfkijdlggdgfhaa
open Go.RowKit Go.Sort

theorem run_neCell (x1 : Bool) (x2 : Int) (y1 : Bool) (y2 : Int) (w : World) : Sem.run Try.prog (binOp .neq 30 (.agg #[.bool x1, .int .i64 x2]) (.agg #[.bool y1, .int .i64 y2])) w = .ok (.bool (!decide ((x1, x2) = (y1, y2)))) w := by
  have u3 := Try.underlying4
  have a3 := Try.isAgg4
  have z3 := Try.sizeOf4
  have u2 := Try.underlying2
  have a2 := Try.isAgg2
  have z2 := Try.sizeOf2
  have hS : Try.prog.underlying 30 = some (.struct (Try.prog.fieldsOf 30)) := by kernel_rfl
  have hp : Try.prog.stoodInHeld 30 = false := by kernel_rfl
  rw [run_neq_struct, show (10000 : Nat) = 9999 + 1 from rfl, run_equalIn_agg w 9999 30 _ _ hS hp]
  simp only [Program.fieldsOf, Try.underlying30]
  go_simp
  cases x1 <;> cases y1 <;> by_cases h2 : x2 = y2 <;> simp [h2]
section
variable {n0 : Nat} {F : Nat → Prop} {w : World} {B S P : Nat} {av : Value} {vs ws : List Vr} {lb last batch : Int}
/-- its list is let go -/
theorem WS.clearAll (h : WS n0 F w B S P av vs ws lb last batch) : WS n0 F (w.setCell ⟨B, 1, none⟩ (.slice none 0 0)) B S P (.slice none 0 0) vs [] lb last batch := by
  have hs : ∀ k, k ≠ B → (w.setCell ⟨B, 1, none⟩ (.slice none 0 0)).heap[k]? = w.heap[k]? := fun k hk => heap_setCell_other _ _ _ _ hk
  refine ⟨blk_set _ h.bx, (h.st.off (fun k _ hn => hs k (fun e => hn (.inr (.inl e))))).frame (fun k hk => .inl ?_), World.ownsRow_nil _ _ _ _, h.Bn, h.FB, fun k hk => (by cases hk), fun k hF => by simpa using h.Fl k hF, by simpa using h.n0l⟩
  rcases hk with h1 | h1 | h1
  · exact .inl h1
  · exact .inr (.inl h1)
  · cases h1
theorem WS.look (h : WS n0 F w B S P av vs ws lb last batch) (n : Int) (hn : In64 n) {v : Vr} (hf : fv vs n = some v) :
    Calls Try.prog 21 #[ptr S, .int .i64 n] w fun e w' => e = .returned (.tuple #[.agg #[.int .i64 v.ba, .int .i64 v.ix, .bool v.fl, .bool v.ci, .int .i64 v.cv], .int .i64 0]) ∧ Below w.heap.size w w' := by
  have := look_st _ _ w S P 65536 last vs h.st n hn
  rw [hf] at this
  exact this
theorem WS.fillX (h : WS n0 F w B S P av vs ws lb last batch) (n : Int) (ci : Bool) (cv : Int) (hn : In64 n) (hcv : In64 cv) (E : Int) (hE : filE (fv vs n) = E) (h0 : E ≠ 0) :
    Calls Try.prog 22 #[ptr S, .int .i64 n, .agg #[.bool ci, .int .i64 cv]] w fun e w' => e = .returned (.int .i64 E) ∧ WS n0 F w' B S P av vs ws lb last batch ∧ Kp n0 F w w' := by
  have hL : filL vs n ci cv = vs := by unfold filL; rw [hE, if_neg h0]
  refine (fill_st _ _ w S P 65536 last vs h.st n ci cv hn hcv).mono ?_
  rintro e w' ⟨rfl, hkp, hst⟩
  rw [hL] at hst
  exact ⟨by rw [hE], h.kp hkp hst, hkp.mono (fun k _ hF => .inl hF)⟩
end
/-- the first version, filled -/
abbrev f1 (b : Nat) (ci : Bool) (cv : Int) : Vr := fillV (v1 b) ci cv
theorem fv_f1 (b : Nat) (ci : Bool) (cv : Int) (ws : List Vr) : fv ([f1 b ci cv] ++ ws) 1 = some (f1 b ci cv) := by
  unfold fv
  rw [List.cons_append, List.find?_cons_of_pos]
  simp [fillV]
/-- the loop's state -/
structure FL (n0 : Nat) (A : Nat) (w0 wr : World) (B S P : Nat) (b : Nat) (ci : Bool) (cv : Int) (j : Nat) (av : Value) (ws : List Vr) (last batch : Int) : Prop where
  wsx : WS n0 (fun k => k = A) wr B S P av ([f1 b ci cv] ++ ws) ws last last batch
  ba : ∀ v ∈ [f1 b ci cv] ++ ws, v.ba ≤ batch
  la : 1 ≤ last ∧ last ≤ 1 + j
  bt : 2 ≤ batch ∧ batch ≤ 2 + 100 * j
  bel : Below n0 w0 wr
  av_ : ∃ c0 c1 c2 c3 c4, RV wr A c0 c1 c2 c3 c4
theorem FL.write {n0 A : Nat} {w0 wr : World} {B S P b : Nat} {ci : Bool} {cv : Int} {j : Nat} {av : Value} {ws : List Vr} {last batch : Int} (h : FL n0 A w0 wr B S P b ci cv j av ws last batch) {x : Wq} {e : Ending} {w' : World} (hp : WrPost n0 (fun k => k = A) wr B S P [f1 b ci cv] ws last batch x e w') : e = .returned (.bool true) ∧ ∃ av' ws' last' batch', FL n0 A w0 w' B S P b ci cv (j + 1) av' ws' last' batch' := by
  obtain ⟨he, hk, av', hp⟩ := hp
  have hbel := h.bel.trans (hk.below h.wsx.n0l)
  have hav : ∃ c0 c1 c2 c3 c4, RV w' A c0 c1 c2 c3 c4 := by
    obtain ⟨c0, c1, c2, c3, c4, hr⟩ := h.av_
    exact ⟨c0, c1, c2, c3, c4, hk.heap rfl hr⟩
  have hsub : ∀ v ∈ [f1 b ci cv] ++ dropL x.dr ws, v.ba ≤ batch := fun v hv => h.ba v (by
    rcases List.mem_append.1 hv with h1 | h1
    · exact List.mem_append.2 (.inl h1)
    · exact List.mem_append.2 (.inr ((dropL_sub x.dr ws).subset h1)))
  have h1 := h.la
  have h2 := h.bt
  refine ⟨he, ?_⟩
  rcases hp with hp | ⟨v, ba', hp⟩
  · exact ⟨av', _, last, batch, hp, hsub, by omega, by omega, hbel, hav⟩
  · have h3 := hp.lt
    refine ⟨av', _, last + 1, ba', hp.ws, fun u hu => ?_, by omega, by omega, hbel, hav⟩
    rcases List.mem_append.1 hu with h4 | h4
    · have := hsub u (List.mem_append.2 (.inl h4)); omega
    · rcases List.mem_append.1 h4 with h5 | h5
      · have := hsub u (List.mem_append.2 (.inr h5)); omega
      · simp at h5; rw [h5, hp.ba]; exact Int.le_refl _
theorem fr_e5 (W : World) (A : Nat) (c0 c1 c2 c3 c4 : Value) : Fr (fun k => k = A) W (e5 W A c0 c1 c2 c3 c4) := by
  have s1 : Fr (fun k => k = A) W (W.setCell ⟨A, 0, none⟩ c0) := (Fr.refl _ W).set ⟨A, 0, none⟩ c0 (.inr rfl)
  have s2 := s1.set ⟨A, 1, none⟩ c1 (.inr rfl)
  have s3 := s2.set ⟨A, 2, none⟩ c2 (.inr rfl)
  have s4 := s3.set ⟨A, 3, none⟩ c3 (.inr rfl)
  exact s4.set ⟨A, 4, none⟩ c4 (.inr rfl)
/-- what the loop's round leaves -/
theorem WS.five {n0 A : Nat} {w : World} {B S P : Nat} {av : Value} {vs ws : List Vr} {lb last batch : Int} (h : WS n0 (fun k => k = A) w B S P av vs ws lb last batch) (c0 c1 c2 c3 c4 : Value) : WS n0 (fun k => k = A) (e5 w A c0 c1 c2 c3 c4) B S P av vs ws lb last batch :=
  h.off (fr_e5 w A c0 c1 c2 c3 c4).size (fr_e5 w A c0 c1 c2 c3 c4).block
theorem WS.removeN {n0 : Nat} {F : Nat → Prop} {w : World} {B S P : Nat} {av : Value} {vs ws : List Vr} {lb last batch : Int} (h : WS n0 F w B S P av vs ws lb last batch) (n : Int) (hn : In64 n) {v : Vr} (hf : fv vs n = some v) :
    Calls Try.prog 20 #[ptr S, .int .i64 n] w fun e w' => e = .returned (.int .i64 0) ∧ (∃ vs', fv vs' n = none ∧ WS n0 F w' B S P av vs' ws lb last batch) ∧ Kp n0 F w w' := by
  refine (remove_st _ _ w S P 65536 last vs h.st n hn).mono ?_
  rintro e w' ⟨hkp, ⟨h0, _⟩ | ⟨A, u, C, h1, h2, rfl, hst⟩⟩
  · rw [hf] at h0; cases h0
  · refine ⟨rfl, ⟨A ++ C, ?_, h.kp hkp hst⟩, hkp.mono (fun k _ hF => .inl hF)⟩
    have hnd := h.st.nd
    rw [h1] at hnd
    have hs := nodup_split hnd
    refine List.find?_eq_none.2 fun x hx => ?_
    simp only [decide_eq_true_eq]
    rw [← h2]
    rcases List.mem_append.1 hx with m | m
    · exact hs.1 x m
    · exact hs.2 x m
end Go.Proofs.Ytfkijdlggdgfhaa
/-
  StoreFills.
-/
namespace Go.Proofs.Ytfkijdlggdgfhaa
open Go.RowKit Go.Sort

/-- writes as they lie -/
def WrsAt (w : World) (ao : Option Addr) (l : List Wq) : Prop := l = [] ∨ ∃ b off, ao = some ⟨b, off, none⟩ ∧ b < w.heap.size ∧ ∀ j (h : j < l.length) i u, (wqc l[j])[i]? = some u → w.cell? ⟨b, off + j * 8 + i, none⟩ = some u
set_option maxRecDepth 100000 in
set_option maxHeartbeats 8000000 in
theorem law_sfills (w : World) (pp : Int) (ao : Option Addr) (m cp : Nat) (l : List Wq) (ci : Bool) (cv : Int) (hm : m = l.length) (hm2 : m ≤ 1048576) (hw : WrsAt w ao l) (hin : ∀ x ∈ l, WqIn x) (hcv : In64 cv) :
    Calls Try.prog 6 #[.int .i64 pp, .slice ao m cp, .agg #[.bool ci, .int .i64 cv]] w fun e w' => e = .returned (.bool true) ∧ Below w.heap.size w w' := by
  have HL : Hid (WrsAt w ao l ∧ m = l.length ∧ (∀ x ∈ l, WqIn x) ∧ In64 cv) := ⟨hw, hm, hin, hcv⟩
  clear hw hm hin hcv
  obtain ⟨C, hC⟩ : ∃ C, C = w.heap.size := ⟨_, rfl⟩
  obtain ⟨W0, hW0⟩ : ∃ W0, W0 = w.alloc (.cells #[.bool ci, .int .i64 cv] 30) := ⟨_, rfl⟩
  have HB0 : Hid (Below w.heap.size w W0 ∧ W0.heap[C]? = some (.cells #[.bool ci, .int .i64 cv] 30 (0, 0))) := by
    refine ⟨?_, ?_⟩
    · rw [hW0]; exact (Below.refl _ _).alloc (Nat.le_refl _) _
    · rw [hW0, hC]; exact heap_alloc_new _ _ rfl
  have HCc : Hid (∀ W, Below W0.heap.size W0 W → W.cell? ⟨C, 0, none⟩ = some (.bool ci) ∧ W.cell? ⟨C, 1, none⟩ = some (.int .i64 cv)) := fun W hW => by
    have h1 := (hW.block C (blk_lt HB0.out.2)).trans HB0.out.2
    exact ⟨by rw [World.cell?, h1]; rfl, by rw [World.cell?, h1]; rfl⟩
  have HBg := begun_any W0 pp
  go_enter Try.func6, Try.ntmps6
  go_upto_region 1 with fail
  rw [← hW0, ← hC]
  clear hW0 hC
  go_wp2_with fail
  refine HBg.mono ?_
  clear HBg
  rintro e w1 ⟨B, S, P, b, g, rfl, _, _, hb1, hws1⟩
  have HW1 := hidC hws1
  have HB1 := hidC hb1
  clear hws1 hb1
  obtain ⟨s0, _⟩ := HW1.out.cells
  have HLk := HW1.out.look 1 (by unfold In64; omega) (v := v1 b) rfl
  go_wp2_with fail
  refine HLk.mono ?_
  clear HLk
  rintro e w2 ⟨rfl, hb2⟩
  have HW2 := hidC (HW1.out.kept hb2)
  have HB2 : Hid (Below W0.heap.size W0 w2) := HB1.out.trans (hb2.mono HB1.out.size)
  clear hb2 s0 HW1 HB1
  go_upto_region 5 with fail
  obtain ⟨A, hA⟩ : ∃ A, A = w2.heap.size := ⟨_, rfl⟩
  obtain ⟨W3, hW3⟩ : ∃ W3, W3 = w2.alloc (.cells #[.int .i64 1, .int .i64 0, .bool false, .bool false, .int .i64 0] 61) := ⟨_, rfl⟩
  have HB3 : Hid (Below w2.heap.size w2 W3 ∧ RV W3 A (.int .i64 1) (.int .i64 0) (.bool false) (.bool false) (.int .i64 0)) := by
    refine ⟨?_, ?_⟩
    · rw [hW3]; exact (Below.refl _ _).alloc (Nat.le_refl _) _
    · rw [hW3, hA]; exact heap_alloc_new _ _ rfl
  have HW3 : Hid (WS W0.heap.size (fun k => False ∨ k = A) W3 B S P (.slice (some ⟨g, 0, none⟩) 1 1) [v1 b] [v1 b] 1 1 2) := HW2.out.box HB3.out.1 (by omega) (blk_lt HB3.out.2)
  have HBl3 : Hid (Below W0.heap.size W0 W3) := HB2.out.trans (HB3.out.1.mono HB2.out.size)
  have HAn : Hid (W0.heap.size ≤ A) := by show _ ≤ _; rw [hA]; exact HB2.out.size
  rw [← hW3, ← hA]
  clear hW3 hA HW2 HB2
  have HCl : Hid (∀ W vs', WS W0.heap.size (fun k => False ∨ k = A) W B S P (.slice (some ⟨g, 0, none⟩) 1 1) vs' [v1 b] 1 1 2 → Kp W0.heap.size (fun k => False ∨ k = A) W3 W → (W.cell? ⟨A, 2, none⟩ = some (.bool false) ∧ W.cell? ⟨A, 3, none⟩ = some (.bool false) ∧ W.cell? ⟨A, 4, none⟩ = some (.int .i64 0)) ∧ W.cell? ⟨B, 0, none⟩ = some (ptr S) ∧ W.cell? ⟨C, 0, none⟩ = some (.bool ci) ∧ W.cell? ⟨C, 1, none⟩ = some (.int .i64 cv)) := fun W vs' h1 h2 => by
    have h3 : RV W A _ _ _ _ _ := h2.heap (.inr rfl) HB3.out.2
    have h4 := HCc.out W (HBl3.out.trans (h2.below HBl3.out.size))
    exact ⟨⟨h3.cells.2.2.1, h3.cells.2.2.2.1, h3.cells.2.2.2.2⟩, h1.cells.1, h4.1, h4.2⟩
  have HF1 : Hid (Calls Try.prog 22 #[ptr S, .int .i64 1, .agg #[.bool ci, .int .i64 cv]] W3.drew fun e w' => e = .returned (.int .i64 0) ∧ WS W0.heap.size (fun k => False ∨ k = A) w' B S P (.slice (some ⟨g, 0, none⟩) 1 1) [f1 b ci cv] [v1 b] 1 1 2 ∧ Kp W0.heap.size (fun k => False ∨ k = A) W3 w') := by
    have h0 := HW3.out.kept (drew_below W3 1)
    have hc := h0.fill 1 ci cv (by unfold In64; omega) HL.out.2.2.2 (v := v1 b) rfl rfl
    exact hc.mono fun e w' ⟨a1, a2, a3⟩ => ⟨a1, a2, (Kp.ofBelow (drew_below W3 1)).trans a3⟩
  have HF2 : Hid (∀ W, WS W0.heap.size (fun k => False ∨ k = A) W B S P (.slice (some ⟨g, 0, none⟩) 1 1) [f1 b ci cv] [v1 b] 1 1 2 → Kp W0.heap.size (fun k => False ∨ k = A) W3 W → Calls Try.prog 22 #[ptr S, .int .i64 1, .agg #[.bool true, .int .i64 7]] W fun e w' => e = .returned (.int .i64 95) ∧ WS W0.heap.size (fun k => False ∨ k = A) w' B S P (.slice (some ⟨g, 0, none⟩) 1 1) [f1 b ci cv] [v1 b] 1 1 2 ∧ Kp W0.heap.size (fun k => False ∨ k = A) W3 w') := fun W h1 h2 => by
    have hc := h1.fillX 1 true 7 (by unfold In64; omega) (by unfold In64; omega) 95 (by rw [show fv [f1 b ci cv] 1 = some (f1 b ci cv) from fv_f1 b ci cv []]; rfl) (by decide)
    exact hc.mono fun e w' ⟨a1, a2, a3⟩ => ⟨a1, a2, h2.trans a3⟩
  obtain ⟨⟨z2, z3, z4⟩, s0, y0, y1⟩ := HCl.out W3 _ HW3.out (Kp.refl _ _ _)
  have hne : ∀ w : World, Sem.run Try.prog (binOp .neq 30 (.agg #[.bool false, .int .i64 0]) (.agg #[.bool false, .int .i64 0])) w = .ok (.bool false) w := fun w => by rw [run_neCell]; rfl
  go_region_held3 (fun w' => (w'.cell? ⟨A, 2, none⟩ = some (.bool false) ∧ w'.cell? ⟨A, 3, none⟩ = some (.bool false) ∧ w'.cell? ⟨A, 4, none⟩ = some (.int .i64 0)) ∧ w'.cell? ⟨B, 0, none⟩ = some (ptr S) ∧ w'.cell? ⟨C, 0, none⟩ = some (.bool ci) ∧ w'.cell? ⟨C, 1, none⟩ = some (.int .i64 cv)) (first | with_reducible exact HQ5.out | with_reducible exact HQ4.out | go_keep) (first
    | (go_at_call 22; with_reducible refine HF1.out.mono ?_; rintro e w4 ⟨rfl, hw4, hk4⟩; have HQ4 := hidC (HCl.out _ _ hw4 hk4); have HW4 := hidC hw4; have HK4 := hidC hk4; clear hw4 hk4)
    | (go_at_call 22; with_reducible refine (HF2.out _ HW4.out HK4.out).mono ?_; rintro e w5 ⟨rfl, hw5, hk5⟩; have HQ5 := hidC (HCl.out _ _ hw5 hk5); have HW5 := hidC hw5; have HK5 := hidC hk5; clear hw5 hk5))
  clear z2 z3 z4 s0 y0 y1 HF1 HF2 HCl HQ4 HQ5 HW4 HK4
  obtain ⟨_, s1, _⟩ := HW5.out.cells
  have f1' := HW5.out.frozen 1
  have HFL : Hid (FL W0.heap.size A W0 (w5.setCell ⟨B, 1, none⟩ (.slice none 0 0)) B S P b ci cv 0 (.slice none 0 0) [] 1 2) := by
    have hk5 : Below W0.heap.size W0 w5 := HBl3.out.trans (HK5.out.below HBl3.out.size)
    have hAB : A ≠ B := fun e => HW5.out.FB (.inr e.symm)
    refine ⟨HW5.out.clearAll.unbox (fun k hk => .inr hk), fun v hv => ?_, by omega, by omega, hk5.trans ⟨rfl, rfl, rfl, by simp, fun k hk => heap_setCell_other w5 ⟨B, 1, none⟩ k _ (by have := HW5.out.Bn; show k ≠ B; omega)⟩, .int .i64 1, .int .i64 0, .bool false, .bool false, .int .i64 0, ?_⟩
    · simp at hv; subst hv; show (1 : Int) ≤ 2; omega
    · exact (heap_setCell_other w5 ⟨B, 1, none⟩ A _ hAB).trans (HK5.out.heap (.inr rfl) HB3.out.2)
  clear HW5 HK5 HB3 HW3 HBl3
  go_wp2_with fail
  go_loopw [10, 11, 12] (fun _ x _ wr => ∃ (j : Nat) (av : Value) (ws : List Vr) (last batch : Int), j ≤ m ∧ x = .int .i64 (j : Int) ∧ Hid (FL W0.heap.size A W0 wr B S P b ci cv j av ws last batch)) (fun _ x _ _ => m - (intOf x).toNat)
  case atStart => exact ⟨0, _, _, _, _, Nat.zero_le _, rfl, HFL⟩
  case round =>
    clear HFL s1 f1'
    obtain ⟨j, av, ws, last, batch, hj, rfl, HFr⟩ := hrel
    by_cases hlt : j < m
    · obtain ⟨lb, lo, hao, hbl, x, HXi, x0, x1, x2, x3, x4, x5, x6, x7⟩ : ∃ lb lo, ao = some ⟨lb, lo, none⟩ ∧ lb < w.heap.size ∧ ∃ x : Wq, Hid (WqIn x) ∧ wr.cell? ⟨lb, lo + j * 8, none⟩ = some (.int .i64 x.k.1) ∧ wr.cell? ⟨lb, lo + j * 8 + 1, none⟩ = some (.int .i64 x.k.2) ∧ wr.cell? ⟨lb, lo + j * 8 + 2, none⟩ = some (.int .i64 x.la) ∧ wr.cell? ⟨lb, lo + j * 8 + 3, none⟩ = some (.int .i64 x.ix) ∧ wr.cell? ⟨lb, lo + j * 8 + 4, none⟩ = some (.bool x.fl) ∧ wr.cell? ⟨lb, lo + j * 8 + 5, none⟩ = some (.bool x.ci) ∧ wr.cell? ⟨lb, lo + j * 8 + 6, none⟩ = some (.int .i64 x.cv) ∧ wr.cell? ⟨lb, lo + j * 8 + 7, none⟩ = some (.int .i64 x.dr) := by
        obtain ⟨h1, h2, h3, _⟩ := HL.out
        have hbel : Below w.heap.size w wr := HB0.out.1.trans (HFr.out.bel.mono HB0.out.1.size)
        rcases h1 with h1 | ⟨lb, lo, h1, hlb, h4⟩
        · rw [h1] at h2; simp at h2; omega
        · have hjl : j < l.length := by omega
          have hc : ∀ i u, (wqc l[j])[i]? = some u → wr.cell? ⟨lb, lo + j * 8 + i, none⟩ = some u := fun i u hu => (hbel.cell (p := ⟨lb, lo + j * 8 + i, none⟩) hlb).trans (h4 j hjl i u hu)
          exact ⟨lb, lo, h1, hlb, l[j], h3 _ (List.getElem_mem hjl), hc 0 _ rfl, hc 1 _ rfl, hc 2 _ rfl, hc 3 _ rfl, hc 4 _ rfl, hc 5 _ rfl, hc 6 _ rfl, hc 7 _ rfl⟩
      subst hao
      have HWr := hidC (write_any W0.heap.size (fun k => k = A) wr B S P av [f1 b ci cv] ws last batch x HFr.out.wsx HFr.out.ba HXi.out (by have := HFr.out.la; omega) (by have := HFr.out.bt; omega) (by simp))
      obtain ⟨⟨xk1, xk2⟩, xla, xix, xfl, xci, xcv, xdr⟩ := x
      simp only [wqc] at x0 x1 x2 x3 x4 x5 x6 x7 HWr
      go_wp2_with fail
      refine HWr.out.mono ?_
      clear HWr x0 x1 x2 x3 x4 x5 x6 x7 HXi
      intro e w6 hwp
      obtain ⟨rfl, av', ws', last', batch', hf6⟩ := HFr.out.write hwp
      have HF6 := hidC hf6
      clear hf6 hwp HFr
      obtain ⟨s0, _⟩ := HF6.out.wsx.cells
      obtain ⟨d3, hd3⟩ : ∃ d3, d3 = (f1 b ci cv).ci := ⟨_, rfl⟩
      obtain ⟨d4, hd4⟩ : ∃ d4, d4 = (f1 b ci cv).cv := ⟨_, rfl⟩
      have HD34 : Hid (d3 = (f1 b ci cv).ci ∧ d4 = (f1 b ci cv).cv) := ⟨hd3, hd4⟩
      have HLk : Calls Try.prog 21 #[ptr S, .int .i64 1] w6 fun e w' => e = .returned (.tuple #[.agg #[.int .i64 1, .int .i64 0, .bool true, .bool d3, .int .i64 d4], .int .i64 0]) ∧ Below w6.heap.size w6 w' := by
        have h1 := HF6.out.wsx.look 1 (by unfold In64; omega) (v := f1 b ci cv) (fv_f1 b ci cv ws')
        rw [← hd3, ← hd4] at h1
        exact h1
      clear hd3 hd4
      go_wp2_with fail
      refine HLk.mono ?_
      clear HLk
      rintro e w7 ⟨rfl, hb7⟩
      have HW7 := hidC (HF6.out.wsx.kept hb7)
      have HB7 : Hid (Below W0.heap.size W0 w7) := HF6.out.bel.trans (hb7.mono HF6.out.bel.size)
      obtain ⟨q0, q1, q2, q3, q4, hrv⟩ := HF6.out.av_
      have HRv : Hid (RV w7 A q0 q1 q2 q3 q4) := (hb7.block A (blk_lt hrv)).trans hrv
      have HFb : Hid ((∀ v ∈ [f1 b ci cv] ++ ws', v.ba ≤ batch') ∧ (1 ≤ last' ∧ last' ≤ 1 + ((j + 1 : Nat) : Int)) ∧ (2 ≤ batch' ∧ batch' ≤ 2 + 100 * ((j + 1 : Nat) : Int))) := ⟨HF6.out.ba, HF6.out.la, HF6.out.bt⟩
      clear hrv hb7 HF6 s0
      obtain ⟨z0, z1, z2, z3, z4⟩ := HRv.out.cells
      have g0 := HRv.out.frozen 0
      have g1 := HRv.out.frozen 1
      have g2 := HRv.out.frozen 2
      have g3 := HRv.out.frozen 3
      have g4 := HRv.out.frozen 4
      go_upto_region 14 with fail
      have HR8 : Hid (RV (e5 w7 A (.int .i64 1) (.int .i64 0) (.bool true) (.bool d3) (.int .i64 d4)) A (.int .i64 1) (.int .i64 0) (.bool true) (.bool d3) (.int .i64 d4)) := HRv.out.five _ _ _ _ _
      have HW8 : Hid (WS W0.heap.size (fun k => k = A) (e5 w7 A (.int .i64 1) (.int .i64 0) (.bool true) (.bool d3) (.int .i64 d4)) B S P av' ([f1 b ci cv] ++ ws') ws' last' last' batch') := HW7.out.five _ _ _ _ _
      have HB8 : Hid (Below W0.heap.size W0 (e5 w7 A (.int .i64 1) (.int .i64 0) (.bool true) (.bool d3) (.int .i64 d4))) := below_e5 HB7.out HAn.out _ _ _ _ _
      clear z0 z1 z2 z3 z4 g0 g1 g2 g3 g4 HRv HW7 HB7
      have hne2 : ∀ (x : Bool) (y : Int) (w : World), Sem.run Try.prog (binOp .neq 30 (.agg #[.bool x, .int .i64 y]) (.agg #[.bool x, .int .i64 y])) w = .ok (.bool false) w := fun x y w => by rw [run_neCell]; simp
      unfold e5 at HR8 HW8 HB8
      generalize (((((w7.setCell ⟨A, 0, none⟩ (.int .i64 1)).setCell ⟨A, 1, none⟩ (.int .i64 0)).setCell ⟨A, 2, none⟩ (.bool true)).setCell ⟨A, 3, none⟩ (.bool d3)).setCell ⟨A, 4, none⟩ (.int .i64 d4)) = W8 at *
      have HDD : Hid (d3 = ci ∧ d4 = if ci then cv else 0) := by
        obtain ⟨h1, h2⟩ := HD34.out
        rw [h1, h2]
        cases ci <;> exact ⟨rfl, rfl⟩
      obtain ⟨hdd3, hdd4⟩ := HDD.out
      rw [hdd3, hdd4] at HR8
      clear HD34 HDD hdd3 hdd4
      cases ci with
      | false =>
        have HRA : Hid (∀ W, Below W8.heap.size W8 W → W.cell? ⟨A, 0, none⟩ = some (.int .i64 1) ∧ W.cell? ⟨A, 1, none⟩ = some (.int .i64 0) ∧ W.cell? ⟨A, 2, none⟩ = some (.bool true) ∧ W.cell? ⟨A, 3, none⟩ = some (.bool false) ∧ W.cell? ⟨A, 4, none⟩ = some (.int .i64 0)) := fun W hW => by
          have h1 : RV W A _ _ _ _ _ := (hW.block A (blk_lt HR8.out)).trans HR8.out
          exact h1.cells
        have HBa8 : Hid (∀ o, Below W8.heap.size W8 (W8.alloc o)) := fun o => (Below.refl _ _).alloc (Nat.le_refl _) _
        have a0 : ∀ o, (W8.alloc o).cell? ⟨A, 0, none⟩ = some (.int .i64 1) := fun o => (HRA.out _ (HBa8.out o)).1
        have a1 : ∀ o, (W8.alloc o).cell? ⟨A, 1, none⟩ = some (.int .i64 0) := fun o => (HRA.out _ (HBa8.out o)).2.1
        have a2 : ∀ o, (W8.alloc o).cell? ⟨A, 2, none⟩ = some (.bool true) := fun o => (HRA.out _ (HBa8.out o)).2.2.1
        have a3 : ∀ o, (W8.alloc o).cell? ⟨A, 3, none⟩ = some (.bool false) := fun o => (HRA.out _ (HBa8.out o)).2.2.2.1
        have a4 : ∀ o, (W8.alloc o).cell? ⟨A, 4, none⟩ = some (.int .i64 0) := fun o => (HRA.out _ (HBa8.out o)).2.2.2.2
        have y0 : ∀ o, (W8.alloc o).cell? ⟨C, 0, none⟩ = some (.bool false) := fun o => (HCc.out _ (HB8.out.trans ((HBa8.out o).mono HB8.out.size))).1
        have y1 : ∀ o, (W8.alloc o).cell? ⟨C, 1, none⟩ = some (.int .i64 cv) := fun o => (HCc.out _ (HB8.out.trans ((HBa8.out o).mono HB8.out.size))).2
        go_wp2
        refine ⟨⟨j + 1, av', ws', last', batch', by omega, by rw [show ((j + 1 : Nat) : Int) = (j : Int) + 1 by omega], ?_⟩, by simp [intOf]; omega⟩
        exact ⟨HW8.out.kept (HBa8.out _), HFb.out.1, HFb.out.2.1, HFb.out.2.2, HB8.out.trans ((HBa8.out _).mono HB8.out.size), _, _, _, _, _, ((HBa8.out _).block A (blk_lt HR8.out)).trans HR8.out⟩
      | true =>
        have HRA : Hid (∀ W, Below W8.heap.size W8 W → W.cell? ⟨A, 0, none⟩ = some (.int .i64 1) ∧ W.cell? ⟨A, 1, none⟩ = some (.int .i64 0) ∧ W.cell? ⟨A, 2, none⟩ = some (.bool true) ∧ W.cell? ⟨A, 3, none⟩ = some (.bool true) ∧ W.cell? ⟨A, 4, none⟩ = some (.int .i64 cv)) := fun W hW => by
          have h1 : RV W A _ _ _ _ _ := (hW.block A (blk_lt HR8.out)).trans HR8.out
          exact h1.cells
        have HBa8 : Hid (∀ o, Below W8.heap.size W8 (W8.alloc o)) := fun o => (Below.refl _ _).alloc (Nat.le_refl _) _
        have a0 : ∀ o, (W8.alloc o).cell? ⟨A, 0, none⟩ = some (.int .i64 1) := fun o => (HRA.out _ (HBa8.out o)).1
        have a1 : ∀ o, (W8.alloc o).cell? ⟨A, 1, none⟩ = some (.int .i64 0) := fun o => (HRA.out _ (HBa8.out o)).2.1
        have a2 : ∀ o, (W8.alloc o).cell? ⟨A, 2, none⟩ = some (.bool true) := fun o => (HRA.out _ (HBa8.out o)).2.2.1
        have a3 : ∀ o, (W8.alloc o).cell? ⟨A, 3, none⟩ = some (.bool true) := fun o => (HRA.out _ (HBa8.out o)).2.2.2.1
        have a4 : ∀ o, (W8.alloc o).cell? ⟨A, 4, none⟩ = some (.int .i64 cv) := fun o => (HRA.out _ (HBa8.out o)).2.2.2.2
        have y0 : ∀ o, (W8.alloc o).cell? ⟨C, 0, none⟩ = some (.bool true) := fun o => (HCc.out _ (HB8.out.trans ((HBa8.out o).mono HB8.out.size))).1
        have y1 : ∀ o, (W8.alloc o).cell? ⟨C, 1, none⟩ = some (.int .i64 cv) := fun o => (HCc.out _ (HB8.out.trans ((HBa8.out o).mono HB8.out.size))).2
        go_wp2
        refine ⟨⟨j + 1, av', ws', last', batch', by omega, by rw [show ((j + 1 : Nat) : Int) = (j : Int) + 1 by omega], ?_⟩, by simp [intOf]; omega⟩
        exact ⟨HW8.out.kept (HBa8.out _), HFb.out.1, HFb.out.2.1, HFb.out.2.2, HB8.out.trans ((HBa8.out _).mono HB8.out.size), _, _, _, _, _, ((HBa8.out _).block A (blk_lt HR8.out)).trans HR8.out⟩
    · have HCl : Hid (∀ W vs', WS W0.heap.size (fun k => k = A) W B S P av vs' ws last last batch → Kp W0.heap.size (fun k => k = A) wr W → W.cell? ⟨B, 0, none⟩ = some (ptr S) ∧ W.cell? ⟨C, 0, none⟩ = some (.bool ci) ∧ W.cell? ⟨C, 1, none⟩ = some (.int .i64 cv)) := fun W vs' h1 h2 => by
        have h4 := HCc.out W (HFr.out.bel.trans (h2.below HFr.out.bel.size))
        exact ⟨h1.cells.1, h4.1, h4.2⟩
      have HF1 : Hid (Calls Try.prog 22 #[ptr S, .int .i64 1, .agg #[.bool ci, .int .i64 cv]] wr.drew fun e w' => e = .returned (.int .i64 95) ∧ WS W0.heap.size (fun k => k = A) w' B S P av ([f1 b ci cv] ++ ws) ws last last batch ∧ Kp W0.heap.size (fun k => k = A) wr w') := by
        have h0 := HFr.out.wsx.kept (drew_below wr 1)
        have hc := h0.fillX 1 ci cv (by unfold In64; omega) HL.out.2.2.2 95 (by rw [fv_f1 b ci cv ws]; rfl) (by decide)
        exact hc.mono fun e w' ⟨a1, a2, a3⟩ => ⟨a1, a2, (Kp.ofBelow (drew_below wr 1)).trans a3⟩
      have HRm : Hid (∀ W, WS W0.heap.size (fun k => k = A) W B S P av ([f1 b ci cv] ++ ws) ws last last batch → Kp W0.heap.size (fun k => k = A) wr W → Calls Try.prog 20 #[ptr S, .int .i64 1] W fun e w' => e = .returned (.int .i64 0) ∧ (∃ vs', fv vs' 1 = none ∧ WS W0.heap.size (fun k => k = A) w' B S P av vs' ws last last batch) ∧ Kp W0.heap.size (fun k => k = A) wr w') := fun W h1 h2 =>
        (h1.removeN 1 (by unfold In64; omega) (fv_f1 b ci cv ws)).mono fun e w' ⟨a1, a2, a3⟩ => ⟨a1, a2, h2.trans a3⟩
      have HF3 : Hid (∀ W vs', fv vs' 1 = none → WS W0.heap.size (fun k => k = A) W B S P av vs' ws last last batch → Kp W0.heap.size (fun k => k = A) wr W → Calls Try.prog 22 #[ptr S, .int .i64 1, .agg #[.bool ci, .int .i64 cv]] W fun e w' => e = .returned (.int .i64 93) ∧ WS W0.heap.size (fun k => k = A) w' B S P av vs' ws last last batch ∧ Kp W0.heap.size (fun k => k = A) wr w') := fun W vs' h0 h1 h2 =>
        (h1.fillX 1 ci cv (by unfold In64; omega) HL.out.2.2.2 93 (by rw [h0]; rfl) (by decide)).mono fun e w' ⟨a1, a2, a3⟩ => ⟨a1, a2, h2.trans a3⟩
      have HBw : Hid (∀ W, Kp W0.heap.size (fun k => k = A) wr W → Below w.heap.size w W) := fun W hW => HB0.out.1.trans ((HFr.out.bel.trans (hW.below HFr.out.bel.size)).mono HB0.out.1.size)
      obtain ⟨s0, y0, y1⟩ := HCl.out wr _ HFr.out.wsx (Kp.refl _ _ _)
      clear HFr
      go_upto_region 19 with fail
      go_region_held3 (fun w' => w'.cell? ⟨B, 0, none⟩ = some (ptr S) ∧ w'.cell? ⟨C, 0, none⟩ = some (.bool ci) ∧ w'.cell? ⟨C, 1, none⟩ = some (.int .i64 cv)) (first | with_reducible exact HQ6.out | with_reducible exact HQ5.out | with_reducible exact HQ4.out | go_keep) (first
        | (go_at_call 22; with_reducible refine HF1.out.mono ?_; rintro e w4 ⟨rfl, hw4, hk4⟩; have HQ4 := hidC (HCl.out _ _ hw4 hk4); have HW4 := hidC hw4; have HK4 := hidC hk4; clear hw4 hk4)
        | (go_at_call 20; with_reducible refine (HRm.out _ HW4.out HK4.out).mono ?_; rintro e w5 ⟨rfl, ⟨vs5, hf5, hw5⟩, hk5⟩; have HQ5 := hidC (HCl.out _ _ hw5 hk5); have HW5 := hidC hw5; have HV5 := hidC hf5; have HK5 := hidC hk5; clear hw5 hk5 hf5)
        | (go_at_call 22; with_reducible refine (HF3.out _ _ HV5.out HW5.out HK5.out).mono ?_; rintro e w6 ⟨rfl, hw6, hk6⟩; have HQ6 := hidC (HCl.out _ _ hw6 hk6); have HK6 := hidC hk6; clear hw6 hk6))
      go_wp2
      go_ret
      exact ⟨rfl, HBw.out _ HK6.out⟩
end Go.Proofs.Ytfkijdlggdgfhaa
/-
  StoreVisible: THE MATHEMATICS, AND THE STATE WHILE WRITES COME.
-/
namespace Go.Proofs.Ytfkijdlggdgfhaa
open Go.RowKit Go.Sort

theorem visN_snoc (k : K) (A : List Vr) (v : Vr) (at_ : Int) : visN (ofK k (A ++ [v])) at_ = if v.k = k ∧ v.ba ≤ at_ then v.n else visN (ofK k A) at_ := by
  unfold visN
  rw [ofK_app]
  by_cases hk : v.k = k
  · rw [ofK_cons_same hk, show ofK k [] = [] from rfl, List.filter_append]
    by_cases hb : v.ba ≤ at_
    · rw [if_pos ⟨hk, hb⟩, List.filter_cons_of_pos (by simpa using hb)]
      simp
    · rw [if_neg (fun h => hb h.2), List.filter_cons_of_neg (by simpa using hb)]
      simp
  · rw [if_neg (fun h => hk h.1), ofK_cons_other hk, show ofK k [] = [] from rfl, List.append_nil]
/-- what comes behind a batch is not seen at it -/
theorem visN_more (k : K) (A : List Vr) (at_ : Int) : ∀ ext : List Vr, (∀ v ∈ ext, at_ < v.ba) → visN (ofK k (A ++ ext)) at_ = visN (ofK k A) at_ := fun ext h => by
  unfold visN
  rw [ofK_app, List.filter_append]
  have : (ofK k ext).filter (fun v => decide (v.ba ≤ at_)) = [] := List.filter_eq_nil_iff.2 fun x hx => by
    have := h x (List.mem_filter.1 hx).1
    simp; omega
  rw [this, List.append_nil]
theorem visN_all (k : K) (vs : List Vr) (at_ : Int) (h : ∀ v ∈ vs, v.ba ≤ at_) : visN (ofK k vs) at_ = newestN k vs := by
  unfold visN newestN
  rw [List.filter_eq_self.2 (fun x hx => by simpa using h x (List.mem_filter.1 hx).1)]
  cases (ofK k vs).getLast? <;> rfl
theorem visN_none (k : K) (vs : List Vr) (at_ : Int) (h : ∀ v ∈ vs, at_ < v.ba) : visN (ofK k vs) at_ = 0 := by
  unfold visN
  rw [List.filter_eq_nil_iff.2 (fun x hx => by have := h x (List.mem_filter.1 hx).1; simp; omega)]
  rfl
/-- the statement's world while writes come: j of them; F: blocks that stay -/
structure VL (n0 : Nat) (F : Nat → Prop) (w0 wr : World) (B S P : Nat) (j : Nat) (av : Value) (ws : List Vr) (last batch : Int) : Prop where
  wsx : WS n0 F wr B S P av ws ws last last batch
  ba : ∀ v ∈ ws, 1 ≤ v.ba ∧ v.ba ≤ batch
  la : 1 ≤ last ∧ last ≤ 1 + j
  bt : 2 ≤ batch ∧ batch ≤ 2 + 100 * j
  kp : Kp n0 F w0 wr
theorem VL.write {n0 : Nat} {F : Nat → Prop} {w0 wr : World} {B S P : Nat} {j : Nat} {av : Value} {ws : List Vr} {last batch : Int} (h : VL n0 F w0 wr B S P j av ws last batch) {x : Wq} {e : Ending} {w' : World} (hp : WrPost n0 F wr B S P [] ws last batch x e w') :
    e = .returned (.bool true) ∧ ∃ av' ws' last' batch', VL n0 F w0 w' B S P (j + 1) av' ws' last' batch' ∧ batch ≤ batch' ∧ (x.dr < 0 → ∃ ext, ws' = ws ++ ext ∧ ∀ v ∈ ext, batch < v.ba) := by
  obtain ⟨he, hk, av', hp⟩ := hp
  have hkp := h.kp.trans hk
  have hsub : ∀ v ∈ dropL x.dr ws, 1 ≤ v.ba ∧ v.ba ≤ batch := fun v hv => h.ba v ((dropL_sub x.dr ws).subset hv)
  have h1 := h.la
  have h2 := h.bt
  have hdr : x.dr < 0 → dropL x.dr ws = ws := fun h0 => dropL_no (fun h3 => by omega)
  refine ⟨he, ?_⟩
  rcases hp with hp | ⟨v, ba', hp⟩
  · exact ⟨av', dropL x.dr ws, last, batch, ⟨hp, hsub, by omega, by omega, hkp⟩, Int.le_refl _, fun h0 => ⟨[], by rw [hdr h0]; simp, by simp⟩⟩
  · have h3 := hp.lt
    refine ⟨av', dropL x.dr ws ++ [v], last + 1, ba', ⟨hp.ws, fun u hu => ?_, by omega, by omega, hkp⟩, by omega, fun h0 => ⟨[v], by rw [hdr h0], fun u hu => ?_⟩⟩
    · rcases List.mem_append.1 hu with h5 | h5
      · have := hsub u h5; omega
      · simp at h5; rw [h5, hp.ba]; omega
    · simp at hu; rw [hu, hp.ba]; omega
/-- a write of a list -/
theorem wrs_at {w wr : World} {ao : Option Addr} {l : List Wq} {m j : Nat} (h1 : WrsAt w ao l) (h2 : m = l.length) (h3 : ∀ x ∈ l, WqIn x) (hbel : Below w.heap.size w wr) (hj : j < m) :
    ∃ lb lo, ao = some ⟨lb, lo, none⟩ ∧ lb < w.heap.size ∧ ∃ x : Wq, Hid (WqIn x) ∧ wr.cell? ⟨lb, lo + j * 8, none⟩ = some (.int .i64 x.k.1) ∧ wr.cell? ⟨lb, lo + j * 8 + 1, none⟩ = some (.int .i64 x.k.2) ∧ wr.cell? ⟨lb, lo + j * 8 + 2, none⟩ = some (.int .i64 x.la) ∧ wr.cell? ⟨lb, lo + j * 8 + 3, none⟩ = some (.int .i64 x.ix) ∧ wr.cell? ⟨lb, lo + j * 8 + 4, none⟩ = some (.bool x.fl) ∧ wr.cell? ⟨lb, lo + j * 8 + 5, none⟩ = some (.bool x.ci) ∧ wr.cell? ⟨lb, lo + j * 8 + 6, none⟩ = some (.int .i64 x.cv) ∧ wr.cell? ⟨lb, lo + j * 8 + 7, none⟩ = some (.int .i64 x.dr) := by
  rcases h1 with h1 | ⟨lb, lo, h1, hlb, h4⟩
  · rw [h1] at h2; simp at h2; omega
  · have hjl : j < l.length := by omega
    have hc : ∀ i u, (wqc l[j])[i]? = some u → wr.cell? ⟨lb, lo + j * 8 + i, none⟩ = some u := fun i u hu => (hbel.cell (p := ⟨lb, lo + j * 8 + i, none⟩) hlb).trans (h4 j hjl i u hu)
    exact ⟨lb, lo, h1, hlb, l[j], h3 _ (List.getElem_mem hjl), hc 0 _ rfl, hc 1 _ rfl, hc 2 _ rfl, hc 3 _ rfl, hc 4 _ rfl, hc 5 _ rfl, hc 6 _ rfl, hc 7 _ rfl⟩
theorem WS.ldAt {n0 : Nat} {F : Nat → Prop} {w : World} {B S P : Nat} {g m c : Nat} {vs ws : List Vr} {lb last batch : Int} (h : WS n0 F w B S P (.slice (some ⟨g, 0, none⟩) m c) vs ws lb last batch) {i : Nat} (hi : i < ws.length) : w.cell? ⟨g, i * 8, none⟩ = some (.int .i64 ws[i].n) ∧ w.cell? ⟨g, i * 8 + 1, none⟩ = some (.int .i64 ws[i].k.1) ∧ w.cell? ⟨g, i * 8 + 2, none⟩ = some (.int .i64 ws[i].k.2) ∧ w.cell? ⟨g, i * 8 + 3, none⟩ = some (.int .i64 ws[i].ba) := by
  have hh : ∀ j u, j < 8 → (ldc ws[i])[j]? = some u → w.cell? ⟨g, i * 8 + j, none⟩ = some u := fun j u hj hu => h.cellAt ((lds_at hi hj).trans hu)
  exact ⟨hh 0 _ (by omega) rfl, hh 1 _ (by omega) rfl, hh 2 _ (by omega) rfl, hh 3 _ (by omega) rfl⟩
/-- what was seen -/
def seenL (ws : List Vr) (at_ : Int) (i : Nat) : List Int := (ws.take i).map (fun v => visN (ofK v.k ws) at_)
theorem seenL_succ {ws : List Vr} {at_ : Int} {i : Nat} (hi : i < ws.length) : seenL ws at_ (i + 1) = seenL ws at_ i ++ [visN (ofK ws[i].k ws) at_] := by
  unfold seenL
  rw [← List.take_append_getElem hi, List.map_append, List.map_singleton]
theorem seenL_len {ws : List Vr} {at_ : Int} {i : Nat} (hi : i ≤ ws.length) : (seenL ws at_ i).length = i := by simp [seenL, hi]
/-- while it is looked -/
structure V2 (n0 : Nat) (W1 wq : World) (B S P : Nat) (av : Value) (ws : List Vr) (last batch at_ : Int) (i : Nat) (sa : Option Addr) (sc : Nat) : Prop where
  wsx : WS n0 (bk sa) wq B S P av ws ws last last batch
  th : Th wq n0 sa sc (seenL ws at_ i)
  bel : Below n0 W1 wq
theorem V2.kept {n0 : Nat} {W1 wq w' : World} {B S P : Nat} {av : Value} {ws : List Vr} {last batch at_ : Int} {i : Nat} {sa : Option Addr} {sc : Nat} (h : V2 n0 W1 wq B S P av ws last batch at_ i sa sc) (hb : Below wq.heap.size wq w') : V2 n0 W1 w' B S P av ws last batch at_ i sa sc :=
  ⟨h.wsx.kept hb, h.th.kept hb, h.bel.trans (hb.mono h.wsx.n0l)⟩
theorem want_step {ws : List Vr} {k : K} {at_ : Int} {q : Nat} (hq : q < ws.length) : visN (ofK k (ws.take (q + 1))) at_ = if ws[q].k = k ∧ ws[q].ba ≤ at_ then ws[q].n else visN (ofK k (ws.take q)) at_ := by
  rw [← List.take_append_getElem hq]
  exact visN_snoc k (ws.take q) ws[q] at_
/-- a list beside has grown -/
theorem WS.grown {n0 : Nat} {w w' : World} {B S P : Nat} {av : Value} {vs ws : List Vr} {lb last batch : Int} {sa sa' : Option Addr} (h : WS n0 (bk sa) w B S P av vs ws lb last batch) (hfr : Fr (bk sa) w w') (hbk : ∀ k, bk sa' k → bk sa k ∨ w.heap.size ≤ k) (hlt : ∀ k, bk sa' k → k < w'.heap.size) : WS n0 (bk sa') w' B S P av vs ws lb last batch := by
  have h1 := h.off hfr.size hfr.block
  refine ⟨h1.bx, ?_, h1.al, h.Bn, fun e => ?_, fun k hk e => ?_, hlt, h1.n0l⟩
  · have q1 := h.st.frame (G := fun k => (bk sa k ∨ bk sa' k) ∨ k = B ∨ av.ownBlock = some k) (fun k hk => by
      rcases hk with (h2 | h2) | h2
      · exact .inl (.inl h2)
      · exact (hbk k h2).imp .inl id
      · exact .inl (.inr h2))
    have q2 := q1.off (w' := w') (fun k hk hn => hfr.block k hk (fun e => hn (.inl (.inl e))))
    exact q2.frame (fun k hk => .inl (hk.imp .inr id))
  · rcases hbk B e with h2 | h2
    · exact h.FB h2
    · have := blk_lt h.bx; omega
  · rcases hbk k e with h2 | h2
    · exact h.Fa k hk h2
    · have := (h.al.lt k hk).2; omega
/-- a copy of its list -/
theorem WS.copyAll {n0 : Nat} {F : Nat → Prop} {w : World} {B S P : Nat} {ao : Option Addr} {p c : Nat} {vs ws : List Vr} {lb last batch : Int} (h : WS n0 F w B S P (.slice ao p c) vs ws lb last batch) (hp : p = ws.length) (hn : ws.length ≤ 1000000) (ty : TypeId) :
    ∃ v' U', (Builtin.append_ #[34, 34] ty #[.slice (some ⟨w.heap.size, 0, none⟩) 0 0, .slice ao p c]).run Try.prog (w.alloc (.cells #[] 50)) = .ok v' U' ∧ (∃ a e, v' = .slice a p e) ∧ DR w U' v' ws := by
  have hm : DR w (w.alloc (.cells #[] 50)) (.slice (some ⟨w.heap.size, 0, none⟩) 0 0) [] := DR.made w 0
  have key : ∃ v' U', (Builtin.append_ #[34, 34] ty #[.slice (some ⟨w.heap.size, 0, none⟩) 0 0, .slice ao p c]).run Try.prog (w.alloc (.cells #[] 50)) = .ok v' U' ∧ DR w U' v' ws := by
    rcases h.al.shape with ⟨h0, h1⟩ | ⟨g, cap, cur, h1, _, _, _, h5⟩
    · simp only [Value.slice.injEq] at h0
      obtain ⟨rfl, rfl, rfl⟩ := h0
      subst h1
      obtain ⟨i0, hi, hz0, hz1, hz2⟩ := info_parts infoLd
      exact ⟨_, _, run_append_owned_none (P := Try.prog) (w := w.alloc (.cells #[] 50)) w.heap.size 34 ty 50 i0 8 Try.underlying34 hi _ 0 [] hm.own, hm⟩
    · simp only [Value.slice.injEq] at h1
      obtain ⟨rfl, _, rfl⟩ := h1
      have h2 := hm.app (ys := ws) ⟨g, 0, none⟩ c (fun j x hx => by rw [addr_add, Nat.zero_add]; exact h5 j x hx) (by simp; omega) ty
      rw [← hp, List.nil_append] at h2
      exact h2
  obtain ⟨v', U', h1, h2⟩ := key
  refine ⟨v', U', h1, ?_, h2⟩
  rw [hp]
  exact ownL_slice h2.own
theorem VL.kept {n0 : Nat} {F : Nat → Prop} {w0 wr w' : World} {B S P : Nat} {j : Nat} {av : Value} {ws : List Vr} {last batch : Int} (h : VL n0 F w0 wr B S P j av ws last batch) (hb : Below wr.heap.size wr w') : VL n0 F w0 w' B S P j av ws last batch :=
  ⟨h.wsx.kept hb, h.ba, h.la, h.bt, h.kp.trans (Kp.ofBelow hb)⟩
/-- a copy beside: it stays too -/
theorem WS.beside {n0 : Nat} {F : Nat → Prop} {w U : World} {B S P : Nat} {av v : Value} {vs ws zs : List Vr} {lb last batch : Int} (h : WS n0 F w B S P av vs ws lb last batch) (hd : DR w U v zs) : WS n0 (fun k => F k ∨ v.ownBlock = some k) U B S P av vs ws lb last batch := by
  have h1 := h.kept hd.bel
  have hvb : ∀ k, v.ownBlock = some k → w.heap.size ≤ k ∧ k < U.heap.size := hd.own.lt
  refine ⟨h1.bx, (h.st.frame (G := fun k => (F k ∨ v.ownBlock = some k) ∨ k = B ∨ av.ownBlock = some k) (fun k hk => ?_)).kept hd.bel, h1.al, h.Bn, fun e => ?_, fun k hk e => ?_, fun k hk => ?_, h1.n0l⟩
  · rcases hk with (h2 | h2) | h2
    · exact .inl (.inl h2)
    · exact .inr (hvb k h2).1
    · exact .inl (.inr h2)
  · rcases e with e | e
    · exact h.FB e
    · have := (hvb B e).1; have := blk_lt h.bx; omega
  · rcases e with e | e
    · exact h.Fa k hk e
    · have := (hvb k e).1; have := (h.al.lt k hk).2; omega
  · rcases hk with h2 | h2
    · exact h1.Fl k h2
    · exact (hvb k h2).2
theorem rowAt {w : World} {n0 g p c : Nat} {ws : List Vr} (h : OwnL w n0 (.slice (some ⟨g, 0, none⟩) p c) ws) {i : Nat} (hi : i < ws.length) : w.cell? ⟨g, i * 8 + 1, none⟩ = some (.int .i64 ws[i].k.1) ∧ w.cell? ⟨g, i * 8 + 2, none⟩ = some (.int .i64 ws[i].k.2) := by
  rcases h.shape with ⟨h0, _⟩ | ⟨g', cap, cur, h1, _, _, _, h5⟩
  · cases h0
  · simp only [Value.slice.injEq, Option.some.injEq, Addr.mk.injEq] at h1
    obtain ⟨⟨rfl, _⟩, _⟩ := h1
    exact ⟨h5 _ _ (lds_at hi (by omega)), h5 _ _ (lds_at hi (by omega))⟩
end Go.Proofs.Ytfkijdlggdgfhaa
/-
  chained: WHAT IT STANDS ON.
-/
namespace Go.Proofs.Ytfkijdlggdgfhaa
open Go.RowKit Go.Sort

theorem run_neVer (a b : Int) (f ci : Bool) (cv : Int) (w : World) : Sem.run Try.prog (binOp .neq 61 (.agg #[.int .i64 a, .int .i64 b, .bool f, .bool ci, .int .i64 cv]) (.agg #[.int .i64 a, .int .i64 b, .bool f, .bool ci, .int .i64 cv])) w = .ok (.bool false) w := by
  have u3 := Try.underlying4
  have a3 := Try.isAgg4
  have z3 := Try.sizeOf4
  have u2 := Try.underlying2
  have a2 := Try.isAgg2
  have z2 := Try.sizeOf2
  have u1 := Try.underlying3
  have a1 := Try.isAgg3
  have z1 := Try.sizeOf3
  have u4 := Try.underlying30
  have a4 := Try.isAgg30
  have z4 := Try.sizeOf30
  have hS : Try.prog.underlying 61 = some (.struct (Try.prog.fieldsOf 61)) := by kernel_rfl
  have hp : Try.prog.stoodInHeld 61 = false := by kernel_rfl
  have hS' : Try.prog.underlying 30 = some (.struct (Try.prog.fieldsOf 30)) := by kernel_rfl
  have hp' : Try.prog.stoodInHeld 30 = false := by kernel_rfl
  rw [run_neq_struct, show (10000 : Nat) = 9999 + 1 from rfl, run_equalIn_agg w 9999 61 _ _ hS hp]
  simp only [Program.fieldsOf, Try.underlying61]
  have hc : Sem.run Try.prog (Op.equalIn 9999 30 (.agg #[.bool ci, .int .i64 cv]) (.agg #[.bool ci, .int .i64 cv])) w = .ok true w := by
    rw [show (9999 : Nat) = 9998 + 1 from rfl, run_equalIn_agg w 9998 30 _ _ hS' hp']
    simp only [Program.fieldsOf, Try.underlying30]
    go_simp
  go_simp
theorem guardV : GuardAt Try.prog 61 (fun x : Int × Int × Bool × Bool × Int => .agg #[.int .i64 x.1, .int .i64 x.2.1, .bool x.2.2.1, .bool x.2.2.2.1, .int .i64 x.2.2.2.2]) := GuardAt.agg _ (by kernel_rfl)
theorem run_guardV (op : BinOp) (a b : Operand) (p q : Int) (f ci : Bool) (cv : Int) (w : World) : Sem.run Try.prog (eqGuard op 61 a b (.agg #[.int .i64 p, .int .i64 q, .bool f, .bool ci, .int .i64 cv]) (.agg #[.int .i64 p, .int .i64 q, .bool f, .bool ci, .int .i64 cv])) w = .ok () w := guardV op a b (p, q, f, ci, cv) (p, q, f, ci, cv) w
theorem WS.ldAll {n0 : Nat} {F : Nat → Prop} {w : World} {B S P : Nat} {g m c : Nat} {vs ws : List Vr} {lb last batch : Int} (h : WS n0 F w B S P (.slice (some ⟨g, 0, none⟩) m c) vs ws lb last batch) {i : Nat} {v : Vr} (hi : ∃ hi : i < ws.length, v = ws[i]) : w.cell? ⟨g, i * 8, none⟩ = some (.int .i64 v.n) ∧ w.cell? ⟨g, i * 8 + 1, none⟩ = some (.int .i64 v.k.1) ∧ w.cell? ⟨g, i * 8 + 2, none⟩ = some (.int .i64 v.k.2) ∧ w.cell? ⟨g, i * 8 + 3, none⟩ = some (.int .i64 v.ba) ∧ w.cell? ⟨g, i * 8 + 4, none⟩ = some (.int .i64 v.ix) ∧ w.cell? ⟨g, i * 8 + 5, none⟩ = some (.bool v.fl) ∧ w.cell? ⟨g, i * 8 + 6, none⟩ = some (.bool v.ci) ∧ w.cell? ⟨g, i * 8 + 7, none⟩ = some (.int .i64 v.cv) := by
  obtain ⟨hi, rfl⟩ := hi
  have hh : ∀ j u, j < 8 → (ldc ws[i])[j]? = some u → w.cell? ⟨g, i * 8 + j, none⟩ = some u := fun j u hj hu => h.cellAt ((lds_at hi hj).trans hu)
  exact ⟨hh 0 _ (by omega) rfl, hh 1 _ (by omega) rfl, hh 2 _ (by omega) rfl, hh 3 _ (by omega) rfl, hh 4 _ (by omega) rfl, hh 5 _ (by omega) rfl, hh 6 _ (by omega) rfl, hh 7 _ (by omega) rfl⟩
theorem ctv_len (l : List Vr) : (ctv l).length = l.length * 5 := by
  induction l with
  | nil => rfl
  | cons v l ih => simp only [ctv, List.flatMap_cons, List.length_append, List.length_cons] at *; rw [ih]; simp [c1v]; omega
theorem ctv_at {l : List Vr} {i j : Nat} (hi : i < l.length) (hj : j < 5) : (ctv l)[i * 5 + j]? = (c1v l[i])[j]? := by
  have e : l = l.take i ++ l[i] :: l.drop (i + 1) := by rw [← List.drop_eq_getElem_cons hi, List.take_append_drop]
  have e2 : ctv l = ctv (l.take i) ++ (c1v l[i] ++ ctv (l.drop (i + 1))) := by
    have e3 : ctv l = ctv (l.take i ++ l[i] :: l.drop (i + 1)) := congrArg ctv e
    rw [e3]
    unfold ctv
    rw [List.flatMap_append, List.flatMap_cons]
  have hl : (ctv (l.take i)).length = i * 5 := by rw [ctv_len, List.length_take]; congr 1; omega
  rw [e2, List.getElem?_append_right (by omega), hl, Nat.add_sub_cancel_left, List.getElem?_append_left (by simp [c1v]; omega)]
/-- a row of versions, by cells -/
theorem verAt {w : World} {n0 : Nat} {ao : Option Addr} {m c : Nat} {l : List Vr} (h : w.ownsRow n0 TV 5 (.slice ao m c) l.length (ctv l)) {i : Nat} {v : Vr} (hi : ∃ hi : i < l.length, l[i] = v) : ∃ g, ao = some ⟨g, 0, none⟩ ∧ w.cell? ⟨g, i * 5, none⟩ = some (.int .i64 v.ba) ∧ w.cell? ⟨g, i * 5 + 1, none⟩ = some (.int .i64 v.ix) ∧ w.cell? ⟨g, i * 5 + 2, none⟩ = some (.bool v.fl) ∧ w.cell? ⟨g, i * 5 + 3, none⟩ = some (.bool v.ci) ∧ w.cell? ⟨g, i * 5 + 4, none⟩ = some (.int .i64 v.cv) := by
  obtain ⟨hi, rfl⟩ := hi
  obtain ⟨hl, ⟨h0, h1⟩ | ⟨g, cap, cur, h1, h2, h3, h4, h5, h6, h7⟩⟩ := h
  · omega
  · simp only [Value.slice.injEq] at h1
    obtain ⟨rfl, rfl, rfl⟩ := h1
    have hh : ∀ j u, j < 5 → (c1v l[i])[j]? = some u → w.cell? ⟨g, i * 5 + j, none⟩ = some u := fun j u hj hu => by
      have h8 := (ctv_at hi hj).trans hu
      rw [← h7, List.getElem?_take] at h8
      split at h8
      · rw [World.cell?, h3]; simpa using h8
      · cases h8
    exact ⟨g, rfl, hh 0 _ (by omega) rfl, hh 1 _ (by omega) rfl, hh 2 _ (by omega) rfl, hh 3 _ (by omega) rfl, hh 4 _ (by omega) rfl⟩
/-- the mathematics of a round -/
theorem ofK_take_same {k : K} {ws : List Vr} {j : Nat} (hj : j < ws.length) (hk : ws[j].k = k) : ofK k (ws.take (j + 1)) = ofK k (ws.take j) ++ [ws[j]] := by
  rw [List.take_succ_eq_append_getElem hj]
  unfold ofK
  rw [List.filter_append, List.filter_cons_of_pos (by simpa using hk)]
  rfl
theorem ofK_take_other {k : K} {ws : List Vr} {j : Nat} (hj : j < ws.length) (hk : ws[j].k ≠ k) : ofK k (ws.take (j + 1)) = ofK k (ws.take j) := by
  rw [List.take_succ_eq_append_getElem hj]
  unfold ofK
  rw [List.filter_append, List.filter_cons_of_neg (by simpa using hk)]
  simp
theorem ofK_drop_same {k : K} {ws : List Vr} {j : Nat} (hj : j < ws.length) (hk : ws[j].k = k) : ofK k (ws.drop j) = ws[j] :: ofK k (ws.drop (j + 1)) := by
  rw [List.drop_eq_getElem_cons hj]
  unfold ofK
  rw [List.filter_cons_of_pos (by simpa using hk)]
theorem ofK_drop_other {k : K} {ws : List Vr} {j : Nat} (hj : j < ws.length) (hk : ws[j].k ≠ k) : ofK k (ws.drop j) = ofK k (ws.drop (j + 1)) := by
  rw [List.drop_eq_getElem_cons hj]
  unfold ofK
  rw [List.filter_cons_of_neg (by simpa using hk)]
theorem ofK_split {k : K} {ws : List Vr} {j : Nat} (hj : j < ws.length) (hk : ws[j].k = k) : ofK k ws = ofK k (ws.take j) ++ ws[j] :: ofK k (ws.drop (j + 1)) := by
  conv => lhs; rw [← List.take_append_drop j ws]
  rw [show ofK k (ws.take j ++ ws.drop j) = ofK k (ws.take j) ++ ofK k (ws.drop j) from List.filter_append _ _, ofK_drop_same hj hk]
theorem rev_at {A C : List Vr} {y : Vr} : ∃ h : C.length < (A ++ y :: C).reverse.length, (A ++ y :: C).reverse[C.length] = y := by
  refine ⟨by simp, ?_⟩
  rw [List.getElem_reverse]
  simp
end Go.Proofs.Ytfkijdlggdgfhaa
/-
  chained.
-/
namespace Go.Proofs.Ytfkijdlggdgfhaa
open Go.RowKit Go.Sort

set_option maxRecDepth 100000 in
set_option maxHeartbeats 4000000 in
theorem chained_any (n0 : Nat) (F : Nat → Prop) (w : World) (B S P : Nat) (av : Value) (ws : List Vr) (lb last batch : Int) (h : WS n0 F w B S P av ws ws lb last batch) (k1 k2 : Int) (hk : KIn (k1, k2)) :
    Calls Try.prog 16 #[ptr B, .agg #[.int .i64 k1, .int .i64 k2]] w fun e w' => e = .returned (.int .i64 ((ofK (k1, k2) ws).length : Int)) ∧ Below w.heap.size w w' := by
  obtain ⟨Kb, hKb⟩ : ∃ Kb, Kb = w.heap.size := ⟨_, rfl⟩
  obtain ⟨W1, hW1⟩ : ∃ W1, W1 = w.alloc (.cells #[.int .i64 k1, .int .i64 k2] 28) := ⟨_, rfl⟩
  have HB1 : Hid (Below w.heap.size w W1) := by
    show Below _ _ _
    rw [hW1]
    exact (Below.refl _ _).alloc (Nat.le_refl _) _
  have hx : W1.heap[Kb]? = some (.cells #[.int .i64 k1, .int .i64 k2] 28 (0, 0)) := by rw [hW1, hKb]; exact heap_alloc_new _ _ rfl
  obtain ⟨ao, ac, hav⟩ := ownL_slice h.al
  subst hav
  obtain ⟨p, hp⟩ : ∃ p, p = ws.length := ⟨_, rfl⟩
  have HP : Hid (p = ws.length ∧ p ≤ 65536) := by
    have := h.st.lt.2.2.2
    exact ⟨hp, by omega⟩
  rw [← hp] at h
  have HW : Hid (∀ U, Below W1.heap.size W1 U → WS n0 F U B S P (.slice ao p ac) ws ws lb last batch) := fun U hU => (h.kept HB1.out).kept hU
  have HCl : Hid (∀ U, Below W1.heap.size W1 U → U.cell? ⟨B, 0, none⟩ = some (ptr S) ∧ U.cell? ⟨Kb, 0, none⟩ = some (.int .i64 k1) ∧ U.cell? ⟨Kb, 1, none⟩ = some (.int .i64 k2)) := fun U hU => by
    have q := (hU.block _ (blk_lt hx)).trans hx
    refine ⟨(HW.out U hU).cells.1, ?_, ?_⟩ <;> simp [World.cell?, q]
  have HCh : Hid (Calls Try.prog 30 #[ptr S, .agg #[.int .i64 k1, .int .i64 k2]] W1.drew fun e w' => ∃ v, e = .returned v ∧ w'.ownsRow W1.heap.size TV 5 v (ofK (k1, k2) ws).length (ctv (ofK (k1, k2) ws).reverse) ∧ Below W1.heap.size W1 w') :=
    (chain_st _ _ W1.drew S P 65536 last ws (HW.out W1.drew (drew_below W1 1)).st k1 k2 hk).mono fun e w' ⟨v, a1, a2, a3⟩ => ⟨v, a1, a2, (drew_below W1 1).trans a3⟩
  have HNw : Hid (∀ U, Below W1.heap.size W1 U → Calls Try.prog 15 #[ptr S, .agg #[.int .i64 k1, .int .i64 k2]] U fun e w' => e = .returned (.int .i64 (lastN (ofK (k1, k2) ws))) ∧ Below U.heap.size U w') := fun U hU =>
    newest_st _ _ U S P 65536 last ws (HW.out U hU).st k1 k2 hk
  obtain ⟨b0, y1, y2⟩ := HCl.out W1 (Below.refl _ _)
  clear h hx hp hk
  go_enter Try.func16, Try.ntmps16
  go_upto_region 1 with fail
  rw [← hW1, ← hKb]
  have HKb := hidC hKb
  clear hW1 hKb
  go_region_held3 (fun w' => w'.cell? ⟨B, 0, none⟩ = some (ptr S) ∧ w'.cell? ⟨Kb, 0, none⟩ = some (.int .i64 k1) ∧ w'.cell? ⟨Kb, 1, none⟩ = some (.int .i64 k2)) (first | with_reducible exact HQ2.out | go_keep) (first | (go_at_call 30; with_reducible refine HCh.out.mono ?_; rintro e w2 ⟨vc, rfl, ho2, hb2⟩; have HQ2 := hidC (HCl.out _ hb2); have HB2 := hidC hb2; have HO2 := hidC ho2; clear hb2 ho2))
  clear HCh b0 y1 y2
  obtain ⟨cao, cc, hvc⟩ := row_slice HO2.out
  subst hvc
  obtain ⟨b0, y1, y2⟩ := HQ2.out
  have HNw2 : Hid (Calls Try.prog 15 #[ptr S, .agg #[.int .i64 k1, .int .i64 k2]] w2.drew fun e w' => e = .returned (.int .i64 (lastN (ofK (k1, k2) ws))) ∧ Below w2.heap.size w2 w') := (HNw.out w2.drew (HB2.out.trans ((drew_below w2 1).mono HB2.out.size))).mono fun e w' ⟨a1, a2⟩ => ⟨a1, (drew_below w2 1).trans a2⟩
  obtain ⟨nC, hnC⟩ : ∃ nC, nC = (ofK (k1, k2) ws).length := ⟨_, rfl⟩
  have HnC : Hid (nC = (ofK (k1, k2) ws).length) := hnC
  rw [← hnC] at HO2 ⊢
  obtain ⟨z0, hz0⟩ : ∃ z0, z0 = lastN (ofK (k1, k2) ws) := ⟨_, rfl⟩
  have HZ0 : Hid (z0 = lastN (ofK (k1, k2) ws)) := hz0
  rw [← hz0] at HNw2
  clear HQ2 hnC hz0 HNw
  go_upto_region 3 with fail
  go_region_held3 (fun w' => w'.cell? ⟨B, 0, none⟩ = some (ptr S) ∧ w'.cell? ⟨Kb, 0, none⟩ = some (.int .i64 k1) ∧ w'.cell? ⟨Kb, 1, none⟩ = some (.int .i64 k2)) (first | with_reducible exact HQ3.out | go_keep) (first | (go_at_call 15; with_reducible refine HNw2.out.mono ?_; rintro e w3 ⟨rfl, hb3'⟩; have HB3' := hidC hb3'; have HB3 := hidC (HB2.out.trans (hb3'.mono HB2.out.size)); have HQ3 := hidC (HCl.out _ HB3.out); clear hb3'))
  clear HNw2 b0 y1 y2
  have HWr := hidC (HW.out w3 HB3.out)
  obtain ⟨_, s1, _⟩ := HWr.out.cells
  have hpb : p ≤ 65536 := HP.out.2
  have hpw : wrap64 ((p : Int) - 1) = (p : Int) - 1 := by unfold wrap64; omega
  have HO3 : Hid (w3.ownsRow W1.heap.size TV 5 (.slice cao nC cc) nC (ctv (ofK (k1, k2) ws).reverse)) := ownsRow_same HO2.out (fun k hk => HB3'.out.block k (World.ownsRow.lt HO2.out k hk).2)
  clear HQ3
  go_wp2_with fail
  go_loopw [6, 7, 8, 9, 10, 11, 12, 13] (fun xn xv xi _ _ _ _ _ wr => ∃ (i : Nat) (z : Int) (q : Nat), i ≤ p ∧ xi = .int .i64 ((i : Int) - 1) ∧ xv = .int .i64 z ∧ xn = .int .i64 (q : Int) ∧ Hid (z = lastN (ofK (k1, k2) (ws.take i)) ∧ q = (ofK (k1, k2) (ws.drop i)).length ∧ Below w3.heap.size w3 wr)) (fun _ _ xi _ _ _ _ _ _ => (intOf xi + 1).toNat)
  case atStart => exact ⟨p, z0, 0, Nat.le_refl _, rfl, rfl, rfl, by rw [HZ0.out, HP.out.1, List.take_length], by rw [HP.out.1, List.drop_length]; rfl, Below.refl _ _⟩
  case round =>
    obtain ⟨i, z, q, hi, rfl, rfl, rfl, HR⟩ := hrel
    rcases Nat.eq_zero_or_pos i with rfl | hpos
    · obtain ⟨hz, hq, hbr⟩ := HR.out
      have hz' : z = 0 := by rw [hz, List.take_zero]; rfl
      have hq' : q = nC := by rw [hq, List.drop_zero, HnC.out]
      subst hz' hq'
      have HBr : Hid (Below w.heap.size w wr) := HB1.out.trans ((HB3.out.trans (hbr.mono HB3.out.size)).mono HB1.out.size)
      clear hz hq hbr HR
      go_wp2
      go_ret
      exact ⟨by rw [← HnC.out]; rfl, HBr.out⟩
    · obtain ⟨j, rfl⟩ : ∃ j, i = j + 1 := ⟨i - 1, by omega⟩
      have hjl : j < ws.length := by have := HP.out.1; omega
      rw [show (((j + 1 : Nat) : Int) - 1) = (j : Int) by omega]
      have hjp : (j : Int) < (p : Int) := by omega
      have hjp2 : j < p := by omega
      have hj0 : (0 : Int) ≤ (j : Int) := by omega
      have hjw : wrap64 ((j : Int) - 1) = (j : Int) - 1 := by unfold wrap64; omega
      have hq5 : q ≤ 65536 := by
        rw [HR.out.2.1]
        exact Nat.le_trans (List.length_filter_le _ _) (Nat.le_trans (by simp; have := HP.out.1; omega) hpb)
      obtain ⟨g, hg⟩ : ∃ g, ao = some ⟨g, 0, none⟩ := by
        rcases HWr.out.al.shape with ⟨_, h0⟩ | ⟨g, _, _, h1, _⟩
        · rw [h0] at hjl; simp at hjl
        · simp only [Value.slice.injEq] at h1
          exact ⟨g, h1.1⟩
      subst hg
      obtain ⟨v, hv⟩ : ∃ v, v = ws[j] := ⟨_, rfl⟩
      have HV : Hid (∃ hi : j < ws.length, v = ws[j]) := ⟨hjl, hv⟩
      have HWq := hidC (HWr.out.kept HR.out.2.2)
      obtain ⟨d0, d1, d2, d3, d4, d5, d6, d7⟩ := HWq.out.ldAll HV.out
      obtain ⟨_, s1', _⟩ := HWq.out.cells
      have HBq : Hid (Below W1.heap.size W1 wr) := HB3.out.trans (HR.out.2.2.mono HB3.out.size)
      obtain ⟨_, y1, y2⟩ := HCl.out wr HBq.out
      obtain ⟨U1, hU1⟩ : ∃ U1, U1 = wr.alloc (.cells #[.int .i64 v.n, .int .i64 v.k.1, .int .i64 v.k.2, .int .i64 v.ba, .int .i64 v.ix, .bool v.fl, .bool v.ci, .int .i64 v.cv] 50) := ⟨_, rfl⟩
      have HU1 : Hid (Below wr.heap.size wr U1 ∧ U1.heap[wr.heap.size]? = some (.cells #[.int .i64 v.n, .int .i64 v.k.1, .int .i64 v.k.2, .int .i64 v.ba, .int .i64 v.ix, .bool v.fl, .bool v.ci, .int .i64 v.cv] 50 (0, 0))) := by
        rw [hU1]
        exact ⟨(Below.refl _ _).alloc (Nat.le_refl _) _, heap_alloc_new _ _ rfl⟩
      have y1a : ∀ o, (wr.alloc o).cell? ⟨Kb, 0, none⟩ = some (.int .i64 k1) := fun o => Lib.cell?_alloc_some _ y1
      have y2a : ∀ o, (wr.alloc o).cell? ⟨Kb, 1, none⟩ = some (.int .i64 k2) := fun o => Lib.cell?_alloc_some _ y2
      obtain ⟨vb, vn, ⟨t1, t2⟩, vba, vix, vfl, vci, vcv⟩ := v
      simp only at d0 d1 d2 d3 d4 d5 d6 d7 HU1 hU1
      have hnk := fun w : World => run_neKey t1 t2 k1 k2 w
      have hgk := fun (op : BinOp) (a b : Operand) (w : World) => run_eqGuard op a b t1 t2 k1 k2 w
      by_cases hkk : (t1, t2) = (k1, k2)
      · rw [decide_eq_true hkk] at hnk
        as_aux_lemma =>
        have e1 : t1 = k1 := congrArg Prod.fst hkk
        have e2 : t2 = k2 := congrArg Prod.snd hkk
        subst e1 e2
        have hvk : ws[j].k = (t1, t2) := by rw [← hv]
        have hsp := ofK_split hjl hvk
        rw [← hv] at hsp
        have HSp := hidC hsp
        have hzn : z = vn := by rw [HR.out.1, ofK_take_same hjl hvk, lastN_snoc, ← hv]
        have HQ : Hid (q = (ofK (t1, t2) (ws.drop (j + 1))).length) := HR.out.2.1
        have HJ : Hid (lastN (ofK (t1, t2) (ws.take j)) = lastN (ofK (t1, t2) (ws.take j)) ∧ q + 1 = (ofK (t1, t2) (ws.drop j)).length ∧ q < nC) := ⟨rfl, by rw [ofK_drop_same hjl hvk, HQ.out]; rfl, by rw [HnC.out, HSp.out, HQ.out]; simp; omega⟩
        subst hzn
        have hvm : (⟨vb, z, (t1, t2), vba, vix, vfl, vci, vcv⟩ : Vr) ∈ ws := by rw [hv]; exact List.getElem_mem hjl
        have HS3 : Hid (∀ U, Below w3.heap.size w3 U → ST n0 (fun k => F k ∨ k = B ∨ (Value.slice (some ⟨g, 0, none⟩) p ac).ownBlock = some k) U S P 65536 last ws) := fun U hU => (HWr.out.kept hU).st
        have hn64 : In64 z := by have h1 := HWr.out.st.nl _ hvm; have h2 := HWr.out.st.lt; simp only at h1; unfold In64; omega
        have hfv : fv ws z = some ⟨vb, z, (t1, t2), vba, vix, vfl, vci, vcv⟩ := fv_of HWr.out.st.nd hvm
        have HLk : Hid (∀ U, Below w3.heap.size w3 U → Calls Try.prog 21 #[ptr S, .int .i64 z] U fun e w' => e = .returned (.tuple #[.agg #[.int .i64 vba, .int .i64 vix, .bool vfl, .bool vci, .int .i64 vcv], .int .i64 0]) ∧ Below U.heap.size U w') := fun U hU => by
          have h1 := look_st _ _ U S P 65536 last ws (HS3.out U hU) z hn64
          rw [hfv] at h1
          exact h1
        have HKo : Hid (∀ U, Below w3.heap.size w3 U → Calls Try.prog 31 #[ptr S, .int .i64 z] U fun e w' => e = .returned (.tuple #[.agg #[.int .i64 t1, .int .i64 t2], .int .i64 0]) ∧ Below U.heap.size U w') := fun U hU => by
          have h1 := keyOf_st _ _ U S P 65536 last ws (HS3.out U hU) z hn64
          rw [hfv] at h1
          exact h1
        obtain ⟨z', hz'⟩ : ∃ z', z' = lastN (ofK (t1, t2) (ws.take j)) := ⟨_, rfl⟩
        have HZ' := hidC hz'
        have HBf : Hid (∀ U, Below w3.heap.size w3 U → Calls Try.prog 32 #[ptr S, .int .i64 z] U fun e w' => e = .returned (.int .i64 z') ∧ Below U.heap.size U w') := fun U hU => by
          have h1 := before_st _ _ U S P 65536 last ws (HS3.out U hU) ⟨vb, z, (t1, t2), vba, vix, vfl, vci, vcv⟩ _ _ hvm hsp
          rw [← hz'] at h1
          exact h1
        obtain ⟨gc, hcao, _⟩ := verAt (i := q) (v := ⟨vb, z, (t1, t2), vba, vix, vfl, vci, vcv⟩) (by have h1 := HO3.out; rw [HnC.out] at h1; rw [List.length_reverse]; exact h1) (by
          have h1 := rev_at (A := ofK (t1, t2) (ws.take j)) (y := ⟨vb, z, (t1, t2), vba, vix, vfl, vci, vcv⟩) (C := ofK (t1, t2) (ws.drop (j + 1)))
          rw [← HSp.out, ← HQ.out] at h1
          exact h1)
        subst hcao
        have HRw : Hid (∀ U, Below w3.heap.size w3 U → U.cell? ⟨gc, q * 5, none⟩ = some (.int .i64 vba) ∧ U.cell? ⟨gc, q * 5 + 1, none⟩ = some (.int .i64 vix) ∧ U.cell? ⟨gc, q * 5 + 2, none⟩ = some (.bool vfl) ∧ U.cell? ⟨gc, q * 5 + 3, none⟩ = some (.bool vci) ∧ U.cell? ⟨gc, q * 5 + 4, none⟩ = some (.int .i64 vcv)) := fun U hU => by
          obtain ⟨gc', h0, h1⟩ := verAt (w := U) (n0 := W1.heap.size) (ao := some ⟨gc, 0, none⟩) (m := nC) (c := cc) (i := q) (l := (ofK (t1, t2) ws).reverse) (v := ⟨vb, z, (t1, t2), vba, vix, vfl, vci, vcv⟩) (by
            have h1 := ownsRow_same HO3.out (fun k hk => hU.block k (World.ownsRow.lt HO3.out k hk).2)
            rw [List.length_reverse, ← HnC.out]; exact h1) (by
            have h1 := rev_at (A := ofK (t1, t2) (ws.take j)) (y := ⟨vb, z, (t1, t2), vba, vix, vfl, vci, vcv⟩) (C := ofK (t1, t2) (ws.drop (j + 1)))
            rw [← HSp.out, ← HQ.out] at h1
            exact h1)
          simp only [Option.some.injEq, Addr.mk.injEq] at h0
          rw [← h0.1] at h1
          exact h1
        have HB3U : Hid (Below w3.heap.size w3 U1) := HR.out.2.2.trans (HU1.out.1.mono HR.out.2.2.size)
        have b0a : ∀ o, (wr.alloc o).cell? ⟨B, 0, none⟩ = some (ptr S) := fun o => Lib.cell?_alloc_some _ (HWq.out.cells.1)
        clear hv hvk hsp hvm hfv hkk hz' HWq HSp
        go_wp2_with fail
        rw [← hU1]
        clear hU1 d0 d1 d2 d3 d4 d5 d6 d7 s1 s1' y1 y2 y1a y2a b0a
        refine (HLk.out U1 HB3U.out).mono ?_
        rintro e U2 ⟨rfl, hb2⟩
        have HB2 : Hid (Below w3.heap.size w3 U2) := HB3U.out.trans (hb2.mono HB3U.out.size)
        have HX2 := hidC ((hb2.block _ (blk_lt HU1.out.2)).trans HU1.out.2)
        obtain ⟨b9, hb9⟩ : ∃ b9, b9 = wr.heap.size := ⟨_, rfl⟩
        rw [← hb9] at HX2 ⊢
        have b0b : ∀ o, (U2.alloc o).cell? ⟨B, 0, none⟩ = some (ptr S) := fun o => Lib.cell?_alloc_some _ ((HWr.out.kept HB2.out).cells.1)
        obtain ⟨U3, hU3⟩ : ∃ U3, U3 = U2.alloc (.cells #[.int .i64 vba, .int .i64 vix, .bool vfl, .bool vci, .int .i64 vcv] 61) := ⟨_, rfl⟩
        have HU3 : Hid (Below U2.heap.size U2 U3 ∧ U3.heap[U2.heap.size]? = some (.cells #[.int .i64 vba, .int .i64 vix, .bool vfl, .bool vci, .int .i64 vcv] 61 (0, 0))) := by
          rw [hU3]
          exact ⟨(Below.refl _ _).alloc (Nat.le_refl _) _, heap_alloc_new _ _ rfl⟩
        clear hb2 HLk hb9
        go_wp2_with fail
        rw [← hU3]
        clear hU3 b0b
        obtain ⟨b10, hb10⟩ : ∃ b10, b10 = U2.heap.size := ⟨_, rfl⟩
        rw [← hb10] at HU3 ⊢
        have HB3' : Hid (Below w3.heap.size w3 U3) := HB2.out.trans ((by have h1 := HU3.out.1; rw [hb10] at h1; exact h1.mono HB2.out.size))
        have hU3b := HU3.out.1
        rw [hb10] at hU3b
        have HX3 := hidC ((hU3b.block _ (blk_lt HX2.out)).trans HX2.out)
        clear hU3b
        refine (HKo.out U3 HB3'.out).mono ?_
        rintro e U4 ⟨rfl, hb4⟩
        obtain ⟨U5, hU5⟩ : ∃ U5, U5 = U4.alloc (.cells #[.int .i64 t1, .int .i64 t2] 28) := ⟨_, rfl⟩
        obtain ⟨b12, hb12⟩ : ∃ b12, b12 = U4.heap.size := ⟨_, rfl⟩
        have HF : Hid (∀ U, Below U5.heap.size U5 U → (U.cell? ⟨b9, 0, none⟩ = some (.int .i64 z) ∧ U.cell? ⟨b9, 3, none⟩ = some (.int .i64 vba) ∧ U.cell? ⟨b9, 4, none⟩ = some (.int .i64 vix) ∧ U.cell? ⟨b9, 5, none⟩ = some (.bool vfl) ∧ U.cell? ⟨b9, 6, none⟩ = some (.bool vci) ∧ U.cell? ⟨b9, 7, none⟩ = some (.int .i64 vcv)) ∧ (U.cell? ⟨b10, 0, none⟩ = some (.int .i64 vba) ∧ U.cell? ⟨b10, 1, none⟩ = some (.int .i64 vix) ∧ U.cell? ⟨b10, 2, none⟩ = some (.bool vfl) ∧ U.cell? ⟨b10, 3, none⟩ = some (.bool vci) ∧ U.cell? ⟨b10, 4, none⟩ = some (.int .i64 vcv)) ∧ (U.cell? ⟨b12, 0, none⟩ = some (.int .i64 t1) ∧ U.cell? ⟨b12, 1, none⟩ = some (.int .i64 t2)) ∧ (U.cell? ⟨Kb, 0, none⟩ = some (.int .i64 t1) ∧ U.cell? ⟨Kb, 1, none⟩ = some (.int .i64 t2)) ∧ Below w3.heap.size w3 U) := fun U hU => by
          have h45 : Below U4.heap.size U4 U5 := by rw [hU5]; exact (Below.refl _ _).alloc (Nat.le_refl _) _
          have h5 : U5.heap[b12]? = some (.cells #[.int .i64 t1, .int .i64 t2] 28 (0, 0)) := by rw [hU5, hb12]; exact heap_alloc_new _ _ rfl
          have h35 : Below U3.heap.size U3 U := hb4.trans ((h45.trans (hU.mono h45.size)).mono hb4.size)
          have q9 := (h35.block _ (blk_lt HX3.out)).trans HX3.out
          have q10 := (h35.block _ (blk_lt HU3.out.2)).trans HU3.out.2
          have q12 := (hU.block _ (blk_lt h5)).trans h5
          have q3 : Below w3.heap.size w3 U := HB3'.out.trans (h35.mono HB3'.out.size)
          obtain ⟨_, qa, qb⟩ := HCl.out U (HB3.out.trans (q3.mono HB3.out.size))
          refine ⟨⟨?_, ?_, ?_, ?_, ?_, ?_⟩, ⟨?_, ?_, ?_, ?_, ?_⟩, ⟨?_, ?_⟩, ⟨qa, qb⟩, q3⟩ <;> simp [World.cell?, q9, q10, q12]
        clear hb4 HKo HX2 HX3 HU3 hb10
        go_upto_region 11 with fail
        rw [← hU5, ← hb12]
        clear hU5 hb12
        obtain ⟨⟨p0, p3, p4, p5, p6, p7⟩, ⟨r0, r1, r2, r3, r4⟩, ⟨m0, m1⟩, ⟨y1, y2⟩, hb5⟩ := HF.out U5 (Below.refl _ _)
        obtain ⟨w0, w1, w2', w3', w4⟩ := HRw.out U5 hb5
        have hqn : (q : Int) < (nC : Int) := by have := HJ.out.2.2; omega
        have hqn2 : q < nC := HJ.out.2.2
        have hqn3 : ¬ (nC : Int) ≤ (q : Int) := by omega
        have hkn := fun w : World => run_neKey t1 t2 t1 t2 w
        have hkg := fun (op : BinOp) (a b : Operand) (w : World) => run_eqGuard op a b t1 t2 t1 t2 w
        simp only [decide_true, Bool.not_true] at hkn
        have hvn := fun w : World => run_neVer vba vix vfl vci vcv w
        have hvg := fun (op : BinOp) (a b : Operand) (w : World) => run_guardV op a b vba vix vfl vci vcv w
        go_quiet (fail)
        clear p0 p3 p4 p5 p6 p7 r0 r1 r2 r3 r4 m0 m1 y1 y2 w0 w1 w2' w3' w4 hb5
        obtain ⟨⟨_, p3, p4, p5, p6, p7⟩, ⟨r0, r1, r2, r3, r4⟩, _, _, hb6⟩ := HF.out (U5.drewN nq) (drew_below U5 nq)
        have b0c := (HWr.out.kept hb6).cells.1
        have HB6 := hidC hb6
        generalize U5.drewN nq = U6 at *
        clear hb6 HF
        go_wp2_with fail
        refine (HBf.out U6 HB6.out).mono ?_
        rintro e U7 ⟨rfl, hb7⟩
        have HE : Hid (z' = lastN (ofK (t1, t2) (ws.take j)) ∧ q + 1 = (ofK (t1, t2) (ws.drop j)).length ∧ Below w3.heap.size w3 U7) := ⟨HZ'.out, HJ.out.2.1, HB6.out.trans (hb7.mono HB6.out.size)⟩
        have hqw : wrap64 ((q : Int) + 1) = (q : Int) + 1 := by unfold wrap64; omega
        clear hb7 HBf p3 p4 p5 p6 p7 r0 r1 r2 r3 r4 b0c
        go_wp2
        exact ⟨⟨j, z', q + 1, by omega, rfl, rfl, by rw [show ((q + 1 : Nat) : Int) = (q : Int) + 1 by omega], HE⟩, by simp [intOf]⟩
      · rw [decide_eq_false hkk] at hnk
        have HE : Hid (z = lastN (ofK (k1, k2) (ws.take j)) ∧ q = (ofK (k1, k2) (ws.drop j)).length ∧ Below w3.heap.size w3 U1) := by
          have h1 : ws[j].k ≠ (k1, k2) := by rw [← hv]; exact hkk
          exact ⟨by rw [HR.out.1, ofK_take_other hjl h1], by rw [HR.out.2.1, ofK_drop_other hjl h1], HR.out.2.2.trans (HU1.out.1.mono HR.out.2.2.size)⟩
        clear hkk hv HU1 HBq HWq
        go_wp2
        rw [← hU1]
        exact ⟨⟨j, z, q, by omega, rfl, rfl, rfl, HE⟩, by simp [intOf]⟩
end Go.Proofs.Ytfkijdlggdgfhaa
/-
  StoreChains.
-/
namespace Go.Proofs.Ytfkijdlggdgfhaa
open Go.RowKit Go.Sort

theorem lastN_pos {n0 : Nat} {F : Nat → Prop} {w : World} {S P : Nat} {cap last : Int} {vs : List Vr} (h : ST n0 F w S P cap last vs) {k : K} (hk : ∃ v ∈ vs, v.k = k) : 1 ≤ lastN (ofK k vs) := by
  obtain ⟨v, hv, rfl⟩ := hk
  have hne : ofK v.k vs ≠ [] := List.ne_nil_of_mem (a := v) (by simp [ofK]; exact hv)
  obtain ⟨ys, y, hys⟩ := snoc_of hne
  rw [hys, lastN_snoc]
  have hy : y ∈ ofK v.k vs := by rw [hys]; simp
  exact (h.nl y (List.mem_filter.1 hy).1).1
theorem ofK_pos {vs : List Vr} {k : K} (hk : ∃ v ∈ vs, v.k = k) : 1 ≤ (ofK k vs).length := by
  obtain ⟨v, hv, rfl⟩ := hk
  exact List.length_pos_of_mem (a := v) (by simp [ofK]; exact hv)
theorem OwnK.form {w : World} {base : Nat} {v : Value} {L : List K} (h : OwnK w base v L) : ∃ ao cc, v = .slice ao L.length cc ∧ KeysAt w ao L ∧ ∀ i, i < L.length → ∃ g, ao = some ⟨g, 0, none⟩ := by
  rcases h.shape with ⟨rfl, rfl⟩ | ⟨g', cap', rfl, _, _, _, _, hb⟩
  · exact ⟨none, 0, rfl, .inl rfl, fun i hi => by simp at hi⟩
  · exact ⟨_, cap', rfl, hb, fun _ _ => ⟨g', rfl⟩⟩
theorem keyAt {w : World} {g : Nat} {L : List K} (h : KeysAt w (some ⟨g, 0, none⟩) L) {i : Nat} {k : K} (hi : ∃ hi : i < L.length, L[i] = k) : w.cell? ⟨g, i * 2, none⟩ = some (.int .i64 k.1) ∧ w.cell? ⟨g, i * 2 + 1, none⟩ = some (.int .i64 k.2) := by
  obtain ⟨hi, rfl⟩ := hi
  rcases h with h0 | ⟨b, off, e, hc⟩
  · subst h0; simp at hi
  · cases e
    have h1 := KeysAt.at hc i hi
    have e1 : kd L i = L[i] := by unfold kd; rw [getD_of hi]
    rw [e1] at h1
    simpa using h1

set_option maxRecDepth 100000 in
set_option maxHeartbeats 8000000 in
theorem law_schains (w : World) (pp : Int) (a1 : Option Addr) (m1 c1 : Nat) (l1 : List Wq) (hm1 : m1 = l1.length) (hm1b : m1 ≤ 1048576) (hw1 : WrsAt w a1 l1) (hin1 : ∀ x ∈ l1, WqIn x) :
    Calls Try.prog 3 #[.int .i64 pp, .slice a1 m1 c1] w fun e w' => e = .returned (.bool true) ∧ Below w.heap.size w w' := by
  have HL1 : Hid (WrsAt w a1 l1 ∧ m1 = l1.length ∧ (∀ x ∈ l1, WqIn x)) := ⟨hw1, hm1, hin1⟩
  clear hw1 hm1 hin1
  have HBg := begun_any w pp
  go_enter Try.func3, Try.ntmps3
  go_wp2_with fail
  refine HBg.mono ?_
  clear HBg
  rintro e w1 ⟨B, S, P, b, g, rfl, _, _, hb1, hws1⟩
  have HV1 : Hid (VL w.heap.size (fun _ => False) w w1 B S P 0 (.slice (some ⟨g, 0, none⟩) 1 1) [v1 b] 1 2) := ⟨hws1, fun v hv => by simp at hv; subst hv; show (1 : Int) ≤ 1 ∧ (1 : Int) ≤ 2; omega, by omega, by omega, Kp.ofBelow hb1⟩
  clear hws1 hb1
  go_wp2_with fail
  go_loopw [7] (fun x wr => ∃ (j : Nat) (av : Value) (ws : List Vr) (last batch : Int), j ≤ m1 ∧ x = .int .i64 (j : Int) ∧ Hid (VL w.heap.size (fun _ => False) w wr B S P j av ws last batch)) (fun x _ => m1 - (intOf x).toNat)
  case atStart => exact ⟨0, _, _, _, _, Nat.zero_le _, rfl, HV1⟩
  case round =>
    clear HV1
    obtain ⟨j, av, ws, last, batch, hj, rfl, HVr⟩ := hrel
    by_cases hlt : j < m1
    · as_aux_lemma =>
      obtain ⟨lb, lo, hao, hbl, x, HXi, x0, x1, x2, x3, x4, x5, x6, x7⟩ : ∃ lb lo, a1 = some ⟨lb, lo, none⟩ ∧ lb < w.heap.size ∧ ∃ x : Wq, Hid (WqIn x) ∧ wr.cell? ⟨lb, lo + j * 8, none⟩ = some (.int .i64 x.k.1) ∧ wr.cell? ⟨lb, lo + j * 8 + 1, none⟩ = some (.int .i64 x.k.2) ∧ wr.cell? ⟨lb, lo + j * 8 + 2, none⟩ = some (.int .i64 x.la) ∧ wr.cell? ⟨lb, lo + j * 8 + 3, none⟩ = some (.int .i64 x.ix) ∧ wr.cell? ⟨lb, lo + j * 8 + 4, none⟩ = some (.bool x.fl) ∧ wr.cell? ⟨lb, lo + j * 8 + 5, none⟩ = some (.bool x.ci) ∧ wr.cell? ⟨lb, lo + j * 8 + 6, none⟩ = some (.int .i64 x.cv) ∧ wr.cell? ⟨lb, lo + j * 8 + 7, none⟩ = some (.int .i64 x.dr) :=
        wrs_at HL1.out.1 HL1.out.2.1 HL1.out.2.2 (HVr.out.kp.below (Nat.le_refl _)) hlt
      subst hao
      have HWr := hidC (write_any w.heap.size (fun _ => False) wr B S P av [] ws last batch x HVr.out.wsx (fun v hv => (HVr.out.ba v hv).2) HXi.out (by have := HVr.out.la; omega) (by have := HVr.out.bt; omega) (by simp))
      obtain ⟨⟨xk1, xk2⟩, xla, xix, xfl, xci, xcv, xdr⟩ := x
      simp only [wqc] at x0 x1 x2 x3 x4 x5 x6 x7 HWr
      go_wp2_with fail
      refine HWr.out.mono ?_
      clear HWr x0 x1 x2 x3 x4 x5 x6 x7 HXi
      intro e w6 hwp
      obtain ⟨rfl, av', ws', last', batch', hf6, _, _⟩ := HVr.out.write hwp
      have HF6 := hidC hf6
      clear hf6 hwp HVr
      go_wp2
      exact ⟨⟨j + 1, av', ws', last', batch', by omega, by rw [show ((j + 1 : Nat) : Int) = (j : Int) + 1 by omega], HF6⟩, by simp [intOf]; omega⟩
    · as_aux_lemma =>
      have HW : Hid (∀ U, Below wr.heap.size wr U → WS w.heap.size (fun _ => False) U B S P av ws ws last last batch) := fun U hU => HVr.out.wsx.kept hU
      have HBw : Hid (Below w.heap.size w wr) := HVr.out.kp.below (Nat.le_refl _)
      obtain ⟨ao, c, hav⟩ := ownL_slice HVr.out.wsx.al
      subst hav
      have hpb : ws.length ≤ 65536 := by have := HVr.out.wsx.st.lt.2.2.2; omega
      have hP0 := HVr.out.wsx.st.P0
      obtain ⟨p, hp⟩ : ∃ p, p = ws.length := ⟨_, rfl⟩
      have HP : Hid (p = ws.length) := hp
      rw [← hp] at HW hpb
      clear HVr hp
      have HCl : Hid (∀ U, Below wr.heap.size wr U → U.cell? ⟨B, 0, none⟩ = some (ptr S) ∧ U.cell? ⟨B, 1, none⟩ = some (.slice ao p c)) := fun U hU => ⟨(HW.out U hU).cells.1, (HW.out U hU).cells.2.1⟩
      have HLv : Hid (Calls Try.prog 9 #[ptr S] wr.drew fun e w' => e = .returned (.int .i64 (p : Int)) ∧ Below wr.heap.size wr w') := by
        have h1 := live_st _ _ wr.drew S P 65536 last ws (HW.out wr.drew (drew_below wr 1)).st
        rw [← HP.out] at h1
        exact h1.mono fun e w' ⟨a1, a2⟩ => ⟨a1, by rw [a2]; exact drew_below wr 1⟩
      have HRm : Hid (∀ U, Below wr.heap.size wr U → Calls Try.prog 10 #[ptr S] U fun e w' => e = .returned (.int .i64 (65536 - (p : Int))) ∧ Below wr.heap.size wr w') := fun U hU => by
        have h1 := room_st _ _ U S P 65536 last ws (HW.out U hU).st
        rw [← HP.out] at h1
        exact h1.mono fun e w' ⟨a1, a2⟩ => ⟨a1, hU.trans (a2.mono hU.size)⟩
      obtain ⟨s0, s1⟩ := HCl.out wr (Below.refl _ _)
      have hrw : IntKind.i64.wrap (65536 - (p : Int)) = 65536 - (p : Int) := by rw [IntKind.wrap_i64]; omega
      go_upto_region 9 with fail
      clear hlt hj
      go_region_held3 (fun w' => w'.cell? ⟨B, 0, none⟩ = some (ptr S) ∧ w'.cell? ⟨B, 1, none⟩ = some (.slice ao p c)) (first | with_reducible exact HQb.out | with_reducible exact HQa.out | go_keep) (first
        | (go_at_call 9; with_reducible refine HLv.out.mono ?_; rintro e wA ⟨rfl, hbA⟩; have HQa := hidC (HCl.out _ hbA); have HBa := hidC hbA; clear hbA)
        | (go_at_call 10; with_reducible refine (HRm.out _ (by with_reducible exact HBa.out)).mono ?_; rintro e wB ⟨rfl, hbB⟩; have HQb := hidC (HCl.out _ hbB); have HBb := hidC hbB; clear hbB))
      obtain ⟨w2, rfl⟩ : ∃ w2, w2 = wr := ⟨wr, rfl⟩
      clear HLv HRm s0 s1 HQa HQb HBa
      go_wp2_with fail
      clear hrw
      go_loopw [8, 9, 10, 11, 12] (fun xt xp _ _ _ wq => ∃ (pn : Int) (tot : Nat), (-1 ≤ pn ∧ pn ≤ (P : Int) + 1) ∧ xp = .int .i64 pn ∧ xt = .int .i64 (tot : Int) ∧ Hid (tot = totP P pn ws ∧ Below w2.heap.size w2 wq)) (fun _ xp _ _ _ _ => ((P : Int) + 1 - intOf xp).toNat)
      case atStart => exact ⟨-1, 0, ⟨by omega, by omega⟩, rfl, rfl, (totP_low P ws).symm, HBb.out⟩
      case round =>
        clear HBb
        obtain ⟨pn, tot, hpn, rfl, rfl, HR⟩ := hrel
        have s0 := (HCl.out wr HR.out.2).1
        have s1 := (HCl.out wr HR.out.2).2
        have HPt := hidC (parts_st _ _ wr S P 65536 last ws (HW.out wr HR.out.2).st)
        have HKs := hidC (keys_st _ _ wr S P 65536 last ws (HW.out wr HR.out.2).st pn)
        go_wp2_with fail
        refine HPt.out.mono ?_
        rintro e w3 ⟨rfl, hw3⟩
        have hw3' := hw3.symm
        subst hw3'
        clear hw3 HPt
        by_cases hle : pn ≤ (P : Int)
        · as_aux_lemma =>
          have hle' : decide (pn ≤ (P : Int)) = true := decide_eq_true hle
          have hpw : wrap64 (pn + 1) = pn + 1 := by unfold wrap64; omega
          go_wp2_with fail
          refine HKs.out.mono ?_
          rintro e w3 ⟨v, L, rfl, ho, hks, hb3⟩
          obtain ⟨la, lc, rfl, hka, hlg⟩ := ho.form
          have HB3 : Hid (Below w2.heap.size w2 w3) := HR.out.2.trans (hb3.mono HR.out.2.size)
          have HKs2 := hidC hks
          have HLl : Hid (L.length ≤ 65536) := by
            have h1 := len_of_sub L (ws.map Vr.k) hks.1.nodup (fun k hk => by obtain ⟨⟨v, hv, e⟩, _⟩ := (hks.2 k).1 hk; exact List.mem_map.2 ⟨v, hv, e⟩)
            rw [List.length_map, ← HP.out] at h1
            exact Nat.le_trans h1 hpb
          have HRi := hidC (rises_any w3 la lc L.length L rfl hka (by have := HLl.out; omega))
          rw [decide_eq_true hks.1] at HRi
          have HRow : Hid (∀ U, Below w3.heap.size w3 U → KeysAt U la L) := fun U hU => hka.kept hU
          obtain ⟨nL, hnL⟩ : ∃ nL, nL = L.length := ⟨_, rfl⟩
          have HnL := hidC hnL
          have hnb : nL ≤ 65536 := by rw [hnL]; exact HLl.out
          rw [← hnL] at HRi ⊢
          clear HKs ho hks hb3 hka s0 hnL
          go_wp2_with fail
          refine HRi.out.mono ?_
          rintro e w4 ⟨rfl, qq, os, hw4⟩
          have HB4 : Hid (Below w3.heap.size w3 w4) := by rw [hw4]; exact Grew.below ⟨qq, os, rfl⟩
          clear hw4 HRi
          have HB4' : Hid (Below w2.heap.size w2 w4) := HB3.out.trans (HB4.out.mono HB3.out.size)
          have HT : Hid (tot = totP P pn ws) := HR.out.1
          clear HR
          go_wp2_with fail
          go_loopw [8, 11, 12] (fun xt xi _ wq => ∃ (i tt : Nat), i ≤ nL ∧ xi = .int .i64 (i : Int) ∧ xt = .int .i64 (tt : Int) ∧ Hid (tt = tot + inL (L.take i) ws ∧ Below w4.heap.size w4 wq)) (fun _ xi _ _ => nL - (intOf xi).toNat)
          case atStart => exact ⟨0, tot, Nat.zero_le _, rfl, rfl, by rw [List.take_zero, inL_nil]; rfl, Below.refl _ _⟩
          case round =>
            obtain ⟨i, tt, hi, rfl, rfl, HI⟩ := hrel
            by_cases hlt : i < nL
            · as_aux_lemma =>
              have hil : i < L.length := by have := HnL.out; omega
              obtain ⟨gl, hgl⟩ := hlg i hil
              subst hgl
              obtain ⟨k, hk⟩ : ∃ k, L[i] = k := ⟨_, rfl⟩
              obtain ⟨k1, k2⟩ := k
              have hkm := (HKs2.out.2 (k1, k2)).1 (by rw [← hk]; exact List.getElem_mem hil)
              have HKi : Hid (KIn (k1, k2) ∧ isKey (k1, k2) = true) := by
                obtain ⟨⟨v, hv, e⟩, _⟩ := hkm
                rw [← e]
                have hst := (HW.out w4 HB4'.out).st
                exact ⟨(hst.inn v hv).1, hst.ik v hv⟩
              have HBi : Hid (Below w2.heap.size w2 wr) := HB4'.out.trans (HI.out.2.mono HB4'.out.size)
              have HBj : Hid (Below w3.heap.size w3 wr) := HB4.out.trans (HI.out.2.mono HB4.out.size)
              have HC2 : Hid (∀ U, Below wr.heap.size wr U → U.cell? ⟨B, 0, none⟩ = some (ptr S) ∧ U.cell? ⟨gl, i * 2, none⟩ = some (.int .i64 k1) ∧ U.cell? ⟨gl, i * 2 + 1, none⟩ = some (.int .i64 k2)) := fun U hU => by
                have h1 := keyAt (HRow.out U (HBj.out.trans (hU.mono HBj.out.size))) (i := i) (k := (k1, k2)) ⟨hil, hk⟩
                exact ⟨(HCl.out U (HBi.out.trans (hU.mono HBi.out.size))).1, h1.1, h1.2⟩
              have HW2 : Hid (∀ U, Below wr.heap.size wr U → WS w.heap.size (fun _ => False) U B S P (.slice ao p c) ws ws last last batch) := fun U hU => HW.out U (HBi.out.trans (hU.mono HBi.out.size))
              have HPa : Hid (Calls Try.prog 14 #[ptr S, .agg #[.int .i64 k1, .int .i64 k2]] wr.drew fun e w' => e = .returned (.int .i64 pn) ∧ Below wr.heap.size wr w') := by
                have h1 := part_st _ _ wr.drew S P 65536 last ws (HW2.out wr.drew (drew_below wr 1)).st k1 k2 HKi.out.1 HKi.out.2
                rw [hkm.2] at h1
                exact h1.mono fun e w' ⟨a1, a2⟩ => ⟨a1, (drew_below wr 1).trans a2⟩
              obtain ⟨r, hr⟩ : ∃ r, r = lastN (ofK (k1, k2) ws) := ⟨_, rfl⟩
              have hr1 : 1 ≤ r := by rw [hr]; exact lastN_pos (HW2.out wr (Below.refl _ _)).st hkm.1
              have HNw : Hid (∀ U, Below wr.heap.size wr U → Calls Try.prog 15 #[ptr S, .agg #[.int .i64 k1, .int .i64 k2]] U fun e w' => e = .returned (.int .i64 r) ∧ Below wr.heap.size wr w') := fun U hU => by
                have h1 := newest_st _ _ U S P 65536 last ws (HW2.out U hU).st k1 k2 HKi.out.1
                rw [newestN_last, ← hr] at h1
                exact h1.mono fun e w' ⟨a1, a2⟩ => ⟨a1, hU.trans (a2.mono hU.size)⟩
              obtain ⟨nk, hnk⟩ : ∃ nk, nk = (ofK (k1, k2) ws).length := ⟨_, rfl⟩
              have hnk1 : 1 ≤ nk := by rw [hnk]; exact ofK_pos hkm.1
              have HCd : Hid (∀ U, Below wr.heap.size wr U → Calls Try.prog 16 #[ptr B, .agg #[.int .i64 k1, .int .i64 k2]] U fun e w' => e = .returned (.int .i64 (nk : Int)) ∧ Below wr.heap.size wr w') := fun U hU => by
                have h1 := chained_any _ _ U B S P _ ws last last batch (HW2.out U hU) k1 k2 HKi.out.1
                rw [← hnk] at h1
                exact h1.mono fun e w' ⟨a1, a2⟩ => ⟨a1, hU.trans (a2.mono hU.size)⟩
              have HNx : Hid (tt + nk = tot + inL (L.take (i + 1)) ws ∧ tt + nk ≤ 131072) := by
                have h1 := inL_take (ws := ws) HKs2.out.1 hil
                rw [hk, ← hnk] at h1
                have h2 : nk ≤ ws.length := by rw [hnk]; exact List.length_filter_le _ _
                have h3 : inL (L.take i) ws ≤ ws.length := List.length_filter_le _ _
                have h4 : totP P pn ws ≤ ws.length := List.length_filter_le _ _
                have h5 := HI.out.1
                have h6 := HT.out
                have h7 := HP.out
                refine ⟨by omega, ?_⟩
                have h8 : tt + nk ≤ 65536 + 65536 := by
                  have h9 : inL (L.take (i + 1)) ws ≤ ws.length := List.length_filter_le _ _
                  omega
                omega
              have htw : tt + nk ≤ 131072 := HNx.out.2
              obtain ⟨s0, y1, y2⟩ := HC2.out wr (Below.refl _ _)
              have hii : (i : Int) < (nL : Int) := by omega
              have hr2 : ¬ r = 0 := by omega
              have hr3 : (r == 0) = false := by simpa using hr2
              clear hkm hk hr hnk HKi hil s1
              go_upto_region 21 with fail
              go_region_held3 (fun w' => w'.cell? ⟨B, 0, none⟩ = some (ptr S) ∧ w'.cell? ⟨gl, i * 2, none⟩ = some (.int .i64 k1) ∧ w'.cell? ⟨gl, i * 2 + 1, none⟩ = some (.int .i64 k2)) (first | with_reducible exact HQb.out | with_reducible exact HQa.out | go_keep) (first
                | (go_at_call 14; with_reducible refine HPa.out.mono ?_; rintro e wA ⟨rfl, hbA⟩; have HQa := hidC (HC2.out _ hbA); have HBa := hidC hbA; clear hbA)
                | (go_at_call 15; with_reducible refine (HNw.out _ (by with_reducible exact HBa.out)).mono ?_; rintro e wB ⟨rfl, hbB⟩; have HQb := hidC (HC2.out _ hbB); have HBb := hidC hbB; clear hbB))
              clear s0 y1 y2
              obtain ⟨s0, y1, y2⟩ := HQb.out
              clear HQa HQb HBa HPa HNw
              go_wp2_with fail
              refine (HCd.out _ HBb.out).mono ?_
              rintro e wC ⟨rfl, hbC⟩
              have HBc := hidC hbC
              have hnk2 : ¬ (nk : Int) < 1 := by omega
              have hnk3 : decide ((nk : Int) < 1) = false := decide_eq_false hnk2
              have htt : wrap64 ((tt : Int) + (nk : Int)) = (tt : Int) + (nk : Int) := by unfold wrap64; omega
              clear hbC HCd s0 y1 y2
              go_wp2
              exact ⟨⟨i + 1, tt + nk, by omega, by rw [show ((i + 1 : Nat) : Int) = (i : Int) + 1 by omega], by rw [htt, show ((tt + nk : Nat) : Int) = (tt : Int) + (nk : Int) by omega], HNx.out.1, HI.out.2.trans (HBc.out.mono HI.out.2.size)⟩, by simp [intOf]; omega⟩
            · obtain rfl : i = nL := by omega
              have HF : Hid (tt = totP P (pn + 1) ws ∧ Below w2.heap.size w2 wr) := by
                refine ⟨?_, HB4'.out.trans (HI.out.2.mono HB4'.out.size)⟩
                rw [totP_step, ← inL_part HKs2.out, HI.out.1, HT.out, HnL.out, List.take_length]
              clear hlt
              go_wp2
              exact ⟨⟨pn + 1, tt, ⟨by omega, by omega⟩, rfl, rfl, HF⟩, by simp [intOf]; omega⟩
        · have hle' : decide (pn ≤ (P : Int)) = false := decide_eq_false hle
          have hte : tot = p := by
            rw [HR.out.1, totP_all hP0.1 (by omega), HP.out]
          subst hte
          have HBf : Hid (Below w.heap.size w wr) := HBw.out.trans (HR.out.2.mono HBw.out.size)
          clear HKs
          go_wp2
          go_ret
          exact ⟨rfl, HBf.out⟩
end Go.Proofs.Ytfkijdlggdgfhaa
/-
  FROM THE READING OF A []api.Key ARGUMENT (OR FIELD) TO ITS KEYS.
-/
namespace Go.Proofs.Ytfkijdlggdgfhaa
open Go.ChangeShapes Go.WideShapes Go.ChangeAt Go.RowKit

theorem cellsKey : Try.prog.cellsOf 28 = 2 := by kernel_rfl
theorem cellsInt' : Try.prog.cellsOf 3 = 1 := by kernel_rfl
theorem cellsInt64' : Try.prog.cellsOf 2 = 1 := by kernel_rfl
theorem bytesKey : Try.prog.bytesOf 28 = 16 := by kernel_rfl
set_option maxRecDepth 100000 in
/-- one element -/
theorem key_of_trod {H : Type} {enc : TypeId × Value → H} {W : World} {fuel : Nat} {a : Addr} {i : Nat} {cs : List Value} {y : DataW H × List MemPlace} (hc : W.cells? 0 (a.add (i * 2)) 2 = some cs)
    (hf : DataW.trod enc Try.prog W 0 (fun _ => true) true fuel 28 cs = some y) :
    ∃ (b off : Nat) (k : K), a.add (i * 2) = ⟨b, off, none⟩ ∧ W.cell? ⟨b, off, none⟩ = some (.int .i64 k.1) ∧ W.cell? ⟨b, off + 1, none⟩ = some (.int .i64 k.2) ∧ In64 k.1 ∧ In64 k.2 := by
  obtain ⟨_, hlen, hcell⟩ := World.cells?_some hc
  obtain ⟨xs, k, hk, hxy, _, hxl, hf⟩ := DataW.trod_struct Try.underlying28 hf
  match xs, hxl, cs, hlen with
  | [y0, y1], _, [v0, v1], _ =>
    have g0 := hf 0 _ rfl
    have g1 := hf 1 _ rfl
    simp [cellsInt', cellsInt64'] at g0 g1
    have e0 := hcell 0 (by omega)
    have e1 := hcell 1 (by omega)
    generalize a.add (i * 2) = ad at *
    obtain ⟨b, off, spot⟩ := ad
    have hspot : spot = none := by
      have h1 : (⟨b, off, spot⟩ : Addr).add 0 = ⟨b, off, spot⟩ := by simp [Addr.add]
      rw [h1] at e0
      exact World.cell?_spot e0
    subst hspot
    rw [Go.WideShapes.add_plain] at e0 e1
    obtain ⟨x0, h0, _, wx0⟩ := DataW.trod_int Try.underlying3 g0
    obtain ⟨x1, h1, _, wx1⟩ := DataW.trod_int Try.underlying2 g1
    simp only [List.cons.injEq, and_true] at h0 h1
    subst h0 h1
    exact ⟨b, off, (x0, x1), rfl, by simpa using e0, by simpa using e1, bounds_i64 wx0, bounds_i64 wx1⟩
theorem cks_of {w : World} {b off : Nat} : ∀ (L : List K) (d : Nat), (∀ i, i < L.length → w.cell? ⟨b, off + (d + i) * 2, none⟩ = some (.int .i64 (kd L i).1) ∧ w.cell? ⟨b, off + (d + i) * 2 + 1, none⟩ = some (.int .i64 (kd L i).2)) →
    ∀ j u, (cks L)[j]? = some u → w.cell? ⟨b, off + d * 2 + j, none⟩ = some u
  | [], _, _, j, u, hu => by simp [cks] at hu
  | k :: L, d, h, 0, u, hu => by
    have := (h 0 (by simp)).1
    simp [cks] at hu
    simpa [kd, hu] using this
  | k :: L, d, h, 1, u, hu => by
    have := (h 0 (by simp)).2
    simp [cks] at hu
    simpa [kd, hu] using this
  | k :: L, d, h, j + 2, u, hu => by
    have ih := cks_of (w := w) (b := b) (off := off) L (d + 1) (fun i hi => by
      have := h (i + 1) (by simp; omega)
      rw [kd_cons_succ, show d + (i + 1) = d + 1 + i by omega] at this
      exact this) j u (by simpa [cks] using hu)
    rw [show off + (d + 1) * 2 + j = off + d * 2 + (j + 2) by omega] at ih
    exact ih
set_option maxRecDepth 100000 in
/-- what the reading of a slice of keys gives -/
theorem keys_of_trod {H : Type} {enc : TypeId × Value → H} {W : World} {fuel : Nat} {cs : List Value} {y : DataW H × List MemPlace}
    (hf : DataW.trod enc Try.prog W 0 (fun _ => true) true fuel 38 cs = some y) :
    ∃ (a : Option Addr) (len cap : Nat) (ks : List K), cs = [.slice a len cap] ∧ (len = ks.length ∧ KeysAt W a ks ∧ (a = none → cap = 0) ∧ len ≤ cap ∧ cap ≤ maxLen ∧ ∀ k ∈ ks, In64 k.1 ∧ In64 k.2) ∧
      (len = 0 ∨ ∃ elems spare, y.1 = .slice elems spare ∧ len ≤ elems.length + spare.length) := by
  rcases Deep.open_slice Try.underlying38 hf with ⟨rfl, rfl⟩ | ⟨a, len, cap, m, n, D, Pl, rfl, hb, hl, hm, hmm, rfl, hx⟩
  · exact ⟨none, 0, 0, [], rfl, ⟨rfl, .inl rfl, fun _ => rfl, Nat.le_refl _, Nat.zero_le _, by simp⟩, .inl rfl⟩
  · have hle : len ≤ m := by rw [hmm]; simpa using hl
    rw [cellsKey] at hx
    obtain ⟨Z, hZ⟩ := Deep.choose_lt (α := K) (n := len) (p := fun i k => ∃ b off, a.add (i * 2) = ⟨b, off, none⟩ ∧ W.cell? ⟨b, off, none⟩ = some (.int .i64 k.1) ∧ W.cell? ⟨b, off + 1, none⟩ = some (.int .i64 k.2) ∧ In64 k.1 ∧ In64 k.2) (fun i hi => by
      obtain ⟨cs', h1, h2⟩ := hx i (by omega)
      obtain ⟨b, off, k, h3⟩ := key_of_trod h1 h2
      exact ⟨k, b, off, h3⟩)
    refine ⟨some a, len, cap, (List.range len).map Z, rfl, ⟨by simp, ?_, by simp, by simpa using hl, hm, ?_⟩, .inr ⟨_, _, rfl, ?_⟩⟩
    · by_cases h0 : len = 0
      · left; subst h0; rfl
      · right
        obtain ⟨b, off, h1, _⟩ := hZ 0 (by omega)
        have h1' : a = ⟨b, off, none⟩ := by simpa [Addr.add] using h1
        subst h1'
        refine ⟨b, off, rfl, fun j u hu => ?_⟩
        have := cks_of (w := W) (b := b) (off := off) ((List.range len).map Z) 0 (fun i hi => by
          have hi' : i < len := by simpa using hi
          obtain ⟨b', off', h2, h3, h4, _⟩ := hZ i hi'
          rw [Go.WideShapes.add_plain] at h2
          simp only [Addr.mk.injEq, and_true] at h2
          obtain ⟨rfl, rfl⟩ := h2
          have e : kd ((List.range len).map Z) i = Z i := by simp [kd, List.getD_eq_getElem?_getD, hi']
          rw [e, Nat.zero_add]
          exact ⟨h3, h4⟩) j u hu
        simpa using this
    · intro k hk
      obtain ⟨i, hi, rfl⟩ := List.mem_map.1 hk
      obtain ⟨_, _, _, _, _, h5⟩ := hZ i (by simpa using hi)
      exact h5
    · simp
theorem keys_of_sized {H : Type} {ts : List TypeId} {ds : List (DataW H)} {j len : Nat} {d : DataW H} (h : (DataW.weightsEach Try.prog ts ds).all (· ≤ reachBytes) = true) (ht : ts[j]? = some 38) (hd : ds[j]? = some d)
    (hx : len = 0 ∨ ∃ elems spare, d = .slice elems spare ∧ len ≤ elems.length + spare.length) : len * 16 ≤ 140737488351232 := by
  rcases hx with h0 | ⟨elems, spare, rfl, hl⟩
  · omega
  · have h1 := sized_slice h ht hd Try.underlying38
    rw [bytesKey] at h1
    simp only [reachBytes] at h1
    omega

end Go.Proofs.Ytfkijdlggdgfhaa
/-
  FROM THE READING OF A []Write ARGUMENT (layer 9) TO ITS WRITES.
-/
namespace Go.Proofs.Ytfkijdlggdgfhaa
open Go.ChangeShapes Go.WideShapes Go.ChangeAt Go.RowKit

instance : Inhabited Wq := ⟨⟨(0, 0), 0, 0, false, false, 0, 0⟩⟩
theorem cellsWr : Try.prog.cellsOf 32 = 8 := by kernel_rfl
theorem cellsCell : Try.prog.cellsOf 30 = 2 := by kernel_rfl
theorem cellsBoolW : Try.prog.cellsOf 4 = 1 := by kernel_rfl
set_option maxRecDepth 100000 in
/-- one element -/
theorem wr_of_trod {H : Type} {enc : TypeId × Value → H} {W : World} {fuel : Nat} {a : Addr} {i : Nat} {cs : List Value} {y : DataW H × List MemPlace} (hc : W.cells? 0 (a.add (i * 8)) 8 = some cs)
    (hf : DataW.trod enc Try.prog W 0 (fun _ => true) true fuel 32 cs = some y) :
    ∃ (b off : Nat) (x : Wq), a.add (i * 8) = ⟨b, off, none⟩ ∧ (∀ j u, (wqc x)[j]? = some u → W.cell? ⟨b, off + j, none⟩ = some u) ∧ WqIn x := by
  obtain ⟨_, hlen, hcell⟩ := World.cells?_some hc
  obtain ⟨xs, k, hk, hxy, _, hxl, hf⟩ := DataW.trod_struct Try.underlying32 hf
  match xs, hxl, cs, hlen with
  | [y0, y1, y2, y3, y4, y5], _, [v0, v1, v2, v3, v4, v5, v6, v7], _ =>
    have g0 := hf 0 _ rfl
    have g1 := hf 1 _ rfl
    have g2 := hf 2 _ rfl
    have g3 := hf 3 _ rfl
    have g4 := hf 4 _ rfl
    have g5 := hf 5 _ rfl
    simp [cellsInt', cellsKey, cellsBoolW, cellsCell] at g0 g1 g2 g3 g4 g5
    have e0 := hcell 0 (by omega)
    have e1 := hcell 1 (by omega)
    have e2 := hcell 2 (by omega)
    have e3 := hcell 3 (by omega)
    have e4 := hcell 4 (by omega)
    have e5 := hcell 5 (by omega)
    have e6 := hcell 6 (by omega)
    have e7 := hcell 7 (by omega)
    generalize a.add (i * 8) = ad at *
    obtain ⟨b, off, spot⟩ := ad
    have hspot : spot = none := by
      have h1 : (⟨b, off, spot⟩ : Addr).add 0 = ⟨b, off, spot⟩ := by simp [Addr.add]
      rw [h1] at e0
      exact World.cell?_spot e0
    subst hspot
    rw [Go.WideShapes.add_plain] at e0 e1 e2 e3 e4 e5 e6 e7
    obtain ⟨x2, h2, _, w2⟩ := DataW.trod_int Try.underlying3 g1
    obtain ⟨x3, h3, _, w3⟩ := DataW.trod_int Try.underlying3 g2
    obtain ⟨x4, h4, _⟩ := DataW.trod_bool Try.underlying4 g3
    obtain ⟨x7, h7, _, w7⟩ := DataW.trod_int Try.underlying3 g5
    obtain ⟨zs, kz, _, _, _, hzl, hz⟩ := DataW.trod_struct Try.underlying28 g0
    obtain ⟨rs, kr, _, _, _, hrl, hr⟩ := DataW.trod_struct Try.underlying30 g4
    match zs, hzl, rs, hrl with
    | [u0, u1], _, [r0, r1], _ =>
      have q0 := hz 0 _ rfl
      have q1 := hz 1 _ rfl
      have p0 := hr 0 _ rfl
      have p1 := hr 1 _ rfl
      simp [cellsInt', cellsInt64', cellsBoolW] at q0 q1 p0 p1
      obtain ⟨t0, m0, _, w0⟩ := DataW.trod_int Try.underlying3 q0
      obtain ⟨t1, m1, _, w1⟩ := DataW.trod_int Try.underlying2 q1
      obtain ⟨t5, m5, _⟩ := DataW.trod_bool Try.underlying4 p0
      obtain ⟨t6, m6, _, w6⟩ := DataW.trod_int Try.underlying2 p1
      simp only [List.cons.injEq, and_true] at h2 h3 h4 h7 m0 m1 m5 m6
      subst h2 h3 h4 h7 m0 m1 m5 m6
      refine ⟨b, off, ⟨(t0, t1), x2, x3, x4, t5, t6, x7⟩, rfl, fun j u hu => ?_, ⟨bounds_i64 w0, bounds_i64 w1⟩, bounds_i64 w2, bounds_i64 w3, bounds_i64 w6, bounds_i64 w7⟩
      match j, hu with
      | 0, hu => simp [wqc] at hu; subst hu; simpa using e0
      | 1, hu => simp [wqc] at hu; subst hu; simpa using e1
      | 2, hu => simp [wqc] at hu; subst hu; simpa using e2
      | 3, hu => simp [wqc] at hu; subst hu; simpa using e3
      | 4, hu => simp [wqc] at hu; subst hu; simpa using e4
      | 5, hu => simp [wqc] at hu; subst hu; simpa using e5
      | 6, hu => simp [wqc] at hu; subst hu; simpa using e6
      | 7, hu => simp [wqc] at hu; subst hu; simpa using e7
      | j + 8, hu => simp [wqc] at hu
set_option maxRecDepth 100000 in
theorem ws_of_trod {H : Type} {enc : TypeId × Value → H} {W : World} {fuel : Nat} {cs : List Value} {y : DataW H × List MemPlace}
    (hf : DataW.trod enc Try.prog W 0 (fun _ => true) true fuel 22 cs = some y) :
    ∃ (a : Option Addr) (len cap : Nat) (S : List Wq), cs = [.slice a len cap] ∧ len = S.length ∧ WrsAt W a S ∧ (∀ x ∈ S, WqIn x) ∧
      (len = 0 ∨ ∃ elems spare, y.1 = .slice elems spare ∧ len ≤ elems.length + spare.length) := by
  rcases Deep.open_slice Try.underlying22 hf with ⟨rfl, rfl⟩ | ⟨a, len, cap, m, n, D, Pl, rfl, hb, hl, hm, hmm, rfl, hx⟩
  · exact ⟨none, 0, 0, [], rfl, rfl, .inl rfl, by simp, .inl rfl⟩
  · have hle : len ≤ m := by rw [hmm]; simpa using hl
    rw [cellsWr] at hx
    obtain ⟨Z, hZ⟩ := Deep.choose_lt (α := Wq) (n := len) (p := fun i x => ∃ b off, a.add (i * 8) = ⟨b, off, none⟩ ∧ (∀ j u, (wqc x)[j]? = some u → W.cell? ⟨b, off + j, none⟩ = some u) ∧ WqIn x) (fun i hi => by
      obtain ⟨cs', h1, h2⟩ := hx i (by omega)
      obtain ⟨b, off, x, h3, h4, h5⟩ := wr_of_trod h1 h2
      exact ⟨x, b, off, h3, h4, h5⟩)
    refine ⟨some a, len, cap, (List.range len).map Z, rfl, by simp, ?_, ?_, .inr ⟨_, _, rfl, by simp⟩⟩
    · by_cases h0 : len = 0
      · left; subst h0; rfl
      · right
        obtain ⟨b, off, h1, h1c, _⟩ := hZ 0 (by omega)
        have h1' : a = ⟨b, off, none⟩ := by simpa [Addr.add] using h1
        subst h1'
        refine ⟨b, off, rfl, ?_, fun j hj i u hu => ?_⟩
        · have := h1c 0 _ rfl
          exact World.block_lt_of_cell? _ _ this
        · have hj' : j < len := by simpa using hj
          obtain ⟨b', off', h2, h3, _⟩ := hZ j hj'
          rw [Go.WideShapes.add_plain] at h2
          simp only [Addr.mk.injEq, and_true] at h2
          obtain ⟨rfl, rfl⟩ := h2
          simp only [List.getElem_map, List.getElem_range] at hu
          exact h3 i u hu
    · intro o ho
      obtain ⟨i, hi, rfl⟩ := List.mem_map.1 ho
      obtain ⟨_, _, _, _, h5⟩ := hZ i (by simpa using hi)
      exact h5
end Go.Proofs.Ytfkijdlggdgfhaa
/-
  WHAT THE BOUND ON THE BULK GIVES.
-/
namespace Go.Proofs.Ytfkijdlggdgfhaa

theorem bulk_one {H : Type} (d : DataW H) : 1 ≤ Rows.uptoBulk d := by
  cases d with
  | lit l => cases l <;> simp [Rows.uptoBulk]
  | _ => simp [Rows.uptoBulk]
theorem bulk_length {H : Type} (l : List (DataW H)) : l.length ≤ Rows.uptoBulkAll l := by
  induction l with
  | nil => simp [Rows.uptoBulkAll]
  | cons x r ih => have := bulk_one x; simp only [Rows.uptoBulkAll, List.length_cons]; omega
theorem bulk_slice {H : Type} (elems spare : List (DataW H)) : elems.length + spare.length + 1 ≤ Rows.uptoBulk (.slice elems spare) := by
  have h1 := bulk_length elems
  have h2 := bulk_length spare
  simp only [Rows.uptoBulk]
  omega
theorem bulk_bytes {H : Type} {d : DataW H} {len : Nat} (h : len = 0 ∨ ∃ elems spare, d = .slice elems spare ∧ len ≤ elems.length + spare.length) : len + 1 ≤ Rows.uptoBulk d := by
  rcases h with h | ⟨elems, spare, rfl, hl⟩
  · have := bulk_one d; omega
  · have := bulk_slice elems spare; omega
theorem bulk_of_small {H : Type} {l : List (DataW H)} (h : Rows.uptoSmall H l = true) : Rows.uptoBulkAll l ≤ 1048576 := of_decide_eq_true h

end Go.Proofs.Ytfkijdlggdgfhaa
/-
  StoreChains: THE ROW.
-/
namespace Go.Proofs.Ytfkijdlggdgfhaa.storeChains
open Go.ChangeShapes Go.WideShapes Go.ChangeAt Go.RowKit

theorem own : ownKnob Try.prog.godebug = none := by kernel_rfl
theorem laidOut : laidOutB Try.prog = true := by kernel_rfl

set_option maxRecDepth 100000 in
theorem contract (H : Type) (enc : TypeId × Value → H) (W : World) (base : Nat) (args : Array Value) (ds gs : List (DataW H)) (before : List MemPlace)
    (hval : ∀ (j : Nat) t v, Try.f3.params[j]? = some t → args[j]? = some v → Value.okWide Try.prog W .any base t v)
    (hW : DataW.Whole enc Try.prog Try.f3.params.toList Rows.storeChainsSpec.vars false W args.toList ds gs before) (hk : Rows.uptoSmall H (ds ++ gs) = true) :
    Calls Try.prog 3 args W fun e W' => ∃ v, e = .returned v ∧ Rows.storeChainsSpec.post enc Try.prog Try.f3 false true false false W args v W' := by
  have hW' := hW
  obtain ⟨p, q, hA0, hV, rfl, hfz, hnd⟩ := hW
  have hA : DataW.TrodAll enc Try.prog W 0 (fun _ => true) true Try.f3.params.toList args.toList ds p := hA0
  rw [Try.params3] at hA hval
  obtain ⟨v0, vs0, d0, ds0, p0, q0, hargs, rfl, rfl, h0, r0⟩ := trodAll_cons hA
  obtain ⟨v1, vs1, d1, ds1, p1, q1, rfl, rfl, rfl, h1, r1⟩ := trodAll_cons r0
  obtain ⟨rfl, rfl, rfl⟩ := trodAll_nil r1
  obtain rfl : args = #[v0, v1] := by cases args; simp_all
  obtain ⟨rfl, rfl⟩ := trodVars_none hV
  have hbulk := bulk_of_small hk
  simp only [List.append_nil, Rows.uptoBulkAll] at hbulk
  have k0 := h0
  have lt0 : ∀ x ∈ p0, x.block < W.heap.size := by obtain ⟨m, hm⟩ := k0; exact DataW.trod_lt m _ _ _ hm
  obtain ⟨x_0, rfl, rfl, rfl, wx_0⟩ := open_int Try.underlying3 (hval 0 3 v0 rfl rfl) h0
  have inx_0 : In64 x_0 := bounds_i64 wx_0
  obtain ⟨a_1, len_1, cap_1, rfl⟩ := okWide_slice Try.underlying22 (hval 1 22 v1 rfl rfl)
  have k1 := h1
  have lt1 : ∀ x ∈ p1, x.block < W.heap.size := by obtain ⟨m, hm⟩ := k1; exact DataW.trod_lt m _ _ _ hm
  obtain ⟨fuel1, hf1⟩ := h1
  obtain ⟨a1', len1', cap1', S_1, hcs1, ln_1, hs_1, inS_1, hx1⟩ := ws_of_trod hf1
  simp [Value.cells] at hcs1
  obtain ⟨rfl, rfl, rfl⟩ := hcs1
  have hu_1 := bulk_bytes hx1
  simp only at hu_1
  clear hA0
  refine (law_schains W x_0 a_1 len_1 cap_1 S_1 ln_1 (by omega) hs_1 inS_1).mono fun e W' ⟨he, bel⟩ => ?_
  subst he
  exact ⟨_, rfl, _, _, _, [], _, [], hW', trodAll_mk1 (shut_bool Try.underlying4 _), (trodAll_cons_mk (Below.trod laidOut (by kernel_rfl) (of_decide_eq_true (by kernel_rfl)) k0 bel lt0) (trodAll_cons_mk (Below.trod laidOut (by kernel_rfl) (of_decide_eq_true (by kernel_rfl)) k1 bel lt1) trodAll_mk0)), rfl, bel.frame _, fun h => by cases h⟩

set_option maxRecDepth 100000 in
theorem lifted (os : Os) (started : os.Started) (H : Type) (enc : TypeId × Value → H) (F : Stop.Interp) :
    ReturnsInHanded {} Try.checked os 3 .any ((Rows.OpenSpec.upto Rows.storeChainsSpec).pre6 enc Try.prog Try.f3 Rows.storeChainsUptoRow.domain false) (((Rows.OpenSpec.upto Rows.storeChainsSpec).at F).post enc Try.prog Try.f3 false true false false) := by
  refine returnsInHanded_of_cond (C := Try.checked) (s := Rows.OpenSpec.upto Rows.storeChainsSpec) (k := Rows.uptoSmall) rfl own started (by kernel_rfl) Try.func3
    (OpenSpec.witness (enc := enc) (C := Try.checked) (s := Rows.OpenSpec.upto Rows.storeChainsSpec) (k := Rows.uptoSmall) rfl false ⟨#[], #[.int .i64 0, .slice none 0 0], []⟩ 8 (by kernel_rfl) (by kernel_rfl) (by kernel_rfl)
      (x := ([.lit (.int .i64 0), .nil], [], [])) (by kernel_rfl) rfl (by kernel_rfl)) ?_
  intro W base args ds gs before hval hW _ hk _
  exact contract H enc W base args ds gs before hval hW hk

theorem proved : Rows.StoreChainsUptoSaid :=
  OpenClaim.holds_of_cond 3 Try.f3 rfl rfl rfl rfl rfl rfl rfl ⟨rfl, rfl, rfl, rfl, rfl⟩ rfl rfl rfl rfl rfl (by kernel_rfl) Try.func3 (by kernel_rfl)
    (of_decide_eq_true (by kernel_rfl)) (by unfold Func.isWrapper; first | (rw [if_pos (by decide +kernel)]; kernel_rfl) | (rw [if_neg (by decide +kernel)]; exact ⟨rfl, rfl⟩))
    (fun os started H enc _ F => lifted os started H enc F)
end Go.Proofs.Ytfkijdlggdgfhaa.storeChains
namespace Go.Proofs.Ytfkijdlggdgfhaa
theorem storeChainsUpto_holds : Rows.StoreChainsUptoSaid := storeChains.proved
#print axioms storeChainsUpto_holds
end Go.Proofs.Ytfkijdlggdgfhaa
