import Derived.Test.YtfkijdlggdgfhaaSStK
import Derived.Test.YtfkijdlggdgfhaaJSBeg
import Derived.Test.YtfkijdlggdgfhaaJSWrite
import Derived.Deep.RegionHeld3
import Derived.Laws.AppendOwnNone
import Derived.BigQuiet
import Derived.Test.YtfkijdlggdgfhaaKList
import Derived.SizedLaws
import Derived.Lib.SmallJoins
import Derived.Deep.Slices
import Derived.Test.YtfkijdlggdgfhaaRows
import Derived.ChangeOld
import Derived.ProofKit
import Derived.OpenShut
import Derived.JoinedCond
/-
  visible, Visible.
-/
namespace Go.Proofs.Ytfkijdlggdgfhaa
open Go.RowKit Go.Sort

/-- the newest one's number that is not above a batch -/
def visN (ys : List Vr) (at_ : Int) : Int := match (ys.filter (fun v => decide (v.ba ≤ at_))).getLast? with | none => 0 | some v => v.n
theorem prefix_of : ∀ (ys : List Vr) (at_ : Int), ys.Pairwise (fun a b => a.ba ≤ b.ba) → ∃ A C, ys = A ++ C ∧ (∀ x ∈ A, x.ba ≤ at_) ∧ (∀ x ∈ C, at_ < x.ba)
  | [], _, _ => ⟨[], [], rfl, by simp, by simp⟩
  | y :: ys, at_, hp => by
    obtain ⟨h1, h2⟩ := List.pairwise_cons.1 hp
    by_cases hy : y.ba ≤ at_
    · obtain ⟨A, C, rfl, hA, hC⟩ := prefix_of ys at_ h2
      refine ⟨y :: A, C, rfl, fun x hx => ?_, hC⟩
      rcases List.mem_cons.1 hx with rfl | hx
      · exact hy
      · exact hA x hx
    · refine ⟨[], y :: ys, rfl, by simp, fun x hx => ?_⟩
      rcases List.mem_cons.1 hx with rfl | hx
      · omega
      · have := h1 x hx; omega
theorem visN_split {A C : List Vr} {at_ : Int} (hA : ∀ x ∈ A, x.ba ≤ at_) (hC : ∀ x ∈ C, at_ < x.ba) : aheadN (A ++ C) A.length = visN (A ++ C) at_ := by
  have hf : (A ++ C).filter (fun v => decide (v.ba ≤ at_)) = A := by
    rw [List.filter_append, List.filter_eq_self.2 (fun x hx => by simpa using hA x hx), List.filter_eq_nil_iff.2 (fun x hx => by have := hC x hx; simp; omega), List.append_nil]
  unfold visN aheadN
  rw [hf]
  rcases Nat.eq_zero_or_pos A.length with h0 | h0
  · have : A = [] := List.length_eq_zero_iff.1 h0
    subst this
    rfl
  · have hne : A ≠ [] := List.length_pos_iff.1 h0
    rw [if_neg (by omega), List.getLast?_eq_some_getLast hne]
    simp only
    rw [getElem!_pos _ (A.length - 1) (by simp; omega), List.getElem_append_left (by omega), List.getLast_eq_getElem]
theorem Line.rise {w : World} {c g off cc : Nat} {ys : List Vr} (h : Line w c g off cc ys) : ys.Pairwise (fun a b => a.ba ≤ b.ba) := h.pl.imp (fun {a b} hab => by unfold later at hab; omega)
set_option maxRecDepth 100000 in
set_option maxHeartbeats 1000000 in
theorem visible_any (w : World) (c g off cc : Nat) (ys : List Vr) (at_ : Int) (h : Line w c g off cc ys) :
    Calls Try.prog 33 #[ptr c, .int .i64 at_] w fun e w' => e = .returned (.int .i64 (visN ys at_)) ∧ Below w.heap.size w w' := by
  obtain ⟨A, C, rfl, hA, hC⟩ := prefix_of ys at_ h.rise
  have hmf : ∀ (fn : Fn) (first cap : Array Value) (w : World), (Instr.makeFunc fn first cap).run Try.prog w = .ok (.func fn first cap) w := fun _ _ _ _ => rfl
  have hc0 := h.chc
  have hcl := blk_lt h.ch
  obtain ⟨W, hW⟩ : ∃ W, W = (w.alloc (.cells #[ptr c] 74)).alloc (.cells #[.int .i64 at_] 3) := ⟨_, rfl⟩
  have HB : Hid (Below w.heap.size w W) := by
    show Below _ _ _
    rw [hW]
    exact ((Below.refl _ _).alloc (Nat.le_refl _) _).alloc (by simp) _
  have k1 : W.cell? ⟨w.heap.size, 0, none⟩ = some (ptr c) := by
    rw [World.cell?, hW, heap_alloc_old _ _ (by simp), heap_alloc_new _ _ rfl]; rfl
  have k2 : W.cell? ⟨w.heap.size + 1, 0, none⟩ = some (.int .i64 at_) := by
    rw [World.cell?, hW, heap_alloc_new _ _ (by simp)]; rfl
  have HL : Hid (Line W c g off cc (A ++ C)) := h.kept HB.out
  have hcW := HL.out.chc
  have HS : Hid (Calls Try.prog 53 #[.int .i64 ((A ++ C).length : Int), .func (.func 54) #[] #[ptr w.heap.size, ptr (w.heap.size + 1)]] W fun e w' => e = .returned (.int .i64 (A.length : Int)) ∧ Below W.heap.size W w') := by
    have hs := Any.sort_Search laysSearch 54 #[ptr w.heap.size, ptr (w.heap.size + 1)] (A ++ C).length (fun i => decide (at_ < (A ++ C)[i]!.ba)) W (enters_of Try.func54 (by kernel_rfl) rfl) (by have := HL.out.sz; omega)
      (fun m os i hi => by
        have hg : Below W.heap.size W (grow (W.drewN m) os) := below_grown_sl _ W m os (Nat.le_refl _)
        refine (vis1_any _ w.heap.size (w.heap.size + 1) c g off cc (A ++ C) at_ i (HL.out.kept hg) hi ((hg.cell (p := ⟨w.heap.size, 0, none⟩) (by rw [hW]; simp; omega)).trans k1) ((hg.cell (p := ⟨w.heap.size + 1, 0, none⟩) (by rw [hW]; simp)).trans k2)).mono ?_
        rintro e w' ⟨rfl, q, rfl⟩
        exact ⟨rfl, q, #[], by rw [grow_empty]⟩)
      (fun a b hab hb ha => by
        have ha' := of_decide_eq_true ha
        refine decide_eq_true ?_
        by_cases e : a = b
        · rw [← e]; exact ha'
        · have hp := List.pairwise_iff_getElem.1 HL.out.rise a b (by omega) hb (by omega)
          rw [getElem!_pos _ a (by omega)] at ha'
          rw [getElem!_pos _ b hb]
          omega)
    have hcn : (List.range (A ++ C).length).countP (fun i => !(fun i : Nat => decide (at_ < (A ++ C)[i]!.ba)) i) = A.length := by
      refine count_split (f := fun x => !decide (at_ < x.ba)) (fun x hx => ?_) (fun x hx => ?_)
      · have := hA x hx; simp; omega
      · have := hC x hx; simp; omega
    rw [hcn] at hs
    refine Calls.mono hs ?_
    rintro e w' ⟨rfl, q, os, rfl⟩
    exact ⟨rfl, below_grown_sl _ W q os (Nat.le_refl _)⟩
  have HV : Hid (aheadN (A ++ C) A.length = visN (A ++ C) at_) := visN_split hA hC
  have HNA : Hid (∀ W', Below W.heap.size W W' → Calls Try.prog 55 #[ptr c, .int .i64 (A.length : Int)] W' fun e w' => e = .returned (.int .i64 (visN (A ++ C) at_)) ∧ w' = W') := fun W' hW' => by
    have := numberAhead_any W' c g off cc (A ++ C) A.length (HL.out.kept hW') (by simp)
    rw [HV.out] at this
    exact this
  have HK1 : Hid (∀ W', Below W.heap.size W W' → W'.cell? ⟨w.heap.size, 0, none⟩ = some (ptr c)) := fun W' hW' => (hW'.cell (p := ⟨w.heap.size, 0, none⟩) (World.block_lt_of_cell? _ _ k1)).trans k1
  clear h hA hC
  generalize (A ++ C).length = m at *
  generalize visN (A ++ C) at_ = res at *
  go_enter Try.func33, Try.ntmps33
  go_wp2_with fail
  rw [← hW]
  refine HS.out.mono ?_
  rintro e w2 ⟨rfl, hb2⟩
  have k3 := HK1.out w2 hb2
  have HN2 := (fun {p : Prop} (h : p) => (show Hid p from h)) (HNA.out w2 hb2)
  have HB2 : Hid (Below w.heap.size w w2) := HB.out.trans (hb2.mono HB.out.size)
  clear hb2 HS HL HB hW k1 k2 hc0 hcW HNA HK1 HV
  go_wp2_with fail
  refine HN2.out.mono ?_
  rintro e w3 ⟨rfl, hw3⟩
  have hw3' := hw3.symm
  subst hw3'
  clear hw3 HN2
  go_wp2
  go_ret
  exact ⟨rfl, HB2.out⟩
set_option maxRecDepth 100000 in
set_option maxHeartbeats 1000000 in
theorem visibleS_any (w : World) (S V D M L P : Nat) (hf : Value) (cap last : Int) (vs : List Vr) (es : List En) (R : K → Nat × Nat × Nat) (k1 k2 at_ : Int) (h : SA w S V D M L P hf cap last vs es R) (hk : KIn (k1, k2)) :
    Calls Try.prog 17 #[ptr S, .agg #[.int .i64 k1, .int .i64 k2], .int .i64 at_] w fun e w' => e = .returned (.int .i64 (visN (ofK (k1, k2) vs) at_)) ∧ Below w.heap.size w w' := by
  obtain ⟨W, hW⟩ : ∃ W, W = w.alloc (.cells #[.int .i64 k1, .int .i64 k2] 28) := ⟨_, rfl⟩
  have HB : Hid (Below w.heap.size w W) := by
    show Below _ _ _
    rw [hW]
    exact (Below.refl _ _).alloc (Nat.le_refl _) _
  have hx : W.heap[w.heap.size]? = some (.cells #[.int .i64 k1, .int .i64 k2] 28 (0, 0)) := by rw [hW]; exact heap_alloc_new _ _ rfl
  have HS : Hid (SA W S V D M L P hf cap last vs es R) := h.kept HB.out
  have HKn : Hid (∀ U, Below W.heap.size W U → U.cell? ⟨S, 4, none⟩ = some (ptr D) ∧ U.cell? ⟨w.heap.size, 0, none⟩ = some (.int .i64 k1) ∧ U.cell? ⟨w.heap.size, 1, none⟩ = some (.int .i64 k2)) := fun U hU => by
    have q := (hU.block _ (blk_lt hx)).trans hx
    refine ⟨(HS.out.kept hU).cells.2.2.2.2, ?_, ?_⟩ <;> simp [World.cell?, q]
  have HG : Hid (Calls Try.prog 28 #[ptr D, .agg #[.int .i64 k1, .int .i64 k2]] W.drew fun e w' => e = .returned (.tuple #[vv (fd es (k1, k2)), .bool (fd es (k1, k2)).isSome]) ∧ Below W.heap.size W w') := by
    have hd : Below W.heap.size W W.drew := ⟨rfl, rfl, rfl, Nat.le_refl _, fun _ _ => rfl⟩
    exact (get_any W.drew D M L P hf es (k1, k2) (HS.out.da.kept hd) hk).mono fun e w' ⟨h1, h2⟩ => ⟨h1, hd.trans h2⟩
  obtain ⟨c4, b0, b1⟩ := HKn.out W (Below.refl _ _)
  clear h hx
  go_enter Try.func17, Try.ntmps17
  go_wp2_with fail
  rw [← hW]
  clear hW
  go_region_held3 (fun w' => w'.cell? ⟨S, 4, none⟩ = some (ptr D) ∧ w'.cell? ⟨w.heap.size, 0, none⟩ = some (.int .i64 k1) ∧ w'.cell? ⟨w.heap.size, 1, none⟩ = some (.int .i64 k2)) (first | exact HKn.out _ HB3.out | go_keep) (first | (go_at_call 28; refine HG.out.mono ?_; rintro e w3 ⟨rfl, hb3⟩; have HB3 : Hid (Below W.heap.size W w3) := hb3; clear hb3))
  clear c4 b0 b1 HG HKn
  have HBw : Hid (Below w.heap.size w w3) := HB.out.trans (HB3.out.mono HB.out.size)
  cases hfd : fd es (k1, k2) with
  | none =>
    have hof := HS.out.none_of hfd
    have HE : Hid (visN (ofK (k1, k2) vs) at_ = 0) := by show _ = _; rw [hof]; rfl
    simp only [vv, Option.isSome]
    clear hfd hof
    go_wp2
    go_ret
    exact ⟨by rw [HE.out]; rfl, HBw.out⟩
  | some e0 =>
    obtain ⟨he0, hk0⟩ := fd_some hfd
    have hl := (HS.out.kept HB3.out).line he0
    rw [hk0] at hl
    have HNw := visible_any w3 e0.v (R (k1, k2)).1 (R (k1, k2)).2.1 (R (k1, k2)).2.2 (ofK (k1, k2) vs) at_ hl
    obtain ⟨res, hres⟩ : ∃ res, res = visN (ofK (k1, k2) vs) at_ := ⟨_, rfl⟩
    have HE : Hid (visN (ofK (k1, k2) vs) at_ = res) := hres.symm
    rw [← hres] at HNw
    clear hres
    simp only [vv, Option.isSome]
    clear hfd he0 hk0 hl
    go_wp2_with fail
    refine HNw.mono ?_
    clear HNw
    rintro e w4 ⟨rfl, hb4⟩
    have HB4 : Hid (Below w.heap.size w w4) := HBw.out.trans (hb4.mono HBw.out.size)
    clear HB3 HS hb4
    go_wp2
    go_ret
    exact ⟨by rw [HE.out]; rfl, HB4.out⟩
theorem visible_st (n0 : Nat) (F : Nat → Prop) (w : World) (S P : Nat) (cap last : Int) (vs : List Vr) (h : ST n0 F w S P cap last vs) (k1 k2 at_ : Int) (hk : KIn (k1, k2)) :
    Calls Try.prog 17 #[ptr S, .agg #[.int .i64 k1, .int .i64 k2], .int .i64 at_] w fun e w' => e = .returned (.int .i64 (visN (ofK (k1, k2) vs) at_)) ∧ Below w.heap.size w w' := by
  obtain ⟨V, D, M, L, es, R, h1, h2⟩ := h
  exact visibleS_any w S V D M L P _ cap last vs es R k1 k2 at_ h1 hk
end Go.Proofs.Ytfkijdlggdgfhaa
/-
  StoreFills: WHAT IT STANDS ON.
-/
namespace Go.Proofs.Ytfkijdlggdgfhaa
open Go.RowKit Go.Sort

theorem run_neCell (x1 : Bool) (x2 : Int) (y1 : Bool) (y2 : Int) (w : World) : Sem.run Try.prog (binOp .neq 30 (.agg #[.bool x1, .int .i64 x2]) (.agg #[.bool y1, .int .i64 y2])) w = .ok (.bool (!decide ((x1, x2) = (y1, y2)))) w := by
  have u3 := Try.underlying4
  have a3 := Try.isAgg4
  have z3 := Try.sizeOf4
  have u2 := Try.underlying2
  have a2 := Try.isAgg2
  have z2 := Try.sizeOf2
  have hS : Try.prog.underlying 30 = some (.struct (Try.prog.fieldsOf 30)) := by kernel_rfl
  have hp : Try.prog.stoodInHeld 30 = false := by kernel_rfl
  rw [run_neq_struct, show (10000 : Nat) = 9999 + 1 from rfl, run_equalIn_agg w 9999 30 _ _ hS hp]
  simp only [Program.fieldsOf, Try.underlying30]
  go_simp
  cases x1 <;> cases y1 <;> by_cases h2 : x2 = y2 <;> simp [h2]
section
variable {n0 : Nat} {F : Nat → Prop} {w : World} {B S P : Nat} {av : Value} {vs ws : List Vr} {lb last batch : Int}
/-- its list is let go -/
theorem WS.clearAll (h : WS n0 F w B S P av vs ws lb last batch) : WS n0 F (w.setCell ⟨B, 1, none⟩ (.slice none 0 0)) B S P (.slice none 0 0) vs [] lb last batch := by
  have hs : ∀ k, k ≠ B → (w.setCell ⟨B, 1, none⟩ (.slice none 0 0)).heap[k]? = w.heap[k]? := fun k hk => heap_setCell_other _ _ _ _ hk
  refine ⟨blk_set _ h.bx, (h.st.off (fun k _ hn => hs k (fun e => hn (.inr (.inl e))))).frame (fun k hk => .inl ?_), World.ownsRow_nil _ _ _ _, h.Bn, h.FB, fun k hk => (by cases hk), fun k hF => by simpa using h.Fl k hF, by simpa using h.n0l⟩
  rcases hk with h1 | h1 | h1
  · exact .inl h1
  · exact .inr (.inl h1)
  · cases h1
theorem WS.look (h : WS n0 F w B S P av vs ws lb last batch) (n : Int) (hn : In64 n) {v : Vr} (hf : fv vs n = some v) :
    Calls Try.prog 21 #[ptr S, .int .i64 n] w fun e w' => e = .returned (.tuple #[.agg #[.int .i64 v.ba, .int .i64 v.ix, .bool v.fl, .bool v.ci, .int .i64 v.cv], .int .i64 0]) ∧ Below w.heap.size w w' := by
  have := look_st _ _ w S P 65536 last vs h.st n hn
  rw [hf] at this
  exact this
theorem WS.fillX (h : WS n0 F w B S P av vs ws lb last batch) (n : Int) (ci : Bool) (cv : Int) (hn : In64 n) (hcv : In64 cv) (E : Int) (hE : filE (fv vs n) = E) (h0 : E ≠ 0) :
    Calls Try.prog 22 #[ptr S, .int .i64 n, .agg #[.bool ci, .int .i64 cv]] w fun e w' => e = .returned (.int .i64 E) ∧ WS n0 F w' B S P av vs ws lb last batch ∧ Kp n0 F w w' := by
  have hL : filL vs n ci cv = vs := by unfold filL; rw [hE, if_neg h0]
  refine (fill_st _ _ w S P 65536 last vs h.st n ci cv hn hcv).mono ?_
  rintro e w' ⟨rfl, hkp, hst⟩
  rw [hL] at hst
  exact ⟨by rw [hE], h.kp hkp hst, hkp.mono (fun k _ hF => .inl hF)⟩
end
/-- the first version, filled -/
abbrev f1 (b : Nat) (ci : Bool) (cv : Int) : Vr := fillV (v1 b) ci cv
theorem fv_f1 (b : Nat) (ci : Bool) (cv : Int) (ws : List Vr) : fv ([f1 b ci cv] ++ ws) 1 = some (f1 b ci cv) := by
  unfold fv
  rw [List.cons_append, List.find?_cons_of_pos]
  simp [fillV]
/-- the loop's state -/
structure FL (n0 : Nat) (A : Nat) (w0 wr : World) (B S P : Nat) (b : Nat) (ci : Bool) (cv : Int) (j : Nat) (av : Value) (ws : List Vr) (last batch : Int) : Prop where
  wsx : WS n0 (fun k => k = A) wr B S P av ([f1 b ci cv] ++ ws) ws last last batch
  ba : ∀ v ∈ [f1 b ci cv] ++ ws, v.ba ≤ batch
  la : 1 ≤ last ∧ last ≤ 1 + j
  bt : 2 ≤ batch ∧ batch ≤ 2 + 100 * j
  bel : Below n0 w0 wr
  av_ : ∃ c0 c1 c2 c3 c4, RV wr A c0 c1 c2 c3 c4
theorem FL.write {n0 A : Nat} {w0 wr : World} {B S P b : Nat} {ci : Bool} {cv : Int} {j : Nat} {av : Value} {ws : List Vr} {last batch : Int} (h : FL n0 A w0 wr B S P b ci cv j av ws last batch) {x : Wq} {e : Ending} {w' : World} (hp : WrPost n0 (fun k => k = A) wr B S P [f1 b ci cv] ws last batch x e w') : e = .returned (.bool true) ∧ ∃ av' ws' last' batch', FL n0 A w0 w' B S P b ci cv (j + 1) av' ws' last' batch' := by
  obtain ⟨he, hk, av', hp⟩ := hp
  have hbel := h.bel.trans (hk.below h.wsx.n0l)
  have hav : ∃ c0 c1 c2 c3 c4, RV w' A c0 c1 c2 c3 c4 := by
    obtain ⟨c0, c1, c2, c3, c4, hr⟩ := h.av_
    exact ⟨c0, c1, c2, c3, c4, hk.heap rfl hr⟩
  have hsub : ∀ v ∈ [f1 b ci cv] ++ dropL x.dr ws, v.ba ≤ batch := fun v hv => h.ba v (by
    rcases List.mem_append.1 hv with h1 | h1
    · exact List.mem_append.2 (.inl h1)
    · exact List.mem_append.2 (.inr ((dropL_sub x.dr ws).subset h1)))
  have h1 := h.la
  have h2 := h.bt
  refine ⟨he, ?_⟩
  rcases hp with hp | ⟨v, ba', hp⟩
  · exact ⟨av', _, last, batch, hp, hsub, by omega, by omega, hbel, hav⟩
  · have h3 := hp.lt
    refine ⟨av', _, last + 1, ba', hp.ws, fun u hu => ?_, by omega, by omega, hbel, hav⟩
    rcases List.mem_append.1 hu with h4 | h4
    · have := hsub u (List.mem_append.2 (.inl h4)); omega
    · rcases List.mem_append.1 h4 with h5 | h5
      · have := hsub u (List.mem_append.2 (.inr h5)); omega
      · simp at h5; rw [h5, hp.ba]; exact Int.le_refl _
theorem fr_e5 (W : World) (A : Nat) (c0 c1 c2 c3 c4 : Value) : Fr (fun k => k = A) W (e5 W A c0 c1 c2 c3 c4) := by
  have s1 : Fr (fun k => k = A) W (W.setCell ⟨A, 0, none⟩ c0) := (Fr.refl _ W).set ⟨A, 0, none⟩ c0 (.inr rfl)
  have s2 := s1.set ⟨A, 1, none⟩ c1 (.inr rfl)
  have s3 := s2.set ⟨A, 2, none⟩ c2 (.inr rfl)
  have s4 := s3.set ⟨A, 3, none⟩ c3 (.inr rfl)
  exact s4.set ⟨A, 4, none⟩ c4 (.inr rfl)
/-- what the loop's round leaves -/
theorem WS.five {n0 A : Nat} {w : World} {B S P : Nat} {av : Value} {vs ws : List Vr} {lb last batch : Int} (h : WS n0 (fun k => k = A) w B S P av vs ws lb last batch) (c0 c1 c2 c3 c4 : Value) : WS n0 (fun k => k = A) (e5 w A c0 c1 c2 c3 c4) B S P av vs ws lb last batch :=
  h.off (fr_e5 w A c0 c1 c2 c3 c4).size (fr_e5 w A c0 c1 c2 c3 c4).block
theorem WS.removeN {n0 : Nat} {F : Nat → Prop} {w : World} {B S P : Nat} {av : Value} {vs ws : List Vr} {lb last batch : Int} (h : WS n0 F w B S P av vs ws lb last batch) (n : Int) (hn : In64 n) {v : Vr} (hf : fv vs n = some v) :
    Calls Try.prog 20 #[ptr S, .int .i64 n] w fun e w' => e = .returned (.int .i64 0) ∧ (∃ vs', fv vs' n = none ∧ WS n0 F w' B S P av vs' ws lb last batch) ∧ Kp n0 F w w' := by
  refine (remove_st _ _ w S P 65536 last vs h.st n hn).mono ?_
  rintro e w' ⟨hkp, ⟨h0, _⟩ | ⟨A, u, C, h1, h2, rfl, hst⟩⟩
  · rw [hf] at h0; cases h0
  · refine ⟨rfl, ⟨A ++ C, ?_, h.kp hkp hst⟩, hkp.mono (fun k _ hF => .inl hF)⟩
    have hnd := h.st.nd
    rw [h1] at hnd
    have hs := nodup_split hnd
    refine List.find?_eq_none.2 fun x hx => ?_
    simp only [decide_eq_true_eq]
    rw [← h2]
    rcases List.mem_append.1 hx with m | m
    · exact hs.1 x m
    · exact hs.2 x m
end Go.Proofs.Ytfkijdlggdgfhaa
/-
  StoreFills.
-/
namespace Go.Proofs.Ytfkijdlggdgfhaa
open Go.RowKit Go.Sort

/-- writes as they lie -/
def WrsAt (w : World) (ao : Option Addr) (l : List Wq) : Prop := l = [] ∨ ∃ b off, ao = some ⟨b, off, none⟩ ∧ b < w.heap.size ∧ ∀ j (h : j < l.length) i u, (wqc l[j])[i]? = some u → w.cell? ⟨b, off + j * 8 + i, none⟩ = some u
set_option maxRecDepth 100000 in
set_option maxHeartbeats 8000000 in
theorem law_sfills (w : World) (pp : Int) (ao : Option Addr) (m cp : Nat) (l : List Wq) (ci : Bool) (cv : Int) (hm : m = l.length) (hm2 : m ≤ 1048576) (hw : WrsAt w ao l) (hin : ∀ x ∈ l, WqIn x) (hcv : In64 cv) :
    Calls Try.prog 6 #[.int .i64 pp, .slice ao m cp, .agg #[.bool ci, .int .i64 cv]] w fun e w' => e = .returned (.bool true) ∧ Below w.heap.size w w' := by
  have HL : Hid (WrsAt w ao l ∧ m = l.length ∧ (∀ x ∈ l, WqIn x) ∧ In64 cv) := ⟨hw, hm, hin, hcv⟩
  clear hw hm hin hcv
  obtain ⟨C, hC⟩ : ∃ C, C = w.heap.size := ⟨_, rfl⟩
  obtain ⟨W0, hW0⟩ : ∃ W0, W0 = w.alloc (.cells #[.bool ci, .int .i64 cv] 30) := ⟨_, rfl⟩
  have HB0 : Hid (Below w.heap.size w W0 ∧ W0.heap[C]? = some (.cells #[.bool ci, .int .i64 cv] 30 (0, 0))) := by
    refine ⟨?_, ?_⟩
    · rw [hW0]; exact (Below.refl _ _).alloc (Nat.le_refl _) _
    · rw [hW0, hC]; exact heap_alloc_new _ _ rfl
  have HCc : Hid (∀ W, Below W0.heap.size W0 W → W.cell? ⟨C, 0, none⟩ = some (.bool ci) ∧ W.cell? ⟨C, 1, none⟩ = some (.int .i64 cv)) := fun W hW => by
    have h1 := (hW.block C (blk_lt HB0.out.2)).trans HB0.out.2
    exact ⟨by rw [World.cell?, h1]; rfl, by rw [World.cell?, h1]; rfl⟩
  have HBg := begun_any W0 pp
  go_enter Try.func6, Try.ntmps6
  go_upto_region 1 with fail
  rw [← hW0, ← hC]
  clear hW0 hC
  go_wp2_with fail
  refine HBg.mono ?_
  clear HBg
  rintro e w1 ⟨B, S, P, b, g, rfl, _, _, hb1, hws1⟩
  have HW1 := hidC hws1
  have HB1 := hidC hb1
  clear hws1 hb1
  obtain ⟨s0, _⟩ := HW1.out.cells
  have HLk := HW1.out.look 1 (by unfold In64; omega) (v := v1 b) rfl
  go_wp2_with fail
  refine HLk.mono ?_
  clear HLk
  rintro e w2 ⟨rfl, hb2⟩
  have HW2 := hidC (HW1.out.kept hb2)
  have HB2 : Hid (Below W0.heap.size W0 w2) := HB1.out.trans (hb2.mono HB1.out.size)
  clear hb2 s0 HW1 HB1
  go_upto_region 5 with fail
  obtain ⟨A, hA⟩ : ∃ A, A = w2.heap.size := ⟨_, rfl⟩
  obtain ⟨W3, hW3⟩ : ∃ W3, W3 = w2.alloc (.cells #[.int .i64 1, .int .i64 0, .bool false, .bool false, .int .i64 0] 61) := ⟨_, rfl⟩
  have HB3 : Hid (Below w2.heap.size w2 W3 ∧ RV W3 A (.int .i64 1) (.int .i64 0) (.bool false) (.bool false) (.int .i64 0)) := by
    refine ⟨?_, ?_⟩
    · rw [hW3]; exact (Below.refl _ _).alloc (Nat.le_refl _) _
    · rw [hW3, hA]; exact heap_alloc_new _ _ rfl
  have HW3 : Hid (WS W0.heap.size (fun k => False ∨ k = A) W3 B S P (.slice (some ⟨g, 0, none⟩) 1 1) [v1 b] [v1 b] 1 1 2) := HW2.out.box HB3.out.1 (by omega) (blk_lt HB3.out.2)
  have HBl3 : Hid (Below W0.heap.size W0 W3) := HB2.out.trans (HB3.out.1.mono HB2.out.size)
  have HAn : Hid (W0.heap.size ≤ A) := by show _ ≤ _; rw [hA]; exact HB2.out.size
  rw [← hW3, ← hA]
  clear hW3 hA HW2 HB2
  have HCl : Hid (∀ W vs', WS W0.heap.size (fun k => False ∨ k = A) W B S P (.slice (some ⟨g, 0, none⟩) 1 1) vs' [v1 b] 1 1 2 → Kp W0.heap.size (fun k => False ∨ k = A) W3 W → (W.cell? ⟨A, 2, none⟩ = some (.bool false) ∧ W.cell? ⟨A, 3, none⟩ = some (.bool false) ∧ W.cell? ⟨A, 4, none⟩ = some (.int .i64 0)) ∧ W.cell? ⟨B, 0, none⟩ = some (ptr S) ∧ W.cell? ⟨C, 0, none⟩ = some (.bool ci) ∧ W.cell? ⟨C, 1, none⟩ = some (.int .i64 cv)) := fun W vs' h1 h2 => by
    have h3 : RV W A _ _ _ _ _ := h2.heap (.inr rfl) HB3.out.2
    have h4 := HCc.out W (HBl3.out.trans (h2.below HBl3.out.size))
    exact ⟨⟨h3.cells.2.2.1, h3.cells.2.2.2.1, h3.cells.2.2.2.2⟩, h1.cells.1, h4.1, h4.2⟩
  have HF1 : Hid (Calls Try.prog 22 #[ptr S, .int .i64 1, .agg #[.bool ci, .int .i64 cv]] W3.drew fun e w' => e = .returned (.int .i64 0) ∧ WS W0.heap.size (fun k => False ∨ k = A) w' B S P (.slice (some ⟨g, 0, none⟩) 1 1) [f1 b ci cv] [v1 b] 1 1 2 ∧ Kp W0.heap.size (fun k => False ∨ k = A) W3 w') := by
    have h0 := HW3.out.kept (drew_below W3 1)
    have hc := h0.fill 1 ci cv (by unfold In64; omega) HL.out.2.2.2 (v := v1 b) rfl rfl
    exact hc.mono fun e w' ⟨a1, a2, a3⟩ => ⟨a1, a2, (Kp.ofBelow (drew_below W3 1)).trans a3⟩
  have HF2 : Hid (∀ W, WS W0.heap.size (fun k => False ∨ k = A) W B S P (.slice (some ⟨g, 0, none⟩) 1 1) [f1 b ci cv] [v1 b] 1 1 2 → Kp W0.heap.size (fun k => False ∨ k = A) W3 W → Calls Try.prog 22 #[ptr S, .int .i64 1, .agg #[.bool true, .int .i64 7]] W fun e w' => e = .returned (.int .i64 95) ∧ WS W0.heap.size (fun k => False ∨ k = A) w' B S P (.slice (some ⟨g, 0, none⟩) 1 1) [f1 b ci cv] [v1 b] 1 1 2 ∧ Kp W0.heap.size (fun k => False ∨ k = A) W3 w') := fun W h1 h2 => by
    have hc := h1.fillX 1 true 7 (by unfold In64; omega) (by unfold In64; omega) 95 (by rw [show fv [f1 b ci cv] 1 = some (f1 b ci cv) from fv_f1 b ci cv []]; rfl) (by decide)
    exact hc.mono fun e w' ⟨a1, a2, a3⟩ => ⟨a1, a2, h2.trans a3⟩
  obtain ⟨⟨z2, z3, z4⟩, s0, y0, y1⟩ := HCl.out W3 _ HW3.out (Kp.refl _ _ _)
  have hne : ∀ w : World, Sem.run Try.prog (binOp .neq 30 (.agg #[.bool false, .int .i64 0]) (.agg #[.bool false, .int .i64 0])) w = .ok (.bool false) w := fun w => by rw [run_neCell]; rfl
  go_region_held3 (fun w' => (w'.cell? ⟨A, 2, none⟩ = some (.bool false) ∧ w'.cell? ⟨A, 3, none⟩ = some (.bool false) ∧ w'.cell? ⟨A, 4, none⟩ = some (.int .i64 0)) ∧ w'.cell? ⟨B, 0, none⟩ = some (ptr S) ∧ w'.cell? ⟨C, 0, none⟩ = some (.bool ci) ∧ w'.cell? ⟨C, 1, none⟩ = some (.int .i64 cv)) (first | with_reducible exact HQ5.out | with_reducible exact HQ4.out | go_keep) (first
    | (go_at_call 22; with_reducible refine HF1.out.mono ?_; rintro e w4 ⟨rfl, hw4, hk4⟩; have HQ4 := hidC (HCl.out _ _ hw4 hk4); have HW4 := hidC hw4; have HK4 := hidC hk4; clear hw4 hk4)
    | (go_at_call 22; with_reducible refine (HF2.out _ HW4.out HK4.out).mono ?_; rintro e w5 ⟨rfl, hw5, hk5⟩; have HQ5 := hidC (HCl.out _ _ hw5 hk5); have HW5 := hidC hw5; have HK5 := hidC hk5; clear hw5 hk5))
  clear z2 z3 z4 s0 y0 y1 HF1 HF2 HCl HQ4 HQ5 HW4 HK4
  obtain ⟨_, s1, _⟩ := HW5.out.cells
  have f1' := HW5.out.frozen 1
  have HFL : Hid (FL W0.heap.size A W0 (w5.setCell ⟨B, 1, none⟩ (.slice none 0 0)) B S P b ci cv 0 (.slice none 0 0) [] 1 2) := by
    have hk5 : Below W0.heap.size W0 w5 := HBl3.out.trans (HK5.out.below HBl3.out.size)
    have hAB : A ≠ B := fun e => HW5.out.FB (.inr e.symm)
    refine ⟨HW5.out.clearAll.unbox (fun k hk => .inr hk), fun v hv => ?_, by omega, by omega, hk5.trans ⟨rfl, rfl, rfl, by simp, fun k hk => heap_setCell_other w5 ⟨B, 1, none⟩ k _ (by have := HW5.out.Bn; show k ≠ B; omega)⟩, .int .i64 1, .int .i64 0, .bool false, .bool false, .int .i64 0, ?_⟩
    · simp at hv; subst hv; show (1 : Int) ≤ 2; omega
    · exact (heap_setCell_other w5 ⟨B, 1, none⟩ A _ hAB).trans (HK5.out.heap (.inr rfl) HB3.out.2)
  clear HW5 HK5 HB3 HW3 HBl3
  go_wp2_with fail
  go_loopw [10, 11, 12] (fun _ x _ wr => ∃ (j : Nat) (av : Value) (ws : List Vr) (last batch : Int), j ≤ m ∧ x = .int .i64 (j : Int) ∧ Hid (FL W0.heap.size A W0 wr B S P b ci cv j av ws last batch)) (fun _ x _ _ => m - (intOf x).toNat)
  case atStart => exact ⟨0, _, _, _, _, Nat.zero_le _, rfl, HFL⟩
  case round =>
    clear HFL s1 f1'
    obtain ⟨j, av, ws, last, batch, hj, rfl, HFr⟩ := hrel
    by_cases hlt : j < m
    · obtain ⟨lb, lo, hao, hbl, x, HXi, x0, x1, x2, x3, x4, x5, x6, x7⟩ : ∃ lb lo, ao = some ⟨lb, lo, none⟩ ∧ lb < w.heap.size ∧ ∃ x : Wq, Hid (WqIn x) ∧ wr.cell? ⟨lb, lo + j * 8, none⟩ = some (.int .i64 x.k.1) ∧ wr.cell? ⟨lb, lo + j * 8 + 1, none⟩ = some (.int .i64 x.k.2) ∧ wr.cell? ⟨lb, lo + j * 8 + 2, none⟩ = some (.int .i64 x.la) ∧ wr.cell? ⟨lb, lo + j * 8 + 3, none⟩ = some (.int .i64 x.ix) ∧ wr.cell? ⟨lb, lo + j * 8 + 4, none⟩ = some (.bool x.fl) ∧ wr.cell? ⟨lb, lo + j * 8 + 5, none⟩ = some (.bool x.ci) ∧ wr.cell? ⟨lb, lo + j * 8 + 6, none⟩ = some (.int .i64 x.cv) ∧ wr.cell? ⟨lb, lo + j * 8 + 7, none⟩ = some (.int .i64 x.dr) := by
        obtain ⟨h1, h2, h3, _⟩ := HL.out
        have hbel : Below w.heap.size w wr := HB0.out.1.trans (HFr.out.bel.mono HB0.out.1.size)
        rcases h1 with h1 | ⟨lb, lo, h1, hlb, h4⟩
        · rw [h1] at h2; simp at h2; omega
        · have hjl : j < l.length := by omega
          have hc : ∀ i u, (wqc l[j])[i]? = some u → wr.cell? ⟨lb, lo + j * 8 + i, none⟩ = some u := fun i u hu => (hbel.cell (p := ⟨lb, lo + j * 8 + i, none⟩) hlb).trans (h4 j hjl i u hu)
          exact ⟨lb, lo, h1, hlb, l[j], h3 _ (List.getElem_mem hjl), hc 0 _ rfl, hc 1 _ rfl, hc 2 _ rfl, hc 3 _ rfl, hc 4 _ rfl, hc 5 _ rfl, hc 6 _ rfl, hc 7 _ rfl⟩
      subst hao
      have HWr := hidC (write_any W0.heap.size (fun k => k = A) wr B S P av [f1 b ci cv] ws last batch x HFr.out.wsx HFr.out.ba HXi.out (by have := HFr.out.la; omega) (by have := HFr.out.bt; omega) (by simp))
      obtain ⟨⟨xk1, xk2⟩, xla, xix, xfl, xci, xcv, xdr⟩ := x
      simp only [wqc] at x0 x1 x2 x3 x4 x5 x6 x7 HWr
      go_wp2_with fail
      refine HWr.out.mono ?_
      clear HWr x0 x1 x2 x3 x4 x5 x6 x7 HXi
      intro e w6 hwp
      obtain ⟨rfl, av', ws', last', batch', hf6⟩ := HFr.out.write hwp
      have HF6 := hidC hf6
      clear hf6 hwp HFr
      obtain ⟨s0, _⟩ := HF6.out.wsx.cells
      obtain ⟨d3, hd3⟩ : ∃ d3, d3 = (f1 b ci cv).ci := ⟨_, rfl⟩
      obtain ⟨d4, hd4⟩ : ∃ d4, d4 = (f1 b ci cv).cv := ⟨_, rfl⟩
      have HD34 : Hid (d3 = (f1 b ci cv).ci ∧ d4 = (f1 b ci cv).cv) := ⟨hd3, hd4⟩
      have HLk : Calls Try.prog 21 #[ptr S, .int .i64 1] w6 fun e w' => e = .returned (.tuple #[.agg #[.int .i64 1, .int .i64 0, .bool true, .bool d3, .int .i64 d4], .int .i64 0]) ∧ Below w6.heap.size w6 w' := by
        have h1 := HF6.out.wsx.look 1 (by unfold In64; omega) (v := f1 b ci cv) (fv_f1 b ci cv ws')
        rw [← hd3, ← hd4] at h1
        exact h1
      clear hd3 hd4
      go_wp2_with fail
      refine HLk.mono ?_
      clear HLk
      rintro e w7 ⟨rfl, hb7⟩
      have HW7 := hidC (HF6.out.wsx.kept hb7)
      have HB7 : Hid (Below W0.heap.size W0 w7) := HF6.out.bel.trans (hb7.mono HF6.out.bel.size)
      obtain ⟨q0, q1, q2, q3, q4, hrv⟩ := HF6.out.av_
      have HRv : Hid (RV w7 A q0 q1 q2 q3 q4) := (hb7.block A (blk_lt hrv)).trans hrv
      have HFb : Hid ((∀ v ∈ [f1 b ci cv] ++ ws', v.ba ≤ batch') ∧ (1 ≤ last' ∧ last' ≤ 1 + ((j + 1 : Nat) : Int)) ∧ (2 ≤ batch' ∧ batch' ≤ 2 + 100 * ((j + 1 : Nat) : Int))) := ⟨HF6.out.ba, HF6.out.la, HF6.out.bt⟩
      clear hrv hb7 HF6 s0
      obtain ⟨z0, z1, z2, z3, z4⟩ := HRv.out.cells
      have g0 := HRv.out.frozen 0
      have g1 := HRv.out.frozen 1
      have g2 := HRv.out.frozen 2
      have g3 := HRv.out.frozen 3
      have g4 := HRv.out.frozen 4
      go_upto_region 14 with fail
      have HR8 : Hid (RV (e5 w7 A (.int .i64 1) (.int .i64 0) (.bool true) (.bool d3) (.int .i64 d4)) A (.int .i64 1) (.int .i64 0) (.bool true) (.bool d3) (.int .i64 d4)) := HRv.out.five _ _ _ _ _
      have HW8 : Hid (WS W0.heap.size (fun k => k = A) (e5 w7 A (.int .i64 1) (.int .i64 0) (.bool true) (.bool d3) (.int .i64 d4)) B S P av' ([f1 b ci cv] ++ ws') ws' last' last' batch') := HW7.out.five _ _ _ _ _
      have HB8 : Hid (Below W0.heap.size W0 (e5 w7 A (.int .i64 1) (.int .i64 0) (.bool true) (.bool d3) (.int .i64 d4))) := below_e5 HB7.out HAn.out _ _ _ _ _
      clear z0 z1 z2 z3 z4 g0 g1 g2 g3 g4 HRv HW7 HB7
      have hne2 : ∀ (x : Bool) (y : Int) (w : World), Sem.run Try.prog (binOp .neq 30 (.agg #[.bool x, .int .i64 y]) (.agg #[.bool x, .int .i64 y])) w = .ok (.bool false) w := fun x y w => by rw [run_neCell]; simp
      unfold e5 at HR8 HW8 HB8
      generalize (((((w7.setCell ⟨A, 0, none⟩ (.int .i64 1)).setCell ⟨A, 1, none⟩ (.int .i64 0)).setCell ⟨A, 2, none⟩ (.bool true)).setCell ⟨A, 3, none⟩ (.bool d3)).setCell ⟨A, 4, none⟩ (.int .i64 d4)) = W8 at *
      have HDD : Hid (d3 = ci ∧ d4 = if ci then cv else 0) := by
        obtain ⟨h1, h2⟩ := HD34.out
        rw [h1, h2]
        cases ci <;> exact ⟨rfl, rfl⟩
      obtain ⟨hdd3, hdd4⟩ := HDD.out
      rw [hdd3, hdd4] at HR8
      clear HD34 HDD hdd3 hdd4
      cases ci with
      | false =>
        have HRA : Hid (∀ W, Below W8.heap.size W8 W → W.cell? ⟨A, 0, none⟩ = some (.int .i64 1) ∧ W.cell? ⟨A, 1, none⟩ = some (.int .i64 0) ∧ W.cell? ⟨A, 2, none⟩ = some (.bool true) ∧ W.cell? ⟨A, 3, none⟩ = some (.bool false) ∧ W.cell? ⟨A, 4, none⟩ = some (.int .i64 0)) := fun W hW => by
          have h1 : RV W A _ _ _ _ _ := (hW.block A (blk_lt HR8.out)).trans HR8.out
          exact h1.cells
        have HBa8 : Hid (∀ o, Below W8.heap.size W8 (W8.alloc o)) := fun o => (Below.refl _ _).alloc (Nat.le_refl _) _
        have a0 : ∀ o, (W8.alloc o).cell? ⟨A, 0, none⟩ = some (.int .i64 1) := fun o => (HRA.out _ (HBa8.out o)).1
        have a1 : ∀ o, (W8.alloc o).cell? ⟨A, 1, none⟩ = some (.int .i64 0) := fun o => (HRA.out _ (HBa8.out o)).2.1
        have a2 : ∀ o, (W8.alloc o).cell? ⟨A, 2, none⟩ = some (.bool true) := fun o => (HRA.out _ (HBa8.out o)).2.2.1
        have a3 : ∀ o, (W8.alloc o).cell? ⟨A, 3, none⟩ = some (.bool false) := fun o => (HRA.out _ (HBa8.out o)).2.2.2.1
        have a4 : ∀ o, (W8.alloc o).cell? ⟨A, 4, none⟩ = some (.int .i64 0) := fun o => (HRA.out _ (HBa8.out o)).2.2.2.2
        have y0 : ∀ o, (W8.alloc o).cell? ⟨C, 0, none⟩ = some (.bool false) := fun o => (HCc.out _ (HB8.out.trans ((HBa8.out o).mono HB8.out.size))).1
        have y1 : ∀ o, (W8.alloc o).cell? ⟨C, 1, none⟩ = some (.int .i64 cv) := fun o => (HCc.out _ (HB8.out.trans ((HBa8.out o).mono HB8.out.size))).2
        go_wp2
        refine ⟨⟨j + 1, av', ws', last', batch', by omega, by rw [show ((j + 1 : Nat) : Int) = (j : Int) + 1 by omega], ?_⟩, by simp [intOf]; omega⟩
        exact ⟨HW8.out.kept (HBa8.out _), HFb.out.1, HFb.out.2.1, HFb.out.2.2, HB8.out.trans ((HBa8.out _).mono HB8.out.size), _, _, _, _, _, ((HBa8.out _).block A (blk_lt HR8.out)).trans HR8.out⟩
      | true =>
        have HRA : Hid (∀ W, Below W8.heap.size W8 W → W.cell? ⟨A, 0, none⟩ = some (.int .i64 1) ∧ W.cell? ⟨A, 1, none⟩ = some (.int .i64 0) ∧ W.cell? ⟨A, 2, none⟩ = some (.bool true) ∧ W.cell? ⟨A, 3, none⟩ = some (.bool true) ∧ W.cell? ⟨A, 4, none⟩ = some (.int .i64 cv)) := fun W hW => by
          have h1 : RV W A _ _ _ _ _ := (hW.block A (blk_lt HR8.out)).trans HR8.out
          exact h1.cells
        have HBa8 : Hid (∀ o, Below W8.heap.size W8 (W8.alloc o)) := fun o => (Below.refl _ _).alloc (Nat.le_refl _) _
        have a0 : ∀ o, (W8.alloc o).cell? ⟨A, 0, none⟩ = some (.int .i64 1) := fun o => (HRA.out _ (HBa8.out o)).1
        have a1 : ∀ o, (W8.alloc o).cell? ⟨A, 1, none⟩ = some (.int .i64 0) := fun o => (HRA.out _ (HBa8.out o)).2.1
        have a2 : ∀ o, (W8.alloc o).cell? ⟨A, 2, none⟩ = some (.bool true) := fun o => (HRA.out _ (HBa8.out o)).2.2.1
        have a3 : ∀ o, (W8.alloc o).cell? ⟨A, 3, none⟩ = some (.bool true) := fun o => (HRA.out _ (HBa8.out o)).2.2.2.1
        have a4 : ∀ o, (W8.alloc o).cell? ⟨A, 4, none⟩ = some (.int .i64 cv) := fun o => (HRA.out _ (HBa8.out o)).2.2.2.2
        have y0 : ∀ o, (W8.alloc o).cell? ⟨C, 0, none⟩ = some (.bool true) := fun o => (HCc.out _ (HB8.out.trans ((HBa8.out o).mono HB8.out.size))).1
        have y1 : ∀ o, (W8.alloc o).cell? ⟨C, 1, none⟩ = some (.int .i64 cv) := fun o => (HCc.out _ (HB8.out.trans ((HBa8.out o).mono HB8.out.size))).2
        go_wp2
        refine ⟨⟨j + 1, av', ws', last', batch', by omega, by rw [show ((j + 1 : Nat) : Int) = (j : Int) + 1 by omega], ?_⟩, by simp [intOf]; omega⟩
        exact ⟨HW8.out.kept (HBa8.out _), HFb.out.1, HFb.out.2.1, HFb.out.2.2, HB8.out.trans ((HBa8.out _).mono HB8.out.size), _, _, _, _, _, ((HBa8.out _).block A (blk_lt HR8.out)).trans HR8.out⟩
    · have HCl : Hid (∀ W vs', WS W0.heap.size (fun k => k = A) W B S P av vs' ws last last batch → Kp W0.heap.size (fun k => k = A) wr W → W.cell? ⟨B, 0, none⟩ = some (ptr S) ∧ W.cell? ⟨C, 0, none⟩ = some (.bool ci) ∧ W.cell? ⟨C, 1, none⟩ = some (.int .i64 cv)) := fun W vs' h1 h2 => by
        have h4 := HCc.out W (HFr.out.bel.trans (h2.below HFr.out.bel.size))
        exact ⟨h1.cells.1, h4.1, h4.2⟩
      have HF1 : Hid (Calls Try.prog 22 #[ptr S, .int .i64 1, .agg #[.bool ci, .int .i64 cv]] wr.drew fun e w' => e = .returned (.int .i64 95) ∧ WS W0.heap.size (fun k => k = A) w' B S P av ([f1 b ci cv] ++ ws) ws last last batch ∧ Kp W0.heap.size (fun k => k = A) wr w') := by
        have h0 := HFr.out.wsx.kept (drew_below wr 1)
        have hc := h0.fillX 1 ci cv (by unfold In64; omega) HL.out.2.2.2 95 (by rw [fv_f1 b ci cv ws]; rfl) (by decide)
        exact hc.mono fun e w' ⟨a1, a2, a3⟩ => ⟨a1, a2, (Kp.ofBelow (drew_below wr 1)).trans a3⟩
      have HRm : Hid (∀ W, WS W0.heap.size (fun k => k = A) W B S P av ([f1 b ci cv] ++ ws) ws last last batch → Kp W0.heap.size (fun k => k = A) wr W → Calls Try.prog 20 #[ptr S, .int .i64 1] W fun e w' => e = .returned (.int .i64 0) ∧ (∃ vs', fv vs' 1 = none ∧ WS W0.heap.size (fun k => k = A) w' B S P av vs' ws last last batch) ∧ Kp W0.heap.size (fun k => k = A) wr w') := fun W h1 h2 =>
        (h1.removeN 1 (by unfold In64; omega) (fv_f1 b ci cv ws)).mono fun e w' ⟨a1, a2, a3⟩ => ⟨a1, a2, h2.trans a3⟩
      have HF3 : Hid (∀ W vs', fv vs' 1 = none → WS W0.heap.size (fun k => k = A) W B S P av vs' ws last last batch → Kp W0.heap.size (fun k => k = A) wr W → Calls Try.prog 22 #[ptr S, .int .i64 1, .agg #[.bool ci, .int .i64 cv]] W fun e w' => e = .returned (.int .i64 93) ∧ WS W0.heap.size (fun k => k = A) w' B S P av vs' ws last last batch ∧ Kp W0.heap.size (fun k => k = A) wr w') := fun W vs' h0 h1 h2 =>
        (h1.fillX 1 ci cv (by unfold In64; omega) HL.out.2.2.2 93 (by rw [h0]; rfl) (by decide)).mono fun e w' ⟨a1, a2, a3⟩ => ⟨a1, a2, h2.trans a3⟩
      have HBw : Hid (∀ W, Kp W0.heap.size (fun k => k = A) wr W → Below w.heap.size w W) := fun W hW => HB0.out.1.trans ((HFr.out.bel.trans (hW.below HFr.out.bel.size)).mono HB0.out.1.size)
      obtain ⟨s0, y0, y1⟩ := HCl.out wr _ HFr.out.wsx (Kp.refl _ _ _)
      clear HFr
      go_upto_region 19 with fail
      go_region_held3 (fun w' => w'.cell? ⟨B, 0, none⟩ = some (ptr S) ∧ w'.cell? ⟨C, 0, none⟩ = some (.bool ci) ∧ w'.cell? ⟨C, 1, none⟩ = some (.int .i64 cv)) (first | with_reducible exact HQ6.out | with_reducible exact HQ5.out | with_reducible exact HQ4.out | go_keep) (first
        | (go_at_call 22; with_reducible refine HF1.out.mono ?_; rintro e w4 ⟨rfl, hw4, hk4⟩; have HQ4 := hidC (HCl.out _ _ hw4 hk4); have HW4 := hidC hw4; have HK4 := hidC hk4; clear hw4 hk4)
        | (go_at_call 20; with_reducible refine (HRm.out _ HW4.out HK4.out).mono ?_; rintro e w5 ⟨rfl, ⟨vs5, hf5, hw5⟩, hk5⟩; have HQ5 := hidC (HCl.out _ _ hw5 hk5); have HW5 := hidC hw5; have HV5 := hidC hf5; have HK5 := hidC hk5; clear hw5 hk5 hf5)
        | (go_at_call 22; with_reducible refine (HF3.out _ _ HV5.out HW5.out HK5.out).mono ?_; rintro e w6 ⟨rfl, hw6, hk6⟩; have HQ6 := hidC (HCl.out _ _ hw6 hk6); have HK6 := hidC hk6; clear hw6 hk6))
      go_wp2
      go_ret
      exact ⟨rfl, HBw.out _ HK6.out⟩
end Go.Proofs.Ytfkijdlggdgfhaa
/-
  StoreVisible: THE MATHEMATICS, AND THE STATE WHILE WRITES COME.
-/
namespace Go.Proofs.Ytfkijdlggdgfhaa
open Go.RowKit Go.Sort

theorem visN_snoc (k : K) (A : List Vr) (v : Vr) (at_ : Int) : visN (ofK k (A ++ [v])) at_ = if v.k = k ∧ v.ba ≤ at_ then v.n else visN (ofK k A) at_ := by
  unfold visN
  rw [ofK_app]
  by_cases hk : v.k = k
  · rw [ofK_cons_same hk, show ofK k [] = [] from rfl, List.filter_append]
    by_cases hb : v.ba ≤ at_
    · rw [if_pos ⟨hk, hb⟩, List.filter_cons_of_pos (by simpa using hb)]
      simp
    · rw [if_neg (fun h => hb h.2), List.filter_cons_of_neg (by simpa using hb)]
      simp
  · rw [if_neg (fun h => hk h.1), ofK_cons_other hk, show ofK k [] = [] from rfl, List.append_nil]
/-- what comes behind a batch is not seen at it -/
theorem visN_more (k : K) (A : List Vr) (at_ : Int) : ∀ ext : List Vr, (∀ v ∈ ext, at_ < v.ba) → visN (ofK k (A ++ ext)) at_ = visN (ofK k A) at_ := fun ext h => by
  unfold visN
  rw [ofK_app, List.filter_append]
  have : (ofK k ext).filter (fun v => decide (v.ba ≤ at_)) = [] := List.filter_eq_nil_iff.2 fun x hx => by
    have := h x (List.mem_filter.1 hx).1
    simp; omega
  rw [this, List.append_nil]
theorem visN_all (k : K) (vs : List Vr) (at_ : Int) (h : ∀ v ∈ vs, v.ba ≤ at_) : visN (ofK k vs) at_ = newestN k vs := by
  unfold visN newestN
  rw [List.filter_eq_self.2 (fun x hx => by simpa using h x (List.mem_filter.1 hx).1)]
  cases (ofK k vs).getLast? <;> rfl
theorem visN_none (k : K) (vs : List Vr) (at_ : Int) (h : ∀ v ∈ vs, at_ < v.ba) : visN (ofK k vs) at_ = 0 := by
  unfold visN
  rw [List.filter_eq_nil_iff.2 (fun x hx => by have := h x (List.mem_filter.1 hx).1; simp; omega)]
  rfl
/-- the statement's world while writes come: j of them; F: blocks that stay -/
structure VL (n0 : Nat) (F : Nat → Prop) (w0 wr : World) (B S P : Nat) (j : Nat) (av : Value) (ws : List Vr) (last batch : Int) : Prop where
  wsx : WS n0 F wr B S P av ws ws last last batch
  ba : ∀ v ∈ ws, 1 ≤ v.ba ∧ v.ba ≤ batch
  la : 1 ≤ last ∧ last ≤ 1 + j
  bt : 2 ≤ batch ∧ batch ≤ 2 + 100 * j
  kp : Kp n0 F w0 wr
theorem VL.write {n0 : Nat} {F : Nat → Prop} {w0 wr : World} {B S P : Nat} {j : Nat} {av : Value} {ws : List Vr} {last batch : Int} (h : VL n0 F w0 wr B S P j av ws last batch) {x : Wq} {e : Ending} {w' : World} (hp : WrPost n0 F wr B S P [] ws last batch x e w') :
    e = .returned (.bool true) ∧ ∃ av' ws' last' batch', VL n0 F w0 w' B S P (j + 1) av' ws' last' batch' ∧ batch ≤ batch' ∧ (x.dr < 0 → ∃ ext, ws' = ws ++ ext ∧ ∀ v ∈ ext, batch < v.ba) := by
  obtain ⟨he, hk, av', hp⟩ := hp
  have hkp := h.kp.trans hk
  have hsub : ∀ v ∈ dropL x.dr ws, 1 ≤ v.ba ∧ v.ba ≤ batch := fun v hv => h.ba v ((dropL_sub x.dr ws).subset hv)
  have h1 := h.la
  have h2 := h.bt
  have hdr : x.dr < 0 → dropL x.dr ws = ws := fun h0 => dropL_no (fun h3 => by omega)
  refine ⟨he, ?_⟩
  rcases hp with hp | ⟨v, ba', hp⟩
  · exact ⟨av', dropL x.dr ws, last, batch, ⟨hp, hsub, by omega, by omega, hkp⟩, Int.le_refl _, fun h0 => ⟨[], by rw [hdr h0]; simp, by simp⟩⟩
  · have h3 := hp.lt
    refine ⟨av', dropL x.dr ws ++ [v], last + 1, ba', ⟨hp.ws, fun u hu => ?_, by omega, by omega, hkp⟩, by omega, fun h0 => ⟨[v], by rw [hdr h0], fun u hu => ?_⟩⟩
    · rcases List.mem_append.1 hu with h5 | h5
      · have := hsub u h5; omega
      · simp at h5; rw [h5, hp.ba]; omega
    · simp at hu; rw [hu, hp.ba]; omega
/-- a write of a list -/
theorem wrs_at {w wr : World} {ao : Option Addr} {l : List Wq} {m j : Nat} (h1 : WrsAt w ao l) (h2 : m = l.length) (h3 : ∀ x ∈ l, WqIn x) (hbel : Below w.heap.size w wr) (hj : j < m) :
    ∃ lb lo, ao = some ⟨lb, lo, none⟩ ∧ lb < w.heap.size ∧ ∃ x : Wq, Hid (WqIn x) ∧ wr.cell? ⟨lb, lo + j * 8, none⟩ = some (.int .i64 x.k.1) ∧ wr.cell? ⟨lb, lo + j * 8 + 1, none⟩ = some (.int .i64 x.k.2) ∧ wr.cell? ⟨lb, lo + j * 8 + 2, none⟩ = some (.int .i64 x.la) ∧ wr.cell? ⟨lb, lo + j * 8 + 3, none⟩ = some (.int .i64 x.ix) ∧ wr.cell? ⟨lb, lo + j * 8 + 4, none⟩ = some (.bool x.fl) ∧ wr.cell? ⟨lb, lo + j * 8 + 5, none⟩ = some (.bool x.ci) ∧ wr.cell? ⟨lb, lo + j * 8 + 6, none⟩ = some (.int .i64 x.cv) ∧ wr.cell? ⟨lb, lo + j * 8 + 7, none⟩ = some (.int .i64 x.dr) := by
  rcases h1 with h1 | ⟨lb, lo, h1, hlb, h4⟩
  · rw [h1] at h2; simp at h2; omega
  · have hjl : j < l.length := by omega
    have hc : ∀ i u, (wqc l[j])[i]? = some u → wr.cell? ⟨lb, lo + j * 8 + i, none⟩ = some u := fun i u hu => (hbel.cell (p := ⟨lb, lo + j * 8 + i, none⟩) hlb).trans (h4 j hjl i u hu)
    exact ⟨lb, lo, h1, hlb, l[j], h3 _ (List.getElem_mem hjl), hc 0 _ rfl, hc 1 _ rfl, hc 2 _ rfl, hc 3 _ rfl, hc 4 _ rfl, hc 5 _ rfl, hc 6 _ rfl, hc 7 _ rfl⟩
theorem WS.ldAt {n0 : Nat} {F : Nat → Prop} {w : World} {B S P : Nat} {g m c : Nat} {vs ws : List Vr} {lb last batch : Int} (h : WS n0 F w B S P (.slice (some ⟨g, 0, none⟩) m c) vs ws lb last batch) {i : Nat} (hi : i < ws.length) : w.cell? ⟨g, i * 8, none⟩ = some (.int .i64 ws[i].n) ∧ w.cell? ⟨g, i * 8 + 1, none⟩ = some (.int .i64 ws[i].k.1) ∧ w.cell? ⟨g, i * 8 + 2, none⟩ = some (.int .i64 ws[i].k.2) ∧ w.cell? ⟨g, i * 8 + 3, none⟩ = some (.int .i64 ws[i].ba) := by
  have hh : ∀ j u, j < 8 → (ldc ws[i])[j]? = some u → w.cell? ⟨g, i * 8 + j, none⟩ = some u := fun j u hj hu => h.cellAt ((lds_at hi hj).trans hu)
  exact ⟨hh 0 _ (by omega) rfl, hh 1 _ (by omega) rfl, hh 2 _ (by omega) rfl, hh 3 _ (by omega) rfl⟩
/-- what was seen -/
def seenL (ws : List Vr) (at_ : Int) (i : Nat) : List Int := (ws.take i).map (fun v => visN (ofK v.k ws) at_)
theorem seenL_succ {ws : List Vr} {at_ : Int} {i : Nat} (hi : i < ws.length) : seenL ws at_ (i + 1) = seenL ws at_ i ++ [visN (ofK ws[i].k ws) at_] := by
  unfold seenL
  rw [← List.take_append_getElem hi, List.map_append, List.map_singleton]
theorem seenL_len {ws : List Vr} {at_ : Int} {i : Nat} (hi : i ≤ ws.length) : (seenL ws at_ i).length = i := by simp [seenL, hi]
/-- while it is looked -/
structure V2 (n0 : Nat) (W1 wq : World) (B S P : Nat) (av : Value) (ws : List Vr) (last batch at_ : Int) (i : Nat) (sa : Option Addr) (sc : Nat) : Prop where
  wsx : WS n0 (bk sa) wq B S P av ws ws last last batch
  th : Th wq n0 sa sc (seenL ws at_ i)
  bel : Below n0 W1 wq
theorem V2.kept {n0 : Nat} {W1 wq w' : World} {B S P : Nat} {av : Value} {ws : List Vr} {last batch at_ : Int} {i : Nat} {sa : Option Addr} {sc : Nat} (h : V2 n0 W1 wq B S P av ws last batch at_ i sa sc) (hb : Below wq.heap.size wq w') : V2 n0 W1 w' B S P av ws last batch at_ i sa sc :=
  ⟨h.wsx.kept hb, h.th.kept hb, h.bel.trans (hb.mono h.wsx.n0l)⟩
theorem want_step {ws : List Vr} {k : K} {at_ : Int} {q : Nat} (hq : q < ws.length) : visN (ofK k (ws.take (q + 1))) at_ = if ws[q].k = k ∧ ws[q].ba ≤ at_ then ws[q].n else visN (ofK k (ws.take q)) at_ := by
  rw [← List.take_append_getElem hq]
  exact visN_snoc k (ws.take q) ws[q] at_
/-- a list beside has grown -/
theorem WS.grown {n0 : Nat} {w w' : World} {B S P : Nat} {av : Value} {vs ws : List Vr} {lb last batch : Int} {sa sa' : Option Addr} (h : WS n0 (bk sa) w B S P av vs ws lb last batch) (hfr : Fr (bk sa) w w') (hbk : ∀ k, bk sa' k → bk sa k ∨ w.heap.size ≤ k) (hlt : ∀ k, bk sa' k → k < w'.heap.size) : WS n0 (bk sa') w' B S P av vs ws lb last batch := by
  have h1 := h.off hfr.size hfr.block
  refine ⟨h1.bx, ?_, h1.al, h.Bn, fun e => ?_, fun k hk e => ?_, hlt, h1.n0l⟩
  · have q1 := h.st.frame (G := fun k => (bk sa k ∨ bk sa' k) ∨ k = B ∨ av.ownBlock = some k) (fun k hk => by
      rcases hk with (h2 | h2) | h2
      · exact .inl (.inl h2)
      · exact (hbk k h2).imp .inl id
      · exact .inl (.inr h2))
    have q2 := q1.off (w' := w') (fun k hk hn => hfr.block k hk (fun e => hn (.inl (.inl e))))
    exact q2.frame (fun k hk => .inl (hk.imp .inr id))
  · rcases hbk B e with h2 | h2
    · exact h.FB h2
    · have := blk_lt h.bx; omega
  · rcases hbk k e with h2 | h2
    · exact h.Fa k hk h2
    · have := (h.al.lt k hk).2; omega
/-- a copy of its list -/
theorem WS.copyAll {n0 : Nat} {F : Nat → Prop} {w : World} {B S P : Nat} {ao : Option Addr} {p c : Nat} {vs ws : List Vr} {lb last batch : Int} (h : WS n0 F w B S P (.slice ao p c) vs ws lb last batch) (hp : p = ws.length) (hn : ws.length ≤ 1000000) (ty : TypeId) :
    ∃ v' U', (Builtin.append_ #[34, 34] ty #[.slice (some ⟨w.heap.size, 0, none⟩) 0 0, .slice ao p c]).run Try.prog (w.alloc (.cells #[] 50)) = .ok v' U' ∧ (∃ a e, v' = .slice a p e) ∧ DR w U' v' ws := by
  have hm : DR w (w.alloc (.cells #[] 50)) (.slice (some ⟨w.heap.size, 0, none⟩) 0 0) [] := DR.made w 0
  have key : ∃ v' U', (Builtin.append_ #[34, 34] ty #[.slice (some ⟨w.heap.size, 0, none⟩) 0 0, .slice ao p c]).run Try.prog (w.alloc (.cells #[] 50)) = .ok v' U' ∧ DR w U' v' ws := by
    rcases h.al.shape with ⟨h0, h1⟩ | ⟨g, cap, cur, h1, _, _, _, h5⟩
    · simp only [Value.slice.injEq] at h0
      obtain ⟨rfl, rfl, rfl⟩ := h0
      subst h1
      obtain ⟨i0, hi, hz0, hz1, hz2⟩ := info_parts infoLd
      exact ⟨_, _, run_append_owned_none (P := Try.prog) (w := w.alloc (.cells #[] 50)) w.heap.size 34 ty 50 i0 8 Try.underlying34 hi _ 0 [] hm.own, hm⟩
    · simp only [Value.slice.injEq] at h1
      obtain ⟨rfl, _, rfl⟩ := h1
      have h2 := hm.app (ys := ws) ⟨g, 0, none⟩ c (fun j x hx => by rw [addr_add, Nat.zero_add]; exact h5 j x hx) (by simp; omega) ty
      rw [← hp, List.nil_append] at h2
      exact h2
  obtain ⟨v', U', h1, h2⟩ := key
  refine ⟨v', U', h1, ?_, h2⟩
  rw [hp]
  exact ownL_slice h2.own
theorem VL.kept {n0 : Nat} {F : Nat → Prop} {w0 wr w' : World} {B S P : Nat} {j : Nat} {av : Value} {ws : List Vr} {last batch : Int} (h : VL n0 F w0 wr B S P j av ws last batch) (hb : Below wr.heap.size wr w') : VL n0 F w0 w' B S P j av ws last batch :=
  ⟨h.wsx.kept hb, h.ba, h.la, h.bt, h.kp.trans (Kp.ofBelow hb)⟩
/-- a copy beside: it stays too -/
theorem WS.beside {n0 : Nat} {F : Nat → Prop} {w U : World} {B S P : Nat} {av v : Value} {vs ws zs : List Vr} {lb last batch : Int} (h : WS n0 F w B S P av vs ws lb last batch) (hd : DR w U v zs) : WS n0 (fun k => F k ∨ v.ownBlock = some k) U B S P av vs ws lb last batch := by
  have h1 := h.kept hd.bel
  have hvb : ∀ k, v.ownBlock = some k → w.heap.size ≤ k ∧ k < U.heap.size := hd.own.lt
  refine ⟨h1.bx, (h.st.frame (G := fun k => (F k ∨ v.ownBlock = some k) ∨ k = B ∨ av.ownBlock = some k) (fun k hk => ?_)).kept hd.bel, h1.al, h.Bn, fun e => ?_, fun k hk e => ?_, fun k hk => ?_, h1.n0l⟩
  · rcases hk with (h2 | h2) | h2
    · exact .inl (.inl h2)
    · exact .inr (hvb k h2).1
    · exact .inl (.inr h2)
  · rcases e with e | e
    · exact h.FB e
    · have := (hvb B e).1; have := blk_lt h.bx; omega
  · rcases e with e | e
    · exact h.Fa k hk e
    · have := (hvb k e).1; have := (h.al.lt k hk).2; omega
  · rcases hk with h2 | h2
    · exact h1.Fl k h2
    · exact (hvb k h2).2
theorem rowAt {w : World} {n0 g p c : Nat} {ws : List Vr} (h : OwnL w n0 (.slice (some ⟨g, 0, none⟩) p c) ws) {i : Nat} (hi : i < ws.length) : w.cell? ⟨g, i * 8 + 1, none⟩ = some (.int .i64 ws[i].k.1) ∧ w.cell? ⟨g, i * 8 + 2, none⟩ = some (.int .i64 ws[i].k.2) := by
  rcases h.shape with ⟨h0, _⟩ | ⟨g', cap, cur, h1, _, _, _, h5⟩
  · cases h0
  · simp only [Value.slice.injEq, Option.some.injEq, Addr.mk.injEq] at h1
    obtain ⟨⟨rfl, _⟩, _⟩ := h1
    exact ⟨h5 _ _ (lds_at hi (by omega)), h5 _ _ (lds_at hi (by omega))⟩
end Go.Proofs.Ytfkijdlggdgfhaa
/-
  StoreVisible.
-/
namespace Go.Proofs.Ytfkijdlggdgfhaa
open Go.RowKit Go.Sort

set_option maxRecDepth 100000 in
set_option maxHeartbeats 8000000 in
theorem law_svis (w : World) (pp bq : Int) (a1 : Option Addr) (m1 c1 : Nat) (l1 : List Wq) (a2 : Option Addr) (m2 c2 : Nat) (l2 : List Wq) (hm1 : m1 = l1.length) (hm1b : m1 ≤ 1048576) (hw1 : WrsAt w a1 l1) (hin1 : ∀ x ∈ l1, WqIn x) (hm2 : m2 = l2.length) (hm2b : m2 ≤ 1048576) (hw2 : WrsAt w a2 l2) (hin2 : ∀ x ∈ l2, WqIn x) (_hbq : In64 bq) :
    Calls Try.prog 4 #[.agg #[.int .i64 pp, .slice a1 m1 c1, .slice a2 m2 c2, .int .i64 bq]] w fun e w' => e = .returned (.bool true) ∧ Below w.heap.size w w' := by
  have HL1 : Hid (WrsAt w a1 l1 ∧ m1 = l1.length ∧ (∀ x ∈ l1, WqIn x)) := ⟨hw1, hm1, hin1⟩
  have HL2 : Hid (WrsAt w a2 l2 ∧ m2 = l2.length ∧ (∀ x ∈ l2, WqIn x)) := ⟨hw2, hm2, hin2⟩
  clear hw1 hm1 hin1 hw2 hm2 hin2
  obtain ⟨C, hC⟩ : ∃ C, C = w.heap.size := ⟨_, rfl⟩
  obtain ⟨W0, hW0⟩ : ∃ W0, W0 = w.alloc (.cells #[.int .i64 pp, .slice a1 m1 c1, .slice a2 m2 c2, .int .i64 bq] 44) := ⟨_, rfl⟩
  have HB0 : Hid (Below w.heap.size w W0 ∧ W0.heap[C]? = some (.cells #[.int .i64 pp, .slice a1 m1 c1, .slice a2 m2 c2, .int .i64 bq] 44 (0, 0))) := by
    refine ⟨?_, ?_⟩
    · rw [hW0]; exact (Below.refl _ _).alloc (Nat.le_refl _) _
    · rw [hW0, hC]; exact heap_alloc_new _ _ rfl
  have k0 : W0.cell? ⟨C, 0, none⟩ = some (.int .i64 pp) := by rw [World.cell?, HB0.out.2]; rfl
  have k1 : W0.cell? ⟨C, 1, none⟩ = some (.slice a1 m1 c1) := by rw [World.cell?, HB0.out.2]; rfl
  have k2 : W0.cell? ⟨C, 2, none⟩ = some (.slice a2 m2 c2) := by rw [World.cell?, HB0.out.2]; rfl
  have k3 : W0.cell? ⟨C, 3, none⟩ = some (.int .i64 bq) := by rw [World.cell?, HB0.out.2]; rfl
  go_enter Try.func4, Try.ntmps4
  go_upto_region 1 with fail
  rw [← hW0, ← hC]
  clear hW0 hC
  go_quiet (fail)
  have HBq : Hid (Below w.heap.size w (W0.drewN nq)) := HB0.out.1.trans ((drew_below W0 nq).mono HB0.out.1.size)
  have k0' : (W0.drewN nq).cell? ⟨C, 0, none⟩ = some (.int .i64 pp) := k0
  generalize W0.drewN nq = W1 at *
  clear k0 k1 k2 k3 HB0
  have HBg := begun_any W1 pp
  go_wp2_with fail
  refine HBg.mono ?_
  clear HBg k0'
  rintro e w1 ⟨B, S, P, b, g, rfl, _, _, hb1, hws1⟩
  have HV1 : Hid (VL W1.heap.size (fun _ => False) W1 w1 B S P 0 (.slice (some ⟨g, 0, none⟩) 1 1) [v1 b] 1 2) := ⟨hws1, fun v hv => by simp at hv; subst hv; show (1 : Int) ≤ 1 ∧ (1 : Int) ≤ 2; omega, by omega, by omega, Kp.ofBelow hb1⟩
  clear hws1 hb1
  go_wp2_with fail
  go_loopw [8] (fun x wr => ∃ (j : Nat) (av : Value) (ws : List Vr) (last batch : Int), j ≤ m1 ∧ x = .int .i64 (j : Int) ∧ Hid (VL W1.heap.size (fun _ => False) W1 wr B S P j av ws last batch)) (fun x _ => m1 - (intOf x).toNat)
  case atStart => exact ⟨0, _, _, _, _, Nat.zero_le _, rfl, HV1⟩
  case round =>
    clear HV1
    obtain ⟨j, av, ws, last, batch, hj, rfl, HVr⟩ := hrel
    by_cases hlt : j < m1
    · as_aux_lemma =>
      obtain ⟨lb, lo, hao, hbl, x, HXi, x0, x1, x2, x3, x4, x5, x6, x7⟩ : ∃ lb lo, a1 = some ⟨lb, lo, none⟩ ∧ lb < w.heap.size ∧ ∃ x : Wq, Hid (WqIn x) ∧ wr.cell? ⟨lb, lo + j * 8, none⟩ = some (.int .i64 x.k.1) ∧ wr.cell? ⟨lb, lo + j * 8 + 1, none⟩ = some (.int .i64 x.k.2) ∧ wr.cell? ⟨lb, lo + j * 8 + 2, none⟩ = some (.int .i64 x.la) ∧ wr.cell? ⟨lb, lo + j * 8 + 3, none⟩ = some (.int .i64 x.ix) ∧ wr.cell? ⟨lb, lo + j * 8 + 4, none⟩ = some (.bool x.fl) ∧ wr.cell? ⟨lb, lo + j * 8 + 5, none⟩ = some (.bool x.ci) ∧ wr.cell? ⟨lb, lo + j * 8 + 6, none⟩ = some (.int .i64 x.cv) ∧ wr.cell? ⟨lb, lo + j * 8 + 7, none⟩ = some (.int .i64 x.dr) :=
        wrs_at HL1.out.1 HL1.out.2.1 HL1.out.2.2 (HBq.out.trans ((HVr.out.kp.below (Nat.le_refl _)).mono HBq.out.size)) hlt
      subst hao
      have HWr := hidC (write_any W1.heap.size (fun _ => False) wr B S P av [] ws last batch x HVr.out.wsx (fun v hv => (HVr.out.ba v hv).2) HXi.out (by have := HVr.out.la; omega) (by have := HVr.out.bt; omega) (by simp))
      obtain ⟨⟨xk1, xk2⟩, xla, xix, xfl, xci, xcv, xdr⟩ := x
      simp only [wqc] at x0 x1 x2 x3 x4 x5 x6 x7 HWr
      go_wp2_with fail
      refine HWr.out.mono ?_
      clear HWr x0 x1 x2 x3 x4 x5 x6 x7 HXi
      intro e w6 hwp
      obtain ⟨rfl, av', ws', last', batch', hf6, _, _⟩ := HVr.out.write hwp
      have HF6 := hidC hf6
      clear hf6 hwp HVr
      go_wp2
      exact ⟨⟨j + 1, av', ws', last', batch', by omega, by rw [show ((j + 1 : Nat) : Int) = (j : Int) + 1 by omega], HF6⟩, by simp [intOf]; omega⟩
    · as_aux_lemma =>
      obtain ⟨_, _, _, s3⟩ := HVr.out.wsx.cells
      have HBt : Hid (2 ≤ batch ∧ batch ≤ 2 + 100 * (m1 : Int)) := by
        have h1 := HVr.out.bt
        exact ⟨h1.1, by omega⟩
      go_upto_region 11 with fail
      clear s3
      go_cut [56] (fun u wx => u = .bool (decide (0 ≤ bq ∧ bq < batch)) ∧ wx = wr)
      case first =>
        by_cases hd : 0 ≤ bq
        · have hd' : decide (0 ≤ bq) = true := decide_eq_true hd
          by_cases hm0 : bq < batch
          · have hm1 : decide (bq < batch) = true := decide_eq_true hm0
            have HE : Hid (decide (0 ≤ bq ∧ bq < batch) = true) := decide_eq_true ⟨hd, hm0⟩
            go_wp2
            go_meet
            exact ⟨by rw [HE.out], rfl⟩
          · have hm1 : decide (bq < batch) = false := decide_eq_false hm0
            have HE : Hid (decide (0 ≤ bq ∧ bq < batch) = false) := decide_eq_false (fun h => hm0 h.2)
            go_wp2
            go_meet
            exact ⟨by rw [HE.out], rfl⟩
        · have hd' : decide (0 ≤ bq) = false := decide_eq_false hd
          have HE : Hid (decide (0 ≤ bq ∧ bq < batch) = false) := decide_eq_false (fun h => hd h.1)
          go_wp2
          go_meet
          exact ⟨by rw [HE.out], rfl⟩
      case rest =>
      obtain ⟨hu56, hwc⟩ := hcut
      subst hu56
      have hwc' := hwc.symm
      subst hwc'
      clear hwc
      go_upto_if 56 with fail
      go_cut [9] (fun u wx => ∃ at_ : Int, u = .int .i64 at_ ∧ Hid (0 ≤ at_ ∧ at_ ≤ batch) ∧ wx = wr)
      case first =>
        by_cases hd : 0 ≤ bq ∧ bq < batch
        · have hd' : decide (0 ≤ bq ∧ bq < batch) = true := decide_eq_true hd
          rw [hd']
          go_wp2
          go_meet
          exact ⟨bq, rfl, ⟨hd.1, by omega⟩, rfl⟩
        · have hd' : decide (0 ≤ bq ∧ bq < batch) = false := decide_eq_false hd
          rw [hd']
          go_wp2
          go_meet
          exact ⟨batch, rfl, ⟨by have := HBt.out; omega, by omega⟩, rfl⟩
      case rest =>
      obtain ⟨at_, hu9, HAt, hwc⟩ := hcut
      subst hu9
      have hwc' := hwc.symm
      subst hwc'
      clear hwc
      have HV2 : Hid (V2 W1.heap.size W1 wr B S P av ws last batch at_ 0 none 0) := ⟨HVr.out.wsx.unbox (fun k hk => by cases hk), .inl ⟨rfl, rfl, rfl⟩, HVr.out.kp.below (Nat.le_refl _)⟩
      have HVb : Hid ((∀ v ∈ ws, 1 ≤ v.ba ∧ v.ba ≤ batch) ∧ (1 ≤ last ∧ last ≤ 1 + (m1 : Int)) ∧ ∀ v ∈ ws, KIn v.k) := by
        have h1 := HVr.out.la
        exact ⟨HVr.out.ba, ⟨h1.1, by omega⟩, fun v hv => (HVr.out.wsx.st.inn v hv).1⟩
      obtain ⟨ao, c, hav⟩ := ownL_slice HVr.out.wsx.al
      subst hav
      have hpb : ws.length ≤ 65536 := by have := HVr.out.wsx.st.lt.2.2.2; omega
      obtain ⟨p, hp⟩ : ∃ p, p = ws.length := ⟨_, rfl⟩
      have HP : Hid (p = ws.length) := hp
      rw [← hp] at HV2 hpb
      clear HVr hp hlt hj
      go_wp2_with fail
      go_loopw [10, 11, 12, 13, 14] (fun t x _ _ _ wq => ∃ (i : Nat) (sa : Option Addr) (sc : Nat), i ≤ p ∧ t = .slice sa i sc ∧ x = .int .i64 (i : Int) ∧ Hid (V2 W1.heap.size W1 wq B S P (.slice ao p c) ws last batch at_ i sa sc)) (fun _ x _ _ _ _ => p - (intOf x).toNat)
      case atStart => exact ⟨0, none, 0, Nat.zero_le _, rfl, rfl, HV2⟩
      case round =>
        clear HV2
        obtain ⟨i, sa, sc, hi, rfl, rfl, HVi⟩ := hrel
        obtain ⟨_, s1, _⟩ := HVi.out.wsx.cells
        by_cases hlt : i < p
        · as_aux_lemma =>
          have hil : i < ws.length := by have := HP.out; omega
          obtain ⟨g, hg⟩ : ∃ g, ao = some ⟨g, 0, none⟩ := by
            rcases HVi.out.wsx.al.shape with ⟨_, h0⟩ | ⟨g, _, _, h1, _⟩
            · rw [h0] at hil; simp at hil
            · simp only [Value.slice.injEq] at h1
              exact ⟨g, h1.1⟩
          subst hg
          obtain ⟨ki, hki⟩ : ∃ ki, ki = ws[i].k := ⟨_, rfl⟩
          have HKi : Hid (∃ hi : i < ws.length, ki = ws[i].k) := ⟨hil, hki⟩
          obtain ⟨k1, k2⟩ := ki
          have HCl : Hid (∀ W, Below wr.heap.size wr W → W.cell? ⟨B, 0, none⟩ = some (ptr S) ∧ W.cell? ⟨B, 1, none⟩ = some (.slice (some ⟨g, 0, none⟩) p c) ∧ W.cell? ⟨g, i * 8 + 1, none⟩ = some (.int .i64 k1) ∧ W.cell? ⟨g, i * 8 + 2, none⟩ = some (.int .i64 k2)) := fun W hW => by
            have h1 := (HVi.out.kept hW).wsx
            have h2 := h1.ldAt hil
            rw [← hki] at h2
            exact ⟨h1.cells.1, h1.cells.2.1, h2.2.1, h2.2.2.1⟩
          obtain ⟨rv, hrv⟩ : ∃ rv, rv = visN (ofK (k1, k2) ws) at_ := ⟨_, rfl⟩
          have HRv : Hid (rv = visN (ofK (k1, k2) ws) at_) := hrv
          have HVs : Hid (Calls Try.prog 17 #[ptr S, .agg #[.int .i64 k1, .int .i64 k2], .int .i64 at_] wr.drew fun e w' => e = .returned (.int .i64 rv) ∧ Below wr.heap.size wr w') := by
            have h0 := (HVi.out.kept (drew_below wr 1)).wsx.st
            have hk := HVb.out.2.2 ws[i] (List.getElem_mem hil)
            rw [← hki] at hk
            have h1 := visible_st _ _ (wr.drewN 1) S P 65536 last ws h0 k1 k2 at_ hk
            rw [← hrv] at h1
            exact h1.mono fun e w' ⟨a1, a2⟩ => ⟨a1, (drew_below wr 1).trans a2⟩
          obtain ⟨s0, s1', y1, y2⟩ := HCl.out wr (Below.refl _ _)
          have hii : (i : Int) < (p : Int) := by omega
          clear hki hrv hil
          go_upto_region 17 with fail
          go_region_held3 (fun w' => w'.cell? ⟨B, 0, none⟩ = some (ptr S) ∧ w'.cell? ⟨B, 1, none⟩ = some (.slice (some ⟨g, 0, none⟩) p c) ∧ w'.cell? ⟨g, i * 8 + 1, none⟩ = some (.int .i64 k1) ∧ w'.cell? ⟨g, i * 8 + 2, none⟩ = some (.int .i64 k2)) (first | with_reducible exact HQ2.out | go_keep) (first | (go_at_call 17; with_reducible refine HVs.out.mono ?_; rintro e w2 ⟨rfl, hb2⟩; have HQ2 := hidC (HCl.out _ hb2); have HB2 := hidC hb2; clear hb2))
          clear s0 s1 s1' y1 y2 HVs HQ2
          have HV2 : Hid (V2 W1.heap.size W1 w2 B S P (.slice (some ⟨g, 0, none⟩) p c) ws last batch at_ i sa sc) := HVi.out.kept HB2.out
          clear HVi HB2 HCl
          go_wp2_with fail
          go_loopw [13, 14] (fun u y w3 => ∃ (q : Nat) (z : Int), q ≤ p ∧ u = .int .i64 z ∧ y = .int .i64 (q : Int) ∧ Hid (z = visN (ofK (k1, k2) (ws.take q)) at_ ∧ V2 W1.heap.size W1 w3 B S P (.slice (some ⟨g, 0, none⟩) p c) ws last batch at_ i sa sc)) (fun _ y _ => p - (intOf y).toNat)
          case atStart => exact ⟨0, 0, Nat.zero_le _, rfl, rfl, rfl, HV2.out⟩
          case round =>
            clear HV2
            obtain ⟨q, z, hq, rfl, rfl, HZ⟩ := hrel
            obtain ⟨_, s1, _⟩ := HZ.out.2.wsx.cells
            by_cases hql : q < p
            · as_aux_lemma =>
              have hqq : (q : Int) < (p : Int) := by omega
              have hil : i < ws.length := by have := HP.out; omega
              have hqs : q < ws.length := by have := HP.out; omega
              obtain ⟨n0', i1, i2, i3⟩ := HZ.out.2.wsx.ldAt hil
              obtain ⟨hi', hki'⟩ := HKi.out
              rw [← hki'] at i1 i2
              simp only at i1 i2
              obtain ⟨qn, q1, q2, qb⟩ := HZ.out.2.wsx.ldAt hqs
              have hst := want_step (k := (k1, k2)) (at_ := at_) hqs
              obtain ⟨⟨vb, vn, ⟨t1, t2⟩, vba, vix, vfl, vci, vcv⟩, hv⟩ : ∃ v, v = ws[q] := ⟨_, rfl⟩
              rw [← hv] at qn q1 q2 qb hst
              simp only at qn q1 q2 qb hst
              clear n0' i3 hi' hki' hv hil hqs
              have HSt := hidC hst
              clear hst
              have hek := fun w : World => run_eqKey t1 t2 k1 k2 w
              have heg := fun (op : BinOp) (a b : Operand) (w : World) => run_eqGuard op a b t1 t2 k1 k2 w
              cases hkk : decide ((t1, t2) = (k1, k2)) with
              | false =>
                as_aux_lemma =>
                simp only [hkk] at hek
                have HE : Hid (z = visN (ofK (k1, k2) (ws.take (q + 1))) at_) := by
                  have hn := of_decide_eq_false hkk
                  show _ = _
                  rw [HSt.out, if_neg (fun h => hn h.1)]
                  exact HZ.out.1
                clear hkk HSt
                go_upto_region 22 with fail
                go_quiet (fail)
                have HZ2 : Hid (V2 W1.heap.size W1 (wr.drewN nq) B S P (.slice (some ⟨g, 0, none⟩) p c) ws last batch at_ i sa sc) := HZ.out.2.kept (drew_below wr nq)
                go_wp2
                exact ⟨⟨q + 1, z, by omega, rfl, by rw [show ((q + 1 : Nat) : Int) = (q : Int) + 1 by omega], HE.out, HZ2.out⟩, by simp [intOf]; omega⟩
              | true =>
                as_aux_lemma =>
                simp only [hkk] at hek
                have hkt := of_decide_eq_true hkk
                clear hkk
                by_cases hba : vba ≤ at_
                · have hbd : decide (vba ≤ at_) = true := decide_eq_true hba
                  have HE : Hid (vn = visN (ofK (k1, k2) (ws.take (q + 1))) at_) := by
                    show _ = _
                    rw [HSt.out, if_pos ⟨hkt, hba⟩]
                  clear HSt hkt
                  go_upto_region 22 with fail
                  go_quiet (fail)
                  have HZ2 : Hid (V2 W1.heap.size W1 (wr.drewN nq) B S P (.slice (some ⟨g, 0, none⟩) p c) ws last batch at_ i sa sc) := HZ.out.2.kept (drew_below wr nq)
                  go_wp2
                  exact ⟨⟨q + 1, vn, by omega, rfl, by rw [show ((q + 1 : Nat) : Int) = (q : Int) + 1 by omega], HE.out, HZ2.out⟩, by simp [intOf]; omega⟩
                · have hbd : decide (vba ≤ at_) = false := decide_eq_false hba
                  have HE : Hid (z = visN (ofK (k1, k2) (ws.take (q + 1))) at_) := by
                    show _ = _
                    rw [HSt.out, if_neg (fun h => hba h.2)]
                    exact HZ.out.1
                  clear HSt hkt
                  go_upto_region 22 with fail
                  go_quiet (fail)
                  have HZ2 : Hid (V2 W1.heap.size W1 (wr.drewN nq) B S P (.slice (some ⟨g, 0, none⟩) p c) ws last batch at_ i sa sc) := HZ.out.2.kept (drew_below wr nq)
                  go_wp2
                  exact ⟨⟨q + 1, z, by omega, rfl, by rw [show ((q + 1 : Nat) : Int) = (q : Int) + 1 by omega], HE.out, HZ2.out⟩, by simp [intOf]; omega⟩
            · as_aux_lemma =>
              have hzr : z = rv := by
                have h1 := HZ.out.1
                rw [show q = ws.length by have := HP.out; omega, List.take_length] at h1
                rw [h1, HRv.out]
              subst hzr
              have HSc : Hid (seenL ws at_ i ++ [z] = seenL ws at_ (i + 1) ∧ (seenL ws at_ i).length = i) := by
                obtain ⟨h1, h2⟩ := HKi.out
                refine ⟨?_, seenL_len (by omega)⟩
                rw [seenL_succ h1, ← h2, ← HRv.out]
              have HAp := app_th wr W1.heap.size sa sc (seenL ws at_ i) z HZ.out.2.th HZ.out.2.wsx.n0l (by rw [HSc.out.2]; omega)
              rw [HSc.out.2, HSc.out.1] at HAp
              have HAp' := hidC HAp
              clear HAp
              go_wp2_with (
                at_builtin
                refine wpL_app rfl _ _ 45 rfl (.slice sa i sc) _ rfl rfl HAp'.out ?_
                rintro v5 w5 ⟨sa', sc', rfl, hth, hfr, hbk⟩
                have HV5 : Hid (V2 W1.heap.size W1 w5 B S P (.slice (some ⟨g, 0, none⟩) p c) ws last batch at_ (i + 1) sa' sc') := ⟨HZ.out.2.wsx.grown hfr hbk (fun k hk => (hth.lt hk).1), hth, HZ.out.2.bel.trans (hfr.below HZ.out.2.wsx.n0l (fun k hk => (HZ.out.2.th.lt hk).2))⟩
                clear hth hfr hbk HAp')
              exact ⟨⟨i + 1, sa', sc', by omega, rfl, by rw [show ((i + 1 : Nat) : Int) = (i : Int) + 1 by omega], HV5⟩, by simp [intOf]; omega⟩
        · as_aux_lemma =>
          have hip : i = p := by omega
          have HIp : Hid (i = p) := hip
          have HVp : Hid (V2 W1.heap.size W1 wr B S P (.slice ao p c) ws last batch at_ p sa sc) := by have := HVi.out; rw [hip] at this; exact this
          have HCp := hidC (HVp.out.wsx.copyAll HP.out (by have := HP.out; omega))
          have s1a : ∀ o, (wr.alloc o).cell? ⟨B, 1, none⟩ = some (.slice ao p c) := fun o => Lib.cell?_alloc_some _ s1
          clear HVi hip
          go_wp2_with (
            at_builtin
            refine wpL_app rfl _ _ 34 rfl (.slice (some ⟨wr.heap.size, 0, none⟩) 0 0) _ rfl rfl HCp.out ?_
            rintro v5 w5 ⟨⟨wa, wc, rfl⟩, hdr⟩
            have HD5 := hidC hdr
            clear hdr HCp)
          have HV5 : Hid (VL W1.heap.size (fun k => bk sa k ∨ (Value.slice wa p wc).ownBlock = some k) w5 w5 B S P m1 (.slice ao p c) ws last batch ∧ Th w5 W1.heap.size sa sc (seenL ws at_ p) ∧ OwnL w5 W1.heap.size (.slice wa p wc) ws ∧ Below W1.heap.size W1 w5) := by
            refine ⟨⟨HVp.out.wsx.beside HD5.out, HVb.out.1, HVb.out.2.1, HBt.out, Kp.refl _ _ _⟩, HVp.out.th.kept HD5.out.bel, ownsRow_mono HD5.out.own HVp.out.wsx.n0l, HVp.out.bel.trans (HD5.out.bel.mono HVp.out.wsx.n0l)⟩
          clear HVp HD5
          go_wp2_with fail
          go_loopw [16, 17] (fun x _ wq => ∃ (j4 : Nat) (av4 : Value) (ext : List Vr) (last4 batch4 : Int), j4 ≤ m2 ∧ x = .int .i64 (j4 : Int) ∧ Hid (VL W1.heap.size (fun k => bk sa k ∨ (Value.slice wa p wc).ownBlock = some k) w5 wq B S P (m1 + j4) av4 (ws ++ ext) last4 batch4 ∧ (∀ v ∈ ext, at_ < v.ba) ∧ at_ ≤ batch4)) (fun x _ _ => m2 - (intOf x).toNat)
          case atStart => exact ⟨0, _, [], _, _, Nat.zero_le _, rfl, by simpa using HV5.out.1, by simp, HAt.out.2⟩
          case round =>
            obtain ⟨j4, av4, ext, last4, batch4, hj4, rfl, HVr⟩ := hrel
            by_cases hlt4 : j4 < m2
            · as_aux_lemma =>
              obtain ⟨lb, lo, hao, hbl, x, HXi, x0, x1, x2, x3, x4, x5, x6, x7⟩ := wrs_at HL2.out.1 HL2.out.2.1 HL2.out.2.2 (HBq.out.trans ((HV5.out.2.2.2.trans (HVr.out.1.kp.below HV5.out.1.wsx.n0l)).mono HBq.out.size)) hlt4
              subst hao
              obtain ⟨⟨xk1, xk2⟩, xla, xix, xfl, xci, xcv, xdr⟩ := x
              simp only at x0 x1 x2 x3 x4 x5 x6 x7
              have HBx : Hid (∀ o, Below wr.heap.size wr (wr.alloc o)) := fun o => (Below.refl _ _).alloc (Nat.le_refl _) _
              have HVx : Hid (∀ o, VL W1.heap.size (fun k => bk sa k ∨ (Value.slice wa p wc).ownBlock = some k) w5 (wr.alloc o) B S P (m1 + j4) av4 (ws ++ ext) last4 batch4) := fun o => HVr.out.1.kept (HBx.out o)
              have HWr : Hid (∀ o, Calls Try.prog 8 #[ptr B, .agg #[.int .i64 xk1, .int .i64 xk2, .int .i64 xla, .int .i64 xix, .bool xfl, .bool xci, .int .i64 xcv, .int .i64 (-1)]] (wr.alloc o) fun e w' => WrPost W1.heap.size (fun k => bk sa k ∨ (Value.slice wa p wc).ownBlock = some k) (wr.alloc o) B S P [] (ws ++ ext) last4 batch4 ⟨(xk1, xk2), xla, xix, xfl, xci, xcv, -1⟩ e w') := fun o =>
                write_any W1.heap.size _ (wr.alloc o) B S P av4 [] (ws ++ ext) last4 batch4 ⟨(xk1, xk2), xla, xix, xfl, xci, xcv, -1⟩ (HVx.out o).wsx (fun v hv => ((HVx.out o).ba v hv).2) ⟨HXi.out.k, HXi.out.la, HXi.out.ix, HXi.out.cv, by show In64 (-1); unfold In64; omega⟩ (by have := HVr.out.1.la; omega) (by have := HVr.out.1.bt; omega) (by simp)
              go_wp2_with fail
              refine (HWr.out _).mono ?_
              clear HWr x0 x1 x2 x3 x4 x5 x6 x7 HXi
              intro e w6 hwp
              obtain ⟨rfl, av', ws', last', batch', hf6, hbb, hext⟩ := (HVx.out _).write hwp
              obtain ⟨ext', hws', he'⟩ := hext (by show (-1 : Int) < 0; omega)
              subst hws'
              have HF6 : Hid (VL W1.heap.size (fun k => bk sa k ∨ (Value.slice wa p wc).ownBlock = some k) w5 w6 B S P (m1 + j4 + 1) av' (ws ++ (ext ++ ext')) last' batch' ∧ (∀ v ∈ ext ++ ext', at_ < v.ba) ∧ at_ ≤ batch') := by
                refine ⟨by rw [← List.append_assoc]; exact hf6, fun v hv => ?_, by have := HVr.out.2.2; omega⟩
                rcases List.mem_append.1 hv with h1 | h1
                · exact HVr.out.2.1 v h1
                · have := he' v h1; have := HVr.out.2.2; omega
              clear hf6 hwp hbb hext he' HVr HVx HBx
              go_wp2
              exact ⟨⟨j4 + 1, av', ext ++ ext', last', batch', by omega, by rw [show ((j4 + 1 : Nat) : Int) = (j4 : Int) + 1 by omega], HF6⟩, by simp [intOf]; omega⟩
            · as_aux_lemma =>
              have HMore : Hid (∀ k, visN (ofK k (ws ++ ext)) at_ = visN (ofK k ws) at_) := fun k => visN_more k ws at_ ext HVr.out.2.1
              have HVw : Hid (VL W1.heap.size (fun k => bk sa k ∨ (Value.slice wa p wc).ownBlock = some k) w5 wr B S P (m1 + j4) av4 (ws ++ ext) last4 batch4) := HVr.out.1
              have hbt4 : batch4 ≤ 1099511627776 := by have := HVr.out.1.bt; omega
              have HBt4 := hidC hbt4
              clear HVr hbt4
              go_wp2_with fail
              clear hlt4 hj4
              go_loopw [18] (fun x wq => ∃ i5 : Nat, i5 ≤ p ∧ x = .int .i64 (i5 : Int) ∧ Hid (VL W1.heap.size (fun k => bk sa k ∨ (Value.slice wa p wc).ownBlock = some k) w5 wq B S P (m1 + j4) av4 (ws ++ ext) last4 batch4)) (fun x _ => p - (intOf x).toNat)
              case atStart => exact ⟨0, Nat.zero_le _, rfl, HVw⟩
              case round =>
                clear HVw
                obtain ⟨i5, hi5, rfl, HV6⟩ := hrel
                by_cases hlt5 : i5 < p
                · as_aux_lemma =>
                  have hil : i5 < ws.length := by have := HP.out; omega
                  have HTh : Hid (Th wr W1.heap.size sa sc (seenL ws at_ p) ∧ OwnL wr W1.heap.size (.slice wa p wc) ws) := by
                    refine ⟨HV5.out.2.1.kp (HV6.out.kp.mono (fun k _ hF => .inl hF)), HV5.out.2.2.1.same (fun g hg => HV6.out.kp.block g (HV5.out.2.2.1.lt g hg).2 (.inr (.inr hg)))⟩
                  obtain ⟨gw, hgw⟩ : ∃ gw, wa = some ⟨gw, 0, none⟩ := by
                    rcases HTh.out.2.shape with ⟨_, h0⟩ | ⟨g, _, _, h1, _⟩
                    · rw [h0] at hil; simp at hil
                    · simp only [Value.slice.injEq] at h1
                      exact ⟨g, h1.1⟩
                  obtain ⟨gs, so, hgs⟩ : ∃ gs so, sa = some ⟨gs, so, none⟩ := by
                    rcases HTh.out.1 with ⟨_, _, h0⟩ | ⟨g, off, h1, _⟩
                    · have := seenL_len (at_ := at_) (show p ≤ ws.length by have := HP.out; omega)
                      rw [h0] at this
                      simp at this
                      omega
                    · exact ⟨g, off, h1⟩
                  subst hgw hgs
                  obtain ⟨ki, hki⟩ : ∃ ki, ki = ws[i5].k := ⟨_, rfl⟩
                  obtain ⟨rv, hrv⟩ : ∃ rv, rv = visN (ofK ki ws) at_ := ⟨_, rfl⟩
                  have HRow : Hid (wr.cell? ⟨gw, i5 * 8 + 1, none⟩ = some (.int .i64 ki.1) ∧ wr.cell? ⟨gw, i5 * 8 + 2, none⟩ = some (.int .i64 ki.2) ∧ wr.cell? ⟨gs, so + i5, none⟩ = some (.int .i64 rv)) := by
                    have hl := rowAt HTh.out.2 hil
                    rw [← hki] at hl
                    refine ⟨hl.1, hl.2, ?_⟩
                    rcases HTh.out.1 with ⟨h0, _⟩ | ⟨g, off, h1, h2, _⟩
                    · cases h0
                    · cases h1
                      have h3 := h2.cell (j := i5) (by rw [seenL_len (by have := HP.out; omega)]; exact hlt5)
                      rw [h3]
                      simp [seenL, hrv, hki]
                  obtain ⟨k1, k2⟩ := ki
                  simp only at HRow
                  obtain ⟨r2, hr2⟩ : ∃ r2, r2 = newestN (k1, k2) (ws ++ ext) := ⟨_, rfl⟩
                  have HCl : Hid (∀ W, Below wr.heap.size wr W → W.cell? ⟨B, 0, none⟩ = some (ptr S) ∧ W.cell? ⟨gw, i5 * 8 + 1, none⟩ = some (.int .i64 k1) ∧ W.cell? ⟨gw, i5 * 8 + 2, none⟩ = some (.int .i64 k2) ∧ W.cell? ⟨gs, so + i5, none⟩ = some (.int .i64 rv)) := fun W hW => by
                    have h1 := HRow.out
                    exact ⟨(HV6.out.kept hW).wsx.cells.1, (hW.cell (World.block_lt_of_cell? _ _ h1.1)).trans h1.1, (hW.cell (World.block_lt_of_cell? _ _ h1.2.1)).trans h1.2.1, (hW.cell (World.block_lt_of_cell? _ _ h1.2.2)).trans h1.2.2⟩
                  have HKi : Hid (KIn (k1, k2)) := by
                    have := HVb.out.2.2 ws[i5] (List.getElem_mem hil)
                    rw [← hki] at this
                    exact this
                  have HVis : Hid (∀ (a9 r9 : Int), visN (ofK (k1, k2) (ws ++ ext)) a9 = r9 → ∀ W, Below wr.heap.size wr W → Calls Try.prog 17 #[ptr S, .agg #[.int .i64 k1, .int .i64 k2], .int .i64 a9] W fun e w' => e = .returned (.int .i64 r9) ∧ Below wr.heap.size wr w') := fun a9 r9 h9 W hW => by
                    have h0 := (HV6.out.kept hW).wsx.st
                    have h1 := visible_st _ _ W S P 65536 last4 (ws ++ ext) h0 k1 k2 a9 HKi.out
                    rw [h9] at h1
                    exact h1.mono fun e w' ⟨b1, b2⟩ => ⟨b1, hW.trans (b2.mono hW.size)⟩
                  have HVa := hidC (HVis.out at_ rv (by rw [HMore.out, hrv]))
                  have HVm := hidC (HVis.out 4611686018427387904 r2 (by rw [hr2]; exact visN_all _ _ _ (fun v hv => by have := (HV6.out.ba v hv).2; have := HBt4.out; omega)))
                  have HVz := hidC (HVis.out 0 0 (visN_none _ _ _ (fun v hv => by have := (HV6.out.ba v hv).1; omega)))
                  have HNw : Hid (∀ W, Below wr.heap.size wr W → Calls Try.prog 15 #[ptr S, .agg #[.int .i64 k1, .int .i64 k2]] W fun e w' => e = .returned (.int .i64 r2) ∧ Below wr.heap.size wr w') := fun W hW => by
                    have h0 := (HV6.out.kept hW).wsx.st
                    have h1 := newest_st _ _ W S P 65536 last4 (ws ++ ext) h0 k1 k2 HKi.out
                    rw [← hr2] at h1
                    exact h1.mono fun e w' ⟨b1, b2⟩ => ⟨b1, hW.trans (b2.mono hW.size)⟩
                  have HBd : Hid (Below wr.heap.size wr wr.drew) := drew_below wr 1
                  obtain ⟨s0, y1, y2, y3⟩ := HCl.out wr (Below.refl _ _)
                  have hii : (i5 : Int) < (p : Int) := by omega
                  have hii2 : (i5 : Int) < (i : Int) := by have := HIp.out; omega
                  have hii3 : i5 < i := by have := HIp.out; omega
                  clear hki hrv hr2 hil HVis HRow HTh
                  go_upto_region 38 with fail
                  go_region_held3 (fun w' => w'.cell? ⟨B, 0, none⟩ = some (ptr S) ∧ w'.cell? ⟨gw, i5 * 8 + 1, none⟩ = some (.int .i64 k1) ∧ w'.cell? ⟨gw, i5 * 8 + 2, none⟩ = some (.int .i64 k2) ∧ w'.cell? ⟨gs, so + i5, none⟩ = some (.int .i64 rv)) (first | with_reducible exact HQe.out | with_reducible exact HQc.out | with_reducible exact HQb.out | with_reducible exact HQa.out | go_keep) (first
                    | (go_at_call 17; with_reducible refine (HVa.out _ HBd.out).mono ?_; rintro e wA ⟨rfl, hbA⟩; have HQa := hidC (HCl.out _ hbA); have HBa := hidC hbA; clear hbA)
                    | (go_at_call 17; with_reducible refine (HVm.out _ (by first | with_reducible exact HBc.out | with_reducible exact HBa.out)).mono ?_; rintro e wB ⟨rfl, hbB⟩; have HQb := hidC (HCl.out _ hbB); have HBb := hidC hbB; clear hbB)
                    | (go_at_call 15; with_reducible refine (HNw.out _ (by first | with_reducible exact HBb.out | with_reducible exact HBa.out)).mono ?_; rintro e wC ⟨rfl, hbC⟩; have HQc := hidC (HCl.out _ hbC); have HBc := hidC hbC; clear hbC)
                    | (go_at_call 17; with_reducible refine (HVz.out _ (by first | with_reducible exact HBc.out | with_reducible exact HBb.out)).mono ?_; rintro e wE ⟨rfl, hbE⟩; have HQe := hidC (HCl.out _ hbE); have HBe := hidC hbE; clear hbE))
                  all_goals (go_wp2; exact ⟨⟨i5 + 1, by omega, by rw [show ((i5 + 1 : Nat) : Int) = (i5 : Int) + 1 by omega], HV6.out.kept HBe.out⟩, by simp [intOf]; omega⟩)
                · as_aux_lemma =>
                  have HBf : Hid (Below w.heap.size w wr) := HBq.out.trans ((HV5.out.2.2.2.trans (HV6.out.kp.below HV5.out.1.wsx.n0l)).mono HBq.out.size)
                  go_wp2
                  go_ret
                  exact ⟨rfl, HBf.out⟩
end Go.Proofs.Ytfkijdlggdgfhaa
/-
  FROM THE READING OF A []api.Key ARGUMENT (OR FIELD) TO ITS KEYS.
-/
namespace Go.Proofs.Ytfkijdlggdgfhaa
open Go.ChangeShapes Go.WideShapes Go.ChangeAt Go.RowKit

theorem cellsKey : Try.prog.cellsOf 28 = 2 := by kernel_rfl
theorem cellsInt' : Try.prog.cellsOf 3 = 1 := by kernel_rfl
theorem cellsInt64' : Try.prog.cellsOf 2 = 1 := by kernel_rfl
theorem bytesKey : Try.prog.bytesOf 28 = 16 := by kernel_rfl
set_option maxRecDepth 100000 in
/-- one element -/
theorem key_of_trod {H : Type} {enc : TypeId × Value → H} {W : World} {fuel : Nat} {a : Addr} {i : Nat} {cs : List Value} {y : DataW H × List MemPlace} (hc : W.cells? 0 (a.add (i * 2)) 2 = some cs)
    (hf : DataW.trod enc Try.prog W 0 (fun _ => true) true fuel 28 cs = some y) :
    ∃ (b off : Nat) (k : K), a.add (i * 2) = ⟨b, off, none⟩ ∧ W.cell? ⟨b, off, none⟩ = some (.int .i64 k.1) ∧ W.cell? ⟨b, off + 1, none⟩ = some (.int .i64 k.2) ∧ In64 k.1 ∧ In64 k.2 := by
  obtain ⟨_, hlen, hcell⟩ := World.cells?_some hc
  obtain ⟨xs, k, hk, hxy, _, hxl, hf⟩ := DataW.trod_struct Try.underlying28 hf
  match xs, hxl, cs, hlen with
  | [y0, y1], _, [v0, v1], _ =>
    have g0 := hf 0 _ rfl
    have g1 := hf 1 _ rfl
    simp [cellsInt', cellsInt64'] at g0 g1
    have e0 := hcell 0 (by omega)
    have e1 := hcell 1 (by omega)
    generalize a.add (i * 2) = ad at *
    obtain ⟨b, off, spot⟩ := ad
    have hspot : spot = none := by
      have h1 : (⟨b, off, spot⟩ : Addr).add 0 = ⟨b, off, spot⟩ := by simp [Addr.add]
      rw [h1] at e0
      exact World.cell?_spot e0
    subst hspot
    rw [Go.WideShapes.add_plain] at e0 e1
    obtain ⟨x0, h0, _, wx0⟩ := DataW.trod_int Try.underlying3 g0
    obtain ⟨x1, h1, _, wx1⟩ := DataW.trod_int Try.underlying2 g1
    simp only [List.cons.injEq, and_true] at h0 h1
    subst h0 h1
    exact ⟨b, off, (x0, x1), rfl, by simpa using e0, by simpa using e1, bounds_i64 wx0, bounds_i64 wx1⟩
theorem cks_of {w : World} {b off : Nat} : ∀ (L : List K) (d : Nat), (∀ i, i < L.length → w.cell? ⟨b, off + (d + i) * 2, none⟩ = some (.int .i64 (kd L i).1) ∧ w.cell? ⟨b, off + (d + i) * 2 + 1, none⟩ = some (.int .i64 (kd L i).2)) →
    ∀ j u, (cks L)[j]? = some u → w.cell? ⟨b, off + d * 2 + j, none⟩ = some u
  | [], _, _, j, u, hu => by simp [cks] at hu
  | k :: L, d, h, 0, u, hu => by
    have := (h 0 (by simp)).1
    simp [cks] at hu
    simpa [kd, hu] using this
  | k :: L, d, h, 1, u, hu => by
    have := (h 0 (by simp)).2
    simp [cks] at hu
    simpa [kd, hu] using this
  | k :: L, d, h, j + 2, u, hu => by
    have ih := cks_of (w := w) (b := b) (off := off) L (d + 1) (fun i hi => by
      have := h (i + 1) (by simp; omega)
      rw [kd_cons_succ, show d + (i + 1) = d + 1 + i by omega] at this
      exact this) j u (by simpa [cks] using hu)
    rw [show off + (d + 1) * 2 + j = off + d * 2 + (j + 2) by omega] at ih
    exact ih
set_option maxRecDepth 100000 in
/-- what the reading of a slice of keys gives -/
theorem keys_of_trod {H : Type} {enc : TypeId × Value → H} {W : World} {fuel : Nat} {cs : List Value} {y : DataW H × List MemPlace}
    (hf : DataW.trod enc Try.prog W 0 (fun _ => true) true fuel 38 cs = some y) :
    ∃ (a : Option Addr) (len cap : Nat) (ks : List K), cs = [.slice a len cap] ∧ (len = ks.length ∧ KeysAt W a ks ∧ (a = none → cap = 0) ∧ len ≤ cap ∧ cap ≤ maxLen ∧ ∀ k ∈ ks, In64 k.1 ∧ In64 k.2) ∧
      (len = 0 ∨ ∃ elems spare, y.1 = .slice elems spare ∧ len ≤ elems.length + spare.length) := by
  rcases Deep.open_slice Try.underlying38 hf with ⟨rfl, rfl⟩ | ⟨a, len, cap, m, n, D, Pl, rfl, hb, hl, hm, hmm, rfl, hx⟩
  · exact ⟨none, 0, 0, [], rfl, ⟨rfl, .inl rfl, fun _ => rfl, Nat.le_refl _, Nat.zero_le _, by simp⟩, .inl rfl⟩
  · have hle : len ≤ m := by rw [hmm]; simpa using hl
    rw [cellsKey] at hx
    obtain ⟨Z, hZ⟩ := Deep.choose_lt (α := K) (n := len) (p := fun i k => ∃ b off, a.add (i * 2) = ⟨b, off, none⟩ ∧ W.cell? ⟨b, off, none⟩ = some (.int .i64 k.1) ∧ W.cell? ⟨b, off + 1, none⟩ = some (.int .i64 k.2) ∧ In64 k.1 ∧ In64 k.2) (fun i hi => by
      obtain ⟨cs', h1, h2⟩ := hx i (by omega)
      obtain ⟨b, off, k, h3⟩ := key_of_trod h1 h2
      exact ⟨k, b, off, h3⟩)
    refine ⟨some a, len, cap, (List.range len).map Z, rfl, ⟨by simp, ?_, by simp, by simpa using hl, hm, ?_⟩, .inr ⟨_, _, rfl, ?_⟩⟩
    · by_cases h0 : len = 0
      · left; subst h0; rfl
      · right
        obtain ⟨b, off, h1, _⟩ := hZ 0 (by omega)
        have h1' : a = ⟨b, off, none⟩ := by simpa [Addr.add] using h1
        subst h1'
        refine ⟨b, off, rfl, fun j u hu => ?_⟩
        have := cks_of (w := W) (b := b) (off := off) ((List.range len).map Z) 0 (fun i hi => by
          have hi' : i < len := by simpa using hi
          obtain ⟨b', off', h2, h3, h4, _⟩ := hZ i hi'
          rw [Go.WideShapes.add_plain] at h2
          simp only [Addr.mk.injEq, and_true] at h2
          obtain ⟨rfl, rfl⟩ := h2
          have e : kd ((List.range len).map Z) i = Z i := by simp [kd, List.getD_eq_getElem?_getD, hi']
          rw [e, Nat.zero_add]
          exact ⟨h3, h4⟩) j u hu
        simpa using this
    · intro k hk
      obtain ⟨i, hi, rfl⟩ := List.mem_map.1 hk
      obtain ⟨_, _, _, _, _, h5⟩ := hZ i (by simpa using hi)
      exact h5
    · simp
theorem keys_of_sized {H : Type} {ts : List TypeId} {ds : List (DataW H)} {j len : Nat} {d : DataW H} (h : (DataW.weightsEach Try.prog ts ds).all (· ≤ reachBytes) = true) (ht : ts[j]? = some 38) (hd : ds[j]? = some d)
    (hx : len = 0 ∨ ∃ elems spare, d = .slice elems spare ∧ len ≤ elems.length + spare.length) : len * 16 ≤ 140737488351232 := by
  rcases hx with h0 | ⟨elems, spare, rfl, hl⟩
  · omega
  · have h1 := sized_slice h ht hd Try.underlying38
    rw [bytesKey] at h1
    simp only [reachBytes] at h1
    omega

end Go.Proofs.Ytfkijdlggdgfhaa
/-
  FROM THE READING OF A []Write ARGUMENT (layer 9) TO ITS WRITES.
-/
namespace Go.Proofs.Ytfkijdlggdgfhaa
open Go.ChangeShapes Go.WideShapes Go.ChangeAt Go.RowKit

instance : Inhabited Wq := ⟨⟨(0, 0), 0, 0, false, false, 0, 0⟩⟩
theorem cellsWr : Try.prog.cellsOf 32 = 8 := by kernel_rfl
theorem cellsCell : Try.prog.cellsOf 30 = 2 := by kernel_rfl
theorem cellsBoolW : Try.prog.cellsOf 4 = 1 := by kernel_rfl
set_option maxRecDepth 100000 in
/-- one element -/
theorem wr_of_trod {H : Type} {enc : TypeId × Value → H} {W : World} {fuel : Nat} {a : Addr} {i : Nat} {cs : List Value} {y : DataW H × List MemPlace} (hc : W.cells? 0 (a.add (i * 8)) 8 = some cs)
    (hf : DataW.trod enc Try.prog W 0 (fun _ => true) true fuel 32 cs = some y) :
    ∃ (b off : Nat) (x : Wq), a.add (i * 8) = ⟨b, off, none⟩ ∧ (∀ j u, (wqc x)[j]? = some u → W.cell? ⟨b, off + j, none⟩ = some u) ∧ WqIn x := by
  obtain ⟨_, hlen, hcell⟩ := World.cells?_some hc
  obtain ⟨xs, k, hk, hxy, _, hxl, hf⟩ := DataW.trod_struct Try.underlying32 hf
  match xs, hxl, cs, hlen with
  | [y0, y1, y2, y3, y4, y5], _, [v0, v1, v2, v3, v4, v5, v6, v7], _ =>
    have g0 := hf 0 _ rfl
    have g1 := hf 1 _ rfl
    have g2 := hf 2 _ rfl
    have g3 := hf 3 _ rfl
    have g4 := hf 4 _ rfl
    have g5 := hf 5 _ rfl
    simp [cellsInt', cellsKey, cellsBoolW, cellsCell] at g0 g1 g2 g3 g4 g5
    have e0 := hcell 0 (by omega)
    have e1 := hcell 1 (by omega)
    have e2 := hcell 2 (by omega)
    have e3 := hcell 3 (by omega)
    have e4 := hcell 4 (by omega)
    have e5 := hcell 5 (by omega)
    have e6 := hcell 6 (by omega)
    have e7 := hcell 7 (by omega)
    generalize a.add (i * 8) = ad at *
    obtain ⟨b, off, spot⟩ := ad
    have hspot : spot = none := by
      have h1 : (⟨b, off, spot⟩ : Addr).add 0 = ⟨b, off, spot⟩ := by simp [Addr.add]
      rw [h1] at e0
      exact World.cell?_spot e0
    subst hspot
    rw [Go.WideShapes.add_plain] at e0 e1 e2 e3 e4 e5 e6 e7
    obtain ⟨x2, h2, _, w2⟩ := DataW.trod_int Try.underlying3 g1
    obtain ⟨x3, h3, _, w3⟩ := DataW.trod_int Try.underlying3 g2
    obtain ⟨x4, h4, _⟩ := DataW.trod_bool Try.underlying4 g3
    obtain ⟨x7, h7, _, w7⟩ := DataW.trod_int Try.underlying3 g5
    obtain ⟨zs, kz, _, _, _, hzl, hz⟩ := DataW.trod_struct Try.underlying28 g0
    obtain ⟨rs, kr, _, _, _, hrl, hr⟩ := DataW.trod_struct Try.underlying30 g4
    match zs, hzl, rs, hrl with
    | [u0, u1], _, [r0, r1], _ =>
      have q0 := hz 0 _ rfl
      have q1 := hz 1 _ rfl
      have p0 := hr 0 _ rfl
      have p1 := hr 1 _ rfl
      simp [cellsInt', cellsInt64', cellsBoolW] at q0 q1 p0 p1
      obtain ⟨t0, m0, _, w0⟩ := DataW.trod_int Try.underlying3 q0
      obtain ⟨t1, m1, _, w1⟩ := DataW.trod_int Try.underlying2 q1
      obtain ⟨t5, m5, _⟩ := DataW.trod_bool Try.underlying4 p0
      obtain ⟨t6, m6, _, w6⟩ := DataW.trod_int Try.underlying2 p1
      simp only [List.cons.injEq, and_true] at h2 h3 h4 h7 m0 m1 m5 m6
      subst h2 h3 h4 h7 m0 m1 m5 m6
      refine ⟨b, off, ⟨(t0, t1), x2, x3, x4, t5, t6, x7⟩, rfl, fun j u hu => ?_, ⟨bounds_i64 w0, bounds_i64 w1⟩, bounds_i64 w2, bounds_i64 w3, bounds_i64 w6, bounds_i64 w7⟩
      match j, hu with
      | 0, hu => simp [wqc] at hu; subst hu; simpa using e0
      | 1, hu => simp [wqc] at hu; subst hu; simpa using e1
      | 2, hu => simp [wqc] at hu; subst hu; simpa using e2
      | 3, hu => simp [wqc] at hu; subst hu; simpa using e3
      | 4, hu => simp [wqc] at hu; subst hu; simpa using e4
      | 5, hu => simp [wqc] at hu; subst hu; simpa using e5
      | 6, hu => simp [wqc] at hu; subst hu; simpa using e6
      | 7, hu => simp [wqc] at hu; subst hu; simpa using e7
      | j + 8, hu => simp [wqc] at hu
set_option maxRecDepth 100000 in
theorem ws_of_trod {H : Type} {enc : TypeId × Value → H} {W : World} {fuel : Nat} {cs : List Value} {y : DataW H × List MemPlace}
    (hf : DataW.trod enc Try.prog W 0 (fun _ => true) true fuel 22 cs = some y) :
    ∃ (a : Option Addr) (len cap : Nat) (S : List Wq), cs = [.slice a len cap] ∧ len = S.length ∧ WrsAt W a S ∧ (∀ x ∈ S, WqIn x) ∧
      (len = 0 ∨ ∃ elems spare, y.1 = .slice elems spare ∧ len ≤ elems.length + spare.length) := by
  rcases Deep.open_slice Try.underlying22 hf with ⟨rfl, rfl⟩ | ⟨a, len, cap, m, n, D, Pl, rfl, hb, hl, hm, hmm, rfl, hx⟩
  · exact ⟨none, 0, 0, [], rfl, rfl, .inl rfl, by simp, .inl rfl⟩
  · have hle : len ≤ m := by rw [hmm]; simpa using hl
    rw [cellsWr] at hx
    obtain ⟨Z, hZ⟩ := Deep.choose_lt (α := Wq) (n := len) (p := fun i x => ∃ b off, a.add (i * 8) = ⟨b, off, none⟩ ∧ (∀ j u, (wqc x)[j]? = some u → W.cell? ⟨b, off + j, none⟩ = some u) ∧ WqIn x) (fun i hi => by
      obtain ⟨cs', h1, h2⟩ := hx i (by omega)
      obtain ⟨b, off, x, h3, h4, h5⟩ := wr_of_trod h1 h2
      exact ⟨x, b, off, h3, h4, h5⟩)
    refine ⟨some a, len, cap, (List.range len).map Z, rfl, by simp, ?_, ?_, .inr ⟨_, _, rfl, by simp⟩⟩
    · by_cases h0 : len = 0
      · left; subst h0; rfl
      · right
        obtain ⟨b, off, h1, h1c, _⟩ := hZ 0 (by omega)
        have h1' : a = ⟨b, off, none⟩ := by simpa [Addr.add] using h1
        subst h1'
        refine ⟨b, off, rfl, ?_, fun j hj i u hu => ?_⟩
        · have := h1c 0 _ rfl
          exact World.block_lt_of_cell? _ _ this
        · have hj' : j < len := by simpa using hj
          obtain ⟨b', off', h2, h3, _⟩ := hZ j hj'
          rw [Go.WideShapes.add_plain] at h2
          simp only [Addr.mk.injEq, and_true] at h2
          obtain ⟨rfl, rfl⟩ := h2
          simp only [List.getElem_map, List.getElem_range] at hu
          exact h3 i u hu
    · intro o ho
      obtain ⟨i, hi, rfl⟩ := List.mem_map.1 ho
      obtain ⟨_, _, _, _, h5⟩ := hZ i (by simpa using hi)
      exact h5
end Go.Proofs.Ytfkijdlggdgfhaa
/-
  WHAT THE BOUND ON THE BULK GIVES.
-/
namespace Go.Proofs.Ytfkijdlggdgfhaa

theorem bulk_one {H : Type} (d : DataW H) : 1 ≤ Rows.uptoBulk d := by
  cases d with
  | lit l => cases l <;> simp [Rows.uptoBulk]
  | _ => simp [Rows.uptoBulk]
theorem bulk_length {H : Type} (l : List (DataW H)) : l.length ≤ Rows.uptoBulkAll l := by
  induction l with
  | nil => simp [Rows.uptoBulkAll]
  | cons x r ih => have := bulk_one x; simp only [Rows.uptoBulkAll, List.length_cons]; omega
theorem bulk_slice {H : Type} (elems spare : List (DataW H)) : elems.length + spare.length + 1 ≤ Rows.uptoBulk (.slice elems spare) := by
  have h1 := bulk_length elems
  have h2 := bulk_length spare
  simp only [Rows.uptoBulk]
  omega
theorem bulk_bytes {H : Type} {d : DataW H} {len : Nat} (h : len = 0 ∨ ∃ elems spare, d = .slice elems spare ∧ len ≤ elems.length + spare.length) : len + 1 ≤ Rows.uptoBulk d := by
  rcases h with h | ⟨elems, spare, rfl, hl⟩
  · have := bulk_one d; omega
  · have := bulk_slice elems spare; omega
theorem bulk_of_small {H : Type} {l : List (DataW H)} (h : Rows.uptoSmall H l = true) : Rows.uptoBulkAll l ≤ 1048576 := of_decide_eq_true h

end Go.Proofs.Ytfkijdlggdgfhaa
/-
  FROM THE READING OF A Looked ARGUMENT (layer 9) TO ITS TWO LISTS OF WRITES.
-/
namespace Go.Proofs.Ytfkijdlggdgfhaa
open Go.ChangeShapes Go.WideShapes Go.ChangeAt Go.RowKit

theorem cellsLk : Try.prog.cellsOf 44 = 4 := by kernel_rfl
theorem cellsWrs : Try.prog.cellsOf 22 = 1 := by kernel_rfl
theorem array4 {a : Array Value} (h : a.size = 4) : ∃ c0 c1 c2 c3, a = #[c0, c1, c2, c3] := by
  match a, h with
  | ⟨[c0, c1, c2, c3]⟩, _ => exact ⟨c0, c1, c2, c3, rfl⟩
set_option maxRecDepth 100000 in
theorem looked_of_trod {H : Type} {enc : TypeId × Value → H} {W : World} {r : Reach} {b0 : Nat} {v : Value} {d : DataW H} {q : List MemPlace} (hv : Value.okWide Try.prog W r b0 44 v)
    (h : DataW.Trod enc Try.prog W 0 (fun _ => true) true 44 v d q) :
    ∃ (pp bq : Int) (a1 : Option Addr) (m1 c1 : Nat) (l1 : List Wq) (a2 : Option Addr) (m2 c2 : Nat) (l2 : List Wq), v = .agg #[.int .i64 pp, .slice a1 m1 c1, .slice a2 m2 c2, .int .i64 bq] ∧ m1 = l1.length ∧ WrsAt W a1 l1 ∧ (∀ x ∈ l1, WqIn x) ∧ m2 = l2.length ∧ WrsAt W a2 l2 ∧ (∀ x ∈ l2, WqIn x) ∧ In64 bq ∧ m1 + 1 ≤ Rows.uptoBulk d ∧ m2 + 1 ≤ Rows.uptoBulk d := by
  obtain ⟨cs, rfl, hsz⟩ := okWide_struct Try.underlying44 hv
  obtain ⟨k0, k1, k2, k3, rfl⟩ := array4 (hsz.trans cellsLk)
  obtain ⟨fuel, hf⟩ := h
  obtain ⟨xs, k, hk, hxy, _, hxl, hf⟩ := DataW.trod_struct Try.underlying44 (by simpa [Value.cells] using hf)
  match xs, hxl with
  | [y0, y1, y2, y3], _ =>
    have g0 := hf 0 _ rfl
    have g1 := hf 1 _ rfl
    have g2 := hf 2 _ rfl
    have g3 := hf 3 _ rfl
    simp [cellsInt', cellsWrs] at g0 g1 g2 g3
    obtain ⟨pp, e0, _, _⟩ := DataW.trod_int Try.underlying3 g0
    obtain ⟨bq, e3, _, wb⟩ := DataW.trod_int Try.underlying3 g3
    obtain ⟨a1, m1, c1, l1, e1, ln1, hs1, in1, hx1⟩ := ws_of_trod g1
    obtain ⟨a2, m2, c2, l2, e2, ln2, hs2, in2, hx2⟩ := ws_of_trod g2
    simp only [List.cons.injEq, and_true] at e0 e1 e2 e3
    subst e0 e1 e2 e3
    have hd : d = (DataW.agg [y0.1, y1.1, y2.1, y3.1]) := by simpa using congrArg Prod.fst hxy
    have u1 := bulk_bytes hx1
    have u2 := bulk_bytes hx2
    refine ⟨pp, bq, a1, m1, c1, l1, a2, m2, c2, l2, rfl, ln1, hs1, in1, ln2, hs2, in2, bounds_i64 wb, ?_, ?_⟩
    · rw [hd]; simp only [Rows.uptoBulk, Rows.uptoBulkAll]; omega
    · rw [hd]; simp only [Rows.uptoBulk, Rows.uptoBulkAll]; omega
end Go.Proofs.Ytfkijdlggdgfhaa
/-
  StoreVisible: THE ROW.
-/
namespace Go.Proofs.Ytfkijdlggdgfhaa.storeVisible
open Go.ChangeShapes Go.WideShapes Go.ChangeAt Go.RowKit

theorem own : ownKnob Try.prog.godebug = none := by kernel_rfl
theorem laidOut : laidOutB Try.prog = true := by kernel_rfl

set_option maxRecDepth 100000 in
theorem contract (H : Type) (enc : TypeId × Value → H) (W : World) (base : Nat) (args : Array Value) (ds gs : List (DataW H)) (before : List MemPlace)
    (hval : ∀ (j : Nat) t v, Try.f4.params[j]? = some t → args[j]? = some v → Value.okWide Try.prog W .any base t v)
    (hW : DataW.Whole enc Try.prog Try.f4.params.toList Rows.storeVisibleSpec.vars false W args.toList ds gs before) (hk : Rows.uptoSmall H (ds ++ gs) = true) :
    Calls Try.prog 4 args W fun e W' => ∃ v, e = .returned v ∧ Rows.storeVisibleSpec.post enc Try.prog Try.f4 false true false false W args v W' := by
  have hW' := hW
  obtain ⟨p, q, hA0, hV, rfl, hfz, hnd⟩ := hW
  have hA : DataW.TrodAll enc Try.prog W 0 (fun _ => true) true Try.f4.params.toList args.toList ds p := hA0
  rw [Try.params4] at hA hval
  obtain ⟨v0, vs0, d0, ds0, p0, q0, hargs, rfl, rfl, h0, r0⟩ := trodAll_cons hA
  obtain ⟨rfl, rfl, rfl⟩ := trodAll_nil r0
  obtain rfl : args = #[v0] := by cases args; simp_all
  obtain ⟨rfl, rfl⟩ := trodVars_none hV
  have hbulk := bulk_of_small hk
  simp only [List.append_nil, Rows.uptoBulkAll] at hbulk
  have k0 := h0
  have lt0 : ∀ x ∈ p0, x.block < W.heap.size := by obtain ⟨m, hm⟩ := k0; exact DataW.trod_lt m _ _ _ hm
  obtain ⟨x_0, y_0, a_0, len_0, cap_0, S_0, a2_0, len2_0, cap2_0, S2_0, rfl, ln_0, hs_0, inS_0, ln2_0, hs2_0, inS2_0, iny_0, hu_0, hu2_0⟩ := looked_of_trod (hval 0 44 v0 rfl rfl) h0
  clear hA0
  refine (law_svis W x_0 y_0 a_0 len_0 cap_0 S_0 a2_0 len2_0 cap2_0 S2_0 ln_0 (by omega) hs_0 inS_0 ln2_0 (by omega) hs2_0 inS2_0 iny_0).mono fun e W' ⟨he, bel⟩ => ?_
  subst he
  exact ⟨_, rfl, _, _, _, [], _, [], hW', trodAll_mk1 (shut_bool Try.underlying4 _), (trodAll_cons_mk (Below.trod laidOut (by kernel_rfl) (of_decide_eq_true (by kernel_rfl)) k0 bel lt0) trodAll_mk0), rfl, bel.frame _, fun h => by cases h⟩

set_option maxRecDepth 100000 in
theorem lifted (os : Os) (started : os.Started) (H : Type) (enc : TypeId × Value → H) (F : Stop.Interp) :
    ReturnsInHanded {} Try.checked os 4 .any ((Rows.OpenSpec.upto Rows.storeVisibleSpec).pre6 enc Try.prog Try.f4 Rows.storeVisibleUptoRow.domain false) (((Rows.OpenSpec.upto Rows.storeVisibleSpec).at F).post enc Try.prog Try.f4 false true false false) := by
  refine returnsInHanded_of_cond (C := Try.checked) (s := Rows.OpenSpec.upto Rows.storeVisibleSpec) (k := Rows.uptoSmall) rfl own started (by kernel_rfl) Try.func4
    (OpenSpec.witness (enc := enc) (C := Try.checked) (s := Rows.OpenSpec.upto Rows.storeVisibleSpec) (k := Rows.uptoSmall) rfl false ⟨#[], #[.agg #[.int .i64 0, .slice none 0 0, .slice none 0 0, .int .i64 0]], []⟩ 8 (by kernel_rfl) (by kernel_rfl) (by kernel_rfl)
      (x := ([.agg [.lit (.int .i64 0), .nil, .nil, .lit (.int .i64 0)]], [], [])) (by kernel_rfl) rfl (by kernel_rfl)) ?_
  intro W base args ds gs before hval hW _ hk _
  exact contract H enc W base args ds gs before hval hW hk

theorem proved : Rows.StoreVisibleUptoSaid :=
  OpenClaim.holds_of_cond 4 Try.f4 rfl rfl rfl rfl rfl rfl rfl ⟨rfl, rfl, rfl, rfl, rfl⟩ rfl rfl rfl rfl rfl (by kernel_rfl) Try.func4 (by kernel_rfl)
    (of_decide_eq_true (by kernel_rfl)) (by unfold Func.isWrapper; first | (rw [if_pos (by decide +kernel)]; kernel_rfl) | (rw [if_neg (by decide +kernel)]; exact ⟨rfl, rfl⟩))
    (fun os started H enc _ F => lifted os started H enc F)
end Go.Proofs.Ytfkijdlggdgfhaa.storeVisible
namespace Go.Proofs.Ytfkijdlggdgfhaa
theorem storeVisibleUpto_holds : Rows.StoreVisibleUptoSaid := storeVisible.proved
#print axioms storeVisibleUpto_holds
end Go.Proofs.Ytfkijdlggdgfhaa
