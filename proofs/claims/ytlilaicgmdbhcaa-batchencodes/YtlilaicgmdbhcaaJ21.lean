import Derived.Test.YtlilaicgmdbhcaaJ19
import Derived.Test.YtlilaicgmdbhcaaJ12
import Derived.Test.YtlilaicgmdbhcaaJ20
import Derived.Deep.RegionHeld3
import Derived.Deep.RegionWith
import Derived.Test.YtlilaicgmdbhcaaJ04
import Derived.Deep.MidRow
import Derived.Test.YtlilaicgmdbhcaaJ10
/-
  THE WALKS OF giveUp, look, end, upto.
-/
namespace Go.Proofs.Ytlilaicgmdbhcaa.Kk
open Go.RowKit Go.Sort

/-- a reading -/
abbrev rdv (r : Nat) : Value := .agg #[.pointer (some ⟨r, 0, none⟩)]
/-- what reading panics with -/
abbrev flt (p : Nat) (e : Int) : List PanicEntry := [{ v := .iface 79 (.agg #[.int .i64 (p : Int), .int .i64 e]), recovered := false }]

theorem upto_le (b : List Nat) (p most : Nat) : (rdUpto b p 0 most).1 ≤ most := by
  unfold rdUpto
  repeat' split
  all_goals (try simp)
  all_goals omega
theorem giveUp_ok (w : World) (r : Nat) :
    Calls Try.prog 62 #[rdv r, .int .i64 0] w fun e' w' => e' = .returned (.tuple #[]) ∧ Grew w w' := by
  have HG : Hid (Grew w (w.alloc (.cells #[.pointer (some ⟨r, 0, none⟩)] 83))) := (Grew.refl _).alloc _
  go_enter Try.func62, Try.ntmps62
  go_wp2
  go_end0
  exact ⟨rfl, HG.out⟩

set_option maxHeartbeats 1000000 in
theorem giveUp_bad (w : World) (r : Nat) (a : Option Addr) (c : Nat) (b : List Nat) (p : Nat) (e e0 : Int) (h : IsReader w r a c b p e0) (he : e ≠ 0) :
    Calls Try.prog 62 #[rdv r, .int .i64 e] w fun e' w' => e' = .panicked (flt p e) ∧ Grew w w' := by
  have HG : Hid (Grew w (w.alloc (.cells #[.pointer (some ⟨r, 0, none⟩)] 83))) := (Grew.refl _).alloc _
  have HR : Hid (IsReader (w.alloc (.cells #[.pointer (some ⟨r, 0, none⟩)] 83)) r a c b p e0) := h.kept HG.out.below
  have he' : ¬ e = 0 := he
  clear h he
  go_enter Try.func62, Try.ntmps62
  go_wp2_with fail
  refine (rAt_any _ r a c b p e0 HR.out).mono ?_
  rintro e1 w1 ⟨rfl, hw⟩
  subst hw
  go_wp2
  exact ⟨rfl, rfl, HG.out⟩

set_option maxHeartbeats 1000000 in
theorem look_ok (w : World) (r : Nat) (a : Option Addr) (c : Nat) (b : List Nat) (p : Nat) (h : IsReader w r a c b p 0) :
    Calls Try.prog 75 #[rdv r] w fun e' w' => e' = .returned (.tuple #[]) ∧ Grew w w' := by
  have mx := mixed
  have HG : Hid (Grew w (w.alloc (.cells #[.pointer (some ⟨r, 0, none⟩)] 83))) := (Grew.refl _).alloc _
  have HR : Hid (IsReader (w.alloc (.cells #[.pointer (some ⟨r, 0, none⟩)] 83)) r a c b p 0) := h.kept HG.out.below
  have k0 : (w.alloc (.cells #[.pointer (some ⟨r, 0, none⟩)] 83)).cell? ⟨w.heap.size, 0, none⟩ = some (.pointer (some ⟨r, 0, none⟩)) := cell_new _ _ _ 0 _ rfl
  clear h
  go_enter Try.func75, Try.ntmps75
  go_upto_region 1 with fail
  generalize w.alloc (.cells #[.pointer (some ⟨r, 0, none⟩)] 83) = W0 at *
  have g0 : ∀ n os, (grow (W0.drewN n) os).cell? ⟨w.heap.size, 0, none⟩ = some (.pointer (some ⟨r, 0, none⟩)) := fun n os => Grew.cell ⟨n, os, rfl⟩ k0
  have HE : Hid (∀ n os, Calls Try.prog 85 #[.pointer (some ⟨r, 0, none⟩)] (grow (W0.drewN n) os) fun e w' => e = .returned (.int .i64 0) ∧ ∃ q os', w' = grow ((grow (W0.drewN n) os).drewN q) os') := fun n os => (rErr_any _ r a c b p 0 (HR.out.kept (Grew.below ⟨n, os, rfl⟩))).mono fun e w' h => ⟨h.1, 0, #[], by rw [h.2, grow_empty]; rfl⟩
  have HU : Hid (∀ n os, Calls Try.prog 62 #[rdv r, .int .i64 0] (grow (W0.drewN n) os) fun e w' => e = .returned (.tuple #[]) ∧ ∃ q os', w' = grow ((grow (W0.drewN n) os).drewN q) os') := fun n os => giveUp_ok _ r
  clear k0
  refine wp_region_quiet_grown mx (by kernel_rfl) ?_
  repeat (go_big_quiet_step (first | (go_at_call 85; exact Calls.grown_of (HE.out _ _)) | (go_at_call 62; exact Calls.grown_of (HU.out _ _))))
  refine wpQuiet_nil ?_
  intro _ hw'
  obtain ⟨⟨nq, osq⟩, hw''⟩ := hw'
  subst hw''
  go_wp2
  go_end0
  exact ⟨rfl, HG.out.trans ⟨_, _, rfl⟩⟩

set_option maxRecDepth 100000 in
set_option maxHeartbeats 1000000 in
theorem look_bad (w : World) (r : Nat) (a : Option Addr) (c : Nat) (b : List Nat) (p : Nat) (e : Int) (h : IsReader w r a c b p e) (he : e ≠ 0) :
    Calls Try.prog 75 #[rdv r] w fun e' w' => e' = .panicked (flt p (e)) ∧ Grew w w' := by
  have HG : Hid (Grew w (w.alloc (.cells #[.pointer (some ⟨r, 0, none⟩)] 83))) := (Grew.refl _).alloc _
  have HR : Hid (IsReader (w.alloc (.cells #[.pointer (some ⟨r, 0, none⟩)] 83)) r a c b p e) := h.kept HG.out.below
  have k0 : (w.alloc (.cells #[.pointer (some ⟨r, 0, none⟩)] 83)).cell? ⟨w.heap.size, 0, none⟩ = some (.pointer (some ⟨r, 0, none⟩)) := cell_new _ _ _ 0 _ rfl
  have HN : Hid (e ≠ 0) := he
  clear h he
  go_enter Try.func75, Try.ntmps75
  go_upto_region 1 with fail
  generalize w.alloc (.cells #[.pointer (some ⟨r, 0, none⟩)] 83) = W0 at *
  have HRd : Hid (IsReader W0.drew r a c b p e) := HR.out.drewN 1
  have kd0 : W0.drew.cell? ⟨w.heap.size, 0, none⟩ = some (.pointer (some ⟨r, 0, none⟩)) := k0
  have HGd : Hid (Grew w W0.drew) := HG.out.drew
  have HW : Hid (∀ w1, w1 = W0.drew → Hid (IsReader w1 r a c b p e) ∧ Hid (Grew w w1) ∧ w1.cell? ⟨w.heap.size, 0, none⟩ = some (.pointer (some ⟨r, 0, none⟩))) := fun w1 h => by subst h; exact ⟨HRd, HGd, kd0⟩
  clear k0
  refine wp_region_any (by kernel_rfl) ?_
  change wpAny _ _ _ _ _ _ _ (World.drew _)
  generalize W0.drew = V at *
  refine wpAny_take (i := 1) (v := .pointer (some ⟨w.heap.size, 0, none⟩)) rfl (by kernel_rfl) (by kernel_rfl) (by kernel_rfl) (fun _ _ _ h => h) (Or.inl ⟨by rfl, ?_⟩) ?_
  · intro w; go_simp
  refine wpAny_ready (rs := [0, 2]) (by kernel_rfl) (by simp) ?_
  refine AllReady.cons rfl (fun K hK => ?_) ?_
  · go_simp
    refine hK _ _ ?_
    clear hK K
    refine wpAny_ready (rs := [2]) (by kernel_rfl) (by simp) ?_
    refine AllReady.cons rfl (fun K hK => ?_) ?_
    · go_simp
      refine hK _ _ ?_
      clear hK K
      refine wpAny_ready (rs := [3]) (by kernel_rfl) (by simp) ?_
      refine AllReady.cons rfl (fun K hK => ?_) ?_
      · go_simp
        refine (rErr_any _ r a c b p e HRd.out).mono ?_
        rintro e1 w1 ⟨rfl, hw1⟩
        obtain ⟨HR1, HG1, k1⟩ := HW.out w1 hw1
        refine hK _ _ ?_
        clear hK K hw1
        refine wpAny_ready (rs := [4]) (by kernel_rfl) (by simp) ?_
        refine AllReady.cons rfl (fun K hK => ?_) ?_
        · go_simp
          refine (giveUp_bad _ r a c b p e e HR1.out HN.out).mono ?_
          rintro e2 w2 ⟨rfl, hg2⟩
          exact ⟨rfl, rfl, HG1.out.trans hg2⟩
        exact AllReady.nil
      exact AllReady.nil
    exact AllReady.nil
  refine AllReady.cons rfl (fun K hK => ?_) ?_
  · go_simp
    refine hK _ _ ?_
    clear hK K
    refine wpAny_ready (rs := [0, 3]) (by kernel_rfl) (by simp) ?_
    refine AllReady.cons rfl (fun K hK => ?_) ?_
    · go_simp
      refine hK _ _ ?_
      clear hK K
      refine wpAny_ready (rs := [3]) (by kernel_rfl) (by simp) ?_
      refine AllReady.cons rfl (fun K hK => ?_) ?_
      · go_simp
        refine (rErr_any _ r a c b p e HRd.out).mono ?_
        rintro e1 w1 ⟨rfl, hw1⟩
        obtain ⟨HR1, HG1, k1⟩ := HW.out w1 hw1
        refine hK _ _ ?_
        clear hK K hw1
        refine wpAny_ready (rs := [4]) (by kernel_rfl) (by simp) ?_
        refine AllReady.cons rfl (fun K hK => ?_) ?_
        · go_simp
          refine (giveUp_bad _ r a c b p e e HR1.out HN.out).mono ?_
          rintro e2 w2 ⟨rfl, hg2⟩
          exact ⟨rfl, rfl, HG1.out.trans hg2⟩
        exact AllReady.nil
      exact AllReady.nil
    refine AllReady.cons rfl (fun K hK => ?_) ?_
    · go_simp
      refine (rErr_any _ r a c b p e HRd.out).mono ?_
      rintro e1 w1 ⟨rfl, hw1⟩
      obtain ⟨HR1, HG1, k1⟩ := HW.out w1 hw1
      refine hK _ _ ?_
      clear hK K hw1
      refine wpAny_ready (rs := [0]) (by kernel_rfl) (by simp) ?_
      refine AllReady.cons rfl (fun K hK => ?_) ?_
      · go_simp
        refine hK _ _ ?_
        clear hK K
        refine wpAny_ready (rs := [4]) (by kernel_rfl) (by simp) ?_
        refine AllReady.cons rfl (fun K hK => ?_) ?_
        · go_simp
          refine (giveUp_bad _ r a c b p e e HR1.out HN.out).mono ?_
          rintro e2 w2 ⟨rfl, hg2⟩
          exact ⟨rfl, rfl, HG1.out.trans hg2⟩
        exact AllReady.nil
      exact AllReady.nil
    exact AllReady.nil
  exact AllReady.nil
set_option maxHeartbeats 1000000 in
theorem end_ok (w : World) (r : Nat) (a : Option Addr) (c : Nat) (b : List Nat) (p : Nat) (h : IsReader w r a c b p 0) (hp : p = b.length) :
    Calls Try.prog 44 #[rdv r] w fun e' w' => e' = .returned (.tuple #[]) ∧ Grew w w' := by
  have mx := mixed
  have HG : Hid (Grew w (w.alloc (.cells #[.pointer (some ⟨r, 0, none⟩)] 83))) := (Grew.refl _).alloc _
  have HR : Hid (IsReader (w.alloc (.cells #[.pointer (some ⟨r, 0, none⟩)] 83)) r a c b p 0) := h.kept HG.out.below
  have k0 : (w.alloc (.cells #[.pointer (some ⟨r, 0, none⟩)] 83)).cell? ⟨w.heap.size, 0, none⟩ = some (.pointer (some ⟨r, 0, none⟩)) := cell_new _ _ _ 0 _ rfl
  clear h
  go_enter Try.func44, Try.ntmps44
  go_upto_region 1 with fail
  generalize w.alloc (.cells #[.pointer (some ⟨r, 0, none⟩)] 83) = W0 at *
  have g0 : ∀ n os, (grow (W0.drewN n) os).cell? ⟨w.heap.size, 0, none⟩ = some (.pointer (some ⟨r, 0, none⟩)) := fun n os => Grew.cell ⟨n, os, rfl⟩ k0
  have HE : Hid (∀ n os, Calls Try.prog 63 #[.pointer (some ⟨r, 0, none⟩)] (grow (W0.drewN n) os) fun e w' => e = .returned (.int .i64 0) ∧ ∃ q os', w' = grow ((grow (W0.drewN n) os).drewN q) os') := fun n os => (rEnd_any _ r a c b p 0 (HR.out.kept (Grew.below ⟨n, os, rfl⟩))).mono fun e w' h => ⟨by rw [h.1]; unfold rdEnd; rw [if_neg (by omega)], by obtain ⟨q, hq⟩ := h.2; exact ⟨q, #[], by rw [hq, grow_empty]⟩⟩
  have HU : Hid (∀ n os, Calls Try.prog 62 #[rdv r, .int .i64 0] (grow (W0.drewN n) os) fun e w' => e = .returned (.tuple #[]) ∧ ∃ q os', w' = grow ((grow (W0.drewN n) os).drewN q) os') := fun n os => giveUp_ok _ r
  clear k0
  refine wp_region_quiet_grown mx (by kernel_rfl) ?_
  repeat (go_big_quiet_step (first | (go_at_call 63; exact Calls.grown_of (HE.out _ _)) | (go_at_call 62; exact Calls.grown_of (HU.out _ _))))
  refine wpQuiet_nil ?_
  intro _ hw'
  obtain ⟨⟨nq, osq⟩, hw''⟩ := hw'
  subst hw''
  go_wp2
  go_end0
  exact ⟨rfl, HG.out.trans ⟨_, _, rfl⟩⟩

set_option maxRecDepth 100000 in
set_option maxHeartbeats 1000000 in
theorem end_bad (w : World) (r : Nat) (a : Option Addr) (c : Nat) (b : List Nat) (p : Nat) (e : Int) (h : IsReader w r a c b p e) (he : (rdEnd b p e) ≠ 0) :
    Calls Try.prog 44 #[rdv r] w fun e' w' => e' = .panicked (flt p ((rdEnd b p e))) ∧ Grew w w' := by
  have HG : Hid (Grew w (w.alloc (.cells #[.pointer (some ⟨r, 0, none⟩)] 83))) := (Grew.refl _).alloc _
  have HR : Hid (IsReader (w.alloc (.cells #[.pointer (some ⟨r, 0, none⟩)] 83)) r a c b p e) := h.kept HG.out.below
  have k0 : (w.alloc (.cells #[.pointer (some ⟨r, 0, none⟩)] 83)).cell? ⟨w.heap.size, 0, none⟩ = some (.pointer (some ⟨r, 0, none⟩)) := cell_new _ _ _ 0 _ rfl
  have HN : Hid ((rdEnd b p e) ≠ 0) := he
  clear h he
  go_enter Try.func44, Try.ntmps44
  go_upto_region 1 with fail
  generalize w.alloc (.cells #[.pointer (some ⟨r, 0, none⟩)] 83) = W0 at *
  have HRd : Hid (IsReader W0.drew r a c b p e) := HR.out.drewN 1
  have kd0 : W0.drew.cell? ⟨w.heap.size, 0, none⟩ = some (.pointer (some ⟨r, 0, none⟩)) := k0
  have HGd : Hid (Grew w W0.drew) := HG.out.drew
  have HW : Hid (∀ w1, (∃ q, w1 = W0.drew.drewN q) → Hid (IsReader w1 r a c b p e) ∧ Hid (Grew w w1) ∧ w1.cell? ⟨w.heap.size, 0, none⟩ = some (.pointer (some ⟨r, 0, none⟩))) := fun w1 h => by obtain ⟨q, h⟩ := h; subst h; exact ⟨HRd.out.drewN q, HGd.out.drewN q, kd0⟩
  clear k0
  refine wp_region_any (by kernel_rfl) ?_
  change wpAny _ _ _ _ _ _ _ (World.drew _)
  generalize W0.drew = V at *
  refine wpAny_take (i := 1) (v := .pointer (some ⟨w.heap.size, 0, none⟩)) rfl (by kernel_rfl) (by kernel_rfl) (by kernel_rfl) (fun _ _ _ h => h) (Or.inl ⟨by rfl, ?_⟩) ?_
  · intro w; go_simp
  refine wpAny_ready (rs := [0, 2]) (by kernel_rfl) (by simp) ?_
  refine AllReady.cons rfl (fun K hK => ?_) ?_
  · go_simp
    refine hK _ _ ?_
    clear hK K
    refine wpAny_ready (rs := [2]) (by kernel_rfl) (by simp) ?_
    refine AllReady.cons rfl (fun K hK => ?_) ?_
    · go_simp
      refine hK _ _ ?_
      clear hK K
      refine wpAny_ready (rs := [3]) (by kernel_rfl) (by simp) ?_
      refine AllReady.cons rfl (fun K hK => ?_) ?_
      · go_simp
        refine (rEnd_any _ r a c b p e HRd.out).mono ?_
        rintro e1 w1 ⟨rfl, hw1⟩
        obtain ⟨HR1, HG1, k1⟩ := HW.out w1 hw1
        refine hK _ _ ?_
        clear hK K hw1
        refine wpAny_ready (rs := [4]) (by kernel_rfl) (by simp) ?_
        refine AllReady.cons rfl (fun K hK => ?_) ?_
        · go_simp
          refine (giveUp_bad _ r a c b p (rdEnd b p e) e HR1.out HN.out).mono ?_
          rintro e2 w2 ⟨rfl, hg2⟩
          exact ⟨rfl, rfl, HG1.out.trans hg2⟩
        exact AllReady.nil
      exact AllReady.nil
    exact AllReady.nil
  refine AllReady.cons rfl (fun K hK => ?_) ?_
  · go_simp
    refine hK _ _ ?_
    clear hK K
    refine wpAny_ready (rs := [0, 3]) (by kernel_rfl) (by simp) ?_
    refine AllReady.cons rfl (fun K hK => ?_) ?_
    · go_simp
      refine hK _ _ ?_
      clear hK K
      refine wpAny_ready (rs := [3]) (by kernel_rfl) (by simp) ?_
      refine AllReady.cons rfl (fun K hK => ?_) ?_
      · go_simp
        refine (rEnd_any _ r a c b p e HRd.out).mono ?_
        rintro e1 w1 ⟨rfl, hw1⟩
        obtain ⟨HR1, HG1, k1⟩ := HW.out w1 hw1
        refine hK _ _ ?_
        clear hK K hw1
        refine wpAny_ready (rs := [4]) (by kernel_rfl) (by simp) ?_
        refine AllReady.cons rfl (fun K hK => ?_) ?_
        · go_simp
          refine (giveUp_bad _ r a c b p (rdEnd b p e) e HR1.out HN.out).mono ?_
          rintro e2 w2 ⟨rfl, hg2⟩
          exact ⟨rfl, rfl, HG1.out.trans hg2⟩
        exact AllReady.nil
      exact AllReady.nil
    refine AllReady.cons rfl (fun K hK => ?_) ?_
    · go_simp
      refine (rEnd_any _ r a c b p e HRd.out).mono ?_
      rintro e1 w1 ⟨rfl, hw1⟩
      obtain ⟨HR1, HG1, k1⟩ := HW.out w1 hw1
      refine hK _ _ ?_
      clear hK K hw1
      refine wpAny_ready (rs := [0]) (by kernel_rfl) (by simp) ?_
      refine AllReady.cons rfl (fun K hK => ?_) ?_
      · go_simp
        refine hK _ _ ?_
        clear hK K
        refine wpAny_ready (rs := [4]) (by kernel_rfl) (by simp) ?_
        refine AllReady.cons rfl (fun K hK => ?_) ?_
        · go_simp
          refine (giveUp_bad _ r a c b p (rdEnd b p e) e HR1.out HN.out).mono ?_
          rintro e2 w2 ⟨rfl, hg2⟩
          exact ⟨rfl, rfl, HG1.out.trans hg2⟩
        exact AllReady.nil
      exact AllReady.nil
    exact AllReady.nil
  exact AllReady.nil

set_option maxHeartbeats 1000000 in
theorem upto_ok (w : World) (r : Nat) (a : Option Addr) (c : Nat) (b : List Nat) (p most n q : Nat) (h : IsReader w r a c b p 0) (hm : most ≤ 1000) (hu : upR b most p = .ok (n, q)) :
    Calls Try.prog 60 #[rdv r, .int .u64 (most : Int)] w fun e' w' => e' = .returned (.int .i64 (n : Int)) ∧ Reads w r a c b q 0 w' ∧ n ≤ most := by
  have HG : Hid (Grew w (w.alloc (.cells #[.pointer (some ⟨r, 0, none⟩)] 83))) := (Grew.refl _).alloc _
  have HR : Hid (Reads w r a c b p 0 (w.alloc (.cells #[.pointer (some ⟨r, 0, none⟩)] 83))) := Reads.alloc ⟨h, World.grownBy.refl _ _⟩ _
  have k0 : (w.alloc (.cells #[.pointer (some ⟨r, 0, none⟩)] 83)).cell? ⟨w.heap.size, 0, none⟩ = some (.pointer (some ⟨r, 0, none⟩)) := cell_new _ _ _ 0 _ rfl
  have HU : Hid (rdUpto b p 0 most = (n, q, 0) ∧ n ≤ most) := by
    unfold upR at hu
    have hle := upto_le b p most
    split at hu
    · rename_i h0
      simp only [Except.ok.injEq, Prod.mk.injEq] at hu
      obtain ⟨rfl, rfl⟩ := hu
      exact ⟨Prod.ext rfl (Prod.ext rfl h0), hle⟩
    · cases hu
  have HLt : Hid (r < w.heap.size) := h.lt
  clear h hu
  go_enter Try.func60, Try.ntmps60
  go_wp2_with fail
  refine (rUpto_any _ r a c b p 0 most HR.out.1).mono ?_
  rintro e1 w1 ⟨rfl, hr1⟩
  rw [HU.out.1] at hr1 ⊢
  have HR1 : Hid (Reads w r a c b q 0 w1) := HR.out.trans hr1
  have k1 : w1.cell? ⟨w.heap.size, 0, none⟩ = some (.pointer (some ⟨r, 0, none⟩)) := by
    have := hr1.2.block w.heap.size (by simp) (fun e => by have := HLt.out; simp at e; omega)
    simp only [World.cell?] at k0 ⊢
    rw [this]; exact k0
  have hn := HU.out.2
  clear hr1 k0 HR
  simp only
  go_wp2_with fail
  refine (look_ok w1 r a c b q HR1.out.1).mono ?_
  rintro e2 w2 ⟨rfl, hg2⟩
  have HR2 : Hid (Reads w r a c b q 0 w2) := HR1.out.kept hg2.below
  clear hg2 k1 HR1
  go_wp2
  go_ret
  exact ⟨rfl, HR2.out, HU.out.2⟩

set_option maxHeartbeats 1000000 in
theorem upto_bad (w : World) (r : Nat) (a : Option Addr) (c : Nat) (b : List Nat) (p most q : Nat) (x : Int) (h : IsReader w r a c b p 0) (hu : upR b most p = .error (q, x)) :
    Calls Try.prog 60 #[rdv r, .int .u64 (most : Int)] w fun e' w' => e' = .panicked (flt q x) ∧ w.grownBy w' (some r) := by
  have HR : Hid (Reads w r a c b p 0 (w.alloc (.cells #[.pointer (some ⟨r, 0, none⟩)] 83))) := Reads.alloc ⟨h, World.grownBy.refl _ _⟩ _
  have k0 : (w.alloc (.cells #[.pointer (some ⟨r, 0, none⟩)] 83)).cell? ⟨w.heap.size, 0, none⟩ = some (.pointer (some ⟨r, 0, none⟩)) := cell_new _ _ _ 0 _ rfl
  have HU : Hid ((rdUpto b p 0 most).2 = (q, x) ∧ x ≠ 0) := by
    unfold upR at hu
    split at hu
    · cases hu
    · rename_i h0
      simp only [Except.error.injEq, Prod.mk.injEq] at hu
      obtain ⟨rfl, rfl⟩ := hu
      exact ⟨rfl, h0⟩
  have HLt : Hid (r < w.heap.size) := h.lt
  clear h hu
  go_enter Try.func60, Try.ntmps60
  go_wp2_with fail
  refine (rUpto_any _ r a c b p 0 most HR.out.1).mono ?_
  rintro e1 w1 ⟨rfl, hr1⟩
  rw [HU.out.1] at hr1
  have HR1 : Hid (Reads w r a c b q x w1) := HR.out.trans hr1
  have k1 : w1.cell? ⟨w.heap.size, 0, none⟩ = some (.pointer (some ⟨r, 0, none⟩)) := by
    have := hr1.2.block w.heap.size (by simp) (fun e => by have := HLt.out; simp at e; omega)
    simp only [World.cell?] at k0 ⊢
    rw [this]; exact k0
  clear hr1 k0 HR
  generalize (rdUpto b p 0 most).1 = nn at *
  go_wp2_with fail
  refine (look_bad w1 r a c b q x HR1.out.1 HU.out.2).mono ?_
  rintro e2 w2 ⟨rfl, hg2⟩
  have HR2 : Hid (w.grownBy w2 (some r)) := (HR1.out.kept hg2.below).2
  clear hg2 k1 HR1
  go_wp2
  exact ⟨rfl, rfl, HR2.out⟩
end Go.Proofs.Ytlilaicgmdbhcaa.Kk
/-
  THE WALKS OF key, args.
-/
namespace Go.Proofs.Ytlilaicgmdbhcaa.Kk
open Go.RowKit Go.Sort

theorem block_reads {w w1 : World} {r : Nat} {a : Option Addr} {c : Nat} {b : List Nat} {p : Nat} {e : Int} (h : Reads w r a c b p e w1) {k : Nat} (hk : k < w.heap.size) (hr : k ≠ r) : w1.heap[k]? = w.heap[k]? := h.2.block k hk (fun e => hr (by simpa using e))
theorem ldKey (W : World) (G : Nat) (u v : Value) (x y : Int) (h : W.heap[G]? = some (.cells #[u, v] 77 (0, 0))) :
    (loadVar 77 ⟨G, 0, none⟩).run Try.prog ((W.setCell ⟨G, 0, none⟩ (.int .i64 x)).setCell ⟨G, 1, none⟩ (.int .i64 y)) = .ok (.agg #[.int .i64 x, .int .i64 y]) ((W.setCell ⟨G, 0, none⟩ (.int .i64 x)).setCell ⟨G, 1, none⟩ (.int .i64 y)) := by
  have h1 := heap_setCell_same W G 0 _ _ (.int .i64 x) h
  have h2 := heap_setCell_same _ G 1 _ _ (.int .i64 y) h1
  refine run_loadVar_mid (P := Try.prog) _ G 0 77 [.int .i64 x, .int .i64 y] _ ?_ Try.underlying77 rfl (by kernel_rfl)
  intro j v hv
  simp only [World.cell?, h2, Nat.zero_add]
  simpa using hv

set_option maxRecDepth 100000 in
set_option maxHeartbeats 1000000 in
theorem key_ok (w : World) (r : Nat) (a : Option Addr) (c : Nat) (b : List Nat) (p : Nat) (h : IsReader w r a c b p 0) (hp : p + 10 ≤ b.length) :
    Calls Try.prog 87 #[rdv r] w fun e' w' => e' = .returned (.agg #[.int .i64 (fromK ((b.drop p).take 10)).1, .int .i64 (fromK ((b.drop p).take 10)).2]) ∧ Reads w r a c b (p + 10) 0 w' := by
  have H0 : Hid (IsReader w r a c b p 0) := h
  have HR : Hid (Reads w r a c b p 0 ((w.alloc (.cells #[.pointer (some ⟨r, 0, none⟩)] 83)).alloc (.cells #[.int .i64 0, .int .i64 0] 77))) := Reads.alloc (Reads.alloc ⟨h, World.grownBy.refl _ _⟩ _) _
  have HB0 : Hid (((w.alloc (.cells #[.pointer (some ⟨r, 0, none⟩)] 83)).alloc (.cells #[.int .i64 0, .int .i64 0] 77)).heap[w.heap.size]? = some (.cells #[.pointer (some ⟨r, 0, none⟩)] 83 (0, 0)) ∧ ((w.alloc (.cells #[.pointer (some ⟨r, 0, none⟩)] 83)).alloc (.cells #[.int .i64 0, .int .i64 0] 77)).heap[w.heap.size + 1]? = some (.cells #[.int .i64 0, .int .i64 0] 77 (0, 0))) := ⟨(heap_alloc_old _ _ (by simp)).trans (heap_alloc_new _ _ rfl), heap_alloc_new _ _ (by simp)⟩
  have HQ : Hid (rdRaw b p 0 10 = ((b.drop p).take 10, p + 10, 0)) := by
    unfold rdRaw
    rw [if_neg (by simp), if_neg (by omega), if_neg (by omega)]; rfl
  have HLt : Hid (r < w.heap.size) := h.lt
  have HZl : Hid (((b.drop p).take 10).length = 10) := by simp only [List.length_take, List.length_drop, Hid]; omega
  clear h
  go_enter Try.func87, Try.ntmps87
  go_upto_region 1 with fail
  generalize (w.alloc (.cells #[.pointer (some ⟨r, 0, none⟩)] 83)).alloc (.cells #[.int .i64 0, .int .i64 0] 77) = W0 at *
  have k0 : W0.cell? ⟨w.heap.size, 0, none⟩ = some (.pointer (some ⟨r, 0, none⟩)) := by simp [World.cell?, HB0.out.1]
  go_wp2_with fail
  refine (rRaw_any W0 r a c b p 0 10 HR.out.1).mono ?_
  rintro e1 w1 ⟨v, rfl, ho, hr1⟩
  rw [HQ.out] at ho hr1
  have hs0 : w.heap.size + 1 < W0.heap.size := (Array.getElem?_eq_some_iff.1 HB0.out.2).1
  have HB1 : Hid (w1.heap[w.heap.size]? = some (.cells #[.pointer (some ⟨r, 0, none⟩)] 83 (0, 0)) ∧ w1.heap[w.heap.size + 1]? = some (.cells #[.int .i64 0, .int .i64 0] 77 (0, 0))) := ⟨(block_reads hr1 (by omega) (by have := HLt.out; omega)).trans HB0.out.1, (block_reads hr1 (by omega) (by have := HLt.out; omega)).trans HB0.out.2⟩
  have HR1 : Hid (Reads w r a c b (p + 10) 0 w1) := HR.out.trans hr1
  obtain ⟨ao, cap, e0, hby, _, hcap⟩ := ho.slice
  subst e0
  have HBy : Hid (BytesAt w1 ao ((b.drop p).take 10)) := hby
  have HCap : Hid (((b.drop p).take 10).length ≤ cap) := hcap
  rw [HZl.out] at HCap ⊢
  clear hr1 ho k0 HR HB0 hby hcap hs0
  have k1 : w1.cell? ⟨w.heap.size, 0, none⟩ = some (.pointer (some ⟨r, 0, none⟩)) := by simp [World.cell?, HB1.out.1]
  go_wp2_with fail
  refine (look_ok w1 r a c b (p + 10) HR1.out.1).mono ?_
  rintro e2 w2 ⟨rfl, hg2⟩
  have HR2 : Hid (Reads w r a c b (p + 10) 0 w2) := HR1.out.kept hg2.below
  have HBy2 : Hid (BytesAt w2 ao ((b.drop p).take 10)) := HBy.out.kept hg2.below
  have HB2 : Hid (w2.heap[w.heap.size + 1]? = some (.cells #[.int .i64 0, .int .i64 0] 77 (0, 0))) := (hg2.heap (Array.getElem?_eq_some_iff.1 HB1.out.2).1).trans HB1.out.2
  clear hg2 k1 HR1 HBy HB1
  go_wp2_with fail
  refine (fromBytes_any w2 ao cap 10 ((b.drop p).take 10) HZl.out.symm HBy2.out HCap.out (by unfold maxLen; omega)).mono ?_
  rintro e3 w3 ⟨rfl, hg3⟩
  have HR3 : Hid (Reads w r a c b (p + 10) 0 w3) := HR2.out.kept hg3.below
  have HB3 : Hid (w3.heap[w.heap.size + 1]? = some (.cells #[.int .i64 0, .int .i64 0] 77 (0, 0))) := (hg3.heap (Array.getElem?_eq_some_iff.1 HB2.out).1).trans HB2.out
  clear hg3 HR2 HBy2 HB2
  obtain ⟨kk, hkk⟩ : ∃ kk, kk = fromK ((b.drop p).take 10) := ⟨_, rfl⟩
  have HKK : Hid (fromK ((b.drop p).take 10) = kk) := hkk.symm
  rw [← hkk]
  clear hkk
  obtain ⟨k1, k2⟩ := kk
  generalize fromE ((b.drop p).take 10) = fe at *
  have HR4 : Hid (Reads w r a c b (p + 10) 0 (w3.alloc (.cells #[.int .i64 k1, .int .i64 k2] 77))) := HR3.out.alloc _
  have HB4 : Hid ((w3.alloc (.cells #[.int .i64 k1, .int .i64 k2] 77)).heap[w.heap.size + 1]? = some (.cells #[.int .i64 0, .int .i64 0] 77 (0, 0))) := (heap_alloc_old _ _ (Array.getElem?_eq_some_iff.1 HB3.out).1).trans HB3.out
  have m0 : (w3.alloc (.cells #[.int .i64 k1, .int .i64 k2] 77)).cell? ⟨w3.heap.size, 0, none⟩ = some (.int .i64 k1) := cell_new _ _ _ 0 _ rfl
  have m1 : (w3.alloc (.cells #[.int .i64 k1, .int .i64 k2] 77)).cell? ⟨w3.heap.size, 1, none⟩ = some (.int .i64 k2) := cell_new _ _ _ 1 _ rfl
  go_upto_region 4 with fail
  generalize w3.alloc (.cells #[.int .i64 k1, .int .i64 k2] 77) = W4 at *
  have n0 : W4.cell? ⟨w.heap.size + 1, 0, none⟩ = some (.int .i64 0) := by simp [World.cell?, HB4.out]
  have n1 : W4.cell? ⟨w.heap.size + 1, 1, none⟩ = some (.int .i64 0) := by simp [World.cell?, HB4.out]
  have f0 := frozen_of_row W4 (w.heap.size + 1) 0 _ _ HB4.out
  have f1 := frozen_of_row W4 (w.heap.size + 1) 1 _ _ HB4.out
  have hld := ldKey W4 (w.heap.size + 1) _ _ k1 k2 HB4.out
  have HF : Hid (Reads w r a c b (p + 10) 0 ((W4.setCell ⟨w.heap.size + 1, 0, none⟩ (.int .i64 k1)).setCell ⟨w.heap.size + 1, 1, none⟩ (.int .i64 k2))) := (HR4.out.setNew H0.out _ 0 _ (by omega)).setNew H0.out _ 1 _ (by omega)
  have HLd : Hid ((loadVar 77 ⟨w.heap.size + 1, 0, none⟩).run Try.prog ((W4.setCell ⟨w.heap.size + 1, 0, none⟩ (.int .i64 k1)).setCell ⟨w.heap.size + 1, 1, none⟩ (.int .i64 k2)) = .ok (.agg #[.int .i64 k1, .int .i64 k2]) ((W4.setCell ⟨w.heap.size + 1, 0, none⟩ (.int .i64 k1)).setCell ⟨w.heap.size + 1, 1, none⟩ (.int .i64 k2))) := hld
  clear hld HR4 HB4
  go_wp2
  refine bodyPost_ret (v := .agg #[.int .i64 k1, .int .i64 k2]) ?_ rfl ⟨by rw [HKK.out], HF.out⟩
  simp [results, Try.results87, asAddr, HLd.out]

set_option maxRecDepth 100000 in
set_option maxHeartbeats 1000000 in
theorem key_bad (w : World) (r : Nat) (a : Option Addr) (c : Nat) (b : List Nat) (p : Nat) (h : IsReader w r a c b p 0) (hp : ¬ p + 10 ≤ b.length) :
    Calls Try.prog 87 #[rdv r] w fun e' w' => e' = .panicked (flt p 10) ∧ w.grownBy w' (some r) := by
  have HR : Hid (Reads w r a c b p 0 ((w.alloc (.cells #[.pointer (some ⟨r, 0, none⟩)] 83)).alloc (.cells #[.int .i64 0, .int .i64 0] 77))) := Reads.alloc (Reads.alloc ⟨h, World.grownBy.refl _ _⟩ _) _
  have HB0 : Hid (((w.alloc (.cells #[.pointer (some ⟨r, 0, none⟩)] 83)).alloc (.cells #[.int .i64 0, .int .i64 0] 77)).heap[w.heap.size]? = some (.cells #[.pointer (some ⟨r, 0, none⟩)] 83 (0, 0))) := (heap_alloc_old _ _ (by simp)).trans (heap_alloc_new _ _ rfl)
  have HQ : Hid (rdRaw b p 0 10 = ([], p, 10)) := by
    have := h.2.2.1
    unfold rdRaw
    rw [if_neg (by simp), if_neg (by omega), if_pos (by omega)]; rfl
  have HLt : Hid (r < w.heap.size) := h.lt
  clear h hp
  go_enter Try.func87, Try.ntmps87
  go_upto_region 1 with fail
  generalize (w.alloc (.cells #[.pointer (some ⟨r, 0, none⟩)] 83)).alloc (.cells #[.int .i64 0, .int .i64 0] 77) = W0 at *
  have k0 : W0.cell? ⟨w.heap.size, 0, none⟩ = some (.pointer (some ⟨r, 0, none⟩)) := by simp [World.cell?, HB0.out]
  go_wp2_with fail
  refine (rRaw_any W0 r a c b p 0 10 HR.out.1).mono ?_
  rintro e1 w1 ⟨v, rfl, _, hr1⟩
  rw [HQ.out] at hr1
  have hs0 : w.heap.size < W0.heap.size := (Array.getElem?_eq_some_iff.1 HB0.out).1
  have HB1 : Hid (w1.heap[w.heap.size]? = some (.cells #[.pointer (some ⟨r, 0, none⟩)] 83 (0, 0))) := (block_reads hr1 (by omega) (by have := HLt.out; omega)).trans HB0.out
  have HR1 : Hid (Reads w r a c b p 10 w1) := HR.out.trans hr1
  clear hr1 k0 HR HB0 hs0
  have k1 : w1.cell? ⟨w.heap.size, 0, none⟩ = some (.pointer (some ⟨r, 0, none⟩)) := by simp [World.cell?, HB1.out]
  go_wp2_with fail
  refine (look_bad w1 r a c b p 10 HR1.out.1 (by omega)).mono ?_
  rintro e2 w2 ⟨rfl, hg2⟩
  have HR2 : Hid (w.grownBy w2 (some r)) := (HR1.out.kept hg2.below).2
  clear hg2 k1 HR1 HB1
  go_wp2
  exact ⟨rfl, rfl, HR2.out⟩

/-- what a reading hands back -/
def RdPost {α : Type} (w : World) (r : Nat) (a : Option Addr) (c : Nat) (b : List Nat) (R : Rd α) (ok : α → Value → World → Prop) (e' : Ending) (w' : World) : Prop :=
  match R with
  | .ok (x, q) => ∃ v, e' = .returned v ∧ Reads w r a c b q 0 w' ∧ ok x v w'
  | .error (q, x) => e' = .panicked (flt q x) ∧ w.grownBy w' (some r)
theorem RdPost.good {α : Type} {w w' : World} {r : Nat} {a : Option Addr} {c : Nat} {b : List Nat} {R : Rd α} {ok : α → Value → World → Prop} {x : α} {q : Nat} {v : Value} (hR : R = .ok (x, q)) (h : Reads w r a c b q 0 w') (k : ok x v w') : RdPost w r a c b R ok (.returned v) w' := by
  rw [hR]; exact ⟨v, rfl, h, k⟩
theorem RdPost.fails {α : Type} {w w' : World} {r : Nat} {a : Option Addr} {c : Nat} {b : List Nat} {R : Rd α} {ok : α → Value → World → Prop} {x : Int} {q : Nat} (hR : R = .error (q, x)) (h : w.grownBy w' (some r)) : RdPost w r a c b R ok (.panicked (flt q x)) w' := by
  rw [hR]; exact ⟨rfl, h⟩
/-- a row of numbers that a call has made -/
def Own64 (w0 : World) (A : List Int) (v : Value) (w' : World) : Prop := ∃ g, v = .slice (some ⟨g, 0, none⟩) A.length A.length ∧ R64 w' g A ∧ w0.heap.size ≤ g
structure AS (w W : World) (r : Nat) (a : Option Addr) (c : Nat) (b : List Nat) (q g n : Nat) (A : List Int) : Prop where
  rd : Reads w r a c b q 0 W
  box : W.heap[w.heap.size]? = some (.cells #[.pointer (some ⟨r, 0, none⟩)] 83 (0, 0))
  row : R64 W g (A ++ List.replicate (n - A.length) 0)
  gt : w.heap.size < g
  rlt : r < w.heap.size
theorem AS.cell {w W : World} {r : Nat} {a : Option Addr} {c : Nat} {b : List Nat} {q g n : Nat} {A : List Int} (h : AS w W r a c b q g n A) : W.cell? ⟨w.heap.size, 0, none⟩ = some (.pointer (some ⟨r, 0, none⟩)) := by simp [World.cell?, h.box]
theorem setA {A : List Int} {n k : Nat} {z : Int} (hk : A.length = k) (hn : k < n) : (A ++ List.replicate (n - A.length) 0).set k z = (A ++ [z]) ++ List.replicate (n - (A ++ [z]).length) 0 := by
  rw [List.set_append_right _ _ (by omega), hk, Nat.sub_self, show n - k = (n - (k + 1)) + 1 by omega, List.replicate_succ, List.set_cons_zero]
  simp [hk]
/-- behind Int and the store -/
theorem AS.put {w W W1 : World} {r p0 : Nat} {a : Option Addr} {c : Nat} {b : List Nat} {q g n k q1 : Nat} {e1 : Int} {A : List Int} (h : AS w W r a c b q g n A) (h0 : IsReader w r a c b p0 0) (hr : Reads W r a c b q1 e1 W1) (z : Int) (hk : A.length = k) (hn : k < n) :
    R64 W1 g (A ++ List.replicate (n - A.length) 0) ∧ Reads w r a c b q1 e1 (W1.setCell ⟨g, k, none⟩ (.int .i64 z)) ∧ (W1.setCell ⟨g, k, none⟩ (.int .i64 z)).heap[w.heap.size]? = some (.cells #[.pointer (some ⟨r, 0, none⟩)] 83 (0, 0)) ∧ R64 (W1.setCell ⟨g, k, none⟩ (.int .i64 z)) g ((A ++ [z]) ++ List.replicate (n - (A ++ [z]).length) 0) := by
  have hgt := h.gt
  have hrl := h.rlt
  have hb := (Array.getElem?_eq_some_iff.1 h.box).1
  have hrow : R64 W1 g (A ++ List.replicate (n - A.length) 0) := h.row.same (block_reads hr h.row.lt (by omega))
  refine ⟨hrow, (h.rd.trans hr).setNew h0 g k _ (by omega), ?_, ?_⟩
  · rw [heap_setCell_other W1 ⟨g, k, none⟩ w.heap.size _ (by show w.heap.size ≠ g; omega)]
    exact (block_reads hr hb (by omega)).trans h.box
  · have := hrow.set k z
    rw [setA hk hn] at this
    exact this
theorem AS.kept {w W W1 : World} {r : Nat} {a : Option Addr} {c : Nat} {b : List Nat} {q g n : Nat} {A : List Int} (h : AS w W r a c b q g n A) (hb : Below W.heap.size W W1) : AS w W1 r a c b q g n A :=
  ⟨h.rd.kept hb, (hb.block _ (Array.getElem?_eq_some_iff.1 h.box).1).trans h.box, h.row.same (hb.block _ h.row.lt), h.gt, h.rlt⟩

set_option maxRecDepth 100000 in
set_option maxHeartbeats 2000000 in
theorem args_r (w : World) (r : Nat) (a : Option Addr) (c : Nat) (b : List Nat) (p : Nat) (h : IsReader w r a c b p 0) :
    Calls Try.prog 76 #[rdv r] w fun e' w' => RdPost w r a c b (argR b p) (Own64 w) e' w' := by
  have H0 : Hid (IsReader w r a c b p 0) := h
  have HR : Hid (Reads w r a c b p 0 (w.alloc (.cells #[.pointer (some ⟨r, 0, none⟩)] 83))) := Reads.alloc ⟨h, World.grownBy.refl _ _⟩ _
  have HB0 : Hid ((w.alloc (.cells #[.pointer (some ⟨r, 0, none⟩)] 83)).heap[w.heap.size]? = some (.cells #[.pointer (some ⟨r, 0, none⟩)] 83 (0, 0))) := heap_alloc_new _ _ rfl
  have HLt : Hid (r < w.heap.size) := h.lt
  have HA : Hid (argR b p = match upR b 16 p with | .ok (n, q) => argsR b n [] q | .error x => .error x) := rfl
  clear h
  generalize argR b p = TT at *
  go_enter Try.func76, Try.ntmps76
  go_upto_region 1 with fail
  generalize w.alloc (.cells #[.pointer (some ⟨r, 0, none⟩)] 83) = W0 at *
  have k0 : W0.cell? ⟨w.heap.size, 0, none⟩ = some (.pointer (some ⟨r, 0, none⟩)) := by simp [World.cell?, HB0.out]
  cases hu : upR b 16 p with
  | error x =>
    obtain ⟨q, x⟩ := x
    have HT : Hid (TT = .error (q, x)) := by rw [HA.out, hu]; rfl
    have HU : Hid (upR b 16 p = .error (q, x)) := hu
    clear hu HA
    go_wp2_with fail
    refine (upto_bad W0 r a c b p 16 q x HR.out.1 HU.out).mono ?_
    rintro e1 w1 ⟨rfl, hg1⟩
    have HF : Hid (RdPost w r a c b TT (Own64 w) (.panicked (flt q x)) w1) := RdPost.fails HT.out (grown_trans' HR.out.2 hg1)
    clear hg1
    go_wp2
    exact ⟨rfl, HF.out⟩
  | ok x =>
    obtain ⟨n, q⟩ := x
    have HU : Hid (upR b 16 p = .ok (n, q)) := hu
    have HT : Hid (argsR b n [] q = TT) := by rw [HA.out, hu]; rfl
    clear hu HA
    go_wp2_with fail
    refine (upto_ok W0 r a c b p 16 n q HR.out.1 (by omega) HU.out).mono ?_
    rintro e1 w1 ⟨rfl, hr1, hn⟩
    have HB1 : Hid (w1.heap[w.heap.size]? = some (.cells #[.pointer (some ⟨r, 0, none⟩)] 83 (0, 0))) := (block_reads hr1 (Array.getElem?_eq_some_iff.1 HB0.out).1 (by have := HLt.out; omega)).trans HB0.out
    have HR1 : Hid (Reads w r a c b q 0 w1) := HR.out.trans hr1
    have hmk := make_nums n (n : Int) rfl (by omega)
    clear hr1 HR HB0 k0
    have HS0 : Hid (AS w (w1.alloc (.cells (cellsI (List.replicate n 0)) 2)) r a c b q w1.heap.size n []) := ⟨HR1.out.alloc _, (heap_alloc_old _ _ (Array.getElem?_eq_some_iff.1 HB1.out).1).trans HB1.out, by rw [List.nil_append, List.length_nil, Nat.sub_zero]; exact heap_alloc_new _ _ rfl, (Array.getElem?_eq_some_iff.1 HB1.out).1, HLt.out⟩
    go_upto_region 2 with fail
    generalize w1.alloc (.cells (cellsI (List.replicate n 0)) 2) = W1 at *
    generalize w1.heap.size = g at *
    clear hmk HR1 HB1
    go_wp2_with fail
    go_loopw [10] (fun x wr => ∃ (k q : Nat) (A : List Int), k ≤ n ∧ x = .int .i64 (k : Int) ∧ A.length = k ∧ Hid (AS w wr r a c b q g n A) ∧ Hid (argsR b (n - k) A q = TT)) (fun x _ => n - (intOf x).toNat)
    case atStart => exact ⟨0, q, [], Nat.zero_le _, rfl, rfl, HS0, HT⟩
    case round =>
      clear HS0 HT HU q
      obtain ⟨k, q, A, hk, rfl, hA, HS, HT⟩ := hrel
      by_cases hlt : k < n
      · have k0 := HS.out.cell
        have HT2 : Hid (TT = match intR b q with | .ok (x, q1) => argsR b (n - (k + 1)) (A ++ [x]) q1 | .error x => .error x) := by
          rw [← HT.out, show n - k = (n - (k + 1)) + 1 by omega]; rfl
        have HI : Hid (intR b q = match upR b 18446744073709551615 q with | .ok (m, q1) => .ok (unfold m, q1) | .error x => .error x) := rfl
        clear HT
        generalize intR b q = IR at *
        cases hu : upR b 18446744073709551615 q with
        | error x =>
          obtain ⟨q1, x⟩ := x
          have HT : Hid (TT = .error (q1, x)) := by rw [HT2.out, HI.out, hu]; rfl
          have HU : Hid ((rdUpto b q 0 18446744073709551615).2 = (q1, x) ∧ x ≠ 0) := by
            unfold upR at hu
            split at hu
            · cases hu
            · rename_i h0
              simp only [Except.error.injEq, Prod.mk.injEq] at hu
              obtain ⟨rfl, rfl⟩ := hu
              exact ⟨rfl, h0⟩
          clear hu HT2 HI
          go_wp2_with fail
          refine (rInt_any wr r a c b q 0 HS.out.rd.1).mono ?_
          rintro e2 w2 ⟨rfl, hr2⟩
          rw [HU.out.1] at hr2
          generalize unfold (rdUpto b q 0 18446744073709551615).1 = z at *
          have hp := HS.out.put H0.out hr2 z hA hlt
          have e1 := hp.1.cell k (by simp [hA]; omega)
          have f1 := hp.1.frozen k
          have HP : Hid (Reads w r a c b q1 x (w2.setCell ⟨g, k, none⟩ (.int .i64 z)) ∧ (w2.setCell ⟨g, k, none⟩ (.int .i64 z)).cell? ⟨w.heap.size, 0, none⟩ = some (.pointer (some ⟨r, 0, none⟩))) := ⟨hp.2.1, by simp [World.cell?, hp.2.2.1]⟩
          clear hp hr2 k0 HS
          go_upto_region 6 with fail
          generalize w2.setCell ⟨g, k, none⟩ (.int .i64 z) = W3 at *
          have k3 := HP.out.2
          clear e1 f1
          go_wp2_with fail
          refine (look_bad W3 r a c b q1 x HP.out.1.1 HU.out.2).mono ?_
          rintro e3 w4 ⟨rfl, hg4⟩
          have HF : Hid (RdPost w r a c b TT (Own64 w) (.panicked (flt q1 x)) w4) := RdPost.fails HT.out (HP.out.1.kept hg4.below).2
          clear hg4 k3
          go_wp2
          exact ⟨rfl, HF.out⟩
        | ok x =>
          obtain ⟨m, q1⟩ := x
          have HT : Hid (argsR b (n - (k + 1)) (A ++ [unfold m]) q1 = TT) := by rw [HT2.out, HI.out, hu]; rfl
          have HU : Hid (rdUpto b q 0 18446744073709551615 = (m, q1, 0)) := by
            unfold upR at hu
            split at hu
            · rename_i h0
              simp only [Except.ok.injEq, Prod.mk.injEq] at hu
              obtain ⟨rfl, rfl⟩ := hu
              exact Prod.ext rfl (Prod.ext rfl h0)
            · cases hu
          clear hu HT2 HI
          go_wp2_with fail
          refine (rInt_any wr r a c b q 0 HS.out.rd.1).mono ?_
          rintro e2 w2 ⟨rfl, hr2⟩
          rw [HU.out] at hr2 ⊢
          simp only at hr2 ⊢
          have hp := HS.out.put H0.out hr2 (unfold m) hA hlt
          have HSg : Hid (w.heap.size < g ∧ r < w.heap.size) := ⟨HS.out.gt, HS.out.rlt⟩
          generalize unfold m = z at *
          have e1 := hp.1.cell k (by simp [hA]; omega)
          have f1 := hp.1.frozen k
          have HP : Hid (AS w (w2.setCell ⟨g, k, none⟩ (.int .i64 z)) r a c b q1 g n (A ++ [z])) := ⟨hp.2.1, hp.2.2.1, hp.2.2.2, HSg.out.1, HSg.out.2⟩
          clear hp hr2 k0 HS
          go_upto_region 6 with fail
          generalize w2.setCell ⟨g, k, none⟩ (.int .i64 z) = W3 at *
          have k3 := HP.out.cell
          clear e1 f1
          go_wp2_with fail
          refine (look_ok W3 r a c b q1 HP.out.rd.1).mono ?_
          rintro e3 w4 ⟨rfl, hg4⟩
          have HS4 : Hid (AS w w4 r a c b q1 g n (A ++ [z])) := HP.out.kept hg4.below
          clear hg4 k3 HP
          go_wp2
          go_roundw
          case rel => exact ⟨k + 1, q1, A ++ [z], by omega, by go_num, by simp [hA], HS4, HT⟩
          case measure => simp [intOf]; omega
      · obtain rfl : k = n := by omega
        have HF : Hid (RdPost w r a c b TT (Own64 w) (.returned (.slice (some ⟨g, 0, none⟩) k k)) wr) := by
          have h1 := HT.out
          rw [Nat.sub_self] at h1
          refine RdPost.good (x := A) (q := q) h1.symm HS.out.rd ⟨g, by rw [hA], ?_, by have := HS.out.gt; omega⟩
          have h2 := HS.out.row
          rw [hA, Nat.sub_self, List.replicate_zero, List.append_nil] at h2
          exact h2
        clear HS HT
        go_wp2
        go_ret
        exact HF.out
end Go.Proofs.Ytlilaicgmdbhcaa.Kk
/-
  THE WALK OF set.
-/
namespace Go.Proofs.Ytlilaicgmdbhcaa.Kk
open Go.RowKit Go.Sort

/-- a row of keys that a call has made -/
def OwnKs (w0 : World) (L : List K) (v : Value) (w' : World) : Prop := ∃ g, v = .slice (some ⟨g, 0, none⟩) L.length L.length ∧ RK w' g L ∧ w0.heap.size ≤ g
structure KS (w W : World) (r : Nat) (a : Option Addr) (c : Nat) (b : List Nat) (q g n : Nat) (A : List K) : Prop where
  rd : Reads w r a c b q 0 W
  box : W.heap[w.heap.size]? = some (.cells #[.pointer (some ⟨r, 0, none⟩)] 83 (0, 0))
  row : RK W g (A ++ List.replicate (n - A.length) (0, 0))
  gt : w.heap.size < g
  rlt : r < w.heap.size
theorem KS.cell {w W : World} {r : Nat} {a : Option Addr} {c : Nat} {b : List Nat} {q g n : Nat} {A : List K} (h : KS w W r a c b q g n A) : W.cell? ⟨w.heap.size, 0, none⟩ = some (.pointer (some ⟨r, 0, none⟩)) := by simp [World.cell?, h.box]
theorem setK {A : List K} {n k : Nat} {z : K} (hk : A.length = k) (hn : k < n) : (A ++ List.replicate (n - A.length) (0, 0)).set k z = (A ++ [z]) ++ List.replicate (n - (A ++ [z]).length) (0, 0) := by
  rw [List.set_append_right _ _ (by omega), hk, Nat.sub_self, show n - k = (n - (k + 1)) + 1 by omega, List.replicate_succ, List.set_cons_zero]
  simp [hk]
theorem KS.step {w W W1 : World} {r : Nat} {a : Option Addr} {c : Nat} {b : List Nat} {q g n q1 : Nat} {A : List K} (h : KS w W r a c b q g n A) (hr : Reads W r a c b q1 0 W1) : KS w W1 r a c b q1 g n A := by
  have hgt := h.gt
  have hrl := h.rlt
  exact ⟨h.rd.trans hr, (block_reads hr (Array.getElem?_eq_some_iff.1 h.box).1 (by omega)).trans h.box, h.row.same (block_reads hr h.row.lt (by omega)), h.gt, h.rlt⟩
theorem KS.put {w W : World} {r p0 : Nat} {a : Option Addr} {c : Nat} {b : List Nat} {q g n k : Nat} {A : List K} (h : KS w W r a c b q g n A) (h0 : IsReader w r a c b p0 0) (x y : Int) (hk : A.length = k) (hn : k < n) :
    KS w ((W.setCell ⟨g, k * 2, none⟩ (.int .i64 x)).setCell ⟨g, k * 2 + 1, none⟩ (.int .i64 y)) r a c b q g n (A ++ [(x, y)]) := by
  have hgt := h.gt
  refine ⟨(h.rd.setNew h0 g (k * 2) _ (by omega)).setNew h0 g (k * 2 + 1) _ (by omega), ?_, ?_, h.gt, h.rlt⟩
  · rw [heap_setCell_other _ ⟨g, k * 2 + 1, none⟩ w.heap.size _ (by show w.heap.size ≠ g; omega), heap_setCell_other W ⟨g, k * 2, none⟩ w.heap.size _ (by show w.heap.size ≠ g; omega)]
    exact h.box
  · have := h.row.set k x y (by simp [hk]; omega)
    rw [setK hk hn] at this
    exact this
theorem KS.kept {w W W1 : World} {r : Nat} {a : Option Addr} {c : Nat} {b : List Nat} {q g n : Nat} {A : List K} (h : KS w W r a c b q g n A) (hb : Below W.heap.size W W1) : KS w W1 r a c b q g n A :=
  ⟨h.rd.kept hb, (hb.block _ (Array.getElem?_eq_some_iff.1 h.box).1).trans h.box, h.row.same (hb.block _ h.row.lt), h.gt, h.rlt⟩

set_option maxRecDepth 100000 in
set_option maxHeartbeats 2000000 in
theorem set_r (w : World) (r : Nat) (a : Option Addr) (c : Nat) (b : List Nat) (p most : Nat) (h : IsReader w r a c b p 0) (hmo : most ≤ 1000) :
    Calls Try.prog 77 #[rdv r, .int .u64 (most : Int)] w fun e' w' => RdPost w r a c b (setR b most p) (OwnKs w) e' w' := by
  have H0 : Hid (IsReader w r a c b p 0) := h
  have HR : Hid (Reads w r a c b p 0 (w.alloc (.cells #[.pointer (some ⟨r, 0, none⟩)] 83))) := Reads.alloc ⟨h, World.grownBy.refl _ _⟩ _
  have HB0 : Hid ((w.alloc (.cells #[.pointer (some ⟨r, 0, none⟩)] 83)).heap[w.heap.size]? = some (.cells #[.pointer (some ⟨r, 0, none⟩)] 83 (0, 0))) := heap_alloc_new _ _ rfl
  have HLt : Hid (r < w.heap.size) := h.lt
  have HA : Hid (setR b most p = match upR b most p with | .ok (n, q) => keysR b n [] q | .error x => .error x) := rfl
  clear h
  generalize setR b most p = TT at *
  go_enter Try.func77, Try.ntmps77
  go_upto_region 1 with fail
  generalize w.alloc (.cells #[.pointer (some ⟨r, 0, none⟩)] 83) = W0 at *
  have k0 : W0.cell? ⟨w.heap.size, 0, none⟩ = some (.pointer (some ⟨r, 0, none⟩)) := by simp [World.cell?, HB0.out]
  cases hu : upR b most p with
  | error x =>
    obtain ⟨q, x⟩ := x
    have HT : Hid (TT = .error (q, x)) := by rw [HA.out, hu]; rfl
    have HU : Hid (upR b most p = .error (q, x)) := hu
    clear hu HA
    go_wp2_with fail
    refine (upto_bad W0 r a c b p most q x HR.out.1 HU.out).mono ?_
    rintro e1 w1 ⟨rfl, hg1⟩
    have HF : Hid (RdPost w r a c b TT (OwnKs w) (.panicked (flt q x)) w1) := RdPost.fails HT.out (grown_trans' HR.out.2 hg1)
    clear hg1
    go_wp2
    exact ⟨rfl, HF.out⟩
  | ok x =>
    obtain ⟨n, q⟩ := x
    have HU : Hid (upR b most p = .ok (n, q)) := hu
    have HT : Hid (keysR b n [] q = TT) := by rw [HA.out, hu]; rfl
    clear hu HA
    go_wp2_with fail
    refine (upto_ok W0 r a c b p most n q HR.out.1 hmo HU.out).mono ?_
    rintro e1 w1 ⟨rfl, hr1, hn⟩
    have HB1 : Hid (w1.heap[w.heap.size]? = some (.cells #[.pointer (some ⟨r, 0, none⟩)] 83 (0, 0))) := (block_reads hr1 (Array.getElem?_eq_some_iff.1 HB0.out).1 (by have := HLt.out; omega)).trans HB0.out
    have HR1 : Hid (Reads w r a c b q 0 w1) := HR.out.trans hr1
    have hmk := make_keys n (n : Int) rfl (by omega)
    clear hr1 HR HB0 k0
    have HS0 : Hid (KS w (w1.alloc (.cells (cks (List.replicate n (0, 0))).toArray 77)) r a c b q w1.heap.size n []) := ⟨HR1.out.alloc _, (heap_alloc_old _ _ (Array.getElem?_eq_some_iff.1 HB1.out).1).trans HB1.out, by rw [List.nil_append, List.length_nil, Nat.sub_zero]; exact heap_alloc_new _ _ rfl, (Array.getElem?_eq_some_iff.1 HB1.out).1, HLt.out⟩
    go_upto_region 2 with fail
    generalize w1.alloc (.cells (cks (List.replicate n (0, 0))).toArray 77) = W1 at *
    generalize w1.heap.size = g at *
    clear hmk HR1 HB1
    go_wp2_with fail
    go_loopw [14] (fun x wr => ∃ (k q : Nat) (A : List K), k ≤ n ∧ x = .int .i64 (k : Int) ∧ A.length = k ∧ Hid (KS w wr r a c b q g n A) ∧ Hid (keysR b (n - k) A q = TT)) (fun x _ => n - (intOf x).toNat)
    case atStart => exact ⟨0, q, [], Nat.zero_le _, rfl, rfl, HS0, HT⟩
    case round =>
      clear HS0 HT HU q
      obtain ⟨k, q, A, hk, rfl, hA, HS, HT⟩ := hrel
      by_cases hlt : k < n
      · have k0 := HS.out.cell
        have HT2 : Hid (TT = match keyR b q with | .error x => .error x | .ok (z, q1) => if A ≠ [] ∧ lt (kd A (A.length - 1)) z = false then .error (q, 65) else keysR b (n - (k + 1)) (A ++ [z]) q1) := by
          rw [← HT.out, show n - k = (n - (k + 1)) + 1 by omega]; rfl
        clear HT
        go_wp2_with fail
        refine (rAt_any wr r a c b q 0 HS.out.rd.1).mono ?_
        rintro e2 w2 ⟨rfl, hw2⟩
        have hw2' := hw2.symm
        subst hw2'
        clear hw2
        by_cases hq : q + 10 ≤ b.length
        case neg =>
          have HT : Hid (TT = .error (q, 10)) := by rw [HT2.out]; unfold keyR; rw [if_neg hq]; rfl
          have HQ : Hid (¬ q + 10 ≤ b.length) := hq
          clear HT2 hq
          go_wp2_with fail
          refine (key_bad wr r a c b q HS.out.rd.1 HQ.out).mono ?_
          rintro e3 w3 ⟨rfl, hg3⟩
          have HF : Hid (RdPost w r a c b TT (OwnKs w) (.panicked (flt q 10)) w3) := RdPost.fails HT.out (grown_trans' HS.out.rd.2 hg3)
          clear hg3 k0
          go_wp2
          exact ⟨rfl, HF.out⟩
        case pos =>
          obtain ⟨z, hz⟩ : ∃ z, z = fromK ((b.drop q).take 10) := ⟨_, rfl⟩
          have HT3 : Hid (TT = if A ≠ [] ∧ lt (kd A (A.length - 1)) z = false then .error (q, 65) else keysR b (n - (k + 1)) (A ++ [z]) (q + 10)) := by rw [HT2.out]; unfold keyR; rw [if_pos hq, hz]; rfl
          have HQ : Hid (q + 10 ≤ b.length) := hq
          have HZ : Hid (fromK ((b.drop q).take 10) = z) := hz.symm
          clear HT2 hq hz
          go_wp2_with fail
          refine (key_ok wr r a c b q HS.out.rd.1 HQ.out).mono ?_
          rintro e3 w3 ⟨rfl, hr3⟩
          rw [HZ.out]
          have HS3 : Hid (KS w w3 r a c b (q + 10) g n A) := HS.out.step hr3
          clear hr3 k0 HS HZ
          obtain ⟨z1, z2⟩ := z
          obtain ⟨e1, e2⟩ := HS3.out.row.cell k (by simp [hA]; omega)
          have f1 := HS3.out.row.frozen (k * 2)
          have f2 := HS3.out.row.frozen (k * 2 + 1)
          have HS4 : Hid (KS w ((w3.setCell ⟨g, k * 2, none⟩ (.int .i64 z1)).setCell ⟨g, k * 2 + 1, none⟩ (.int .i64 z2)) r a c b (q + 10) g n (A ++ [(z1, z2)])) := HS3.out.put H0.out z1 z2 hA hlt
          go_upto_region 7 with fail
          generalize (w3.setCell ⟨g, k * 2, none⟩ (.int .i64 z1)).setCell ⟨g, k * 2 + 1, none⟩ (.int .i64 z2) = W4 at *
          clear e1 e2 f1 f2 HS3
          have mx := mixed
          by_cases hk0 : k = 0
          · have HT : Hid (keysR b (n - (k + 1)) (A ++ [(z1, z2)]) (q + 10) = TT) := by
              have e : A = [] := List.eq_nil_of_length_eq_zero (by omega)
              rw [HT3.out, if_neg (by rw [e]; simp)]; rfl
            have hd0 : decide ((0 : Int) < (k : Int)) = false := by simp; omega
            have hd1 : decide (0 < k) = false := by simp; omega
            have HCm : Hid (∀ w, Calls Try.prog 68 #[.agg #[.int .i64 z1, .int .i64 z2], .agg #[.int .i64 z1, .int .i64 z2]] w fun e w' => e = .returned (.int .i64 (cmp (z1, z2) (z1, z2))) ∧ ∃ q os, w' = grow (w.drewN q) os) := fun w => compare_any w z1 z2 z1 z2
            clear hk0 HT3
            refine wp_region_quiet_grown mx (by kernel_rfl) ?_
            repeat (go_big_quiet_step ((go_at_call 68; exact Calls.grown_of (HCm.out _))))
            refine wpQuiet_nil ?_
            intro _ hw'
            obtain ⟨⟨nq, osq⟩, hw''⟩ := hw'
            subst hw''
            have HS5 : Hid (KS w (grow (W4.drewN nq) osq) r a c b (q + 10) g n (A ++ [(z1, z2)])) := HS4.out.kept (Grew.below ⟨_, _, rfl⟩)
            generalize grow (W4.drewN nq) osq = W5 at *
            clear HS4 hd0 hd1
            go_wp2
            go_roundw
            case rel => exact ⟨k + 1, q + 10, A ++ [(z1, z2)], by omega, by go_num, by simp [hA], HS5, HT⟩
            case measure => simp [intOf]; omega
          · have hkp : (0 : Int) < (k : Int) := by omega
            have hd0 : decide ((0 : Int) < (k : Int)) = true := by simpa using hkp
            have hd1 : decide (0 < k) = true := by simp; omega
            have hkm : (k : Int) - 1 = ((k - 1 : Nat) : Int) := by omega
            have hkn : (k : Int) < (n : Int) := by omega
            have hkn1 : ((k - 1 : Nat) : Int) < (n : Int) := by omega
            have hk1 : k - 1 < n := by omega
            obtain ⟨p1, p2⟩ := HS4.out.row.cell (k - 1) (by rw [List.length_append, List.length_append, List.length_replicate]; simp only [List.length_singleton]; omega)
            obtain ⟨p3, p4⟩ := HS4.out.row.cell k (by rw [List.length_append, List.length_append, List.length_replicate]; simp only [List.length_singleton]; omega)
            have ek1 : kd (A ++ [(z1, z2)] ++ List.replicate (n - (A ++ [(z1, z2)]).length) (0, 0)) (k - 1) = kd A (k - 1) := by
              rw [kd_left _ _ _ (by simp <;> omega), kd_left _ _ _ (by omega)]
            have ek2 : kd (A ++ [(z1, z2)] ++ List.replicate (n - (A ++ [(z1, z2)]).length) (0, 0)) k = (z1, z2) := by
              rw [kd_left _ _ _ (by simp <;> omega)]
              have := kd_right A [(z1, z2)] 0 (by simp)
              rw [hA] at this; exact this
            rw [ek1] at p1 p2
            rw [ek2] at p3 p4
            have HTc : Hid (TT = if lt (kd A (k - 1)) (z1, z2) = false then .error (q, 65) else keysR b (n - (k + 1)) (A ++ [(z1, z2)]) (q + 10)) := by
              rw [HT3.out, hA]
              have hne : A ≠ [] := fun e => hk0 (by rw [e] at hA; exact hA.symm)
              by_cases hl : lt (kd A (k - 1)) (z1, z2) = false
              · rw [if_pos ⟨hne, hl⟩, if_pos hl]; rfl
              · rw [if_neg (fun h => hl h.2), if_neg hl]; rfl
            clear HT3 ek1 ek2
            generalize kd A (k - 1) = pk at *
            obtain ⟨u, s⟩ := pk
            simp only at p1 p2 p3 p4
            have d1 : ∀ n os, (grow (W4.drewN n) os).cell? ⟨g, (k - 1) * 2, none⟩ = some (.int .i64 u) := fun n os => Grew.cell ⟨n, os, rfl⟩ p1
            have d2 : ∀ n os, (grow (W4.drewN n) os).cell? ⟨g, (k - 1) * 2 + 1, none⟩ = some (.int .i64 s) := fun n os => Grew.cell ⟨n, os, rfl⟩ p2
            have d3 : ∀ n os, (grow (W4.drewN n) os).cell? ⟨g, k * 2, none⟩ = some (.int .i64 z1) := fun n os => Grew.cell ⟨n, os, rfl⟩ p3
            have d4 : ∀ n os, (grow (W4.drewN n) os).cell? ⟨g, k * 2 + 1, none⟩ = some (.int .i64 z2) := fun n os => Grew.cell ⟨n, os, rfl⟩ p4
            clear p1 p2 p3 p4 hk0
            cases hlu : lt (u, s) (z1, z2) with
            | false =>
              have HT : Hid (TT = .error (q, 65)) := by rw [HTc.out, if_pos hlu]; rfl
              have hcv : ∃ c : Int, cmp (u, s) (z1, z2) = c ∧ 0 ≤ c := ⟨_, rfl, by have := cmp_neg (u, s) (z1, z2); rw [hlu] at this; simp at this; exact this⟩
              obtain ⟨cv, hcv, hcp⟩ := hcv
              have hcd : decide (0 ≤ cv) = true := by simpa using hcp
              have HCm : Hid (∀ w, Calls Try.prog 68 #[.agg #[.int .i64 u, .int .i64 s], .agg #[.int .i64 z1, .int .i64 z2]] w fun e w' => e = .returned (.int .i64 cv) ∧ ∃ q os, w' = grow (w.drewN q) os) := fun w => by
                have h := compare_any w u s z1 z2
                rwa [hcv] at h
              clear HTc hlu hcv
              refine wp_region_quiet_grown mx (by kernel_rfl) ?_
              repeat (go_big_quiet_step ((go_at_call 68; exact Calls.grown_of (HCm.out _))))
              refine wpQuiet_nil ?_
              intro _ hw'
              obtain ⟨⟨nq, osq⟩, hw''⟩ := hw'
              subst hw''
              have HF : Hid (RdPost w r a c b TT (OwnKs w) (.panicked (flt q 65)) (grow (W4.drewN nq) osq)) := RdPost.fails HT.out (HS4.out.kept (Grew.below ⟨_, _, rfl⟩)).rd.2
              generalize grow (W4.drewN nq) osq = W5 at *
              clear d1 d2 d3 d4 HS4
              go_wp2
              exact ⟨rfl, HF.out⟩
            | true =>
              have HT : Hid (keysR b (n - (k + 1)) (A ++ [(z1, z2)]) (q + 10) = TT) := by rw [HTc.out, if_neg (by rw [hlu]; simp)]; rfl
              have hcv : cmp (u, s) (z1, z2) = -1 := cmp_lt hlu
              have HCm : Hid (∀ w, Calls Try.prog 68 #[.agg #[.int .i64 u, .int .i64 s], .agg #[.int .i64 z1, .int .i64 z2]] w fun e w' => e = .returned (.int .i64 (-1)) ∧ ∃ q os, w' = grow (w.drewN q) os) := fun w => by
                have h := compare_any w u s z1 z2
                rwa [hcv] at h
              clear HTc hlu hcv
              refine wp_region_quiet_grown mx (by kernel_rfl) ?_
              repeat (go_big_quiet_step ((go_at_call 68; exact Calls.grown_of (HCm.out _))))
              refine wpQuiet_nil ?_
              intro _ hw'
              obtain ⟨⟨nq, osq⟩, hw''⟩ := hw'
              subst hw''
              have HS5 : Hid (KS w (grow (W4.drewN nq) osq) r a c b (q + 10) g n (A ++ [(z1, z2)])) := HS4.out.kept (Grew.below ⟨_, _, rfl⟩)
              generalize grow (W4.drewN nq) osq = W5 at *
              clear HS4 d1 d2 d3 d4
              go_wp2
              go_roundw
              case rel => exact ⟨k + 1, q + 10, A ++ [(z1, z2)], by omega, by go_num, by simp [hA], HS5, HT⟩
              case measure => simp [intOf]; omega
      · obtain rfl : k = n := by omega
        have HF : Hid (RdPost w r a c b TT (OwnKs w) (.returned (.slice (some ⟨g, 0, none⟩) k k)) wr) := by
          have h1 := HT.out
          rw [Nat.sub_self] at h1
          refine RdPost.good (x := A) (q := q) h1.symm HS.out.rd ⟨g, by rw [hA], ?_, by have := HS.out.gt; omega⟩
          have h2 := HS.out.row
          rw [hA, Nat.sub_self, List.replicate_zero, List.append_nil] at h2
          exact h2
        clear HS HT
        go_wp2
        go_ret
        exact HF.out
end Go.Proofs.Ytlilaicgmdbhcaa.Kk
