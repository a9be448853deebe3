import Derived.Test.YtlilaicgmdbhcaaJ13
import Derived.Test.YtlilaicgmdbhcaaJ12
import Derived.Deep.RegionHeld3
import Derived.Deep.RegionWith
/-
  WHAT A Reader's CALLS KEEP.
-/
namespace Go.Proofs.Ytlilaicgmdbhcaa
open Go.RowKit

theorem Reads.trans {w w1 w2 : World} {r : Nat} {a : Option Addr} {c : Nat} {b : List Nat} {p q : Nat} {e x : Int} (h : Reads w r a c b p e w1) (k : Reads w1 r a c b q x w2) : Reads w r a c b q x w2 := ⟨k.1, grown_trans' h.2 k.2⟩
theorem Reads.kept {w w1 w2 : World} {r : Nat} {a : Option Addr} {c : Nat} {b : List Nat} {p : Nat} {e : Int} (h : Reads w r a c b p e w1) (hb : Below w1.heap.size w1 w2) : Reads w r a c b p e w2 := ⟨h.1.kept hb, grown_trans' h.2 (grown_below hb)⟩
theorem Reads.alloc {w w1 : World} {r : Nat} {a : Option Addr} {c : Nat} {b : List Nat} {p : Nat} {e : Int} (h : Reads w r a c b p e w1) (o : Obj) : Reads w r a c b p e (w1.alloc o) := h.kept ((Below.refl _ _).alloc (Nat.le_refl _) _)

theorem IsReader.grown {w w1 : World} {r : Nat} {a : Option Addr} {c : Nat} {b : List Nat} {p : Nat} {e : Int} {row : Option Nat} (h : IsReader w r a c b p e) (hg : w.grownBy w1 row) (h1 : some r ≠ row) (h2 : (Value.slice a b.length c).ownBlock = none ∨ (Value.slice a b.length c).ownBlock ≠ row) : IsReader w1 r a c b p e :=
  ⟨by rw [hg.block r h.lt h1]; exact h.1, h.2.1.grown hg h2, h.2.2⟩
/-- a store into a block that is new since w -/
theorem Reads.setNew {w W : World} {r : Nat} {a : Option Addr} {c : Nat} {b : List Nat} {p p0 : Nat} {e e0 : Int} (h : Reads w r a c b p e W) (h0 : IsReader w r a c b p0 e0) (B i : Nat) (v : Value) (hB : w.heap.size ≤ B) : Reads w r a c b p e (W.setCell ⟨B, i, none⟩ v) := by
  have hg := grown_setCell W ⟨B, i, none⟩ v
  refine ⟨h.1.grown hg (fun e => ?_) ?_, ?_⟩
  · have := h0.lt
    simp at e; omega
  · by_cases hn : (Value.slice a b.length c).ownBlock = none
    · exact .inl hn
    · refine .inr fun e => ?_
      have := (h0.2.1.2.lt B e).2
      omega
  · refine ⟨hg.os.trans h.2.os, hg.tape.trans h.2.tape, hg.output.trans h.2.output, Nat.le_trans h.2.size hg.size, fun k hk hr => ?_⟩
    rw [hg.block k (Nat.lt_of_lt_of_le hk h.2.size) (fun e => by simp at e; omega), h.2.block k hk hr]
end Go.Proofs.Ytlilaicgmdbhcaa
/-
  THE WALKS OF giveUp, look, end, upto.
-/
namespace Go.Proofs.Ytlilaicgmdbhcaa.Kk
open Go.RowKit Go.Sort

/-- a reading -/
abbrev rdv (r : Nat) : Value := .agg #[.pointer (some ⟨r, 0, none⟩)]
/-- what reading panics with -/
abbrev flt (p : Nat) (e : Int) : List PanicEntry := [{ v := .iface 79 (.agg #[.int .i64 (p : Int), .int .i64 e]), recovered := false }]

theorem upto_le (b : List Nat) (p most : Nat) : (rdUpto b p 0 most).1 ≤ most := by
  unfold rdUpto
  repeat' split
  all_goals (try simp)
  all_goals omega
theorem giveUp_ok (w : World) (r : Nat) :
    Calls Try.prog 62 #[rdv r, .int .i64 0] w fun e' w' => e' = .returned (.tuple #[]) ∧ Grew w w' := by
  have HG : Hid (Grew w (w.alloc (.cells #[.pointer (some ⟨r, 0, none⟩)] 83))) := (Grew.refl _).alloc _
  go_enter Try.func62, Try.ntmps62
  go_wp2
  go_end0
  exact ⟨rfl, HG.out⟩

set_option maxHeartbeats 1000000 in
theorem giveUp_bad (w : World) (r : Nat) (a : Option Addr) (c : Nat) (b : List Nat) (p : Nat) (e e0 : Int) (h : IsReader w r a c b p e0) (he : e ≠ 0) :
    Calls Try.prog 62 #[rdv r, .int .i64 e] w fun e' w' => e' = .panicked (flt p e) ∧ Grew w w' := by
  have HG : Hid (Grew w (w.alloc (.cells #[.pointer (some ⟨r, 0, none⟩)] 83))) := (Grew.refl _).alloc _
  have HR : Hid (IsReader (w.alloc (.cells #[.pointer (some ⟨r, 0, none⟩)] 83)) r a c b p e0) := h.kept HG.out.below
  have he' : ¬ e = 0 := he
  clear h he
  go_enter Try.func62, Try.ntmps62
  go_wp2_with fail
  refine (rAt_any _ r a c b p e0 HR.out).mono ?_
  rintro e1 w1 ⟨rfl, hw⟩
  subst hw
  go_wp2
  exact ⟨rfl, rfl, HG.out⟩

set_option maxHeartbeats 1000000 in
theorem look_ok (w : World) (r : Nat) (a : Option Addr) (c : Nat) (b : List Nat) (p : Nat) (h : IsReader w r a c b p 0) :
    Calls Try.prog 75 #[rdv r] w fun e' w' => e' = .returned (.tuple #[]) ∧ Grew w w' := by
  have mx := mixed
  have HG : Hid (Grew w (w.alloc (.cells #[.pointer (some ⟨r, 0, none⟩)] 83))) := (Grew.refl _).alloc _
  have HR : Hid (IsReader (w.alloc (.cells #[.pointer (some ⟨r, 0, none⟩)] 83)) r a c b p 0) := h.kept HG.out.below
  have k0 : (w.alloc (.cells #[.pointer (some ⟨r, 0, none⟩)] 83)).cell? ⟨w.heap.size, 0, none⟩ = some (.pointer (some ⟨r, 0, none⟩)) := cell_new _ _ _ 0 _ rfl
  clear h
  go_enter Try.func75, Try.ntmps75
  go_upto_region 1 with fail
  generalize w.alloc (.cells #[.pointer (some ⟨r, 0, none⟩)] 83) = W0 at *
  have g0 : ∀ n os, (grow (W0.drewN n) os).cell? ⟨w.heap.size, 0, none⟩ = some (.pointer (some ⟨r, 0, none⟩)) := fun n os => Grew.cell ⟨n, os, rfl⟩ k0
  have HE : Hid (∀ n os, Calls Try.prog 85 #[.pointer (some ⟨r, 0, none⟩)] (grow (W0.drewN n) os) fun e w' => e = .returned (.int .i64 0) ∧ ∃ q os', w' = grow ((grow (W0.drewN n) os).drewN q) os') := fun n os => (rErr_any _ r a c b p 0 (HR.out.kept (Grew.below ⟨n, os, rfl⟩))).mono fun e w' h => ⟨h.1, 0, #[], by rw [h.2, grow_empty]; rfl⟩
  have HU : Hid (∀ n os, Calls Try.prog 62 #[rdv r, .int .i64 0] (grow (W0.drewN n) os) fun e w' => e = .returned (.tuple #[]) ∧ ∃ q os', w' = grow ((grow (W0.drewN n) os).drewN q) os') := fun n os => giveUp_ok _ r
  clear k0
  refine wp_region_quiet_grown mx (by kernel_rfl) ?_
  repeat (go_big_quiet_step (first | (go_at_call 85; exact Calls.grown_of (HE.out _ _)) | (go_at_call 62; exact Calls.grown_of (HU.out _ _))))
  refine wpQuiet_nil ?_
  intro _ hw'
  obtain ⟨⟨nq, osq⟩, hw''⟩ := hw'
  subst hw''
  go_wp2
  go_end0
  exact ⟨rfl, HG.out.trans ⟨_, _, rfl⟩⟩

set_option maxRecDepth 100000 in
set_option maxHeartbeats 1000000 in
theorem look_bad (w : World) (r : Nat) (a : Option Addr) (c : Nat) (b : List Nat) (p : Nat) (e : Int) (h : IsReader w r a c b p e) (he : e ≠ 0) :
    Calls Try.prog 75 #[rdv r] w fun e' w' => e' = .panicked (flt p (e)) ∧ Grew w w' := by
  have HG : Hid (Grew w (w.alloc (.cells #[.pointer (some ⟨r, 0, none⟩)] 83))) := (Grew.refl _).alloc _
  have HR : Hid (IsReader (w.alloc (.cells #[.pointer (some ⟨r, 0, none⟩)] 83)) r a c b p e) := h.kept HG.out.below
  have k0 : (w.alloc (.cells #[.pointer (some ⟨r, 0, none⟩)] 83)).cell? ⟨w.heap.size, 0, none⟩ = some (.pointer (some ⟨r, 0, none⟩)) := cell_new _ _ _ 0 _ rfl
  have HN : Hid (e ≠ 0) := he
  clear h he
  go_enter Try.func75, Try.ntmps75
  go_upto_region 1 with fail
  generalize w.alloc (.cells #[.pointer (some ⟨r, 0, none⟩)] 83) = W0 at *
  have HRd : Hid (IsReader W0.drew r a c b p e) := HR.out.drewN 1
  have kd0 : W0.drew.cell? ⟨w.heap.size, 0, none⟩ = some (.pointer (some ⟨r, 0, none⟩)) := k0
  have HGd : Hid (Grew w W0.drew) := HG.out.drew
  have HW : Hid (∀ w1, w1 = W0.drew → Hid (IsReader w1 r a c b p e) ∧ Hid (Grew w w1) ∧ w1.cell? ⟨w.heap.size, 0, none⟩ = some (.pointer (some ⟨r, 0, none⟩))) := fun w1 h => by subst h; exact ⟨HRd, HGd, kd0⟩
  clear k0
  refine wp_region_any (by kernel_rfl) ?_
  change wpAny _ _ _ _ _ _ _ (World.drew _)
  generalize W0.drew = V at *
  refine wpAny_take (i := 1) (v := .pointer (some ⟨w.heap.size, 0, none⟩)) rfl (by kernel_rfl) (by kernel_rfl) (by kernel_rfl) (fun _ _ _ h => h) (Or.inl ⟨by rfl, ?_⟩) ?_
  · intro w; go_simp
  refine wpAny_ready (rs := [0, 2]) (by kernel_rfl) (by simp) ?_
  refine AllReady.cons rfl (fun K hK => ?_) ?_
  · go_simp
    refine hK _ _ ?_
    clear hK K
    refine wpAny_ready (rs := [2]) (by kernel_rfl) (by simp) ?_
    refine AllReady.cons rfl (fun K hK => ?_) ?_
    · go_simp
      refine hK _ _ ?_
      clear hK K
      refine wpAny_ready (rs := [3]) (by kernel_rfl) (by simp) ?_
      refine AllReady.cons rfl (fun K hK => ?_) ?_
      · go_simp
        refine (rErr_any _ r a c b p e HRd.out).mono ?_
        rintro e1 w1 ⟨rfl, hw1⟩
        obtain ⟨HR1, HG1, k1⟩ := HW.out w1 hw1
        refine hK _ _ ?_
        clear hK K hw1
        refine wpAny_ready (rs := [4]) (by kernel_rfl) (by simp) ?_
        refine AllReady.cons rfl (fun K hK => ?_) ?_
        · go_simp
          refine (giveUp_bad _ r a c b p e e HR1.out HN.out).mono ?_
          rintro e2 w2 ⟨rfl, hg2⟩
          exact ⟨rfl, rfl, HG1.out.trans hg2⟩
        exact AllReady.nil
      exact AllReady.nil
    exact AllReady.nil
  refine AllReady.cons rfl (fun K hK => ?_) ?_
  · go_simp
    refine hK _ _ ?_
    clear hK K
    refine wpAny_ready (rs := [0, 3]) (by kernel_rfl) (by simp) ?_
    refine AllReady.cons rfl (fun K hK => ?_) ?_
    · go_simp
      refine hK _ _ ?_
      clear hK K
      refine wpAny_ready (rs := [3]) (by kernel_rfl) (by simp) ?_
      refine AllReady.cons rfl (fun K hK => ?_) ?_
      · go_simp
        refine (rErr_any _ r a c b p e HRd.out).mono ?_
        rintro e1 w1 ⟨rfl, hw1⟩
        obtain ⟨HR1, HG1, k1⟩ := HW.out w1 hw1
        refine hK _ _ ?_
        clear hK K hw1
        refine wpAny_ready (rs := [4]) (by kernel_rfl) (by simp) ?_
        refine AllReady.cons rfl (fun K hK => ?_) ?_
        · go_simp
          refine (giveUp_bad _ r a c b p e e HR1.out HN.out).mono ?_
          rintro e2 w2 ⟨rfl, hg2⟩
          exact ⟨rfl, rfl, HG1.out.trans hg2⟩
        exact AllReady.nil
      exact AllReady.nil
    refine AllReady.cons rfl (fun K hK => ?_) ?_
    · go_simp
      refine (rErr_any _ r a c b p e HRd.out).mono ?_
      rintro e1 w1 ⟨rfl, hw1⟩
      obtain ⟨HR1, HG1, k1⟩ := HW.out w1 hw1
      refine hK _ _ ?_
      clear hK K hw1
      refine wpAny_ready (rs := [0]) (by kernel_rfl) (by simp) ?_
      refine AllReady.cons rfl (fun K hK => ?_) ?_
      · go_simp
        refine hK _ _ ?_
        clear hK K
        refine wpAny_ready (rs := [4]) (by kernel_rfl) (by simp) ?_
        refine AllReady.cons rfl (fun K hK => ?_) ?_
        · go_simp
          refine (giveUp_bad _ r a c b p e e HR1.out HN.out).mono ?_
          rintro e2 w2 ⟨rfl, hg2⟩
          exact ⟨rfl, rfl, HG1.out.trans hg2⟩
        exact AllReady.nil
      exact AllReady.nil
    exact AllReady.nil
  exact AllReady.nil
set_option maxHeartbeats 1000000 in
theorem end_ok (w : World) (r : Nat) (a : Option Addr) (c : Nat) (b : List Nat) (p : Nat) (h : IsReader w r a c b p 0) (hp : p = b.length) :
    Calls Try.prog 44 #[rdv r] w fun e' w' => e' = .returned (.tuple #[]) ∧ Grew w w' := by
  have mx := mixed
  have HG : Hid (Grew w (w.alloc (.cells #[.pointer (some ⟨r, 0, none⟩)] 83))) := (Grew.refl _).alloc _
  have HR : Hid (IsReader (w.alloc (.cells #[.pointer (some ⟨r, 0, none⟩)] 83)) r a c b p 0) := h.kept HG.out.below
  have k0 : (w.alloc (.cells #[.pointer (some ⟨r, 0, none⟩)] 83)).cell? ⟨w.heap.size, 0, none⟩ = some (.pointer (some ⟨r, 0, none⟩)) := cell_new _ _ _ 0 _ rfl
  clear h
  go_enter Try.func44, Try.ntmps44
  go_upto_region 1 with fail
  generalize w.alloc (.cells #[.pointer (some ⟨r, 0, none⟩)] 83) = W0 at *
  have g0 : ∀ n os, (grow (W0.drewN n) os).cell? ⟨w.heap.size, 0, none⟩ = some (.pointer (some ⟨r, 0, none⟩)) := fun n os => Grew.cell ⟨n, os, rfl⟩ k0
  have HE : Hid (∀ n os, Calls Try.prog 63 #[.pointer (some ⟨r, 0, none⟩)] (grow (W0.drewN n) os) fun e w' => e = .returned (.int .i64 0) ∧ ∃ q os', w' = grow ((grow (W0.drewN n) os).drewN q) os') := fun n os => (rEnd_any _ r a c b p 0 (HR.out.kept (Grew.below ⟨n, os, rfl⟩))).mono fun e w' h => ⟨by rw [h.1]; unfold rdEnd; rw [if_neg (by omega)], by obtain ⟨q, hq⟩ := h.2; exact ⟨q, #[], by rw [hq, grow_empty]⟩⟩
  have HU : Hid (∀ n os, Calls Try.prog 62 #[rdv r, .int .i64 0] (grow (W0.drewN n) os) fun e w' => e = .returned (.tuple #[]) ∧ ∃ q os', w' = grow ((grow (W0.drewN n) os).drewN q) os') := fun n os => giveUp_ok _ r
  clear k0
  refine wp_region_quiet_grown mx (by kernel_rfl) ?_
  repeat (go_big_quiet_step (first | (go_at_call 63; exact Calls.grown_of (HE.out _ _)) | (go_at_call 62; exact Calls.grown_of (HU.out _ _))))
  refine wpQuiet_nil ?_
  intro _ hw'
  obtain ⟨⟨nq, osq⟩, hw''⟩ := hw'
  subst hw''
  go_wp2
  go_end0
  exact ⟨rfl, HG.out.trans ⟨_, _, rfl⟩⟩

set_option maxRecDepth 100000 in
set_option maxHeartbeats 1000000 in
theorem end_bad (w : World) (r : Nat) (a : Option Addr) (c : Nat) (b : List Nat) (p : Nat) (e : Int) (h : IsReader w r a c b p e) (he : (rdEnd b p e) ≠ 0) :
    Calls Try.prog 44 #[rdv r] w fun e' w' => e' = .panicked (flt p ((rdEnd b p e))) ∧ Grew w w' := by
  have HG : Hid (Grew w (w.alloc (.cells #[.pointer (some ⟨r, 0, none⟩)] 83))) := (Grew.refl _).alloc _
  have HR : Hid (IsReader (w.alloc (.cells #[.pointer (some ⟨r, 0, none⟩)] 83)) r a c b p e) := h.kept HG.out.below
  have k0 : (w.alloc (.cells #[.pointer (some ⟨r, 0, none⟩)] 83)).cell? ⟨w.heap.size, 0, none⟩ = some (.pointer (some ⟨r, 0, none⟩)) := cell_new _ _ _ 0 _ rfl
  have HN : Hid ((rdEnd b p e) ≠ 0) := he
  clear h he
  go_enter Try.func44, Try.ntmps44
  go_upto_region 1 with fail
  generalize w.alloc (.cells #[.pointer (some ⟨r, 0, none⟩)] 83) = W0 at *
  have HRd : Hid (IsReader W0.drew r a c b p e) := HR.out.drewN 1
  have kd0 : W0.drew.cell? ⟨w.heap.size, 0, none⟩ = some (.pointer (some ⟨r, 0, none⟩)) := k0
  have HGd : Hid (Grew w W0.drew) := HG.out.drew
  have HW : Hid (∀ w1, (∃ q, w1 = W0.drew.drewN q) → Hid (IsReader w1 r a c b p e) ∧ Hid (Grew w w1) ∧ w1.cell? ⟨w.heap.size, 0, none⟩ = some (.pointer (some ⟨r, 0, none⟩))) := fun w1 h => by obtain ⟨q, h⟩ := h; subst h; exact ⟨HRd.out.drewN q, HGd.out.drewN q, kd0⟩
  clear k0
  refine wp_region_any (by kernel_rfl) ?_
  change wpAny _ _ _ _ _ _ _ (World.drew _)
  generalize W0.drew = V at *
  refine wpAny_take (i := 1) (v := .pointer (some ⟨w.heap.size, 0, none⟩)) rfl (by kernel_rfl) (by kernel_rfl) (by kernel_rfl) (fun _ _ _ h => h) (Or.inl ⟨by rfl, ?_⟩) ?_
  · intro w; go_simp
  refine wpAny_ready (rs := [0, 2]) (by kernel_rfl) (by simp) ?_
  refine AllReady.cons rfl (fun K hK => ?_) ?_
  · go_simp
    refine hK _ _ ?_
    clear hK K
    refine wpAny_ready (rs := [2]) (by kernel_rfl) (by simp) ?_
    refine AllReady.cons rfl (fun K hK => ?_) ?_
    · go_simp
      refine hK _ _ ?_
      clear hK K
      refine wpAny_ready (rs := [3]) (by kernel_rfl) (by simp) ?_
      refine AllReady.cons rfl (fun K hK => ?_) ?_
      · go_simp
        refine (rEnd_any _ r a c b p e HRd.out).mono ?_
        rintro e1 w1 ⟨rfl, hw1⟩
        obtain ⟨HR1, HG1, k1⟩ := HW.out w1 hw1
        refine hK _ _ ?_
        clear hK K hw1
        refine wpAny_ready (rs := [4]) (by kernel_rfl) (by simp) ?_
        refine AllReady.cons rfl (fun K hK => ?_) ?_
        · go_simp
          refine (giveUp_bad _ r a c b p (rdEnd b p e) e HR1.out HN.out).mono ?_
          rintro e2 w2 ⟨rfl, hg2⟩
          exact ⟨rfl, rfl, HG1.out.trans hg2⟩
        exact AllReady.nil
      exact AllReady.nil
    exact AllReady.nil
  refine AllReady.cons rfl (fun K hK => ?_) ?_
  · go_simp
    refine hK _ _ ?_
    clear hK K
    refine wpAny_ready (rs := [0, 3]) (by kernel_rfl) (by simp) ?_
    refine AllReady.cons rfl (fun K hK => ?_) ?_
    · go_simp
      refine hK _ _ ?_
      clear hK K
      refine wpAny_ready (rs := [3]) (by kernel_rfl) (by simp) ?_
      refine AllReady.cons rfl (fun K hK => ?_) ?_
      · go_simp
        refine (rEnd_any _ r a c b p e HRd.out).mono ?_
        rintro e1 w1 ⟨rfl, hw1⟩
        obtain ⟨HR1, HG1, k1⟩ := HW.out w1 hw1
        refine hK _ _ ?_
        clear hK K hw1
        refine wpAny_ready (rs := [4]) (by kernel_rfl) (by simp) ?_
        refine AllReady.cons rfl (fun K hK => ?_) ?_
        · go_simp
          refine (giveUp_bad _ r a c b p (rdEnd b p e) e HR1.out HN.out).mono ?_
          rintro e2 w2 ⟨rfl, hg2⟩
          exact ⟨rfl, rfl, HG1.out.trans hg2⟩
        exact AllReady.nil
      exact AllReady.nil
    refine AllReady.cons rfl (fun K hK => ?_) ?_
    · go_simp
      refine (rEnd_any _ r a c b p e HRd.out).mono ?_
      rintro e1 w1 ⟨rfl, hw1⟩
      obtain ⟨HR1, HG1, k1⟩ := HW.out w1 hw1
      refine hK _ _ ?_
      clear hK K hw1
      refine wpAny_ready (rs := [0]) (by kernel_rfl) (by simp) ?_
      refine AllReady.cons rfl (fun K hK => ?_) ?_
      · go_simp
        refine hK _ _ ?_
        clear hK K
        refine wpAny_ready (rs := [4]) (by kernel_rfl) (by simp) ?_
        refine AllReady.cons rfl (fun K hK => ?_) ?_
        · go_simp
          refine (giveUp_bad _ r a c b p (rdEnd b p e) e HR1.out HN.out).mono ?_
          rintro e2 w2 ⟨rfl, hg2⟩
          exact ⟨rfl, rfl, HG1.out.trans hg2⟩
        exact AllReady.nil
      exact AllReady.nil
    exact AllReady.nil
  exact AllReady.nil

set_option maxHeartbeats 1000000 in
theorem upto_ok (w : World) (r : Nat) (a : Option Addr) (c : Nat) (b : List Nat) (p most n q : Nat) (h : IsReader w r a c b p 0) (hm : most ≤ 1000) (hu : upR b most p = .ok (n, q)) :
    Calls Try.prog 60 #[rdv r, .int .u64 (most : Int)] w fun e' w' => e' = .returned (.int .i64 (n : Int)) ∧ Reads w r a c b q 0 w' ∧ n ≤ most := by
  have HG : Hid (Grew w (w.alloc (.cells #[.pointer (some ⟨r, 0, none⟩)] 83))) := (Grew.refl _).alloc _
  have HR : Hid (Reads w r a c b p 0 (w.alloc (.cells #[.pointer (some ⟨r, 0, none⟩)] 83))) := Reads.alloc ⟨h, World.grownBy.refl _ _⟩ _
  have k0 : (w.alloc (.cells #[.pointer (some ⟨r, 0, none⟩)] 83)).cell? ⟨w.heap.size, 0, none⟩ = some (.pointer (some ⟨r, 0, none⟩)) := cell_new _ _ _ 0 _ rfl
  have HU : Hid (rdUpto b p 0 most = (n, q, 0) ∧ n ≤ most) := by
    unfold upR at hu
    have hle := upto_le b p most
    split at hu
    · rename_i h0
      simp only [Except.ok.injEq, Prod.mk.injEq] at hu
      obtain ⟨rfl, rfl⟩ := hu
      exact ⟨Prod.ext rfl (Prod.ext rfl h0), hle⟩
    · cases hu
  have HLt : Hid (r < w.heap.size) := h.lt
  clear h hu
  go_enter Try.func60, Try.ntmps60
  go_wp2_with fail
  refine (rUpto_any _ r a c b p 0 most HR.out.1).mono ?_
  rintro e1 w1 ⟨rfl, hr1⟩
  rw [HU.out.1] at hr1 ⊢
  have HR1 : Hid (Reads w r a c b q 0 w1) := HR.out.trans hr1
  have k1 : w1.cell? ⟨w.heap.size, 0, none⟩ = some (.pointer (some ⟨r, 0, none⟩)) := by
    have := hr1.2.block w.heap.size (by simp) (fun e => by have := HLt.out; simp at e; omega)
    simp only [World.cell?] at k0 ⊢
    rw [this]; exact k0
  have hn := HU.out.2
  clear hr1 k0 HR
  simp only
  go_wp2_with fail
  refine (look_ok w1 r a c b q HR1.out.1).mono ?_
  rintro e2 w2 ⟨rfl, hg2⟩
  have HR2 : Hid (Reads w r a c b q 0 w2) := HR1.out.kept hg2.below
  clear hg2 k1 HR1
  go_wp2
  go_ret
  exact ⟨rfl, HR2.out, HU.out.2⟩

set_option maxHeartbeats 1000000 in
theorem upto_bad (w : World) (r : Nat) (a : Option Addr) (c : Nat) (b : List Nat) (p most q : Nat) (x : Int) (h : IsReader w r a c b p 0) (hu : upR b most p = .error (q, x)) :
    Calls Try.prog 60 #[rdv r, .int .u64 (most : Int)] w fun e' w' => e' = .panicked (flt q x) ∧ w.grownBy w' (some r) := by
  have HR : Hid (Reads w r a c b p 0 (w.alloc (.cells #[.pointer (some ⟨r, 0, none⟩)] 83))) := Reads.alloc ⟨h, World.grownBy.refl _ _⟩ _
  have k0 : (w.alloc (.cells #[.pointer (some ⟨r, 0, none⟩)] 83)).cell? ⟨w.heap.size, 0, none⟩ = some (.pointer (some ⟨r, 0, none⟩)) := cell_new _ _ _ 0 _ rfl
  have HU : Hid ((rdUpto b p 0 most).2 = (q, x) ∧ x ≠ 0) := by
    unfold upR at hu
    split at hu
    · cases hu
    · rename_i h0
      simp only [Except.error.injEq, Prod.mk.injEq] at hu
      obtain ⟨rfl, rfl⟩ := hu
      exact ⟨rfl, h0⟩
  have HLt : Hid (r < w.heap.size) := h.lt
  clear h hu
  go_enter Try.func60, Try.ntmps60
  go_wp2_with fail
  refine (rUpto_any _ r a c b p 0 most HR.out.1).mono ?_
  rintro e1 w1 ⟨rfl, hr1⟩
  rw [HU.out.1] at hr1
  have HR1 : Hid (Reads w r a c b q x w1) := HR.out.trans hr1
  have k1 : w1.cell? ⟨w.heap.size, 0, none⟩ = some (.pointer (some ⟨r, 0, none⟩)) := by
    have := hr1.2.block w.heap.size (by simp) (fun e => by have := HLt.out; simp at e; omega)
    simp only [World.cell?] at k0 ⊢
    rw [this]; exact k0
  clear hr1 k0 HR
  generalize (rdUpto b p 0 most).1 = nn at *
  go_wp2_with fail
  refine (look_bad w1 r a c b q x HR1.out.1 HU.out.2).mono ?_
  rintro e2 w2 ⟨rfl, hg2⟩
  have HR2 : Hid (w.grownBy w2 (some r)) := (HR1.out.kept hg2.below).2
  clear hg2 k1 HR1
  go_wp2
  exact ⟨rfl, rfl, HR2.out⟩
end Go.Proofs.Ytlilaicgmdbhcaa.Kk
