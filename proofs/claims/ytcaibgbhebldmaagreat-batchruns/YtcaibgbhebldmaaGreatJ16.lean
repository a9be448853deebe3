import Derived.Test.YtcaibgbhebldmaaGreatJ15
import Derived.Test.YtcaibgbhebldmaaGreatJ14
import Derived.Test.YtcaibgbhebldmaaGreatJ12
import Derived.Deep.RegionHeld3
import Derived.Deep.RegionWith
/-
  WHAT A Reader's CALLS KEEP.
-/
namespace Go.Proofs.YtcaibgbhebldmaaGreat
open Go.RowKit

theorem Reads.trans {w w1 w2 : World} {r : Nat} {a : Option Addr} {c : Nat} {b : List Nat} {p q : Nat} {e x : Int} (h : Reads w r a c b p e w1) (k : Reads w1 r a c b q x w2) : Reads w r a c b q x w2 := ⟨k.1, grown_trans' h.2 k.2⟩
theorem Reads.kept {w w1 w2 : World} {r : Nat} {a : Option Addr} {c : Nat} {b : List Nat} {p : Nat} {e : Int} (h : Reads w r a c b p e w1) (hb : Below w1.heap.size w1 w2) : Reads w r a c b p e w2 := ⟨h.1.kept hb, grown_trans' h.2 (grown_below hb)⟩
theorem Reads.alloc {w w1 : World} {r : Nat} {a : Option Addr} {c : Nat} {b : List Nat} {p : Nat} {e : Int} (h : Reads w r a c b p e w1) (o : Obj) : Reads w r a c b p e (w1.alloc o) := h.kept ((Below.refl _ _).alloc (Nat.le_refl _) _)

theorem IsReader.grown {w w1 : World} {r : Nat} {a : Option Addr} {c : Nat} {b : List Nat} {p : Nat} {e : Int} {row : Option Nat} (h : IsReader w r a c b p e) (hg : w.grownBy w1 row) (h1 : some r ≠ row) (h2 : (Value.slice a b.length c).ownBlock = none ∨ (Value.slice a b.length c).ownBlock ≠ row) : IsReader w1 r a c b p e :=
  ⟨by rw [hg.block r h.lt h1]; exact h.1, h.2.1.grown hg h2, h.2.2⟩
/-- a store into a block that is new since w -/
theorem Reads.setNew {w W : World} {r : Nat} {a : Option Addr} {c : Nat} {b : List Nat} {p p0 : Nat} {e e0 : Int} (h : Reads w r a c b p e W) (h0 : IsReader w r a c b p0 e0) (B i : Nat) (v : Value) (hB : w.heap.size ≤ B) : Reads w r a c b p e (W.setCell ⟨B, i, none⟩ v) := by
  have hg := grown_setCell W ⟨B, i, none⟩ v
  refine ⟨h.1.grown hg (fun e => ?_) ?_, ?_⟩
  · have := h0.lt
    simp at e; omega
  · by_cases hn : (Value.slice a b.length c).ownBlock = none
    · exact .inl hn
    · refine .inr fun e => ?_
      have := (h0.2.1.2.lt B e).2
      omega
  · refine ⟨hg.os.trans h.2.os, hg.tape.trans h.2.tape, hg.output.trans h.2.output, Nat.le_trans h.2.size hg.size, fun k hk hr => ?_⟩
    rw [hg.block k (Nat.lt_of_lt_of_le hk h.2.size) (fun e => by simp at e; omega), h.2.block k hk hr]
end Go.Proofs.YtcaibgbhebldmaaGreat
/-
  THE WALKS OF giveUp, look, end, upto.
-/
namespace Go.Proofs.YtcaibgbhebldmaaGreat.Kk
open Go.RowKit Go.Sort

/-- a reading -/
abbrev rdv (r : Nat) : Value := .agg #[.pointer (some ⟨r, 0, none⟩)]
/-- what reading panics with -/
abbrev flt (p : Nat) (e : Int) : List PanicEntry := [{ v := .iface 112 (.agg #[.int .i64 (p : Int), .int .i64 e]), recovered := false }]

theorem upto_le (b : List Nat) (p most : Nat) : (rdUpto b p 0 most).1 ≤ most := by
  unfold rdUpto
  repeat' split
  all_goals (try simp)
  all_goals omega
theorem giveUp_ok (w : World) (r : Nat) :
    Calls Tryz.prog 72 #[rdv r, .int .i64 0] w fun e' w' => e' = .returned (.tuple #[]) ∧ Grew w w' := by
  have HG : Hid (Grew w (w.alloc (.cells #[.pointer (some ⟨r, 0, none⟩)] 116))) := (Grew.refl _).alloc _
  go_enter Tryz.func72, Tryz.ntmps72
  go_wp2
  go_end0
  exact ⟨rfl, HG.out⟩

set_option maxHeartbeats 1000000 in
theorem giveUp_bad (w : World) (r : Nat) (a : Option Addr) (c : Nat) (b : List Nat) (p : Nat) (e e0 : Int) (h : IsReader w r a c b p e0) (he : e ≠ 0) :
    Calls Tryz.prog 72 #[rdv r, .int .i64 e] w fun e' w' => e' = .panicked (flt p e) ∧ Grew w w' := by
  have HG : Hid (Grew w (w.alloc (.cells #[.pointer (some ⟨r, 0, none⟩)] 116))) := (Grew.refl _).alloc _
  have HR : Hid (IsReader (w.alloc (.cells #[.pointer (some ⟨r, 0, none⟩)] 116)) r a c b p e0) := h.kept HG.out.below
  have he' : ¬ e = 0 := he
  clear h he
  go_enter Tryz.func72, Tryz.ntmps72
  go_wp2_with fail
  refine (rAt_any _ r a c b p e0 HR.out).mono ?_
  rintro e1 w1 ⟨rfl, hw⟩
  subst hw
  go_wp2
  exact ⟨rfl, rfl, HG.out⟩

set_option maxHeartbeats 1000000 in
theorem look_ok (w : World) (r : Nat) (a : Option Addr) (c : Nat) (b : List Nat) (p : Nat) (h : IsReader w r a c b p 0) :
    Calls Tryz.prog 88 #[rdv r] w fun e' w' => e' = .returned (.tuple #[]) ∧ Grew w w' := by
  have mx := mixed
  have HG : Hid (Grew w (w.alloc (.cells #[.pointer (some ⟨r, 0, none⟩)] 116))) := (Grew.refl _).alloc _
  have HR : Hid (IsReader (w.alloc (.cells #[.pointer (some ⟨r, 0, none⟩)] 116)) r a c b p 0) := h.kept HG.out.below
  have k0 : (w.alloc (.cells #[.pointer (some ⟨r, 0, none⟩)] 116)).cell? ⟨w.heap.size, 0, none⟩ = some (.pointer (some ⟨r, 0, none⟩)) := cell_new _ _ _ 0 _ rfl
  clear h
  go_enter Tryz.func88, Tryz.ntmps88
  go_upto_region 1 with fail
  generalize w.alloc (.cells #[.pointer (some ⟨r, 0, none⟩)] 116) = W0 at *
  have g0 : ∀ n os, (grow (W0.drewN n) os).cell? ⟨w.heap.size, 0, none⟩ = some (.pointer (some ⟨r, 0, none⟩)) := fun n os => Grew.cell ⟨n, os, rfl⟩ k0
  have HE : Hid (∀ n os, Calls Tryz.prog 96 #[.pointer (some ⟨r, 0, none⟩)] (grow (W0.drewN n) os) fun e w' => e = .returned (.int .i64 0) ∧ ∃ q os', w' = grow ((grow (W0.drewN n) os).drewN q) os') := fun n os => (rErr_any _ r a c b p 0 (HR.out.kept (Grew.below ⟨n, os, rfl⟩))).mono fun e w' h => ⟨h.1, 0, #[], by rw [h.2, grow_empty]; rfl⟩
  have HU : Hid (∀ n os, Calls Tryz.prog 72 #[rdv r, .int .i64 0] (grow (W0.drewN n) os) fun e w' => e = .returned (.tuple #[]) ∧ ∃ q os', w' = grow ((grow (W0.drewN n) os).drewN q) os') := fun n os => giveUp_ok _ r
  clear k0
  refine wp_region_quiet_grown mx (by kernel_rfl) ?_
  repeat (go_big_quiet_step (first | (go_at_call 96; exact Calls.grown_of (HE.out _ _)) | (go_at_call 72; exact Calls.grown_of (HU.out _ _))))
  refine wpQuiet_nil ?_
  intro _ hw'
  obtain ⟨⟨nq, osq⟩, hw''⟩ := hw'
  subst hw''
  go_wp2
  go_end0
  exact ⟨rfl, HG.out.trans ⟨_, _, rfl⟩⟩

set_option maxRecDepth 100000 in
set_option maxHeartbeats 1000000 in
theorem look_bad (w : World) (r : Nat) (a : Option Addr) (c : Nat) (b : List Nat) (p : Nat) (e : Int) (h : IsReader w r a c b p e) (he : e ≠ 0) :
    Calls Tryz.prog 88 #[rdv r] w fun e' w' => e' = .panicked (flt p (e)) ∧ Grew w w' := by
  have HG : Hid (Grew w (w.alloc (.cells #[.pointer (some ⟨r, 0, none⟩)] 116))) := (Grew.refl _).alloc _
  have HR : Hid (IsReader (w.alloc (.cells #[.pointer (some ⟨r, 0, none⟩)] 116)) r a c b p e) := h.kept HG.out.below
  have k0 : (w.alloc (.cells #[.pointer (some ⟨r, 0, none⟩)] 116)).cell? ⟨w.heap.size, 0, none⟩ = some (.pointer (some ⟨r, 0, none⟩)) := cell_new _ _ _ 0 _ rfl
  have HN : Hid (e ≠ 0) := he
  clear h he
  go_enter Tryz.func88, Tryz.ntmps88
  go_upto_region 1 with fail
  generalize w.alloc (.cells #[.pointer (some ⟨r, 0, none⟩)] 116) = W0 at *
  have HRd : Hid (IsReader W0.drew r a c b p e) := HR.out.drewN 1
  have kd0 : W0.drew.cell? ⟨w.heap.size, 0, none⟩ = some (.pointer (some ⟨r, 0, none⟩)) := k0
  have HGd : Hid (Grew w W0.drew) := HG.out.drew
  have HW : Hid (∀ w1, w1 = W0.drew → Hid (IsReader w1 r a c b p e) ∧ Hid (Grew w w1) ∧ w1.cell? ⟨w.heap.size, 0, none⟩ = some (.pointer (some ⟨r, 0, none⟩))) := fun w1 h => by subst h; exact ⟨HRd, HGd, kd0⟩
  clear k0
  refine wp_region_any (by kernel_rfl) ?_
  change wpAny _ _ _ _ _ _ _ (World.drew _)
  generalize W0.drew = V at *
  refine wpAny_take (i := 1) (v := .pointer (some ⟨w.heap.size, 0, none⟩)) rfl (by kernel_rfl) (by kernel_rfl) (by kernel_rfl) (fun _ _ _ h => h) (Or.inl ⟨by rfl, ?_⟩) ?_
  · intro w; go_simp
  refine wpAny_ready (rs := [0, 2]) (by kernel_rfl) (by simp) ?_
  refine AllReady.cons rfl (fun K hK => ?_) ?_
  · go_simp
    refine hK _ _ ?_
    clear hK K
    refine wpAny_ready (rs := [2]) (by kernel_rfl) (by simp) ?_
    refine AllReady.cons rfl (fun K hK => ?_) ?_
    · go_simp
      refine hK _ _ ?_
      clear hK K
      refine wpAny_ready (rs := [3]) (by kernel_rfl) (by simp) ?_
      refine AllReady.cons rfl (fun K hK => ?_) ?_
      · go_simp
        refine (rErr_any _ r a c b p e HRd.out).mono ?_
        rintro e1 w1 ⟨rfl, hw1⟩
        obtain ⟨HR1, HG1, k1⟩ := HW.out w1 hw1
        refine hK _ _ ?_
        clear hK K hw1
        refine wpAny_ready (rs := [4]) (by kernel_rfl) (by simp) ?_
        refine AllReady.cons rfl (fun K hK => ?_) ?_
        · go_simp
          refine (giveUp_bad _ r a c b p e e HR1.out HN.out).mono ?_
          rintro e2 w2 ⟨rfl, hg2⟩
          exact ⟨rfl, rfl, HG1.out.trans hg2⟩
        exact AllReady.nil
      exact AllReady.nil
    exact AllReady.nil
  refine AllReady.cons rfl (fun K hK => ?_) ?_
  · go_simp
    refine hK _ _ ?_
    clear hK K
    refine wpAny_ready (rs := [0, 3]) (by kernel_rfl) (by simp) ?_
    refine AllReady.cons rfl (fun K hK => ?_) ?_
    · go_simp
      refine hK _ _ ?_
      clear hK K
      refine wpAny_ready (rs := [3]) (by kernel_rfl) (by simp) ?_
      refine AllReady.cons rfl (fun K hK => ?_) ?_
      · go_simp
        refine (rErr_any _ r a c b p e HRd.out).mono ?_
        rintro e1 w1 ⟨rfl, hw1⟩
        obtain ⟨HR1, HG1, k1⟩ := HW.out w1 hw1
        refine hK _ _ ?_
        clear hK K hw1
        refine wpAny_ready (rs := [4]) (by kernel_rfl) (by simp) ?_
        refine AllReady.cons rfl (fun K hK => ?_) ?_
        · go_simp
          refine (giveUp_bad _ r a c b p e e HR1.out HN.out).mono ?_
          rintro e2 w2 ⟨rfl, hg2⟩
          exact ⟨rfl, rfl, HG1.out.trans hg2⟩
        exact AllReady.nil
      exact AllReady.nil
    refine AllReady.cons rfl (fun K hK => ?_) ?_
    · go_simp
      refine (rErr_any _ r a c b p e HRd.out).mono ?_
      rintro e1 w1 ⟨rfl, hw1⟩
      obtain ⟨HR1, HG1, k1⟩ := HW.out w1 hw1
      refine hK _ _ ?_
      clear hK K hw1
      refine wpAny_ready (rs := [0]) (by kernel_rfl) (by simp) ?_
      refine AllReady.cons rfl (fun K hK => ?_) ?_
      · go_simp
        refine hK _ _ ?_
        clear hK K
        refine wpAny_ready (rs := [4]) (by kernel_rfl) (by simp) ?_
        refine AllReady.cons rfl (fun K hK => ?_) ?_
        · go_simp
          refine (giveUp_bad _ r a c b p e e HR1.out HN.out).mono ?_
          rintro e2 w2 ⟨rfl, hg2⟩
          exact ⟨rfl, rfl, HG1.out.trans hg2⟩
        exact AllReady.nil
      exact AllReady.nil
    exact AllReady.nil
  exact AllReady.nil
set_option maxHeartbeats 1000000 in
theorem end_ok (w : World) (r : Nat) (a : Option Addr) (c : Nat) (b : List Nat) (p : Nat) (h : IsReader w r a c b p 0) (hp : p = b.length) :
    Calls Tryz.prog 50 #[rdv r] w fun e' w' => e' = .returned (.tuple #[]) ∧ Grew w w' := by
  have mx := mixed
  have HG : Hid (Grew w (w.alloc (.cells #[.pointer (some ⟨r, 0, none⟩)] 116))) := (Grew.refl _).alloc _
  have HR : Hid (IsReader (w.alloc (.cells #[.pointer (some ⟨r, 0, none⟩)] 116)) r a c b p 0) := h.kept HG.out.below
  have k0 : (w.alloc (.cells #[.pointer (some ⟨r, 0, none⟩)] 116)).cell? ⟨w.heap.size, 0, none⟩ = some (.pointer (some ⟨r, 0, none⟩)) := cell_new _ _ _ 0 _ rfl
  clear h
  go_enter Tryz.func50, Tryz.ntmps50
  go_upto_region 1 with fail
  generalize w.alloc (.cells #[.pointer (some ⟨r, 0, none⟩)] 116) = W0 at *
  have g0 : ∀ n os, (grow (W0.drewN n) os).cell? ⟨w.heap.size, 0, none⟩ = some (.pointer (some ⟨r, 0, none⟩)) := fun n os => Grew.cell ⟨n, os, rfl⟩ k0
  have HE : Hid (∀ n os, Calls Tryz.prog 73 #[.pointer (some ⟨r, 0, none⟩)] (grow (W0.drewN n) os) fun e w' => e = .returned (.int .i64 0) ∧ ∃ q os', w' = grow ((grow (W0.drewN n) os).drewN q) os') := fun n os => (rEnd_any _ r a c b p 0 (HR.out.kept (Grew.below ⟨n, os, rfl⟩))).mono fun e w' h => ⟨by rw [h.1]; unfold rdEnd; rw [if_neg (by omega)], by obtain ⟨q, hq⟩ := h.2; exact ⟨q, #[], by rw [hq, grow_empty]⟩⟩
  have HU : Hid (∀ n os, Calls Tryz.prog 72 #[rdv r, .int .i64 0] (grow (W0.drewN n) os) fun e w' => e = .returned (.tuple #[]) ∧ ∃ q os', w' = grow ((grow (W0.drewN n) os).drewN q) os') := fun n os => giveUp_ok _ r
  clear k0
  refine wp_region_quiet_grown mx (by kernel_rfl) ?_
  repeat (go_big_quiet_step (first | (go_at_call 73; exact Calls.grown_of (HE.out _ _)) | (go_at_call 72; exact Calls.grown_of (HU.out _ _))))
  refine wpQuiet_nil ?_
  intro _ hw'
  obtain ⟨⟨nq, osq⟩, hw''⟩ := hw'
  subst hw''
  go_wp2
  go_end0
  exact ⟨rfl, HG.out.trans ⟨_, _, rfl⟩⟩

set_option maxRecDepth 100000 in
set_option maxHeartbeats 1000000 in
theorem end_bad (w : World) (r : Nat) (a : Option Addr) (c : Nat) (b : List Nat) (p : Nat) (e : Int) (h : IsReader w r a c b p e) (he : (rdEnd b p e) ≠ 0) :
    Calls Tryz.prog 50 #[rdv r] w fun e' w' => e' = .panicked (flt p ((rdEnd b p e))) ∧ Grew w w' := by
  have HG : Hid (Grew w (w.alloc (.cells #[.pointer (some ⟨r, 0, none⟩)] 116))) := (Grew.refl _).alloc _
  have HR : Hid (IsReader (w.alloc (.cells #[.pointer (some ⟨r, 0, none⟩)] 116)) r a c b p e) := h.kept HG.out.below
  have k0 : (w.alloc (.cells #[.pointer (some ⟨r, 0, none⟩)] 116)).cell? ⟨w.heap.size, 0, none⟩ = some (.pointer (some ⟨r, 0, none⟩)) := cell_new _ _ _ 0 _ rfl
  have HN : Hid ((rdEnd b p e) ≠ 0) := he
  clear h he
  go_enter Tryz.func50, Tryz.ntmps50
  go_upto_region 1 with fail
  generalize w.alloc (.cells #[.pointer (some ⟨r, 0, none⟩)] 116) = W0 at *
  have HRd : Hid (IsReader W0.drew r a c b p e) := HR.out.drewN 1
  have kd0 : W0.drew.cell? ⟨w.heap.size, 0, none⟩ = some (.pointer (some ⟨r, 0, none⟩)) := k0
  have HGd : Hid (Grew w W0.drew) := HG.out.drew
  have HW : Hid (∀ w1, (∃ q, w1 = W0.drew.drewN q) → Hid (IsReader w1 r a c b p e) ∧ Hid (Grew w w1) ∧ w1.cell? ⟨w.heap.size, 0, none⟩ = some (.pointer (some ⟨r, 0, none⟩))) := fun w1 h => by obtain ⟨q, h⟩ := h; subst h; exact ⟨HRd.out.drewN q, HGd.out.drewN q, kd0⟩
  clear k0
  refine wp_region_any (by kernel_rfl) ?_
  change wpAny _ _ _ _ _ _ _ (World.drew _)
  generalize W0.drew = V at *
  refine wpAny_take (i := 1) (v := .pointer (some ⟨w.heap.size, 0, none⟩)) rfl (by kernel_rfl) (by kernel_rfl) (by kernel_rfl) (fun _ _ _ h => h) (Or.inl ⟨by rfl, ?_⟩) ?_
  · intro w; go_simp
  refine wpAny_ready (rs := [0, 2]) (by kernel_rfl) (by simp) ?_
  refine AllReady.cons rfl (fun K hK => ?_) ?_
  · go_simp
    refine hK _ _ ?_
    clear hK K
    refine wpAny_ready (rs := [2]) (by kernel_rfl) (by simp) ?_
    refine AllReady.cons rfl (fun K hK => ?_) ?_
    · go_simp
      refine hK _ _ ?_
      clear hK K
      refine wpAny_ready (rs := [3]) (by kernel_rfl) (by simp) ?_
      refine AllReady.cons rfl (fun K hK => ?_) ?_
      · go_simp
        refine (rEnd_any _ r a c b p e HRd.out).mono ?_
        rintro e1 w1 ⟨rfl, hw1⟩
        obtain ⟨HR1, HG1, k1⟩ := HW.out w1 hw1
        refine hK _ _ ?_
        clear hK K hw1
        refine wpAny_ready (rs := [4]) (by kernel_rfl) (by simp) ?_
        refine AllReady.cons rfl (fun K hK => ?_) ?_
        · go_simp
          refine (giveUp_bad _ r a c b p (rdEnd b p e) e HR1.out HN.out).mono ?_
          rintro e2 w2 ⟨rfl, hg2⟩
          exact ⟨rfl, rfl, HG1.out.trans hg2⟩
        exact AllReady.nil
      exact AllReady.nil
    exact AllReady.nil
  refine AllReady.cons rfl (fun K hK => ?_) ?_
  · go_simp
    refine hK _ _ ?_
    clear hK K
    refine wpAny_ready (rs := [0, 3]) (by kernel_rfl) (by simp) ?_
    refine AllReady.cons rfl (fun K hK => ?_) ?_
    · go_simp
      refine hK _ _ ?_
      clear hK K
      refine wpAny_ready (rs := [3]) (by kernel_rfl) (by simp) ?_
      refine AllReady.cons rfl (fun K hK => ?_) ?_
      · go_simp
        refine (rEnd_any _ r a c b p e HRd.out).mono ?_
        rintro e1 w1 ⟨rfl, hw1⟩
        obtain ⟨HR1, HG1, k1⟩ := HW.out w1 hw1
        refine hK _ _ ?_
        clear hK K hw1
        refine wpAny_ready (rs := [4]) (by kernel_rfl) (by simp) ?_
        refine AllReady.cons rfl (fun K hK => ?_) ?_
        · go_simp
          refine (giveUp_bad _ r a c b p (rdEnd b p e) e HR1.out HN.out).mono ?_
          rintro e2 w2 ⟨rfl, hg2⟩
          exact ⟨rfl, rfl, HG1.out.trans hg2⟩
        exact AllReady.nil
      exact AllReady.nil
    refine AllReady.cons rfl (fun K hK => ?_) ?_
    · go_simp
      refine (rEnd_any _ r a c b p e HRd.out).mono ?_
      rintro e1 w1 ⟨rfl, hw1⟩
      obtain ⟨HR1, HG1, k1⟩ := HW.out w1 hw1
      refine hK _ _ ?_
      clear hK K hw1
      refine wpAny_ready (rs := [0]) (by kernel_rfl) (by simp) ?_
      refine AllReady.cons rfl (fun K hK => ?_) ?_
      · go_simp
        refine hK _ _ ?_
        clear hK K
        refine wpAny_ready (rs := [4]) (by kernel_rfl) (by simp) ?_
        refine AllReady.cons rfl (fun K hK => ?_) ?_
        · go_simp
          refine (giveUp_bad _ r a c b p (rdEnd b p e) e HR1.out HN.out).mono ?_
          rintro e2 w2 ⟨rfl, hg2⟩
          exact ⟨rfl, rfl, HG1.out.trans hg2⟩
        exact AllReady.nil
      exact AllReady.nil
    exact AllReady.nil
  exact AllReady.nil

set_option maxHeartbeats 1000000 in
theorem upto_ok (w : World) (r : Nat) (a : Option Addr) (c : Nat) (b : List Nat) (p most n q : Nat) (h : IsReader w r a c b p 0) (hm : most ≤ 1000) (hu : upR b most p = .ok (n, q)) :
    Calls Tryz.prog 70 #[rdv r, .int .u64 (most : Int)] w fun e' w' => e' = .returned (.int .i64 (n : Int)) ∧ Reads w r a c b q 0 w' ∧ n ≤ most := by
  have HG : Hid (Grew w (w.alloc (.cells #[.pointer (some ⟨r, 0, none⟩)] 116))) := (Grew.refl _).alloc _
  have HR : Hid (Reads w r a c b p 0 (w.alloc (.cells #[.pointer (some ⟨r, 0, none⟩)] 116))) := Reads.alloc ⟨h, World.grownBy.refl _ _⟩ _
  have k0 : (w.alloc (.cells #[.pointer (some ⟨r, 0, none⟩)] 116)).cell? ⟨w.heap.size, 0, none⟩ = some (.pointer (some ⟨r, 0, none⟩)) := cell_new _ _ _ 0 _ rfl
  have HU : Hid (rdUpto b p 0 most = (n, q, 0) ∧ n ≤ most) := by
    unfold upR at hu
    have hle := upto_le b p most
    split at hu
    · rename_i h0
      simp only [Except.ok.injEq, Prod.mk.injEq] at hu
      obtain ⟨rfl, rfl⟩ := hu
      exact ⟨Prod.ext rfl (Prod.ext rfl h0), hle⟩
    · cases hu
  have HLt : Hid (r < w.heap.size) := h.lt
  clear h hu
  go_enter Tryz.func70, Tryz.ntmps70
  go_wp2_with fail
  refine (rUpto_any _ r a c b p 0 most HR.out.1).mono ?_
  rintro e1 w1 ⟨rfl, hr1⟩
  rw [HU.out.1] at hr1 ⊢
  have HR1 : Hid (Reads w r a c b q 0 w1) := HR.out.trans hr1
  have k1 : w1.cell? ⟨w.heap.size, 0, none⟩ = some (.pointer (some ⟨r, 0, none⟩)) := by
    have := hr1.2.block w.heap.size (by simp) (fun e => by have := HLt.out; simp at e; omega)
    simp only [World.cell?] at k0 ⊢
    rw [this]; exact k0
  have hn := HU.out.2
  clear hr1 k0 HR
  simp only
  go_wp2_with fail
  refine (look_ok w1 r a c b q HR1.out.1).mono ?_
  rintro e2 w2 ⟨rfl, hg2⟩
  have HR2 : Hid (Reads w r a c b q 0 w2) := HR1.out.kept hg2.below
  clear hg2 k1 HR1
  go_wp2
  go_ret
  exact ⟨rfl, HR2.out, HU.out.2⟩

set_option maxHeartbeats 1000000 in
theorem upto_bad (w : World) (r : Nat) (a : Option Addr) (c : Nat) (b : List Nat) (p most q : Nat) (x : Int) (h : IsReader w r a c b p 0) (hu : upR b most p = .error (q, x)) :
    Calls Tryz.prog 70 #[rdv r, .int .u64 (most : Int)] w fun e' w' => e' = .panicked (flt q x) ∧ w.grownBy w' (some r) := by
  have HR : Hid (Reads w r a c b p 0 (w.alloc (.cells #[.pointer (some ⟨r, 0, none⟩)] 116))) := Reads.alloc ⟨h, World.grownBy.refl _ _⟩ _
  have k0 : (w.alloc (.cells #[.pointer (some ⟨r, 0, none⟩)] 116)).cell? ⟨w.heap.size, 0, none⟩ = some (.pointer (some ⟨r, 0, none⟩)) := cell_new _ _ _ 0 _ rfl
  have HU : Hid ((rdUpto b p 0 most).2 = (q, x) ∧ x ≠ 0) := by
    unfold upR at hu
    split at hu
    · cases hu
    · rename_i h0
      simp only [Except.error.injEq, Prod.mk.injEq] at hu
      obtain ⟨rfl, rfl⟩ := hu
      exact ⟨rfl, h0⟩
  have HLt : Hid (r < w.heap.size) := h.lt
  clear h hu
  go_enter Tryz.func70, Tryz.ntmps70
  go_wp2_with fail
  refine (rUpto_any _ r a c b p 0 most HR.out.1).mono ?_
  rintro e1 w1 ⟨rfl, hr1⟩
  rw [HU.out.1] at hr1
  have HR1 : Hid (Reads w r a c b q x w1) := HR.out.trans hr1
  have k1 : w1.cell? ⟨w.heap.size, 0, none⟩ = some (.pointer (some ⟨r, 0, none⟩)) := by
    have := hr1.2.block w.heap.size (by simp) (fun e => by have := HLt.out; simp at e; omega)
    simp only [World.cell?] at k0 ⊢
    rw [this]; exact k0
  clear hr1 k0 HR
  generalize (rdUpto b p 0 most).1 = nn at *
  go_wp2_with fail
  refine (look_bad w1 r a c b q x HR1.out.1 HU.out.2).mono ?_
  rintro e2 w2 ⟨rfl, hg2⟩
  have HR2 : Hid (w.grownBy w2 (some r)) := (HR1.out.kept hg2.below).2
  clear hg2 k1 HR1
  go_wp2
  exact ⟨rfl, rfl, HR2.out⟩
end Go.Proofs.YtcaibgbhebldmaaGreat.Kk
/-
  A BATCH's BYTES, AND BACK.
-/
namespace Go.Proofs.YtcaibgbhebldmaaGreat.Kk
open Go.RowKit Go.Sort

theorem hfk (k : K) (h : isKey k = true) (h2 : In64 k.2) : fromK (keyBytes k) = k := (from_keyBytes h h2).1
theorem fold_unfold (n : Nat) : fold (unfold n) = n := by
  unfold fold unfold
  split
  · split <;> omega
  · split <;> omega
theorem unfold_in {n : Nat} (h : n < 18446744073709551616) : In64 (unfold n) := by
  unfold unfold In64
  split <;> omega
/-- a number that was read -/
theorem upR_ate {b : List Nat} (hz : ∀ z ∈ b, z < 256) {most p n q : Nat} (hp : p ≤ b.length) (h : upR b most p = .ok (n, q)) : b.drop p = uint 10 n ++ b.drop q ∧ n ≤ most ∧ q = p + (uint 10 n).length ∧ q ≤ b.length ∧ n < 18446744073709551616 := by
  have hle := upto_le b p most
  unfold upR at h
  split at h
  · rename_i h0
    simp only [Except.ok.injEq, Prod.mk.injEq] at h
    obtain ⟨rfl, rfl⟩ := h
    unfold rdUpto at h0 hle ⊢
    rw [if_neg (by simp)] at h0 hle ⊢
    split at h0
    · rename_i hs; exact absurd (by simpa using h0) hs
    · rename_i hs
      rw [if_neg hs] at hle ⊢
      split at h0
      · cases h0
      · rename_i hm
        rw [if_neg hm] at hle ⊢
        obtain ⟨n, k, e⟩ : ∃ n k, scan (b.drop p) = (n, k, 0) := by
          have h3 : (scan (b.drop p)).2.2 = 0 := by simpa using hs
          exact ⟨(scan (b.drop p)).1, (scan (b.drop p)).2.1, by rw [← h3]⟩
        obtain ⟨h1, _, h3, h4⟩ := scan_one _ n k (fun z h => hz z (List.mem_of_mem_drop h)) e
        rw [e] at hle ⊢
        simp only at hle ⊢
        have hk : (uint 10 n).length = k := by rw [← h4, List.length_take]; omega
        rw [List.length_drop] at h3
        refine ⟨?_, hle, by rw [hk], by omega, h1⟩
        rw [← List.drop_drop, ← h4, List.take_append_drop]
  · cases h
theorem argsR_ate {b : List Nat} (hz : ∀ z ∈ b, z < 256) : ∀ (n : Nat) (acc A : List Int) (p q : Nat), p ≤ b.length → argsR b n acc p = .ok (A, q) → ∃ A', A = acc ++ A' ∧ A'.length = n ∧ b.drop p = argsT A' ++ b.drop q ∧ q = p + (argsT A').length ∧ q ≤ b.length ∧ ∀ z ∈ A', In64 z
  | 0, acc, A, p, q, hp, h => by
    simp only [argsR, Except.ok.injEq, Prod.mk.injEq] at h
    obtain ⟨rfl, rfl⟩ := h
    exact ⟨[], by simp, rfl, by simp [argsT], by simp [argsT], hp, by simp⟩
  | n + 1, acc, A, p, q, hp, h => by
    rw [argsR] at h
    unfold intR at h
    cases hu : upR b 18446744073709551615 p with
    | error x => rw [hu] at h; cases h
    | ok x =>
      obtain ⟨m, q1⟩ := x
      rw [hu] at h
      simp only at h
      obtain ⟨h1, _, h3, h4, h5⟩ := upR_ate hz hp hu
      obtain ⟨A', e, hl, hd, hq, hq2, hin⟩ := argsR_ate hz n _ A q1 q h4 h
      have ea : argsT (unfold m :: A') = uint 10 m ++ argsT A' := by simp [argsT, fold_unfold]
      refine ⟨unfold m :: A', by rw [e]; simp, by simp [hl], by rw [ea, List.append_assoc, ← hd, h1], by rw [ea, hq, h3, List.length_append]; omega, hq2, fun z hz => ?_⟩
      rcases List.mem_cons.1 hz with rfl | hz
      · exact unfold_in h5
      · exact hin z hz
theorem argR_ate {b : List Nat} (hz : ∀ z ∈ b, z < 256) {p q : Nat} {A : List Int} (hp : p ≤ b.length) (h : argR b p = .ok (A, q)) : b.drop p = argsN A ++ b.drop q ∧ A.length ≤ 16 ∧ q = p + (argsN A).length ∧ q ≤ b.length ∧ ∀ z ∈ A, In64 z := by
  unfold argR at h
  cases hu : upR b 16 p with
  | error x => rw [hu] at h; cases h
  | ok x =>
    obtain ⟨n, q1⟩ := x
    rw [hu] at h
    simp only at h
    obtain ⟨h1, h2, h3, h4, h5⟩ := upR_ate hz hp hu
    obtain ⟨A', e, hl, hd, hq, hq2, hin⟩ := argsR_ate hz n [] A q1 q h4 h
    rw [List.nil_append] at e
    subst e
    subst hl
    have ea : argsN A = uint 10 A.length ++ argsT A := rfl
    exact ⟨by rw [ea, List.append_assoc, ← hd, h1], h2, by rw [ea, hq, h3, List.length_append]; omega, hq2, hin⟩
theorem keysR_ate {b : List Nat} (hz : ∀ z ∈ b, z < 256) : ∀ (n : Nat) (acc L : List K) (p q : Nat), p ≤ b.length → Rise acc → keysR b n acc p = .ok (L, q) → Rise L ∧ ∃ L', L = acc ++ L' ∧ L'.length = n ∧ b.drop p = L'.flatMap keyBytes ++ b.drop q ∧ q = p + L'.length * 10 ∧ q ≤ b.length ∧ ∀ z ∈ L', KIn z
  | 0, acc, A, p, q, hp, hr, h => by
    simp only [keysR, Except.ok.injEq, Prod.mk.injEq] at h
    obtain ⟨rfl, rfl⟩ := h
    exact ⟨hr, [], by simp, rfl, by simp, by simp, hp, by simp⟩
  | n + 1, acc, A, p, q, hp, hr, h => by
    rw [keysR] at h
    unfold keyR at h
    by_cases hl : p + 10 ≤ b.length
    · rw [if_pos hl] at h
      simp only at h
      have h10 : ((b.drop p).take 10).length = 10 := by simp; omega
      have hb : ∀ z ∈ (b.drop p).take 10, z < 256 := fun z h => hz z (List.mem_of_mem_drop (List.mem_of_mem_take h))
      obtain ⟨k1, k2, k3⟩ := keyBytes_from h10 hb
      have ek : fromK ((b.drop p).take 10) = fromB ((b.drop p).take 10) := by unfold fromK; rw [if_pos h10]
      rw [ek] at h
      generalize hk : fromB ((b.drop p).take 10) = k at *
      split at h
      · cases h
      · rename_i hlt
        have hr2 : Rise (acc ++ [k]) := by
          refine rise_snoc hr k1 (fun i y hi hy => ?_)
          have hne : acc ≠ [] := by intro e; rw [e] at hi; simp at hi
          have hkd : kd acc (acc.length - 1) = y := by
            have := kd_get (L := acc) (j := acc.length - 1) (by omega)
            rw [show acc.length - 1 = i by omega, hy] at this
            rw [show acc.length - 1 = i by omega]
            exact (Option.some.inj this).symm
          cases hc : lt y k with
          | true => rfl
          | false => exact absurd ⟨hne, by rw [hkd]; exact hc⟩ hlt
        obtain ⟨hR, L', e, hl', hd, hq, hq2, hin⟩ := keysR_ate hz n _ A (p + 10) q hl hr2 h
        refine ⟨hR, k :: L', by rw [e]; simp, by simp [hl'], ?_, by rw [hq, List.length_cons]; omega, hq2, fun z hz' => ?_⟩
        · rw [List.flatMap_cons, List.append_assoc, ← hd, k3, ← List.drop_drop, List.take_append_drop]
        · rcases List.mem_cons.1 hz' with rfl | hz'
          · refine ⟨?_, k2⟩
            rw [isKey_iff'] at k1
            unfold In64; omega
          · exact hin z hz'
    · rw [if_neg hl] at h; cases h
theorem setR_ate {b : List Nat} (hz : ∀ z ∈ b, z < 256) {p q : Nat} {L : List K} (hp : p ≤ b.length) (h : setR b 16 p = .ok (L, q)) : b.drop p = setN L ++ b.drop q ∧ L.length ≤ 16 ∧ q = p + (setN L).length ∧ q ≤ b.length ∧ Rise L ∧ ∀ z ∈ L, KIn z := by
  unfold setR at h
  cases hu : upR b 16 p with
  | error x => rw [hu] at h; cases h
  | ok x =>
    obtain ⟨n, q1⟩ := x
    rw [hu] at h
    simp only at h
    obtain ⟨h1, h2, h3, h4, h5⟩ := upR_ate hz hp hu
    obtain ⟨hR, A', e, hl, hd, hq, hq2, hin⟩ := keysR_ate hz n [] L q1 q h4 rise_nil h
    rw [List.nil_append] at e
    subst e
    subst hl
    have ea : setN L = uint 10 L.length ++ L.flatMap keyBytes := rfl
    exact ⟨by rw [ea, List.append_assoc, ← hd, h1], h2, by rw [ea, hq, h3, List.length_append, keysT_length]; omega, hq2, hR, hin⟩
theorem txR_ate {b : List Nat} (hz : ∀ z ∈ b, z < 256) {p q : Nat} {t : Tp} (hp : p ≤ b.length) (h : txR b p = .ok (t, q)) : b.drop p = txN t ++ b.drop q ∧ q = p + (txN t).length ∧ q ≤ b.length ∧ WF t ∧ TIn t := by
  unfold txR at h
  cases h1 : upR b 63 p with
  | error x => rw [h1] at h; cases h
  | ok x =>
    obtain ⟨n, p1⟩ := x
    rw [h1] at h; simp only at h
    obtain ⟨d1, l1, q1, b1, n1⟩ := upR_ate hz hp h1
    cases h2 : argR b p1 with
    | error x => rw [h2] at h; cases h
    | ok x =>
      obtain ⟨A, p2⟩ := x
      rw [h2] at h; simp only at h
      obtain ⟨d2, l2, q2, b2, i2⟩ := argR_ate hz b1 h2
      cases h3 : setR b 16 p2 with
      | error x => rw [h3] at h; cases h
      | ok x =>
        obtain ⟨R, p3⟩ := x
        rw [h3] at h; simp only at h
        obtain ⟨d3, l3, q3, b3, r3, i3⟩ := setR_ate hz b2 h3
        cases h4 : setR b 16 p3 with
        | error x => rw [h4] at h; cases h
        | ok x =>
          obtain ⟨V, p4⟩ := x
          rw [h4] at h; simp only [Except.ok.injEq, Prod.mk.injEq] at h
          obtain ⟨d4, l4, q4, b4, r4, i4⟩ := setR_ate hz b3 h4
          obtain ⟨rfl, rfl⟩ := h
          have e : txN ⟨(n : Int), A, R, V⟩ = uint 10 n ++ (argsN A ++ (setN R ++ setN V)) := by simp [txN]
          refine ⟨by rw [e]; simp only [List.append_assoc]; rw [← d4, ← d3, ← d2, ← d1], by rw [e, q4, q3, q2, q1]; simp only [List.length_append]; omega, b4, ⟨?_, ?_, l2, l3, l4, r3, r4⟩, ⟨i2, i3, i4⟩⟩
          · show (0 : Int) ≤ (n : Int); omega
          · show (n : Int) < 64; omega
theorem txsR_ate {b : List Nat} (hz : ∀ z ∈ b, z < 256) : ∀ (n : Nat) (acc T : List Tp) (p q : Nat), p ≤ b.length → txsR b n acc p = .ok (T, q) → ∃ T', T = acc ++ T' ∧ T'.length = n ∧ b.drop p = T'.flatMap txN ++ b.drop q ∧ q = p + (T'.flatMap txN).length ∧ q ≤ b.length ∧ ∀ t ∈ T', WF t ∧ TIn t
  | 0, acc, A, p, q, hp, h => by
    simp only [txsR, Except.ok.injEq, Prod.mk.injEq] at h
    obtain ⟨rfl, rfl⟩ := h
    exact ⟨[], by simp, rfl, by simp, by simp, hp, by simp⟩
  | n + 1, acc, A, p, q, hp, h => by
    rw [txsR] at h
    cases hu : txR b p with
    | error x => rw [hu] at h; cases h
    | ok x =>
      obtain ⟨t, q1⟩ := x
      rw [hu] at h
      simp only at h
      obtain ⟨h1, h3, h4, h5, h6⟩ := txR_ate hz hp hu
      obtain ⟨A', e, hl, hd, hq, hq2, hin⟩ := txsR_ate hz n _ A q1 q h4 h
      refine ⟨t :: A', by rw [e]; simp, by simp [hl], by rw [List.flatMap_cons, List.append_assoc, ← hd, h1], by rw [List.flatMap_cons, hq, h3, List.length_append]; omega, hq2, fun z hz => ?_⟩
      rcases List.mem_cons.1 hz with rfl | hz
      · exact ⟨h5, h6⟩
      · exact hin z hz
/-- what is read is what is written -/
theorem decR_back {b : List Nat} (hz : ∀ z ∈ b, z < 256) {T : List Tp} (h : decR b = .ok T) : batN T = b ∧ T.length ≤ 64 ∧ ∀ t ∈ T, WF t ∧ TIn t := by
  unfold decR at h
  cases hb : batR b 0 with
  | error x => rw [hb] at h; cases h
  | ok x =>
    obtain ⟨T1, q⟩ := x
    rw [hb] at h; simp only at h
    split at h
    · rename_i hq
      simp only [Except.ok.injEq] at h
      subst h
      unfold batR at hb
      cases hu : upR b 64 0 with
      | error x => rw [hu] at hb; cases hb
      | ok x =>
        obtain ⟨n, q1⟩ := x
        rw [hu] at hb; simp only at hb
        obtain ⟨h1, h2, h3, h4, h5⟩ := upR_ate hz (Nat.zero_le _) hu
        obtain ⟨A', e, hl, hd, _, _, hin⟩ := txsR_ate hz n [] T1 q1 q h4 hb
        rw [List.nil_append] at e
        subst e
        subst hl
        refine ⟨?_, h2, hin⟩
        unfold batN
        rw [hq, List.drop_length, List.append_nil] at hd
        rw [← hd, ← h1]; simp
    · cases h
end Go.Proofs.YtcaibgbhebldmaaGreat.Kk
