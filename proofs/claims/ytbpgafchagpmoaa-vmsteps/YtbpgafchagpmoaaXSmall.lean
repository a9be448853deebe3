/-
  THE WALKS OF get, put, tell, fail, zero, Done.
-/
import Derived.Test.YtbpgafchagpmoaaXClear
namespace Go.Proofs.Ytbpgafchagpmoaa
open Go.RowKit Go.Sort

section
variable {w w1 : World} {base B : Nat} {O : Nat → Nat} {h : MH} {L : List K} {A : List Int} {R : List C} {m : M}
theorem MSt.kept {Z : MZ} {F : Nat → Prop} (x : MSt w F B Z L A R m) (hb : Go.RowKit.Below w.heap.size w w1) : MSt w1 F B Z L A R m ∧ Fr F w w1 := by
  obtain ⟨O, h, x, hF, hz⟩ := x
  exact ⟨⟨O, h, x.kept hb, fun k hk => ⟨(hF k hk).1, Nat.lt_of_lt_of_le (hF k hk).2 hb.size⟩, hz⟩, Fr.ofBelow hb (fun k hk => (hF k hk).2)⟩
theorem MSt.alloc {Z : MZ} {F : Nat → Prop} (x : MSt w F B Z L A R m) (o : Obj) : MSt (w.alloc o) F B Z L A R m ∧ Fr F w (w.alloc o) := x.kept ((Below.refl _ _).alloc (Nat.le_refl _) _)
theorem MSt.drewN {Z : MZ} {F : Nat → Prop} (x : MSt w F B Z L A R m) (q : Nat) : MSt (w.drewN q) F B Z L A R m ∧ Fr F w (w.drewN q) := x.kept ((Grew.refl w).drewN q).below
/-- a new block joins F -/
theorem MSt.add {Z : MZ} {F : Nat → Prop} (x : MSt w F B Z L A R m) (o : Obj) : MSt (w.alloc o) (fun k => F k ∨ k = w.heap.size) B Z L A R m := by
  obtain ⟨O, h, x, hF, hz⟩ := x
  refine ⟨O, h, x.kept ((Below.refl _ _).alloc (Nat.le_refl _) _), fun k hk => ?_, hz⟩
  rcases hk with hk | hk
  · exact ⟨(hF k hk).1, by have := (hF k hk).2; simp; omega⟩
  · subst hk; exact ⟨x.new _ (Nat.le_refl _), by simp⟩
theorem MSt.mono {Z : MZ} {F G : Nat → Prop} (x : MSt w F B Z L A R m) (hg : ∀ k, G k → F k) : MSt w G B Z L A R m := by
  obtain ⟨O, h, x, hF, hz⟩ := x
  exact ⟨O, h, x, fun k hk => hF k (hg k hk), hz⟩
theorem OwnC.cell {w : World} {base g n cap : Nat} {R : List C} (h : OwnC w base (.slice (some ⟨g, 0, none⟩) n cap) R) (j : Nat) (hj : j < R.length) : w.cell? ⟨g, j * 2, none⟩ = some (.bool (rd R j).1) ∧ w.cell? ⟨g, j * 2 + 1, none⟩ = some (.int .i64 (rd R j).2) := by
  have hn : n = R.length := by
    obtain ⟨_, ⟨h, _⟩ | ⟨g', cap', cur, e, _⟩⟩ := h
    · cases h
    · cases e; rfl
  subst hn
  obtain ⟨e1, e2⟩ := ccs_at R j hj
  exact ⟨by rw [World.ownsRow.cellAt h (j * 2) (by omega)]; exact e1, by rw [World.ownsRow.cellAt h (j * 2 + 1) (by omega)]; exact e2⟩
theorem own_some {w : World} {base e size n : Nat} {v : Value} {xs : List Value} (h : w.ownsRow base e size v n xs) (hn : 0 < n) : ∃ g cap, v = .slice (some ⟨g, 0, none⟩) n cap ∧ n ≤ cap := by
  obtain ⟨_, ⟨rfl, rfl⟩ | ⟨g, cap, cur, rfl, hb, hg, hn, _⟩⟩ := h
  · omega
  · exact ⟨g, cap, rfl, hn⟩
end

theorem get_any (w : World) (F : Nat → Prop) (B : Nat) (Z : MZ) (L : List K) (A : List Int) (R : List C) (m : M) (i : Int) (hm : MSt w F B Z L A R m) (hl : m.st.length ≤ 1000) :
    Calls Try.prog 53 #[pm B, .int .i64 i] w fun e w' => e = .returned (.int .i64 (getN R i m).2) ∧ MSt w' F B Z L A R (getN R i m).1 ∧ Fr F w w' := by
  have HM : Hid (MSt w F B Z L A R m) := hm
  have HL : Hid (m.st.length ≤ 1000) := hl
  obtain ⟨O, h, hm, hF, rfl⟩ := hm
  have c2 : w.cell? ⟨B, 2, none⟩ = some h.rv := hm.cell 2
  by_cases h0 : 0 ≤ i ∧ i < (R.length : Int)
  · obtain ⟨j, rfl⟩ := Int.eq_ofNat_of_zero_le h0.1
    have hj : j < R.length := by omega
    obtain ⟨g, cap, hv, hcap⟩ := own_some hm.reads (by omega)
    have hr := hm.reads
    rw [hv] at hr c2
    obtain ⟨d0, d1⟩ := hr.cell j hj
    have HE : Hid (getN R (j : Int) m = (m.push (rdV (rd R j)), 0)) := by
      show getN R (j : Int) m = _
      rw [getN, if_pos h0]; rfl
    have hn0 : ¬ (j : Int) < 0 := by omega
    have hn1 : ¬ (R.length : Int) ≤ (j : Int) := by omega
    generalize R.length = n at *
    clear hm hF hr hl h0 hv
    cases hb : (rd R j).1 with
    | true =>
      rw [hb] at d0
      have HV : Hid (rdV (rd R j) = (rd R j).2) := by show rdV (rd R j) = _; simp [rdV, hb]
      generalize (rd R j).2 = z at *
      have HP := push_any (w.alloc (.cells #[.bool true, .int .i64 z] 64)) F B h.z L A R m z (HM.out.alloc _).1 HL.out
      have HB0 : Hid (Fr F w (w.alloc (.cells #[.bool true, .int .i64 z] 64))) := (HM.out.alloc _).2
      go_enter Try.func53, Try.ntmps53
      go_wp2_with fail
      refine HP.mono ?_
      rintro e w1 ⟨rfl, hp, hb1⟩
      have HP1 : Hid (MSt w1 F B h.z L A R (m.push z) ∧ Fr F w w1) := ⟨hp, HB0.out.trans hb1⟩
      clear hp hb1 HP
      go_wp2
      go_ret
      exact ⟨by rw [HE.out]; rfl, by rw [HE.out, HV.out]; exact HP1.out.1, HP1.out.2⟩
    | false =>
      rw [hb] at d0
      have HV : Hid (rdV (rd R j) = 0) := by show rdV (rd R j) = _; simp [rdV, hb]
      generalize (rd R j).2 = z at *
      have HP := push_any (w.alloc (.cells #[.bool false, .int .i64 z] 64)) F B h.z L A R m 0 (HM.out.alloc _).1 HL.out
      have HB0 : Hid (Fr F w (w.alloc (.cells #[.bool false, .int .i64 z] 64))) := (HM.out.alloc _).2
      go_enter Try.func53, Try.ntmps53
      go_wp2_with fail
      refine HP.mono ?_
      rintro e w1 ⟨rfl, hp, hb1⟩
      have HP1 : Hid (MSt w1 F B h.z L A R (m.push 0) ∧ Fr F w w1) := ⟨hp, HB0.out.trans hb1⟩
      clear hp hb1 HP
      go_wp2
      go_ret
      exact ⟨by rw [HE.out]; rfl, by rw [HE.out, HV.out]; exact HP1.out.1, HP1.out.2⟩
  · have HE : Hid (getN R i m = (m, 203)) := by
      show getN R i m = _
      rw [getN, if_neg h0]
    obtain ⟨ao, cap, hv, _⟩ := own_slice hm.reads
    rw [hv] at c2
    generalize R.length = n at *
    clear hm hF hl hv
    by_cases hn0 : i < 0
    · go_enter Try.func53, Try.ntmps53
      go_wp2
      go_ret
      exact ⟨by rw [HE.out]; rfl, by rw [HE.out]; exact HM.out, Fr.refl _ _⟩
    · have hn1 : (n : Int) ≤ i := by omega
      clear h0
      go_enter Try.func53, Try.ntmps53
      go_wp2
      go_ret
      exact ⟨by rw [HE.out]; rfl, by rw [HE.out]; exact HM.out, Fr.refl _ _⟩

theorem put_any (w : World) (F : Nat → Prop) (B : Nat) (Z : MZ) (L : List K) (A : List Int) (R : List C) (m : M) (i : Int) (k1 k2 : Int) (hm : MSt w F B Z L A R m) :
    Calls Try.prog 55 #[pm B, .int .i64 i, .agg #[.int .i64 k1, .int .i64 k2]] w fun e w' => e = .returned (.int .i64 (putN i (k1, k2) m).2) ∧ MSt w' F B Z L A R (putN i (k1, k2) m).1 ∧ Fr F w w' := by
  obtain ⟨O, h, hm, hF, rfl⟩ := hm
  have hbel : Go.RowKit.Below w.heap.size w (w.alloc (.cells #[.int .i64 k1, .int .i64 k2] 60)) := (Below.refl _ _).alloc (Nat.le_refl _) _
  have HM : Hid (MS (w.alloc (.cells #[.int .i64 k1, .int .i64 k2] 60)) 0 B O h L A R m) := hm.kept hbel
  have HB0 : Hid (Fr F w (w.alloc (.cells #[.int .i64 k1, .int .i64 k2] 60))) := Fr.ofBelow hbel (fun k hk => (hF k hk).2)
  have HF : Hid (Apt (w.alloc (.cells #[.int .i64 k1, .int .i64 k2] 60)) F O) := fun k hk => ⟨(hF k hk).1, by have := (hF k hk).2; simp; omega⟩
  have c7 : (w.alloc (.cells #[.int .i64 k1, .int .i64 k2] 60)).cell? ⟨B, 7, none⟩ = some h.pv := HM.out.cell 7
  by_cases h0 : 0 ≤ i ∧ i < (m.pu.length : Int)
  · obtain ⟨j, rfl⟩ := Int.eq_ofNat_of_zero_le h0.1
    obtain ⟨g, cap, hv, hcap⟩ := own_some hm.puts (by omega)
    have hr := HM.out.puts
    rw [hv] at hr c7
    have q0 := World.ownsRow.cellAt hr (j * 2) (by omega)
    have q1 := World.ownsRow.cellAt hr (j * 2 + 1) (by omega)
    obtain ⟨e0, e1⟩ := cks_at m.pu j (by omega)
    rw [e0] at q0
    rw [e1] at q1
    have f0 := World.ownsRow.frozenAt hr (j * 2)
    have f1 := World.ownsRow.frozenAt hr (j * 2 + 1)
    have HG : Hid (∀ q, MS ((((w.alloc (.cells #[.int .i64 k1, .int .i64 k2] 60)).setCell ⟨g, j * 2, none⟩ (.int .i64 k1)).setCell ⟨g, j * 2 + 1, none⟩ (.int .i64 k2)).drewN q) 0 B O h L A R { m with pu := m.pu.set j (k1, k2) }) := fun q => HM.out.putW hv j (k1, k2) q
    have HGb : Hid (¬ F g) := fun hk => by have := (hF g hk).1; rw [hm.op g (by rw [hv]; rfl)] at this; cases this
    have HE : Hid (putN (j : Int) (k1, k2) m = ({ m with pu := m.pu.set j (k1, k2) }, 0)) := by
      show putN (j : Int) (k1, k2) m = _
      rw [putN, if_pos h0]; rfl
    have hn0 : ¬ (j : Int) < 0 := by omega
    have hn1 : ¬ (m.pu.length : Int) ≤ (j : Int) := by omega
    generalize (kd m.pu j).1 = z1 at *
    generalize (kd m.pu j).2 = z2 at *
    generalize m.pu.length = n at *
    clear hm hF hr h0 hv e0 e1 hbel
    go_enter Try.func55, Try.ntmps55
    go_wp2_with fail
    go_region
    all_goals (go_wp2; go_ret; exact ⟨by rw [HE.out]; rfl, by rw [HE.out]; exact ⟨O, h, HG.out 1, fun k hk => ⟨(HF.out k hk).1, by have := (HF.out k hk).2; simpa using this⟩, rfl⟩, HB0.out.trans (((Fr.refl F _).set _ _ HGb.out).set _ _ HGb.out).drew⟩)
  · have HE : Hid (putN i (k1, k2) m = (m, 203)) := by
      show putN i (k1, k2) m = _
      rw [putN, if_neg h0]
    obtain ⟨ao, cap, hv, _⟩ := own_slice hm.puts
    rw [hv] at c7
    generalize m.pu.length = n at *
    clear hm hF hv hbel
    by_cases hn0 : i < 0
    · go_enter Try.func55, Try.ntmps55
      go_wp2
      go_ret
      exact ⟨by rw [HE.out]; rfl, by rw [HE.out]; exact ⟨O, h, HM.out, HF.out, rfl⟩, HB0.out⟩
    · have hn1 : (n : Int) ≤ i := by omega
      clear h0
      go_enter Try.func55, Try.ntmps55
      go_wp2
      go_ret
      exact ⟨by rw [HE.out]; rfl, by rw [HE.out]; exact ⟨O, h, HM.out, HF.out, rfl⟩, HB0.out⟩

theorem tell_any (w : World) (F : Nat → Prop) (B : Nat) (Z : MZ) (L : List K) (A : List Int) (R : List C) (m : M) (x : Int) (hm : MSt w F B Z L A R m) (hl : m.ou.length ≤ 1000) :
    Calls Try.prog 56 #[pm B, .int .i64 x] w fun e w' => e = .returned (.int .i64 (tellN x m).2) ∧ MSt w' F B Z L A R (tellN x m).1 ∧ Fr F w w' := by
  have HM0 : Hid (MSt w F B Z L A R m) := hm
  obtain ⟨O, h, hm, hF, rfl⟩ := hm
  have c6 : w.cell? ⟨B, 6, none⟩ = some h.ov := hm.cell 6
  obtain ⟨ao, cap, hv, _⟩ := own_slice hm.out
  by_cases h0 : m.ou.length = 16
  · have HE : Hid (tellN x m = (m, 204)) := by
      show tellN x m = _
      rw [tellN, if_pos h0]
    rw [hv, h0] at c6
    clear hm hF hv h0 hl
    go_enter Try.func56, Try.ntmps56
    go_wp2
    go_ret
    exact ⟨by rw [HE.out]; rfl, by rw [HE.out]; exact HM0.out, Fr.refl _ _⟩
  · have HE : Hid (tellN x m = ({ m with ou := m.ou ++ [x] }, 0)) := by
      show tellN x m = _
      rw [tellN, if_neg h0]
    have hbel : Go.RowKit.Below w.heap.size w (w.alloc (.cells #[.int .i64 x] 2)) := (Below.refl _ _).alloc (Nat.le_refl _) _
    have HM : Hid (MS (w.alloc (.cells #[.int .i64 x] 2)) 0 B O h L A R m) := hm.kept hbel
    have HB0 : Hid (Fr F w (w.alloc (.cells #[.int .i64 x] 2))) := Fr.ofBelow hbel (fun k hk => (hF k hk).2)
    have HF : Hid (Apt (w.alloc (.cells #[.int .i64 x] 2)) F O) := fun k hk => ⟨(hF k hk).1, by have := (hF k hk).2; simp; omega⟩
    have HL : Hid (m.ou.length ≤ 1000) := hl
    have HV : Hid (.slice ao m.ou.length cap = h.ov) := hv.symm
    rw [hv] at c6
    have h1 : ((m.ou.length : Int) == 16) = false := by simp; omega
    have HS : Hid (Own64 (w.alloc (.cells #[.int .i64 x] 2)) 0 (.slice ao m.ou.length cap) m.ou) := by rw [HV.out]; exact HM.out.out
    obtain ⟨n, hn⟩ : ∃ n, n = m.ou.length := ⟨_, rfl⟩
    have HN : Hid (n = m.ou.length) := hn
    rw [← hn] at c6 h1 HV HS
    clear hm hF hl hbel h0 hv hn
    go_enter Try.func56, Try.ntmps56
    go_wp2_with (at_builtin; refine wpList_append_64 rfl _ _ rfl 0 (.slice ao n cap) m.ou rfl HS.out _ x rfl (cell_new64 _ _) (by have := HL.out; omega) HM.out.size ?_; intro v' w' h1 h2 h3; rw [HV.out] at h2 h3; obtain ⟨ao', n', cap', rfl, c6', f6, HG'⟩ := HM.out.outed HF.out h1 h2 h3; clear h1 h2 h3)
    go_ret
    exact ⟨by rw [HE.out]; rfl, by rw [HE.out]; exact HG'.out.1, HB0.out.trans HG'.out.2⟩

theorem done_any (w : World) (F : Nat → Prop) (B : Nat) (Z : MZ) (L : List K) (A : List Int) (R : List C) (m : M) (hm : MSt w F B Z L A R m) :
    Calls Try.prog 21 #[pm B] w fun e w' => e = .returned (.bool (doneB L.length m)) ∧ MSt w' F B Z L A R m ∧ Fr F w w' := by
  have HM : Hid (∀ q, MSt (w.drewN q) F B Z L A R m) := fun q => (hm.drewN q).1
  obtain ⟨O, h, hm, hF, rfl⟩ := hm
  have c0 : w.cell? ⟨B, 0, none⟩ = some h.cv := hm.cell 0
  have c3 : w.cell? ⟨B, 3, none⟩ = some (.int .i64 (m.at_ : Int)) := hm.cell 3
  have c9 : w.cell? ⟨B, 9, none⟩ = some (.bool m.ended) := hm.cell 9
  obtain ⟨ao, cap, hv, _⟩ := own_slice hm.code
  rw [hv] at c0
  have HB : Hid (∀ q, Fr F w (w.drewN q)) := fun q => (Fr.ofBelow ((Grew.refl w).drewN q).below (fun k hk => (hF k hk).2))
  have HD : Hid (doneB L.length m = (m.ended || decide ((m.at_ : Int) = (L.length : Int)))) := by
    show doneB L.length m = _
    unfold doneB; congr 1; simp only [decide_eq_decide]; omega
  rw [HD.out]
  generalize L.length = n at *
  clear hm hF hv HD
  cases he : m.ended with
  | true =>
    rw [he] at c9
    go_enter Try.func21, Try.ntmps21
    go_wp2_with fail
    go_quiet (fail)
    go_wp2
    go_ret
    exact ⟨rfl, HM.out _, HB.out _⟩
  | false =>
    rw [he] at c9
    go_enter Try.func21, Try.ntmps21
    go_wp2_with fail
    go_quiet (fail)
    go_wp2
    go_ret
    exact ⟨rfl, HM.out _, HB.out _⟩

theorem fail_any (w : World) (F : Nat → Prop) (B : Nat) (Z : MZ) (L : List K) (A : List Int) (R : List C) (m : M) (f : Int) (hm : MSt w F B Z L A R m) :
    Calls Try.prog 43 #[pm B, .int .i64 f] w fun e w' => e = .returned (.tuple #[]) ∧ MSt w' F B Z L A R (failN f m) ∧ Fr F w w' := by
  obtain ⟨O, h, hm, hF, rfl⟩ := hm
  have hBF : ¬ F B := fun hk => by have := (hF B hk).1; rw [hm.oB] at this; cases this
  have h1 := hm.put 9 (.bool true) { m with ended := true } rfl rfl rfl rfl rfl
  have h2 := h1.put 10 (.int .i64 f) { m with ended := true, fault := f } rfl rfl rfl rfl rfl
  have h3 := h2.store 4 (.slice none 0 0) { h with sv := .slice none 0 0 } { m with ended := true, fault := f, st := [] } rfl rfl rfl rfl rfl rfl (World.ownsRow_nil _ _ _ _) (fun g e => by cases e) h2.out h2.oo rfl rfl
  have h4 := h3.store 6 (.slice none 0 0) { h with sv := .slice none 0 0, ov := .slice none 0 0 } { m with ended := true, fault := f, st := [], ou := [] } rfl rfl rfl rfl rfl rfl h3.stack h3.os (World.ownsRow_nil _ _ _ _) (fun g e => by cases e) rfl rfl
  have HB4 : Hid (Fr F w ((((w.setCell ⟨B, 9, none⟩ (.bool true)).setCell ⟨B, 10, none⟩ (.int .i64 f)).setCell ⟨B, 4, none⟩ (.slice none 0 0)).setCell ⟨B, 6, none⟩ (.slice none 0 0))) :=
    ((((Fr.refl F w).set _ _ hBF).set _ _ hBF).set _ _ hBF).set _ _ hBF
  obtain ⟨w5, r5, o5, n5⟩ := run_clear_64 _ 0 h.lv _ h4.locs
  have h5 := h4.rowL n5 o5
  obtain ⟨w6, r6, o6, n6⟩ := run_clear_puts _ 0 h.pv _ h5.puts
  have h6 := h5.rowP n6 o6
  have HM : Hid (MSt w6 F B h.z L A R (failN f m)) := ⟨O, _, h6, fun k hk => ⟨(hF k hk).1, by rw [n6.size, n5.size]; have := (hF k hk).2; simpa using this⟩, rfl⟩
  have HB : Hid (Fr F w w6) := (HB4.out.trans ⟨n5.os, n5.tape, n5.output, Nat.le_of_eq n5.size.symm, fun k hk => n5.block k (fun e => by have := (hF k hk).1; rw [hm.ol k e] at this; cases this)⟩).trans ⟨n6.os, n6.tape, n6.output, Nat.le_of_eq n6.size.symm, fun k hk => n6.block k (fun e => by have := (hF k hk).1; rw [hm.op k e] at this; cases this)⟩
  have c5 : ((((w.setCell ⟨B, 9, none⟩ (.bool true)).setCell ⟨B, 10, none⟩ (.int .i64 f)).setCell ⟨B, 4, none⟩ (.slice none 0 0)).setCell ⟨B, 6, none⟩ (.slice none 0 0)).cell? ⟨B, 5, none⟩ = some h.lv := h4.cell 5
  have c7 : w5.cell? ⟨B, 7, none⟩ = some h.pv := h5.cell 7
  have x9 : w.cell? ⟨B, 9, none⟩ = some (.bool m.ended) := hm.cell 9
  have x10 : w.cell? ⟨B, 10, none⟩ = some (.int .i64 m.fault) := hm.cell 10
  have x4 : w.cell? ⟨B, 4, none⟩ = some h.sv := hm.cell 4
  have x6 : w.cell? ⟨B, 6, none⟩ = some h.ov := hm.cell 6
  have x5 : w.cell? ⟨B, 5, none⟩ = some h.lv := hm.cell 5
  have f9 := hm.frozen 9
  have f10 := hm.frozen 10
  have f4 := hm.frozen 4
  have f6 := hm.frozen 6
  obtain ⟨sao, scap, hsv, _⟩ := own_slice hm.stack
  obtain ⟨oao, ocap, hov, _⟩ := own_slice hm.out
  rw [hsv] at x4
  rw [hov] at x6
  clear h1 h2 h3 h4 h5 h6 HB4 o5 n5 o6 n6 hm hF hBF hsv hov
  go_enter Try.func43, Try.ntmps43
  go_wp2
  go_end0
  exact ⟨rfl, HM.out, HB.out⟩

/-- zero: where an IZero goes -/
theorem zero_any (w : World) (F : Nat → Prop) (B : Nat) (Z : MZ) (L : List K) (A : List Int) (R : List C) (m : M) (op a : Int) (hm : MSt w F B Z L A R m) (h0 : 0 < m.st.length) (hl : m.st.length ≤ 1000) (ha : m.at_ ≤ 1000) :
    Calls Try.prog 41 #[pm B, .agg #[.int .i64 op, .int .i64 a]] w fun e w' => e = .returned (.int .i64 (if m.top = 0 then a else (m.at_ : Int) + 1)) ∧ MSt w' F B Z L A R m.pop ∧ Fr F w w' := by
  have HP := pop_any (w.alloc (.cells #[.int .i64 op, .int .i64 a] 66)) _ B Z L A R m (hm.add _) h0 hl
  have HB0 : Hid (Fr F w (w.alloc (.cells #[.int .i64 op, .int .i64 a] 66))) := (hm.alloc _).2
  have HBx : Hid (Box (w.alloc (.cells #[.int .i64 op, .int .i64 a] 66)) w.heap.size op a) := Box.new rfl
  clear hm h0 hl
  go_enter Try.func41, Try.ntmps41
  go_wp2_with fail
  refine HP.mono ?_
  rintro e w1 ⟨rfl, hp, hb1⟩
  have HR : Hid (MSt w1 F B Z L A R m.pop ∧ Fr F w w1) := ⟨hp.mono (fun k hk => .inl hk), HB0.out.trans (hb1.mono (fun k hk => .inl hk))⟩
  have d1 : w1.cell? ⟨w.heap.size, 1, none⟩ = some (.int .i64 a) := hb1.cell (.inr rfl) HBx.out.2
  have c3 : w1.cell? ⟨B, 3, none⟩ = some (.int .i64 (m.at_ : Int)) := by obtain ⟨O, h, x, _⟩ := hp; exact x.cell 3
  clear hp hb1 HP
  by_cases ht : m.top = 0
  · rw [ht]
    go_wp2
    go_ret
    exact ⟨rfl, HR.out⟩
  · have ht' : (m.top == 0) = false := by simpa using ht
    go_wp2
    go_ret
    exact ⟨rfl, HR.out⟩
end Go.Proofs.Ytbpgafchagpmoaa
