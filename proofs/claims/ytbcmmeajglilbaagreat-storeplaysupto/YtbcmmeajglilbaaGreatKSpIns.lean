import Derived.Test.YtbcmmeajglilbaaGreatKRefHash
import Derived.Deep.RegionHeld3
/-
  StorePlays: THE DOCUM#[.int .i64 (last + 1), .int .i64 k1, .int .i64 k2, .int .i64 ba, .int .i64 ix, .bool false, .bool false, .int .i64 0]'S Insert.
-/
namespace Go.Proofs.YtbcmmeajglilbaaGreat
open Go.RowKit Go.Sort

attribute [local go_sem] Oper.semAt_some

/-- only the document's store turns -/
structure FrD (R : Nat) (av : Value) (w w' : World) : Prop where
  os : w'.os = w.os
  tape : w'.tape = w.tape
  output : w'.output = w.output
  size : w.heap.size ≤ w'.heap.size
  block : ∀ k, k < w.heap.size → k ≠ R → av.ownBlock ≠ some k → w'.heap[k]? = w.heap[k]?
theorem FrD.bel {R : Nat} {av : Value} {w w' : World} (h : Below w.heap.size w w') : FrD R av w w' := ⟨h.os, h.tape, h.output, h.size, fun k hk _ _ => h.block k hk⟩
theorem FrD.trans {R : Nat} {av : Value} {a b c : World} (h : FrD R av a b) (k : FrD R av b c) : FrD R av a c :=
  ⟨k.os.trans h.os, k.tape.trans h.tape, k.output.trans h.output, Nat.le_trans h.size k.size, fun i hi h1 h2 => (k.block i (Nat.lt_of_lt_of_le hi h.size) h1 h2).trans (h.block i hi h1 h2)⟩
theorem FrD.setR {R : Nat} {av : Value} {a b : World} (h : FrD R av a b) (j : Nat) (x : Value) : FrD R av a (b.setCell ⟨R, j, none⟩ x) :=
  ⟨h.os, h.tape, h.output, by simpa using h.size, fun k hk h1 h2 => (heap_setCell_other b ⟨R, j, none⟩ k x h1).trans (h.block k hk h1 h2)⟩
theorem elEn : El 48 112 (.agg #[.int .i64 0, .int .i64 0, .int .i64 0, .int .i64 0, .int .i64 0, .bool false, .bool false, .int .i64 0]) 8 64 := ⟨Tryz.underlying48, by kernel_rfl, rfl, by decide, by decide⟩
/-- the row goes on in its own block or in a new one -/
def OwnN (av av' : Value) (n : Nat) : Prop := ∀ g, av'.ownBlock = some g → av.ownBlock = some g ∨ n ≤ g
section
variable {W : World} {base R P : Nat} {cap last : Int} {vs : List Vr}
theorem RDs.off {av : Value} (h : RDs W base R P cap last av vs) : av.ownBlock ≠ some R := fun e => by
  obtain ⟨_, ⟨h1, _⟩ | ⟨g, c, cur, h1, _, h2, _⟩⟩ := h.row
  · rw [h1] at e; cases e
  · rw [h1] at e
    cases e
    rw [h.bx] at h2
    simp only [Option.some.injEq, Obj.cells.injEq] at h2
    exact absurd h2.2.1 (by decide)
theorem RDs.ge {av : Value} (h : RDs W base R P cap last av vs) {g : Nat} (hg : av.ownBlock = some g) : base ≤ g := (World.ownsRow.lt h.row g hg).1
theorem RDs.setL {av : Value} (h : RDs W base R P cap last av vs) (l : Int) : RDs (W.setCell ⟨R, 3, none⟩ (.int .i64 l)) base R P cap l av vs :=
  ⟨heap_setCell_same W R 3 _ _ _ h.bx, ownsRow_same h.row (fun g hg => heap_setCell_other W ⟨R, 3, none⟩ g _ (fun e => h.off (by rw [hg]; exact congrArg some e)))⟩
theorem RDs.setA {av v' : Value} {vs' : List Vr} (h : RDs W base R P cap last av vs) (ho : W.ownsRow base 112 8 v' vs'.length (ents vs')) : RDs (W.setCell ⟨R, 2, none⟩ v') base R P cap last v' vs' := by
  refine ⟨heap_setCell_same W R 2 _ _ _ h.bx, ownsRow_same ho (fun g hg => heap_setCell_other W ⟨R, 2, none⟩ g _ (fun e => ?_))⟩
  obtain ⟨_, ⟨h1, _⟩ | ⟨g', c, cur, h1, _, h2, _⟩⟩ := ho
  · rw [h1] at hg; cases hg
  · rw [h1] at hg
    cases hg
    have e' : g' = R := e
    subst e'
    rw [h.bx] at h2
    simp only [Option.some.injEq, Obj.cells.injEq] at h2
    exact absurd h2.2.1 (by decide)
/-- one version more -/
theorem RDs.more {ao : Option Addr} {an ac : Nat} (h : RDs W base R P cap last (.slice ao an ac) vs) (hb : base ≤ W.heap.size) (hl : vs.length ≤ 65536) (x : Vr) (ty : TypeId) :
    ∃ v' w', (Builtin.append_ #[48, 48] ty #[.slice ao an ac, .slice (some ⟨W.heap.size, 0, none⟩) 1 1]).run Tryz.prog (W.alloc (.cells (entC x).toArray 112)) = .ok v' w' ∧ (∃ o n c, v' = .slice o n c) ∧ w'.cell? ⟨R, 2, none⟩ = some (.slice ao an ac) ∧ w'.frozen? ⟨R, 2, none⟩ = false ∧ RDs w' base R P cap last (.slice ao an ac) vs ∧ FrD R (.slice ao an ac) W w' ∧
      RDs (w'.setCell ⟨R, 2, none⟩ v') base R P cap last v' (vs ++ [x]) ∧ FrD R (.slice ao an ac) W (w'.setCell ⟨R, 2, none⟩ v') ∧ OwnN (.slice ao an ac) v' W.heap.size := by
  have hal : Below W.heap.size W (W.alloc (.cells (entC x).toArray 112)) := (Below.refl _ _).alloc (Nat.le_refl _) _
  have hA := h.kept hal
  obtain ⟨v', w', hr, h2, h3⟩ := run_append_C elEn ty base _ vs.length (ents vs) hA.row ⟨W.heap.size, 0, none⟩ 1 1 (entC x) rfl new_cells (fun u hu => ents_one [x] u (by simpa [ents] using hu)) (by omega) (Nat.le_trans hb hal.size)
  have h2' : w'.ownsRow base 112 8 v' (vs ++ [x]).length (ents (vs ++ [x])) := by
    rw [ents_app]
    simpa [ents] using h2
  have hsl : ∃ o n c, v' = .slice o n c := by
    obtain ⟨_, ⟨e, _⟩ | ⟨g, c, _, e, _⟩⟩ := h2
    · exact ⟨_, _, _, e⟩
    · exact ⟨_, _, _, e⟩
  have key : FrD R (.slice ao an ac) W w' ∧ RDs w' base R P cap last (.slice ao an ac) vs ∧ OwnN (.slice ao an ac) v' W.heap.size := by
    have hRl := hA.lt (.inl rfl)
    rcases h3 with ⟨g, cap', e, e', hg⟩ | ⟨hn, hg⟩
    · have hgR : g ≠ R := fun e2 => hA.off (by rw [e, e2]; rfl)
      refine ⟨⟨hg.os, hg.tape, hg.output, Nat.le_trans hal.size hg.size, fun k hk h1 h4 => (hg.block k (Nat.lt_of_lt_of_le hk hal.size) (fun e5 => h4 (by rw [e]; exact e5.symm))).trans (hal.block k hk)⟩, ⟨(hg.block R hRl (fun e5 => hgR (by cases e5; rfl))).trans hA.bx, ?_⟩, ?_⟩
      · rw [e]
        subst e'
        obtain ⟨_, ⟨e6, _⟩ | ⟨g6, c6, cur, e6, q1, q2, q3, q4, q5, q6⟩⟩ := h2
        · cases e6
        · simp only [Value.slice.injEq, Option.some.injEq, Addr.mk.injEq, and_true, true_and] at e6
          obtain ⟨rfl, rfl⟩ := e6
          refine ⟨by rw [ents_len], .inr ⟨g, cap', cur, rfl, q1, q2, by omega, q4, q5, ?_⟩⟩
          have h9 := congrArg (List.take (vs.length * 8)) q6
          rw [List.take_take, Nat.min_eq_left (by omega), ← ents_len, List.take_left] at h9
          rw [← ents_len]
          exact h9
      · intro k hk
        rw [e'] at hk
        left
        rw [e]
        exact hk
    · refine ⟨⟨hg.os, hg.tape, hg.output, Nat.le_trans hal.size hg.size, fun k hk _ _ => (hg.block k (Nat.lt_of_lt_of_le hk hal.size) (fun e => by cases e)).trans (hal.block k hk)⟩, hA.same (fun k hk => hg.block k (hA.lt hk) (fun e => by cases e)), fun k hk => .inr (Nat.le_trans hal.size (World.ownsRow.lt hn k hk).1)⟩
  obtain ⟨k1, k2, k3⟩ := key
  exact ⟨v', w', hr, hsl, k2.cells.2.2.1, frozen_of_row w' R 2 _ _ k2.bx, k2, k1, k2.setA h2', k1.setR 2 v', k3⟩
end
/-- what Insert leaves -/
def RIns (w : World) (base R P : Nat) (cap last : Int) (av : Value) (vs : List Vr) (x : Vr) (e : Ending) (w' : World) : Prop :=
  (insE cap vs x ≠ 0 ∧ e = .returned (.tuple #[.int .i64 0, .int .i64 (insE cap vs x)]) ∧ Below w.heap.size w w') ∨
  (insE cap vs x = 0 ∧ e = .returned (.tuple #[.int .i64 (last + 1), .int .i64 0]) ∧ ∃ av', RDs w' base R P cap (last + 1) av' (vs ++ [x]) ∧ FrD R av w w' ∧ OwnN av av' w.heap.size)
def staleN (x : Vr) (o : Option Vr) : Int := match o with | none => 0 | some y => if later x y then 0 else 94
theorem newest_of {k : K} {vs : List Vr} : (∃ i : Nat, i < vs.length ∧ lastI (fun v => decide (v.k = k)) vs vs.length = (i : Int) ∧ (ofK k vs).getLast? = some vs[i]!) ∨ (lastI (fun v => decide (v.k = k)) vs vs.length = -1 ∧ (ofK k vs).getLast? = none) := by
  have h := lastI_get (fun v => decide (v.k = k)) vs vs.length (Nat.le_refl _)
  rw [List.take_length] at h
  have hl := lastI_lt (fun v => decide (v.k = k)) vs vs.length
  by_cases h0 : lastI (fun v => decide (v.k = k)) vs vs.length < 0
  · rw [if_pos h0] at h
    exact .inr ⟨by omega, h⟩
  · rw [if_neg h0] at h
    exact .inl ⟨(lastI (fun v => decide (v.k = k)) vs vs.length).toNat, by omega, by omega, h⟩
set_option maxRecDepth 100000 in
set_option maxHeartbeats 8000000 in
theorem rinsert_any (w : World) (base R P : Nat) (cap last : Int) (av : Value) (vs : List Vr) (h : RDs w base R P cap last av vs) (hb : base ≤ w.heap.size) (hc : (vs.length : Int) ≤ cap) (hc2 : cap ≤ 65536) (hl0 : 0 ≤ last ∧ last + 1 ≤ 1000000000000000) (hp : PLk vs) (hbo : BaOK vs) (k1 k2 ba ix : Int) (x : Vr) (hx : x.n = last + 1 ∧ x.k = (k1, k2) ∧ x.ba = ba ∧ x.ix = ix ∧ x.fl = false ∧ x.ci = false ∧ x.cv = 0) :
    Calls Tryz.prog 13 #[ptr R, .agg #[.int .i64 k1, .int .i64 k2], .int .i64 ba, .int .i64 ix] w fun e w' => RIns w base R P cap last av vs x e w' := by
  have mx := mixed
  obtain ⟨ao, ac, rfl⟩ := h.sl
  obtain ⟨an, han⟩ : ∃ an, an = vs.length := ⟨_, rfl⟩
  have HC : Hid (∀ w, Calls Tryz.prog 40 #[.agg #[.int .i64 k1, .int .i64 k2]] w fun e w' => e = .returned (.int .i64 (errOf (isKey (k1, k2)) 20)) ∧ ∃ q os, w' = grow (w.drewN q) os) := fun w => refCheck_any w k1 k2
  obtain ⟨W1, hW1⟩ : ∃ W1, W1 = w.alloc (.cells #[.int .i64 k1, .int .i64 k2] 41) := ⟨_, rfl⟩
  obtain ⟨B5, hB5⟩ : ∃ g, g = w.heap.size := ⟨_, rfl⟩
  have HRl := hidS (h.lt (.inl rfl))
  have HOl : Hid (∀ k, (Value.slice ao vs.length ac).ownBlock = some k → k < w.heap.size) := fun k hk => h.lt (.inr hk)
  have HG1 : Hid (Grew w W1) := by rw [hW1]; exact (Grew.refl w).alloc _
  have HB1 : Hid (Box W1 B5 k1 k2) := by rw [hW1]; exact Box.new hB5
  have HIE : Hid (insE cap vs x = if isKey (k1, k2) = false then 20 else if ba < 1 ∨ 1099511627776 < ba then 80 else if ix < 0 ∨ 64 ≤ ix then 81 else if cap = (vs.length : Int) then 92 else staleN x (ofK (k1, k2) vs).getLast?) := by
    show _ = _; unfold insE staleN; rw [hx.2.1, hx.2.2.1, hx.2.2.2.1]; rfl
  have HR := hidS h
  have HBs := hidS hb
  have HP := hidS hp
  have HBo := hidS hbo
  have HX := hidS hx
  have HCp := hidS hc
  rw [← han] at HIE HR HCp HOl ⊢
  have HN := hidS han
  clear h hb hp hbo hx hc han
  go_enter Tryz.func13, Tryz.ntmps13
  go_wp2_with fail
  rw [← hW1, ← hB5]
  have HB5 := hidS hB5
  clear hW1 hB5
  obtain ⟨z0, z1⟩ := HB1.out
  go_wp2_with fail
  refine (HC.out W1).mono ?_
  rintro e w2 ⟨rfl, hg2⟩
  have HG2 := hidS (HG1.out.trans hg2)
  have HB2 := hidS (HB1.out.grew hg2)
  clear hg2 HC HG1 HB1 z0 z1
  cases hk : isKey (k1, k2) with
  | false =>
    rw [hk] at HIE
    have HF : Hid (RIns w base R P cap last (.slice ao an ac) vs x (.returned (.tuple #[.int .i64 0, .int .i64 20])) w2) := .inl (by rw [HIE.out, if_pos rfl]; exact ⟨by decide, rfl, HG2.out.below⟩)
    have he : errOf false 20 = 20 := rfl
    rw [he]
    clear HIE he hk
    go_wp2
    go_ret2
    exact HF.out
  | true =>
    rw [hk] at HIE
    have he : errOf true 20 = 0 := rfl
    rw [he]
    clear he hk
    by_cases h80 : ba < 1 ∨ 1099511627776 < ba
    · have HF : Hid (RIns w base R P cap last (.slice ao an ac) vs x (.returned (.tuple #[.int .i64 0, .int .i64 80])) w2) := .inl (by rw [HIE.out, if_neg (by decide), if_pos h80]; exact ⟨by decide, rfl, HG2.out.below⟩)
      clear HIE
      by_cases h1 : ba < 1
      · have h1b : decide (ba < 1) = true := by simpa using h1
        clear h80 h1
        go_wp2
        go_ret2
        exact HF.out
      · have h1b : decide (ba < 1) = false := by simpa using h1
        have h2b : decide (1099511627776 < ba) = true := by simp; omega
        clear h80 h1
        go_wp2
        go_ret2
        exact HF.out
    have HIE2 := hidS (HIE.out.trans ((if_neg (by decide)).trans (if_neg h80)))
    clear HIE
    have h1b : decide (ba < 1) = false := by simp; omega
    have h2b : decide (1099511627776 < ba) = false := by simp; omega
    by_cases h81 : ix < 0 ∨ 64 ≤ ix
    · have HF : Hid (RIns w base R P cap last (.slice ao an ac) vs x (.returned (.tuple #[.int .i64 0, .int .i64 81])) w2) := .inl (by rw [HIE2.out, if_pos h81]; exact ⟨by decide, rfl, HG2.out.below⟩)
      clear HIE2 h80
      by_cases h1 : ix < 0
      · have h3b : decide (ix < 0) = true := by simpa using h1
        clear h81 h1
        go_wp2
        go_ret2
        exact HF.out
      · have h3b : decide (ix < 0) = false := by simpa using h1
        have h4b : decide (64 ≤ ix) = true := by simp; omega
        clear h81 h1
        go_wp2
        go_ret2
        exact HF.out
    have HIE3 := hidS (HIE2.out.trans (if_neg h81))
    clear HIE2
    have h3b : decide (ix < 0) = false := by simp; omega
    have h4b : decide (64 ≤ ix) = false := by simp; omega
    clear h80 h81
    have HR2 := hidS (HR.out.kept HG2.out.below)
    obtain ⟨_, r1, r2, _⟩ := HR2.out.cells
    by_cases h92 : cap = (an : Int)
    · have HF : Hid (∀ q, RIns w base R P cap last (.slice ao an ac) vs x (.returned (.tuple #[.int .i64 0, .int .i64 92])) (w2.drewN q)) := fun q => .inl (by rw [HIE3.out, if_pos h92]; exact ⟨by decide, rfl, (HG2.out.drewN q).below⟩)
      have h9 : decide (cap ≤ (an : Int)) = true := by simp; omega
      clear HIE3 h92
      go_wp2_with fail
      go_quiet (fail)
      go_wp2
      go_ret2
      exact HF.out _
    have HIE4 := hidS (HIE3.out.trans (if_neg h92))
    have h9 : decide (cap ≤ (an : Int)) = false := by have := HCp.out; simp; omega
    clear HIE3 h92
    go_wp2_with fail
    go_quiet (fail)
    have HG3 := hidS (HG2.out.drewN nq)
    have HB3 := hidS (HB2.out.grew ((Grew.refl w2).drewN nq))
    generalize w2.drewN nq = w3 at *
    clear HR2 r1 r2 HG2 HB2
    -- the version, in a box of its own
    obtain ⟨W4, hW4⟩ : ∃ W4, W4 = w3.alloc (.cells #[.int .i64 ba, .int .i64 ix, .bool false, .bool false, .int .i64 0] 71) := ⟨_, rfl⟩
    obtain ⟨B10, hB10⟩ : ∃ g, g = w3.heap.size := ⟨_, rfl⟩
    have HG4 : Hid (Grew w W4) := by rw [hW4]; exact HG3.out.alloc _
    have HB4 : Hid (Box W4 B5 k1 k2) := by rw [hW4]; exact HB3.out.alloc _
    have HV4 : Hid (RV W4 B10 (.int .i64 ba) (.int .i64 ix) (.bool false) (.bool false) (.int .i64 0)) := by rw [hW4, hB10]; exact heap_alloc_new _ _ rfl
    have HR4 := hidS (HR.out.kept HG4.out.below)
    have hT : ∀ W, Calls Tryz.prog 49 #[] W fun e w' => e = .returned topV ∧ ∃ q os, w' = grow (W.drewN q) os := rtop_any
    obtain ⟨y, hy⟩ : ∃ y, y = lastI (fun v => decide (v.k = (k1, k2))) vs an := ⟨_, rfl⟩
    have hBl : ∀ m os, Calls Tryz.prog 48 #[ptr R, .agg #[.int .i64 k1, .int .i64 k2], topV] (grow (W4.drewN m) os) fun e w' => e = .returned (.int .i64 y) ∧ ∃ q os', w' = grow ((grow (W4.drewN m) os).drewN q) os' := fun m os => by
      rw [hy, HN.out, ← lastI_top HBo.out]; exact rbelow_any _ base R P cap last _ vs (HR4.out.kept (Grew.below ⟨m, os, rfl⟩)) (by have := HCp.out; have := HN.out; omega) HP.out k1 k2 _ _ _ _ _
    have HT := hidS hT
    have HBl := hidS hBl
    have HY := hidS hy
    clear hT hBl hy HR HB3
    go_wp2_with fail
    rw [← hW4, ← hB10]
    have HB10 : Hid (w.heap.size ≤ B10) := by show _ ≤ _; rw [hB10]; exact HG3.out.size
    clear hW4 hB10 HG3
    have ub : ∀ {p : Addr} {v : Value}, W4.cell? p = some v → ∀ n os, (grow (W4.drewN n) os).cell? p = some v := fun hc n os => Grew.cell ⟨n, os, rfl⟩ hc
    have p0 := ub HB4.out.1
    have p1 := ub HB4.out.2
    clear ub
    refine wp_region_quiet_grown mx (by kernel_rfl) ?_
    repeat (go_big_quiet_step (first | (go_at_call 49; exact Calls.grown_of (HT.out _)) | (go_at_call 48; exact Calls.grown_of (HBl.out _ _))))
    refine wpQuiet_nil ?_
    intro _ hw'
    obtain ⟨⟨nq, osq⟩, hw''⟩ := hw'
    subst hw''
    have hg : Grew W4 (grow (W4.drewN nq) osq) := ⟨nq, osq, rfl⟩
    have HG5 := hidS (HG4.out.trans hg)
    have HB5' := hidS (HB4.out.grew hg)
    have HV5 : Hid (RV (grow (W4.drewN nq) osq) B10 (.int .i64 ba) (.int .i64 ix) (.bool false) (.bool false) (.int .i64 0)) := (hg.heap (blk_lt HV4.out)).trans HV4.out
    have HR5 := hidS (HR4.out.kept hg.below)
    clear p0 p1 hg HG4 HB4 HV4 HR4 HT HBl
    generalize grow (W4.drewN nq) osq = w5 at *
    obtain ⟨z0, z1, z2, z3, z4⟩ := HV5.out.cells
    obtain ⟨_, r1, r2, r3⟩ := HR5.out.cells
    have f3 := frozen_of_row w5 R 3 _ _ HR5.out.bx
    rcases newest_of (k := (k1, k2)) (vs := vs) with ⟨i, hi, hyi, hli⟩ | ⟨hyi, hli⟩
    · have hyv : y = (i : Int) := by rw [HY.out, HN.out]; exact hyi
      subst hyv
      rw [hli] at HIE4
      have hia : i < an := by rw [HN.out]; exact hi
      obtain ⟨g, c, e1, _, _, _, d3, d4, d5, d6, d7⟩ := HR5.out.ent hi
      simp only [Value.slice.injEq] at e1
      obtain ⟨rfl, he9, rfl⟩ := e1
      clear he9
      have HSt : Hid (staleN x (some vs[i]!) = if latB ba ix vs[i]!.ba vs[i]!.ix = true then 0 else 94) := by
        show _ = _
        have hiff : latB ba ix vs[i]!.ba vs[i]!.ix = true ↔ later x vs[i]! := by unfold latB later; rw [HX.out.2.2.1, HX.out.2.2.2.1, decide_eq_true_iff]
        unfold staleN
        by_cases hq : later x vs[i]!
        · rw [if_pos (hiff.2 hq)]; exact if_pos hq
        · rw [if_neg (fun h => hq (hiff.1 h))]; exact if_neg hq
      generalize vs[i]!.ba = y3 at *
      generalize vs[i]!.ix = y4 at *
      generalize vs[i]!.fl = y5 at *
      generalize vs[i]!.ci = y6 at *
      generalize vs[i]!.cv = y7 at *
      clear HY hyi hli hi
      have hib : decide (0 ≤ (i : Int)) = true := by simp
      have ub : ∀ {p : Addr} {v : Value}, w5.cell? p = some v → ∀ n os, (grow (w5.drewN n) os).cell? p = some v := fun hc n os => Grew.cell ⟨n, os, rfl⟩ hc
      have q0 := ub z0
      have q1 := ub z1
      have q2 := ub z2
      have q3 := ub z3
      have q4 := ub z4
      have m3 := ub d3
      have m4 := ub d4
      have m5 := ub d5
      have m6 := ub d6
      have m7 := ub d7
      have rr := ub r2
      clear ub
      have HCm : Hid (∀ (w : World) (p q r s a5 b5 : Int) (a3 a4 b3 b4 : Bool), Calls Tryz.prog 50 #[.agg #[.int .i64 p, .int .i64 q, .bool a3, .bool a4, .int .i64 a5], .agg #[.int .i64 r, .int .i64 s, .bool b3, .bool b4, .int .i64 b5]] w fun e w' => e = .returned (.bool (latB p q r s)) ∧ ∃ q os, w' = grow (w.drewN q) os) := fun w p q r s a5 b5 a3 a4 b3 b4 => rlater_any w p q r s a5 b5 a3 a4 b3 b4
      cases hlt : latB ba ix y3 y4 with
      | false =>
        have HF : Hid (∀ W, Grew w5 W → RIns w base R P cap last (.slice (some ⟨g, 0, none⟩) an ac) vs x (.returned (.tuple #[.int .i64 0, .int .i64 94])) W) := fun W hW => .inl (by rw [HIE4.out, HSt.out, hlt]; exact ⟨by decide, rfl, (HG5.out.trans hW).below⟩)
        clear HIE4 HSt
        go_wp2_with fail
        refine wp_region_quiet_grown mx (by kernel_rfl) ?_
        repeat (go_big_quiet_step ((go_at_call 50; exact Calls.grown_of (HCm.out _ _ _ _ _ _ _ _ _ _ _))))
        refine wpQuiet_nil ?_
        intro _ hw'
        obtain ⟨⟨nq, osq⟩, hw''⟩ := hw'
        subst hw''
        have HF2 := hidS (HF.out _ ⟨nq, osq, rfl⟩)
        generalize grow (w5.drewN nq) osq = w6 at *
        go_wp2
        go_ret2
        exact HF2.out
      | true =>
        have HIE5 : Hid (insE cap vs x = 0) := by show _ = _; rw [HIE4.out, HSt.out, hlt]; rfl
        clear HIE4 HSt
        go_wp2_with fail
        refine wp_region_quiet_grown mx (by kernel_rfl) ?_
        repeat (go_big_quiet_step ((go_at_call 50; exact Calls.grown_of (HCm.out _ _ _ _ _ _ _ _ _ _ _))))
        refine wpQuiet_nil ?_
        intro _ hw'
        obtain ⟨⟨nq, osq⟩, hw''⟩ := hw'
        subst hw''
        have hg : Grew w5 (grow (w5.drewN nq) osq) := ⟨nq, osq, rfl⟩
        have HG6 := hidS (HG5.out.trans hg)
        have HB6 := hidS (HB5'.out.grew hg)
        have HV6 : Hid (RV (grow (w5.drewN nq) osq) B10 (.int .i64 ba) (.int .i64 ix) (.bool false) (.bool false) (.int .i64 0)) := (hg.heap (blk_lt HV5.out)).trans HV5.out
        have HR6 := hidS (HR5.out.kept hg.below)
        clear q0 q1 q2 q3 q4 m3 m4 m5 m6 m7 rr hg HG5 HB5' HV5 HR5 z0 z1 z2 z3 z4 d3 d4 d5 d6 d7 r1 r2 r3 f3
        generalize grow (w5.drewN nq) osq = w6 at *
        obtain ⟨_, r1, r2, r3⟩ := HR6.out.cells
        have f3 := frozen_of_row w6 R 3 _ _ HR6.out.bx
        obtain ⟨U, hU⟩ : ∃ U, U = w6.setCell ⟨R, 3, none⟩ (.int .i64 (last + 1)) := ⟨_, rfl⟩
        have HRU : Hid (RDs U base R P cap (last + 1) (.slice (some ⟨g, 0, none⟩) an ac) vs) := by rw [hU]; exact HR6.out.setL _
        have HFU : Hid (FrD R (.slice (some ⟨g, 0, none⟩) an ac) w U) := by rw [hU]; exact (FrD.bel HG6.out.below).setR 3 _
        have hRw : R < w.heap.size := HRl.out
        have hne5 : B5 ≠ R := by have := HB5.out; omega
        have hne10 : B10 ≠ R := fun e => by
          have h1 := HV6.out
          have h2 := HR6.out.bx
          rw [e] at h1
          unfold RV at h1
          rw [h2] at h1
          simp only [Option.some.injEq, Obj.cells.injEq] at h1
          exact absurd h1.2.1 (by decide)
        have HS : Hid (∀ W, FrD R (.slice (some ⟨g, 0, none⟩) an ac) U W → W.cell? ⟨R, 3, none⟩ = some (.int .i64 (last + 1)) → (W.cell? ⟨R, 3, none⟩ = some (.int .i64 (last + 1)) ∧ W.cell? ⟨B5, 0, none⟩ = some (.int .i64 k1) ∧ W.cell? ⟨B5, 1, none⟩ = some (.int .i64 k2) ∧ W.cell? ⟨B10, 0, none⟩ = some (.int .i64 ba) ∧ W.cell? ⟨B10, 1, none⟩ = some (.int .i64 ix) ∧ W.cell? ⟨B10, 2, none⟩ = some (.bool false) ∧ W.cell? ⟨B10, 3, none⟩ = some (.bool false) ∧ W.cell? ⟨B10, 4, none⟩ = some (.int .i64 0))) := fun W hW hR => by
          have b5 : ∀ j v, w6.cell? ⟨B5, j, none⟩ = some v → W.cell? ⟨B5, j, none⟩ = some v := fun j v hv => by
            have h1 : U.heap[B5]? = w6.heap[B5]? := by rw [hU]; exact heap_setCell_other w6 ⟨R, 3, none⟩ B5 _ hne5
            have h2 : U.heap.size = w6.heap.size := by rw [hU]; simp
            have h3 := hW.block B5 (by rw [h2]; exact cell_lt hv) hne5 (fun e => by have h5 := HB5.out; have h6 := HOl.out B5 e; omega)
            simp only [World.cell?, h3, h1] at hv ⊢
            exact hv
          have b10 : ∀ j v, w6.cell? ⟨B10, j, none⟩ = some v → W.cell? ⟨B10, j, none⟩ = some v := fun j v hv => by
            have h1 : U.heap[B10]? = w6.heap[B10]? := by rw [hU]; exact heap_setCell_other w6 ⟨R, 3, none⟩ B10 _ hne10
            have h2 : U.heap.size = w6.heap.size := by rw [hU]; simp
            have h3 := hW.block B10 (by rw [h2]; exact cell_lt hv) hne10 (fun e => by have h6 := HOl.out B10 e; have h7 := HB10.out; omega)
            simp only [World.cell?, h3, h1] at hv ⊢
            exact hv
          obtain ⟨v0, v1, v2, v3, v4⟩ := HV6.out.cells
          exact ⟨hR, b5 _ _ HB6.out.1, b5 _ _ HB6.out.2, b10 _ _ v0, b10 _ _ v1, b10 _ _ v2, b10 _ _ v3, b10 _ _ v4⟩
        have hdr : Below U.heap.size U U.drew := (Grew.refl U).drew.below
        have hS0 := HS.out U.drew (FrD.bel hdr) (HRU.out.kept hdr).cells.2.2.2
        have c2 := (HRU.out.kept hdr).cells.2.2.1
        have hal : ∀ o, Below U.heap.size U (U.drew.alloc o) := fun o => ((Grew.refl U).drew.alloc o).below
        have hS3 := fun o => HS.out (U.drew.alloc o) (FrD.bel (hal o)) (HRU.out.kept (hal o)).cells.2.2.2
        have c2' := fun o => (HRU.out.kept (hal o)).cells.2.2.1
        have hal2 : ∀ o, Below U.heap.size U (U.alloc o) := fun o => ((Grew.refl U).alloc o).below
        have c2'' := fun o => (HRU.out.kept (hal2 o)).cells.2.2.1
        have HAp : Hid (∀ ty, ∃ v' w', (Builtin.append_ #[48, 48] ty #[.slice (some ⟨g, 0, none⟩) an ac, .slice (some ⟨U.heap.size, 0, none⟩) 1 1]).run Tryz.prog (U.drew.alloc (.cells #[.int .i64 (last + 1), .int .i64 k1, .int .i64 k2, .int .i64 ba, .int .i64 ix, .bool false, .bool false, .int .i64 0] 112)) = .ok v' w' ∧ ((∃ o n c, v' = .slice o n c) ∧ w'.cell? ⟨R, 2, none⟩ = some (.slice (some ⟨g, 0, none⟩) an ac) ∧ w'.frozen? ⟨R, 2, none⟩ = false ∧ (w'.cell? ⟨R, 3, none⟩ = some (.int .i64 (last + 1)) ∧ w'.cell? ⟨B5, 0, none⟩ = some (.int .i64 k1) ∧ w'.cell? ⟨B5, 1, none⟩ = some (.int .i64 k2) ∧ w'.cell? ⟨B10, 0, none⟩ = some (.int .i64 ba) ∧ w'.cell? ⟨B10, 1, none⟩ = some (.int .i64 ix) ∧ w'.cell? ⟨B10, 2, none⟩ = some (.bool false) ∧ w'.cell? ⟨B10, 3, none⟩ = some (.bool false) ∧ w'.cell? ⟨B10, 4, none⟩ = some (.int .i64 0)) ∧ ((w'.setCell ⟨R, 2, none⟩ v').cell? ⟨R, 3, none⟩ = some (.int .i64 (last + 1)) ∧ (w'.setCell ⟨R, 2, none⟩ v').cell? ⟨B5, 0, none⟩ = some (.int .i64 k1) ∧ (w'.setCell ⟨R, 2, none⟩ v').cell? ⟨B5, 1, none⟩ = some (.int .i64 k2) ∧ (w'.setCell ⟨R, 2, none⟩ v').cell? ⟨B10, 0, none⟩ = some (.int .i64 ba) ∧ (w'.setCell ⟨R, 2, none⟩ v').cell? ⟨B10, 1, none⟩ = some (.int .i64 ix) ∧ (w'.setCell ⟨R, 2, none⟩ v').cell? ⟨B10, 2, none⟩ = some (.bool false) ∧ (w'.setCell ⟨R, 2, none⟩ v').cell? ⟨B10, 3, none⟩ = some (.bool false) ∧ (w'.setCell ⟨R, 2, none⟩ v').cell? ⟨B10, 4, none⟩ = some (.int .i64 0)) ∧ Hid (RDs (w'.setCell ⟨R, 2, none⟩ v') base R P cap (last + 1) v' (vs ++ [x]) ∧ FrD R (.slice (some ⟨g, 0, none⟩) an ac) w (w'.setCell ⟨R, 2, none⟩ v') ∧ OwnN (.slice (some ⟨g, 0, none⟩) an ac) v' w.heap.size))) := fun ty => by
          obtain ⟨v', w', q1, q2, q3, q4, q5, q6, q7, q8, q9⟩ := RDs.more (HRU.out.kept hdr) (Nat.le_trans HBs.out HFU.out.size) (by have := HCp.out; have := HN.out; omega) x ty
          have ee : entC x = [.int .i64 (last + 1), .int .i64 k1, .int .i64 k2, .int .i64 ba, .int .i64 ix, .bool false, .bool false, .int .i64 0] := by unfold entC; rw [HX.out.1, HX.out.2.1, HX.out.2.2.1, HX.out.2.2.2.1, HX.out.2.2.2.2.1, HX.out.2.2.2.2.2.1, HX.out.2.2.2.2.2.2]
          rw [ee] at q1
          have fU : FrD R (.slice (some ⟨g, 0, none⟩) an ac) U w' := (FrD.bel hdr).trans q6
          have fU2 : FrD R (.slice (some ⟨g, 0, none⟩) an ac) U (w'.setCell ⟨R, 2, none⟩ v') := (FrD.bel hdr).trans q8
          exact ⟨v', w', q1, q2, q3, q4, HS.out w' fU q5.cells.2.2.2, HS.out _ fU2 q7.cells.2.2.2, q7, HFU.out.trans fU2, fun k hk => (q9 k hk).imp id (fun h => Nat.le_trans HFU.out.size h)⟩
        have HIE := HIE5
        clear HS hal hal2 HR6 HB6 HV6 HFU HRU hdr hne5 hne10 hRw
        go_wp2_with fail
        rw [← hU]
        clear hU
        refine wp_region_held_drew (S := fun w' => w'.cell? ⟨R, 3, none⟩ = some (.int .i64 (last + 1)) ∧ w'.cell? ⟨B5, 0, none⟩ = some (.int .i64 k1) ∧ w'.cell? ⟨B5, 1, none⟩ = some (.int .i64 k2) ∧ w'.cell? ⟨B10, 0, none⟩ = some (.int .i64 ba) ∧ w'.cell? ⟨B10, 1, none⟩ = some (.int .i64 ix) ∧ w'.cell? ⟨B10, 2, none⟩ = some (.bool false) ∧ w'.cell? ⟨B10, 3, none⟩ = some (.bool false) ∧ w'.cell? ⟨B10, 4, none⟩ = some (.int .i64 0)) (by kernel_rfl) ?_ (fun hHeld => ?_)
        · exact hS0
        refine wpAnyH_take (i := 0) (v := .pointer (some ⟨R, 0, none⟩)) rfl (by kernel_rfl) (by kernel_rfl) (by kernel_rfl) (fun _ _ _ h => h) (Or.inl ⟨by rfl, by intro w hSw; (try dsimp only at hSw); go_simp⟩) (by assumption) ?_
        refine wpAnyH_take (i := 1) (v := .pointer (some ⟨R, 0, none⟩)) rfl (by kernel_rfl) (by kernel_rfl) (by kernel_rfl) (fun _ _ _ h => h) (Or.inl ⟨by rfl, by intro w hSw; (try dsimp only at hSw); go_simp⟩) (by assumption) ?_
        refine wpAnyH_take (i := 2) (v := .pointer (some ⟨R, 0, none⟩)) rfl (by kernel_rfl) (by kernel_rfl) (by kernel_rfl) (fun _ _ _ h => h) (Or.inl ⟨by rfl, by intro w hSw; (try dsimp only at hSw); go_simp⟩) (by assumption) ?_
        refine wpAnyH_take (i := 3) (v := .pointer (some ⟨R, 2, none⟩)) rfl (by kernel_rfl) (by kernel_rfl) (by kernel_rfl) (fun _ _ _ h => h) (Or.inl ⟨by rfl, by intro w hSw; (try dsimp only at hSw); go_simp⟩) (by assumption) ?_
        refine wpAnyH_take (i := 5) (v := .pointer (some ⟨R, 0, none⟩)) rfl (by kernel_rfl) (by kernel_rfl) (by kernel_rfl) (fun _ _ _ h => h) (Or.inl ⟨by rfl, by intro w hSw; (try dsimp only at hSw); go_simp⟩) (by assumption) ?_
        refine wpAnyH_take (i := 6) (v := .pointer (some ⟨R, 0, none⟩)) rfl (by kernel_rfl) (by kernel_rfl) (by kernel_rfl) (fun _ _ _ h => h) (Or.inl ⟨by rfl, by intro w hSw; (try dsimp only at hSw); go_simp⟩) (by assumption) ?_
        refine wpAnyH_take (i := 7) (v := .pointer (some ⟨R, 3, none⟩)) rfl (by kernel_rfl) (by kernel_rfl) (by kernel_rfl) (fun _ _ _ h => h) (Or.inl ⟨by rfl, by intro w hSw; (try dsimp only at hSw); go_simp⟩) (by assumption) ?_
        refine wpAnyH_take (i := 8) (v := .int .i64 (last + 1)) rfl (by kernel_rfl) (by kernel_rfl) (by kernel_rfl) (fun _ _ _ h => h) (Or.inl ⟨by rfl, by intro w hSw; (try dsimp only at hSw); go_simp⟩) (by assumption) ?_
        refine wpAnyH_take (i := 9) (v := .agg #[.int .i64 k1, .int .i64 k2]) rfl (by kernel_rfl) (by kernel_rfl) (by kernel_rfl) (fun _ _ _ h => h) (Or.inl ⟨by rfl, by intro w hSw; (try dsimp only at hSw); go_simp⟩) (by assumption) ?_
        refine wpAnyH_take (i := 10) (v := .agg #[.int .i64 ba, .int .i64 ix, .bool false, .bool false, .int .i64 0]) rfl (by kernel_rfl) (by kernel_rfl) (by kernel_rfl) (fun _ _ _ h => h) (Or.inl ⟨by rfl, by intro w hSw; (try dsimp only at hSw); go_simp⟩) (by assumption) ?_
        refine wpAnyH_take (i := 11) (v := .agg #[.int .i64 (last + 1), .int .i64 k1, .int .i64 k2, .int .i64 ba, .int .i64 ix, .bool false, .bool false, .int .i64 0]) rfl (by kernel_rfl) (by kernel_rfl) (by kernel_rfl) (fun _ _ _ h => h) (Or.inl ⟨by rfl, by intro w hSw; (try dsimp only at hSw); go_simp⟩) (by assumption) ?_
        refine wpAnyH_ready (rs := [4, 12]) (by kernel_rfl) (by simp) ?_
        refine AllReadyH.cons rfl (fun K hK => ?_) ?_
        · go_simp
          refine hK.out _ _ (by assumption) (fun hHeld => ?_)
          clear hK K
          refine wpAnyH_ready (rs := [12]) (by kernel_rfl) (by simp) ?_
          refine AllReadyH.cons rfl (fun K hK => ?_) ?_
          · go_simp
            refine hK.out _ _ (by exact hS3 _) (fun hHeld => ?_)
            clear hK K
            refine wpAnyH_ready (rs := [13]) (by kernel_rfl) (by simp) ?_
            refine AllReadyH.cons rfl (fun K hK => ?_) ?_
            · refine step_app rfl _ _ 48 rfl (.slice (some ⟨g, 0, none⟩) an ac) (.slice (some ⟨U.heap.size, 0, none⟩) 1 1) rfl rfl HAp.out ?_
              rintro v' w9 ⟨⟨o9, n9, c9, rfl⟩, t1, t2, t3, t4, HP9⟩
              refine hK.out _ _ (by exact t3) (fun hHeld => ?_)
              clear hK K
              refine wpAnyH_take (i := 14) (v := .pointer (some ⟨R, 0, none⟩)) rfl (by kernel_rfl) (by kernel_rfl) (by kernel_rfl) (fun _ _ _ h => h) (Or.inl ⟨by rfl, by intro w hSw; (try dsimp only at hSw); go_simp⟩) (by assumption) ?_
              refine wpAnyH_take (i := 15) (v := .pointer (some ⟨R, 2, none⟩)) rfl (by kernel_rfl) (by kernel_rfl) (by kernel_rfl) (fun _ _ _ h => h) (Or.inl ⟨by rfl, by intro w hSw; (try dsimp only at hSw); go_simp⟩) (by assumption) ?_
              refine wpAnyH_ready (rs := [16]) (by kernel_rfl) (by simp) ?_
              refine AllReadyH.cons rfl (fun K hK => ?_) ?_
              · go_simp
                refine hK.out _ _ (by exact t4) (fun hHeld => ?_)
                clear hK K
                refine wpAnyH_done (by kernel_rfl) ?_ _
                obtain ⟨t5, _⟩ := t4
                go_wp2
                go_ret2
                exact .inr ⟨HIE.out, rfl, _, HP9.out⟩
              exact AllReadyH.nil
            exact AllReadyH.nil
          exact AllReadyH.nil
        refine AllReadyH.cons rfl (fun K hK => ?_) ?_
        · go_simp
          refine hK.out _ _ (by exact hS3 _) (fun hHeld => ?_)
          clear hK K
          refine wpAnyH_ready (rs := [4]) (by kernel_rfl) (by simp) ?_
          refine AllReadyH.cons rfl (fun K hK => ?_) ?_
          · go_simp
            refine hK.out _ _ (by assumption) (fun hHeld => ?_)
            clear hK K
            refine wpAnyH_ready (rs := [13]) (by kernel_rfl) (by simp) ?_
            refine AllReadyH.cons rfl (fun K hK => ?_) ?_
            · refine step_app rfl _ _ 48 rfl (.slice (some ⟨g, 0, none⟩) an ac) (.slice (some ⟨U.heap.size, 0, none⟩) 1 1) rfl rfl HAp.out ?_
              rintro v' w9 ⟨⟨o9, n9, c9, rfl⟩, t1, t2, t3, t4, HP9⟩
              refine hK.out _ _ (by exact t3) (fun hHeld => ?_)
              clear hK K
              refine wpAnyH_take (i := 14) (v := .pointer (some ⟨R, 0, none⟩)) rfl (by kernel_rfl) (by kernel_rfl) (by kernel_rfl) (fun _ _ _ h => h) (Or.inl ⟨by rfl, by intro w hSw; (try dsimp only at hSw); go_simp⟩) (by assumption) ?_
              refine wpAnyH_take (i := 15) (v := .pointer (some ⟨R, 2, none⟩)) rfl (by kernel_rfl) (by kernel_rfl) (by kernel_rfl) (fun _ _ _ h => h) (Or.inl ⟨by rfl, by intro w hSw; (try dsimp only at hSw); go_simp⟩) (by assumption) ?_
              refine wpAnyH_ready (rs := [16]) (by kernel_rfl) (by simp) ?_
              refine AllReadyH.cons rfl (fun K hK => ?_) ?_
              · go_simp
                refine hK.out _ _ (by exact t4) (fun hHeld => ?_)
                clear hK K
                refine wpAnyH_done (by kernel_rfl) ?_ _
                obtain ⟨t5, _⟩ := t4
                go_wp2
                go_ret2
                exact .inr ⟨HIE.out, rfl, _, HP9.out⟩
              exact AllReadyH.nil
            exact AllReadyH.nil
          exact AllReadyH.nil
        exact AllReadyH.nil
    · have hyv : y = -1 := by rw [HY.out, HN.out]; exact hyi
      subst hyv
      rw [hli] at HIE4
      have HIE5 : Hid (insE cap vs x = 0) := by show _ = _; rw [HIE4.out]; rfl
      clear HIE4 HY hyi hli
      have ub : ∀ {p : Addr} {v : Value}, w5.cell? p = some v → ∀ n os, (grow (w5.drewN n) os).cell? p = some v := fun hc n os => Grew.cell ⟨n, os, rfl⟩ hc
      clear ub
      go_wp2_with fail
      refine wp_region_quiet_grown mx (by kernel_rfl) ?_
      repeat (go_big_quiet_step (fail))
      refine wpQuiet_nil ?_
      intro _ hw'
      obtain ⟨⟨nq, osq⟩, hw''⟩ := hw'
      subst hw''
      have hg : Grew w5 (grow (w5.drewN nq) osq) := ⟨nq, osq, rfl⟩
      have HG6 := hidS (HG5.out.trans hg)
      have HB6 := hidS (HB5'.out.grew hg)
      have HV6 : Hid (RV (grow (w5.drewN nq) osq) B10 (.int .i64 ba) (.int .i64 ix) (.bool false) (.bool false) (.int .i64 0)) := (hg.heap (blk_lt HV5.out)).trans HV5.out
      have HR6 := hidS (HR5.out.kept hg.below)
      clear hg HG5 HB5' HV5 HR5 z0 z1 z2 z3 z4 r1 r2 r3 f3
      generalize grow (w5.drewN nq) osq = w6 at *
      obtain ⟨_, r1, r2, r3⟩ := HR6.out.cells
      have f3 := frozen_of_row w6 R 3 _ _ HR6.out.bx
      obtain ⟨U, hU⟩ : ∃ U, U = w6.setCell ⟨R, 3, none⟩ (.int .i64 (last + 1)) := ⟨_, rfl⟩
      have HRU : Hid (RDs U base R P cap (last + 1) (.slice ao an ac) vs) := by rw [hU]; exact HR6.out.setL _
      have HFU : Hid (FrD R (.slice ao an ac) w U) := by rw [hU]; exact (FrD.bel HG6.out.below).setR 3 _
      have hRw : R < w.heap.size := HRl.out
      have hne5 : B5 ≠ R := by have := HB5.out; omega
      have hne10 : B10 ≠ R := fun e => by
        have h1 := HV6.out
        have h2 := HR6.out.bx
        rw [e] at h1
        unfold RV at h1
        rw [h2] at h1
        simp only [Option.some.injEq, Obj.cells.injEq] at h1
        exact absurd h1.2.1 (by decide)
      have HS : Hid (∀ W, FrD R (.slice ao an ac) U W → W.cell? ⟨R, 3, none⟩ = some (.int .i64 (last + 1)) → (W.cell? ⟨R, 3, none⟩ = some (.int .i64 (last + 1)) ∧ W.cell? ⟨B5, 0, none⟩ = some (.int .i64 k1) ∧ W.cell? ⟨B5, 1, none⟩ = some (.int .i64 k2) ∧ W.cell? ⟨B10, 0, none⟩ = some (.int .i64 ba) ∧ W.cell? ⟨B10, 1, none⟩ = some (.int .i64 ix) ∧ W.cell? ⟨B10, 2, none⟩ = some (.bool false) ∧ W.cell? ⟨B10, 3, none⟩ = some (.bool false) ∧ W.cell? ⟨B10, 4, none⟩ = some (.int .i64 0))) := fun W hW hR => by
        have b5 : ∀ j v, w6.cell? ⟨B5, j, none⟩ = some v → W.cell? ⟨B5, j, none⟩ = some v := fun j v hv => by
          have h1 : U.heap[B5]? = w6.heap[B5]? := by rw [hU]; exact heap_setCell_other w6 ⟨R, 3, none⟩ B5 _ hne5
          have h2 : U.heap.size = w6.heap.size := by rw [hU]; simp
          have h3 := hW.block B5 (by rw [h2]; exact cell_lt hv) hne5 (fun e => by have h5 := HB5.out; have h6 := HOl.out B5 e; omega)
          simp only [World.cell?, h3, h1] at hv ⊢
          exact hv
        have b10 : ∀ j v, w6.cell? ⟨B10, j, none⟩ = some v → W.cell? ⟨B10, j, none⟩ = some v := fun j v hv => by
          have h1 : U.heap[B10]? = w6.heap[B10]? := by rw [hU]; exact heap_setCell_other w6 ⟨R, 3, none⟩ B10 _ hne10
          have h2 : U.heap.size = w6.heap.size := by rw [hU]; simp
          have h3 := hW.block B10 (by rw [h2]; exact cell_lt hv) hne10 (fun e => by have h6 := HOl.out B10 e; have h7 := HB10.out; omega)
          simp only [World.cell?, h3, h1] at hv ⊢
          exact hv
        obtain ⟨v0, v1, v2, v3, v4⟩ := HV6.out.cells
        exact ⟨hR, b5 _ _ HB6.out.1, b5 _ _ HB6.out.2, b10 _ _ v0, b10 _ _ v1, b10 _ _ v2, b10 _ _ v3, b10 _ _ v4⟩
      have hdr : Below U.heap.size U U.drew := (Grew.refl U).drew.below
      have hS0 := HS.out U.drew (FrD.bel hdr) (HRU.out.kept hdr).cells.2.2.2
      have c2 := (HRU.out.kept hdr).cells.2.2.1
      have hal : ∀ o, Below U.heap.size U (U.drew.alloc o) := fun o => ((Grew.refl U).drew.alloc o).below
      have hS3 := fun o => HS.out (U.drew.alloc o) (FrD.bel (hal o)) (HRU.out.kept (hal o)).cells.2.2.2
      have c2' := fun o => (HRU.out.kept (hal o)).cells.2.2.1
      have hal2 : ∀ o, Below U.heap.size U (U.alloc o) := fun o => ((Grew.refl U).alloc o).below
      have c2'' := fun o => (HRU.out.kept (hal2 o)).cells.2.2.1
      have HAp : Hid (∀ ty, ∃ v' w', (Builtin.append_ #[48, 48] ty #[.slice ao an ac, .slice (some ⟨U.heap.size, 0, none⟩) 1 1]).run Tryz.prog (U.drew.alloc (.cells #[.int .i64 (last + 1), .int .i64 k1, .int .i64 k2, .int .i64 ba, .int .i64 ix, .bool false, .bool false, .int .i64 0] 112)) = .ok v' w' ∧ ((∃ o n c, v' = .slice o n c) ∧ w'.cell? ⟨R, 2, none⟩ = some (.slice ao an ac) ∧ w'.frozen? ⟨R, 2, none⟩ = false ∧ (w'.cell? ⟨R, 3, none⟩ = some (.int .i64 (last + 1)) ∧ w'.cell? ⟨B5, 0, none⟩ = some (.int .i64 k1) ∧ w'.cell? ⟨B5, 1, none⟩ = some (.int .i64 k2) ∧ w'.cell? ⟨B10, 0, none⟩ = some (.int .i64 ba) ∧ w'.cell? ⟨B10, 1, none⟩ = some (.int .i64 ix) ∧ w'.cell? ⟨B10, 2, none⟩ = some (.bool false) ∧ w'.cell? ⟨B10, 3, none⟩ = some (.bool false) ∧ w'.cell? ⟨B10, 4, none⟩ = some (.int .i64 0)) ∧ ((w'.setCell ⟨R, 2, none⟩ v').cell? ⟨R, 3, none⟩ = some (.int .i64 (last + 1)) ∧ (w'.setCell ⟨R, 2, none⟩ v').cell? ⟨B5, 0, none⟩ = some (.int .i64 k1) ∧ (w'.setCell ⟨R, 2, none⟩ v').cell? ⟨B5, 1, none⟩ = some (.int .i64 k2) ∧ (w'.setCell ⟨R, 2, none⟩ v').cell? ⟨B10, 0, none⟩ = some (.int .i64 ba) ∧ (w'.setCell ⟨R, 2, none⟩ v').cell? ⟨B10, 1, none⟩ = some (.int .i64 ix) ∧ (w'.setCell ⟨R, 2, none⟩ v').cell? ⟨B10, 2, none⟩ = some (.bool false) ∧ (w'.setCell ⟨R, 2, none⟩ v').cell? ⟨B10, 3, none⟩ = some (.bool false) ∧ (w'.setCell ⟨R, 2, none⟩ v').cell? ⟨B10, 4, none⟩ = some (.int .i64 0)) ∧ Hid (RDs (w'.setCell ⟨R, 2, none⟩ v') base R P cap (last + 1) v' (vs ++ [x]) ∧ FrD R (.slice ao an ac) w (w'.setCell ⟨R, 2, none⟩ v') ∧ OwnN (.slice ao an ac) v' w.heap.size))) := fun ty => by
        obtain ⟨v', w', q1, q2, q3, q4, q5, q6, q7, q8, q9⟩ := RDs.more (HRU.out.kept hdr) (Nat.le_trans HBs.out HFU.out.size) (by have := HCp.out; have := HN.out; omega) x ty
        have ee : entC x = [.int .i64 (last + 1), .int .i64 k1, .int .i64 k2, .int .i64 ba, .int .i64 ix, .bool false, .bool false, .int .i64 0] := by unfold entC; rw [HX.out.1, HX.out.2.1, HX.out.2.2.1, HX.out.2.2.2.1, HX.out.2.2.2.2.1, HX.out.2.2.2.2.2.1, HX.out.2.2.2.2.2.2]
        rw [ee] at q1
        have fU : FrD R (.slice ao an ac) U w' := (FrD.bel hdr).trans q6
        have fU2 : FrD R (.slice ao an ac) U (w'.setCell ⟨R, 2, none⟩ v') := (FrD.bel hdr).trans q8
        exact ⟨v', w', q1, q2, q3, q4, HS.out w' fU q5.cells.2.2.2, HS.out _ fU2 q7.cells.2.2.2, q7, HFU.out.trans fU2, fun k hk => (q9 k hk).imp id (fun h => Nat.le_trans HFU.out.size h)⟩
      have HIE := HIE5
      clear HS hal hal2 HR6 HB6 HV6 HFU HRU hdr hne5 hne10 hRw
      go_wp2_with fail
      rw [← hU]
      clear hU
      refine wp_region_held_drew (S := fun w' => w'.cell? ⟨R, 3, none⟩ = some (.int .i64 (last + 1)) ∧ w'.cell? ⟨B5, 0, none⟩ = some (.int .i64 k1) ∧ w'.cell? ⟨B5, 1, none⟩ = some (.int .i64 k2) ∧ w'.cell? ⟨B10, 0, none⟩ = some (.int .i64 ba) ∧ w'.cell? ⟨B10, 1, none⟩ = some (.int .i64 ix) ∧ w'.cell? ⟨B10, 2, none⟩ = some (.bool false) ∧ w'.cell? ⟨B10, 3, none⟩ = some (.bool false) ∧ w'.cell? ⟨B10, 4, none⟩ = some (.int .i64 0)) (by kernel_rfl) ?_ (fun hHeld => ?_)
      · exact hS0
      refine wpAnyH_take (i := 0) (v := .pointer (some ⟨R, 0, none⟩)) rfl (by kernel_rfl) (by kernel_rfl) (by kernel_rfl) (fun _ _ _ h => h) (Or.inl ⟨by rfl, by intro w hSw; (try dsimp only at hSw); go_simp⟩) (by assumption) ?_
      refine wpAnyH_take (i := 1) (v := .pointer (some ⟨R, 0, none⟩)) rfl (by kernel_rfl) (by kernel_rfl) (by kernel_rfl) (fun _ _ _ h => h) (Or.inl ⟨by rfl, by intro w hSw; (try dsimp only at hSw); go_simp⟩) (by assumption) ?_
      refine wpAnyH_take (i := 2) (v := .pointer (some ⟨R, 0, none⟩)) rfl (by kernel_rfl) (by kernel_rfl) (by kernel_rfl) (fun _ _ _ h => h) (Or.inl ⟨by rfl, by intro w hSw; (try dsimp only at hSw); go_simp⟩) (by assumption) ?_
      refine wpAnyH_take (i := 3) (v := .pointer (some ⟨R, 2, none⟩)) rfl (by kernel_rfl) (by kernel_rfl) (by kernel_rfl) (fun _ _ _ h => h) (Or.inl ⟨by rfl, by intro w hSw; (try dsimp only at hSw); go_simp⟩) (by assumption) ?_
      refine wpAnyH_take (i := 5) (v := .pointer (some ⟨R, 0, none⟩)) rfl (by kernel_rfl) (by kernel_rfl) (by kernel_rfl) (fun _ _ _ h => h) (Or.inl ⟨by rfl, by intro w hSw; (try dsimp only at hSw); go_simp⟩) (by assumption) ?_
      refine wpAnyH_take (i := 6) (v := .pointer (some ⟨R, 0, none⟩)) rfl (by kernel_rfl) (by kernel_rfl) (by kernel_rfl) (fun _ _ _ h => h) (Or.inl ⟨by rfl, by intro w hSw; (try dsimp only at hSw); go_simp⟩) (by assumption) ?_
      refine wpAnyH_take (i := 7) (v := .pointer (some ⟨R, 3, none⟩)) rfl (by kernel_rfl) (by kernel_rfl) (by kernel_rfl) (fun _ _ _ h => h) (Or.inl ⟨by rfl, by intro w hSw; (try dsimp only at hSw); go_simp⟩) (by assumption) ?_
      refine wpAnyH_take (i := 8) (v := .int .i64 (last + 1)) rfl (by kernel_rfl) (by kernel_rfl) (by kernel_rfl) (fun _ _ _ h => h) (Or.inl ⟨by rfl, by intro w hSw; (try dsimp only at hSw); go_simp⟩) (by assumption) ?_
      refine wpAnyH_take (i := 9) (v := .agg #[.int .i64 k1, .int .i64 k2]) rfl (by kernel_rfl) (by kernel_rfl) (by kernel_rfl) (fun _ _ _ h => h) (Or.inl ⟨by rfl, by intro w hSw; (try dsimp only at hSw); go_simp⟩) (by assumption) ?_
      refine wpAnyH_take (i := 10) (v := .agg #[.int .i64 ba, .int .i64 ix, .bool false, .bool false, .int .i64 0]) rfl (by kernel_rfl) (by kernel_rfl) (by kernel_rfl) (fun _ _ _ h => h) (Or.inl ⟨by rfl, by intro w hSw; (try dsimp only at hSw); go_simp⟩) (by assumption) ?_
      refine wpAnyH_take (i := 11) (v := .agg #[.int .i64 (last + 1), .int .i64 k1, .int .i64 k2, .int .i64 ba, .int .i64 ix, .bool false, .bool false, .int .i64 0]) rfl (by kernel_rfl) (by kernel_rfl) (by kernel_rfl) (fun _ _ _ h => h) (Or.inl ⟨by rfl, by intro w hSw; (try dsimp only at hSw); go_simp⟩) (by assumption) ?_
      refine wpAnyH_ready (rs := [4, 12]) (by kernel_rfl) (by simp) ?_
      refine AllReadyH.cons rfl (fun K hK => ?_) ?_
      · go_simp
        refine hK.out _ _ (by assumption) (fun hHeld => ?_)
        clear hK K
        refine wpAnyH_ready (rs := [12]) (by kernel_rfl) (by simp) ?_
        refine AllReadyH.cons rfl (fun K hK => ?_) ?_
        · go_simp
          refine hK.out _ _ (by exact hS3 _) (fun hHeld => ?_)
          clear hK K
          refine wpAnyH_ready (rs := [13]) (by kernel_rfl) (by simp) ?_
          refine AllReadyH.cons rfl (fun K hK => ?_) ?_
          · refine step_app rfl _ _ 48 rfl (.slice ao an ac) (.slice (some ⟨U.heap.size, 0, none⟩) 1 1) rfl rfl HAp.out ?_
            rintro v' w9 ⟨⟨o9, n9, c9, rfl⟩, t1, t2, t3, t4, HP9⟩
            refine hK.out _ _ (by exact t3) (fun hHeld => ?_)
            clear hK K
            refine wpAnyH_take (i := 14) (v := .pointer (some ⟨R, 0, none⟩)) rfl (by kernel_rfl) (by kernel_rfl) (by kernel_rfl) (fun _ _ _ h => h) (Or.inl ⟨by rfl, by intro w hSw; (try dsimp only at hSw); go_simp⟩) (by assumption) ?_
            refine wpAnyH_take (i := 15) (v := .pointer (some ⟨R, 2, none⟩)) rfl (by kernel_rfl) (by kernel_rfl) (by kernel_rfl) (fun _ _ _ h => h) (Or.inl ⟨by rfl, by intro w hSw; (try dsimp only at hSw); go_simp⟩) (by assumption) ?_
            refine wpAnyH_ready (rs := [16]) (by kernel_rfl) (by simp) ?_
            refine AllReadyH.cons rfl (fun K hK => ?_) ?_
            · go_simp
              refine hK.out _ _ (by exact t4) (fun hHeld => ?_)
              clear hK K
              refine wpAnyH_done (by kernel_rfl) ?_ _
              obtain ⟨t5, _⟩ := t4
              go_wp2
              go_ret2
              exact .inr ⟨HIE.out, rfl, _, HP9.out⟩
            exact AllReadyH.nil
          exact AllReadyH.nil
        exact AllReadyH.nil
      refine AllReadyH.cons rfl (fun K hK => ?_) ?_
      · go_simp
        refine hK.out _ _ (by exact hS3 _) (fun hHeld => ?_)
        clear hK K
        refine wpAnyH_ready (rs := [4]) (by kernel_rfl) (by simp) ?_
        refine AllReadyH.cons rfl (fun K hK => ?_) ?_
        · go_simp
          refine hK.out _ _ (by assumption) (fun hHeld => ?_)
          clear hK K
          refine wpAnyH_ready (rs := [13]) (by kernel_rfl) (by simp) ?_
          refine AllReadyH.cons rfl (fun K hK => ?_) ?_
          · refine step_app rfl _ _ 48 rfl (.slice ao an ac) (.slice (some ⟨U.heap.size, 0, none⟩) 1 1) rfl rfl HAp.out ?_
            rintro v' w9 ⟨⟨o9, n9, c9, rfl⟩, t1, t2, t3, t4, HP9⟩
            refine hK.out _ _ (by exact t3) (fun hHeld => ?_)
            clear hK K
            refine wpAnyH_take (i := 14) (v := .pointer (some ⟨R, 0, none⟩)) rfl (by kernel_rfl) (by kernel_rfl) (by kernel_rfl) (fun _ _ _ h => h) (Or.inl ⟨by rfl, by intro w hSw; (try dsimp only at hSw); go_simp⟩) (by assumption) ?_
            refine wpAnyH_take (i := 15) (v := .pointer (some ⟨R, 2, none⟩)) rfl (by kernel_rfl) (by kernel_rfl) (by kernel_rfl) (fun _ _ _ h => h) (Or.inl ⟨by rfl, by intro w hSw; (try dsimp only at hSw); go_simp⟩) (by assumption) ?_
            refine wpAnyH_ready (rs := [16]) (by kernel_rfl) (by simp) ?_
            refine AllReadyH.cons rfl (fun K hK => ?_) ?_
            · go_simp
              refine hK.out _ _ (by exact t4) (fun hHeld => ?_)
              clear hK K
              refine wpAnyH_done (by kernel_rfl) ?_ _
              obtain ⟨t5, _⟩ := t4
              go_wp2
              go_ret2
              exact .inr ⟨HIE.out, rfl, _, HP9.out⟩
            exact AllReadyH.nil
          exact AllReadyH.nil
        exact AllReadyH.nil
      exact AllReadyH.nil
end Go.Proofs.YtbcmmeajglilbaaGreat
