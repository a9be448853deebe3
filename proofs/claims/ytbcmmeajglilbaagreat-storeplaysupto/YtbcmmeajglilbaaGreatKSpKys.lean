import Derived.Test.YtbcmmeajglilbaaGreatKKRefPut
import Derived.Test.YtbcmmeajglilbaaGreatKSpMath
import Derived.Test.YtbcmmeajglilbaaGreatKSTold
/-
  StorePlays: THE DOCUMENT'S Keys, New.
-/
namespace Go.Proofs.YtbcmmeajglilbaaGreat
open Go.RowKit Go.Sort

/-- the keys of a partition, one for each version -/
def ksP (P : Nat) (p : Int) (vs : List Vr) : List K := (vs.filter (fun v => decide (partV v.k (P : Int) = p))).map Vr.k
theorem ksP_step {P : Nat} {p : Int} {vs : List Vr} {i : Nat} (hi : i < vs.length) : ksP P p (vs.take (i + 1)) = ksP P p (vs.take i) ++ (if partV vs[i]!.k (P : Int) = p then [vs[i]!.k] else []) := by
  unfold ksP
  rw [take_snocV hi, List.filter_append, List.map_append]
  congr 1
  by_cases h : partV vs[i]!.k (P : Int) = p
  · rw [if_pos h, List.filter_cons_of_pos (by simpa using h)]; rfl
  · rw [if_neg h, List.filter_cons_of_neg (by simpa using h)]; rfl
theorem ksP_len (P : Nat) (p : Int) (vs : List Vr) : (ksP P p vs).length ≤ vs.length := by
  unfold ksP; rw [List.length_map]; exact List.length_filter_le _ _
theorem ksP_of {P : Nat} {p : Int} {vs : List Vr} (hP : 1 ≤ P ∧ P ≤ 256) (hik : ∀ v ∈ vs, isKey v.k = true) : (ksP P p vs).all isKey = true ∧ KsOf P p vs (sortK (ksP P p vs)) := by
  have hk : ∀ k ∈ ksP P p vs, isKey k = true := fun k hk => by
    obtain ⟨v, hv, rfl⟩ := List.mem_map.1 hk
    exact hik v (List.mem_filter.1 hv).1
  refine ⟨List.all_eq_true.2 hk, sortK_rise hk, fun k => ?_⟩
  rw [sortK_mem]
  unfold ksP
  rw [List.mem_map]
  constructor
  · rintro ⟨v, hv, rfl⟩
    obtain ⟨h1, h2⟩ := List.mem_filter.1 hv
    have h3 : partV v.k (P : Int) = p := by simpa using h2
    rw [partV_in hP, hik v h1] at h3
    exact ⟨⟨v, h1, rfl⟩, by simpa using h3⟩
  · rintro ⟨⟨v, h1, rfl⟩, h2⟩
    refine ⟨v, List.mem_filter.2 ⟨h1, ?_⟩, rfl⟩
    have h3 : partV v.k (P : Int) = p := by rw [partV_in hP, hik v h1]; simpa using h2
    simpa using h3
/-- one key more in a row of one's own -/
theorem row_key {W : World} {base : Nat} {v : Value} {L : List K} (h : OwnK W base v L) (k : K) (hl : L.length ≤ 65536) (hb : base ≤ W.heap.size) (ty : TypeId) :
    ∃ v' w', (Builtin.append_ #[85, 85] ty #[v, .slice (some ⟨W.heap.size, 0, none⟩) 1 1]).run Tryz.prog (W.alloc (.cells #[.int .i64 k.1, .int .i64 k.2] 41)) = .ok v' w' ∧ (∃ o c, v' = .slice o (L.length + 1) c) ∧ OwnK w' base v' (L ++ [k]) ∧ Below base W w' := by
  have hal : Below W.heap.size W (W.alloc (.cells #[.int .i64 k.1, .int .i64 k.2] 41)) := (Below.refl _ _).alloc (Nat.le_refl _) _
  have hA : OwnK (W.alloc (.cells #[.int .i64 k.1, .int .i64 k.2] 41)) base v L := h.alloc _
  have hb5 : (W.alloc (.cells #[.int .i64 k.1, .int .i64 k.2] 41)).heap[W.heap.size]? = some (.cells #[.int .i64 k.1, .int .i64 k.2] 41 (0, 0)) := heap_alloc_new _ _ rfl
  have hsrc : KeysAt (W.alloc (.cells #[.int .i64 k.1, .int .i64 k.2] 41)) (some ⟨W.heap.size, 0, none⟩) [k] := .inr ⟨_, 0, rfl, fun j u hu => by
    have h2 : (cks [k])[j]? = some u := hu
    simp [cks] at h2
    simp only [World.cell?, Nat.zero_add, hb5]
    match j, h2 with
    | 0, h2 => simpa using h2
    | 1, h2 => simpa using h2
    | j + 2, h2 => simp at h2⟩
  obtain ⟨v', w', q1, q2, q3, _⟩ := run_append_keys ty base v L hA (some ⟨W.heap.size, 0, none⟩) 1 1 [k] rfl hsrc (fun e => by cases e) (by simp; omega) (Nat.le_trans hb hal.size)
  refine ⟨v', w', q1, ?_, q2, ⟨q3.os, q3.tape, q3.output, Nat.le_trans hal.size q3.size, fun j hj => (q3.block j (by have := hal.size; omega) (fun e => by have := (hA.lt j e.symm).1; omega)).trans (hal.block j (by omega))⟩⟩
  obtain ⟨ao, cap, e, _⟩ := q2.slice
  exact ⟨ao, cap, by rw [e]; simp⟩
def RKys (w : World) (P : Nat) (p : Int) (vs : List Vr) (e : Ending) (w' : World) : Prop := ∃ v L, e = .returned v ∧ OwnK w' w.heap.size v L ∧ KsOf P p vs L ∧ Below w.heap.size w w'
set_option maxRecDepth 100000 in
set_option maxHeartbeats 4000000 in
theorem rkeys_any (w : World) (base R P : Nat) (cap last : Int) (av : Value) (vs : List Vr) (h : RDs w base R P cap last av vs) (hl : vs.length ≤ 65536) (hP : 1 ≤ P ∧ P ≤ 256) (hik : ∀ v ∈ vs, isKey v.k = true) (hin : ∀ v ∈ vs, In64 v.k.2) (p : Int) :
    Calls Tryz.prog 33 #[ptr R, .int .i64 p] w fun e w' => RKys w P p vs e w' := by
  obtain ⟨ao, ac, rfl⟩ := h.sl
  have HR := hidS h
  have HL := hidS hl
  have HPp := hidS hP
  have HIk := hidS hik
  have HIn := hidS hin
  obtain ⟨an, han⟩ : ∃ an, an = vs.length := ⟨_, rfl⟩
  have HN := hidS han
  have hl9 : an ≤ 65536 := by rw [han]; exact hl
  clear h hl hP hik hin han
  go_enter Tryz.func33, Tryz.ntmps33
  go_wp2_with fail
  go_loopw [5, 6] (fun v x wr => ∃ (i : Nat) (lo : Option Addr) (ln lc : Nat), i ≤ an ∧ v = .slice lo ln lc ∧ x = .int .i64 (i : Int) ∧ Hid (OwnK wr w.heap.size (.slice lo ln lc) (ksP P p (vs.take i)) ∧ Below w.heap.size w wr)) (fun _ x _ => an - (intOf x).toNat)
  case atStart => exact ⟨0, none, 0, 0, Nat.zero_le _, rfl, rfl, OwnK.nil _ _, Below.refl _ _⟩
  case round =>
    obtain ⟨i, lo, ln, lc, hi, rfl, rfl, HI⟩ := hrel
    have HRw := hidS (HR.out.kept HI.out.2)
    by_cases hlt : i < an
    · have hil : i < vs.length := by have := HN.out; omega
      have hm : vs[i]! ∈ vs := by rw [getElem!_pos vs i hil]; exact List.getElem_mem hil
      obtain ⟨g, c, e1, _, c1, c2, _⟩ := HRw.out.ent hil
      simp only [Value.slice.injEq] at e1
      obtain ⟨rfl, he9, rfl⟩ := e1
      clear he9
      have r2 := HRw.out.cells.2.2.1
      rw [← HN.out] at r2
      have HPt := hidS (rpart_any wr base R P cap last _ vs HRw.out HPp.out vs[i]!.k.1 vs[i]!.k.2 (HIn.out _ hm))
      have HE : Hid (∀ W, Below w.heap.size w W → W.cell? ⟨g, i * 8 + 1, none⟩ = some (.int .i64 vs[i]!.k.1) ∧ W.cell? ⟨g, i * 8 + 2, none⟩ = some (.int .i64 vs[i]!.k.2) ∧ W.cell? ⟨R, 2, none⟩ = some (.slice (some ⟨g, 0, none⟩) an ac)) := fun W hW => by
        obtain ⟨g', c', e1, _, d1, d2, _⟩ := (HR.out.kept hW).ent hil
        simp only [Value.slice.injEq, Option.some.injEq, Addr.mk.injEq, and_true, true_and] at e1
        obtain ⟨rfl, rfl⟩ := e1
        have r9 := (HR.out.kept hW).cells.2.2.1
        rw [← HN.out] at r9
        exact ⟨d1, d2, r9⟩
      have HSt := hidS (ksP_step (P := P) (p := p) hil)
      have HKe : Hid (vs[i]!.k = (vs[i]!.k.1, vs[i]!.k.2)) := rfl
      have HLn : Hid ((ksP P p (vs.take i)).length ≤ 65536) := Nat.le_trans (ksP_len _ _ _) (by rw [List.length_take]; have := HL.out; omega)
      have HApp : Hid (∀ W, OwnK W w.heap.size (.slice lo ln lc) (ksP P p (vs.take i)) → Below w.heap.size w W → ∀ ty, ∃ v' w', (Builtin.append_ #[85, 85] ty #[.slice lo ln lc, .slice (some ⟨W.heap.size, 0, none⟩) 1 1]).run Tryz.prog (W.alloc (.cells #[.int .i64 vs[i]!.k.1, .int .i64 vs[i]!.k.2] 41)) = .ok v' w' ∧ ((∃ o n c, v' = .slice o n c) ∧ Hid (OwnK w' w.heap.size v' (ksP P p (vs.take i) ++ [vs[i]!.k]) ∧ Below w.heap.size w w'))) := fun W hO hW ty => by
        obtain ⟨v', w', q1, ⟨o, c, q2⟩, q3, q4⟩ := row_key hO vs[i]!.k HLn.out hW.size ty
        exact ⟨v', w', q1, ⟨o, _, c, q2⟩, q3, hW.trans q4⟩
      generalize hkk : vs[i]!.k = kk at *
      clear hkk hm
      obtain ⟨x1, x2⟩ := kk
      simp only at c1 c2 HPt HE HApp
      go_wp2_with fail
      refine HPt.out.mono ?_
      rintro e w2 ⟨rfl, hg⟩
      have HO2 := hidS (HI.out.1.kept (Grew.below hg))
      have HB2 := hidS (HI.out.2.trans ((Grew.below hg).mono HI.out.2.size))
      clear hg HPt c1 c2 r2
      obtain ⟨d1, d2, d3⟩ := HE.out w2 HB2.out
      by_cases hpt : partV (x1, x2) (P : Int) = p
      · have hpb : (partV (x1, x2) (P : Int) == p) = true := by simpa using hpt
        rw [if_pos hpt] at HSt
        have HAp := hidS (HApp.out w2 HO2.out HB2.out)
        generalize partV (x1, x2) (P : Int) = pv at *
        clear hpt HApp HE HI HRw
        go_wp2_with (refine wpL_appS rfl _ _ 85 rfl (.slice lo ln lc) (.slice (some ⟨w2.heap.size, 0, none⟩) 1 1) rfl rfl HAp.out ?_; rintro v4 w4 ⟨⟨o9, n9, c9, rfl⟩, HQ⟩)
        have HF : Hid (OwnK w4 w.heap.size (.slice o9 n9 c9) (ksP P p (vs.take (i + 1))) ∧ Below w.heap.size w w4) := by rw [Hid, HSt.out]; exact HQ.out
        go_roundw
        case rel => exact ⟨i + 1, o9, n9, c9, by omega, rfl, by go_num, HF⟩
        case measure => simp [intOf]; omega
      · have hpb : (partV (x1, x2) (P : Int) == p) = false := by simpa using hpt
        rw [if_neg hpt, List.append_nil] at HSt
        generalize partV (x1, x2) (P : Int) = pv at *
        have HF : Hid (OwnK w2 w.heap.size (.slice lo ln lc) (ksP P p (vs.take (i + 1))) ∧ Below w.heap.size w w2) := by rw [Hid, HSt.out]; exact ⟨HO2.out, HB2.out⟩
        clear hpt HApp HE HI HRw
        go_wp2_with fail
        go_roundw
        case rel => exact ⟨i + 1, lo, ln, lc, by omega, rfl, by go_num, HF⟩
        case measure => simp [intOf]; omega
    · have hie : i = an := by omega
      subst hie
      have r2 := HRw.out.cells.2.2.1
      rw [← HN.out] at r2
      have hO := HI.out.1
      rw [HN.out, List.take_length] at hO
      obtain ⟨ha, hks⟩ := ksP_of (P := P) (p := p) HPp.out HIk.out
      obtain ⟨ao9, cap9, e9, hka, _⟩ := hO.slice
      simp only [Value.slice.injEq] at e9
      obtain ⟨rfl, hle, rfl⟩ := e9
      have HSo := hidS (refSort_any wr lo lc ln (ksP P p vs) hle hka (by have := ksP_len P p vs; have := HL.out; omega))
      have HA := hidS ha
      have HKs := hidS hks
      have HB := hidS HI.out.2
      clear hO hle hka ha hks HI HRw
      go_wp2_with fail
      refine HSo.out.mono ?_
      rintro e w2 ⟨⟨_, a, m, c, rfl, ho⟩ | ⟨h1, _⟩, hb⟩
      · have HF : Hid (RKys w P p vs (.returned (.slice a m c)) w2) := ⟨_, _, rfl, OwnK.mono ho.out HB.out.size, HKs.out, HB.out.trans (hb.mono HB.out.size)⟩
        clear ho hb HSo HB
        go_wp2
        go_ret
        exact HF.out
      · rw [HA.out] at h1; cases h1
end Go.Proofs.YtbcmmeajglilbaaGreat
/-
  StorePlays: BOTH New; the code's Part of any key, and Before of a number that isn't there.
-/
namespace Go.Proofs.YtbcmmeajglilbaaGreat
open Go.RowKit Go.Sort

/-- why no store is made -/
def newE (p c : Int) : Int := if p < 1 ∨ 256 < p then 21 else if c < 1 ∨ 65536 < c then 91 else 0
set_option maxRecDepth 100000 in
theorem cnew_bad (w : World) (p : Int) (f : Nat) (h : p < 1 ∨ 256 < p) :
    Calls Tryz.prog 10 #[.int .i64 p, hfn f] w fun e w' => e = .returned (.tuple #[.pointer none, .int .i64 21]) ∧ w' = w := by
  go_enter Tryz.func10, Tryz.ntmps10
  by_cases h1 : p < 1
  · go_wp2
    go_ret2
    exact ⟨rfl, rfl⟩
  · have h2 : 256 < p := by omega
    go_wp2
    go_ret2
    exact ⟨rfl, rfl⟩
def NewB (w : World) (x : Int) (e : Ending) (w' : World) : Prop := e = .returned (.tuple #[.pointer none, .int .i64 x]) ∧ Below w.heap.size w w'
set_option maxRecDepth 100000 in
set_option maxHeartbeats 1000000 in
theorem snew_bad (w : World) (p c : Int) (h : newE p c ≠ 0) :
    Calls Tryz.prog 4 #[.int .i64 p, .int .i64 c] w fun e w' => NewB w (newE p c) e w' := by
  by_cases hp : p < 1 ∨ 256 < p
  · have e : newE p c = 21 := if_pos hp
    rw [e]
    have HN := hidS (cnew_bad w p 11 hp)
    have HF : Hid (NewB w 21 (.returned (.tuple #[.pointer none, .int .i64 21])) w) := ⟨rfl, Below.refl _ _⟩
    clear hp h e
    go_enter Tryz.func4, Tryz.ntmps4
    go_wp2_with fail
    refine HN.out.mono ?_
    rintro e w1 ⟨rfl, rfl⟩
    go_wp2
    go_ret2
    exact HF.out
  · have e0 : newE p c = if c < 1 ∨ 65536 < c then 91 else 0 := if_neg hp
    have hc : c < 1 ∨ 65536 < c := by
      by_cases hc : c < 1 ∨ 65536 < c
      · exact hc
      · rw [e0, if_neg hc] at h; exact absurd rfl h
    rw [e0, if_pos hc]
    obtain ⟨n, rfl⟩ : ∃ n : Nat, p = (n : Int) := ⟨p.toNat, by omega⟩
    have HN := hidS (new_fn w 11 n (by omega) (by omega))
    have HF : Hid (∀ w1, Below w.heap.size w w1 → NewB w 91 (.returned (.tuple #[.pointer none, .int .i64 91])) w1) := fun w1 hb => ⟨rfl, hb⟩
    clear hp h e0
    by_cases h1 : c < 1
    · have h1b : decide (c < 1) = true := by simpa using h1
      clear hc h1
      go_enter Tryz.func4, Tryz.ntmps4
      go_wp2_with fail
      refine HN.out.mono ?_
      rintro e w1 ⟨D, M, L, rfl, _, _, hb1⟩
      have HF1 := hidS (HF.out w1 hb1)
      clear hb1
      go_wp2
      go_ret2
      exact HF1.out
    · have h1b : decide (c < 1) = false := by simpa using h1
      have h2b : decide (65536 < c) = true := by simp; omega
      clear hc h1
      go_enter Tryz.func4, Tryz.ntmps4
      go_wp2_with fail
      refine HN.out.mono ?_
      rintro e w1 ⟨D, M, L, rfl, _, _, hb1⟩
      have HF1 := hidS (HF.out w1 hb1)
      clear hb1
      go_wp2
      go_ret2
      exact HF1.out
set_option maxRecDepth 100000 in
set_option maxHeartbeats 1000000 in
theorem rnew_bad (w : World) (p c : Int) (h : newE p c ≠ 0) :
    Calls Tryz.prog 5 #[.int .i64 p, .int .i64 c] w fun e w' => NewB w (newE p c) e w' := by
  by_cases hp : p < 1 ∨ 256 < p
  · have e : newE p c = 21 := if_pos hp
    rw [e]
    have HF : Hid (NewB w 21 (.returned (.tuple #[.pointer none, .int .i64 21])) w) := ⟨rfl, Below.refl _ _⟩
    clear h e
    go_enter Tryz.func5, Tryz.ntmps5
    by_cases h1 : p < 1
    · clear hp
      go_wp2
      go_ret2
      exact HF.out
    · have h1b : decide (p < 1) = false := by simpa using h1
      have h2 : 256 < p := by omega
      clear hp
      go_wp2
      go_ret2
      exact HF.out
  · have e0 : newE p c = if c < 1 ∨ 65536 < c then 91 else 0 := if_neg hp
    have hc : c < 1 ∨ 65536 < c := by
      by_cases hc : c < 1 ∨ 65536 < c
      · exact hc
      · rw [e0, if_neg hc] at h; exact absurd rfl h
    rw [e0, if_pos hc]
    have HF : Hid (NewB w 91 (.returned (.tuple #[.pointer none, .int .i64 91])) w) := ⟨rfl, Below.refl _ _⟩
    have p1 : decide (p < 1) = false := by simp; omega
    have p2 : decide (256 < p) = false := by simp; omega
    clear h e0 hp
    go_enter Tryz.func5, Tryz.ntmps5
    by_cases h1 : c < 1
    · have h1b : decide (c < 1) = true := by simpa using h1
      clear hc
      go_wp2
      go_ret2
      exact HF.out
    · have h1b : decide (c < 1) = false := by simpa using h1
      have h2b : decide (65536 < c) = true := by simp; omega
      clear hc
      go_wp2
      go_ret2
      exact HF.out
set_option maxRecDepth 100000 in
set_option maxHeartbeats 1000000 in
theorem rnew_ok (w : World) (base n : Nat) (c : Int) (h1 : 1 ≤ n) (h2 : n ≤ 256) (hc : 1 ≤ c ∧ c ≤ 65536) :
    Calls Tryz.prog 5 #[.int .i64 (n : Int), .int .i64 c] w fun e w' => e = .returned (.tuple #[ptr w.heap.size, .int .i64 0]) ∧ RDs w' base w.heap.size n c 0 (.slice none 0 0) [] ∧ Below w.heap.size w w' := by
  have p1 : decide ((n : Int) < 1) = false := by simp; omega
  have p2 : decide (256 < (n : Int)) = false := by simp; omega
  have q1 : decide (c < 1) = false := by simp; omega
  have q2 : decide (65536 < c) = false := by simp; omega
  have HF : Hid (RDs (w.alloc (.cells #[.int .i64 (n : Int), .int .i64 c, .slice none 0 0, .int .i64 0] 50)) base w.heap.size n c 0 (.slice none 0 0) [] ∧ Below w.heap.size w (w.alloc (.cells #[.int .i64 (n : Int), .int .i64 c, .slice none 0 0, .int .i64 0] 50))) := ⟨⟨heap_alloc_new _ _ rfl, World.ownsRow_nil _ _ _ _⟩, (Below.refl _ _).alloc (Nat.le_refl _) _⟩
  clear h1 h2 hc
  go_enter Tryz.func5, Tryz.ntmps5
  go_wp2
  go_ret2
  exact ⟨rfl, HF.out⟩
set_option maxRecDepth 100000 in
set_option maxHeartbeats 1000000 in
theorem spart_any (n0 : Nat) (F : Nat → Prop) (w : World) (S P : Nat) (cap last : Int) (vs : List Vr) (h : ST n0 F w S P cap last vs) (k1 k2 : Int) (hk : KIn (k1, k2)) :
    Calls Tryz.prog 39 #[ptr S, .agg #[.int .i64 k1, .int .i64 k2]] w fun e w' => e = .returned (.int .i64 (partV (k1, k2) (P : Int))) ∧ Below w.heap.size w w' := by
  have HB1 : Hid (Below w.heap.size w (w.alloc (.cells #[.int .i64 k1, .int .i64 k2] 41))) := (Below.refl _ _).alloc (Nat.le_refl _) _
  have c0 := (h.kept HB1.out).S0
  have HK : Hid (∀ w, Calls Tryz.prog 66 #[.agg #[.int .i64 k1, .int .i64 k2], .int .i64 (P : Int)] w fun e w' => e = .returned (.tuple #[.int .i64 (partV (k1, k2) (P : Int)), .int .i64 (partE (k1, k2) (P : Int))]) ∧ Grew w w') := fun w => partition_any w k1 k2 (P : Int) hk.2
  clear h hk
  generalize partV (k1, k2) (P : Int) = hv at *
  generalize partE (k1, k2) (P : Int) = he at *
  have b0 : (w.alloc (.cells #[.int .i64 k1, .int .i64 k2] 41)).cell? ⟨w.heap.size, 0, none⟩ = some (.int .i64 k1) := by rw [World.cell?, heap_alloc_new _ _ rfl]; rfl
  have b1 : (w.alloc (.cells #[.int .i64 k1, .int .i64 k2] 41)).cell? ⟨w.heap.size, 1, none⟩ = some (.int .i64 k2) := by rw [World.cell?, heap_alloc_new _ _ rfl]; rfl
  go_enter Tryz.func39, Tryz.ntmps39
  go_wp2_with fail
  generalize w.alloc (.cells #[.int .i64 k1, .int .i64 k2] 41) = W1 at *
  have g0 : ∀ m os, (grow (W1.drewN m) os).cell? ⟨S, 0, none⟩ = some (.int .i64 (P : Int)) := fun m os => Grew.cell ⟨m, os, rfl⟩ c0
  have e0 : ∀ m os, (grow (W1.drewN m) os).cell? ⟨w.heap.size, 0, none⟩ = some (.int .i64 k1) := fun m os => Grew.cell ⟨m, os, rfl⟩ b0
  have e1 : ∀ m os, (grow (W1.drewN m) os).cell? ⟨w.heap.size, 1, none⟩ = some (.int .i64 k2) := fun m os => Grew.cell ⟨m, os, rfl⟩ b1
  clear c0 b0 b1
  refine wp_region_quiet_grown mixed (by kernel_rfl) ?_
  repeat (go_big_quiet_step (exact Calls.grown_of (HK.out _)))
  refine wpQuiet_nil ?_
  intro _ hw'
  obtain ⟨⟨nq, osq⟩, hw''⟩ := hw'
  subst hw''
  have HF : Hid (Below w.heap.size w (grow (W1.drewN nq) osq)) := HB1.out.trans ((Grew.below ⟨nq, osq, rfl⟩).mono HB1.out.size)
  go_wp2
  go_ret
  exact ⟨rfl, HF.out⟩
set_option maxRecDepth 100000 in
set_option maxHeartbeats 1000000 in
theorem sbefore_any (n0 : Nat) (F : Nat → Prop) (w : World) (S P : Nat) (cap last : Int) (vs : List Vr) (h : ST n0 F w S P cap last vs) (n : Int) (hn : In64 n) :
    Calls Tryz.prog 22 #[ptr S, .int .i64 n] w fun e w' => e = .returned (.int .i64 (befN vs n)) ∧ Below w.heap.size w w' := by
  cases hf : fv vs n with
  | some v =>
    obtain ⟨hv, rfl⟩ := fv_some hf
    have hm : v ∈ ofK v.k vs := List.mem_filter.2 ⟨hv, by simp⟩
    obtain ⟨A, C, hs⟩ := List.append_of_mem hm
    rw [befN_last h.pl h.nd hv hs]
    exact before_st n0 F w S P cap last vs h v A C hv hs
  | none =>
    have e : befN vs n = 0 := by unfold befN; rw [hf]
    rw [e]
    obtain ⟨V, D, M, L, es, R, h1, h2⟩ := h
    have c3 := h1.cells.2.2.2.1
    have hl := h1.look hn
    rw [hf] at hl
    simp only [pf] at hl
    clear h1 h2 hf e
    go_enter Tryz.func22, Tryz.ntmps22
    go_wp2
    go_ret
    exact ⟨rfl, Below.refl _ _⟩
end Go.Proofs.YtbcmmeajglilbaaGreat
/-
  StorePlays: A PAIR: the program's store and the document's.
-/
namespace Go.Proofs.YtbcmmeajglilbaaGreat
open Go.RowKit Go.Sort

/-- only blocks of X turn -/
structure Tn (X : Nat → Prop) (w w' : World) : Prop where
  os : w'.os = w.os
  tape : w'.tape = w.tape
  output : w'.output = w.output
  size : w.heap.size ≤ w'.heap.size
  block : ∀ k, k < w.heap.size → ¬ X k → w'.heap[k]? = w.heap[k]?
theorem Tn.bel {X : Nat → Prop} {w w' : World} (h : Below w.heap.size w w') : Tn X w w' := ⟨h.os, h.tape, h.output, h.size, fun k hk _ => h.block k hk⟩
theorem Tn.trans {X X' : Nat → Prop} {a b c : World} (h : Tn X a b) (h2 : Tn X' b c) (hX : ∀ k, k < a.heap.size → X' k → X k) : Tn X a c :=
  ⟨h2.os.trans h.os, h2.tape.trans h.tape, h2.output.trans h.output, Nat.le_trans h.size h2.size, fun k hk hn => (h2.block k (Nat.lt_of_lt_of_le hk h.size) (fun hx => hn (hX k hk hx))).trans (h.block k hk hn)⟩
theorem Tn.below {X : Nat → Prop} {w w' : World} {n0 : Nat} (h : Tn X w w') (hn : n0 ≤ w.heap.size) (hX : ∀ k, X k → n0 ≤ k) : Below n0 w w' := ⟨h.os, h.tape, h.output, h.size, fun k hk => h.block k (by omega) (fun hx => by have := hX k hx; omega)⟩
/-- THE PAIR, in the blocks X -/
structure PO (X : Nat → Prop) (w : World) (S R P : Nat) (cap last : Int) (av : Value) (vs : List Vr) : Prop where
  st : ST 0 (fun k => ¬ X k ∨ k = R ∨ av.ownBlock = some k) w S P cap last vs
  rd : RDs w 0 R P cap last av vs
  xR : X R
  xa : ∀ g, av.ownBlock = some g → X g
  ba : BaOK vs
  lt : ∀ k, X k → k < w.heap.size
  l0 : 0 ≤ last
section
variable {X : Nat → Prop} {w w' : World} {S R P : Nat} {cap last : Int} {av : Value} {vs : List Vr}
theorem PO.off (h : PO X w S R P cap last av vs) (hs : ∀ k, k < w.heap.size → X k → w'.heap[k]? = w.heap[k]?) (hz : w.heap.size ≤ w'.heap.size) : PO X w' S R P cap last av vs := by
  refine ⟨ST.off h.st (fun k hk hF => hs k hk (Classical.byContradiction (fun hx => hF (.inl hx)))), h.rd.same (fun k hk => ?_), h.xR, h.xa, h.ba, fun k hk => Nat.lt_of_lt_of_le (h.lt k hk) hz, h.l0⟩
  rcases hk with rfl | hk
  · exact hs _ (h.lt _ h.xR) h.xR
  · exact hs _ (h.lt _ (h.xa _ hk)) (h.xa _ hk)
theorem PO.kept (h : PO X w S R P cap last av vs) (hb : Below w.heap.size w w') : PO X w' S R P cap last av vs := h.off (fun k hk _ => hb.block k hk) hb.size
/-- where only others' blocks turn -/
theorem PO.tn {Y : Nat → Prop} (h : PO X w S R P cap last av vs) (ht : Tn Y w w') (hd : ∀ k, X k → ¬ Y k) : PO X w' S R P cap last av vs := h.off (fun k hk hx => ht.block k hk (hd k hx)) ht.size
theorem PO.len (h : PO X w S R P cap last av vs) : vs.length ≤ 65536 := by have := h.st.lt; omega
theorem PO.pl (h : PO X w S R P cap last av vs) : PLk vs := h.st.pl
/-- what stays while the program's store turns -/
abbrev GX (X : Nat → Prop) (w : World) (R : Nat) (av : Value) (k : Nat) : Prop := k < w.heap.size ∧ (¬ X k ∨ k = R ∨ av.ownBlock = some k)
theorem PO.gx (h : PO X w S R P cap last av vs) : ST 0 (GX X w R av) w S P cap last vs := ST.frame h.st (fun _ hk => .inl hk.2)
theorem PO.step (h : PO X w S R P cap last av vs) {w1 w2 : World} {last' : Int} {av' : Value} {vs' : List Vr} (st1 : ST 0 (GX X w R av) w1 S P cap last' vs') (kp : Kp 0 (GX X w R av) w w1) (rd2 : RDs w2 0 R P cap last' av' vs') (fd : FrD R av w1 w2) (ow : OwnN av av' w1.heap.size) (ba' : BaOK vs') (hl : 0 ≤ last') :
    ∃ X', PO X' w2 S R P cap last' av' vs' ∧ Tn X w w2 ∧ ∀ k, X' k → X k ∨ w.heap.size ≤ k := by
  refine ⟨fun k => (X k ∨ w.heap.size ≤ k) ∧ k < w2.heap.size, ⟨?_, rd2, ⟨.inl h.xR, rd2.lt (.inl rfl)⟩, fun g hg => ⟨?_, rd2.lt (.inr hg)⟩, ba', fun k hk => hk.2, hl⟩, ⟨fd.os.trans kp.os, fd.tape.trans kp.tape, fd.output.trans kp.output, Nat.le_trans kp.size fd.size, fun k hk hx => ?_⟩, fun k hk => hk.1⟩
  · have s1 : ST 0 (fun k => ¬ (X k ∨ w.heap.size ≤ k) ∨ k = R ∨ av.ownBlock = some k ∨ av'.ownBlock = some k) w1 S P cap last' vs' := ST.frame st1 (fun k hk => by
      rcases hk with hk | rfl | hk | hk
      · exact .inl ⟨by omega, .inl (fun hx => hk (.inl hx))⟩
      · exact .inl ⟨h.lt _ h.xR, .inr (.inl rfl)⟩
      · exact .inl ⟨h.rd.lt (.inr hk), .inr (.inr hk)⟩
      · rcases ow k hk with h2 | h2
        · exact .inl ⟨h.rd.lt (.inr h2), .inr (.inr h2)⟩
        · exact .inr h2)
    have s2 := ST.off (w' := w2) s1 (fun k hk hF => fd.block k hk (fun e => hF (.inr (.inl e))) (fun e => hF (.inr (.inr (.inl e)))))
    refine ST.frame s2 (fun k hk => ?_)
    rcases hk with hk | rfl | hk
    · by_cases hz : k < w2.heap.size
      · exact .inl (.inl (fun hx => hk ⟨hx, hz⟩))
      · exact .inr (by omega)
    · exact .inl (.inr (.inl rfl))
    · exact .inl (.inr (.inr (.inr hk)))
  · rcases ow g hg with h2 | h2
    · exact .inl (h.xa g h2)
    · exact .inr (Nat.le_trans kp.size h2)
  · have hG : GX X w R av k := ⟨hk, .inl hx⟩
    refine (fd.block k (Nat.lt_of_lt_of_le hk kp.size) (fun e => hx (e ▸ h.xR)) (fun e => hx (h.xa k e))).trans (kp.block k hk (.inr hG))
theorem PO.rd1 (h : PO X w S R P cap last av vs) {w1 : World} (kp : Kp 0 (GX X w R av) w w1) : RDs w1 0 R P cap last av vs := h.rd.same (fun k hk => kp.block k (h.rd.lt hk) (.inr ⟨h.rd.lt hk, by
  rcases hk with rfl | hk
  · exact .inr (.inl rfl)
  · exact .inr (.inr hk)⟩))
/-- another block stays while the program's store turns -/
theorem PO.oth (_ : PO X w S R P cap last av vs) {w1 : World} (kp : Kp 0 (GX X w R av) w w1) {k : Nat} (hk : k < w.heap.size) (hx : ¬ X k) : w1.heap[k]? = w.heap[k]? := kp.block k hk (.inr ⟨hk, .inl hx⟩)
end
/-- a call of a script -/
structure Oq where
  kd : Int
  k1 : Int
  k2 : Int
  ba : Int
  ix : Int
  v : Int
  n : Int
  ci : Bool
  cv : Int
  two : Bool
def oqC (o : Oq) : Array Value := #[.int .i64 o.kd, .int .i64 o.k1, .int .i64 o.k2, .int .i64 o.ba, .int .i64 o.ix, .int .i64 o.v, .int .i64 o.n, .bool o.ci, .int .i64 o.cv, .bool o.two]
def OqIn (o : Oq) : Prop := KIn (o.k1, o.k2) ∧ In64 o.ba ∧ In64 o.ix ∧ In64 o.v ∧ In64 o.cv
/-- what a call on a pair leaves -/
def PoN (X : Nat → Prop) (w : World) (S R P : Nat) (cap last : Int) (e : Ending) (w' : World) : Prop :=
  e = .returned (.bool true) ∧ ∃ X' last' av' vs', PO X' w' S R P cap last' av' vs' ∧ Tn X w w' ∧ (∀ k, X' k → X k ∨ w.heap.size ≤ k) ∧ last' ≤ last + 1
theorem ba_fil {vs : List Vr} (h : BaOK vs) (n : Int) (ci : Bool) (cv : Int) : BaOK (filL vs n ci cv) := by
  unfold filL
  split
  · intro v hv
    obtain ⟨u, hu, rfl⟩ := List.mem_map.1 hv
    have := h u hu
    unfold updF fillV
    split <;> simpa using this
  · exact h
set_option maxRecDepth 100000 in
set_option maxHeartbeats 4000000 in
theorem changed_any (X : Nat → Prop) (w : World) (S R P : Nat) (cap last : Int) (av : Value) (vs : List Vr) (h : PO X w S R P cap last av vs) (hl : last + 1 ≤ 1000000000000000) (o : Oq) (ho : OqIn o) :
    Calls Tryz.prog 6 #[ptr S, ptr R, .agg (oqC o)] w fun e w' => PoN X w S R P cap last e w' := by
  obtain ⟨kd, k1, k2, ba, ix, v, n, ci, cv, two⟩ := o
  obtain ⟨hk, hba, hix, hv, hcv⟩ := ho
  simp only at hk hba hix hv hcv
  simp only [oqC]
  obtain ⟨W1, hW1⟩ : ∃ W1, W1 = w.alloc (.cells #[.int .i64 kd, .int .i64 k1, .int .i64 k2, .int .i64 ba, .int .i64 ix, .int .i64 v, .int .i64 n, .bool ci, .int .i64 cv, .bool two] 45) := ⟨_, rfl⟩
  obtain ⟨B5, hB5⟩ : ∃ g, g = w.heap.size := ⟨_, rfl⟩
  have hb1 : Below w.heap.size w W1 := by rw [hW1]; exact (Below.refl _ _).alloc (Nat.le_refl _) _
  have b5 : W1.heap[B5]? = some (.cells #[.int .i64 kd, .int .i64 k1, .int .i64 k2, .int .i64 ba, .int .i64 ix, .int .i64 v, .int .i64 n, .bool ci, .int .i64 cv, .bool two] 45 (0, 0)) := by rw [hW1, hB5]; exact heap_alloc_new _ _ rfl
  have HP1 := hidS (h.kept hb1)
  have HX5 : Hid (¬ X B5) := fun hx => by have := h.lt _ hx; omega
  have HBx : Hid (∀ W : World, W.heap[B5]? = W1.heap[B5]? → W.cell? ⟨B5, 0, none⟩ = some (.int .i64 kd) ∧ W.cell? ⟨B5, 1, none⟩ = some (.int .i64 k1) ∧ W.cell? ⟨B5, 2, none⟩ = some (.int .i64 k2) ∧ W.cell? ⟨B5, 3, none⟩ = some (.int .i64 ba) ∧ W.cell? ⟨B5, 4, none⟩ = some (.int .i64 ix) ∧ W.cell? ⟨B5, 5, none⟩ = some (.int .i64 v) ∧ W.cell? ⟨B5, 7, none⟩ = some (.bool ci) ∧ W.cell? ⟨B5, 8, none⟩ = some (.int .i64 cv)) := fun W hW => by
    rw [b5] at hW
    refine ⟨?_, ?_, ?_, ?_, ?_, ?_, ?_, ?_⟩ <;> simp [World.cell?, hW]
  have HB5 := hidS (blk_lt b5)
  have HB1 := hidS hb1
  have HSz : Hid (∀ {X' : Nat → Prop} {w2 : World}, Tn X W1 w2 → (∀ k, X' k → X k ∨ W1.heap.size ≤ k) → Tn X w w2 ∧ ∀ k, X' k → X k ∨ w.heap.size ≤ k) := fun ht hx => ⟨(Tn.bel hb1).trans ht (fun k _ hk => hk), fun k hk => (hx k hk).imp id (fun h2 => Nat.le_trans hb1.size h2)⟩
  obtain ⟨z0, z1, z2, z3, z4, z5, z7, z8⟩ := HBx.out W1 rfl
  have HL := hidS hl
  have HFin : Hid (∀ (w2 w3 : World) (last' : Int) (av' : Value) (vs' : List Vr), ST 0 (GX X W1 R av) w2 S P cap last' vs' → Kp 0 (GX X W1 R av) W1 w2 → RDs w3 0 R P cap last' av' vs' → FrD R av w2 w3 → OwnN av av' w2.heap.size → BaOK vs' → 0 ≤ last' → last' ≤ last + 1 → PoN X w S R P cap last (.returned (.bool true)) w3) := fun w2 w3 last' av' vs' s1 s2 s3 s4 s5 s6 s7 s8 => by
    obtain ⟨X', t1, t2, t3⟩ := HP1.out.step s1 s2 s3 s4 s5 s6 s7
    obtain ⟨t4, t5⟩ := HSz.out t2 t3
    exact ⟨rfl, X', last', av', vs', t1, t4, t5, s8⟩
  have HNo : Hid (PoN X w S R P cap last (.returned (.bool true)) W1) := ⟨rfl, X, last, av, vs, HP1.out, Tn.bel HB1.out, fun k hk => .inl hk, by omega⟩
  clear b5 hb1 h hl HSz HB1
  by_cases e1 : kd = 1
  · subst e1
    have HI := hidS (insert_st 0 _ W1 S P cap last vs HP1.out.gx (fun k hk => hk.1) (Nat.zero_le _) (k1, k2) ba ix hk hba hix ⟨HP1.out.l0, HL.out⟩)
    clear hk hba hix hv hcv HNo
    go_enter Tryz.func6, Tryz.ntmps6
    go_wp2_with fail
    rw [← hW1, ← hB5]
    clear hW1 hB5
    refine HI.out.mono ?_
    rintro e w2 ⟨hkp, hc⟩
    have HKp := hidS hkp
    obtain ⟨_, y1, y2, y3, y4, _, _, _⟩ := HBx.out w2 (HP1.out.oth hkp HB5.out HX5.out)
    have hlen := HP1.out.st.lt
    rcases hc with ⟨q1, rfl, q2⟩ | ⟨q1, rfl, b, q2⟩
    · have HD := hidS (rinsert_any w2 0 R P cap last av vs (HP1.out.rd1 hkp) (Nat.zero_le _) hlen.2.2.2 hlen.2.2.1 ⟨HP1.out.l0, HL.out⟩ HP1.out.pl HP1.out.ba k1 k2 ba ix (xV 0 last (k1, k2) ba ix) ⟨rfl, rfl, rfl, rfl, rfl, rfl, rfl⟩)
      have HS2 := hidS q2
      have HE := hidS q1
      clear q1 q2 hkp hlen HI z0 z1 z2 z3 z4 z5 z7 z8
      go_wp2_with fail
      refine HD.out.mono ?_
      rintro e w3 (⟨_, rfl, hb3⟩ | ⟨r1, _⟩)
      · have HF := hidS (HFin.out w2 w3 last av vs HS2.out HKp.out ((HP1.out.rd1 HKp.out).kept hb3) (FrD.bel hb3) (fun _ h => .inl h) HP1.out.ba HP1.out.l0 (by omega))
        generalize insE cap vs (xV 0 last (k1, k2) ba ix) = er at *
        clear hb3 HD HS2 HFin
        go_wp2
        go_ret
        exact HF.out
      · exact absurd r1 HE.out
    · have HD := hidS (rinsert_any w2 0 R P cap last av vs (HP1.out.rd1 hkp) (Nat.zero_le _) hlen.2.2.2 hlen.2.2.1 ⟨HP1.out.l0, HL.out⟩ HP1.out.pl HP1.out.ba k1 k2 ba ix (xV b last (k1, k2) ba ix) ⟨rfl, rfl, rfl, rfl, rfl, rfl, rfl⟩)
      have HS2 := hidS q2
      have HE := hidS q1
      clear q1 q2 hkp hlen HI z0 z1 z2 z3 z4 z5 z7 z8
      go_wp2_with fail
      refine HD.out.mono ?_
      rintro e w3 (⟨r1, _⟩ | ⟨_, rfl, av', r2, r3, r4⟩)
      · exact absurd HE.out r1
      · have HF := hidS (HFin.out w2 w3 (last + 1) av' _ HS2.out HKp.out r2 r3 r4 (fun x hx => by
          rcases List.mem_append.1 hx with hx | hx
          · exact HP1.out.ba x hx
          · simp only [List.mem_singleton] at hx
            rw [hx]
            exact (insE_ok HE.out).2.2.1) (by have := HP1.out.l0; omega) (by omega))
        clear r2 r3 r4 HD HS2 HFin
        go_wp2
        go_ret
        exact HF.out
  have e1b : (kd == 1) = false := by simpa using e1
  by_cases e2 : kd = 2
  · subst e2
    have HI := hidS (fill_st 0 _ W1 S P cap last vs HP1.out.gx v ci cv hv hcv)
    clear hk hba hix hv hcv HNo e1
    go_enter Tryz.func6, Tryz.ntmps6
    go_wp2_with fail
    rw [← hW1, ← hB5]
    clear hW1 hB5
    refine HI.out.mono ?_
    rintro e w2 ⟨rfl, hkp, q2⟩
    have HKp := hidS hkp
    obtain ⟨_, _, _, _, _, y5, y7, y8⟩ := HBx.out w2 (HP1.out.oth hkp HB5.out HX5.out)
    have HD := hidS (rfill_any w2 0 R P cap last av vs (HP1.out.rd1 hkp) HP1.out.len HP1.out.st.nd v ci cv)
    have HS2 := hidS q2
    clear q2 hkp HI z0 z1 z2 z3 z4 z5 z7 z8
    go_wp2_with fail
    refine HD.out.mono ?_
    rintro e w3 ⟨rfl, r2, r3⟩
    have HF := hidS (HFin.out w2 w3 last av _ HS2.out HKp.out r2 r3 (fun _ h => .inl h) (ba_fil HP1.out.ba v ci cv) HP1.out.l0 (by omega))
    generalize filE (fv vs v) = er at *
    clear r2 r3 HD HS2 HFin
    go_wp2
    go_ret
    exact HF.out
  have e2b : (kd == 2) = false := by simpa using e2
  by_cases e3 : kd = 3
  · subst e3
    have HI := hidS (remove_st 0 _ W1 S P cap last vs HP1.out.gx v hv)
    clear hk hba hix hv hcv HNo e1 e2
    go_enter Tryz.func6, Tryz.ntmps6
    go_wp2_with fail
    rw [← hW1, ← hB5]
    clear hW1 hB5
    refine HI.out.mono ?_
    rintro e w2 ⟨hkp, hc⟩
    have HKp := hidS hkp
    obtain ⟨_, _, _, _, _, y5, _, _⟩ := HBx.out w2 (HP1.out.oth hkp HB5.out HX5.out)
    have HD := hidS (rremove_any w2 0 R P cap last av vs (HP1.out.rd1 hkp) (Nat.zero_le _) HP1.out.len HP1.out.st.nd v)
    clear hkp HI z0 z1 z2 z3 z4 z5 z7 z8
    rcases hc with ⟨q1, rfl, q2⟩ | ⟨A, u, C, q0, q1, rfl, q2⟩
    · have HS2 := hidS q2
      have HE := hidS q1
      clear q1 q2
      go_wp2_with fail
      refine HD.out.mono ?_
      rintro e w3 (⟨_, rfl, rfl⟩ | ⟨A', u', C', r0, r1, _⟩)
      · have HF := hidS (HFin.out w3 w3 last av vs HS2.out HKp.out (HP1.out.rd1 HKp.out) (FrD.bel (Below.refl _ _)) (fun _ h => .inl h) HP1.out.ba HP1.out.l0 (by omega))
        clear HD HS2 HFin
        go_wp2
        go_ret
        exact HF.out
      · exfalso
        have h1 := fv_of HP1.out.st.nd (e := u') (by rw [r0]; simp)
        rw [r1, HE.out] at h1
        cases h1
    · have HS2 := hidS q2
      have HE : Hid (vs = A ++ u :: C ∧ u.n = v) := ⟨q0, q1⟩
      clear q0 q1 q2
      go_wp2_with fail
      refine HD.out.mono ?_
      rintro e w3 (⟨r1, _⟩ | ⟨A', u', C', r0, r1, rfl, av', r2, r3, r4⟩)
      · exfalso
        have h1 := fv_of HP1.out.st.nd (e := u) (by rw [HE.out.1]; simp)
        rw [HE.out.2, r1] at h1
        cases h1
      · have hu : u' = u := by
          have h1 := fv_of HP1.out.st.nd (e := u) (by rw [HE.out.1]; simp)
          have h2 := fv_of HP1.out.st.nd (e := u') (by rw [r0]; simp)
          rw [HE.out.2] at h1
          rw [r1, h1] at h2
          exact (Option.some.inj h2).symm
        have hAC : A' ++ C' = A ++ C := by
          have hnd := HP1.out.st.nd
          rw [HE.out.1] at hnd
          rw [hu] at r0
          obtain ⟨h1, h2⟩ := split_uniqV hnd (HE.out.1.symm.trans r0)
          rw [h1, h2]
        rw [hAC] at r2
        have HF := hidS (HFin.out w2 w3 last av' _ HS2.out HKp.out r2 r3 r4 (fun x hx => HP1.out.ba x (by rw [HE.out.1]; simp at hx ⊢; rcases hx with hx | hx <;> simp [hx])) HP1.out.l0 (by omega))
        clear r0 r1 r2 r3 r4 hu hAC HD HS2 HFin
        go_wp2
        go_ret
        exact HF.out
  have e3b : (kd == 3) = false := by simpa using e3
  clear hk hba hix hv hcv e1 e2 e3 HFin
  go_enter Tryz.func6, Tryz.ntmps6
  go_wp2_with fail
  rw [← hW1, ← hB5]
  clear hW1 hB5
  go_ret
  exact HNo.out
end Go.Proofs.YtbcmmeajglilbaaGreat
/-
  Chain.
-/
namespace Go.Proofs.YtbcmmeajglilbaaGreat
open Go.RowKit Go.Sort

set_option maxRecDepth 100000 in
set_option maxHeartbeats 1000000 in
theorem chainS_any (w : World) (S V D M L P : Nat) (hf : Value) (cap last : Int) (vs : List Vr) (es : List En) (R : K → Nat × Nat × Nat) (k1 k2 : Int) (h : SA w S V D M L P hf cap last vs es R) (hk : KIn (k1, k2)) :
    Calls Tryz.prog 28 #[ptr S, .agg #[.int .i64 k1, .int .i64 k2]] w fun e w' => ∃ v, e = .returned v ∧ w'.ownsRow w.heap.size TV 5 v (ofK (k1, k2) vs).length (ctv (ofK (k1, k2) vs).reverse) ∧ Below w.heap.size w w' := by
  obtain ⟨W, hW⟩ : ∃ W, W = w.alloc (.cells #[.int .i64 k1, .int .i64 k2] 41) := ⟨_, rfl⟩
  have HB : Hid (Below w.heap.size w W) := by
    show Below _ _ _
    rw [hW]
    exact (Below.refl _ _).alloc (Nat.le_refl _) _
  have hx : W.heap[w.heap.size]? = some (.cells #[.int .i64 k1, .int .i64 k2] 41 (0, 0)) := by rw [hW]; exact heap_alloc_new _ _ rfl
  have HS : Hid (SA W S V D M L P hf cap last vs es R) := h.kept HB.out
  have HKn : Hid (∀ U, Below W.heap.size W U → U.cell? ⟨S, 4, none⟩ = some (ptr D) ∧ U.cell? ⟨w.heap.size, 0, none⟩ = some (.int .i64 k1) ∧ U.cell? ⟨w.heap.size, 1, none⟩ = some (.int .i64 k2)) := fun U hU => by
    have q := (hU.block _ (blk_lt hx)).trans hx
    refine ⟨(HS.out.kept hU).cells.2.2.2.2, ?_, ?_⟩ <;> simp [World.cell?, q]
  have HG : Hid (Calls Tryz.prog 59 #[ptr D, .agg #[.int .i64 k1, .int .i64 k2]] W.drew fun e w' => e = .returned (.tuple #[vv (fd es (k1, k2)), .bool (fd es (k1, k2)).isSome]) ∧ Below W.heap.size W w') := by
    have hd : Below W.heap.size W W.drew := ⟨rfl, rfl, rfl, Nat.le_refl _, fun _ _ => rfl⟩
    exact (get_any W.drew D M L P hf es (k1, k2) (HS.out.da.kept hd) hk).mono fun e w' ⟨h1, h2⟩ => ⟨h1, hd.trans h2⟩
  obtain ⟨c4, b0, b1⟩ := HKn.out W (Below.refl _ _)
  clear h hx
  go_enter Tryz.func28, Tryz.ntmps28
  go_wp2_with fail
  rw [← hW]
  clear hW
  go_region_held3 (fun w' => w'.cell? ⟨S, 4, none⟩ = some (ptr D) ∧ w'.cell? ⟨w.heap.size, 0, none⟩ = some (.int .i64 k1) ∧ w'.cell? ⟨w.heap.size, 1, none⟩ = some (.int .i64 k2)) (first | exact HKn.out _ HB3.out | go_keep) (first | (go_at_call 59; refine HG.out.mono ?_; rintro e w3 ⟨rfl, hb3⟩; have HB3 : Hid (Below W.heap.size W w3) := hb3; clear hb3))
  clear c4 b0 b1 HG HKn
  have HBw : Hid (Below w.heap.size w w3) := HB.out.trans (HB3.out.mono HB.out.size)
  cases hfd : fd es (k1, k2) with
  | none =>
    have hof := HS.out.none_of hfd
    have HE := hidC hof
    simp only [vv, Option.isSome]
    clear hfd hof
    go_wp2
    go_ret
    exact ⟨_, rfl, by rw [HE.out]; exact World.ownsRow_nil _ _ _ _, HBw.out⟩
  | some e0 =>
    obtain ⟨he0, hk0⟩ := fd_some hfd
    have hl := (HS.out.kept HB3.out).line he0
    rw [hk0] at hl
    have HNw := toldC_any w3 e0.v (R (k1, k2)).1 (R (k1, k2)).2.1 (R (k1, k2)).2.2 (ofK (k1, k2) vs) hl
    simp only [vv, Option.isSome]
    clear hfd he0 hk0 hl
    go_wp2_with fail
    refine HNw.mono ?_
    clear HNw
    rintro e w4 ⟨v4, rfl, ho4, hb4⟩
    have HB4 : Hid (Below w.heap.size w w4) := HBw.out.trans (hb4.mono HBw.out.size)
    have HO4 : Hid (w4.ownsRow w.heap.size TV 5 v4 (ofK (k1, k2) vs).length (ctv (ofK (k1, k2) vs).reverse)) := ownsRow_mono ho4 HBw.out.size
    clear HB3 HS hb4 ho4
    go_wp2
    go_ret
    exact ⟨_, rfl, HO4.out, HB4.out⟩
theorem chain_st (n0 : Nat) (F : Nat → Prop) (w : World) (S P : Nat) (cap last : Int) (vs : List Vr) (h : ST n0 F w S P cap last vs) (k1 k2 : Int) (hk : KIn (k1, k2)) :
    Calls Tryz.prog 28 #[ptr S, .agg #[.int .i64 k1, .int .i64 k2]] w fun e w' => ∃ v, e = .returned v ∧ w'.ownsRow w.heap.size TV 5 v (ofK (k1, k2) vs).length (ctv (ofK (k1, k2) vs).reverse) ∧ Below w.heap.size w w' := by
  obtain ⟨V, D, M, L, es, R, h1, h2⟩ := h
  exact chainS_any w S V D M L P _ cap last vs es R k1 k2 h1 hk
end Go.Proofs.YtbcmmeajglilbaaGreat
/-
  '!=' of api.Version at like ones.
-/
namespace Go.Proofs.YtbcmmeajglilbaaGreat
open Go.RowKit Go.Sort

theorem run_neVer (a b : Int) (f ci : Bool) (cv : Int) (w : World) : Sem.run Tryz.prog (binOp .neq 71 (.agg #[.int .i64 a, .int .i64 b, .bool f, .bool ci, .int .i64 cv]) (.agg #[.int .i64 a, .int .i64 b, .bool f, .bool ci, .int .i64 cv])) w = .ok (.bool false) w := by
  have u3 := Tryz.underlying4
  have a3 := Tryz.isAgg4
  have z3 := Tryz.sizeOf4
  have u2 := Tryz.underlying2
  have a2 := Tryz.isAgg2
  have z2 := Tryz.sizeOf2
  have u1 := Tryz.underlying3
  have a1 := Tryz.isAgg3
  have z1 := Tryz.sizeOf3
  have u4 := Tryz.underlying43
  have a4 := Tryz.isAgg43
  have z4 := Tryz.sizeOf43
  have hS : Tryz.prog.underlying 71 = some (.struct (Tryz.prog.fieldsOf 71)) := by kernel_rfl
  have hp : Tryz.prog.stoodInHeld 71 = false := by kernel_rfl
  have hS' : Tryz.prog.underlying 43 = some (.struct (Tryz.prog.fieldsOf 43)) := by kernel_rfl
  have hp' : Tryz.prog.stoodInHeld 43 = false := by kernel_rfl
  rw [run_neq_struct, show (10000 : Nat) = 9999 + 1 from rfl, run_equalIn_agg w 9999 71 _ _ hS hp]
  simp only [Program.fieldsOf, Tryz.underlying71]
  have hc : Sem.run Tryz.prog (Op.equalIn 9999 43 (.agg #[.bool ci, .int .i64 cv]) (.agg #[.bool ci, .int .i64 cv])) w = .ok true w := by
    rw [show (9999 : Nat) = 9998 + 1 from rfl, run_equalIn_agg w 9998 43 _ _ hS' hp']
    simp only [Program.fieldsOf, Tryz.underlying43]
    go_simp
  go_simp
theorem guardV : GuardAt Tryz.prog 71 (fun x : Int × Int × Bool × Bool × Int => .agg #[.int .i64 x.1, .int .i64 x.2.1, .bool x.2.2.1, .bool x.2.2.2.1, .int .i64 x.2.2.2.2]) := GuardAt.agg _ (by kernel_rfl)
theorem run_guardV (op : BinOp) (a b : Operand) (p q : Int) (f ci : Bool) (cv : Int) (w : World) : Sem.run Tryz.prog (eqGuard op 71 a b (.agg #[.int .i64 p, .int .i64 q, .bool f, .bool ci, .int .i64 cv]) (.agg #[.int .i64 p, .int .i64 q, .bool f, .bool ci, .int .i64 cv])) w = .ok () w := guardV op a b (p, q, f, ci, cv) (p, q, f, ci, cv) w
end Go.Proofs.YtbcmmeajglilbaaGreat
