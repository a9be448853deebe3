import Derived.Test.YtbcmmeajglilbaaGreatKSpIns
import Derived.Test.YtbcmmeajglilbaaGreatKCPut1
import Derived.RangeFuncNested
import Derived.RangeFuncBound
import Derived.RangeFuncCalls
import Derived.RangeFuncLeaves
import Derived.RangeFuncBox
import Derived.Shelf.Abstract
import Derived.Shelf.RegionOpen
import Derived.WalkKit
import Derived.OwnWalkIn
import Derived.TacticsInMore
import Derived.LoopNIn
import Derived.LoopIn
/-
  StorePlays: THE DOCUMENT'S Fill.
-/
namespace Go.Proofs.YtbcmmeajglilbaaGreat
open Go.RowKit Go.Sort

theorem ents_mid (A C : List Vr) (v : Vr) : ents (A ++ v :: C) = ents A ++ (entC v ++ ents C) := by rw [ents_app, ents_cons]
/-- one cell of one version is written over -/
theorem mid_set {A C : List Vr} {xs : List Value} (hx : xs.length = 8) (j : Nat) (hj : j < 8) (u : Value) : (ents A ++ (xs ++ ents C)).set (A.length * 8 + j) u = ents A ++ (xs.set j u ++ ents C) := by
  rw [List.set_append_right _ _ (by rw [ents_len]; omega), List.set_append_left _ _ (by rw [ents_len, hx]; omega), ents_len]
  congr 3
  omega
theorem at_mid (base R P : Nat) (cap last : Int) (av : Value) (A C : List Vr) (v : Vr) (hl : (A ++ v :: C).length ≤ 65536) (hn : ((A ++ v :: C).map Vr.n).Nodup) (W : World) (hW : RDs W base R P cap last av (A ++ v :: C)) :
    Calls Tryz.prog 52 #[ptr R, .int .i64 v.n] W fun e w' => e = .returned (.int .i64 (A.length : Int)) ∧ w' = W := by
  refine (rat_any W base R P cap last av _ hW hl hn v.n).mono ?_
  rintro e w' ⟨⟨x, hx, rfl⟩, rfl⟩
  have hm : v ∈ A ++ v :: C := by simp
  rcases hx with ⟨rfl, h2⟩ | ⟨j, hj, rfl, h2, _⟩
  · rw [fv_of hn hm] at h2; cases h2
  · refine ⟨?_, rfl⟩
    have hA : A.length < (A ++ v :: C).length := by simp
    have : j = A.length := by
      rw [getElem!_pos _ j hj] at h2
      exact (List.getElem_inj (i := j) (j := A.length) (h₀ := by simpa using hj) (h₁ := by simp) hn).1 (by rw [List.getElem_map, List.getElem_map, h2]; simp)
    rw [this]
theorem updF_mid {A C : List Vr} {v : Vr} (hn : ((A ++ v :: C).map Vr.n).Nodup) (ci : Bool) (cv : Int) : (A ++ v :: C).map (updF v.n ci cv) = A ++ fillV v ci cv :: C := by
  have h1 : ∀ x ∈ A, x.n ≠ v.n := fun x hx e => by
    rw [List.map_append, List.map_cons, List.nodup_append] at hn
    exact hn.2.2 x.n (List.mem_map_of_mem hx) v.n (by simp) e
  have h2 : ∀ x ∈ C, x.n ≠ v.n := fun x hx e => by
    rw [List.map_append, List.map_cons, List.nodup_append, List.nodup_cons] at hn
    exact hn.2.1.1 (e ▸ List.mem_map_of_mem hx)
  have e1 : A.map (updF v.n ci cv) = A := by
    conv => rhs; rw [← List.map_id A]
    exact List.map_congr_left (fun x hx => by simp [updF, h1 x hx])
  have e2 : C.map (updF v.n ci cv) = C := by
    conv => rhs; rw [← List.map_id C]
    exact List.map_congr_left (fun x hx => by simp [updF, h2 x hx])
  rw [List.map_append, List.map_cons, e1, e2]
  simp [updF]
section
variable {w W : World} {base R P : Nat} {cap last : Int} {av : Value}
/-- the row is written over -/
theorem RDs.put {vs vs' : List Vr} {g c : Nat} (h : RDs w base R P cap last (.slice (some ⟨g, 0, none⟩) vs.length c) vs) (hg : w.grownBy W (some g)) (hr : W.ownsRow base 112 8 (.slice (some ⟨g, 0, none⟩) vs.length c) vs.length (ents vs')) (hl : vs'.length = vs.length) : RDs W base R P cap last (.slice (some ⟨g, 0, none⟩) vs.length c) vs' ∧ FrD R (.slice (some ⟨g, 0, none⟩) vs.length c) w W := by
  have hR := h.lt (.inl rfl)
  have hne : ∀ k, k = R → some k ≠ some g := fun k e e2 => h.off (by subst e; cases e2; rfl)
  refine ⟨⟨(hg.block R hR (fun e => hne R rfl e)).trans h.bx, by rw [hl]; exact hr⟩, ⟨hg.os, hg.tape, hg.output, hg.size, fun k hk _ h2 => hg.block k hk (fun e => h2 (by rw [e]; rfl))⟩⟩
end
def RFil (w : World) (base R P : Nat) (cap last : Int) (av : Value) (vs : List Vr) (n : Int) (ci : Bool) (cv : Int) (e : Ending) (w' : World) : Prop :=
  e = .returned (.int .i64 (filE (fv vs n))) ∧ RDs w' base R P cap last av (filL vs n ci cv) ∧ FrD R av w w'
set_option maxRecDepth 100000 in
set_option maxHeartbeats 4000000 in
theorem rfill_any (w : World) (base R P : Nat) (cap last : Int) (av : Value) (vs : List Vr) (h : RDs w base R P cap last av vs) (hl : vs.length ≤ 65536) (hn : (vs.map Vr.n).Nodup) (n : Int) (ci : Bool) (cv : Int) :
    Calls Tryz.prog 15 #[ptr R, .int .i64 n, .agg #[.bool ci, .int .i64 cv]] w fun e w' => RFil w base R P cap last av vs n ci cv e w' := by
  obtain ⟨W1, hW1⟩ : ∃ W1, W1 = w.alloc (.cells #[.bool ci, .int .i64 cv] 43) := ⟨_, rfl⟩
  obtain ⟨B5, hB5⟩ : ∃ g, g = w.heap.size := ⟨_, rfl⟩
  have HB1 : Hid (Below w.heap.size w W1) := by rw [hW1]; exact (Below.refl _ _).alloc (Nat.le_refl _) _
  have b5 : W1.heap[B5]? = some (.cells #[.bool ci, .int .i64 cv] 43 (0, 0)) := by rw [hW1, hB5]; exact heap_alloc_new _ _ rfl
  have z0 : W1.cell? ⟨B5, 0, none⟩ = some (.bool ci) := by simp [World.cell?, b5]
  have HR1 := hidS (h.kept HB1.out)
  cases hf : fv vs n with
  | none =>
    have HA := hidS (at_none W1 base R P cap last av vs HR1.out hl hn n hf)
    have HF : Hid (RFil w base R P cap last av vs n ci cv (.returned (.int .i64 93)) W1) := ⟨by rw [hf]; rfl, by unfold filL; rw [hf, if_neg (by decide)]; exact HR1.out, FrD.bel HB1.out⟩
    clear h hl hn hf b5
    go_enter Tryz.func15, Tryz.ntmps15
    go_wp2_with fail
    rw [← hW1]
    refine HA.out.mono ?_
    rintro e w2 ⟨rfl, hw2⟩
    subst hw2
    clear hW1
    go_wp2
    go_ret
    exact HF.out
  | some v =>
    obtain ⟨_, rfl⟩ := fv_some hf
    obtain ⟨A, C, rfl⟩ := fv_split hf
    have HA := hidS (at_mid base R P cap last av A C v hl hn W1 HR1.out)
    have hi : A.length < (A ++ v :: C).length := by simp
    obtain ⟨g, c, rfl, _, _, _, _, _, c5, c6, c7⟩ := HR1.out.ent hi
    have hvi : (A ++ v :: C)[A.length]! = v := by rw [getElem!_pos (A ++ v :: C) A.length hi]; simp
    rw [hvi] at c5 c6 c7
    have r2 := HR1.out.cells.2.2.1
    have f5 := World.ownsRow.frozenAt HR1.out.row (A.length * 8 + 5)
    cases hfl : v.fl with
    | true =>
      rw [hfl] at c5
      have HF : Hid (RFil w base R P cap last (.slice (some ⟨g, 0, none⟩) (A ++ v :: C).length c) (A ++ v :: C) v.n ci cv (.returned (.int .i64 95)) W1) := ⟨by rw [hf]; simp [filE, hfl], by unfold filL; rw [hf]; simp only [filE, hfl, if_true]; rw [if_neg (by decide)]; exact HR1.out, FrD.bel HB1.out⟩
      obtain ⟨an, han⟩ : ∃ an, an = (A ++ v :: C).length := ⟨_, rfl⟩
      rw [← han] at r2 hi
      obtain ⟨i, hia⟩ : ∃ i, i = A.length := ⟨_, rfl⟩
      rw [← hia] at hi c5 HA
      have hib : decide ((i : Int) < 0) = false := by simp
      clear h hl hn hf b5 hfl han hia c6 c7 f5 hvi HR1
      go_enter Tryz.func15, Tryz.ntmps15
      go_wp2_with fail
      rw [← hW1]
      refine HA.out.mono ?_
      rintro e w2 ⟨rfl, hw2⟩
      subst hw2
      clear hW1
      go_wp2
      go_ret
      exact HF.out
    | false =>
      rw [hfl] at c5
      have HE : Hid (filE (fv (A ++ v :: C) v.n) = 0) := by show _ = _; rw [hf]; simp [filE, hfl]
      have HLn : Hid (filL (A ++ v :: C) v.n ci cv = A ++ fillV v ci cv :: C) := by show _ = _; unfold filL; rw [if_pos HE.out]; exact updF_mid hn ci cv
      have hrow := HR1.out.row
      obtain ⟨s1, t1⟩ := World.ownsRow.stored hrow (A.length * 8 + 5) (.bool true)
      rw [ents_mid, mid_set rfl 5 (by omega)] at s1
      obtain ⟨W2, hW2⟩ : ∃ W2, W2 = W1.setCell ⟨g, A.length * 8 + 5, none⟩ (.bool true) := ⟨_, rfl⟩
      rw [← hW2] at s1 t1
      have s1' : W2.ownsRow base 112 8 (.slice (some ⟨g, 0, none⟩) (A ++ v :: C).length c) (A ++ v :: C).length (ents (A ++ { v with fl := true } :: C)) := by rw [ents_mid]; exact s1
      obtain ⟨k2, k3⟩ := HR1.out.put t1 s1' (by simp)
      have hB5g : B5 ≠ g := fun e => by
        have h1 := HR1.out.lt (k := g) (.inr rfl)
        have h2 := h.lt (k := g) (.inr rfl)
        omega
      have HB2 : Hid (W2.heap[B5]? = some (.cells #[.bool ci, .int .i64 cv] 43 (0, 0))) := (t1.block B5 (blk_lt b5) (fun e => hB5g (by simpa using e))).trans b5
      have y0 : W2.cell? ⟨B5, 0, none⟩ = some (.bool ci) := by simp [World.cell?, HB2.out]
      have y1 : W2.cell? ⟨B5, 1, none⟩ = some (.int .i64 cv) := by simp [World.cell?, HB2.out]
      have hl2 : (A ++ { v with fl := true } :: C).length = (A ++ v :: C).length := by simp
      have hi2 : A.length < (A ++ { v with fl := true } :: C).length := by simp
      obtain ⟨g', c', e9, _, _, _, _, _, _, d6, d7⟩ := k2.ent hi2
      have hvi2 : (A ++ { v with fl := true } :: C)[A.length]! = { v with fl := true } := by rw [getElem!_pos (A ++ { v with fl := true } :: C) A.length hi2]; simp
      rw [hvi2] at d6 d7
      rw [hl2] at e9
      simp only [Value.slice.injEq, Option.some.injEq, Addr.mk.injEq, and_true, true_and] at e9
      obtain ⟨rfl, rfl⟩ := e9
      have q2 := k2.cells.2.2.1
      have row2 := k2.row
      rw [hl2] at row2
      have f6 := World.ownsRow.frozenAt row2 (A.length * 8 + 6)
      have f7 := World.ownsRow.frozenAt row2 (A.length * 8 + 7)
      have F2 : FrD R (.slice (some ⟨g, 0, none⟩) (A ++ v :: C).length c) w W2 := (FrD.bel HB1.out).trans k3
      cases ci with
      | false =>
        have HF : Hid (RFil w base R P cap last (.slice (some ⟨g, 0, none⟩) (A ++ v :: C).length c) (A ++ v :: C) v.n false cv (.returned (.int .i64 0)) W2) := ⟨by rw [HE.out], by rw [HLn.out]; exact k2, F2⟩
        obtain ⟨an, han⟩ : ∃ an, an = (A ++ v :: C).length := ⟨_, rfl⟩
        rw [← han] at r2 hi q2
        obtain ⟨i, hia⟩ : ∃ i, i = A.length := ⟨_, rfl⟩
        rw [← hia] at hi c5 HA f5 hW2
        have hib : decide ((i : Int) < 0) = false := by simp
        clear h hl hn hf b5 hfl han hia c6 c7 hvi HR1 s1 t1 s1' k2 k3 hB5g HB2 hl2 hi2 d6 d7 row2 f6 f7 F2 HE HLn hrow
        go_enter Tryz.func15, Tryz.ntmps15
        go_wp2_with fail
        rw [← hW1, ← hB5]
        refine HA.out.mono ?_
        rintro e w2 ⟨rfl, hw2⟩
        subst hw2
        clear hW1 hB5
        go_upto_region 7 with fail
        rw [show i * 8 + 3 + 2 = i * 8 + 5 from rfl, ← hW2]
        clear hW2
        go_wp2
        go_ret
        exact HF.out
      | true =>
        obtain ⟨s2, t2⟩ := World.ownsRow.stored row2 (A.length * 8 + 6) (.bool true)
        obtain ⟨s3, t3⟩ := World.ownsRow.stored s2 (A.length * 8 + 7) (.int .i64 cv)
        obtain ⟨W3, hW3⟩ : ∃ W3, W3 = (W2.setCell ⟨g, A.length * 8 + 6, none⟩ (.bool true)).setCell ⟨g, A.length * 8 + 7, none⟩ (.int .i64 cv) := ⟨_, rfl⟩
        rw [← hW3] at s3 t3
        rw [ents_mid, mid_set rfl 6 (by omega), mid_set rfl 7 (by omega)] at s3
        have s3' : W3.ownsRow base 112 8 (.slice (some ⟨g, 0, none⟩) (A ++ { v with fl := true } :: C).length c) (A ++ { v with fl := true } :: C).length (ents (A ++ fillV v true cv :: C)) := by rw [ents_mid, hl2]; exact s3
        have t4 : W2.grownBy W3 (some g) := ⟨t3.os.trans t2.os, t3.tape.trans t2.tape, t3.output.trans t2.output, Nat.le_trans t2.size t3.size, fun j hj hne => (t3.block j (Nat.lt_of_lt_of_le hj t2.size) hne).trans (t2.block j hj hne)⟩
        rw [← hl2] at k2
        obtain ⟨k4, k5⟩ := k2.put t4 s3' (by simp)
        rw [hl2] at k4 k5
        have HF : Hid (∀ q, RFil w base R P cap last (.slice (some ⟨g, 0, none⟩) (A ++ v :: C).length c) (A ++ v :: C) v.n true cv (.returned (.int .i64 0)) (W3.drewN q)) := fun q => ⟨by rw [HE.out], by rw [HLn.out]; exact k4.kept (drew_below W3 q), (F2.trans k5).trans (FrD.bel (drew_below W3 q))⟩
        obtain ⟨an, han⟩ : ∃ an, an = (A ++ v :: C).length := ⟨_, rfl⟩
        rw [← han] at r2 hi q2
        obtain ⟨i, hia⟩ : ∃ i, i = A.length := ⟨_, rfl⟩
        rw [← hia] at hi c5 HA f5 hW2 hW3 f6 f7 d6 d7
        have hib : decide ((i : Int) < 0) = false := by simp
        clear h hl hn hf b5 hfl han hia c6 c7 hvi HR1 s1 t1 s1' k2 k3 hB5g HB2 hl2 hi2 row2 F2 HE HLn hrow s2 t2 s3 t3 s3' t4 k4 k5
        go_enter Tryz.func15, Tryz.ntmps15
        go_wp2_with fail
        rw [← hW1, ← hB5]
        refine HA.out.mono ?_
        rintro e w2 ⟨rfl, hw2⟩
        subst hw2
        clear hW1 hB5
        go_upto_region 7 with fail
        rw [show i * 8 + 3 + 2 = i * 8 + 5 from rfl, ← hW2]
        clear hW2
        go_wp2_with fail
        go_region
        go_wp2
        go_ret
        have HF1 := HF.out 1
        rw [hW3] at HF1
        exact HF1
end Go.Proofs.YtbcmmeajglilbaaGreat
/-
  StorePlays: THE DOCUMENT'S Remove, New.
-/
namespace Go.Proofs.YtbcmmeajglilbaaGreat
open Go.RowKit Go.Sort

theorem wpL_appS {w : World} {ops : Array Oper} {rest : List Oper} {o : Oper} {a : Act} {Q : Exit → Act → World → Prop} (hgd : o.guard = none) (s x : Operand) (TS : TypeId)
    (ho : o.op = .call { callee := .builtin .append, args := #[s, x], argTypes := #[TS, TS] }) (v u : Value) (hs : a.eval s = v) (hx : a.eval x = u) {post : Value → World → Prop}
    (hr : ∀ ty, ∃ v' w', (Builtin.append_ #[TS, TS] ty #[v, u]).run Tryz.prog w = .ok v' w' ∧ post v' w') (h : ∀ v' w', post v' w' → wpList Tryz.prog ops Q rest (a.put o.dst v') w') : wpList Tryz.prog ops Q (o :: rest) a w := by
  obtain ⟨v', w', hr, h2⟩ := hr o.type
  refine wpList_plain hgd fun K hK' => ?_
  unfold Oper.wp
  simp [execOp, ho, resolve, invoke, builtin, hs, hx, hr, Result.andThen]
  exact hK' _ _ (h v' w' h2)
/-- what Remove leaves -/
def RRem (w : World) (base R P : Nat) (cap last : Int) (av : Value) (vs : List Vr) (n : Int) (e : Ending) (w' : World) : Prop :=
  (fv vs n = none ∧ e = .returned (.int .i64 93) ∧ w' = w) ∨
  (∃ A v C, vs = A ++ v :: C ∧ v.n = n ∧ e = .returned (.int .i64 0) ∧ ∃ av', RDs w' base R P cap last av' (A ++ C) ∧ FrD R av w w' ∧ OwnN av av' w.heap.size)
set_option maxRecDepth 100000 in
set_option maxHeartbeats 4000000 in
theorem rremove_any (w : World) (base R P : Nat) (cap last : Int) (av : Value) (vs : List Vr) (h : RDs w base R P cap last av vs) (hb : base ≤ w.heap.size) (hl : vs.length ≤ 65536) (hn : (vs.map Vr.n).Nodup) (n : Int) :
    Calls Tryz.prog 17 #[ptr R, .int .i64 n] w fun e w' => RRem w base R P cap last av vs n e w' := by
  cases hf : fv vs n with
  | none =>
    have HA := hidS (at_none w base R P cap last av vs h hl hn n hf)
    have HF : Hid (RRem w base R P cap last av vs n (.returned (.int .i64 93)) w) := .inl ⟨hf, rfl, rfl⟩
    clear h hl hn hf hb
    go_enter Tryz.func17, Tryz.ntmps17
    go_wp2_with fail
    refine HA.out.mono ?_
    rintro e w2 ⟨rfl, rfl⟩
    go_wp2
    go_ret
    exact HF.out
  | some v =>
    obtain ⟨_, rfl⟩ := fv_some hf
    obtain ⟨A, C, rfl⟩ := fv_split hf
    have HA := hidS (at_mid base R P cap last av A C v hl hn w h)
    have hi : A.length < (A ++ v :: C).length := by simp
    obtain ⟨g, c, rfl, _⟩ := h.ent hi
    have r2 := h.cells.2.2.1
    have hrow := h.row
    have hcap : (A ++ v :: C).length ≤ c := by
      obtain ⟨_, ⟨e, _⟩ | ⟨g', c', _, e, _, _, h3, _⟩⟩ := hrow
      · cases e
      · cases e; exact h3
    have HAp1 : Hid (∀ ty, ∃ v' w', (Builtin.append_ #[48, 48] ty #[.slice none 0 0, .slice (some ⟨g, 0, none⟩) A.length c]).run Tryz.prog w = .ok v' w' ∧ ((∃ o k, v' = .slice o A.length k) ∧ w'.ownsRow w.heap.size 112 8 v' A.length (ents A) ∧ Below w.heap.size w w')) := fun ty => by
      obtain ⟨v', w', q1, q2, q3⟩ := run_append_C elEn ty w.heap.size (.slice none 0 0) 0 [] (World.ownsRow_nil _ _ _ _) ⟨g, 0, none⟩ A.length c (ents A) (ents_len A) (fun j u hu => World.ownsRow.cells hrow rfl j u (by rw [ents_app, List.getElem?_append_left (List.getElem?_eq_some_iff.1 hu).1]; exact hu)) (ents_one A) (by simp at hl; omega) (Nat.le_refl _)
      rw [Nat.zero_add, List.nil_append] at q2
      refine ⟨v', w', q1, ?_, q2, ?_⟩
      · obtain ⟨_, ⟨e, e2⟩ | ⟨g', c', _, e, _⟩⟩ := q2
        · exact ⟨none, 0, by rw [e, e2]⟩
        · exact ⟨_, c', e⟩
      · rcases q3 with ⟨_, _, e, _⟩ | ⟨_, q4⟩
        · cases e
        · exact ⟨q4.os, q4.tape, q4.output, q4.size, fun k hk => q4.block k hk (fun e => by cases e)⟩
    obtain ⟨an, han⟩ : ∃ an, an = (A ++ v :: C).length := ⟨_, rfl⟩
    have HN := hidS han
    have HR := hidS h
    have HB := hidS hb
    have HLl := hidS hl
    rw [← han] at r2 hi hcap
    obtain ⟨i, hia⟩ : ∃ i, i = A.length := ⟨_, rfl⟩
    have HI := hidS hia
    rw [← hia] at hi HA HAp1
    have hib : decide ((i : Int) < 0) = false := by simp
    have hc2 : i ≤ c := by omega
    have hc3 : i + 1 ≤ an := hi
    have hl9 : an ≤ 65536 := by rw [han]; exact hl
    clear h hl hn hf hb han hia hrow
    go_enter Tryz.func17, Tryz.ntmps17
    go_wp2_with fail
    refine HA.out.mono ?_
    rintro e w2 ⟨rfl, rfl⟩
    go_upto_region 6 with (refine wpL_appS rfl _ _ 48 rfl (.slice none 0 0) (.slice (some ⟨g, 0, none⟩) i c) rfl rfl HAp1.out ?_; rintro v1 w3 ⟨⟨o1, k1, rfl⟩, q2, q3⟩; have Q2 := hidS q2; have Q3 := hidS q3; have r3 := (HR.out.kept q3).cells.2.2.1; rw [← HN.out] at r3; clear q2 q3)
    have HAp2 : Hid (∀ (a : Addr) (m cc : Nat), m = an - (i + 1) → (∀ j u, (ents C)[j]? = some u → w3.cell? (a.add j) = some u) → ∀ ty, ∃ v' w', (Builtin.append_ #[48, 48] ty #[.slice o1 i k1, .slice (some a) m cc]).run Tryz.prog w3 = .ok v' w' ∧ ((∃ o n c, v' = .slice o n c) ∧ w'.cell? ⟨R, 2, none⟩ = some (.slice (some ⟨g, 0, none⟩) an c) ∧ w'.frozen? ⟨R, 2, none⟩ = false ∧ Hid (RRem w2 base R P cap last (.slice (some ⟨g, 0, none⟩) (A ++ v :: C).length c) (A ++ v :: C) v.n (.returned (.int .i64 0)) (w'.setCell ⟨R, 2, none⟩ v')))) := fun a m cc hm hsrc ty => by
      have hlC : C.length = m := by have h1 := HN.out; have h2 := HI.out; simp at h1; omega
      obtain ⟨v', w', q1, q2, q3⟩ := run_append_C elEn ty w2.heap.size (.slice o1 i k1) i (ents A) Q2.out a m cc (ents C) (by rw [ents_len, hlC]) hsrc (ents_one C) (by have := HLl.out; omega) Q3.out.size
      have hb' : Below w2.heap.size w2 w' := by
        have hs := Q3.out
        rcases q3 with ⟨g1, c1, e, _, q4⟩ | ⟨_, q4⟩
        · have hge := (World.ownsRow.lt Q2.out g1 (by rw [e]; rfl)).1
          exact ⟨q4.os.trans hs.os, q4.tape.trans hs.tape, q4.output.trans hs.output, Nat.le_trans hs.size q4.size, fun k hk => (q4.block k (Nat.lt_of_lt_of_le hk hs.size) (fun e2 => by cases e2; omega)).trans (hs.block k hk)⟩
        · exact ⟨q4.os.trans hs.os, q4.tape.trans hs.tape, q4.output.trans hs.output, Nat.le_trans hs.size q4.size, fun k hk => (q4.block k (Nat.lt_of_lt_of_le hk hs.size) (fun e2 => by cases e2)).trans (hs.block k hk)⟩
      have hk := HR.out.kept hb'
      have q2' : w'.ownsRow base 112 8 v' (A ++ C).length (ents (A ++ C)) := by
        rw [ents_app, List.length_append, hlC, ← HI.out]
        exact ownsRow_mono q2 HB.out
      have hc2' := hk.cells.2.2.1
      rw [← HN.out] at hc2'
      refine ⟨v', w', q1, ?_, hc2', frozen_of_row w' R 2 _ _ hk.bx, .inr ⟨A, v, C, rfl, rfl, rfl, v', hk.setA q2', (FrD.bel hb').setR 2 v', fun k hk2 => .inr (World.ownsRow.lt q2 k hk2).1⟩⟩
      obtain ⟨_, ⟨e, _⟩ | ⟨g', c', _, e, _⟩⟩ := q2
      · exact ⟨_, _, _, e⟩
      · exact ⟨_, _, _, e⟩
    have HSrc : Hid (∀ j u, (ents C)[j]? = some u → w3.cell? ((⟨g, (i + 1) * 8, none⟩ : Addr).add j) = some u) := fun j u hu => by
      have h1 := World.ownsRow.cells (HR.out.kept Q3.out).row rfl ((i + 1) * 8 + j) u (by
        rw [ents_app, List.getElem?_append_right (by rw [ents_len, ← HI.out]; omega), ents_cons, List.getElem?_append_right (by rw [ents_len, ← HI.out]; simp [entC]; omega)]
        rw [show (i + 1) * 8 + j - (ents A).length - (entC v).length = j by rw [ents_len, ← HI.out]; simp [entC]; omega]
        exact hu)
      rw [addr_add] at h1 ⊢
      rw [Nat.zero_add] at h1
      exact h1
    by_cases hlast : i + 1 = c
    · have hane : an = i + 1 := by omega
      have HC0 : Hid (ents C = []) := by
        have h1 := HN.out; have h2 := HI.out; simp at h1
        have h3 : C = [] := List.eq_nil_of_length_eq_zero (by omega)
        show _ = _; rw [h3]; rfl
      have HAp3 := hidS (HAp2.out ⟨g, 0, none⟩ 0 0 (by omega) (fun j u hu => by rw [HC0.out] at hu; simp at hu))
      subst hane
      subst hlast
      clear HAp2 HSrc
      go_wp2_with (refine wpL_appS rfl _ _ 48 rfl (.slice o1 i k1) (.slice (some ⟨g, 0, none⟩) 0 0) rfl rfl HAp3.out ?_; rintro v4 w4 ⟨⟨o9, n9, c9, rfl⟩, t1, t2, HF⟩)
      go_ret
      exact HF.out
    · have HAp3 := hidS (HAp2.out ⟨g, (i + 1) * 8, none⟩ (an - (i + 1)) (c - (i + 1)) rfl HSrc.out)
      clear HAp2 HSrc
      go_wp2_with (refine wpL_appS rfl _ _ 48 rfl (.slice o1 i k1) (.slice (some ⟨g, (i + 1) * 8, none⟩) (an - (i + 1)) (c - (i + 1))) rfl rfl HAp3.out ?_; rintro v4 w4 ⟨⟨o9, n9, c9, rfl⟩, t1, t2, HF⟩)
      go_ret
      exact HF.out
end Go.Proofs.YtbcmmeajglilbaaGreat
/-
  Each.
-/
namespace Go.Proofs.YtbcmmeajglilbaaGreat
open Go.RowKit Go.Sort

abbrev TP : TypeId := 147
abbrev TPs : TypeId := 145
/-- the cells of pairs -/
def cps : List En → List Value
  | [] => []
  | e :: l => .int .i64 e.k.1 :: .int .i64 e.k.2 :: ptr e.v :: cps l
theorem cps_append (A B : List En) : cps (A ++ B) = cps A ++ cps B := by
  induction A with
  | nil => rfl
  | cons e A ih => simp [cps, ih]
theorem cps_snoc (l : List En) (e : En) : cps (l ++ [e]) = cps l ++ [.int .i64 e.k.1, .int .i64 e.k.2, ptr e.v] := by rw [cps_append]; rfl
theorem infoP : (Tryz.prog.info? TP).map (fun i => (i.zero, i.size, i.bytes)) = some (some (.agg #[.int .i64 0, .int .i64 0, .pointer none]), 3, 24) := by kernel_rfl
theorem pair_new (w : World) (x y : Int) (z : Nat) : ∀ j u, ([.int .i64 x, .int .i64 y, ptr z] : List Value)[j]? = some u → (w.alloc (.cells #[.int .i64 x, .int .i64 y, ptr z] TP)).cell? ((⟨w.heap.size, 0, none⟩ : Addr).add j) = some u := by
  intro j u hu
  have hb := heap_alloc_new (w := w) (.cells #[.int .i64 x, .int .i64 y, ptr z] TP) w.heap.size rfl
  rw [addr_add, World.cell?, hb]
  simpa using hu
theorem make_pairs0 (c : Nat) (hc : c * 24 ≤ 281474976710656) (u : World) : (Instr.makeSlice TPs (.int .i64 0) (.int .i64 (c : Int))).run Tryz.prog u = .ok (.slice (some ⟨u.heap.size, 0, none⟩) 0 c) (u.alloc (.cells (madeCells #[.int .i64 0, .int .i64 0, .pointer none] (c * 3)) TP)) := by
  obtain ⟨i0, hi, hz0, hz1, hz2⟩ := info_parts infoP
  have h := run_make (P := Tryz.prog) u TPs TP i0 (.agg #[.int .i64 0, .int .i64 0, .pointer none]) Tryz.underlying145 hi hz0 .i64 .i64 (0 : Int) (c : Int) (by omega) (by omega) (by rw [hz2]; omega) (by omega)
  rw [hz1, Int.toNat_natCast] at h
  exact h
/-- the list of an iterator, in the making -/
structure EL (w wr : World) (B g j n : Nat) (l : List En) : Prop where
  box : wr.heap[B]? = some (.cells #[.slice (some ⟨g, 0, none⟩) j n] TPs (0, 0))
  row : wr.ownsRow w.heap.size TP 3 (.slice (some ⟨g, 0, none⟩) j n) j (cps (l.take j))
  bel : Below w.heap.size w wr
  ge : w.heap.size ≤ B ∧ w.heap.size ≤ g ∧ B ≠ g
theorem EL.cell {w wr : World} {B g j n : Nat} {l : List En} (h : EL w wr B g j n l) : wr.cell? ⟨B, 0, none⟩ = some (.slice (some ⟨g, 0, none⟩) j n) := by rw [World.cell?, h.box]; rfl
theorem gr_set (W : World) (a : Addr) (v : Value) : W.grownBy (W.setCell a v) (some a.block) := ⟨rfl, rfl, rfl, by simp, fun k _ hk => heap_setCell_other W a k v (fun e => hk (by rw [e]))⟩
/-- one pair more -/
theorem EL.more {w wr : World} {B g j n : Nat} {l : List En} (h : EL w wr B g j n l) (hj : j < n) (hl : n = l.length) (x : En) (hx : l[j]? = some x) (ty : TypeId) :
    ∃ W5, (Builtin.append_ #[TPs, TPs] ty #[.slice (some ⟨g, 0, none⟩) j n, .slice (some ⟨wr.heap.size, 0, none⟩) 1 1]).run Tryz.prog (wr.alloc (.cells #[.int .i64 x.k.1, .int .i64 x.k.2, ptr x.v] TP)).drew = .ok (.slice (some ⟨g, 0, none⟩) (j + 1) n) W5 ∧
      W5.cell? ⟨B, 0, none⟩ = some (.slice (some ⟨g, 0, none⟩) j n) ∧ W5.frozen? ⟨B, 0, none⟩ = false ∧ Hid (EL w (W5.setCell ⟨B, 0, none⟩ (.slice (some ⟨g, 0, none⟩) (j + 1) n)) B g (j + 1) n l) := by
  obtain ⟨i0, hi, hz0, hz1, hz2⟩ := info_parts infoP
  have hlt := blk_lt h.box
  have hrow : (wr.drew.alloc (.cells #[.int .i64 x.k.1, .int .i64 x.k.2, ptr x.v] TP)).ownsRow w.heap.size TP 3 (.slice (some ⟨g, 0, none⟩) j n) j (cps (l.take j)) := World.ownsRow.alloc (w := wr.drew) h.row _
  obtain ⟨W5, hr, ho, hg⟩ := run_append_own_spare (P := Tryz.prog) (wr.drew.alloc (.cells #[.int .i64 x.k.1, .int .i64 x.k.2, ptr x.v] TP)) w.heap.size TPs ty TP i0 3 Tryz.underlying145 hi hz1 g j n _ hrow ⟨wr.heap.size, 0, none⟩ 1 1 [.int .i64 x.k.1, .int .i64 x.k.2, ptr x.v] rfl (pair_new wr.drew _ _ _) (by simp [Value.oneCell']) (by omega)
  have hbox : W5.heap[B]? = some (.cells #[.slice (some ⟨g, 0, none⟩) j n] TPs (0, 0)) := by
    rw [hg.block B (by simp; exact Nat.lt_succ_of_lt hlt) (fun e => by cases e; exact h.ge.2.2 rfl), heap_alloc_old (w := wr.drew) _ _ hlt]; exact h.box
  refine ⟨W5, hr, blk_cell hbox rfl, frozen_of_row _ _ _ _ _ hbox, ?_, ?_, ?_, h.ge⟩
  · rw [blk_set _ hbox]; rfl
  · have htk : l.take (j + 1) = l.take j ++ [x] := by
      obtain ⟨h1, h2⟩ := List.getElem?_eq_some_iff.1 hx
      rw [List.take_succ_eq_append_getElem h1, h2]
    rw [htk, cps_snoc]
    refine World.ownsRow.kept ho (row := some B) (gr_set W5 ⟨B, 0, none⟩ _) (.inr ?_)
    intro e; simp [Value.ownBlock] at e; exact h.ge.2.2 e.symm
  · have h0 : Below w.heap.size w wr.drew := ⟨h.bel.os, h.bel.tape, h.bel.output, h.bel.size, h.bel.block⟩
    have h1 : Below w.heap.size w (wr.drew.alloc (.cells #[.int .i64 x.k.1, .int .i64 x.k.2, ptr x.v] TP)) := h0.alloc h.bel.size _
    have h2 : Below w.heap.size w W5 := h1.trans (grown_below hg (fun q hq => by cases hq; exact h.ge.2.1) h1.size)
    exact ⟨h2.os, h2.tape, h2.output, by simpa using h2.size, fun k hk => (heap_setCell_other W5 ⟨B, 0, none⟩ k _ (by have := h.ge.1; simp; omega)).trans (h2.block k hk)⟩
theorem step_el {w wr : World} {B g j n : Nat} {l : List En} {ops : Array Oper} {o : Oper} {a : Act} {K' : Act → World → Prop} {Q : Exit → Act → World → Prop} {E : Prop} (hgd : o.guard = none) (s x : Operand)
    (ho : o.op = .call { callee := .builtin .append, args := #[s, x], argTypes := #[TPs, TPs] }) (h : EL w wr B g j n l) (hj : j < n) (hl : n = l.length) (e : En) (he : l[j]? = some e)
    (hs : a.eval s = .slice (some ⟨g, 0, none⟩) j n) (hx : a.eval x = .slice (some ⟨wr.heap.size, 0, none⟩) 1 1)
    (hK : ∀ W5, W5.cell? ⟨B, 0, none⟩ = some (.slice (some ⟨g, 0, none⟩) j n) → W5.frozen? ⟨B, 0, none⟩ = false → Hid (EL w (W5.setCell ⟨B, 0, none⟩ (.slice (some ⟨g, 0, none⟩) (j + 1) n)) B g (j + 1) n l) → K' (a.put o.dst (.slice (some ⟨g, 0, none⟩) (j + 1) n)) W5) :
    if Region.wanted o (yielded ops a.tmps) = true then Oper.wp Tryz.prog o a (wr.alloc (.cells #[.int .i64 e.k.1, .int .i64 e.k.2, ptr e.v] TP)).drew K' Q else E := by
  have hw : Region.wanted o (yielded ops a.tmps) = true := by simp [Region.wanted, hgd]
  rw [if_pos hw]
  obtain ⟨W5, hr, h2, h3, h4⟩ := h.more hj hl e he o.type
  unfold Oper.wp execOp
  simp only [ho, resolve, invoke, builtin, Sem.run_bind, Sem.run_pure, Result.andThen_ok, List.map_toArray, List.map_cons, List.map_nil, hs, hx, hr]
  exact hK W5 h2 h3 h4

set_option maxRecDepth 100000 in
set_option maxHeartbeats 1000000 in
theorem each_any (w : World) (D M L P : Nat) (hf : Value) (es : List En) (p : Int) (h : DA w D M L hf P es) (hm : (ptI P p es).length * 24 ≤ 281474976710656) :
    Calls Tryz.prog 63 #[ptr D, .int .i64 p] w fun e w' => ∃ B g, e = .returned (.func (.func 81) #[] #[ptr B]) ∧ Hid (EL w w' B g (ptI P p es).length (ptI P p es).length (ptI P p es)) := by
  have hmf : ∀ (fn : Fn) (first cap : Array Value) (w : World), (Instr.makeFunc fn first cap).run Tryz.prog w = .ok (.func fn first cap) w := fun _ _ _ _ => rfl
  have HD : Hid (DA w D M L hf P es) := h
  clear h
  obtain ⟨l, hl⟩ : ∃ l, l = ptI P p es := ⟨_, rfl⟩
  rw [← hl] at hm ⊢
  obtain ⟨n, hn⟩ : ∃ n, n = l.length := ⟨_, rfl⟩
  rw [← hn] at hm ⊢
  go_enter Tryz.func63, Tryz.ntmps63
  go_wp2_with fail
  refine (line_any w D M L P hf es p HD.out).mono ?_
  rintro e w1 ⟨rfl, hb1⟩
  have HB1 : Hid (Below w.heap.size w w1) := hb1
  have HN : Hid (n = l.length) := hn
  rw [← hl, ← hn]
  have HLD : Hid (∀ W, Below w.heap.size w W → ∀ X x Y, l = X ++ x :: Y → W.cell? ⟨x.b, 0, none⟩ = some (.int .i64 x.k.1) ∧ W.cell? ⟨x.b, 1, none⟩ = some (.int .i64 x.k.2) ∧ W.cell? ⟨x.b, 2, none⟩ = some (ptr x.v) ∧ W.cell? ⟨x.b, 5, none⟩ = some (hp Y)) := fun W hW X x Y hX => (HD.out.kept hW).node (hl.symm.trans hX)
  clear hb1 hn hl
  obtain ⟨v1, hv1⟩ := hp_ptr l
  obtain ⟨v2, hv2⟩ := lp_ptr l
  rw [hv1, hv2]
  have hmk := fun u => make_pairs0 n hm u
  have HEL : Hid (EL w (((w1.alloc (.cells #[.pointer v1, .pointer v2, .int .i64 (n : Int)] TL)).alloc (.cells (madeCells #[.int .i64 0, .int .i64 0, .pointer none] (n * 3)) TP)).alloc (.cells #[.slice (some ⟨w1.heap.size + 1, 0, none⟩) 0 n] TPs)) (w1.heap.size + 1 + 1) (w1.heap.size + 1) 0 n l) := by
    have hs := HB1.out.size
    refine ⟨heap_alloc_new _ _ (by simp), ?_, ((HB1.out.alloc hs _).alloc (by simp; omega) _).alloc (by simp; omega) _, by omega, by omega, by omega⟩
    rw [List.take_zero]
    have := World.ownsRow_made (e := TP) (size := 3) (w1.alloc (.cells #[.pointer v1, .pointer v2, .int .i64 (n : Int)] TL)) (madeCells #[.int .i64 0, .int .i64 0, .pointer none] (n * 3)) n (base := w.heap.size) (by simp; omega) (by unfold maxLen; omega) (by simp [size_madeCells])
    rw [World.size_alloc] at this
    exact World.ownsRow.alloc this _
  have HV1 : Hid (.pointer v1 = hp (l.drop 0)) := by rw [Hid, List.drop_zero]; exact hv1.symm
  clear hv1 hv2
  go_wp2
  generalize ((w1.alloc (.cells #[.pointer v1, .pointer v2, .int .i64 (n : Int)] TL)).alloc (.cells (madeCells #[.int .i64 0, .int .i64 0, .pointer none] (n * 3)) TP)).alloc (.cells #[.slice (some ⟨w1.heap.size + 1, 0, none⟩) 0 n] TPs) = W2 at *
  generalize w1.heap.size + 1 + 1 = B at *
  generalize w1.heap.size + 1 = g at *
  go_loopw [7] (fun e wr => ∃ j : Nat, j ≤ n ∧ e = hp (l.drop j) ∧ Hid (EL w wr B g j n l)) (fun _ wr => n - slLen ((wr.cell? ⟨B, 0, none⟩).getD undef))
  case atStart => exact ⟨0, Nat.zero_le _, HV1.out, HEL⟩
  case round =>
    obtain ⟨j, hj, rfl, HE⟩ := hrel
    by_cases hlt : j < n
    · have hjl : j < l.length := by have := HN.out; omega
      have hdr : l.drop j = l[j] :: l.drop (j + 1) := List.drop_eq_getElem_cons hjl
      have htk : l = l.take j ++ l[j] :: l.drop (j + 1) := by rw [← hdr, List.take_append_drop]
      obtain ⟨a0, a1, a2, _⟩ := HLD.out wr HE.out.bel _ _ _ htk
      rw [hdr, hp_cons]
      have HLn : Hid (∀ W, Below w.heap.size w W → W.cell? ⟨l[j].b, 5, none⟩ = some (hp (l.drop (j + 1)))) := fun W hW => (HLD.out W hW _ _ _ htk).2.2.2
      obtain ⟨o5, ho5⟩ := hp_ptr (l.drop (j + 1))
      rw [ho5] at HLn
      have HO5 : Hid (.pointer o5 = hp (l.drop (j + 1))) := ho5.symm
      have hc0 := HE.out.cell
      have hM0 : n - slLen ((wr.cell? ⟨B, 0, none⟩).getD undef) = n - j := by rw [hc0]; rfl
      have HX : Hid (l[j]? = some l[j]) := List.getElem?_eq_getElem hjl
      have hcA : (wr.alloc (.cells #[.int .i64 l[j].k.1, .int .i64 l[j].k.2, ptr l[j].v] TP)).cell? ⟨B, 0, none⟩ = some (.slice (some ⟨g, 0, none⟩) j n) := by
        rw [World.cell?, heap_alloc_old _ _ (blk_lt HE.out.box)]
        exact hc0
      generalize l[j] = x at *
      clear ho5 htk hdr
      go_wp2_with fail
      go_region_law (first | (refine step_el rfl _ _ rfl HE.out hlt HN.out x HX.out rfl rfl ?_; intro W5 hc5 hf5 HE5; have a5 := HLn.out _ HE5.out.bel; have hM5 : n - slLen (((W5.setCell ⟨B, 0, none⟩ (.slice (some ⟨g, 0, none⟩) (j + 1) n)).cell? ⟨B, 0, none⟩).getD undef) = n - (j + 1) := (by rw [HE5.out.cell]; rfl)))
      all_goals (
        go_wp2
        go_roundw
        case rel => exact ⟨j + 1, by omega, HO5.out, HE5⟩
        case measure => (rw [hM0, hM5]; omega))
    · obtain rfl : j = n := by omega
      have hdr : l.drop j = [] := List.drop_eq_nil_iff.2 (by have := HN.out; omega)
      rw [hdr]
      simp only [hp]
      go_wp2
      go_ret
      exact ⟨B, g, rfl, HE⟩
end Go.Proofs.YtbcmmeajglilbaaGreat
/-
  A REGION THAT DRAWS ITS ORDER AND ONLY READS, IN THE ROUND OF A LOOP OVER A FUNCTION: as outside a round, where no operation is a defer.
-/
namespace Go.Proofs.YtbcmmeajglilbaaGreat
open Go.RowKit Go.Sort

def noDefer (o : Oper) : Bool := match o.op with
  | .defer _ => false
  | _ => true
theorem noDefer_ne {o : Oper} (h : noDefer o = true) : ∀ c, o.op ≠ .defer c := by
  intro c e
  unfold noDefer at h
  rw [e] at h
  simp at h
theorem wpIn_round {F : Fence} {n l : Nat} {P : Program} {o : Oper} {a : Act} {w : World} {K : Act → World → Prop} {Q : Exit → Act → World → Prop} (hro : F.round = none) (hd : noDefer o = true) (h : o.wpIn F n P a w K Q) : o.wpIn (F.inRound l) n P a w K Q := by
  obtain ⟨h1, h2⟩ := h
  refine ⟨h1, ?_⟩
  rw [hro, Oper.semAt_none] at h2
  rw [Fence.inRound_round, Oper.semAt_some l _ _ (noDefer_ne hd)]
  generalize (execOp a.eval o).run P w = r at *
  cases r with
  | ok x w' => cases x <;> exact h2
  | halt x w' => cases x <;> exact h2
theorem wpAny_round {F : Fence} {n l : Nat} {P : Program} {md : Region.Mode} {ops : Array Oper} {Q : Exit → Act → World → Prop} (hro : F.round = none) (hd : ops.all noDefer = true) :
    ∀ (fuel : Nat) (listed : Array Bool) (a : Act) (w : World), wpAnyIn F n P md ops Q fuel listed a w → wpAnyIn (F.inRound l) n P md ops Q fuel listed a w
  | 0, _, _, _, h => h
  | fuel + 1, listed, a, w, h => ⟨h.1, fun i hi => by
    have h2 := h.2 i hi
    unfold wpOpIn at h2 ⊢
    cases ho : ops[i]? with
    | none => rw [ho] at h2; exact wpAny_round hro hd fuel _ _ _ h2
    | some o =>
      rw [ho] at h2
      have hn : noDefer o = true := by
        have h3 := Array.all_eq_true.1 hd
        obtain ⟨hlt, he⟩ := Array.getElem?_eq_some_iff.1 ho
        rw [← he]; exact h3 i hlt
      simp only at h2 ⊢
      split
      · rename_i hw
        rw [if_pos hw] at h2
        exact wpIn_round hro hn (Oper.wpIn_mono (fun a w hk => wpAny_round hro hd fuel _ a w hk) h2)
      · rename_i hw
        rw [if_neg hw] at h2
        exact ⟨h2.1, wpAny_round hro hd fuel _ _ _ h2.2⟩⟩
theorem region_round {F : Fence} {n l : Nat} {P : Program} {id : Nat} {Q : Exit → Act → World → Prop} {a : Act} {w : World} {ops : List Oper} (hro : F.round = none) (hm : P.follows .mixedOrders = true) (hB : Region.lexB .any ops.toArray = true) (hd : ops.toArray.all noDefer = true)
    (h : wpQuietIn F n P ops.toArray (fun w' => ∃ n, w' = w.drewN n) (fun a' => ∀ w', (∃ n, w' = w.drewN n) → Q .normal a' w') ops a) : (Code.region id ops.toArray true).wpIn (F.inRound l) n P Q a w := by
  simp only [Region.lexB, Bool.and_eq_true] at hB
  refine wpIn_region_any hm (wpAny_round hro hd _ _ _ _ (wpAnyIn_of_quiet (Q := fun a' => ∀ w', (∃ n, w' = w.drewN n) → Q .normal a' w') hro (fun _ w' hw' h => h w' hw') _ _ _ _ ⟨1, rfl⟩ ?_))
  have := wpAnyQIn_lex (F := F) (n := n) (C := fun w' => ∃ n, w' = w.drewN n) (md := .any) hB.1 ops 0 (Array.replicate ops.toArray.size false) a (by simp) (by simpa using hB.2) h
  simpa using this

/-- a loop over a function, whichever way it ends: what holds behind it -/
theorem loop_cut {F : Fence} {n : Nat} {P : Program} {c : Code} {Q : Exit → Act → World → Prop} {a : Act} {w : World} (id : Nat) (Post : World → Prop) (hex : ∀ a w, Q .normal a w → Q (.exit id) a w)
    (h : c.wpIn F n P (fun e a' w' => (e = .normal ∨ e = .exit id) ∧ ∃ D, w.heap.size ≤ D ∧ a' = { a with defers := { target := .collected D, args := #[] } :: a.defers } ∧ Post w' ∧ w'.heap[D]? = some (.deferred (some []))) a w)
    (hk : ∀ D W, w.heap.size ≤ D → Post W → W.heap[D]? = some (.deferred (some [])) → Q .normal { a with defers := { target := .collected D, args := #[] } :: a.defers } W) : c.wpIn F n P Q a w := by
  refine Code.wpIn_mono ?_ h
  rintro e a' w' ⟨he, D, hD, rfl, hp, hd⟩
  rcases he with rfl | rfl
  · exact hk D w' hD hp hd
  · exact hex _ _ (hk D w' hD hp hd)
/-- a key in a box -/
def KBoxed (W : World) (B : Nat) (x y : Int) : Prop := W.heap[B]? = some (.cells #[.int .i64 x, .int .i64 y] 41 (0, 0))
theorem KBoxed.lt {W : World} {B : Nat} {x y : Int} (h : KBoxed W B x y) : B < W.heap.size := (Array.getElem?_eq_some_iff.1 h).1
theorem KBoxed.cell {W : World} {B : Nat} {x y : Int} (h : KBoxed W B x y) : W.cell? ⟨B, 0, none⟩ = some (.int .i64 x) ∧ W.cell? ⟨B, 1, none⟩ = some (.int .i64 y) := by
  constructor <;> simp [World.cell?, show W.heap[B]? = _ from h]
theorem KBoxed.new (W : World) (x y : Int) : KBoxed (W.alloc (.cells #[.int .i64 x, .int .i64 y] 41)) W.heap.size x y := World.alloc_heap_new W _
theorem KBoxed.kept {W W' : World} {row : Option Nat} {B : Nat} {x y : Int} (h : KBoxed W B x y) (hg : W.grownBy W' row) (hne : some B ≠ row) : KBoxed W' B x y := (hg.block B h.lt hne).trans h
theorem KBoxed.own {W W' : World} {row : Option Nat} {B : Nat} {x y : Int} (h : KBoxed W B x y) (hg : W.grownBy W' row) (hr : ∀ r, row = some r → ∃ o : Obj, W.heap[r]? = some o ∧ o.isCells = false) : KBoxed W' B x y :=
  h.kept hg (fun e => by obtain ⟨o, ho, hc⟩ := hr B e.symm; rw [show W.heap[B]? = _ from h] at ho; cases ho; cases hc)
theorem KBoxed.alloc {W : World} {B : Nat} {x y : Int} (h : KBoxed W B x y) (o : Obj) : KBoxed (W.alloc o) B x y := h.kept (World.grownBy_alloc W o none) (by simp)

end Go.Proofs.YtbcmmeajglilbaaGreat
