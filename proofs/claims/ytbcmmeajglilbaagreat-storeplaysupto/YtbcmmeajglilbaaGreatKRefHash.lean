import Derived.Test.YtbcmmeajglilbaaGreatKBytes
import Derived.Test.YtbcmmeajglilbaaGreatKSpBel
/-
  THE WALKS OF THE DOCUMENT's Hash, Partition.
-/
namespace Go.Proofs.YtbcmmeajglilbaaGreat
open Go.RowKit Go.Sort
set_option maxHeartbeats 1000000 in
set_option maxRecDepth 20000 in
theorem refHash_any (w : World) (t r : Int) (hr : In64 r) :
    Calls Tryz.prog 41 #[.agg #[.int .i64 t, .int .i64 r]] w fun e w' => e = .returned (.int .u64 ((hash (t, r) : Nat) : Int)) ∧ ∃ q os, w' = grow (w.drewN q) os := by
  by_cases hk : isKey (t, r) = true
  · have HH : Hid (hash (t, r) = fnv (keyBytes (t, r))) := by rw [Hid]; unfold hash; rw [if_pos hk]
    obtain ⟨T, rfl⟩ := Int.eq_ofNat_of_zero_le ((isKey_iff t r).1 hk).1
    have hT : T ≤ 65535 := by have := ((isKey_iff T r).1 hk).2; omega
    have hlen := keyBytes_length ((T : Int), r)
    have hlt := keyBytes_lt hk
    have HSp : Hid (∀ w, Calls Tryz.prog 67 #[.agg #[.int .i64 (T : Int), .int .i64 r]] w fun e w' => e = .returned (.agg (cellsU8 (keyBytes ((T : Int), r)))) ∧ ∃ q os, w' = grow (w.drewN q) os) := fun w => ten_any w T r hT hr
    have HCk : Hid (∀ w, Calls Tryz.prog 40 #[.agg #[.int .i64 (T : Int), .int .i64 r]] w fun e w' => e = .returned (.int .i64 0) ∧ ∃ q os, w' = grow (w.drewN q) os) := fun w => by
      have := refCheck_any w T r
      rwa [hk] at this
    generalize keyBytes ((T : Int), r) = L at *
    generalize hash ((T : Int), r) = hv at *
    clear hk hr
    go_enter Tryz.func41, Tryz.ntmps41
    go_wp2_with fail
    have B0 : Hid (Box (w.alloc (.cells #[.int .i64 (T : Int), .int .i64 r] 41)) w.heap.size T r) := Box.new rfl
    have HG : Hid (Grew w (w.alloc (.cells #[.int .i64 (T : Int), .int .i64 r] 41))) := (Grew.refl _).alloc _
    generalize w.alloc (.cells #[.int .i64 (T : Int), .int .i64 r] 41) = W at *
    refine (HCk.out W).mono ?_
    rintro e w1 ⟨rfl, g1⟩
    have B1 : Hid (Box w1 w.heap.size T r) := B0.out.grew g1
    have HG1 : Hid (Grew w w1) := HG.out.trans g1
    clear g1 HCk B0 HG
    obtain ⟨p1, p2⟩ := B1.out
    go_wp2_with fail
    refine (HSp.out w1).mono ?_
    rintro e w2 ⟨rfl, g2⟩
    have HG2 : Hid (Grew w w2) := HG1.out.trans g2
    clear g2 HSp HG1 B1 p1 p2
    obtain ⟨a, b, c, d, f, g, i, j, k, l, hL⟩ := list10 hlen
    have hC := cells10 a b c d f g i j k l
    rw [← hL] at hC
    rw [hC]
    go_wp2
    rw [← hC]
    clear hC hL
    have hrow : ∀ n, n < 10 → (w2.alloc (.cells (cellsU8 L) 96)).cell? ⟨w2.heap.size, n, none⟩ = some (.int .u8 ((L.getD n 0 : Nat) : Int)) := fun n hn => row_cell (heap_alloc_new _ _ rfl) n (by omega)
    have HG3 : Hid (Grew w (w2.alloc (.cells (cellsU8 L) 96))) := HG2.out.alloc _
    generalize w2.alloc (.cells (cellsU8 L) 96) = W3 at *
    go_loop [4, 5] (fun x y => ∃ n : Nat, n ≤ 10 ∧ y = .int .i64 (n : Int) ∧ x = .int .u64 ((fnv (L.take n) : Nat) : Int)) (fun _ y => 10 - (intOf y).toNat)
    case atStart => exact ⟨0, by omega, rfl, rfl⟩
    case round =>
      obtain ⟨n, hn, rfl, rfl⟩ := hrel
      have hf := fnv_lt (L.take n)
      by_cases hlt' : n < 10
      · have hc := getD_lt hlt n
        have HF : Hid (fnv (L.take (n + 1)) = fnvStep (fnv (L.take n)) (L.getD n 0)) := by rw [Hid, take_snoc L n (by omega), fnv_snoc]
        have hidx := hrow n hlt'
        clear hrow
        obtain ⟨s1, s2, s3⟩ := fnv_step (fnv (L.take n)) (L.getD n 0) hf hc
        generalize fnv (L.take n) = h at *
        generalize L.getD n 0 = c at *
        generalize hst : fnvStep h c = st at *
        clear hst
        generalize h ^^^ c = x at *
        go_wp2
        go_round
        case rel => exact ⟨n + 1, by omega, by go_num, by rw [HF.out]⟩
        case measure => simp [intOf]; omega
      · obtain rfl : n = 10 := by omega
        have HE : Hid (fnv (L.take 10) = hv) := by rw [Hid, HH.out, List.take_of_length_le (by omega)]
        clear hrow
        go_wp2
        go_ret
        exact ⟨by rw [← HE.out]; rfl, HG3.out⟩
  · have HH : Hid (hash (t, r) = 0) := by rw [Hid]; unfold hash; rw [if_neg hk]
    have HCk : Hid (∀ w, Calls Tryz.prog 40 #[.agg #[.int .i64 t, .int .i64 r]] w fun e w' => e = .returned (.int .i64 20) ∧ ∃ q os, w' = grow (w.drewN q) os) := fun w => by
      have := refCheck_any w t r
      rwa [show isKey (t, r) = false by simpa using hk] at this
    clear hk hr
    go_enter Tryz.func41, Tryz.ntmps41
    go_wp2_with fail
    refine (HCk.out _).mono ?_
    rintro e w1 ⟨rfl, g1⟩
    have HG1 : Hid (Grew w w1) := ((Grew.refl _).alloc _).trans g1
    clear g1
    go_wp2
    go_ret
    exact ⟨by rw [HH.out]; rfl, HG1.out⟩

end Go.Proofs.YtbcmmeajglilbaaGreat
/-
  StorePlays: THE DOCUMENT'S Newest, Before, Look, KeyOf, Part; the code's Part of any key, and Before of a number that isn't there.
-/
namespace Go.Proofs.YtbcmmeajglilbaaGreat
open Go.RowKit Go.Sort

/-- no place is above the last batch -/
def BaOK (vs : List Vr) : Prop := ∀ v ∈ vs, v.ba ≤ 1099511627776
theorem lastI_congr {f g : Vr → Bool} {vs : List Vr} (h : ∀ v ∈ vs, f v = g v) : ∀ n, n ≤ vs.length → lastI f vs n = lastI g vs n
  | 0, _ => rfl
  | n + 1, hn => by
    have h1 : f vs[n]! = g vs[n]! := h _ (by rw [getElem!_pos vs n (by omega)]; exact List.getElem_mem (by omega))
    rw [lastI_step, lastI_step, h1, lastI_congr h n (by omega)]
theorem lastI_top {vs : List Vr} (h : BaOK vs) (k : K) : lastI (belF k 9223372036854775807 9223372036854775807) vs vs.length = lastI (fun v => decide (v.k = k)) vs vs.length :=
  lastI_congr (fun v hv => by
    have h1 := h v hv
    have : latB 9223372036854775807 9223372036854775807 v.ba v.ix = true := decide_eq_true (.inl (by omega))
    unfold belF
    rw [this, Bool.and_true]) _ (Nat.le_refl _)
/-- what Before answers -/
def befN (vs : List Vr) (n : Int) : Int := match fv vs n with | none => 0 | some v => numI vs (lastI (belF v.k v.ba v.ix) vs vs.length)
theorem befN_last {vs A C : List Vr} {v : Vr} (hp : PLk vs) (hn : (vs.map Vr.n).Nodup) (hv : v ∈ vs) (hs : ofK v.k vs = A ++ v :: C) : befN vs v.n = lastN A := by
  unfold befN
  rw [fv_of hn hv]
  simp only
  rw [numI_last]
  have e : vs.filter (belF v.k v.ba v.ix) = A := by
    rw [← num_ahead hp hs]
    congr 1
    funext x
    unfold belF latB later
    rw [Bool.decide_and]
  rw [e]
  rfl
abbrev toldQ (v : Vr) : Value := .agg #[.int .i64 v.ba, .int .i64 v.ix, .bool v.fl, .bool v.ci, .int .i64 v.cv]
section
variable (w : World) (base R P : Nat) (cap last : Int) (av : Value) (vs : List Vr)
set_option maxRecDepth 100000 in
set_option maxHeartbeats 2000000 in
theorem rnewest_any (h : RDs w base R P cap last av vs) (hl : vs.length ≤ 65536) (hp : PLk vs) (hb : BaOK vs) (k1 k2 : Int) :
    Calls Tryz.prog 25 #[ptr R, .agg #[.int .i64 k1, .int .i64 k2]] w fun e w' => GrI w (newestN (k1, k2) vs) e w' := by
  have mx := mixed
  rw [← num_newest, ← lastI_top hb]
  obtain ⟨x, hx⟩ : ∃ x, x = lastI (belF (k1, k2) 9223372036854775807 9223372036854775807) vs vs.length := ⟨_, rfl⟩
  have hxl : x < (vs.length : Int) := by rw [hx]; exact (lastI_lt _ vs _).2
  have hBl : ∀ W, Grew w W → Calls Tryz.prog 48 #[ptr R, .agg #[.int .i64 k1, .int .i64 k2], topV] W fun e w' => e = .returned (.int .i64 x) ∧ ∃ q os, w' = grow (W.drewN q) os := fun W hW => by
    rw [hx]; exact rbelow_any W base R P cap last av vs (h.kept hW.below) hl hp k1 k2 _ _ _ _ _
  have hNb : ∀ W, Grew w W → Calls Tryz.prog 58 #[ptr R, .int .i64 x] W fun e w' => e = .returned (.int .i64 (numI vs x)) ∧ ∃ q os, w' = grow (W.drewN q) os := fun W hW =>
    (rnumber_any W base R P cap last av vs (h.kept hW.below) x hxl).mono (fun e w' hq => ⟨hq.1, by rw [hq.2]; exact Grew.refl W⟩)
  have hT : ∀ W, Calls Tryz.prog 49 #[] W fun e w' => e = .returned topV ∧ ∃ q os, w' = grow (W.drewN q) os := rtop_any
  rw [← hx]
  generalize numI vs x = y at *
  have HBl := hidS hBl
  have HNb := hidS hNb
  have HT := hidS hT
  clear h hl hp hb hx hxl hBl hNb hT
  go_enter Tryz.func25, Tryz.ntmps25
  go_wp2_with fail
  have HB0 : Hid (Box (w.alloc (.cells #[.int .i64 k1, .int .i64 k2] 41)) w.heap.size k1 k2) := Box.new rfl
  have HG0 : Hid (Grew w (w.alloc (.cells #[.int .i64 k1, .int .i64 k2] 41))) := (Grew.refl _).alloc _
  generalize w.alloc (.cells #[.int .i64 k1, .int .i64 k2] 41) = W1 at *
  have g0 : ∀ m os, (grow (W1.drewN m) os).cell? ⟨w.heap.size, 0, none⟩ = some (.int .i64 k1) := fun m os => Grew.cell ⟨m, os, rfl⟩ HB0.out.1
  have g1 : ∀ m os, (grow (W1.drewN m) os).cell? ⟨w.heap.size, 1, none⟩ = some (.int .i64 k2) := fun m os => Grew.cell ⟨m, os, rfl⟩ HB0.out.2
  have HB2 : Hid (∀ m os, Calls Tryz.prog 48 #[ptr R, .agg #[.int .i64 k1, .int .i64 k2], topV] (grow (W1.drewN m) os) fun e w' => e = .returned (.int .i64 x) ∧ ∃ q os', w' = grow ((grow (W1.drewN m) os).drewN q) os') := fun m os => HBl.out _ (HG0.out.trans ⟨m, os, rfl⟩)
  have HN2 : Hid (∀ m os, Calls Tryz.prog 58 #[ptr R, .int .i64 x] (grow (W1.drewN m) os) fun e w' => e = .returned (.int .i64 y) ∧ ∃ q os', w' = grow ((grow (W1.drewN m) os).drewN q) os') := fun m os => HNb.out _ (HG0.out.trans ⟨m, os, rfl⟩)
  clear HBl HNb
  refine wp_region_quiet_grown mx (by kernel_rfl) ?_
  repeat (go_big_quiet_step (first | (go_at_call 49; exact Calls.grown_of (HT.out _)) | (go_at_call 48; exact Calls.grown_of (HB2.out _ _)) | (go_at_call 58; exact Calls.grown_of (HN2.out _ _))))
  refine wpQuiet_nil ?_
  intro _ hw'
  obtain ⟨⟨nq, osq⟩, hw''⟩ := hw'
  subst hw''
  have HF : Hid (Grew w (grow (W1.drewN nq) osq)) := HG0.out.trans ⟨nq, osq, rfl⟩
  generalize grow (W1.drewN nq) osq = W2 at *
  go_wp2
  go_ret
  exact ⟨rfl, HF.out⟩
set_option maxRecDepth 100000 in
set_option maxHeartbeats 4000000 in
theorem rbefore_any (h : RDs w base R P cap last av vs) (hl : vs.length ≤ 65536) (hp : PLk vs) (hn : (vs.map Vr.n).Nodup) (n : Int) :
    Calls Tryz.prog 23 #[ptr R, .int .i64 n] w fun e w' => GrI w (befN vs n) e w' := by
  have mx := mixed
  have HAt := hidS (rat_any w base R P cap last av vs h hl hn n)
  have HR := hidS h
  have HP := hidS hp
  have HL := hidS hl
  clear h hp hl hn
  go_enter Tryz.func23, Tryz.ntmps23
  go_wp2_with fail
  refine HAt.out.mono ?_
  rintro e w1 ⟨⟨x, hx, rfl⟩, rfl⟩
  rcases hx with ⟨rfl, hf⟩ | ⟨i, hi, rfl, _, hf⟩
  · have HE : Hid (befN vs n = 0) := by show _ = _; unfold befN; rw [hf]
    clear hf HAt
    go_wp2
    go_ret
    exact ⟨by rw [HE.out]; rfl, Grew.refl _⟩
  · have HE : Hid (befN vs n = numI vs (lastI (belF (vs[i]!.k.1, vs[i]!.k.2) vs[i]!.ba vs[i]!.ix) vs vs.length)) := by show _ = _; unfold befN; rw [hf]
    obtain ⟨y, hy⟩ : ∃ y, y = lastI (belF (vs[i]!.k.1, vs[i]!.k.2) vs[i]!.ba vs[i]!.ix) vs vs.length := ⟨_, rfl⟩
    have hyl : y < (vs.length : Int) := by rw [hy]; exact (lastI_lt _ vs _).2
    have hBl : ∀ m os, Calls Tryz.prog 48 #[ptr R, .agg #[.int .i64 vs[i]!.k.1, .int .i64 vs[i]!.k.2], toldQ vs[i]!] (grow (w1.drewN m) os) fun e w' => e = .returned (.int .i64 y) ∧ ∃ q os', w' = grow ((grow (w1.drewN m) os).drewN q) os' := fun m os => by
      rw [hy]; exact rbelow_any _ base R P cap last av vs (HR.out.kept (Grew.below ⟨m, os, rfl⟩)) HL.out HP.out _ _ _ _ _ _ _
    have hNb : ∀ m os, Calls Tryz.prog 58 #[ptr R, .int .i64 y] (grow (w1.drewN m) os) fun e w' => e = .returned (.int .i64 (numI vs y)) ∧ ∃ q os', w' = grow ((grow (w1.drewN m) os).drewN q) os' := fun m os =>
      (rnumber_any _ base R P cap last av vs (HR.out.kept (Grew.below ⟨m, os, rfl⟩)) y hyl).mono (fun e w' hq => ⟨hq.1, by rw [hq.2]; exact Grew.refl _⟩)
    rw [← hy] at HE
    obtain ⟨g, c, rfl, _, c1, c2, c3, c4, c5, c6, c7⟩ := HR.out.ent hi
    have r2 := HR.out.cells.2.2.1
    generalize numI vs y = z at *
    obtain ⟨an, han⟩ : ∃ an, an = vs.length := ⟨_, rfl⟩
    rw [← han] at r2 hi
    clear han hy hyl hf
    unfold toldQ at hBl
    generalize vs[i]!.k.1 = x1 at *
    generalize vs[i]!.k.2 = x2 at *
    generalize vs[i]!.ba = x3 at *
    generalize vs[i]!.ix = x4 at *
    generalize vs[i]!.fl = x5 at *
    generalize vs[i]!.ci = x6 at *
    generalize vs[i]!.cv = x7 at *
    have HBl := hidS hBl
    have HNb := hidS hNb
    have ub : ∀ {p : Addr} {v : Value}, w1.cell? p = some v → ∀ n os, (grow (w1.drewN n) os).cell? p = some v := fun hc n os => Grew.cell ⟨n, os, rfl⟩ hc
    have q1 := ub c1
    have q2 := ub c2
    have q3 := ub c3
    have q4 := ub c4
    have q5 := ub c5
    have q6 := ub c6
    have q7 := ub c7
    have rr := ub r2
    have hib : decide ((i : Int) < 0) = false := by simp
    clear ub hBl hNb HAt HR HP HL
    go_wp2_with fail
    refine wp_region_quiet_grown mx (by kernel_rfl) ?_
    repeat (go_big_quiet_step (first | (go_at_call 48; exact Calls.grown_of (HBl.out _ _)) | (go_at_call 58; exact Calls.grown_of (HNb.out _ _))))
    refine wpQuiet_nil ?_
    intro _ hw'
    obtain ⟨⟨nq, osq⟩, hw''⟩ := hw'
    subst hw''
    have HF : Hid (Grew w1 (grow (w1.drewN nq) osq)) := ⟨nq, osq, rfl⟩
    generalize grow (w1.drewN nq) osq = W2 at *
    go_wp2
    go_ret
    exact ⟨by rw [HE.out]; rfl, HF.out⟩
theorem at_none (h : RDs w base R P cap last av vs) (hl : vs.length ≤ 65536) (hn : (vs.map Vr.n).Nodup) (n : Int) (hf : fv vs n = none) :
    Calls Tryz.prog 52 #[ptr R, .int .i64 n] w fun e w' => e = .returned (.int .i64 (-1)) ∧ w' = w := by
  refine (rat_any w base R P cap last av vs h hl hn n).mono ?_
  rintro e w' ⟨⟨x, hx, rfl⟩, rfl⟩
  rcases hx with ⟨rfl, _⟩ | ⟨i, _, _, _, h2⟩
  · exact ⟨rfl, rfl⟩
  · rw [hf] at h2; cases h2
theorem at_some (hl : vs.length ≤ 65536) (hn : (vs.map Vr.n).Nodup) (n : Int) (v : Vr) (hf : fv vs n = some v) :
    ∃ i, i < vs.length ∧ vs[i]! = v ∧ ∀ W, RDs W base R P cap last av vs → Calls Tryz.prog 52 #[ptr R, .int .i64 n] W fun e w' => e = .returned (.int .i64 (i : Int)) ∧ w' = W := by
  obtain ⟨hv, rfl⟩ := fv_some hf
  obtain ⟨i, hi, rfl⟩ := List.getElem_of_mem hv
  refine ⟨i, hi, getElem!_pos vs i hi, fun W hW => (rat_any W base R P cap last av vs hW hl hn _).mono ?_⟩
  rintro e w' ⟨⟨x, hx, rfl⟩, rfl⟩
  rcases hx with ⟨rfl, h2⟩ | ⟨j, hj, rfl, h2, _⟩
  · rw [hf] at h2; cases h2
  · refine ⟨?_, rfl⟩
    have : j = i := by
      rw [getElem!_pos vs j hj] at h2
      exact (List.getElem_inj (i := j) (j := i) (h₀ := by simpa using hj) (h₁ := by simpa using hi) hn).1 (by simpa using h2)
    rw [this]
set_option maxRecDepth 100000 in
set_option maxHeartbeats 2000000 in
theorem rlook_any (h : RDs w base R P cap last av vs) (hl : vs.length ≤ 65536) (hn : (vs.map Vr.n).Nodup) (n : Int) :
    Calls Tryz.prog 19 #[ptr R, .int .i64 n] w fun e w' => e = .returned (.tuple #[(lkV (fv vs n)).1, .int .i64 (lkV (fv vs n)).2]) ∧ Below w.heap.size w w' := by
  have HB : Hid (∀ o, Below w.heap.size w (w.alloc o)) := fun o => (Below.refl _ _).alloc (Nat.le_refl _) _
  have HR : Hid (∀ o, RDs (w.alloc o) base R P cap last av vs) := fun o => h.kept (HB.out o)
  cases hc : fv vs n with
  | none =>
    have HA : Hid (∀ o, Calls Tryz.prog 52 #[ptr R, .int .i64 n] (w.alloc o) fun e w' => e = .returned (.int .i64 (-1)) ∧ w' = w.alloc o) := fun o => at_none _ base R P cap last av vs (HR.out o) hl hn n hc
    clear h hl hn hc
    go_enter Tryz.func19, Tryz.ntmps19
    go_wp2_with fail
    refine (HA.out _).mono ?_
    rintro e w1 ⟨rfl, rfl⟩
    go_wp2
    refine bodyPost_ret (v := .tuple #[toldV v0, .int .i64 93]) (by simp [results, Tryz.results19, go_sem, v0]) rfl ?_
    exact ⟨rfl, HB.out _⟩
  | some v =>
    obtain ⟨i, hi, hvi, hA⟩ := at_some base R P cap last av vs hl hn n v hc
    have HA : Hid (∀ o, Calls Tryz.prog 52 #[ptr R, .int .i64 n] (w.alloc o) fun e w' => e = .returned (.int .i64 (i : Int)) ∧ w' = w.alloc o) := fun o => hA _ (HR.out o)
    obtain ⟨g, c, rfl, c0, c1, c2, c3, c4, c5, c6, c7⟩ := h.ent hi
    have r2 := h.cells.2.2.1
    rw [hvi] at c0 c1 c2 c3 c4 c5 c6 c7
    have al : ∀ {p : Addr} {v : Value}, w.cell? p = some v → ∀ o, (w.alloc o).cell? p = some v := fun hc o => Grew.cell ((Grew.refl w).alloc o) hc
    have q3 := al c3
    have q4 := al c4
    have q5 := al c5
    have q6 := al c6
    have q7 := al c7
    have rr := al r2
    obtain ⟨an, han⟩ : ∃ an, an = vs.length := ⟨_, rfl⟩
    rw [← han] at rr hi
    have hib : decide ((i : Int) < 0) = false := by simp
    clear h hl hn hc hA hvi c0 c1 c2 c3 c4 c5 c6 c7 r2 al han HR
    go_enter Tryz.func19, Tryz.ntmps19
    go_wp2_with fail
    refine (HA.out _).mono ?_
    rintro e w1 ⟨rfl, rfl⟩
    go_wp2
    refine bodyPost_ret (v := .tuple #[toldV v, .int .i64 0]) (by simp [results, Tryz.results19, go_sem]) rfl ?_
    exact ⟨rfl, HB.out _⟩
set_option maxRecDepth 100000 in
set_option maxHeartbeats 2000000 in
theorem rkeyof_any (h : RDs w base R P cap last av vs) (hl : vs.length ≤ 65536) (hn : (vs.map Vr.n).Nodup) (n : Int) :
    Calls Tryz.prog 21 #[ptr R, .int .i64 n] w fun e w' => e = .returned (.tuple #[kv (koV (fv vs n)).1, .int .i64 (koV (fv vs n)).2]) ∧ Below w.heap.size w w' := by
  have HB : Hid (∀ o, Below w.heap.size w (w.alloc o)) := fun o => (Below.refl _ _).alloc (Nat.le_refl _) _
  have HR : Hid (∀ o, RDs (w.alloc o) base R P cap last av vs) := fun o => h.kept (HB.out o)
  cases hc : fv vs n with
  | none =>
    have HA : Hid (∀ o, Calls Tryz.prog 52 #[ptr R, .int .i64 n] (w.alloc o) fun e w' => e = .returned (.int .i64 (-1)) ∧ w' = w.alloc o) := fun o => at_none _ base R P cap last av vs (HR.out o) hl hn n hc
    clear h hl hn hc
    go_enter Tryz.func21, Tryz.ntmps21
    go_wp2_with fail
    refine (HA.out _).mono ?_
    rintro e w1 ⟨rfl, rfl⟩
    go_wp2
    refine bodyPost_ret (v := .tuple #[.agg #[.int .i64 0, .int .i64 0], .int .i64 93]) (by simp [results, Tryz.results21, go_sem]) rfl ?_
    exact ⟨rfl, HB.out _⟩
  | some v =>
    obtain ⟨i, hi, hvi, hA⟩ := at_some base R P cap last av vs hl hn n v hc
    have HA : Hid (∀ o, Calls Tryz.prog 52 #[ptr R, .int .i64 n] (w.alloc o) fun e w' => e = .returned (.int .i64 (i : Int)) ∧ w' = w.alloc o) := fun o => hA _ (HR.out o)
    obtain ⟨g, c, rfl, c0, c1, c2, c3, c4, c5, c6, c7⟩ := h.ent hi
    have r2 := h.cells.2.2.1
    rw [hvi] at c0 c1 c2 c3 c4 c5 c6 c7
    have al : ∀ {p : Addr} {v : Value}, w.cell? p = some v → ∀ o, (w.alloc o).cell? p = some v := fun hc o => Grew.cell ((Grew.refl w).alloc o) hc
    have q1 := al c1
    have q2 := al c2
    have rr := al r2
    obtain ⟨an, han⟩ : ∃ an, an = vs.length := ⟨_, rfl⟩
    rw [← han] at rr hi
    have hib : decide ((i : Int) < 0) = false := by simp
    clear h hl hn hc hA hvi c0 c1 c2 c3 c4 c5 c6 c7 r2 al han HR
    go_enter Tryz.func21, Tryz.ntmps21
    go_wp2_with fail
    refine (HA.out _).mono ?_
    rintro e w1 ⟨rfl, rfl⟩
    go_wp2
    refine bodyPost_ret (v := .tuple #[kv v.k, .int .i64 0]) (by simp [results, Tryz.results21, go_sem]) rfl ?_
    exact ⟨rfl, HB.out _⟩
theorem partV_in {k : K} {P : Nat} (hP : 1 ≤ P ∧ P ≤ 256) : partV k (P : Int) = if isKey k then ((hash k % P : Nat) : Int) else 0 := by
  have hok : okParts (P : Int) = true := (okParts_iff _).2 (by omega)
  unfold partV
  rw [if_pos hok]
  simp
set_option maxRecDepth 100000 in
set_option maxHeartbeats 2000000 in
theorem rpart_any (h : RDs w base R P cap last av vs) (hP : 1 ≤ P ∧ P ≤ 256) (k1 k2 : Int) (hk2 : In64 k2) :
    Calls Tryz.prog 8 #[ptr R, .agg #[.int .i64 k1, .int .i64 k2]] w fun e w' => GrI w (partV (k1, k2) (P : Int)) e w' := by
  have mx := mixed
  have HG0 : Hid (Grew w (w.alloc (.cells #[.int .i64 k1, .int .i64 k2] 41))) := (Grew.refl _).alloc _
  have HB0 : Hid (Box (w.alloc (.cells #[.int .i64 k1, .int .i64 k2] 41)) w.heap.size k1 k2) := Box.new rfl
  have HR := hidS (h.kept HG0.out.below)
  have HC : Hid (∀ w, Calls Tryz.prog 40 #[.agg #[.int .i64 k1, .int .i64 k2]] w fun e w' => e = .returned (.int .i64 (errOf (isKey (k1, k2)) 20)) ∧ ∃ q os, w' = grow (w.drewN q) os) := fun w => refCheck_any w k1 k2
  have HH : Hid (∀ w, Calls Tryz.prog 41 #[.agg #[.int .i64 k1, .int .i64 k2]] w fun e w' => e = .returned (.int .u64 ((hash (k1, k2) : Nat) : Int)) ∧ ∃ q os, w' = grow (w.drewN q) os) := fun w => refHash_any w k1 k2 hk2
  have hl := hash_lt (k1, k2)
  have HV : Hid (partV (k1, k2) (P : Int) = if isKey (k1, k2) then ((hash (k1, k2) : Int) % (P : Int)) else 0) := by show _ = _; rw [partV_in hP]; simp
  clear h hk2
  generalize partV (k1, k2) (P : Int) = pv at *
  generalize hash (k1, k2) = hv at *
  cases hk : isKey (k1, k2) with
  | true =>
    rw [hk] at HC HV
    go_enter Tryz.func8, Tryz.ntmps8
    go_wp2_with fail
    generalize w.alloc (.cells #[.int .i64 k1, .int .i64 k2] 41) = W1 at *
    refine (HC.out W1).mono ?_
    rintro e w1 ⟨rfl, g1⟩
    have B1 : Hid (Box w1 w.heap.size k1 k2) := HB0.out.grew g1
    have HG1 : Hid (Grew w w1) := HG0.out.trans g1
    have HR1 := hidS (HR.out.kept (Grew.below g1)).cells.1
    clear g1 HC HB0 HG0 HR
    have ub : ∀ {p : Addr} {v : Value}, w1.cell? p = some v → ∀ n os, (grow (w1.drewN n) os).cell? p = some v := fun hc n os => Grew.cell ⟨n, os, rfl⟩ hc
    have p1 := ub B1.out.1
    have p2 := ub B1.out.2
    have p3 := ub HR1.out
    clear ub
    have hm : (hv : Int) % (P : Int) < 256 := by have := Int.emod_lt_of_pos (hv : Int) (show (0 : Int) < P by omega); omega
    have hm0 : 0 ≤ (hv : Int) % (P : Int) := Int.emod_nonneg _ (by omega)
    obtain ⟨hP1, hP2⟩ := hP
    have hu : IntKind.u64.wrap (P : Int) = (P : Int) := by unfold IntKind.wrap; simp [IntKind.signed, IntKind.bits]; omega
    have hP0 : ((P : Int) == 0) = false := by simp; omega
    go_wp2_with fail
    refine wp_region_quiet_grown mx (by kernel_rfl) ?_
    repeat (go_big_quiet_step ((go_at_call 41; exact Calls.grown_of (HH.out _))))
    refine wpQuiet_nil ?_
    intro _ hw'
    obtain ⟨⟨nq, osq⟩, hw''⟩ := hw'
    subst hw''
    have HF : Hid (Grew w (grow (w1.drewN nq) osq)) := HG1.out.trans ⟨nq, osq, rfl⟩
    generalize grow (w1.drewN nq) osq = W2 at *
    go_wp2
    go_ret
    exact ⟨by rw [HV.out]; rfl, HF.out⟩
  | false =>
    rw [hk] at HC HV
    go_enter Tryz.func8, Tryz.ntmps8
    go_wp2_with fail
    generalize w.alloc (.cells #[.int .i64 k1, .int .i64 k2] 41) = W1 at *
    refine (HC.out W1).mono ?_
    rintro e w1 ⟨rfl, g1⟩
    have HG1 : Hid (Grew w w1) := HG0.out.trans g1
    clear g1 HC HB0 HG0 HR HH
    go_wp2
    go_ret
    exact ⟨by rw [HV.out]; rfl, HG1.out⟩
end
end Go.Proofs.YtbcmmeajglilbaaGreat
