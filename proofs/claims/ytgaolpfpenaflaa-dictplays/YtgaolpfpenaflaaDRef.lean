/-
  THE DOCUMENT's Dict: at, Get, New, Clear.
-/
import Derived.Test.YtgaolpfpenaflaaDPair
namespace Go.Proofs.Ytgaolpfpenaflaa
open Go.RowKit Go.Sort

abbrev TR : TypeId := 77
/-- the document's Dict in block R -/
structure RA (w : World) (base R P : Nat) (v : Value) (es : List En) : Prop where
  blk : w.heap[R]? = some (.cells #[.int .i64 (P : Int), v] TR (0, 0))
  row : OwnQ w base v es
  P0 : 1 ≤ P ∧ P ≤ 256
theorem RA.same {w w' : World} {base R P : Nat} {v : Value} {es : List En} (h : RA w base R P v es) (hs : ∀ k, k = R ∨ v.ownBlock = some k → w'.heap[k]? = w.heap[k]?) : RA w' base R P v es :=
  ⟨(hs R (.inl rfl)).trans h.blk, h.row.same (fun g hg => hs g (.inr hg)), h.P0⟩
theorem RA.kept {w w' : World} {base R P : Nat} {v : Value} {es : List En} (h : RA w base R P v es) (hb : Below w.heap.size w w') : RA w' base R P v es :=
  h.same (fun k hk => by
    rcases hk with rfl | hk
    · exact hb.block _ (blk_lt h.blk)
    · exact hb.block _ (h.row.lt k hk).2)
theorem RA.cells {w : World} {base R P : Nat} {v : Value} {es : List En} (h : RA w base R P v es) : w.cell? ⟨R, 0, none⟩ = some (.int .i64 (P : Int)) ∧ w.cell? ⟨R, 1, none⟩ = some v := by
  constructor <;> rw [World.cell?, h.blk] <;> rfl
/-- its place, or -1 -/
def ix (es : List En) (k : K) : Int := match es.findIdx? (fun e => decide (e.k = k)) with | some j => (j : Int) | none => -1
theorem ix_none {es : List En} {k : K} (h : ∀ j (hj : j < es.length), es[j].k ≠ k) : ix es k = -1 := by
  unfold ix
  rw [List.findIdx?_eq_none_iff.2 (fun x hx => by
    obtain ⟨j, hj, rfl⟩ := List.mem_iff_getElem.1 hx
    simpa using h j hj)]
theorem ix_some {es : List En} {k : K} {j : Nat} (hj : j < es.length) (hk : es[j].k = k) (h : ∀ i (hi : i < j), es[i].k ≠ k) : ix es k = (j : Int) := by
  unfold ix
  have : es.findIdx? (fun e => decide (e.k = k)) = some j := by
    rw [List.findIdx?_eq_some_iff_getElem]
    exact ⟨hj, by simpa using hk, fun i hi => by simpa using h i hi⟩
  rw [this]

set_option maxRecDepth 100000 in
set_option maxHeartbeats 1000000 in
theorem at_any (w : World) (base R P : Nat) (v : Value) (es : List En) (k : K) (h : RA w base R P v es) (hm : es.length ≤ 4000000000000) :
    Calls Try.prog 52 #[ptr R, kv k] w fun e w' => e = .returned (.int .i64 (ix es k)) ∧ Below w.heap.size w w' := by
  obtain ⟨k1, k2⟩ := k
  have HB1 : Hid (Below w.heap.size w (w.alloc (.cells #[.int .i64 k1, .int .i64 k2] 28))) := (Below.refl _ _).alloc (Nat.le_refl _) _
  have HR : Hid (RA (w.alloc (.cells #[.int .i64 k1, .int .i64 k2] 28)) base R P v es) := h.kept HB1.out
  have b0 : (w.alloc (.cells #[.int .i64 k1, .int .i64 k2] 28)).cell? ⟨w.heap.size, 0, none⟩ = some (.int .i64 k1) := by rw [World.cell?, heap_alloc_new _ _ rfl]; rfl
  have b1 : (w.alloc (.cells #[.int .i64 k1, .int .i64 k2] 28)).cell? ⟨w.heap.size, 1, none⟩ = some (.int .i64 k2) := by rw [World.cell?, heap_alloc_new _ _ rfl]; rfl
  clear h
  go_enter Try.func52, Try.ntmps52
  go_wp2
  generalize w.alloc (.cells #[.int .i64 k1, .int .i64 k2] 28) = W1 at *
  obtain ⟨_, c1⟩ := HR.out.cells
  obtain ⟨ao, cap, rfl, hpr, hnil, hcap⟩ := HR.out.row.slice
  have HP : Hid (PrAt W1 ao es) := hpr
  clear hpr hnil hcap
  obtain ⟨n, hn⟩ : ∃ n, n = es.length := ⟨_, rfl⟩
  rw [← hn] at c1 hm
  have HN : Hid (n = es.length) := hn
  clear hn
  go_loopw [5] (fun i wr => ∃ j : Nat, j ≤ n ∧ i = .int .i64 (j : Int) ∧ Hid (∀ t (ht : t < es.length), t < j → es[t].k ≠ (k1, k2)) ∧ ∃ q, wr = W1.drewN q) (fun i _ => n - (intOf i).toNat)
  case atStart => exact ⟨0, Nat.zero_le _, rfl, fun t _ h0 => by omega, 0, rfl⟩
  case round =>
    obtain ⟨j, hj, rfl, HA, q, rfl⟩ := hrel
    by_cases hlt : j < n
    · have hjl : j < es.length := by have := HN.out; omega
      obtain ⟨b, off, hao, hc⟩ : ∃ b off, ao = some ⟨b, off, none⟩ ∧ ∀ j u, (cpq es)[j]? = some u → W1.cell? ⟨b, off + j, none⟩ = some u := by
        rcases HP.out with h0 | h0
        · rw [h0] at hjl; simp at hjl
        · exact h0
      obtain ⟨y0, y1, _, _⟩ := PrAt.cells hc j hjl
      subst hao
      have HX : Hid (∀ z, es[j].k = z → es[j].k = z) := fun _ h => h
      by_cases hz : es[j].k = (k1, k2)
      · have HI : Hid (ix es (k1, k2) = (j : Int)) := ix_some hjl hz (fun i hi => HA.out i (by omega) hi)
        rw [hz] at y0 y1
        simp only at y0 y1
        have hq := run_eqKey k1 k2 k1 k2
        simp only [decide_true] at hq
        have hgd := fun op x y => run_eqGuard op x y k1 k2 k1 k2
        clear hz HX hc
        go_wp2_with fail
        go_quiet (fail)
        go_wp2
        go_ret
        exact ⟨by rw [HI.out]; rfl, HB1.out.trans ((Grew.below (((Grew.refl W1).drewN _).drewN _)).mono HB1.out.size)⟩
      · have HA2 : Hid (∀ t (ht : t < es.length), t < j + 1 → es[t].k ≠ (k1, k2)) := fun t ht h0 => by
          by_cases e : t = j
          · subst e; exact hz
          · exact HA.out t ht (by omega)
        generalize es[j].k = z at *
        obtain ⟨z1, z2⟩ := z
        simp only at y0 y1
        have hq := run_eqKey z1 z2 k1 k2
        rw [decide_eq_false hz] at hq
        have hgd := fun op x y => run_eqGuard op x y z1 z2 k1 k2
        clear hz HX hc
        go_wp2_with fail
        go_quiet (fail)
        go_wp2
        go_roundw
        case rel => exact ⟨j + 1, by omega, by go_num, HA2, _, rfl⟩
        case measure => simp [intOf]; omega
    · obtain rfl : j = n := by omega
      have HI : Hid (ix es (k1, k2) = -1) := ix_none (fun t ht => HA.out t ht (by have := HN.out; omega))
      go_wp2
      go_ret
      exact ⟨by rw [HI.out]; rfl, HB1.out.trans ((Grew.below ((Grew.refl W1).drewN _)).mono HB1.out.size)⟩

theorem ix_fd_none {es : List En} {k : K} (h : fd es k = none) : ix es k = -1 := ix_none (fun _ hj => fd_none h _ (List.getElem_mem hj))
theorem ix_fd_some {es : List En} {k : K} {e : En} (h : fd es k = some e) : ∃ (j : Nat) (hj : j < es.length), ix es k = (j : Int) ∧ es[j] = e := by
  obtain ⟨j, hj⟩ := List.find?_eq_some_iff_getElem.1 h |>.2
  obtain ⟨hl, he, hb⟩ := hj
  have hk := (fd_some h).2
  exact ⟨j, hl, ix_some hl (by rw [he]; exact hk) (fun i hi => by have := hb i hi; simpa using this), he⟩

set_option maxRecDepth 100000 in
set_option maxHeartbeats 1000000 in
theorem rget_any (w : World) (base R P : Nat) (v : Value) (es : List En) (k : K) (h : RA w base R P v es) (hm : es.length ≤ 4000000000000) :
    Calls Try.prog 31 #[ptr R, kv k] w fun e w' => e = .returned (.tuple #[.int .i64 (vv (fd es k)), .bool (fd es k).isSome]) ∧ Below w.heap.size w w' := by
  obtain ⟨k1, k2⟩ := k
  have HB1 : Hid (Below w.heap.size w (w.alloc (.cells #[.int .i64 k1, .int .i64 k2] 28))) := (Below.refl _ _).alloc (Nat.le_refl _) _
  have HR : Hid (RA (w.alloc (.cells #[.int .i64 k1, .int .i64 k2] 28)) base R P v es) := h.kept HB1.out
  clear h
  go_enter Try.func31, Try.ntmps31
  go_wp2_with fail
  generalize w.alloc (.cells #[.int .i64 k1, .int .i64 k2] 28) = W1 at *
  refine (at_any W1 base R P v es (k1, k2) HR.out hm).mono ?_
  rintro e w2 ⟨rfl, hb2⟩
  have HB2 : Hid (Below w.heap.size w w2) := HB1.out.trans (hb2.mono HB1.out.size)
  have HR2 : Hid (RA w2 base R P v es) := HR.out.kept hb2
  clear hb2
  cases hc : fd es (k1, k2) with
  | none =>
    rw [ix_fd_none hc]
    go_wp2
    go_ret2
    exact ⟨by rw [hc]; rfl, HB2.out⟩
  | some e0 =>
    obtain ⟨j, hj, hi, he⟩ := ix_fd_some hc
    rw [hi]
    obtain ⟨_, c1⟩ := HR2.out.cells
    obtain ⟨ao, cap, rfl, hpr, _, _⟩ := HR2.out.row.slice
    obtain ⟨b, off, hao, hcc⟩ : ∃ b off, ao = some ⟨b, off, none⟩ ∧ ∀ j u, (cpq es)[j]? = some u → w2.cell? ⟨b, off + j, none⟩ = some u := by
      rcases hpr with h0 | h0
      · rw [h0] at hj; simp at hj
      · exact h0
    obtain ⟨_, _, y2, _⟩ := PrAt.cells hcc j hj
    rw [he] at y2
    subst hao
    go_wp2
    go_ret2
    exact ⟨by rw [hc]; rfl, HB2.out⟩

set_option maxRecDepth 100000 in
set_option maxHeartbeats 1000000 in
theorem rnew_ok (w : World) (n : Nat) (h1 : 1 ≤ n) (h2 : n ≤ 256) :
    Calls Try.prog 10 #[.int .i64 (n : Int)] w fun e w' => e = .returned (.tuple #[ptr w.heap.size, .int .i64 0]) ∧ RA w' w.heap.size w.heap.size n (.slice none 0 0) [] ∧ Below w.heap.size w w' := by
  have HF : Hid (RA (w.alloc (.cells #[.int .i64 (n : Int), .slice none 0 0] TR)) w.heap.size w.heap.size n (.slice none 0 0) [] ∧ Below w.heap.size w (w.alloc (.cells #[.int .i64 (n : Int), .slice none 0 0] TR))) := ⟨⟨heap_alloc_new _ _ rfl, OwnQ.nil _ _, h1, h2⟩, (Below.refl _ _).alloc (Nat.le_refl _) _⟩
  go_enter Try.func10, Try.ntmps10
  go_wp2
  go_ret2
  exact ⟨rfl, HF.out.1, HF.out.2⟩
set_option maxRecDepth 100000 in
set_option maxHeartbeats 1000000 in
theorem rnew_bad (w : World) (p : Int) (h : p < 1 ∨ 256 < p) :
    Calls Try.prog 10 #[.int .i64 p] w fun e w' => e = .returned (.tuple #[.pointer none, .int .i64 21]) ∧ w' = w := by
  go_enter Try.func10, Try.ntmps10
  by_cases h1 : p < 1
  · go_wp2
    go_ret2
    exact ⟨rfl, rfl⟩
  · have h2 : 256 < p := by omega
    go_wp2
    go_ret2
    exact ⟨rfl, rfl⟩
set_option maxRecDepth 100000 in
set_option maxHeartbeats 1000000 in
theorem new_bad (w : World) (p : Int) (f : Nat) (h : p < 1 ∨ 256 < p) :
    Calls Try.prog 7 #[.int .i64 p, hfn f] w fun e w' => e = .returned (.tuple #[.pointer none, .int .i64 21]) ∧ w' = w := by
  go_enter Try.func7, Try.ntmps7
  by_cases h1 : p < 1
  · go_wp2
    go_ret2
    exact ⟨rfl, rfl⟩
  · have h2 : 256 < p := by omega
    go_wp2
    go_ret2
    exact ⟨rfl, rfl⟩
set_option maxRecDepth 100000 in
set_option maxHeartbeats 1000000 in
theorem rclear_any (w : World) (base R P : Nat) (v : Value) (es : List En) (h : RA w base R P v es) :
    Calls Try.prog 35 #[ptr R] w fun e w' => e = .returned (.tuple #[]) ∧ RA w' base R P (.slice none 0 0) [] ∧ Fr (fun k => k = R) w w' := by
  obtain ⟨_, c1⟩ := h.cells
  obtain ⟨ao, cap, rfl, _, _, _⟩ := h.row.slice
  have f1 := frozen_of_row w R 1 _ _ h.blk
  have HF : Hid (RA (w.setCell ⟨R, 1, none⟩ (.slice none 0 0)) base R P (.slice none 0 0) [] ∧ Fr (fun k => k = R) w (w.setCell ⟨R, 1, none⟩ (.slice none 0 0))) := ⟨⟨by rw [blk_set _ h.blk]; rfl, OwnQ.nil _ _, h.P0⟩, (Fr.refl _ w).set _ _ (.inr rfl)⟩
  clear h
  go_enter Try.func35, Try.ntmps35
  go_wp2
  go_end0
  exact ⟨rfl, HF.out.1, HF.out.2⟩
end Go.Proofs.Ytgaolpfpenaflaa
