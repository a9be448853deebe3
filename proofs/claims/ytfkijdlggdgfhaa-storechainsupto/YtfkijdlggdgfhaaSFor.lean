/-
  chainFor: THE CHAIN AT WHOSE HEAD A VERSION MAY STAND, OR WHY IT MAY NOT.
-/
import Derived.Test.YtfkijdlggdgfhaaSAdd
import Derived.Test.YtfkijdlggdgfhaaKChk
namespace Go.Proofs.Ytfkijdlggdgfhaa
open Go.RowKit Go.Sort

/-- why a version may not be put in -/
def insE (cap : Int) (vs : List Vr) (x : Vr) : Int :=
  if isKey x.k = false then 20 else if x.ba < 1 ∨ 1099511627776 < x.ba then 80 else if x.ix < 0 ∨ 64 ≤ x.ix then 81 else if cap = (vs.length : Int) then 92 else
  match (ofK x.k vs).getLast? with
  | none => 0
  | some y => if later x y then 0 else 94
theorem SA.none_of {w : World} {S V D M L P : Nat} {hf : Value} {cap last : Int} {vs : List Vr} {es : List En} {R : K → Nat × Nat × Nat} (h : SA w S V D M L P hf cap last vs es R) {k : K} (hk : fd es k = none) : ofK k vs = [] := by
  refine List.filter_eq_nil_iff.2 fun v hv => ?_
  obtain ⟨e, he, hek⟩ := h.all v hv
  have := fd_none hk e he
  simp only [decide_eq_true_eq]
  intro e'
  exact this (hek.trans e')
theorem snoc_of {α : Type} {l : List α} (h : l ≠ []) : ∃ ys y, l = ys ++ [y] := ⟨l.dropLast, l.getLast h, (List.dropLast_concat_getLast h).symm⟩
def ForPost (w : World) (es : List En) (k : K) (E : Int) (e : Ending) (w' : World) : Prop :=
  Below w.heap.size w w' ∧
      ((E ≠ 0 ∧ e = .returned (.tuple #[.pointer none, .int .i64 E])) ∨
       (E = 0 ∧ ((∃ e0, fd es k = some e0 ∧ e = .returned (.tuple #[ptr e0.v, .int .i64 0])) ∨
         (fd es k = none ∧ ∃ c, e = .returned (.tuple #[ptr c, .int .i64 0]) ∧ w.heap.size ≤ c ∧ w'.heap[c]? = some (.cells #[.slice none 0 0] 100 (0, 0))))))
theorem fp_err {w w' : World} {es : List En} {k : K} {E : Int} {e : Ending} (hb : Below w.heap.size w w') (h0 : E ≠ 0) (he : e = .returned (.tuple #[.pointer none, .int .i64 E])) : ForPost w es k E e w' := ⟨hb, .inl ⟨h0, he⟩⟩
theorem fp_old {w w' : World} {es : List En} {k : K} {E : Int} {e : Ending} (hb : Below w.heap.size w w') (h0 : E = 0) {e0 : En} (hf : fd es k = some e0) (he : e = .returned (.tuple #[ptr e0.v, .int .i64 0])) : ForPost w es k E e w' := ⟨hb, .inr ⟨h0, .inl ⟨e0, hf, he⟩⟩⟩
theorem fp_new {w w' : World} {es : List En} {k : K} {E : Int} {e : Ending} (hb : Below w.heap.size w w') (h0 : E = 0) (hf : fd es k = none) {c : Nat} (he : e = .returned (.tuple #[ptr c, .int .i64 0])) (hc : w.heap.size ≤ c) (hx : w'.heap[c]? = some (.cells #[.slice none 0 0] 100 (0, 0))) : ForPost w es k E e w' := ⟨hb, .inr ⟨h0, .inr ⟨hf, c, he, hc, hx⟩⟩⟩
set_option maxRecDepth 100000 in
set_option maxHeartbeats 2000000 in
theorem chainFor_any (w : World) (S V D M L P : Nat) (hf : Value) (cap last : Int) (vs : List Vr) (es : List En) (R : K → Nat × Nat × Nat) (b : Nat) (x : Vr) (h : SA w S V D M L P hf cap last vs es R) (hx : w.heap[b]? = some (.cells (cellsV x) 82 (0, 0))) (hk : KIn x.k) :
    Calls Try.prog 36 #[ptr S, ptr b] w fun e w' => ForPost w es x.k (insE cap vs x) e w' := by
  have HX : Hid (∀ W, Below w.heap.size w W → W.heap[b]? = some (.cells (cellsV x) 82 (0, 0))) := fun W hW => (hW.block b (blk_lt hx)).trans hx
  have HS : Hid (∀ W, Below w.heap.size w W → SA W S V D M L P hf cap last vs es R) := fun W hW => h.kept hW
  have HC : Hid (∀ W, Below w.heap.size w W → (W.cell? ⟨b, 0, none⟩ = some (.int .i64 x.ba) ∧ W.cell? ⟨b, 1, none⟩ = some (.int .i64 x.ix) ∧ W.cell? ⟨b, 3, none⟩ = some (.int .i64 x.k.1) ∧ W.cell? ⟨b, 4, none⟩ = some (.int .i64 x.k.2)) ∧ W.cell? ⟨S, 4, none⟩ = some (ptr D)) := fun W hW => by
    have h1 := HX.out W hW
    refine ⟨⟨?_, ?_, ?_, ?_⟩, (HS.out W hW).cells.2.2.2.2⟩ <;> simp [World.cell?, h1, cellsV]
  have HK : Hid (KIn x.k) := hk
  have hlt := h.lt
  clear h hx hk
  obtain ⟨⟨b0, b1, b3, b4⟩, s4⟩ := HC.out w (Below.refl _ _)
  obtain ⟨E, hE⟩ : ∃ E, E = insE cap vs x := ⟨_, rfl⟩
  rw [← hE]
  unfold insE at hE
  have HE : Hid (E = _) := hE
  clear hE
  obtain ⟨k1, hk1⟩ : ∃ k1, k1 = x.k.1 := ⟨_, rfl⟩
  obtain ⟨k2, hk2⟩ : ∃ k2, k2 = x.k.2 := ⟨_, rfl⟩
  obtain ⟨ba, hba⟩ : ∃ ba, ba = x.ba := ⟨_, rfl⟩
  obtain ⟨ix, hix⟩ : ∃ ix, ix = x.ix := ⟨_, rfl⟩
  have hkk : x.k = (k1, k2) := by rw [hk1, hk2]
  rw [← hba, ← hix, hkk] at HE
  rw [← hk1, ← hk2, ← hba, ← hix] at HC
  rw [← hba] at b0
  rw [← hix] at b1
  rw [← hk1] at b3
  rw [← hk2] at b4
  rw [hkk] at HK ⊢
  have HKx : Hid (x.k = (k1, k2)) := hkk
  clear hk1 hk2 hba hix hkk
  go_enter Try.func36, Try.ntmps36
  go_wp2_with fail
  refine (check_any w k1 k2).mono ?_
  rintro e w1 ⟨rfl, q1, os1, hw1⟩
  have HB1 : Hid (Below w.heap.size w w1) := Grew.below ⟨q1, os1, hw1⟩
  clear hw1 b0 b1 b3 b4 s4
  cases hkey : isKey (k1, k2) with
  | false =>
    have h20 : E = 20 := by rw [HE.out, if_pos hkey]
    subst h20
    simp only [errOf]
    go_wp2
    go_ret2
    exact fp_err HB1.out (by decide) rfl
  | true =>
    rw [hkey, if_neg (by simp)] at HE
    simp only [errOf, if_true]
    obtain ⟨⟨b0, b1, b3, b4⟩, s4⟩ := HC.out w1 HB1.out
    by_cases hb1 : ba < 1 ∨ 1099511627776 < ba
    · have h80 : E = 80 := by rw [HE.out, if_pos hb1]
      subst h80
      rcases hb1 with hb1 | hb1
      · go_wp2
        go_ret2
        exact fp_err HB1.out (by decide) rfl
      · have hb2 : ¬ ba < 1 := by omega
        go_wp2
        go_ret2
        exact fp_err HB1.out (by decide) rfl
    · rw [if_neg hb1] at HE
      have hb2 : ¬ ba < 1 := by omega
      have hb3 : ¬ (1099511627776 : Int) < ba := by omega
      by_cases hi1 : ix < 0 ∨ 64 ≤ ix
      · have h81 : E = 81 := by rw [HE.out, if_pos hi1]
        subst h81
        rcases hi1 with hi1 | hi1
        · go_wp2
          go_ret2
          exact fp_err HB1.out (by decide) rfl
        · have hi2 : ¬ ix < 0 := by omega
          go_wp2
          go_ret2
          exact fp_err HB1.out (by decide) rfl
      · rw [if_neg hi1] at HE
        have hi2 : ¬ ix < 0 := by omega
        have hi3 : ¬ (64 : Int) ≤ ix := by omega
        go_wp2_with fail
        refine (room_any w1 S V D M L P hf cap last vs es R (HS.out w1 HB1.out)).mono ?_
        rintro e w2 ⟨rfl, q2, hw2⟩
        have HB2 : Hid (Below w.heap.size w w2) := HB1.out.trans (by rw [hw2]; exact ((Grew.refl w1).drewN q2).below.mono HB1.out.size)
        clear hw2 b0 b1 b3 b4 s4 HB1
        by_cases hfull : cap = (vs.length : Int)
        · have h92 : E = 92 := by rw [HE.out, if_pos hfull]
          subst h92
          have h0 : cap - (vs.length : Int) = 0 := by omega
          rw [h0]
          go_wp2
          go_ret2
          exact fp_err HB2.out (by decide) rfl
        · rw [if_neg hfull] at HE
          have h0 : ¬ cap - (vs.length : Int) = 0 := by omega
          have h0b : ((cap - (vs.length : Int)) == 0) = false := by simpa using h0
          generalize cap - (vs.length : Int) = rm at *
          obtain ⟨⟨b0, b1, b3, b4⟩, s4⟩ := HC.out w2 HB2.out
          have HG : Hid (Calls Try.prog 28 #[ptr D, .agg #[.int .i64 k1, .int .i64 k2]] w2.drew fun e w' => e = .returned (.tuple #[vv (fd es (k1, k2)), .bool (fd es (k1, k2)).isSome]) ∧ Below w2.heap.size w2 w') := by
            have hd : Below w2.heap.size w2 w2.drew := ⟨rfl, rfl, rfl, Nat.le_refl _, fun _ _ => rfl⟩
            refine (get_any w2.drew D M L P hf es (k1, k2) ((HS.out w2 HB2.out).da.kept hd) HK.out).mono fun e w' ⟨h1, h2⟩ => ⟨h1, hd.trans h2⟩
          have HKp : Hid (∀ W, Below w2.heap.size w2 W → W.cell? ⟨S, 4, none⟩ = some (ptr D) ∧ W.cell? ⟨b, 3, none⟩ = some (.int .i64 k1) ∧ W.cell? ⟨b, 4, none⟩ = some (.int .i64 k2)) := fun W hW => by
            have := HC.out W (HB2.out.trans (hW.mono HB2.out.size))
            exact ⟨this.2, this.1.2.2⟩
          go_upto_region 10 with fail
          go_region_held3 (fun w' => w'.cell? ⟨S, 4, none⟩ = some (ptr D) ∧ w'.cell? ⟨b, 3, none⟩ = some (.int .i64 k1) ∧ w'.cell? ⟨b, 4, none⟩ = some (.int .i64 k2)) (first | exact HKp.out _ HB3.out | go_keep) (first | (go_at_call 28; refine HG.out.mono ?_; rintro e w3 ⟨rfl, hb3⟩; have HB3 : Hid (Below w2.heap.size w2 w3) := hb3; clear hb3))
          have HW3 : Hid (Below w.heap.size w w3) := HB2.out.trans (HB3.out.mono HB2.out.size)
          clear b0 b1 b3 b4 s4 HG HKp HB3
          cases hfd : fd es (k1, k2) with
          | none =>
            have hof := (HS.out w3 HW3.out).none_of hfd
            have hE0 : E = 0 := by rw [HE.out, hof]; rfl
            have HN : Hid (Below w.heap.size w (w3.alloc (.cells #[.slice none 0 0] 100)) ∧ w.heap.size ≤ w3.heap.size ∧ (w3.alloc (.cells #[.slice none 0 0] 100)).heap[w3.heap.size]? = some (.cells #[.slice none 0 0] 100 (0, 0))) := ⟨HW3.out.alloc HW3.out.size _, HW3.out.size, heap_alloc_new _ _ rfl⟩
            have HFd : Hid (fd es (k1, k2) = none) := hfd
            simp only [vv, Option.isSome]
            clear hfd hof HE
            go_wp2
            go_ret2
            exact fp_new HN.out.1 hE0 HFd.out rfl HN.out.2.1 HN.out.2.2
          | some e0 =>
            obtain ⟨he0, hk0⟩ := fd_some hfd
            have hne := (HS.out w3 HW3.out).ne e0 he0
            rw [hk0] at hne
            obtain ⟨ys, y, hys⟩ := snoc_of hne
            have hy : y ∈ vs := (List.mem_filter.1 (show y ∈ ofK (k1, k2) vs by rw [hys]; simp)).1
            have hEl : E = if later x y then 0 else 94 := by rw [HE.out, hys]; simp
            have hch := (HS.out w3 HW3.out).ch e0 he0
            have hrw := (HS.out w3 HW3.out).rwv he0
            rw [hk0, hys] at hch hrw
            rw [List.map_append, List.map_cons, List.map_nil] at hrw
            have hyl : ys.length ≤ 1000000 := by
              have h1 : (ofK (k1, k2) vs).length ≤ vs.length := List.length_filter_le _ _
              rw [hys, List.length_append] at h1
              have := hlt.2.2
              omega
            have HNw : Hid (Calls Try.prog 29 #[ptr e0.v] w3 fun e w' => e = .returned (ptr y.b) ∧ ∃ q, w' = w3.drewN q) :=
              newest_any w3 e0.v _ _ _ (ys.map Vr.b) y.b (by rw [hch]; simp) hrw (by rw [List.length_map]; omega)
            have HLt : Hid (∀ W, Below w.heap.size w W → Calls Try.prog 58 #[ptr b, ptr y.b] W fun e w' => e = .returned (.bool (decide (later x y))) ∧ ∃ q, w' = W.drewN q) := fun W hW => later_any W b y.b x y (HX.out W hW) ((HS.out W hW).vb y hy)
            have HFd : Hid (fd es (k1, k2) = some e0) := hfd
            simp only [vv, Option.isSome]
            clear hfd hys hch hrw hne hk0 HE
            go_wp2_with fail
            refine HNw.out.mono ?_
            rintro e w4 ⟨rfl, q4, hw4⟩
            have HW4 : Hid (Below w.heap.size w w4) := HW3.out.trans (by rw [hw4]; exact ((Grew.refl w3).drewN q4).below.mono HW3.out.size)
            clear hw4 HNw
            go_wp2_with fail
            refine (HLt.out w4 HW4.out).mono ?_
            rintro e w5 ⟨rfl, q5, hw5⟩
            have HW5 : Hid (Below w.heap.size w w5) := HW4.out.trans (by rw [hw5]; exact ((Grew.refl w4).drewN q5).below.mono HW4.out.size)
            clear hw5 HLt
            by_cases hl : later x y
            · have hE0 : E = 0 := by rw [hEl, if_pos hl]
              rw [decide_eq_true hl]
              go_wp2
              go_ret2
              exact fp_old HW5.out hE0 HFd.out rfl
            · have hE0 : E = 94 := by rw [hEl, if_neg hl]
              subst hE0
              rw [decide_eq_false hl]
              go_wp2
              go_ret2
              exact fp_err HW5.out (by decide) rfl
end Go.Proofs.Ytfkijdlggdgfhaa
