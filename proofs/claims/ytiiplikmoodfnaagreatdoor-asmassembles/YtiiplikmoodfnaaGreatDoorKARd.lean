import Derived.Test.YtiiplikmoodfnaaGreatDoorKAFst
import Derived.Test.YtiiplikmoodfnaaGreatDoorKLProc
import Derived.Test.YtiiplikmoodfnaaGreatDoorKBytes
/-
  read: one line.
-/
namespace Go.Proofs.YtiiplikmoodfnaaGreatDoor
open Go.RowKit Go.Sort

theorem ASt.line {W : World} {M B line : Nat} {a : As} {Ps : List Pr} {vl vn vm vj : Value} (h : ASt W M B line a Ps vl vn vm vj) (l : Nat) : ASt (W.setCell ⟨B, 0, none⟩ (.int .i64 (l : Int))) M B l a Ps vl vn vm vj :=
  ⟨heap_setCell_same W B 0 _ _ _ h.ab, h.rowB _ _ h.lib (by decide), h.eq, fun x hx => ⟨(h.code x hx).1, h.rowB _ _ (h.code x hx).2 (by decide)⟩, h.ap, h.rowB _ _ h.nms (by decide), h.rowB _ _ h.jps (by decide), fun ho => by obtain ⟨mb, h1, h2, h3⟩ := h.lab ho; exact ⟨mb, h1, h2, h.lmB _ _ h3⟩, h.ok, h.bm.1, by simpa using h.bm.2⟩
/-- what a line leaves, whatever stands in it -/
def ReadPost (W : World) (M B num : Nat) (R : Except (Nat × Nat × Int) As) (e : Ending) (w' : World) : Prop :=
  (∃ v E, e = .returned v ∧ ErrIn w' v num E ∧ R = .error E ∧ FrA M B W w') ∨
  (∃ l a' Ps' vl vn vm vj, e = .returned .nilIface ∧ R = .ok a' ∧ ASt w' M B l a' Ps' vl vn vm vj ∧ FrA M B W w')
theorem LinePost.read {W0 W w' : World} {M B num : Nat} {R : Except (Nat × Nat × Int) As} {e : Ending} (hf : FrA M B W0 W) (h : LinePost W M B num R e w') : ReadPost W0 M B num R e w' := by
  rcases h with ⟨v, E, h1, h2, h3, h4⟩ | ⟨a', Ps', vl, vn, vm, vj, h1, h2, h3, h4⟩
  · exact .inl ⟨v, E, h1, h2, h3, hf.trans h4⟩
  · exact .inr ⟨num, a', Ps', vl, vn, vm, vj, h1, h2, h3, hf.trans h4⟩
theorem line_ret {W w' : World} {M B num : Nat} {R : Except (Nat × Nat × Int) As} {e : Ending} (h : LinePost W M B num R e w') : ∃ v, e = .returned v := by
  rcases h with ⟨v, _, h1, _⟩ | ⟨_, _, _, _, _, _, h1, _⟩
  · exact ⟨v, h1⟩
  · exact ⟨_, h1⟩
set_option maxRecDepth 100000 in
set_option maxHeartbeats 1000000 in
theorem readA_any (w : World) (M B line0 k num : Nat) (a : As) (Ps : List Pr) (vl vn vm vj : Value) (wo : Option Addr) (wc : Nat) (ws : List Wd) (h : ASt w M B line0 a Ps vl vn vm vj) (hz : AsSz a k) (hc : CellsAt w wo (wcs ws)) (hcap : ws.length ≤ wc) (hza : ∀ ad, wo = some ad → ws ≠ [] → ZA M B ad.block) (hs : SmallW ws) (hwl : ∀ y ∈ ws, y.1.length ≤ 65536) (hv : NumVars w) (hn : NmAt w) (hkw : KwAt w) (hB : 8 ≤ B) :
    Calls Tryz.prog 13 #[.pointer (some ⟨B, 0, none⟩), .int .i64 (num : Int), .slice wo ws.length wc] w fun e w' => ReadPost w M B num (lineA a num ws) e w' := by
  have hM := h.bm.2
  have hBM := h.bm.1
  cases ws with
  | nil =>
    have HE : Hid (ReadPost w M B num (lineA a num []) (.returned .nilIface) w) := .inr ⟨line0, a, Ps, vl, vn, vm, vj, rfl, by unfold lineA; rw [if_pos rfl], h, FrA.refl _ _ _⟩
    clear h hz hc hcap hza hs hwl hv hn hkw
    go_enter Tryz.func13, Tryz.ntmps13
    go_wp2
    go_ret
    exact HE.out
  | cons x rest =>
    obtain ⟨x0, _⟩ := h.ab.cells
    have f0 := h.ab.frozen 0
    have hAl := h.line num
    obtain ⟨W2, hW2⟩ : ∃ W2, W2 = (w.setCell ⟨B, 0, none⟩ (.int .i64 (num : Int))).alloc (.cells #[.slice wo (rest.length + 1) wc, .int .i64 0] 86) := ⟨_, rfl⟩
    have HA2 : Hid (ASt W2 M B num a Ps vl vn vm vj) := by show ASt _ _ _ _ _ _ _ _ _ _; rw [hW2]; exact hAl.below (bel_al _ _)
    have hF2 : FrA M B w W2 := by rw [hW2]; exact (FrA.set ⟨B, 0, none⟩ _ (.inl rfl)).trans (FrA.bel (bel_al _ _) hAl.bm.2)
    have HF2 := hidA hF2
    have HR2 : Hid (RB (ZA M B) W2 w.heap.size (x :: rest, 0)) := by
      refine ⟨wo, wc, by rw [hW2]; exact heap_alloc_new _ _ (by simp), ?_, fun ad e1 hne => ⟨by have := (hza ad e1 hne).1; omega, hza ad e1 hne⟩, hcap⟩
      rcases hc with hc | ⟨b, off, rfl, hc⟩
      · exact .inl hc
      · refine .inr ⟨b, off, rfl, fun j u hu => ?_⟩
        have h5 := hc j u hu
        have h6 := hza _ rfl (by simp)
        simp only [World.cell?] at h5 ⊢
        rw [hF2.block b h6.1 h6.2]
        exact h5
    obtain ⟨_, _, _, y3, _⟩ := HA2.out.ab.cells
    have hl := hs.2
    simp only [List.length_cons] at hl
    have HIn : Hid (a.opn = true → Calls Tryz.prog 26 #[.pointer (some ⟨B, 0, none⟩), .pointer (some ⟨w.heap.size, 0, none⟩)] W2 fun e w' => LinePost W2 M B num (insideA a num (x :: rest)) e w') := fun ho =>
      readInside_any W2 M B num k a Ps vl vn vm vj w.heap.size x rest HA2.out hz ho HR2.out hs hM hwl (hv.fra hF2 hBM hB) (hn.fra hF2 hBM hB) hB
    have HFi := hidA (readFirst_any W2 M B num k a Ps vl vn vm vj w.heap.size x rest HA2.out hz HR2.out hs hM hwl (hv.fra hF2 hBM hB) (hkw.fra hF2 hBM hB) hB)
    clear h hz hc hcap hza hs hwl hv hn hkw hF2 hAl HA2 HR2
    go_enter Tryz.func13, Tryz.ntmps13
    go_upto_region 5 with fail
    rw [← hW2]
    clear hW2 x0 f0
    cases hb : a.opn with
    | true =>
      rw [hb] at y3
      have HC := hidA (HIn.out hb)
      have HL : Hid (lineA a num (x :: rest) = insideA a num (x :: rest)) := by show _ = _; unfold lineA; rw [if_neg (by simp), if_pos hb]
      clear hb HIn HFi
      go_wp2_with fail
      refine HC.out.mono ?_
      intro e w3 hp
      obtain ⟨v, rfl⟩ := line_ret hp
      have HE : Hid (ReadPost w M B num (lineA a num (x :: rest)) (.returned v) w3) := by show ReadPost _ _ _ _ _ _ _; rw [HL.out]; exact hp.read HF2.out
      clear hp HC y3
      go_wp2_with fail
      go_ret
      exact HE.out
    | false =>
      rw [hb] at y3
      have HL : Hid (lineA a num (x :: rest) = frstE a num (x :: rest)) := by show _ = _; unfold lineA frstE; rw [if_neg (by simp), if_neg (by rw [hb]; simp)]; cases firstA a num (x :: rest) <;> rfl
      clear hb HIn
      go_wp2_with fail
      refine HFi.out.mono ?_
      intro e w3 hp
      obtain ⟨v, rfl⟩ := line_ret hp
      have HE : Hid (ReadPost w M B num (lineA a num (x :: rest)) (.returned v) w3) := by show ReadPost _ _ _ _ _ _ _; rw [HL.out]; exact hp.read HF2.out
      clear hp HFi y3
      go_wp2_with fail
      go_ret
      exact HE.out
end Go.Proofs.YtiiplikmoodfnaaGreatDoor
/-
  library: what was read, if it may end there and it is sound.
-/
namespace Go.Proofs.YtiiplikmoodfnaaGreatDoor
open Go.RowKit Go.Sort

theorem own_at {W : World} {base e size n : Nat} {v : Value} {xs : List Value} (h : W.ownsRow base e size v n xs) : xs = [] ∨ ∃ g cap, v = .slice (some ⟨g, 0, none⟩) n cap ∧ ∀ j u, xs[j]? = some u → W.cell? ⟨g, 0 + j, none⟩ = some u := by
  have h0 := h
  obtain ⟨hx, ⟨rfl, hn⟩ | ⟨g, cap, cur, rfl, _⟩⟩ := h
  · exact .inl (List.eq_nil_of_length_eq_zero (by rw [hx, hn, Nat.zero_mul]))
  · refine .inr ⟨g, cap, rfl, fun j u hu => ?_⟩
    have hj : j < n * size := by rw [← hx]; exact (List.getElem?_eq_some_iff.1 hu).1
    rw [Nat.zero_add, World.ownsRow.cellAt h0 j hj, hu]
/-- an assembly's procedures are a library -/
theorem ASt.libAt {W : World} {M B line k : Nat} {a : As} {Ps : List Pr} {vn vm vj : Value} {ao : Option Addr} {n cap : Nat} (h : ASt W M B line a Ps (.slice ao n cap) vn vm vj) (hz : AsSz a k) : LibAt W ao Ps := by
  refine ⟨?_, fun x hx => ?_⟩
  · obtain ⟨ao', cap', e, hp, _⟩ := h.lib.slice
    cases e
    exact hp
  · obtain ⟨h1, h2⟩ := h.code x hx
    obtain ⟨h3, h4, h5⟩ := h.ok x hx
    have h6 : x.L.length ≤ 65537 := Nat.le_trans (hz.code (ppOf x) (by rw [h.eq]; exact List.mem_map_of_mem hx)) hz.top
    refine ⟨h1, ?_, h3, h4, fun e => ?_, by omega, by omega⟩
    · rcases own_at h2 with h7 | ⟨g, cap', e, hc⟩
      · refine .inl ?_
        cases hL : x.L with
        | nil => rfl
        | cons y L => rw [hL] at h7; simp [cks] at h7
      · unfold cdV at e
        simp only [Value.slice.injEq] at e
        exact .inr ⟨g, 0, e.1, hc⟩
    · obtain ⟨ao', cap', e1, e2, _⟩ := own_slice h2
      unfold cdV at e1
      simp only [Value.slice.injEq] at e1
      have := (e2 (by rw [← e1.1]; exact e)).1
      rw [e1.2.2]; exact this
theorem firstP_lt (f : Nat → Int) : ∀ n, (firstP f n).2 ≠ 0 → (firstP f n).1 < n
  | 0, h => by simp [firstP] at h
  | n + 1, h => by
    unfold firstP at h ⊢
    split
    · rename_i h1
      have := firstP_lt f n h1
      omega
    · rename_i h1
      rw [if_neg h1] at h
      split
      · show n < n + 1; omega
      · rename_i h2
        rw [if_neg h2] at h
        simp at h
theorem checkN_lt {Ps : List Pr} (h : (checkN Ps).2 ≠ 0) : (checkN Ps).1 < Ps.length := by
  unfold checkN at h ⊢
  split
  · show 0 < Ps.length; omega
  · rename_i h1
    rw [if_neg h1] at h
    exact firstP_lt _ _ h
/-- what library leaves -/
def LibPost (W : World) (M B : Nat) (a : As) (Ps : List Pr) (vl : Value) (e : Ending) (w' : World) : Prop :=
  (∃ v, e = .returned (.tuple #[.slice none 0 0, v]) ∧ a.opn = true ∧ ErrAt w' v a.begun.1 a.begun.2 45 ∧ FrA M B W w') ∨
  (∃ v, e = .returned (.tuple #[.slice none 0 0, v]) ∧ a.opn = false ∧ (checkN Ps).2 ≠ 0 ∧ ErrAt w' v (a.names.getD (checkN Ps).1 (0, 0)).1 (a.names.getD (checkN Ps).1 (0, 0)).2 (checkN Ps).2 ∧ FrA M B W w') ∨
  (e = .returned (.tuple #[vl, .nilIface]) ∧ a.opn = false ∧ (checkN Ps).2 = 0 ∧ Go.RowKit.Below W.heap.size W w')
set_option maxRecDepth 100000 in
set_option maxHeartbeats 1000000 in
theorem library_any (w : World) (M B line k : Nat) (a : As) (Ps : List Pr) (vl vn vm vj : Value) (h : ASt w M B line a Ps vl vn vm vj) (hz : AsSz a k) :
    Calls Tryz.prog 16 #[.pointer (some ⟨B, 0, none⟩)] w fun e w' => LibPost w M B a Ps vl e w' := by
  have hM := h.bm.2
  obtain ⟨lo, lc, rfl, hlc⟩ := own_slice h.lib
  have hpl : Ps.length = a.lib.length := by rw [h.eq, List.length_map]
  have hp1 : Ps.length ≤ 65537 := by have := hz.lib; have := hz.top; omega
  have HCk := hidA (check_any w lo Ps.length lc Ps (h.libAt hz) rfl hlc.2.1 (by omega))
  obtain ⟨no, nc, rfl, hno⟩ := own_slice h.nms
  clear hno
  obtain ⟨nn, hnn⟩ : ∃ nn, nn = a.names.length := ⟨_, rfl⟩
  rw [← hnn] at h
  have HNn := hidA (And.intro hnn (hz.nms.trans hpl.symm))
  obtain ⟨_, x1, x2, x3, x4, x5, _⟩ := h.ab.cells
  have HA := hidA h
  clear h hz hlc hnn hpl
  cases hb : a.opn with
  | true =>
    rw [hb] at x3
    have HO := hidA hb
    clear hb HCk
    go_enter Tryz.func16, Tryz.ntmps16
    go_wp2_with fail
    refine (wrongAt_any w a.begun.1 a.begun.2 45).mono ?_
    rintro e w1 ⟨v, rfl, h1, h2⟩
    have HE : Hid (LibPost w M B a Ps (.slice lo Ps.length lc) (.returned (.tuple #[.slice none 0 0, v])) w1) := .inl ⟨v, rfl, HO.out, h1, FrA.bel h2 hM⟩
    clear h1 h2 x1 x2 x3 x4 x5
    go_wp2_with fail
    go_ret2
    exact HE.out
  | false =>
    rw [hb] at x3
    have HO := hidA hb
    clear hb
    go_enter Tryz.func16, Tryz.ntmps16
    go_wp2_with fail
    refine HCk.out.mono ?_
    rintro e w1 ⟨rfl, h1⟩
    have HB1 := hidA h1
    have HA1 := hidA (HA.out.below h1)
    have hM1 : M ≤ w1.heap.size := Nat.le_trans hM h1.size
    clear h1 x1 x2 x3 x4 x5 HCk
    obtain ⟨_, x1, x2, _⟩ := HA1.out.ab.cells
    have HLt : Hid ((checkN Ps).2 ≠ 0 → (checkN Ps).1 < nn) := fun h => by have := checkN_lt h; have := HNn.out; omega
    have HPo : Hid (∀ e w', LibPost w M B a Ps (.slice lo Ps.length lc) e w' ↔ LibPost w M B a Ps (.slice lo Ps.length lc) e w') := fun _ _ => Iff.rfl
    obtain ⟨i, hi⟩ : ∃ i, i = (checkN Ps).1 := ⟨_, rfl⟩
    obtain ⟨z, hz⟩ : ∃ z, z = (checkN Ps).2 := ⟨_, rfl⟩
    have HI := hidA hi
    have HZ := hidA hz
    rw [← hi, ← hz]
    rw [← hi, ← hz] at HLt
    clear hi hz HPo
    by_cases h0 : z = 0
    · subst h0
      have HE : Hid (LibPost w M B a Ps (.slice lo Ps.length lc) (.returned (.tuple #[.slice lo Ps.length lc, .nilIface])) w1) := .inr (.inr ⟨rfl, HO.out, HZ.out.symm, HB1.out⟩)
      clear HLt
      go_wp2_with fail
      go_ret2
      exact HE.out
    · have hlt : i < nn := HLt.out h0
      have hlt' : i < a.names.length := by have := HNn.out.1; omega
      obtain ⟨g, nc', e1, _⟩ := own_some HA1.out.nms (by omega)
      simp only [Value.slice.injEq] at e1
      obtain ⟨rfl, -, -⟩ := e1
      have hrow : w1.ownsRow M 54 2 (.slice (some ⟨g, 0, none⟩) a.names.length nc) a.names.length (spc a.names) := by have h9 := HA1.out.nms; rw [HNn.out.1] at h9; exact h9
      have c0 : w1.cell? ⟨g, i * 2, none⟩ = some (.int .i64 (a.names[i].1 : Int)) := by rw [World.ownsRow.cellAt hrow _ (by omega)]; exact (spc_at a.names i hlt').1
      have c1 : w1.cell? ⟨g, i * 2 + 1, none⟩ = some (.int .i64 (a.names[i].2 : Int)) := by rw [World.ownsRow.cellAt hrow _ (by omega)]; exact (spc_at a.names i hlt').2
      have HG : Hid (a.names.getD i (0, 0) = a.names[i]) := by show _ = _; simp [List.getD, hlt']
      have hlti : (i : Int) < nn := by omega
      have hnn' : nn ≤ 65537 := by have := HNn.out; omega
      have hz0 : (z == 0) = false := by simp [h0]
      generalize a.names[i] = p at *
      obtain ⟨p1, p2⟩ := p
      have HM := hidA (And.intro hM hM1)
      have H0 := hidA h0
      clear hrow HLt hlt' hM hM1 hp1 hlti
      go_upto_region 5 with fail
      clear hz0 h0 HA HA1
      go_wp2_with fail
      refine (wrongAt_any w1 p1 p2 z).mono ?_
      rintro e w2 ⟨v, rfl, h1, h2⟩
      have HE : Hid (LibPost w M B a Ps (.slice lo Ps.length lc) (.returned (.tuple #[.slice none 0 0, v])) w2) := .inr (.inl ⟨v, rfl, HO.out, by rw [← HZ.out]; exact H0.out, by rw [← HI.out, HG.out, ← HZ.out]; exact h1, (FrA.bel HB1.out HM.out.1).trans (FrA.bel h2 HM.out.2)⟩)
      clear h1 h2 c0 c1 x1 x2
      go_wp2_with fail
      go_ret2
      exact HE.out
end Go.Proofs.YtiiplikmoodfnaaGreatDoor
/-
  Assemble: what its text is cut into, and how it begins.
-/
namespace Go.Proofs.YtiiplikmoodfnaaGreatDoor
open Go.RowKit Go.Sort

def WIn (l : List UInt8) (y : Wd) : Prop := y.1.length ≤ l.length ∧ y.2 ≤ l.length + 1
def ScS (l : List UInt8) (n : Nat) (x : Sc) : Prop := (∀ y ∈ x.words, WIn l y) ∧ ∀ ws ∈ x.lines, (∀ y ∈ ws, WIn l y) ∧ ws.length ≤ n
theorem pieceL_le (l : List UInt8) (f t : Nat) : (pieceL l f t).length ≤ l.length := by
  unfold pieceL
  rw [List.length_drop, List.length_take]
  omega
theorem scEnd_in {l : List UInt8} {x : Sc} {n k c : Nat} (h : ScS l n x) (hf : ∀ f, x.wf = some f → f < l.length) (hn : x.words.length ≤ n) : ScS l n (scEnd l x k c) ∧ (scEnd l x k c).words.length ≤ n + 1 := by
  unfold scEnd
  cases hx : x.wf with
  | none => exact ⟨h, by show x.words.length ≤ n + 1; omega⟩
  | some f =>
    have h1 := hf f hx
    simp only
    split
    · refine ⟨⟨fun y hy => ?_, h.2⟩, by simp; omega⟩
      rcases List.mem_append.1 hy with hy | hy
      · exact h.1 y hy
      · simp only [List.mem_singleton] at hy
        rw [hy]
        exact ⟨pieceL_le l f k, by show f - x.frm + 1 ≤ _; omega⟩
    · exact ⟨h, by omega⟩
theorem sc_in (l : List UInt8) : ∀ k, k ≤ l.length + 1 → ScS l k (scRun l k)
  | 0, _ => ⟨fun y hy => (by cases hy), fun ws hw => (by cases hw)⟩
  | k + 1, hk => by
    have h1 := sc_in l k (by omega)
    have h2 := (scRun_ok l k (by omega)).2
    have h3 := (sc_few l k).2
    show ScS l (k + 1) (scStep l (scRun l k) k (byteAt l k))
    generalize scRun l k = x at *
    obtain ⟨e1, e2⟩ := scEnd_in (k := k) (c := byteAt l k) h1 (fun f hf => (h2 f hf).2.2) h3
    have up : ∀ y : Sc, ScS l k y → ScS l (k + 1) y := fun y hy => ⟨hy.1, fun ws hw => ⟨(hy.2 ws hw).1, by have := (hy.2 ws hw).2; omega⟩⟩
    unfold scStep
    split
    · refine ⟨fun y hy => (by cases hy), fun ws hw => ?_⟩
      rcases List.mem_append.1 hw with hw | hw
      · exact (up _ e1).2 ws hw
      · simp only [List.mem_singleton] at hw
        rw [hw]
        exact ⟨e1.1, e2⟩
    · split
      · exact ⟨e1.1, (up _ e1).2⟩
      · split
        · exact ⟨h1.1, (up _ h1).2⟩
        · exact up _ e1
theorem split_small (l : List UInt8) (hl : l.length ≤ 65536) : ∀ ws ∈ splitN l, SmallW ws ∧ ∀ y ∈ ws, y.1.length ≤ 65536 := fun ws hw => by
  obtain ⟨h1, h2⟩ := (sc_in l (l.length + 1) (Nat.le_refl _)).2 ws hw
  exact ⟨⟨fun y hy => by have := h1 y hy; unfold WIn at this; omega, by omega⟩, fun y hy => by have := (h1 y hy).1; omega⟩
theorem split_few (l : List UInt8) : (splitN l).length ≤ l.length + 1 := (sc_few l (l.length + 1)).1
/-- an assembly begins -/
theorem ASt.start {W : World} {M B : Nat} (hB : AB W B 0 (.slice none 0 0) (.slice none 0 0) false 0 0 (.map none) (.slice none 0 0)) (hM : B < M) (hW : M ≤ W.heap.size) : ASt W M B 0 start0 [] (.slice none 0 0) (.slice none 0 0) (.map none) (.slice none 0 0) :=
  ⟨hB, OwnP.nil _ _, rfl, fun x hx => (by cases hx), List.Pairwise.nil, World.ownsRow_nil _ _ _ _, World.ownsRow_nil _ _ _ _, fun h => (by cases h), fun x hx => (by cases hx), hM, hW⟩
theorem linesA_up {ls : List (List Wd)} {i : Nat} {e : Nat × Nat × Int} (h : linesA ls i = .error e) : ∀ m, i ≤ m → linesA ls m = .error e := fun m hm => by
  induction m with
  | zero => rw [show i = 0 by omega] at h; exact h
  | succ m ih =>
    by_cases h1 : i ≤ m
    · unfold linesA; rw [ih h1]
    · obtain rfl : i = m + 1 := by omega
      exact h
end Go.Proofs.YtiiplikmoodfnaaGreatDoor
/-
  A TEXT AND MORE LINES BEHIND IT.
-/
namespace Go.Proofs.YtiiplikmoodfnaaGreatDoor

theorem piece_pre (t u : List UInt8) (f k : Nat) (hk : k ≤ t.length) : pieceL (t ++ u) f k = pieceL t f k := by
  unfold pieceL
  rw [List.take_append_of_le_length hk]
theorem byte_pre (t u : List UInt8) {k : Nat} (hk : k ≤ t.length) : byteAt (t ++ 10 :: u) k = byteAt t k := by
  unfold byteAt
  rw [List.append_assoc, List.getD_eq_getElem?_getD, List.getD_eq_getElem?_getD]
  by_cases h : k < t.length
  · rw [List.getElem?_append_left h, List.getElem?_append_left h]
  · obtain rfl : k = t.length := by omega
    rw [List.getElem?_append_right (Nat.le_refl _), List.getElem?_append_right (Nat.le_refl _)]
    simp
theorem end_pre (t u : List UInt8) (x : Sc) (k c : Nat) (hk : k ≤ t.length) : scEnd (t ++ u) x k c = scEnd t x k c := by
  unfold scEnd
  cases x.wf with
  | none => rfl
  | some f => simp only; rw [piece_pre t u f k hk]
theorem step_pre (t u : List UInt8) (x : Sc) (k c : Nat) (hk : k ≤ t.length) : scStep (t ++ u) x k c = scStep t x k c := by
  unfold scStep
  rw [end_pre t u x k c hk]
theorem run_pre (t u : List UInt8) : ∀ k, k ≤ t.length + 1 → scRun (t ++ 10 :: u) k = scRun t k
  | 0, _ => rfl
  | k + 1, hk => by
    show scStep _ _ _ _ = scStep _ _ _ _
    rw [run_pre t u k (by omega), byte_pre t u (by omega), step_pre t _ _ k _ (by omega)]
theorem lines_more (l : List UInt8) (k : Nat) : ∀ m, ∃ more, (scRun l (k + m)).lines = (scRun l k).lines ++ more
  | 0 => ⟨[], by simp⟩
  | m + 1 => by
    obtain ⟨more, h⟩ := lines_more l k m
    have e : scRun l (k + (m + 1)) = scStep l (scRun l (k + m)) (k + m) (byteAt l (k + m)) := rfl
    obtain ⟨_, _, e1⟩ := scEnd_frm l (scRun l (k + m)) (k + m) (byteAt l (k + m))
    rw [e]
    unfold scStep
    split
    · refine ⟨more ++ [(scEnd l (scRun l (k + m)) (k + m) (byteAt l (k + m))).words], ?_⟩
      show (scEnd l (scRun l (k + m)) (k + m) (byteAt l (k + m))).lines ++ _ = _
      rw [e1, h, List.append_assoc]
    · split
      · exact ⟨more, by show (scEnd l (scRun l (k + m)) (k + m) (byteAt l (k + m))).lines = _; rw [e1, h]⟩
      · split
        · exact ⟨more, h⟩
        · exact ⟨more, by rw [e1, h]⟩
theorem split_pre (t u : List UInt8) : ∃ more, splitN (t ++ 10 :: u) = splitN t ++ more := by
  obtain ⟨more, h⟩ := lines_more (t ++ 10 :: u) (t.length + 1) (u.length + 1)
  refine ⟨more, ?_⟩
  unfold splitN
  rw [← run_pre t u (t.length + 1) (Nat.le_refl _), ← h]
  congr 2
  simp
  omega
theorem linesA_pre (ls more : List (List Wd)) : ∀ k, k ≤ ls.length → linesA (ls ++ more) k = linesA ls k
  | 0, _ => rfl
  | k + 1, hk => by
    rw [linesA, linesA, linesA_pre ls more k (by omega), List.getD_eq_getElem?_getD, List.getD_eq_getElem?_getD, List.getElem?_append_left (by omega)]
/-- an error within the lines stays, whatever lines follow -/
theorem first_stays (t u : List UInt8) {E : Nat × Nat × Int} (h : linesA (splitN t) (splitN t).length = .error E) : linesA (splitN (t ++ 10 :: u)) (splitN (t ++ 10 :: u)).length = .error E := by
  obtain ⟨more, e⟩ := split_pre t u
  rw [e]
  refine linesA_up (i := (splitN t).length) ?_ _ (by simp)
  rw [linesA_pre _ _ _ (Nat.le_refl _)]
  exact h
end Go.Proofs.YtiiplikmoodfnaaGreatDoor
/-
  THE DOCUMENT's LINES AND WORDS: the same.
-/
namespace Go.Proofs.YtiiplikmoodfnaaGreatDoor

def isBlN (c : Nat) : Bool := decide (c = 32) || decide (c = 9) || decide (c = 13)
/-- a word that has begun ends -/
def rwE (l : List UInt8) (s : List Wd × Option Nat) (k : Nat) : List Wd := match s.2 with
  | none => s.1
  | some f => s.1 ++ [(pieceL l f k, f + 1)]
/-- a line's words, behind k bytes -/
def rwAt (l : List UInt8) : Nat → List Wd × Option Nat
  | 0 => ([], none)
  | k + 1 => if isBlN (l.getD k 0).toNat = true then (rwE l (rwAt l k) k, none) else match (rwAt l k).2 with
    | none => ((rwAt l k).1, some k)
    | some f => ((rwAt l k).1, some f)
def hashN : List UInt8 → Nat
  | [] => 0
  | c :: r => if c = 35 then 0 else hashN r + 1
def wordsN (l : List UInt8) : List Wd := rwE l (rwAt l (hashN l)) (hashN l)
theorem hashN_le : ∀ l : List UInt8, hashN l ≤ l.length
  | [] => Nat.le_refl _
  | c :: r => by
    unfold hashN
    split
    · simp
    · have := hashN_le r
      simp
      omega
theorem hashN_bef : ∀ (l : List UInt8) (j : Nat), j < hashN l → l.getD j 0 ≠ 35
  | [], j, h => by simp [hashN] at h
  | c :: r, j, h => by
    unfold hashN at h
    split at h
    · omega
    · rename_i hc
      cases j with
      | zero => simpa using hc
      | succ j => simpa using hashN_bef r j (by omega)
theorem hashN_at : ∀ (l : List UInt8), hashN l < l.length → l.getD (hashN l) 0 = 35
  | [], h => by simp at h
  | c :: r, h => by
    unfold hashN at h ⊢
    split
    · rename_i hc
      simpa using hc
    · rename_i hc
      rw [if_neg hc] at h
      have := hashN_at r (by simp at h; omega)
      simpa using this
theorem rwAt_lt (l : List UInt8) : ∀ k f, (rwAt l k).2 = some f → f < k
  | 0, f, h => by cases h
  | k + 1, f, h => by
    unfold rwAt at h
    split at h
    · cases h
    · split at h
      · cases h; omega
      · rename_i g hg
        cases h
        have := rwAt_lt l k f hg
        omega
theorem endB_bl {c : Nat} : endB c = (isBlN c || decide (c = 10) || decide (c = 35)) := by
  unfold endB isBlN
  cases decide (c = 32) <;> cases decide (c = 9) <;> cases decide (c = 13) <;> rfl
theorem piece_seg (A ln B : List UInt8) (f k : Nat) (hk : k ≤ ln.length) : pieceL (A ++ (ln ++ B)) (A.length + f) (A.length + k) = pieceL ln f k := by
  unfold pieceL
  rw [List.take_length_add_append, List.drop_length_add_append, List.take_append_of_le_length hk]
theorem byte_seg (A ln B : List UInt8) (k : Nat) (hk : k < ln.length) : byteAt (A ++ (ln ++ B)) (A.length + k) = (ln.getD k 0).toNat := by
  unfold byteAt
  rw [List.append_assoc, List.getD_eq_getElem?_getD, List.getElem?_append_right (by omega), Nat.add_sub_cancel_left, List.append_assoc, List.getElem?_append_left hk, List.getD_eq_getElem?_getD]
/-- up to a comment -/
theorem seg_bef (A ln B : List UInt8) (Ls : List (List Wd)) (h0 : scRun (A ++ (ln ++ B)) A.length = ⟨Ls, [], A.length, none, false⟩) (h10 : ∀ k, k < ln.length → ln.getD k 0 ≠ 10) : ∀ j, j ≤ hashN ln → scRun (A ++ (ln ++ B)) (A.length + j) = ⟨Ls, (rwAt ln j).1, A.length, (rwAt ln j).2.map (A.length + ·), false⟩
  | 0, _ => h0
  | j + 1, hj => by
    have ih := seg_bef A ln B Ls h0 h10 j (by omega)
    have hl := hashN_le ln
    show scStep _ (scRun (A ++ (ln ++ B)) (A.length + j)) (A.length + j) (byteAt (A ++ (ln ++ B)) (A.length + j)) = _
    rw [ih, byte_seg A ln B j (by omega)]
    have n10 : (ln.getD j 0).toNat ≠ 10 := fun e => h10 j (by omega) (UInt8.toNat_inj.1 e)
    have n35 : (ln.getD j 0).toNat ≠ 35 := fun e => hashN_bef ln j (by omega) (UInt8.toNat_inj.1 e)
    have hlt := rwAt_lt ln j
    unfold scStep
    rw [if_neg n10, if_neg n35]
    have he : endB (ln.getD j 0).toNat = isBlN (ln.getD j 0).toNat := by rw [endB_bl, decide_eq_false n10, decide_eq_false n35]; simp
    cases hb : isBlN (ln.getD j 0).toNat with
    | true =>
      rw [if_neg (by rw [he, hb]; simp)]
      have e1 : rwAt ln (j + 1) = (rwE ln (rwAt ln j) j, none) := by rw [rwAt, if_pos hb]
      rw [e1]
      unfold scEnd rwE
      cases hf : (rwAt ln j).2 with
      | none => rfl
      | some f =>
        have := hlt f hf
        simp only [Option.map_some]
        rw [he, hb, if_pos rfl, piece_seg A ln B f j (by omega)]
        congr 3
        congr 1
        omega
    | false =>
      have e1 : rwAt ln (j + 1) = match (rwAt ln j).2 with
          | none => ((rwAt ln j).1, some j)
          | some f => ((rwAt ln j).1, some f) := by rw [rwAt, if_neg (by rw [hb]; simp)]
      rw [e1]
      cases hf : (rwAt ln j).2 with
      | none =>
        rw [if_pos ⟨rfl, by rw [he, hb], rfl⟩]
        rfl
      | some f =>
        rw [if_neg (by simp)]
        unfold scEnd
        simp only [Option.map_some]
        rw [he, hb, if_neg (by simp)]
/-- a whole line -/
theorem seg_line (A ln B : List UInt8) (Ls : List (List Wd)) (hB : byteAt (A ++ (ln ++ B)) (A.length + ln.length) = 10) (h0 : scRun (A ++ (ln ++ B)) A.length = ⟨Ls, [], A.length, none, false⟩) (h10 : ∀ k, k < ln.length → ln.getD k 0 ≠ 10) : scRun (A ++ (ln ++ B)) (A.length + ln.length + 1) = ⟨Ls ++ [wordsN ln], [], A.length + ln.length + 1, none, false⟩ := by
  have hl := hashN_le ln
  have h1 := seg_bef A ln B Ls h0 h10 (hashN ln) (Nat.le_refl _)
  have hlt := rwAt_lt ln (hashN ln)
  have e0 : scRun (A ++ (ln ++ B)) (A.length + ln.length + 1) = scStep (A ++ (ln ++ B)) (scRun (A ++ (ln ++ B)) (A.length + ln.length)) (A.length + ln.length) 10 := by rw [← hB]; rfl
  by_cases hh : hashN ln = ln.length
  · rw [e0, ← hh, h1]
    unfold scStep
    rw [if_pos rfl]
    unfold scEnd wordsN rwE
    cases hf : (rwAt ln (hashN ln)).2 with
    | none => rfl
    | some f =>
      have := hlt f hf
      simp only [Option.map_some]
      rw [if_pos (by rfl), piece_seg A ln B f (hashN ln) hl, show A.length + f - A.length + 1 = f + 1 by omega]
  · have h2 : ∀ j, hashN ln + 1 ≤ j → j ≤ ln.length → scRun (A ++ (ln ++ B)) (A.length + j) = ⟨Ls, wordsN ln, A.length, none, true⟩ := fun j => by
      induction j with
      | zero => intro h; omega
      | succ j ih =>
        intro hj hj2
        show scStep _ (scRun (A ++ (ln ++ B)) (A.length + j)) (A.length + j) (byteAt (A ++ (ln ++ B)) (A.length + j)) = _
        rw [byte_seg A ln B j (by omega)]
        by_cases hjh : j = hashN ln
        · rw [hjh, h1, hashN_at ln (by omega)]
          unfold scStep
          rw [if_neg (by decide), if_pos (by decide)]
          unfold scEnd wordsN rwE
          cases hf : (rwAt ln (hashN ln)).2 with
          | none => rfl
          | some f =>
            have := hlt f hf
            simp only [Option.map_some]
            rw [if_pos (by rfl), piece_seg A ln B f (hashN ln) hl]
            simp only
            congr 3
            congr 1
            omega
        · rw [ih (by omega) (by omega)]
          have n10 : (ln.getD j 0).toNat ≠ 10 := fun e => h10 j (by omega) (UInt8.toNat_inj.1 e)
          unfold scStep
          rw [if_neg n10]
          split
          · rfl
          · rw [if_neg (by simp)]
            rfl
    rw [e0, h2 ln.length (by omega) (Nat.le_refl _)]
    unfold scStep
    rw [if_pos rfl]
    rfl
end Go.Proofs.YtiiplikmoodfnaaGreatDoor
/-
  THE DOCUMENT's LINES: cut.
-/
namespace Go.Proofs.YtiiplikmoodfnaaGreatDoor

/-- the lines behind k bytes, and where the line begins that is read -/
def ctAt (l : List UInt8) : Nat → List (List Wd) × Nat
  | 0 => ([], 0)
  | k + 1 => if l.getD k 0 = 10 then ((ctAt l k).1 ++ [wordsN (pieceL l (ctAt l k).2 k)], k + 1) else ctAt l k
def cutN (l : List UInt8) : List (List Wd) := if (ctAt l l.length).2 < l.length then (ctAt l l.length).1 ++ [wordsN (pieceL l (ctAt l l.length).2 l.length)] else (ctAt l l.length).1
theorem ctAt_le (l : List UInt8) : ∀ k, (ctAt l k).2 ≤ k
  | 0 => Nat.le_refl _
  | k + 1 => by
    unfold ctAt
    split
    · exact Nat.le_refl _
    · have := ctAt_le l k
      omega
theorem ctAt_no (l : List UInt8) : ∀ k j, (ctAt l k).2 ≤ j → j < k → l.getD j 0 ≠ 10
  | 0, j, _, h => by omega
  | k + 1, j, h1, h2 => by
    unfold ctAt at h1
    split at h1
    · simp only at h1
      omega
    · rename_i hc
      by_cases e : j = k
      · rw [e]; exact hc
      · exact ctAt_no l k j h1 (by omega)
/-- a text, cut at a line's beginning -/
theorem cut_at (l : List UInt8) (f k : Nat) (hf : f ≤ k) (hk : k ≤ l.length) : l = l.take f ++ (pieceL l f k ++ l.drop k) ∧ (l.take f).length = f ∧ (pieceL l f k).length = k - f := by
  refine ⟨?_, by rw [List.length_take]; omega, by unfold pieceL; rw [List.length_drop, List.length_take]; omega⟩
  unfold pieceL
  have h1 : l.take f = (l.take k).take f := by rw [List.take_take, Nat.min_eq_left hf]
  rw [← List.append_assoc, h1, List.take_append_drop, List.take_append_drop]
theorem piece_getD (l : List UInt8) (f k j : Nat) (hj : j < k - f) : (pieceL l f k).getD j 0 = l.getD (f + j) 0 := by
  unfold pieceL
  rw [List.getD_eq_getElem?_getD, List.getElem?_drop, List.getElem?_take, if_pos (by omega), List.getD_eq_getElem?_getD]
/-- one line more -/
theorem cut_line (l : List UInt8) (f k : Nat) (Ls : List (List Wd)) (hf : f ≤ k) (hk : k ≤ l.length) (h0 : scRun l f = ⟨Ls, [], f, none, false⟩) (hno : ∀ j, f ≤ j → j < k → l.getD j 0 ≠ 10) (hb : byteAt l k = 10) : scRun l (k + 1) = ⟨Ls ++ [wordsN (pieceL l f k)], [], k + 1, none, false⟩ := by
  obtain ⟨e, hA, hP⟩ := cut_at l f k hf hk
  have hs : (l.take f).length + (pieceL l f k).length = k := by omega
  have h := seg_line (l.take f) (pieceL l f k) (l.drop k) Ls (by rw [← e, hs]; exact hb) (by rw [← e, hA]; exact h0) (fun j hj => by rw [hP] at hj; rw [piece_getD l f k j hj]; exact hno (f + j) (by omega) (by omega))
  rw [← e, hs] at h
  exact h
theorem cut_run (l : List UInt8) : ∀ k, k ≤ l.length → scRun l (ctAt l k).2 = ⟨(ctAt l k).1, [], (ctAt l k).2, none, false⟩
  | 0, _ => rfl
  | k + 1, hk => by
    have ih := cut_run l k (by omega)
    by_cases hc : l.getD k 0 = 10
    · have e : ctAt l (k + 1) = ((ctAt l k).1 ++ [wordsN (pieceL l (ctAt l k).2 k)], k + 1) := by rw [ctAt, if_pos hc]
      rw [e]
      exact cut_line l _ k _ (ctAt_le l k) (by omega) ih (ctAt_no l k) (by rw [byteAt_in l (by omega), hc]; rfl)
    · have e : ctAt l (k + 1) = ctAt l k := by rw [ctAt, if_neg hc]
      rw [e]
      exact ih
theorem split_cut (l : List UInt8) : splitN l = (ctAt l l.length).1 ++ [wordsN (pieceL l (ctAt l l.length).2 l.length)] := by
  unfold splitN
  rw [cut_line l _ l.length _ (ctAt_le l _) (Nat.le_refl _) (cut_run l l.length (Nat.le_refl _)) (ctAt_no l _) (byteAt_last l)]
theorem lines_cut (l : List UInt8) : linesA (splitN l) (splitN l).length = linesA (cutN l) (cutN l).length := by
  unfold cutN
  rw [split_cut l]
  by_cases h : (ctAt l l.length).2 < l.length
  · rw [if_pos h]
  · rw [if_neg h]
    have hp : pieceL l (ctAt l l.length).2 l.length = [] := by
      unfold pieceL
      rw [List.drop_eq_nil_of_le (by rw [List.length_take]; omega)]
    rw [hp, show wordsN [] = [] from rfl, List.length_append]
    show linesA _ ((ctAt l l.length).1.length + 1) = _
    rw [linesA, linesA_pre _ _ _ (Nat.le_refl _)]
    cases linesA (ctAt l l.length).1 (ctAt l l.length).1.length with
    | error e => rfl
    | ok a =>
      simp only
      rw [List.getD_eq_getElem?_getD, List.getElem?_append_right (Nat.le_refl _)]
      simp [lineA]
end Go.Proofs.YtiiplikmoodfnaaGreatDoor
/-
  THE WALK OF codec.fresh.
-/
namespace Go.Proofs.YtiiplikmoodfnaaGreatDoor
open Go.RowKit

end Go.Proofs.YtiiplikmoodfnaaGreatDoor
/-
  THE WALKS OF codec.Writer's METHODS.
-/
namespace Go.Proofs.YtiiplikmoodfnaaGreatDoor
open Go.RowKit

/-- WHAT A CALL OF A Writer LEAVES: its own block and its row may turn, and new blocks; its new row is the old one or a new block. -/
structure Wrote (w w' : World) (r : Nat) (v v' : Value) : Prop where
  os : w'.os = w.os
  tape : w'.tape = w.tape
  output : w'.output = w.output
  size : w.heap.size ≤ w'.heap.size
  block : ∀ k, k < w.heap.size → k ≠ r → v.ownBlock ≠ some k → w'.heap[k]? = w.heap[k]?
  lies : ∀ k, v'.ownBlock = some k → v.ownBlock = some k ∨ w.heap.size ≤ k
theorem Wrote.refl (w : World) (r : Nat) (v : Value) : Wrote w w r v v := ⟨rfl, rfl, rfl, Nat.le_refl _, fun _ _ _ _ => rfl, fun _ h => .inl h⟩
theorem Wrote.trans {w w1 w2 : World} {r : Nat} {v v1 v2 : Value} (h : Wrote w w1 r v v1) (k : Wrote w1 w2 r v1 v2) : Wrote w w2 r v v2 := by
  refine ⟨k.os.trans h.os, k.tape.trans h.tape, k.output.trans h.output, Nat.le_trans h.size k.size, fun i hi hr hv => ?_, fun i hi => ?_⟩
  · rw [k.block i (Nat.lt_of_lt_of_le hi h.size) hr (fun e => ?_), h.block i hi hr hv]
    rcases h.lies i e with h1 | h1
    · exact hv h1
    · omega
  · rcases k.lies i hi with h1 | h1
    · exact h.lies i h1
    · exact .inr (Nat.le_trans h.size h1)
theorem Wrote.bytes {w w1 : World} {r : Nat} {v v1 : Value} {ao : Option Addr} {zs : List Nat} (h : Wrote w w1 r v v1) (hb : BytesAt w ao zs) (hlt : ∀ a, zs ≠ [] → ao = some a → a.block ≠ r ∧ v.ownBlock ≠ some a.block) : BytesAt w1 ao zs := by
  have hl := hb.lt
  obtain ⟨hz, rfl | ⟨b, off, rfl, hc⟩⟩ := hb
  · exact ⟨hz, .inl rfl⟩
  · refine ⟨hz, .inr ⟨b, off, rfl, fun j hj => ?_⟩⟩
    have hne : zs ≠ [] := by intro e; rw [e] at hj; simp at hj
    have h1 := hlt _ hne rfl
    have h2 := h.block b (hl _ hne rfl) h1.1 h1.2
    have h3 := hc j hj
    simp only [World.cell?] at h3 ⊢
    rw [h2]; exact h3
theorem grown_alloc {w : World} {o : Obj} {row : Option Nat} (w1 : World) (h : (w.alloc o).grownBy w1 row) : w.grownBy w1 row :=
  ⟨h.os, h.tape, h.output, Nat.le_trans (by simp) h.size, fun k hk hne => (h.block k (by simp; omega) hne).trans (Below.heap_alloc w o k hk)⟩




/-- a number without sign: seven bits a byte -/
def uint : Nat → Nat → List Nat
  | 0, n => [n % 256]
  | f + 1, n => if 128 ≤ n then (n % 128 + 128) :: uint f (n / 128) else [n]
theorem uint_more (f n : Nat) (h : 128 ≤ n) : uint (f + 1) n = (n % 128 + 128) :: uint f (n / 128) := by rw [uint, if_pos h]
theorem uint_last (f n : Nat) (h : ¬ 128 ≤ n) : uint (f + 1) n = [n] := by rw [uint, if_neg h]
theorem uint_lt : ∀ f n, ∀ z ∈ uint f n, z < 256
  | 0, n => by intro z hz; simp [uint] at hz; omega
  | f + 1, n => by
    intro z hz
    unfold uint at hz
    split at hz
    · rcases List.mem_cons.1 hz with rfl | h
      · omega
      · exact uint_lt f _ z h
    · simp at hz; omega
theorem uint_length : ∀ f n, (uint f n).length ≤ f + 1
  | 0, n => by simp [uint]
  | f + 1, n => by
    unfold uint
    split
    · have := uint_length f (n / 128); simp only [List.length_cons]; omega
    · simp
theorem or128 (n : Nat) : bits .or .u8 ((n : Int) % 256) 128 = ((n % 128 + 128 : Nat) : Int) := by
  have h := u8_or_nat (n % 256) 128 (by omega) (by omega)
  have e : (n % 256) ||| 128 = n % 128 + 128 := by
    have h1 : n % 256 = n % 128 + 128 * (n / 128 % 2) := by omega
    have h2 : ∀ a, a < 128 → ∀ b, b < 2 → (a + 128 * b) ||| 128 = a + 128 := by decide +kernel
    rw [h1]
    exact h2 _ (by omega) _ (by omega)
  rw [e] at h
  rw [show ((n : Int) % 256) = ((n % 256 : Nat) : Int) by omega]
  exact h


/-- a number with sign as one without -/
def fold (n : Int) : Nat := if n < 0 then (2 * (-1 - n) + 1).toNat else (2 * n).toNat
theorem fold_lt (n : Int) (h0 : -9223372036854775808 ≤ n) (h1 : n ≤ 9223372036854775807) : fold n < 18446744073709551616 := by
  unfold fold; split <;> omega




end Go.Proofs.YtiiplikmoodfnaaGreatDoor
/-
  THE WALKS OF preluderef01.Uint, Fold, Int.
-/
namespace Go.Proofs.YtiiplikmoodfnaaGreatDoor
open Go.RowKit

/-- append at a slice of bytes of the call's own, as one equation -/
theorem run_append_bytes {w : World} (ty : TypeId) (base : Nat) (v : Value) (L : List Nat) (hown : OwnB w base v L)
    (ao : Option Addr) (m c : Nat) (zs : List Nat) (hm : m = zs.length) (hsrc : BytesAt w ao zs) (hnil : ao = none → c = 0) (hlen : L.length + zs.length ≤ 140737488355328) (hbase : base ≤ w.heap.size) :
    ∃ v' w', (Builtin.append_ #[168, 168] ty #[v, .slice ao m c]).run Tryz.prog w = .ok v' w' ∧ OwnB w' base v' (L ++ zs) ∧ w.grownBy w' v.ownBlock ∧ (v'.ownBlock = v.ownBlock ∨ v'.ownBlock = some w.heap.size) := by
  obtain ⟨i0, hi, hz0, hz1, hz2⟩ := info_parts info8
  subst hm
  have hzz : ∀ z ∈ L ++ zs, z < 256 := by
    intro z hz
    rcases List.mem_append.1 hz with h1 | h1
    · exact hown.1 z h1
    · exact hsrc.1 z h1
  cases ao with
  | none =>
    have h0 : zs = [] := by
      obtain ⟨_, h1 | ⟨b, off, h1, _⟩⟩ := hsrc
      · exact h1
      · cases h1
    subst h0
    obtain rfl := hnil rfl
    exact ⟨v, w, run_append_owned_none (P := Tryz.prog) (w := w) base 168 ty 5 i0 1 Tryz.underlying168 hi v L.length (L.map b8) hown.2, by simpa using hown, World.grownBy.refl _ _, .inl rfl⟩
  | some ad =>
    obtain ⟨v', w', hr, h2, h3, _, h5⟩ := run_append_own_at (P := Tryz.prog) w base 168 ty 5 i0 (.int .u8 0) 1 1 Tryz.underlying168 hi hz0 hz1 hz2 rfl (by decide) v L.length (L.map b8) hown.2 ad zs.length c (zs.map b8) (by simp)
      (by
        intro j u hu
        by_cases h0 : zs = []
        · subst h0; simp at hu
        · obtain ⟨ad', e, hc⟩ := bytes_src hsrc h0
          cases e
          exact hc j u hu) (oneCells zs) (by unfold maxLen; omega) (by omega) hbase
    exact ⟨v', w', hr, ⟨hzz, by rw [List.length_append, List.map_append]; exact h2⟩, h3, h5⟩
/-- at a step of a region that draws -/
theorem step_append_bytes {w : World} {ops : Array Oper} {o : Oper} {a : Act} {K : Act → World → Prop} {Q : Exit → Act → World → Prop} {E : Prop} (hgd : o.guard = none) (s x : Operand)
    (ho : o.op = .call { callee := .builtin .append, args := #[s, x], argTypes := #[168, 168] }) (base : Nat) (v : Value) (L : List Nat) (hs : a.eval s = v) (hown : OwnB w base v L)
    (ao : Option Addr) (m c : Nat) (zs : List Nat) (hx : a.eval x = .slice ao m c) (hm : m = zs.length) (hsrc : BytesAt w ao zs) (hnil : ao = none → c = 0) (hlen : L.length + zs.length ≤ 140737488355328) (hbase : base ≤ w.heap.size)
    (h : ∀ v' w', OwnB w' base v' (L ++ zs) → w.grownBy w' v.ownBlock → (v'.ownBlock = v.ownBlock ∨ v'.ownBlock = some w.heap.size) → K (a.put o.dst v') w') :
    if Region.wanted o (yielded ops a.tmps) = true then Oper.wp Tryz.prog o a w K Q else E := by
  have hw : Region.wanted o (yielded ops a.tmps) = true := by simp [Region.wanted, hgd]
  rw [if_pos hw]
  obtain ⟨v', w', hr, h2, h3, h4⟩ := run_append_bytes o.type base v L hown ao m c zs hm hsrc hnil hlen hbase
  unfold Oper.wp execOp
  simp only [ho, resolve, invoke, builtin, Sem.run_bind, Sem.run_pure, Result.andThen_ok, List.map_toArray, List.map_cons, List.map_nil, hs, hx, hr]
  exact h v' w' h2 h3 h4

theorem below_grown {w w1 : World} {row : Option Nat} {B : Nat} (h : w.grownBy w1 row) (hr : ∀ k, row = some k → B ≤ k) (hB : B ≤ w.heap.size) : Below B w w1 :=
  ⟨h.os, h.tape, h.output, h.size, fun k hk => h.block k (by omega) (fun e => by have := hr k e.symm; omega)⟩



end Go.Proofs.YtiiplikmoodfnaaGreatDoor
