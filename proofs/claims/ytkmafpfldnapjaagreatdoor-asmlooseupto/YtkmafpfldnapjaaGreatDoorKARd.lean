import Derived.Test.YtkmafpfldnapjaaGreatDoorKAFst
import Derived.Test.YtkmafpfldnapjaaGreatDoorKLProc
import Derived.Test.YtkmafpfldnapjaaGreatDoorProg
import Derived.WalkKit
import Derived.LaidEql
import Derived.Stop.Asserts
import Derived.RowKitTokens
/-
  read: one line.
-/
namespace Go.Proofs.YtkmafpfldnapjaaGreatDoor
open Go.RowKit Go.Sort

theorem ASt.line {W : World} {M B line : Nat} {a : As} {Ps : List Pr} {vl vn vm vj : Value} (h : ASt W M B line a Ps vl vn vm vj) (l : Nat) : ASt (W.setCell ⟨B, 0, none⟩ (.int .i64 (l : Int))) M B l a Ps vl vn vm vj :=
  ⟨heap_setCell_same W B 0 _ _ _ h.ab, h.rowB _ _ h.lib (by decide), h.eq, fun x hx => ⟨(h.code x hx).1, h.rowB _ _ (h.code x hx).2 (by decide)⟩, h.ap, h.rowB _ _ h.nms (by decide), h.rowB _ _ h.jps (by decide), fun ho => by obtain ⟨mb, h1, h2, h3⟩ := h.lab ho; exact ⟨mb, h1, h2, h.lmB _ _ h3⟩, h.ok, h.bm.1, by simpa using h.bm.2⟩
/-- what a line leaves, whatever stands in it -/
def ReadPost (W : World) (M B num : Nat) (R : Except (Nat × Nat × Int) As) (e : Ending) (w' : World) : Prop :=
  (∃ v E, e = .returned v ∧ ErrIn w' v num E ∧ R = .error E ∧ FrA M B W w') ∨
  (∃ l a' Ps' vl vn vm vj, e = .returned .nilIface ∧ R = .ok a' ∧ ASt w' M B l a' Ps' vl vn vm vj ∧ FrA M B W w')
theorem LinePost.read {W0 W w' : World} {M B num : Nat} {R : Except (Nat × Nat × Int) As} {e : Ending} (hf : FrA M B W0 W) (h : LinePost W M B num R e w') : ReadPost W0 M B num R e w' := by
  rcases h with ⟨v, E, h1, h2, h3, h4⟩ | ⟨a', Ps', vl, vn, vm, vj, h1, h2, h3, h4⟩
  · exact .inl ⟨v, E, h1, h2, h3, hf.trans h4⟩
  · exact .inr ⟨num, a', Ps', vl, vn, vm, vj, h1, h2, h3, hf.trans h4⟩
theorem line_ret {W w' : World} {M B num : Nat} {R : Except (Nat × Nat × Int) As} {e : Ending} (h : LinePost W M B num R e w') : ∃ v, e = .returned v := by
  rcases h with ⟨v, _, h1, _⟩ | ⟨_, _, _, _, _, _, h1, _⟩
  · exact ⟨v, h1⟩
  · exact ⟨_, h1⟩
set_option maxRecDepth 100000 in
set_option maxHeartbeats 1000000 in
theorem readA_any (w : World) (M B line0 k num : Nat) (a : As) (Ps : List Pr) (vl vn vm vj : Value) (wo : Option Addr) (wc : Nat) (ws : List Wd) (h : ASt w M B line0 a Ps vl vn vm vj) (hz : AsSz a k) (hc : CellsAt w wo (wcs ws)) (hcap : ws.length ≤ wc) (hza : ∀ ad, wo = some ad → ws ≠ [] → ZA M B ad.block) (hs : SmallW ws) (hwl : ∀ y ∈ ws, y.1.length ≤ 65536) (hv : NumVars w) (hn : NmAt w) (hkw : KwAt w) (hB : 8 ≤ B) :
    Calls Tryz.prog 25 #[.pointer (some ⟨B, 0, none⟩), .int .i64 (num : Int), .slice wo ws.length wc] w fun e w' => ReadPost w M B num (lineA a num ws) e w' := by
  have hM := h.bm.2
  have hBM := h.bm.1
  cases ws with
  | nil =>
    have HE : Hid (ReadPost w M B num (lineA a num []) (.returned .nilIface) w) := .inr ⟨line0, a, Ps, vl, vn, vm, vj, rfl, by unfold lineA; rw [if_pos rfl], h, FrA.refl _ _ _⟩
    clear h hz hc hcap hza hs hwl hv hn hkw
    go_enter Tryz.func25, Tryz.ntmps25
    go_wp2
    go_ret
    exact HE.out
  | cons x rest =>
    obtain ⟨x0, _⟩ := h.ab.cells
    have f0 := h.ab.frozen 0
    have hAl := h.line num
    obtain ⟨W2, hW2⟩ : ∃ W2, W2 = (w.setCell ⟨B, 0, none⟩ (.int .i64 (num : Int))).alloc (.cells #[.slice wo (rest.length + 1) wc, .int .i64 0] 120) := ⟨_, rfl⟩
    have HA2 : Hid (ASt W2 M B num a Ps vl vn vm vj) := by show ASt _ _ _ _ _ _ _ _ _ _; rw [hW2]; exact hAl.below (bel_al _ _)
    have hF2 : FrA M B w W2 := by rw [hW2]; exact (FrA.set ⟨B, 0, none⟩ _ (.inl rfl)).trans (FrA.bel (bel_al _ _) hAl.bm.2)
    have HF2 := hidA hF2
    have HR2 : Hid (RB (ZA M B) W2 w.heap.size (x :: rest, 0)) := by
      refine ⟨wo, wc, by rw [hW2]; exact heap_alloc_new _ _ (by simp), ?_, fun ad e1 hne => ⟨by have := (hza ad e1 hne).1; omega, hza ad e1 hne⟩, hcap⟩
      rcases hc with hc | ⟨b, off, rfl, hc⟩
      · exact .inl hc
      · refine .inr ⟨b, off, rfl, fun j u hu => ?_⟩
        have h5 := hc j u hu
        have h6 := hza _ rfl (by simp)
        simp only [World.cell?] at h5 ⊢
        rw [hF2.block b h6.1 h6.2]
        exact h5
    obtain ⟨_, _, _, y3, _⟩ := HA2.out.ab.cells
    have hl := hs.2
    simp only [List.length_cons] at hl
    have HIn : Hid (a.opn = true → Calls Tryz.prog 56 #[.pointer (some ⟨B, 0, none⟩), .pointer (some ⟨w.heap.size, 0, none⟩)] W2 fun e w' => LinePost W2 M B num (insideA a num (x :: rest)) e w') := fun ho =>
      readInside_any W2 M B num k a Ps vl vn vm vj w.heap.size x rest HA2.out hz ho HR2.out hs hM hwl (hv.fra hF2 hBM hB) (hn.fra hF2 hBM hB) hB
    have HFi := hidA (readFirst_any W2 M B num k a Ps vl vn vm vj w.heap.size x rest HA2.out hz HR2.out hs hM hwl (hv.fra hF2 hBM hB) (hkw.fra hF2 hBM hB) hB)
    clear h hz hc hcap hza hs hwl hv hn hkw hF2 hAl HA2 HR2
    go_enter Tryz.func25, Tryz.ntmps25
    go_upto_region 5 with fail
    rw [← hW2]
    clear hW2 x0 f0
    cases hb : a.opn with
    | true =>
      rw [hb] at y3
      have HC := hidA (HIn.out hb)
      have HL : Hid (lineA a num (x :: rest) = insideA a num (x :: rest)) := by show _ = _; unfold lineA; rw [if_neg (by simp), if_pos hb]
      clear hb HIn HFi
      go_wp2_with fail
      refine HC.out.mono ?_
      intro e w3 hp
      obtain ⟨v, rfl⟩ := line_ret hp
      have HE : Hid (ReadPost w M B num (lineA a num (x :: rest)) (.returned v) w3) := by show ReadPost _ _ _ _ _ _ _; rw [HL.out]; exact hp.read HF2.out
      clear hp HC y3
      go_wp2_with fail
      go_ret
      exact HE.out
    | false =>
      rw [hb] at y3
      have HL : Hid (lineA a num (x :: rest) = frstE a num (x :: rest)) := by show _ = _; unfold lineA frstE; rw [if_neg (by simp), if_neg (by rw [hb]; simp)]; cases firstA a num (x :: rest) <;> rfl
      clear hb HIn
      go_wp2_with fail
      refine HFi.out.mono ?_
      intro e w3 hp
      obtain ⟨v, rfl⟩ := line_ret hp
      have HE : Hid (ReadPost w M B num (lineA a num (x :: rest)) (.returned v) w3) := by show ReadPost _ _ _ _ _ _ _; rw [HL.out]; exact hp.read HF2.out
      clear hp HFi y3
      go_wp2_with fail
      go_ret
      exact HE.out
end Go.Proofs.YtkmafpfldnapjaaGreatDoor
/-
  library: what was read, if it may end there and it is sound.
-/
namespace Go.Proofs.YtkmafpfldnapjaaGreatDoor
open Go.RowKit Go.Sort

theorem own_at {W : World} {base e size n : Nat} {v : Value} {xs : List Value} (h : W.ownsRow base e size v n xs) : xs = [] ∨ ∃ g cap, v = .slice (some ⟨g, 0, none⟩) n cap ∧ ∀ j u, xs[j]? = some u → W.cell? ⟨g, 0 + j, none⟩ = some u := by
  have h0 := h
  obtain ⟨hx, ⟨rfl, hn⟩ | ⟨g, cap, cur, rfl, _⟩⟩ := h
  · exact .inl (List.eq_nil_of_length_eq_zero (by rw [hx, hn, Nat.zero_mul]))
  · refine .inr ⟨g, cap, rfl, fun j u hu => ?_⟩
    have hj : j < n * size := by rw [← hx]; exact (List.getElem?_eq_some_iff.1 hu).1
    rw [Nat.zero_add, World.ownsRow.cellAt h0 j hj, hu]
/-- an assembly's procedures are a library -/
theorem ASt.libAt {W : World} {M B line k : Nat} {a : As} {Ps : List Pr} {vn vm vj : Value} {ao : Option Addr} {n cap : Nat} (h : ASt W M B line a Ps (.slice ao n cap) vn vm vj) (hz : AsSz a k) : LibAt W ao Ps := by
  refine ⟨?_, fun x hx => ?_⟩
  · obtain ⟨ao', cap', e, hp, _⟩ := h.lib.slice
    cases e
    exact hp
  · obtain ⟨h1, h2⟩ := h.code x hx
    obtain ⟨h3, h4, h5⟩ := h.ok x hx
    have h6 : x.L.length ≤ 65537 := Nat.le_trans (hz.code (ppOf x) (by rw [h.eq]; exact List.mem_map_of_mem hx)) hz.top
    refine ⟨h1, ?_, h3, h4, fun e => ?_, by omega, by omega⟩
    · rcases own_at h2 with h7 | ⟨g, cap', e, hc⟩
      · refine .inl ?_
        cases hL : x.L with
        | nil => rfl
        | cons y L => rw [hL] at h7; simp [cks] at h7
      · unfold cdV at e
        simp only [Value.slice.injEq] at e
        exact .inr ⟨g, 0, e.1, hc⟩
    · obtain ⟨ao', cap', e1, e2, _⟩ := own_slice h2
      unfold cdV at e1
      simp only [Value.slice.injEq] at e1
      have := (e2 (by rw [← e1.1]; exact e)).1
      rw [e1.2.2]; exact this
theorem firstP_lt (f : Nat → Int) : ∀ n, (firstP f n).2 ≠ 0 → (firstP f n).1 < n
  | 0, h => by simp [firstP] at h
  | n + 1, h => by
    unfold firstP at h ⊢
    split
    · rename_i h1
      have := firstP_lt f n h1
      omega
    · rename_i h1
      rw [if_neg h1] at h
      split
      · show n < n + 1; omega
      · rename_i h2
        rw [if_neg h2] at h
        simp at h
theorem checkN_lt {Ps : List Pr} (h : (checkN Ps).2 ≠ 0) : (checkN Ps).1 < Ps.length := by
  unfold checkN at h ⊢
  split
  · show 0 < Ps.length; omega
  · rename_i h1
    rw [if_neg h1] at h
    exact firstP_lt _ _ h
/-- what library leaves -/
def LibPost (W : World) (M B : Nat) (a : As) (Ps : List Pr) (vl : Value) (e : Ending) (w' : World) : Prop :=
  (∃ v, e = .returned (.tuple #[.slice none 0 0, v]) ∧ a.opn = true ∧ ErrAt w' v a.begun.1 a.begun.2 45 ∧ FrA M B W w') ∨
  (∃ v, e = .returned (.tuple #[.slice none 0 0, v]) ∧ a.opn = false ∧ (checkN Ps).2 ≠ 0 ∧ ErrAt w' v (a.names.getD (checkN Ps).1 (0, 0)).1 (a.names.getD (checkN Ps).1 (0, 0)).2 (checkN Ps).2 ∧ FrA M B W w') ∨
  (e = .returned (.tuple #[vl, .nilIface]) ∧ a.opn = false ∧ (checkN Ps).2 = 0 ∧ Go.RowKit.Below W.heap.size W w')
set_option maxRecDepth 100000 in
set_option maxHeartbeats 1000000 in
theorem library_any (w : World) (M B line k : Nat) (a : As) (Ps : List Pr) (vl vn vm vj : Value) (h : ASt w M B line a Ps vl vn vm vj) (hz : AsSz a k) :
    Calls Tryz.prog 28 #[.pointer (some ⟨B, 0, none⟩)] w fun e w' => LibPost w M B a Ps vl e w' := by
  have hM := h.bm.2
  obtain ⟨lo, lc, rfl, hlc⟩ := own_slice h.lib
  have hpl : Ps.length = a.lib.length := by rw [h.eq, List.length_map]
  have hp1 : Ps.length ≤ 65537 := by have := hz.lib; have := hz.top; omega
  have HCk := hidA (check_any w lo Ps.length lc Ps (h.libAt hz) rfl hlc.2.1 (by omega))
  obtain ⟨no, nc, rfl, hno⟩ := own_slice h.nms
  clear hno
  obtain ⟨nn, hnn⟩ : ∃ nn, nn = a.names.length := ⟨_, rfl⟩
  rw [← hnn] at h
  have HNn := hidA (And.intro hnn (hz.nms.trans hpl.symm))
  obtain ⟨_, x1, x2, x3, x4, x5, _⟩ := h.ab.cells
  have HA := hidA h
  clear h hz hlc hnn hpl
  cases hb : a.opn with
  | true =>
    rw [hb] at x3
    have HO := hidA hb
    clear hb HCk
    go_enter Tryz.func28, Tryz.ntmps28
    go_wp2_with fail
    refine (wrongAt_any w a.begun.1 a.begun.2 45).mono ?_
    rintro e w1 ⟨v, rfl, h1, h2⟩
    have HE : Hid (LibPost w M B a Ps (.slice lo Ps.length lc) (.returned (.tuple #[.slice none 0 0, v])) w1) := .inl ⟨v, rfl, HO.out, h1, FrA.bel h2 hM⟩
    clear h1 h2 x1 x2 x3 x4 x5
    go_wp2_with fail
    go_ret2
    exact HE.out
  | false =>
    rw [hb] at x3
    have HO := hidA hb
    clear hb
    go_enter Tryz.func28, Tryz.ntmps28
    go_wp2_with fail
    refine HCk.out.mono ?_
    rintro e w1 ⟨rfl, h1⟩
    have HB1 := hidA h1
    have HA1 := hidA (HA.out.below h1)
    have hM1 : M ≤ w1.heap.size := Nat.le_trans hM h1.size
    clear h1 x1 x2 x3 x4 x5 HCk
    obtain ⟨_, x1, x2, _⟩ := HA1.out.ab.cells
    have HLt : Hid ((checkN Ps).2 ≠ 0 → (checkN Ps).1 < nn) := fun h => by have := checkN_lt h; have := HNn.out; omega
    have HPo : Hid (∀ e w', LibPost w M B a Ps (.slice lo Ps.length lc) e w' ↔ LibPost w M B a Ps (.slice lo Ps.length lc) e w') := fun _ _ => Iff.rfl
    obtain ⟨i, hi⟩ : ∃ i, i = (checkN Ps).1 := ⟨_, rfl⟩
    obtain ⟨z, hz⟩ : ∃ z, z = (checkN Ps).2 := ⟨_, rfl⟩
    have HI := hidA hi
    have HZ := hidA hz
    rw [← hi, ← hz]
    rw [← hi, ← hz] at HLt
    clear hi hz HPo
    by_cases h0 : z = 0
    · subst h0
      have HE : Hid (LibPost w M B a Ps (.slice lo Ps.length lc) (.returned (.tuple #[.slice lo Ps.length lc, .nilIface])) w1) := .inr (.inr ⟨rfl, HO.out, HZ.out.symm, HB1.out⟩)
      clear HLt
      go_wp2_with fail
      go_ret2
      exact HE.out
    · have hlt : i < nn := HLt.out h0
      have hlt' : i < a.names.length := by have := HNn.out.1; omega
      obtain ⟨g, nc', e1, _⟩ := own_some HA1.out.nms (by omega)
      simp only [Value.slice.injEq] at e1
      obtain ⟨rfl, -, -⟩ := e1
      have hrow : w1.ownsRow M 69 2 (.slice (some ⟨g, 0, none⟩) a.names.length nc) a.names.length (spc a.names) := by have h9 := HA1.out.nms; rw [HNn.out.1] at h9; exact h9
      have c0 : w1.cell? ⟨g, i * 2, none⟩ = some (.int .i64 (a.names[i].1 : Int)) := by rw [World.ownsRow.cellAt hrow _ (by omega)]; exact (spc_at a.names i hlt').1
      have c1 : w1.cell? ⟨g, i * 2 + 1, none⟩ = some (.int .i64 (a.names[i].2 : Int)) := by rw [World.ownsRow.cellAt hrow _ (by omega)]; exact (spc_at a.names i hlt').2
      have HG : Hid (a.names.getD i (0, 0) = a.names[i]) := by show _ = _; simp [List.getD, hlt']
      have hlti : (i : Int) < nn := by omega
      have hnn' : nn ≤ 65537 := by have := HNn.out; omega
      have hz0 : (z == 0) = false := by simp [h0]
      generalize a.names[i] = p at *
      obtain ⟨p1, p2⟩ := p
      have HM := hidA (And.intro hM hM1)
      have H0 := hidA h0
      clear hrow HLt hlt' hM hM1 hp1 hlti
      go_upto_region 5 with fail
      clear hz0 h0 HA HA1
      go_wp2_with fail
      refine (wrongAt_any w1 p1 p2 z).mono ?_
      rintro e w2 ⟨v, rfl, h1, h2⟩
      have HE : Hid (LibPost w M B a Ps (.slice lo Ps.length lc) (.returned (.tuple #[.slice none 0 0, v])) w2) := .inr (.inl ⟨v, rfl, HO.out, by rw [← HZ.out]; exact H0.out, by rw [← HI.out, HG.out, ← HZ.out]; exact h1, (FrA.bel HB1.out HM.out.1).trans (FrA.bel h2 HM.out.2)⟩)
      clear h1 h2 c0 c1 x1 x2
      go_wp2_with fail
      go_ret2
      exact HE.out
end Go.Proofs.YtkmafpfldnapjaaGreatDoor
/-
  Assemble: what its text is cut into, and how it begins.
-/
namespace Go.Proofs.YtkmafpfldnapjaaGreatDoor
open Go.RowKit Go.Sort

def WIn (l : List UInt8) (y : Wd) : Prop := y.1.length ≤ l.length ∧ y.2 ≤ l.length + 1
def ScS (l : List UInt8) (n : Nat) (x : Sc) : Prop := (∀ y ∈ x.words, WIn l y) ∧ ∀ ws ∈ x.lines, (∀ y ∈ ws, WIn l y) ∧ ws.length ≤ n
theorem pieceL_le (l : List UInt8) (f t : Nat) : (pieceL l f t).length ≤ l.length := by
  unfold pieceL
  rw [List.length_drop, List.length_take]
  omega
theorem scEnd_in {l : List UInt8} {x : Sc} {n k c : Nat} (h : ScS l n x) (hf : ∀ f, x.wf = some f → f < l.length) (hn : x.words.length ≤ n) : ScS l n (scEnd l x k c) ∧ (scEnd l x k c).words.length ≤ n + 1 := by
  unfold scEnd
  cases hx : x.wf with
  | none => exact ⟨h, by show x.words.length ≤ n + 1; omega⟩
  | some f =>
    have h1 := hf f hx
    simp only
    split
    · refine ⟨⟨fun y hy => ?_, h.2⟩, by simp; omega⟩
      rcases List.mem_append.1 hy with hy | hy
      · exact h.1 y hy
      · simp only [List.mem_singleton] at hy
        rw [hy]
        exact ⟨pieceL_le l f k, by show f - x.frm + 1 ≤ _; omega⟩
    · exact ⟨h, by omega⟩
theorem sc_in (l : List UInt8) : ∀ k, k ≤ l.length + 1 → ScS l k (scRun l k)
  | 0, _ => ⟨fun y hy => (by cases hy), fun ws hw => (by cases hw)⟩
  | k + 1, hk => by
    have h1 := sc_in l k (by omega)
    have h2 := (scRun_ok l k (by omega)).2
    have h3 := (sc_few l k).2
    show ScS l (k + 1) (scStep l (scRun l k) k (byteAt l k))
    generalize scRun l k = x at *
    obtain ⟨e1, e2⟩ := scEnd_in (k := k) (c := byteAt l k) h1 (fun f hf => (h2 f hf).2.2) h3
    have up : ∀ y : Sc, ScS l k y → ScS l (k + 1) y := fun y hy => ⟨hy.1, fun ws hw => ⟨(hy.2 ws hw).1, by have := (hy.2 ws hw).2; omega⟩⟩
    unfold scStep
    split
    · refine ⟨fun y hy => (by cases hy), fun ws hw => ?_⟩
      rcases List.mem_append.1 hw with hw | hw
      · exact (up _ e1).2 ws hw
      · simp only [List.mem_singleton] at hw
        rw [hw]
        exact ⟨e1.1, e2⟩
    · split
      · exact ⟨e1.1, (up _ e1).2⟩
      · split
        · exact ⟨h1.1, (up _ h1).2⟩
        · exact up _ e1
theorem split_small (l : List UInt8) (hl : l.length ≤ 65536) : ∀ ws ∈ splitN l, SmallW ws ∧ ∀ y ∈ ws, y.1.length ≤ 65536 := fun ws hw => by
  obtain ⟨h1, h2⟩ := (sc_in l (l.length + 1) (Nat.le_refl _)).2 ws hw
  exact ⟨⟨fun y hy => by have := h1 y hy; unfold WIn at this; omega, by omega⟩, fun y hy => by have := (h1 y hy).1; omega⟩
theorem split_few (l : List UInt8) : (splitN l).length ≤ l.length + 1 := (sc_few l (l.length + 1)).1
/-- an assembly begins -/
theorem ASt.start {W : World} {M B : Nat} (hB : AB W B 0 (.slice none 0 0) (.slice none 0 0) false 0 0 (.map none) (.slice none 0 0)) (hM : B < M) (hW : M ≤ W.heap.size) : ASt W M B 0 start0 [] (.slice none 0 0) (.slice none 0 0) (.map none) (.slice none 0 0) :=
  ⟨hB, OwnP.nil _ _, rfl, fun x hx => (by cases hx), List.Pairwise.nil, World.ownsRow_nil _ _ _ _, World.ownsRow_nil _ _ _ _, fun h => (by cases h), fun x hx => (by cases hx), hM, hW⟩
theorem linesA_up {ls : List (List Wd)} {i : Nat} {e : Nat × Nat × Int} (h : linesA ls i = .error e) : ∀ m, i ≤ m → linesA ls m = .error e := fun m hm => by
  induction m with
  | zero => rw [show i = 0 by omega] at h; exact h
  | succ m ih =>
    by_cases h1 : i ≤ m
    · unfold linesA; rw [ih h1]
    · obtain rfl : i = m + 1 := by omega
      exact h
end Go.Proofs.YtkmafpfldnapjaaGreatDoor
/-
  THE EXAMPLE: reckoned.
-/
namespace Go.Proofs.YtkmafpfldnapjaaGreatDoor
open Go.RowKit Go.Sort

/-- the example's text -/
def exL : List UInt8 := [112, 114, 111, 99, 32, 109, 111, 118, 101, 32, 97, 114, 103, 115, 32, 49, 32, 114, 101, 97, 100, 115, 32, 50, 32, 119, 114, 105, 116, 101, 115, 32, 50, 32, 108, 111, 99, 97, 108, 115, 32, 48, 10, 32, 32, 103, 101, 116, 32, 48, 10, 32, 32, 97, 114, 103, 32, 48, 10, 32, 32, 108, 116, 10, 32, 32, 122, 101, 114, 111, 32, 76, 54, 10, 32, 32, 112, 117, 115, 104, 32, 49, 10, 32, 32, 97, 98, 111, 114, 116, 10, 76, 54, 58, 10, 32, 32, 103, 101, 116, 32, 48, 10, 32, 32, 97, 114, 103, 32, 48, 10, 32, 32, 115, 117, 98, 10, 32, 32, 112, 117, 116, 32, 48, 10, 32, 32, 103, 101, 116, 32, 49, 10, 32, 32, 97, 114, 103, 32, 48, 10, 32, 32, 97, 100, 100, 10, 32, 32, 112, 117, 116, 32, 49, 10, 101, 110, 100, 10, 112, 114, 111, 99, 32, 112, 117, 116, 32, 97, 114, 103, 115, 32, 49, 32, 114, 101, 97, 100, 115, 32, 48, 32, 119, 114, 105, 116, 101, 115, 32, 49, 32, 108, 111, 99, 97, 108, 115, 32, 48, 10, 32, 32, 97, 114, 103, 32, 48, 10, 32, 32, 112, 117, 116, 32, 48, 10, 101, 110, 100, 10]
def exC1 : List K := [(7, 0), (6, 0), (24, 0), (31, 6), (1, 1), (36, 0), (7, 0), (6, 0), (11, 0), (32, 0), (7, 1), (6, 0), (10, 0), (32, 1)]
def exC2 : List K := [(6, 0), (32, 0)]
/-- what is read of it -/
def exA : As := ⟨[⟨[109, 111, 118, 101], ⟨1, 2, 2, 0⟩, exC1⟩, ⟨[112, 117, 116], ⟨1, 0, 1, 0⟩, exC2⟩], [(1, 6), (18, 6)], false, (18, 1), [], []⟩
theorem ex_size : exL.length = 221 := by kernel_rfl
theorem ex_len : exL.length ≤ 65536 := by rw [ex_size]; omega
theorem ex_split : (splitN exL).length = 22 := by kernel_rfl
theorem ex_lines : linesA (splitN exL) (splitN exL).length = .ok exA := by rw [ex_split]; kernel_rfl
theorem name_of {x : ByteArray} {l : List UInt8} (h : x.data.toList = l) : x = S l := by
  obtain ⟨a⟩ := x
  subst h
  simp [S]
def exPs (a1 a2 : Option Addr) (n1 c1 n2 c2 : Nat) : List Pr := [⟨S [109, 111, 118, 101], ⟨1, 2, 2, 0⟩, a1, n1, c1, exC1⟩, ⟨S [112, 117, 116], ⟨1, 0, 1, 0⟩, a2, n2, c2, exC2⟩]
theorem ex_ps {Ps : List Pr} (h : exA.lib = Ps.map ppOf) : ∃ a1 a2 n1 c1 n2 c2, Ps = exPs a1 a2 n1 c1 n2 c2 := by
  match Ps, h with
  | [⟨m1, p1, a1, n1, c1, L1⟩, ⟨m2, p2, a2, n2, c2, L2⟩], h =>
    simp only [exA, ppOf, List.map_cons, List.map_nil, List.cons.injEq, PP.mk.injEq, and_true] at h
    obtain ⟨⟨e1, rfl, rfl⟩, e2, rfl, rfl⟩ := h
    rw [name_of e1.symm, name_of e2.symm]
    exact ⟨a1, a2, n1, c1, n2, c2, rfl⟩
  | [], h => cases h
  | [_], h => exact absurd (congrArg List.length h) (by simp [exA])
  | _ :: _ :: _ :: _, h => exact absurd (congrArg List.length h) (by simp [exA])
theorem ex_check (a1 a2 : Option Addr) (n1 c1 n2 c2 : Nat) : checkN (exPs a1 a2 n1 c1 n2 c2) = (0, 0) := by kernel_rfl
end Go.Proofs.YtkmafpfldnapjaaGreatDoor
/-
  errors.As AT A PosError AND AT A NUMBER, BY ITS CONTRACTS.
-/
namespace Go.Proofs.YtkmafpfldnapjaaGreatDoor
open Go.RowKit Go.Extern.Stop Go.Stop Go.Extern

theorem as_nil (t : Value) (w : World) : Calls Tryz.prog 26 #[.nilIface, t] w fun e w' => e = .returned (.bool false) ∧ w' = w := by
  go_enter Tryz.func26, Tryz.ntmps26
  go_wp2
  go_ret
  exact ⟨rfl, rfl⟩
theorem cell_lt' {w : World} {a : Addr} {v : Value} (h : w.cell? a = some v) : a.block < w.heap.size := by
  rcases Nat.lt_or_ge a.block w.heap.size with h1 | h1
  · exact h1
  · simp [World.cell?, Array.getElem?_eq_none h1] at h
theorem m_kind (h : Value) (w : World) : (Go.method 386 190 (.agg #[h]) "Kind").run Tryz.prog w = .ok (175, h) w := by kernel_rfl
theorem m_elem (h : Value) (w : World) : (Go.method 386 190 (.agg #[h]) "Elem").run Tryz.prog w = .ok (188, .agg #[h]) w := by kernel_rfl
theorem m_impl (h : Value) (w : World) : (Go.method 386 190 (.agg #[h]) "Implements").run Tryz.prog w = .ok (189, .agg #[h]) w := by kernel_rfl
theorem m_asgn (h : Value) (w : World) : (Go.method 386 190 (.agg #[h]) "AssignableTo").run Tryz.prog w = .ok (186, .agg #[h]) w := by kernel_rfl
theorem valTP (t : Addr) (w : World) : (ReflectliteValue.unpack (.iface 80 (.pointer (some t)))).run Tryz.prog w = .ok (.agg #[.pointer (some ⟨8, 80, none⟩), .pointer (some ⟨w.heap.size, 0, none⟩), .int .u64 150]) (w.alloc (.cells #[.pointer (some t)] 80)) := by kernel_rfl
theorem typTP (a : Addr) (w : World) : (ReflectliteValue.methodAny (ReflectliteValue.valueError "reflectlite.Value.Type" 0) (fun t _ _ _ => ReflectliteType.toType t) #[.agg #[.pointer (some ⟨8, 80, none⟩), .pointer (some a), .int .u64 150]]).run Tryz.prog w = .ok (.iface 190 (.agg #[.pointer (some ⟨8, 80, none⟩)])) w := by kernel_rfl
theorem kindTP (w : World) : ((ReflectliteType.abiMethod fun t => (fun a : Nat => Value.int IntKind.u8 (a : Int)) <$> Rtype.kind t) #[.pointer (some ⟨8, 80, none⟩)]).run Tryz.prog w = .ok (.int .u8 22) w := by kernel_rfl
theorem kindEP (w : World) : ((ReflectliteType.abiMethod fun t => (fun a : Nat => Value.int IntKind.u8 (a : Int)) <$> Rtype.kind t) #[.pointer (some ⟨8, 78, none⟩)]).run Tryz.prog w = .ok (.int .u8 22) w := by kernel_rfl
theorem partTP (a : Addr) (w : World) : (ReflectliteValue.parts (.agg #[.pointer (some ⟨8, 80, none⟩), .pointer (some a), .int .u64 150])).run Tryz.prog w = .ok (some (80, a, 150)) w := by kernel_rfl
theorem isNilP (a p : Addr) (W : World) (ha : W.cell? a = some (.pointer (some p))) :
    (ReflectliteValue.method (ReflectliteValue.valueError "reflectlite.Value.IsNil" 0) ReflectliteValue.isNil #[.agg #[.pointer (some ⟨8, 80, none⟩), .pointer (some a), .int .u64 150]]).run Tryz.prog W = .ok (.bool false) W := by
  rw [show ReflectliteValue.method (ReflectliteValue.valueError "reflectlite.Value.IsNil" 0) ReflectliteValue.isNil #[.agg #[.pointer (some ⟨8, 80, none⟩), .pointer (some a), .int .u64 150]] = (ReflectliteValue.parts (.agg #[.pointer (some ⟨8, 80, none⟩), .pointer (some a), .int .u64 150]) >>= fun p => _) from rfl]
  simp only [Sem.run_bind, partTP, Result.andThen]
  simp [ReflectliteValue.isNil, loadVar, isAgg, underlying, Tryz.underlying80, ha, Result.andThen]
theorem elemTP (w : World) : (ReflectliteType.method ReflectliteType.elem #[.agg #[.pointer (some ⟨8, 80, none⟩)]]).run Tryz.prog w = .ok (.iface 190 (.agg #[.pointer (some ⟨8, 78, none⟩)])) w := by kernel_rfl
theorem typeEP (v : Value) (w : World) : (ReflectliteType.typeOf #[.iface 78 v]).run Tryz.prog w = .ok (.iface 190 (.agg #[.pointer (some ⟨8, 78, none⟩)])) w := by kernel_rfl
theorem asgnP (w : World) : (ReflectliteType.relation "AssignableTo" ReflectliteType.assignableTo #[.agg #[.pointer (some ⟨8, 78, none⟩)], .iface 190 (.agg #[.pointer (some ⟨8, 78, none⟩)])]).run Tryz.prog w = .ok (.bool true) w := by kernel_rfl
theorem implP (w : World) : (ReflectliteType.relation "Implements" ReflectliteType.implements_ #[.agg #[.pointer (some ⟨8, 78, none⟩)], .iface 190 (.agg #[.pointer (some ⟨8, 28, none⟩)])]).run Tryz.prog w = .ok (.bool true) w := by kernel_rfl
theorem valEP (e : Addr) (w : World) : (ReflectliteValue.unpack (.iface 78 (.pointer (some e)))).run Tryz.prog w = .ok (.agg #[.pointer (some ⟨8, 78, none⟩), .pointer (some ⟨w.heap.size, 0, none⟩), .int .u64 150]) (w.alloc (.cells #[(.pointer (some e))] 78)) := by kernel_rfl
theorem elOfP (w : World) : (Rtype.elem? 80).run Tryz.prog w = .ok (some 78) w := by kernel_rfl
theorem mkEP (p : Addr) (w : World) : (ReflectliteValue.mk 78 p ReflectliteValue.flagAddr).run Tryz.prog w = .ok (.agg #[.pointer (some ⟨8, 78, none⟩), .pointer (some p), .int .u64 406]) w := by kernel_rfl
theorem elVP (a p : Addr) (W : World) (ha : W.cell? a = some (.pointer (some p))) :
    (ReflectliteValue.method (ReflectliteValue.valueError "reflectlite.Value.Elem" 0) ReflectliteValue.elem #[.agg #[.pointer (some ⟨8, 80, none⟩), .pointer (some a), .int .u64 150]]).run Tryz.prog W = .ok (.agg #[.pointer (some ⟨8, 78, none⟩), .pointer (some p), .int .u64 406]) W := by
  rw [show ReflectliteValue.method (ReflectliteValue.valueError "reflectlite.Value.Elem" 0) ReflectliteValue.elem #[.agg #[.pointer (some ⟨8, 80, none⟩), .pointer (some a), .int .u64 150]] = (ReflectliteValue.parts (.agg #[.pointer (some ⟨8, 80, none⟩), .pointer (some a), .int .u64 150]) >>= fun p => _) from rfl]
  simp only [Sem.run_bind, partTP, Result.andThen]
  simp [ReflectliteValue.elem, loadVar, isAgg, underlying, Tryz.underlying80, ha, Result.andThen, elOfP, mkEP]
theorem partAP (a : Addr) (w : World) : (ReflectliteValue.parts (.agg #[.pointer (some ⟨8, 78, none⟩), .pointer (some a), .int .u64 406])).run Tryz.prog w = .ok (some (78, a, 406)) w := by kernel_rfl
theorem partEP (a : Addr) (w : World) : (ReflectliteValue.parts (.agg #[.pointer (some ⟨8, 78, none⟩), .pointer (some a), .int .u64 150])).run Tryz.prog w = .ok (some (78, a, 150)) w := by kernel_rfl
theorem dirP (w : World) : (Rtype.directlyAssignable 78 78).run Tryz.prog w = .ok true w := by kernel_rfl
theorem setP (ta b : Addr) (e : Addr) (old : Value) (W : World) (hb : W.cell? b = some (.pointer (some e))) (ht : W.cell? ta = some old) (hf : W.frozen? ta = false) :
    (ReflectliteValue.set #[.agg #[.pointer (some ⟨8, 78, none⟩), .pointer (some ta), .int .u64 406], .agg #[.pointer (some ⟨8, 78, none⟩), .pointer (some b), .int .u64 150]]).run Tryz.prog W = .ok (.tuple #[]) (W.setCell ta (.pointer (some e))) := by
  rw [show ReflectliteValue.set #[.agg #[.pointer (some ⟨8, 78, none⟩), .pointer (some ta), .int .u64 406], .agg #[.pointer (some ⟨8, 78, none⟩), .pointer (some b), .int .u64 150]] = (ReflectliteValue.parts (.agg #[.pointer (some ⟨8, 78, none⟩), .pointer (some ta), .int .u64 406]) >>= fun p => ReflectliteValue.parts (.agg #[.pointer (some ⟨8, 78, none⟩), .pointer (some b), .int .u64 150]) >>= fun q => _) from rfl]
  simp only [Sem.run_bind, partAP, partEP, Result.andThen]
  simp [ReflectliteValue.flagAddr, loadVar, isAgg, underlying, Tryz.underlying78, hb, Result.andThen, dirP, storeVar, Value.cells, storeCells, Addr.add]
  rw [run_store Tryz.prog W ta _ _ (by rfl)]
  simp [ht, hf]
theorem valTN (t : Addr) (w : World) : (ReflectliteValue.unpack (.iface 85 (.pointer (some t)))).run Tryz.prog w = .ok (.agg #[.pointer (some ⟨8, 85, none⟩), .pointer (some ⟨w.heap.size, 0, none⟩), .int .u64 150]) (w.alloc (.cells #[.pointer (some t)] 85)) := by kernel_rfl
theorem typTN (a : Addr) (w : World) : (ReflectliteValue.methodAny (ReflectliteValue.valueError "reflectlite.Value.Type" 0) (fun t _ _ _ => ReflectliteType.toType t) #[.agg #[.pointer (some ⟨8, 85, none⟩), .pointer (some a), .int .u64 150]]).run Tryz.prog w = .ok (.iface 190 (.agg #[.pointer (some ⟨8, 85, none⟩)])) w := by kernel_rfl
theorem kindTN (w : World) : ((ReflectliteType.abiMethod fun t => (fun a : Nat => Value.int IntKind.u8 (a : Int)) <$> Rtype.kind t) #[.pointer (some ⟨8, 85, none⟩)]).run Tryz.prog w = .ok (.int .u8 22) w := by kernel_rfl
theorem kindEN (w : World) : ((ReflectliteType.abiMethod fun t => (fun a : Nat => Value.int IntKind.u8 (a : Int)) <$> Rtype.kind t) #[.pointer (some ⟨8, 38, none⟩)]).run Tryz.prog w = .ok (.int .u8 2) w := by kernel_rfl
theorem partTN (a : Addr) (w : World) : (ReflectliteValue.parts (.agg #[.pointer (some ⟨8, 85, none⟩), .pointer (some a), .int .u64 150])).run Tryz.prog w = .ok (some (85, a, 150)) w := by kernel_rfl
theorem isNilN (a p : Addr) (W : World) (ha : W.cell? a = some (.pointer (some p))) :
    (ReflectliteValue.method (ReflectliteValue.valueError "reflectlite.Value.IsNil" 0) ReflectliteValue.isNil #[.agg #[.pointer (some ⟨8, 85, none⟩), .pointer (some a), .int .u64 150]]).run Tryz.prog W = .ok (.bool false) W := by
  rw [show ReflectliteValue.method (ReflectliteValue.valueError "reflectlite.Value.IsNil" 0) ReflectliteValue.isNil #[.agg #[.pointer (some ⟨8, 85, none⟩), .pointer (some a), .int .u64 150]] = (ReflectliteValue.parts (.agg #[.pointer (some ⟨8, 85, none⟩), .pointer (some a), .int .u64 150]) >>= fun p => _) from rfl]
  simp only [Sem.run_bind, partTN, Result.andThen]
  simp [ReflectliteValue.isNil, loadVar, isAgg, underlying, Tryz.underlying85, ha, Result.andThen]
theorem elemTN (w : World) : (ReflectliteType.method ReflectliteType.elem #[.agg #[.pointer (some ⟨8, 85, none⟩)]]).run Tryz.prog w = .ok (.iface 190 (.agg #[.pointer (some ⟨8, 38, none⟩)])) w := by kernel_rfl
theorem typeEN (v : Value) (w : World) : (ReflectliteType.typeOf #[.iface 38 v]).run Tryz.prog w = .ok (.iface 190 (.agg #[.pointer (some ⟨8, 38, none⟩)])) w := by kernel_rfl
theorem asgnN (w : World) : (ReflectliteType.relation "AssignableTo" ReflectliteType.assignableTo #[.agg #[.pointer (some ⟨8, 38, none⟩)], .iface 190 (.agg #[.pointer (some ⟨8, 38, none⟩)])]).run Tryz.prog w = .ok (.bool true) w := by kernel_rfl
theorem implN (w : World) : (ReflectliteType.relation "Implements" ReflectliteType.implements_ #[.agg #[.pointer (some ⟨8, 38, none⟩)], .iface 190 (.agg #[.pointer (some ⟨8, 28, none⟩)])]).run Tryz.prog w = .ok (.bool true) w := by kernel_rfl
theorem valEN (e : Int) (w : World) : (ReflectliteValue.unpack (.iface 38 (.int .i64 e))).run Tryz.prog w = .ok (.agg #[.pointer (some ⟨8, 38, none⟩), .pointer (some ⟨w.heap.size, 0, none⟩), .int .u64 130]) (w.alloc (.cells #[(.int .i64 e)] 38)) := by kernel_rfl
theorem elOfN (w : World) : (Rtype.elem? 85).run Tryz.prog w = .ok (some 38) w := by kernel_rfl
theorem mkEN (p : Addr) (w : World) : (ReflectliteValue.mk 38 p ReflectliteValue.flagAddr).run Tryz.prog w = .ok (.agg #[.pointer (some ⟨8, 38, none⟩), .pointer (some p), .int .u64 386]) w := by kernel_rfl
theorem elVN (a p : Addr) (W : World) (ha : W.cell? a = some (.pointer (some p))) :
    (ReflectliteValue.method (ReflectliteValue.valueError "reflectlite.Value.Elem" 0) ReflectliteValue.elem #[.agg #[.pointer (some ⟨8, 85, none⟩), .pointer (some a), .int .u64 150]]).run Tryz.prog W = .ok (.agg #[.pointer (some ⟨8, 38, none⟩), .pointer (some p), .int .u64 386]) W := by
  rw [show ReflectliteValue.method (ReflectliteValue.valueError "reflectlite.Value.Elem" 0) ReflectliteValue.elem #[.agg #[.pointer (some ⟨8, 85, none⟩), .pointer (some a), .int .u64 150]] = (ReflectliteValue.parts (.agg #[.pointer (some ⟨8, 85, none⟩), .pointer (some a), .int .u64 150]) >>= fun p => _) from rfl]
  simp only [Sem.run_bind, partTN, Result.andThen]
  simp [ReflectliteValue.elem, loadVar, isAgg, underlying, Tryz.underlying85, ha, Result.andThen, elOfN, mkEN]
theorem partAN (a : Addr) (w : World) : (ReflectliteValue.parts (.agg #[.pointer (some ⟨8, 38, none⟩), .pointer (some a), .int .u64 386])).run Tryz.prog w = .ok (some (38, a, 386)) w := by kernel_rfl
theorem partEN (a : Addr) (w : World) : (ReflectliteValue.parts (.agg #[.pointer (some ⟨8, 38, none⟩), .pointer (some a), .int .u64 130])).run Tryz.prog w = .ok (some (38, a, 130)) w := by kernel_rfl
theorem dirN (w : World) : (Rtype.directlyAssignable 38 38).run Tryz.prog w = .ok true w := by kernel_rfl
theorem setN (ta b : Addr) (e : Int) (old : Value) (W : World) (hb : W.cell? b = some (.int .i64 e)) (ht : W.cell? ta = some old) (hf : W.frozen? ta = false) :
    (ReflectliteValue.set #[.agg #[.pointer (some ⟨8, 38, none⟩), .pointer (some ta), .int .u64 386], .agg #[.pointer (some ⟨8, 38, none⟩), .pointer (some b), .int .u64 130]]).run Tryz.prog W = .ok (.tuple #[]) (W.setCell ta (.int .i64 e)) := by
  rw [show ReflectliteValue.set #[.agg #[.pointer (some ⟨8, 38, none⟩), .pointer (some ta), .int .u64 386], .agg #[.pointer (some ⟨8, 38, none⟩), .pointer (some b), .int .u64 130]] = (ReflectliteValue.parts (.agg #[.pointer (some ⟨8, 38, none⟩), .pointer (some ta), .int .u64 386]) >>= fun p => ReflectliteValue.parts (.agg #[.pointer (some ⟨8, 38, none⟩), .pointer (some b), .int .u64 130]) >>= fun q => _) from rfl]
  simp only [Sem.run_bind, partAN, partEN, Result.andThen]
  simp [ReflectliteValue.flagAddr, loadVar, isAgg, underlying, Tryz.underlying38, hb, Result.andThen, dirN, storeVar, Value.cells, storeCells, Addr.add]
  rw [run_store Tryz.prog W ta _ _ (by rfl)]
  simp [ht, hf]
set_option maxRecDepth 100000 in
set_option maxHeartbeats 4000000 in
theorem as_hitP (e : Addr) (t : Addr) (old : Value) (w : World) (hg : w.cell? ⟨0, 0, none⟩ = some (.iface 190 (.agg #[.pointer (some ⟨8, 28, none⟩)]))) (ht0 : w.cell? t = some old) (hf0 : w.frozen? t = false) :
    Calls Tryz.prog 26 #[.iface 78 (.pointer (some e)), .iface 80 (.pointer (some t))] w fun ev w' => ev = .returned (.bool true) ∧ w' = (((((w.alloc (.cells #[.pointer (some t)] 80)).alloc (.cells #[.pointer (some ⟨8, 80, none⟩), .pointer (some ⟨w.heap.size, 0, none⟩), .int .u64 150] 126)).alloc (.cells #[.pointer (some ⟨8, 80, none⟩), .pointer (some ⟨w.heap.size, 0, none⟩), .int .u64 150] 126)).alloc (.cells #[(.pointer (some e))] 78)).setCell t (.pointer (some e))) := by
  have h1 := @run_callFunc_extern Tryz.prog 58 _ (fun args => ReflectliteValue.unpack (args.getD 0 (.tuple #[]))) Tryz.func58 (by kernel_rfl) (by kernel_rfl) (by kernel_rfl) (by kernel_rfl)
  have h2 := @run_callFunc_extern Tryz.prog 59 _ (ReflectliteValue.methodAny (ReflectliteValue.valueError "reflectlite.Value.Type" 0) (fun t _ _ _ => ReflectliteType.toType t)) Tryz.func59 (by kernel_rfl) (by kernel_rfl) (by kernel_rfl) (by kernel_rfl)
  have h3 := @run_callFunc_extern Tryz.prog 60 _ (ReflectliteValue.method (ReflectliteValue.valueError "reflectlite.Value.IsNil" 0) ReflectliteValue.isNil) Tryz.func60 (by kernel_rfl) (by kernel_rfl) (by kernel_rfl) (by kernel_rfl)
  have h4 := @run_callFunc_extern Tryz.prog 175 _ (ReflectliteType.abiMethod fun t => do pure (.int .u8 (← Rtype.kind t))) Tryz.func175 (by kernel_rfl) (by kernel_rfl) (by kernel_rfl) (by kernel_rfl)
  have h5 := @run_callFunc_extern Tryz.prog 188 _ (ReflectliteType.method ReflectliteType.elem) Tryz.func188 (by kernel_rfl) (by kernel_rfl) (by kernel_rfl) (by kernel_rfl)
  have h6 := @run_callFunc_extern Tryz.prog 189 _ (ReflectliteType.relation "Implements" ReflectliteType.implements_) Tryz.func189 (by kernel_rfl) (by kernel_rfl) (by kernel_rfl) (by kernel_rfl)
  have h7 := @run_callFunc_extern Tryz.prog 99 _ ReflectliteType.typeOf Tryz.func99 (by kernel_rfl) (by kernel_rfl) (by kernel_rfl) (by kernel_rfl)
  have h8 := @run_callFunc_extern Tryz.prog 186 _ (ReflectliteType.relation "AssignableTo" ReflectliteType.assignableTo) Tryz.func186 (by kernel_rfl) (by kernel_rfl) (by kernel_rfl) (by kernel_rfl)
  have h9 := @run_callFunc_extern Tryz.prog 100 _ (ReflectliteValue.method (ReflectliteValue.valueError "reflectlite.Value.Elem" 0) ReflectliteValue.elem) Tryz.func100 (by kernel_rfl) (by kernel_rfl) (by kernel_rfl) (by kernel_rfl)
  have h10 := @run_callFunc_extern Tryz.prog 101 _ ReflectliteValue.set Tryz.func101 (by kernel_rfl) (by kernel_rfl) (by kernel_rfl) (by kernel_rfl)
  have f1 := valTP
  have f2 := typTP
  have f3 := m_kind
  have f4 := m_elem
  have f5 := m_impl
  have f6 := m_asgn
  have f7 := kindTP
  have f8 := kindEP
  have f9 := elemTP
  have f10 := typeEP
  have f11 := asgnP
  have f12 := implP
  have f13 := valEP
  have n8 := isNilP ⟨w.heap.size, 0, none⟩ t ((w.alloc (.cells #[.pointer (some t)] 80)).alloc (.cells #[.pointer (some ⟨8, 80, none⟩), .pointer (some ⟨w.heap.size, 0, none⟩), .int .u64 150] 126)) (by simp)
  have hlt : 0 < w.heap.size := cell_lt' hg
  have hg2 : ((w.alloc (.cells #[.pointer (some t)] 80)).alloc (.cells #[.pointer (some ⟨8, 80, none⟩), .pointer (some ⟨w.heap.size, 0, none⟩), .int .u64 150] 126)).cell? ⟨0, 0, none⟩ = some (.iface 190 (.agg #[.pointer (some ⟨8, 28, none⟩)])) := by
    rw [World.cell?_alloc_lt _ _ ⟨0, 0, none⟩ (by simp <;> omega), World.cell?_alloc_lt _ _ ⟨0, 0, none⟩ hlt]; exact hg
  have htl : t.block < w.heap.size := cell_lt' ht0
  have el := elVP ⟨w.heap.size, 0, none⟩ t (((w.alloc (.cells #[.pointer (some t)] 80)).alloc (.cells #[.pointer (some ⟨8, 80, none⟩), .pointer (some ⟨w.heap.size, 0, none⟩), .int .u64 150] 126)).alloc (.cells #[.pointer (some ⟨8, 80, none⟩), .pointer (some ⟨w.heap.size, 0, none⟩), .int .u64 150] 126)) (by rw [World.cell?_alloc_lt _ _ ⟨w.heap.size, 0, none⟩ (by simp; omega), World.cell?_alloc_lt _ _ ⟨w.heap.size, 0, none⟩ (by simp)]; simp)
  have st := setP t ⟨w.heap.size + 1 + 1 + 1, 0, none⟩ e old ((((w.alloc (.cells #[.pointer (some t)] 80)).alloc (.cells #[.pointer (some ⟨8, 80, none⟩), .pointer (some ⟨w.heap.size, 0, none⟩), .int .u64 150] 126)).alloc (.cells #[.pointer (some ⟨8, 80, none⟩), .pointer (some ⟨w.heap.size, 0, none⟩), .int .u64 150] 126)).alloc (.cells #[(.pointer (some e))] 78))
    (by rw [World.cell?_alloc_at _ _ _ _ (by simp)]; rfl)
    (by rw [World.cell?_alloc_lt _ _ t (by simp; omega), World.cell?_alloc_lt _ _ t (by simp; omega), World.cell?_alloc_lt _ _ t (by simp; omega), World.cell?_alloc_lt _ _ t htl]; exact ht0)
    (by rw [World.frozen?_alloc_old _ _ t (by simp; omega), World.frozen?_alloc_old _ _ t (by simp; omega), World.frozen?_alloc_old _ _ t (by simp; omega), World.frozen?_alloc_old _ _ t (Nat.ne_of_lt htl)]; exact hf0)
  go_enter Tryz.func26, Tryz.ntmps26
  go_wp2
  refine wp_loop_rounds 1 ?_
  rw [rounds_succ]
  go_wp2
  go_ret
  exact ⟨rfl, rfl⟩
set_option maxRecDepth 100000 in
set_option maxHeartbeats 4000000 in
theorem as_hitN (e : Int) (t : Addr) (old : Value) (w : World) (hg : w.cell? ⟨0, 0, none⟩ = some (.iface 190 (.agg #[.pointer (some ⟨8, 28, none⟩)]))) (ht0 : w.cell? t = some old) (hf0 : w.frozen? t = false) :
    Calls Tryz.prog 26 #[.iface 38 (.int .i64 e), .iface 85 (.pointer (some t))] w fun ev w' => ev = .returned (.bool true) ∧ w' = (((((w.alloc (.cells #[.pointer (some t)] 85)).alloc (.cells #[.pointer (some ⟨8, 85, none⟩), .pointer (some ⟨w.heap.size, 0, none⟩), .int .u64 150] 126)).alloc (.cells #[.pointer (some ⟨8, 85, none⟩), .pointer (some ⟨w.heap.size, 0, none⟩), .int .u64 150] 126)).alloc (.cells #[(.int .i64 e)] 38)).setCell t (.int .i64 e)) := by
  have h1 := @run_callFunc_extern Tryz.prog 58 _ (fun args => ReflectliteValue.unpack (args.getD 0 (.tuple #[]))) Tryz.func58 (by kernel_rfl) (by kernel_rfl) (by kernel_rfl) (by kernel_rfl)
  have h2 := @run_callFunc_extern Tryz.prog 59 _ (ReflectliteValue.methodAny (ReflectliteValue.valueError "reflectlite.Value.Type" 0) (fun t _ _ _ => ReflectliteType.toType t)) Tryz.func59 (by kernel_rfl) (by kernel_rfl) (by kernel_rfl) (by kernel_rfl)
  have h3 := @run_callFunc_extern Tryz.prog 60 _ (ReflectliteValue.method (ReflectliteValue.valueError "reflectlite.Value.IsNil" 0) ReflectliteValue.isNil) Tryz.func60 (by kernel_rfl) (by kernel_rfl) (by kernel_rfl) (by kernel_rfl)
  have h4 := @run_callFunc_extern Tryz.prog 175 _ (ReflectliteType.abiMethod fun t => do pure (.int .u8 (← Rtype.kind t))) Tryz.func175 (by kernel_rfl) (by kernel_rfl) (by kernel_rfl) (by kernel_rfl)
  have h5 := @run_callFunc_extern Tryz.prog 188 _ (ReflectliteType.method ReflectliteType.elem) Tryz.func188 (by kernel_rfl) (by kernel_rfl) (by kernel_rfl) (by kernel_rfl)
  have h6 := @run_callFunc_extern Tryz.prog 189 _ (ReflectliteType.relation "Implements" ReflectliteType.implements_) Tryz.func189 (by kernel_rfl) (by kernel_rfl) (by kernel_rfl) (by kernel_rfl)
  have h7 := @run_callFunc_extern Tryz.prog 99 _ ReflectliteType.typeOf Tryz.func99 (by kernel_rfl) (by kernel_rfl) (by kernel_rfl) (by kernel_rfl)
  have h8 := @run_callFunc_extern Tryz.prog 186 _ (ReflectliteType.relation "AssignableTo" ReflectliteType.assignableTo) Tryz.func186 (by kernel_rfl) (by kernel_rfl) (by kernel_rfl) (by kernel_rfl)
  have h9 := @run_callFunc_extern Tryz.prog 100 _ (ReflectliteValue.method (ReflectliteValue.valueError "reflectlite.Value.Elem" 0) ReflectliteValue.elem) Tryz.func100 (by kernel_rfl) (by kernel_rfl) (by kernel_rfl) (by kernel_rfl)
  have h10 := @run_callFunc_extern Tryz.prog 101 _ ReflectliteValue.set Tryz.func101 (by kernel_rfl) (by kernel_rfl) (by kernel_rfl) (by kernel_rfl)
  have f1 := valTN
  have f2 := typTN
  have f3 := m_kind
  have f4 := m_elem
  have f5 := m_impl
  have f6 := m_asgn
  have f7 := kindTN
  have f8 := kindEN
  have f9 := elemTN
  have f10 := typeEN
  have f11 := asgnN
  have f12 := implN
  have f13 := valEN
  have n8 := isNilN ⟨w.heap.size, 0, none⟩ t ((w.alloc (.cells #[.pointer (some t)] 85)).alloc (.cells #[.pointer (some ⟨8, 85, none⟩), .pointer (some ⟨w.heap.size, 0, none⟩), .int .u64 150] 126)) (by simp)
  have hlt : 0 < w.heap.size := cell_lt' hg
  have hg2 : ((w.alloc (.cells #[.pointer (some t)] 85)).alloc (.cells #[.pointer (some ⟨8, 85, none⟩), .pointer (some ⟨w.heap.size, 0, none⟩), .int .u64 150] 126)).cell? ⟨0, 0, none⟩ = some (.iface 190 (.agg #[.pointer (some ⟨8, 28, none⟩)])) := by
    rw [World.cell?_alloc_lt _ _ ⟨0, 0, none⟩ (by simp <;> omega), World.cell?_alloc_lt _ _ ⟨0, 0, none⟩ hlt]; exact hg
  have htl : t.block < w.heap.size := cell_lt' ht0
  have el := elVN ⟨w.heap.size, 0, none⟩ t (((w.alloc (.cells #[.pointer (some t)] 85)).alloc (.cells #[.pointer (some ⟨8, 85, none⟩), .pointer (some ⟨w.heap.size, 0, none⟩), .int .u64 150] 126)).alloc (.cells #[.pointer (some ⟨8, 85, none⟩), .pointer (some ⟨w.heap.size, 0, none⟩), .int .u64 150] 126)) (by rw [World.cell?_alloc_lt _ _ ⟨w.heap.size, 0, none⟩ (by simp; omega), World.cell?_alloc_lt _ _ ⟨w.heap.size, 0, none⟩ (by simp)]; simp)
  have st := setN t ⟨w.heap.size + 1 + 1 + 1, 0, none⟩ e old ((((w.alloc (.cells #[.pointer (some t)] 85)).alloc (.cells #[.pointer (some ⟨8, 85, none⟩), .pointer (some ⟨w.heap.size, 0, none⟩), .int .u64 150] 126)).alloc (.cells #[.pointer (some ⟨8, 85, none⟩), .pointer (some ⟨w.heap.size, 0, none⟩), .int .u64 150] 126)).alloc (.cells #[(.int .i64 e)] 38))
    (by rw [World.cell?_alloc_at _ _ _ _ (by simp)]; rfl)
    (by rw [World.cell?_alloc_lt _ _ t (by simp; omega), World.cell?_alloc_lt _ _ t (by simp; omega), World.cell?_alloc_lt _ _ t (by simp; omega), World.cell?_alloc_lt _ _ t htl]; exact ht0)
    (by rw [World.frozen?_alloc_old _ _ t (by simp; omega), World.frozen?_alloc_old _ _ t (by simp; omega), World.frozen?_alloc_old _ _ t (by simp; omega), World.frozen?_alloc_old _ _ t (Nat.ne_of_lt htl)]; exact hf0)
  go_enter Tryz.func26, Tryz.ntmps26
  go_wp2
  refine wp_loop_rounds 1 ?_
  rw [rounds_succ]
  go_wp2
  go_ret
  exact ⟨rfl, rfl⟩
end Go.Proofs.YtkmafpfldnapjaaGreatDoor
