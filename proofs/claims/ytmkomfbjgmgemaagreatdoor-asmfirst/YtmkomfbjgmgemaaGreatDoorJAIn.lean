import Derived.Test.YtmkomfbjgmgemaaGreatDoorJAEndH
import Derived.Test.YtmkomfbjgmgemaaGreatDoorJLDepths
import Derived.Shelf.LaysM
import Derived.Shelf.Strconv.Clone
import Derived.Test.YtmkomfbjgmgemaaGreatDoorProg
import Derived.Test.YtmkomfbjgmgemaaGreatDoorJAMath
import Derived.WalkKit
/-
  readInside.
-/
namespace Go.Proofs.YtmkomfbjgmgemaaGreatDoor
open Go.RowKit Go.Sort

theorem opR_le (s : ByteArray) : (opR s).1 ≤ 37 := by
  have hf : ∀ n i, findN s n = some i → i < n := fun n => by
    induction n with
    | zero => intro i h; cases h
    | succ n ih =>
      intro i h
      unfold findN at h
      cases h1 : findN s n with
      | some j =>
        rw [h1] at h
        simp only [Option.some.injEq] at h
        have := ih j h1
        omega
      | none =>
        rw [h1] at h
        simp only at h
        split at h
        · simp only [Option.some.injEq] at h; omega
        · cases h
  unfold opR
  cases h : findN s 37 with
  | some i => have := hf 37 i h; show i ≤ 37; omega
  | none => show 0 ≤ 37; omega
theorem NmAt.fra {M B : Nat} {W W' : World} (h : NmAt W) (hb : FrA M B W W') (hB : B < M) (hg : 8 ≤ B) : NmAt W' := fun i hi => by
  have h1 := h i hi
  have h2 := hb.block 2 (by omega) (by omega)
  simp only [World.cell?] at h1 ⊢
  rw [h2]
  exact h1
/-- an error of a line: without its line's number, or with that of an earlier one -/
def ErrIn (W : World) (v : Value) (line : Nat) (E : Nat × Nat × Int) : Prop := (ErrAt W v 0 E.2.1 E.2.2 ∧ E.1 = line) ∨ (E.1 ≠ 0 ∧ ErrAt W v E.1 E.2.1 E.2.2)
/-- what a line leaves -/
def LinePost (W : World) (M B line : Nat) (R : Except (Nat × Nat × Int) As) (e : Ending) (w' : World) : Prop :=
  (∃ v E, e = .returned v ∧ ErrIn w' v line E ∧ R = .error E ∧ FrA M B W w') ∨
  (∃ a' Ps' vl vn vm vj, e = .returned .nilIface ∧ R = .ok a' ∧ ASt w' M B line a' Ps' vl vn vm vj ∧ FrA M B W w')
theorem fixN_line {ls : List (List UInt8 × Nat)} : ∀ {js : List Jp} {L : List K} {E : Nat × Nat × Int}, fixN ls js L = .error E → ∃ j ∈ js, E.1 = j.line
  | [], L, E, h => by cases h
  | j :: js, L, E, h => by
    simp only [fixN] at h
    split at h
    · simp only [Except.error.injEq] at h
      exact ⟨j, by simp, by rw [← h]⟩
    · obtain ⟨j', h1, h2⟩ := fixN_line h
      exact ⟨j', by simp [h1], h2⟩
set_option maxRecDepth 100000 in
set_option maxHeartbeats 4000000 in
theorem readInside_any (w : World) (M B line k : Nat) (a : As) (Ps : List Pr) (vl vn vm vj : Value) (r : Nat) (x : Wd) (rest : List Wd) (h : ASt w M B line a Ps vl vn vm vj) (hz : AsSz a k) (ho : a.opn = true) (hR : RB (ZA M B) w r (x :: rest, 0)) (hs : SmallW (x :: rest)) (hr : M ≤ r) (hwl : ∀ y ∈ x :: rest, y.1.length ≤ 65536) (hv : NumVars w) (hn : NmAt w) (hB : 8 ≤ B) :
    Calls Tryz.prog 22 #[.pointer (some ⟨B, 0, none⟩), .pointer (some ⟨r, 0, none⟩)] w fun e w' => LinePost w M B line (insideA a line (x :: rest)) e w' := by
  have HC := hidA (next_any w r (x :: rest, 0) hR hs)
  have HSm : Hid (SmallW rest ∧ x.1.length ≤ 65536 ∧ ∀ y ∈ rest, y.1.length ≤ 65536) := ⟨⟨fun y hy => hs.1 y (List.mem_cons_of_mem _ hy), by have := hs.2; simp at this; omega⟩, hwl x (by simp), fun y hy => hwl y (List.mem_cons_of_mem _ hy)⟩
  have HA := hidA h
  have HZ := hidA hz
  have HO := hidA ho
  have HR := hidA hR
  have HV := hidA hv
  have HN := hidA hn
  have hM := h.bm.2
  have hBM := h.bm.1
  clear h hz ho hR hs hwl hv hn
  go_enter Tryz.func22, Tryz.ntmps22
  go_wp2_with fail
  refine HC.out.mono ?_
  rintro e w1 (⟨v, col, h1, _⟩ | ⟨x', rd', h1, rfl, h3, h4⟩)
  · cases h1
  simp only [rNext, Except.ok.injEq, Prod.mk.injEq] at h1
  obtain ⟨rfl, rfl⟩ := h1
  have hM1 : M ≤ w1.heap.size := Nat.le_trans hM h4.size
  obtain ⟨W2, hW2⟩ : ∃ W2, W2 = w1.alloc (.cells #[.string (S x.1), .int .i64 (x.2 : Int)] 76) := ⟨_, rfl⟩
  have hB2 : Go.RowKit.Below w1.heap.size w1 W2 := by rw [hW2]; exact bel_al _ _
  have HA2 : Hid (ASt W2 M B line a Ps vl vn vm vj) := (HA.out.bx HR.out h4).below hB2
  have HR2 : Hid (RB (ZA M B) W2 r (rest, x.2 + x.1.length)) := h3.kept hB2
  have HF2 : Hid (FrA M B w W2) := (FrA.bx h4 hM hr).trans (FrA.bel hB2 hM1)
  have hM2 : M ≤ W2.heap.size := Nat.le_trans hM1 hB2.size
  have HW2 : Hid (WB W2 w1.heap.size (.string (S x.1)) (.int .i64 (x.2 : Int))) := by show WB _ _ _ _; rw [hW2]; exact heap_alloc_new _ _ rfl
  have HV2 : Hid (NumVars W2) := HV.out.fra HF2.out hBM hB
  have HN2 : Hid (NmAt W2) := HN.out.fra HF2.out hBM hB
  obtain ⟨z0, z1, _, _⟩ := HW2.out.cells
  clear h3 h4 hB2 HC HA HR HV HN
  go_upto_region 4 with fail
  rw [← hW2]
  clear hW2
  by_cases hen : x.1 = endL
  · have hbe : ((S x.1).toList == [101, 110, 100]) = true := by rw [S_toList, hen]; rfl
    have HEn := hidA hen
    clear hen
    go_wp2_with fail
    refine (end_any W2 r (rest, x.2 + x.1.length) HR2.out HSm.out.1).mono ?_
    rintro e w3 (⟨v, col, n, h1, rfl, h2, h3⟩ | ⟨h1, rfl, hw3⟩)
    · obtain ⟨p, rfl⟩ := err_iface h2
      have HE : Hid (LinePost w M B line (insideA a line (x :: rest)) (.returned (.iface 58 p)) w3) := .inl ⟨_, (line, col, n), rfl, .inl ⟨h2, rfl⟩, by simp only [insideA]; rw [if_pos HEn.out, h1], HF2.out.trans (FrA.bel h3 hM2)⟩
      clear h1 h2 h3
      go_wp2_with fail
      go_ret
      exact HE.out
    · have hw3' := hw3.symm
      subst hw3'
      have HE1 := hidA h1
      clear hw3 h1
      have HEp := hidA (endProc_any W2 M B line k a Ps vl vn vm vj HA2.out HZ.out HO.out)
      go_wp2_with fail
      refine HEp.out.mono ?_
      rintro e w4 (⟨v, l, col, n, rfl, h1, h2, h3⟩ | ⟨L, Ps', rfl, h1, h2, h3⟩)
      · have HE : Hid (LinePost w M B line (insideA a line (x :: rest)) (.returned v) w4) := .inl ⟨_, (l, col, n), rfl, .inr ⟨by
          obtain ⟨j, h5, h6⟩ := fixN_line h2
          have h7 : l = j.line := h6
          rw [h7]
          exact HZ.out.jln j h5, h1⟩, by simp only [insideA]; rw [if_pos HEn.out, HE1.out]; simp only; rw [h2], HF2.out.trans h3⟩
        clear h1 h2 h3 HEp
        go_wp2_with fail
        go_ret
        exact HE.out
      · have HE : Hid (LinePost w M B line (insideA a line (x :: rest)) (.returned .nilIface) w4) := .inr ⟨_, Ps', _, _, _, _, rfl, by simp only [insideA]; rw [if_pos HEn.out, HE1.out]; simp only; rw [h1], h2, HF2.out.trans h3⟩
        clear h1 h2 h3 HEp
        go_wp2_with fail
        go_ret
        exact HE.out
  · have hbe : ((S x.1).toList == [101, 110, 100]) = false := by
      rw [S_toList]
      have e0 : ([101, 110, 100] : List UInt8) = endL := rfl
      rw [e0]
      simpa using hen
    have HEn := hidA hen
    clear hen
    have HCt := hidA (cutSuffix_any W2 x.1 58 (by have := HSm.out.2.1; omega))
    go_wp2_with fail
    refine HCt.out.mono ?_
    rintro e w3 ⟨rfl, hw3⟩
    have hw3' := hw3.symm
    subst hw3'
    clear hw3 HCt
    cases hb : endsB x.1 58 with
    | true =>
      have HEd : Hid (x.1.getLast? = some 58) := by show _ = _; unfold endsB at hb; simpa using hb
      have hcv : cutV x.1 58 = .tuple #[.string (S x.1.dropLast), .bool true] := by unfold cutV; rw [hb]; rfl
      rw [hcv]
      clear hcv hb
      have HAl := hidA (addLabel_any W2 M B line k a Ps vl vn vm vj x.1.dropLast x.2 HA2.out HZ.out HO.out (by have := HSm.out.2.1; rw [List.length_dropLast]; omega))
      go_wp2_with fail
      refine HAl.out.mono ?_
      rintro e w4 (⟨v, n, rfl, h1, h2, h3⟩ | ⟨rfl, h1, h2, h3, h4⟩)
      · obtain ⟨p, rfl⟩ := err_iface h1
        have HE : Hid (LinePost w M B line (insideA a line (x :: rest)) (.returned (.iface 58 p)) w4) := .inl ⟨_, (line, x.2, n), rfl, .inl ⟨h1, rfl⟩, by
          simp only [insideA]
          rw [if_neg HEn.out, if_pos HEd.out]
          rcases h2 with ⟨q1, rfl⟩ | ⟨q1, q2, rfl⟩
          · rw [if_pos q1]
          · rw [if_neg (by rw [q1]; simp), if_pos q2], HF2.out.trans h3.fr⟩
        clear h1 h2 h3 HAl
        go_wp2_with fail
        go_ret
        exact HE.out
      · have HA4 := hidA h3
        have HF4 : Hid (FrA M B w w4) := HF2.out.trans h4.fr
        have HR4 := hidA (HR2.out.frr h4)
        have H12 := hidA (And.intro h1 h2)
        have hM4 : M ≤ w4.heap.size := h3.bm.2
        clear h1 h2 h3 h4 HAl
        go_wp2_with fail
        refine (end_any w4 r (rest, x.2 + x.1.length) HR4.out HSm.out.1).mono ?_
        rintro e w5 (⟨v, col, n, h1, rfl, h2, h3⟩ | ⟨h1, rfl, hw5⟩)
        · have HE : Hid (LinePost w M B line (insideA a line (x :: rest)) (.returned v) w5) := .inl ⟨_, (line, col, n), rfl, .inl ⟨h2, rfl⟩, by
            simp only [insideA]
            rw [if_neg HEn.out, if_pos HEd.out, if_neg (by rw [H12.out.1]; simp), if_neg (by rw [H12.out.2]; simp), h1], HF4.out.trans (FrA.bel h3 hM4)⟩
          clear h1 h2 h3
          go_wp2_with fail
          go_ret
          exact HE.out
        · have HE : Hid (LinePost w M B line (insideA a line (x :: rest)) (.returned .nilIface) w5) := .inr ⟨_, Ps, vl, vn, vm, vj, rfl, by
            simp only [insideA]
            rw [if_neg HEn.out, if_pos HEd.out, if_neg (by rw [H12.out.1]; simp), if_neg (by rw [H12.out.2]; simp), h1], by rw [hw5]; exact HA4.out, by rw [hw5]; exact HF4.out⟩
          clear h1 hw5
          go_wp2_with fail
          go_ret
          exact HE.out
    | false =>
      have hEd : ¬ x.1.getLast? = some 58 := by unfold endsB at hb; simpa using hb
      have HEd := hidA hEd
      clear hEd
      have hcv : cutV x.1 58 = .tuple #[.string (S x.1), .bool false] := by unfold cutV; rw [hb]; rfl
      rw [hcv]
      clear hcv hb
      have HOp := hidA (op_any W2 (S x.1) HN2.out)
      have hopl := opR_le (S x.1)
      go_wp2_with fail
      refine HOp.out.mono ?_
      rintro e w4 ⟨rfl, hw4⟩
      have hw4' := hw4.symm
      subst hw4'
      clear hw4 HOp
      cases hb : (opR (S x.1)).2 with
      | false =>
        have HOb := hidA hb
        clear hb
        go_wp2_with fail
        refine (wrong_any W2 x.2 40).mono ?_
        rintro e w5 ⟨v, rfl, h1, h2⟩
        obtain ⟨p, rfl⟩ := err_iface h1
        have HE : Hid (LinePost w M B line (insideA a line (x :: rest)) (.returned (.iface 58 p)) w5) := .inl ⟨_, (line, x.2, 40), rfl, .inl ⟨h1, rfl⟩, by
          simp only [insideA]
          rw [if_neg HEn.out, if_neg HEd.out, if_pos HOb.out], HF2.out.trans (FrA.bel h2 hM2)⟩
        clear h1 h2
        go_wp2_with fail
        go_ret
        exact HE.out
      | true =>
        have HOb := hidA hb
        clear hb
        obtain ⟨op, hop⟩ : ∃ op : Int, op = ((opR (S x.1)).1 : Int) := ⟨_, rfl⟩
        have HAi := hidA (addInstr_any W2 M B line k a Ps vl vn vm vj r (rest, x.2 + x.1.length) op HA2.out HZ.out HO.out HR2.out HSm.out.1 hr HSm.out.2.2 HV2.out hB (by unfold In64; omega))
        rw [← hop]
        have HOq := hidA hop
        clear hop
        go_wp2_with fail
        refine HAi.out.mono ?_
        rintro e w5 (⟨v, col, n, rfl, h1, h2, h3⟩ | ⟨n, js, rd', Ps', vj', rfl, h1, h2, h3, h4, h5⟩)
        · obtain ⟨p, rfl⟩ := err_iface h1
          have HE : Hid (LinePost w M B line (insideA a line (x :: rest)) (.returned (.iface 58 p)) w5) := .inl ⟨_, (line, col, n), rfl, .inl ⟨h1, rfl⟩, by
            simp only [insideA]
            rw [if_neg HEn.out, if_neg HEd.out, if_neg (by rw [HOb.out]; simp), ← HOq.out, h2], HF2.out.trans h3⟩
          clear h1 h2 h3 HAi
          go_wp2_with fail
          go_ret
          exact HE.out
        · have HA5 := hidA h4
          have HF5 : Hid (FrA M B w w5) := HF2.out.trans h5
          have HR5 := hidA h2
          have HS5 := hidA h3
          have H1 := hidA h1
          have hM5 : M ≤ w5.heap.size := h4.bm.2
          clear h1 h2 h3 h4 h5 HAi
          go_wp2_with fail
          refine (end_any w5 r rd' HR5.out HS5.out).mono ?_
          rintro e w6 (⟨v, col, n', h1, rfl, h2, h3⟩ | ⟨h1, rfl, hw6⟩)
          · have HE : Hid (LinePost w M B line (insideA a line (x :: rest)) (.returned v) w6) := .inl ⟨_, (line, col, n'), rfl, .inl ⟨h2, rfl⟩, by
              simp only [insideA]
              rw [if_neg HEn.out, if_neg HEd.out, if_neg (by rw [HOb.out]; simp), ← HOq.out, H1.out]
              simp only
              rw [h1], HF5.out.trans (FrA.bel h3 hM5)⟩
            clear h1 h2 h3
            go_wp2_with fail
            go_ret
            exact HE.out
          · have HE : Hid (LinePost w M B line (insideA a line (x :: rest)) (.returned .nilIface) w6) := .inr ⟨_, Ps', vl, vn, vm, vj', rfl, by
              simp only [insideA]
              rw [if_neg HEn.out, if_neg HEd.out, if_neg (by rw [HOb.out]; simp), ← HOq.out, H1.out]
              simp only
              rw [h1], by rw [hw6]; exact HA5.out, by rw [hw6]; exact HF5.out⟩
            clear h1 hw6
            go_wp2_with fail
            go_ret
            exact HE.out
end Go.Proofs.YtmkomfbjgmgemaaGreatDoor
/-
  THE LIBRARY's CONTRACT OF stringslite.Clone AT THIS DUMP: a table of numbers and a theorem of closed facts, by program.
-/
namespace Go.Proofs.YtmkomfbjgmgemaaGreatDoor
open Go.Shelf
def laysM316_ren : Go.Shelf.Ren := ⟨fun | 316 => 69 | n => n, fun | 9 => 9 | 3 => 3 | 4 => 4 | 37 => 71 | 0 => 0 | 127 => 161 | 5 => 5 | n => n, fun | n => n⟩
theorem laysM316 : Go.Proofs.LaysM.n316 Tryz.prog laysM316_ren := {
  mixed := by kernel_rfl
  f316 := Tryz.func69.trans (congrArg some (by kernel_rfl))
  t0 := Tryz.underlying0
  a0 := Tryz.isAgg0
  z0 := Tryz.sizeOf0
  v0 := Tryz.zeroValue0
  t3 := Tryz.underlying3
  a3 := Tryz.isAgg3
  z3 := Tryz.sizeOf3
  v3 := Tryz.zeroValue3
  t4 := Tryz.underlying4
  a4 := Tryz.isAgg4
  z4 := Tryz.sizeOf4
  v4 := Tryz.zeroValue4
  t9 := Tryz.underlying9
  a9 := Tryz.isAgg9
  z9 := Tryz.sizeOf9
  v9 := Tryz.zeroValue9
  t37 := Tryz.underlying71
  a37 := Tryz.isAgg71
  z37 := Tryz.sizeOf71
  v37 := Tryz.zeroValue71
  t127 := Tryz.underlying161
  a127 := Tryz.isAgg161
  z127 := Tryz.sizeOf161
  v127 := Tryz.zeroValue161
  t5 := Tryz.underlying5
  a5 := Tryz.isAgg5
  z5 := Tryz.sizeOf5
  v5 := Tryz.zeroValue5
  i0 := by kernel_rfl
  i3 := by kernel_rfl
  i4 := by kernel_rfl
  i5 := by kernel_rfl
  i9 := by kernel_rfl
  i37 := by kernel_rfl
  i127 := by kernel_rfl }
end Go.Proofs.YtmkomfbjgmgemaaGreatDoor
/-
  strings.Clone.
-/
namespace Go.Proofs.YtmkomfbjgmgemaaGreatDoor
open Go.RowKit Go.Shelf

theorem cloneLite_any (w : World) (s : ByteArray) (hs : s.size ≤ 281474976710656) : Calls Tryz.prog 69 #[.string s] w fun e w' => e = .returned (.string s) ∧ Go.RowKit.Below w.heap.size w w' :=
  Any.stringslite_Clone laysM316 s w hs
theorem cloneS_any (w : World) (s : ByteArray) (hs : s.size ≤ 281474976710656) : Calls Tryz.prog 49 #[.string s] w fun e w' => e = .returned (.string s) ∧ Go.RowKit.Below w.heap.size w w' := by
  have HC := cloneLite_any w s hs
  go_enter Tryz.func49, Tryz.ntmps49
  go_wp2_with fail
  refine HC.mono ?_
  rintro e w1 ⟨rfl, hb⟩
  go_wp2_with fail
  go_ret
  exact ⟨rfl, hb⟩
end Go.Proofs.YtmkomfbjgmgemaaGreatDoor
/-
  A PROCEDURE's FIRST LINE: the state.
-/
namespace Go.Proofs.YtmkomfbjgmgemaaGreatDoor
open Go.RowKit Go.Sort

section
variable {W W' : World} {M B line : Nat} {a : As} {Ps : List Pr} {vl vn vm vj : Value}
theorem ASt.rowB (h : ASt W M B line a Ps vl vn vm vj) (i : Nat) (u : Value) {base e size n : Nat} {v : Value} {xs : List Value} (hr : W.ownsRow base e size v n xs) (he : e ≠ 53) : (W.setCell ⟨B, i, none⟩ u).ownsRow base e size v n xs := ownsRow_same hr (fun g' hgg => by
  obtain ⟨cur', hc'⟩ := own_blk hr hgg
  exact heap_setCell_other _ _ _ _ (h.notB hc' he))
theorem ASt.lmB (h : ASt W M B line a Ps vl vn vm vj) (i : Nat) (u : Value) {mb : Nat} {ls : List (List UInt8 × Nat)} (hl : LM W mb ls) : LM (W.setCell ⟨B, i, none⟩ u) mb ls := hl.same (heap_setCell_other _ _ _ _ (fun e => by
  have e' : mb = B := e
  obtain ⟨D, ⟨es, clock, hb, _⟩, _⟩ := hl
  rw [e', h.ab] at hb
  cases hb))
theorem ASt.beg1 (h : ASt W M B line a Ps vl vn vm vj) (l : Nat) : ASt (W.setCell ⟨B, 4, none⟩ (.int .i64 (l : Int))) M B line { a with begun := (l, a.begun.2) } Ps vl vn vm vj :=
  ⟨heap_setCell_same W B 4 _ _ _ h.ab, h.rowB _ _ h.lib (by decide), h.eq, fun x hx => ⟨(h.code x hx).1, h.rowB _ _ (h.code x hx).2 (by decide)⟩, h.ap, h.rowB _ _ h.nms (by decide), h.rowB _ _ h.jps (by decide), fun ho => by obtain ⟨mb, h1, h2, h3⟩ := h.lab ho; exact ⟨mb, h1, h2, h.lmB _ _ h3⟩, h.ok, h.bm.1, by simpa using h.bm.2⟩
theorem ASt.beg2 (h : ASt W M B line a Ps vl vn vm vj) (c : Nat) : ASt (W.setCell ⟨B, 5, none⟩ (.int .i64 (c : Int))) M B line { a with begun := (a.begun.1, c) } Ps vl vn vm vj :=
  ⟨heap_setCell_same W B 5 _ _ _ h.ab, h.rowB _ _ h.lib (by decide), h.eq, fun x hx => ⟨(h.code x hx).1, h.rowB _ _ (h.code x hx).2 (by decide)⟩, h.ap, h.rowB _ _ h.nms (by decide), h.rowB _ _ h.jps (by decide), fun ho => by obtain ⟨mb, h1, h2, h3⟩ := h.lab ho; exact ⟨mb, h1, h2, h.lmB _ _ h3⟩, h.ok, h.bm.1, by simpa using h.bm.2⟩
theorem ASt.begun (h : ASt W M B line a Ps vl vn vm vj) (l c : Nat) : ASt ((W.setCell ⟨B, 4, none⟩ (.int .i64 (l : Int))).setCell ⟨B, 5, none⟩ (.int .i64 (c : Int))) M B line { a with begun := (l, c) } Ps vl vn vm vj := (h.beg1 l).beg2 c
/-- the names' row has grown, and the box has it -/
theorem ASt.named (h : ASt W M B line a Ps vl vn vm vj) (p : Nat × Nat) {v' : Value} (ho : W'.ownsRow M 49 2 v' (a.names.length + 1) (spc a.names ++ spc [p])) (hg : W.grownBy W' vn.ownBlock) : ASt (W'.setCell ⟨B, 2, none⟩ v') M B line { a with names := a.names ++ [p] } Ps vl v' vm vj := by
  have hAB : AB W' B line vl vn a.opn a.begun.1 a.begun.2 vm vj := (hg.block B h.ab.lt (fun e1 => by
    obtain ⟨cur, hc⟩ := own_blk h.nms e1.symm
    exact h.notB hc (by decide) rfl)).trans h.ab
  have row : ∀ {base e size n : Nat} {v : Value} {xs : List Value}, W'.ownsRow base e size v n xs → e ≠ 53 → (W'.setCell ⟨B, 2, none⟩ v').ownsRow base e size v n xs := fun hr he => ownsRow_same hr (fun g hgg => by
    obtain ⟨cur, hc⟩ := own_blk hr hgg
    exact heap_setCell_other _ _ _ _ (fun e => by
      have e' : g = B := e
      rw [e', hAB] at hc
      simp only [Option.some.injEq, Obj.cells.injEq] at hc
      exact he hc.2.1.symm))
  refine ⟨heap_setCell_same W' B 2 _ _ _ hAB, row (ownGrown h.lib h.nms (by decide) hg) (by decide), h.eq, fun x hx => ⟨(h.code x hx).1, row (ownGrown (h.code x hx).2 h.nms (by decide) hg) (by decide)⟩, h.ap, ?_, row (ownGrown h.jps h.nms (by decide) hg) (by decide), fun hop => ?_, h.ok, h.bm.1, ?_⟩
  · have := row ho (by decide)
    rw [← spc_app] at this
    rw [List.length_append]
    exact this
  · obtain ⟨mb, h1, h2, h3⟩ := h.lab hop
    refine ⟨mb, h1, h2, (h3.grown h.nms hg).same (heap_setCell_other _ _ _ _ (fun e => ?_))⟩
    have e' : mb = B := e
    obtain ⟨D, ⟨es, clock, hb, _⟩, _⟩ := h3
    rw [e', h.ab] at hb
    cases hb
  · have := hg.size; have := h.bm.2; simp; omega
/-- the procedures' row has grown, and the box has it -/
theorem ASt.proc (h : ASt W M B line a Ps vl vn vm vj) (x : Pr) {v' : Value} (ho : OwnP W' M v' (Ps ++ [x])) (hg : W.grownBy W' vl.ownBlock) (hx : x.ao = none ∧ x.n = 0 ∧ x.cap = 0 ∧ x.L = []) (hk : NIn x.p ∧ x.name.size ≤ 65536) : ASt (W'.setCell ⟨B, 1, none⟩ v') M B line { a with lib := a.lib ++ [ppOf x] } (Ps ++ [x]) v' vn vm vj := by
  have hAB : AB W' B line vl vn a.opn a.begun.1 a.begun.2 vm vj := (hg.block B h.ab.lt (fun e1 => by
    obtain ⟨cur, hc⟩ := own_blk h.lib e1.symm
    exact h.notB hc (by decide) rfl)).trans h.ab
  have row : ∀ {base e size n : Nat} {v : Value} {xs : List Value}, W'.ownsRow base e size v n xs → e ≠ 53 → (W'.setCell ⟨B, 1, none⟩ v').ownsRow base e size v n xs := fun hr he => ownsRow_same hr (fun g hgg => by
    obtain ⟨cur, hc⟩ := own_blk hr hgg
    exact heap_setCell_other _ _ _ _ (fun e => by
      have e' : g = B := e
      rw [e', hAB] at hc
      simp only [Option.some.injEq, Obj.cells.injEq] at hc
      exact he hc.2.1.symm))
  obtain ⟨x1, x2, x3, x4⟩ := hx
  have hcx : cdV x = .slice none 0 0 := by unfold cdV; rw [x1, x2, x3]
  refine ⟨heap_setCell_same W' B 1 _ _ _ hAB, row ho (by decide), by rw [List.map_append]; show a.lib ++ [ppOf x] = _; rw [h.eq]; rfl, fun y hy => ?_, ?_, row (ownGrown h.nms h.lib (by decide) hg) (by decide), row (ownGrown h.jps h.lib (by decide) hg) (by decide), fun hop => ?_, fun y hy => ?_, h.bm.1, ?_⟩
  · rcases List.mem_append.1 hy with hy | hy
    · exact ⟨(h.code y hy).1, row (ownGrown (h.code y hy).2 h.lib (by decide) hg) (by decide)⟩
    · simp only [List.mem_singleton] at hy
      subst hy
      refine ⟨by rw [x2, x4]; rfl, ?_⟩
      rw [hcx, x2, x4]
      exact World.ownsRow_nil _ _ _ _
  · refine List.pairwise_append.2 ⟨h.ap, List.pairwise_singleton _ _, fun y hy z hz g' hgg e1 => ?_⟩
    simp only [List.mem_singleton] at hz
    subst hz
    rw [hcx] at e1
    cases e1
  · obtain ⟨mb, h1, h2, h3⟩ := h.lab hop
    refine ⟨mb, h1, h2, (h3.grown h.lib hg).same (heap_setCell_other _ _ _ _ (fun e => ?_))⟩
    have e' : mb = B := e
    obtain ⟨D, ⟨es, clock, hb, _⟩, _⟩ := h3
    rw [e', h.ab] at hb
    cases hb
  · rcases List.mem_append.1 hy with hy | hy
    · exact h.ok y hy
    · simp only [List.mem_singleton] at hy
      subst hy
      exact ⟨hk.1, by rw [x4]; simp, hk.2⟩
  · have := hg.size; have := h.bm.2; simp; omega
/-- the procedure is open -/
theorem ASt.open_ (h : ASt W M B line a Ps vl vn vm vj) (mb : Nat) (hmb : M ≤ mb) (hl : LM W mb []) : ASt (((W.setCell ⟨B, 3, none⟩ (.bool true)).setCell ⟨B, 6, none⟩ (.map (some mb))).setCell ⟨B, 7, none⟩ (.slice none 0 0)) M B line { a with opn := true, labels := [], jumps := [] } Ps vl vn (.map (some mb)) (.slice none 0 0) := by
  have hne : ∀ (k : Nat) (o : Obj), W.heap[k]? = some o → k ≠ B → (((W.setCell ⟨B, 3, none⟩ (.bool true)).setCell ⟨B, 6, none⟩ (.map (some mb))).setCell ⟨B, 7, none⟩ (.slice none 0 0)).heap[k]? = some o := fun k o hk hn => ((heap_setCell_other _ _ _ _ hn).trans ((heap_setCell_other _ _ _ _ hn).trans (heap_setCell_other _ _ _ _ hn))).trans hk
  have row : ∀ {base e size n : Nat} {v : Value} {xs : List Value}, W.ownsRow base e size v n xs → e ≠ 53 → (((W.setCell ⟨B, 3, none⟩ (.bool true)).setCell ⟨B, 6, none⟩ (.map (some mb))).setCell ⟨B, 7, none⟩ (.slice none 0 0)).ownsRow base e size v n xs := fun hr he => ownsRow_same hr (fun g hgg => by
    obtain ⟨cur, hc⟩ := own_blk hr hgg
    rw [hc]
    exact hne g _ hc (h.notB hc he))
  refine ⟨heap_setCell_same _ B 7 _ _ _ (heap_setCell_same _ B 6 _ _ _ (heap_setCell_same W B 3 _ _ _ h.ab)), row h.lib (by decide), h.eq, fun x hx => ⟨(h.code x hx).1, row (h.code x hx).2 (by decide)⟩, h.ap, row h.nms (by decide), World.ownsRow_nil _ _ _ _, fun _ => ⟨mb, rfl, hmb, hl.same ?_⟩, h.ok, h.bm.1, by simpa using h.bm.2⟩
  obtain ⟨D, ⟨es, clock, hb, _⟩, _⟩ := hl
  rw [hb]
  exact hne mb _ hb (fun e => by rw [e, h.ab] at hb; cases hb)
end
end Go.Proofs.YtmkomfbjgmgemaaGreatDoor
