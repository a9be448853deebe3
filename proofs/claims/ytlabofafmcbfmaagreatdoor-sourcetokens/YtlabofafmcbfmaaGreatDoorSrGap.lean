/-
  SOURCE: gap.
-/
import Derived.Test.YtlabofafmcbfmaaGreatDoorSrFr
import Derived.Test.YtlabofafmcbfmaaGreatDoorShelf9
namespace Go.Proofs.YtlabofafmcbfmaaGreatDoor
open Go.RowKit Go.Sort Go.Shelf

/-- the library's longest short text, whatever it is -/
def MLen (w : World) : Prop := ∃ m, w.cell? ⟨4, 0, none⟩ = some (.int .i64 m)
theorem MLen.kept {w w' : World} (h : MLen w) (hb : Below w.heap.size w w') : MLen w' := by
  obtain ⟨m, h⟩ := h
  exact ⟨m, (hb.cell (cell_lt h)).trans h⟩
theorem hasPre_any (w : World) (l : List UInt8) (p : List UInt8) : Calls Tryz.prog 42 #[.string (S l), .string (S p)] w fun e w' => e = .returned (.bool (p.isPrefixOf l)) ∧ w' = w := by
  have h1 : Calls Tryz.prog 42 #[.string (S l), .string (S p)] w _ := Any.strings_HasPrefix lays99 (S l) (S p) w
  rw [S_list, S_list] at h1
  exact h1
theorem cutPre_any (w : World) (l : List UInt8) (p : List UInt8) : Calls Tryz.prog 44 #[.string (S l), .string (S p)] w fun e w' => e = .returned (.tuple #[.string (S (if p.isPrefixOf l then l.drop p.length else l)), .bool (p.isPrefixOf l)]) ∧ w' = w := by
  have h1 : Calls Tryz.prog 44 #[.string (S l), .string (S p)] w _ := Any.strings_CutPrefix lays103 (S l) (S p) w
  rw [S_list, S_list] at h1
  exact h1
theorem index_any (w : World) (l : List UInt8) (p : List UInt8) (hl : l.length ≤ 65536) (hm : MLen w) : Calls Tryz.prog 45 #[.string (S l), .string (S p)] w fun e w' => e = .returned (.int .i64 (Lib.index l p)) ∧ w' = w := by
  obtain ⟨m, hm⟩ := hm
  have h1 : Calls Tryz.prog 45 #[.string (S l), .string (S p)] w _ := Any.strings_Index lays143 (S l) (S p) m w (by rw [S_size]; omega) hm
  rw [S_list, S_list] at h1
  exact h1
theorem index_bound : ∀ (l p : List UInt8), Lib.index l p ≤ (l.length : Int)
  | [], p => by unfold Lib.index; split <;> simp
  | b :: l, p => by
    have ih := index_bound l p
    unfold Lib.index
    split
    · simp; omega
    · split
      · simp; omega
      · simp; omega
set_option maxRecDepth 100000 in
set_option maxHeartbeats 1000000 in
theorem gap_any (w : World) (l : List UInt8) (hl : l.length ≤ 65536) (hm : MLen w) : Calls Tryz.prog 27 #[.string (S l)] w fun e w' => e = .returned (.int .i64 (gapL l : Nat)) ∧ Grew w w' := by
  have HP := hidS (hasPre_any w l [47, 47])
  have HC := hidS (cutPre_any w l [47, 42])
  have HX := hidS (index_any w (l.drop 2) [42, 47] (by simp; omega) hm)
  have HN := hidS (frontN_any w l hl)
  have HB := hidS (frontB_any w l hl)
  have hx0 := Lib.index_ge (l.drop 2) [42, 47]
  have hx1 : Lib.index (l.drop 2) [42, 47] ≤ 65536 := by
    have h1 := index_bound (l.drop 2) [42, 47]
    have h2 : (l.drop 2).length ≤ l.length := by simp
    omega
  have HG : Hid (gapL l = if [47, 47].isPrefixOf l then frB nlC l else if [47, 42].isPrefixOf l then (if Lib.index (l.drop 2) [42, 47] < 0 then 0 else (Lib.index (l.drop 2) [42, 47]).toNat + 4) else frB blC l) := rfl
  have HR : Hid (Grew w w) := Grew.refl w
  generalize hgl : gapL l = gl at *
  generalize frB nlC l = fn at *
  generalize frB blC l = fb at *
  generalize Lib.index (l.drop 2) [42, 47] = ix at *
  generalize [47, 47].isPrefixOf l = b1 at *
  generalize [47, 42].isPrefixOf l = b2 at *
  clear hgl hm
  cases b1 with
  | true =>
    have e : gl = fn := by have h := HG.out; simpa using h
    subst e
    clear HG HC HX HB
    go_enter Tryz.func27, Tryz.ntmps27
    go_wp2_with (first | (go_at_call 42; refine HP.out.mono ?_; rintro e wE ⟨rfl, hwE⟩; have hwE' := hwE.symm; subst hwE'; clear hwE) | fail)
    refine HN.out.mono ?_
    rintro e w2 ⟨rfl, hg⟩
    have HG2 := hidS hg
    clear hg
    go_wp2
    go_ret
    exact ⟨rfl, HG2.out⟩
  | false =>
    cases b2 with
    | true =>
      clear HN HB
      by_cases hx : ix < 0
      · have e : gl = 0 := by have h := HG.out; simpa [hx] using h
        subst e
        clear HG
        go_enter Tryz.func27, Tryz.ntmps27
        go_wp2_with (first | (go_at_call 42; refine HP.out.mono ?_; rintro e wE ⟨rfl, hwE⟩; have hwE' := hwE.symm; subst hwE'; clear hwE) | (go_at_call 44; refine HC.out.mono ?_; rintro e wE ⟨rfl, hwE⟩; have hwE' := hwE.symm; subst hwE'; clear hwE) | (go_at_call 45; refine HX.out.mono ?_; rintro e wE ⟨rfl, hwE⟩; have hwE' := hwE.symm; subst hwE'; clear hwE))
        go_ret
        exact ⟨rfl, HR.out⟩
      · have e : gl = ix.toNat + 4 := by have h := HG.out; simpa [hx] using h
        subst e
        clear HG
        have hw1 : IntKind.i64.wrap (2 + ix) = 2 + ix := by rw [IntKind.wrap_i64]; omega
        have hw2 : IntKind.i64.wrap (2 + ix + 2) = 2 + ix + 2 := by rw [IntKind.wrap_i64]; omega
        go_enter Tryz.func27, Tryz.ntmps27
        go_wp2_with (first | (go_at_call 42; refine HP.out.mono ?_; rintro e wE ⟨rfl, hwE⟩; have hwE' := hwE.symm; subst hwE'; clear hwE) | (go_at_call 44; refine HC.out.mono ?_; rintro e wE ⟨rfl, hwE⟩; have hwE' := hwE.symm; subst hwE'; clear hwE) | (go_at_call 45; refine HX.out.mono ?_; rintro e wE ⟨rfl, hwE⟩; have hwE' := hwE.symm; subst hwE'; clear hwE))
        go_ret
        exact ⟨by rw [show ((ix.toNat + 4 : Nat) : Int) = 2 + ix + 2 by omega]; rfl, HR.out⟩
    | false =>
      have e : gl = fb := by have h := HG.out; simpa using h
      subst e
      clear HG HX HN
      go_enter Tryz.func27, Tryz.ntmps27
      go_wp2_with (first | (go_at_call 42; refine HP.out.mono ?_; rintro e wE ⟨rfl, hwE⟩; have hwE' := hwE.symm; subst hwE'; clear hwE) | (go_at_call 44; refine HC.out.mono ?_; rintro e wE ⟨rfl, hwE⟩; have hwE' := hwE.symm; subst hwE'; clear hwE) | fail)
      refine HB.out.mono ?_
      rintro e w2 ⟨rfl, hg⟩
      have HG2 := hidS hg
      clear hg
      go_wp2
      go_ret
      exact ⟨rfl, HG2.out⟩
end Go.Proofs.YtlabofafmcbfmaaGreatDoor
