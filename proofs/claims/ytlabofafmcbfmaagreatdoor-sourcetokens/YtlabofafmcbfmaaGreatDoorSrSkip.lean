/-
  SOURCE: skip.
-/
import Derived.Test.YtlabofafmcbfmaaGreatDoorSrPass
namespace Go.Proofs.YtlabofafmcbfmaaGreatDoor
open Go.RowKit Go.Sort Go.Shelf

theorem index_occ : ∀ (s sub : List UInt8) (i : Nat), Lib.index s sub = (i : Int) → Lib.occAt s sub i = true
  | [], sub, i, h => by
    unfold Lib.index at h
    split at h
    · rename_i hs
      have : sub = [] := by simpa using hs
      subst this
      simp [Lib.occAt]
    · omega
  | b :: l, sub, i, h => by
    unfold Lib.index at h
    split at h
    · rename_i hs
      obtain rfl : i = 0 := by omega
      simpa [Lib.occAt] using hs
    · split at h
      · omega
      · rename_i h2
        have h3 := Lib.index_ge l sub
        have h4 : Lib.index l sub ≠ -1 := by simpa using h2
        obtain ⟨j, rfl⟩ : ∃ j, i = j + 1 := ⟨i - 1, by omega⟩
        have ih := index_occ l sub j (by omega)
        simpa [Lib.occAt] using ih
theorem gapL_le (l : List UInt8) : gapL l ≤ l.length := by
  unfold gapL
  split
  · exact frB_le _ _
  · split
    · rename_i h2
      split
      · omega
      · rename_i hx
        have h1 := index_occ (l.drop 2) [42, 47] (Lib.index (l.drop 2) [42, 47]).toNat (by omega)
        rcases Lib.occAt_room h1 with h3 | h3
        · simp only [List.length_drop, List.length_cons, List.length_nil] at h3
          omega
        · cases h3
    · exact frB_le _ _
/-- past all blanks and comments -/
def skN : Nat → List UInt8 → Nat × Nat → List UInt8 × (Nat × Nat)
  | 0, l, p => (l, p)
  | f + 1, l, p => if gapL l = 0 then (l, p) else skN f (l.drop (gapL l)) (spL p (l.take (gapL l)))
def skL (l : List UInt8) (p : Nat × Nat) : List UInt8 × (Nat × Nat) := skN l.length l p
theorem skN_stop {f : Nat} {l : List UInt8} {p : Nat × Nat} (h : gapL l = 0) : skN f l p = (l, p) := by
  cases f with
  | zero => rfl
  | succ f => simp [skN, h]
theorem skN_go {f : Nat} {l : List UInt8} {p : Nat × Nat} (h : gapL l ≠ 0) : skN (f + 1) l p = skN f (l.drop (gapL l)) (spL p (l.take (gapL l))) := by simp [skN, h]
/-- a place and what is left fit -/
def PB (p : Nat × Nat) (l : List UInt8) : Prop := p.1 + l.length ≤ 200000 ∧ p.2 + l.length ≤ 200000
theorem PB.next {p : Nat × Nat} {l : List UInt8} (h : PB p l) {n : Nat} (hn : n ≤ l.length) : PB (spL p (l.take n)) (l.drop n) := by
  have h1 := spL_pos (l.take n) p
  simp only [List.length_take] at h1
  unfold PB at h ⊢
  simp only [List.length_drop]
  omega
theorem T1.mlen {sb : Nat} {w w' : World} (h : T1 sb w w') (hm : MLen w) (hs : 4 ≠ sb) : MLen w' := by
  obtain ⟨m, hm⟩ := hm
  have hlt := cell_lt hm
  have hb := h.block _ hlt hs
  exact ⟨m, by simp only [World.cell?] at hm ⊢; rw [hb]; exact hm⟩
set_option maxRecDepth 100000 in
set_option maxHeartbeats 2000000 in
theorem skip_any (w : World) (sb : Nat) (l : List UInt8) (p : Nat × Nat) (h : SB w sb l p) (hl : l.length ≤ 65536) (hp : PB p l) (hm : MLen w) (hs : 4 ≠ sb) :
    Calls Tryz.prog 17 #[.pointer (some ⟨sb, 0, none⟩)] w fun e w' => PassP w sb (skL l p).1 (skL l p).2 e w' := by
  have c0 := h.cells.1
  have HG := hidS (gap_any w l hl hm)
  obtain ⟨z, hz⟩ : ∃ z, z = skL l p := ⟨_, rfl⟩
  rw [← hz]
  have HS0 : Hid (∃ f l' p', skN f l' p' = z ∧ l'.length ≤ f ∧ l'.length ≤ 65536 ∧ PB p' l' ∧ SB w sb l' p' ∧ T1 sb w w ∧ MLen w ∧ l' = l) := ⟨l.length, l, p, hz.symm, Nat.le_refl _, hl, hp, h, T1.bel (Below.refl _ _), hm, rfl⟩
  have HSb := hidS hs
  clear hz h hl hp hm hs
  go_enter Tryz.func17, Tryz.ntmps17
  go_wp2_with fail
  refine HG.out.mono ?_
  rintro e w1 ⟨rfl, hg⟩
  have HS1 : Hid (∃ f l' p', skN f l' p' = z ∧ l'.length ≤ f ∧ l'.length ≤ 65536 ∧ PB p' l' ∧ SB w1 sb l' p' ∧ T1 sb w w1 ∧ MLen w1 ∧ l' = l) := by
    obtain ⟨f, l', p', a1, a2, a3, a4, a5, a6, a7, a8⟩ := HS0.out
    exact ⟨f, l', p', a1, a2, a3, a4, a5.kept hg.below, T1.bel hg.below, a7.kept hg.below, a8⟩
  clear hg HS0 c0 HG
  go_wp2_with fail
  go_loopw [2] (fun x wr => ∃ (l' : List UInt8), x = .int .i64 ((gapL l' : Nat) : Int) ∧ Hid (∃ f p', skN f l' p' = z ∧ l'.length ≤ f ∧ l'.length ≤ 65536 ∧ PB p' l' ∧ SB wr sb l' p' ∧ T1 sb w wr ∧ MLen wr)) (fun _ wr => (match wr.cell? ⟨sb, 0, none⟩ with | some (.string s) => s.size | _ => 0))
  case atStart =>
    obtain ⟨f, l', p', a1, a2, a3, a4, a5, a6, a7, rfl⟩ := HS1.out
    exact ⟨l', rfl, f, p', a1, a2, a3, a4, a5, a6, a7⟩
  case round =>
    clear HS1
    obtain ⟨l', rfl, HI⟩ := hrel
    obtain ⟨g, hg⟩ : ∃ g, g = gapL l' := ⟨_, rfl⟩
    have HGl := hidS hg
    rw [← hg]
    by_cases h0 : g = 0
    · subst h0
      have HF : Hid (PassP w sb z.1 z.2 (.returned (.tuple #[])) wr) := by
        obtain ⟨f, p', a1, a2, a3, a4, a5, a6, a7⟩ := HI.out
        rw [skN_stop HGl.out.symm] at a1
        rw [← a1]
        exact ⟨rfl, a5, a6⟩
      clear HI hg
      go_wp2_with fail
      go_end0
      exact HF.out
    · have hgp : (0 : Int) < (g : Int) := by omega
      have HP : Hid (Calls Tryz.prog 20 #[.pointer (some ⟨sb, 0, none⟩), .int .i64 (g : Int)] wr fun e w' => e = .returned (.tuple #[]) ∧ w'.cell? ⟨sb, 0, none⟩ = some (.string (S (l'.drop g))) ∧ (l'.drop g).length ≤ 65536 ∧ (l'.drop g).length < l'.length ∧ wr.cell? ⟨sb, 0, none⟩ = some (.string (S l')) ∧ ∃ f p', skN f (l'.drop g) p' = z ∧ (l'.drop g).length ≤ f ∧ (l'.drop g).length ≤ 65536 ∧ PB p' (l'.drop g) ∧ SB w' sb (l'.drop g) p' ∧ T1 sb w w' ∧ MLen w') := by
        obtain ⟨f, p', a1, a2, a3, a4, a5, a6, a7⟩ := HI.out
        have hgl : g ≤ l'.length := by rw [hg]; exact gapL_le l'
        refine (pass_any wr sb l' p' g a5 hgl a3 ⟨by have := a4.1; omega, by have := a4.2; omega⟩).mono fun e w' ⟨b1, b2, b3⟩ => ?_
        obtain ⟨f', rfl⟩ : ∃ f', f = f' + 1 := ⟨f - 1, by omega⟩
        rw [skN_go (by rw [← hg]; exact h0), ← hg] at a1
        refine ⟨b1, b2.cells.1, by simp; omega, by simp; omega, a5.cells.1, f', _, a1, by simp; omega, by simp; omega, a4.next hgl, b2, a6.trans b3, b3.mlen a7 HSb.out⟩
      clear HI hg
      go_wp2_with fail
      refine HP.out.mono ?_
      rintro e w2 ⟨rfl, c2, hl2, hlt2, c3, hst⟩
      have HG2 := hidS (gap_any w2 (l'.drop g) hl2 (by obtain ⟨_, _, _, _, _, _, _, _, h7⟩ := hst; exact h7))
      have HST := hidS hst
      have HC3 := hidS c3
      have HL2 := hidS hlt2
      clear hst HP c3 hlt2 hl2
      go_wp2_with fail
      refine HG2.out.mono ?_
      rintro e w3 ⟨rfl, hg3⟩
      have HF : Hid (∃ f p', skN f (l'.drop g) p' = z ∧ (l'.drop g).length ≤ f ∧ (l'.drop g).length ≤ 65536 ∧ PB p' (l'.drop g) ∧ SB w3 sb (l'.drop g) p' ∧ T1 sb w w3 ∧ MLen w3) := by
        obtain ⟨f, p', a1, a2, a3, a4, a5, a6, a7⟩ := HST.out
        exact ⟨f, p', a1, a2, a3, a4, a5.kept hg3.below, a6.trans (T1.bel hg3.below), a7.kept hg3.below⟩
      have HC4 : Hid (w3.cell? ⟨sb, 0, none⟩ = some (.string (S (l'.drop g)))) := by
        obtain ⟨_, _, _, _, _, _, h5, _⟩ := HF.out
        exact h5.cells.1
      clear hg3 HG2 HST c2
      go_wp2_with fail
      go_roundw
      case rel => exact ⟨l'.drop g, rfl, HF⟩
      case measure =>
        rw [HC3.out, HC4.out]
        simp only [S_size]
        exact HL2.out
end Go.Proofs.YtlabofafmcbfmaaGreatDoor
