import Derived.Test.YtbmohlkcmhhpgaaGreatJBkShf
import Derived.Test.YtbmohlkcmhhpgaaGreatJBkVers
/-
  GROW: the walk.
-/
namespace Go.Proofs.YtbmohlkcmhhpgaaGreat
open Go.RowKit Go.Sort

theorem sl24_0 (u : World) (B : Nat) : (Instr.sliceAt 132 (.pointer (some ⟨B, 0, none⟩)) none none none).run Tryz.prog u = .ok (.slice (some ⟨B, 0, none⟩) 24 24) u := by
  have hl : Tryz.prog.arrayLen 132 = 24 := by kernel_rfl
  have he : Tryz.prog.elem 132 = 43 := by kernel_rfl
  have h := run_sliceAt_array_all (P := Tryz.prog) u 132 ⟨B, 0, none⟩ (by rw [hl, he]; exact Tryz.underlying132)
  rw [h, hl, he]
  obtain ⟨i0, hi, hz0, hz1, hz2⟩ := info_parts akKey.info
  simp [sizeOf, typeInfo, hi, slicedAt, addr_add]
theorem sl24_1 (u : World) (B : Nat) : (Instr.sliceAt 133 (.pointer (some ⟨B, 0, none⟩)) none none none).run Tryz.prog u = .ok (.slice (some ⟨B, 0, none⟩) 24 24) u := by
  have hl : Tryz.prog.arrayLen 133 = 24 := by kernel_rfl
  have he : Tryz.prog.elem 133 = 99 := by kernel_rfl
  have h := run_sliceAt_array_all (P := Tryz.prog) u 133 ⟨B, 0, none⟩ (by rw [hl, he]; exact Tryz.underlying133)
  rw [h, hl, he]
  obtain ⟨i0, hi, hz0, hz1, hz2⟩ := info_parts akPl.info
  simp [sizeOf, typeInfo, hi, slicedAt, addr_add]
theorem sl24_2 (u : World) (B : Nat) : (Instr.sliceAt 134 (.pointer (some ⟨B, 0, none⟩)) none none none).run Tryz.prog u = .ok (.slice (some ⟨B, 0, none⟩) 24 24) u := by
  have hl : Tryz.prog.arrayLen 134 = 24 := by kernel_rfl
  have he : Tryz.prog.elem 134 = 92 := by kernel_rfl
  have h := run_sliceAt_array_all (P := Tryz.prog) u 134 ⟨B, 0, none⟩ (by rw [hl, he]; exact Tryz.underlying134)
  rw [h, hl, he]
  obtain ⟨i0, hi, hz0, hz1, hz2⟩ := info_parts akPin.info
  simp [sizeOf, typeInfo, hi, slicedAt, addr_add]

theorem SHF.opn {W : World} {n0 Sb : Nat} {vs : Nat → Value} {ls : Nat → List (Value × List K)} (h : SHF W n0 Sb vs ls) {t : Nat} (ht : t < 3) : ∃ a n c, vs t = .slice a n c ∧ n = (ls t).length := by
  obtain ⟨_, ⟨e, h0⟩ | ⟨g, cp, cur, e, _⟩⟩ := h.row t ht
  · exact ⟨none, 0, 0, e, h0.symm⟩
  · exact ⟨_, _, _, e, rfl⟩
/-- a list of the shelf, wherever the world goes -/
theorem SHF.at2 {W : World} {n0 Sb : Nat} {vs : Nat → Value} {ls : Nat → List (Value × List K)} (h : SHF W n0 Sb vs ls) {t : Nat} (ht : t < 3) {i : Nat} (hi : i < (ls t).length) {a : Option Addr} {n c : Nat} (hv : vs t = .slice a n c) :
    ∃ rb ga gn gc, a = some ⟨rb, 0, none⟩ ∧ (ls t)[i].1 = .slice ga gn gc ∧ ∀ W', SHF W' n0 Sb vs ls → W'.cell? ⟨rb, i, none⟩ = some (.slice ga gn gc) := by
  obtain ⟨rb, rc, e, _⟩ := h.at ht hi
  obtain ⟨ga, gc, e2, _⟩ := h.lst ht hi
  rw [hv] at e
  simp only [Value.slice.injEq] at e
  refine ⟨rb, ga, _, gc, e.1, e2, fun W' h' => ?_⟩
  obtain ⟨rb', rc', e3, h3⟩ := h'.at ht hi
  rw [hv] at e3
  simp only [Value.slice.injEq] at e3
  have e4 := e.1.symm.trans e3.1
  simp only [Option.some.injEq, Addr.mk.injEq, and_true] at e4
  rw [← e2, e4]
  exact h3

set_option maxRecDepth 100000 in
set_option maxHeartbeats 4000000 in
theorem growS_any (w : World) (n0 Sb : Nat) (vs : Nat → Value) (ls : Nat → List (Value × List K)) (P : GP w n0 Sb vs ls) :
    Calls Tryz.prog 56 #[.pointer (some ⟨Sb, 0, none⟩)] w fun e w' => e = .returned (.tuple #[]) ∧ SHF w' n0 Sb vs ls ∧ Below n0 w w' ∧ LFr ls w w' := by
  have HP : Hid (GP w n0 Sb vs ls) := P
  obtain ⟨a0, m0, q0, e0, l0⟩ := P.sh.opn (t := 0) (by omega)
  obtain ⟨a1, m1, q1, e1, l1⟩ := P.sh.opn (t := 1) (by omega)
  obtain ⟨a2, m2, q2, e2, l2⟩ := P.sh.opn (t := 2) (by omega)
  have hn : m0 ≤ 1000000 ∧ m1 ≤ 1000000 ∧ m2 ≤ 1000000 := by
    rw [l0, l1, l2]
    exact ⟨(P.len 0 (by omega)).1, (P.len 1 (by omega)).1, (P.len 2 (by omega)).1⟩
  have HC : Hid (∀ W, SHF W n0 Sb vs ls → W.cell? ⟨Sb, 0, none⟩ = some (.slice a0 m0 q0) ∧ W.cell? ⟨Sb, 1, none⟩ = some (.slice a1 m1 q1) ∧ W.cell? ⟨Sb, 2, none⟩ = some (.slice a2 m2 q2)) := fun W hW => by
    rw [← e0, ← e1, ← e2]
    exact hW.cells
  have HE0 : Hid (vs 0 = .slice a0 m0 q0 ∧ m0 = (ls 0).length) := ⟨e0, l0⟩
  have HE1 : Hid (vs 1 = .slice a1 m1 q1 ∧ m1 = (ls 1).length) := ⟨e1, l1⟩
  have HE2 : Hid (vs 2 = .slice a2 m2 q2 ∧ m2 = (ls 2).length) := ⟨e2, l2⟩
  have HS : Hid (SHF w n0 Sb vs ls ∧ Below n0 w w ∧ LFr ls w w) := ⟨P.sh, Below.refl _ _, fun _ _ _ => rfl⟩
  clear P e0 e1 e2 l0 l1 l2
  go_enter Tryz.func56, Tryz.ntmps56
  go_wp2_with fail
  go_loopw [3] (fun x wr => ∃ i : Nat, i ≤ m0 ∧ x = .int .i64 (i : Int) ∧ Hid (GI w wr n0 Sb vs ls w.heap.size 132)) (fun x _ => m0 - (intOf x).toNat)
  case atStart => exact ⟨0, Nat.zero_le _, rfl, GI.start HP.out 132 HS.out.1 HS.out.2.1 HS.out.2.2⟩
  case round =>
    clear HS
    obtain ⟨i, hi, rfl, HI⟩ := hrel
    obtain ⟨c0, c1, c2⟩ := HC.out wr HI.out.sh
    by_cases hlt : i < m0
    · have hil : i < (ls 0).length := by have := HE0.out.2; omega
      obtain ⟨rb, ga, gn, gc, hra, hgv, hce⟩ := HI.out.sh.at2 (t := 0) (by omega) hil HE0.out.1
      have HGv : Hid (∃ hi : i < (ls 0).length, (ls 0)[i].1 = .slice ga gn gc) := ⟨hil, hgv⟩
      have HCe := hidC hce
      have ce := hce wr HI.out.sh
      clear hce hgv hil
      subst hra
      have hlt' : (i : Int) < (m0 : Int) := by omega
      generalize w.heap.size = mb at *
      go_wp2_with fail
      clear c0 c1 c2 ce
      go_loopw [4, 5] (fun gv x wi => ∃ k : Nat, k ≤ 24 ∧ x = .int .i64 (k : Int) ∧ (∃ ga gn gc, gv = .slice ga gn gc) ∧ Hid (GJ w wi n0 Sb vs ls mb 132 0 i gv k)) (fun _ x _ => 24 - (intOf x).toNat)
      case atStart =>
        refine ⟨0, by omega, rfl, ⟨_, _, _, rfl⟩, ?_⟩
        obtain ⟨hil, hgv⟩ := HGv.out
        rw [← hgv]
        exact GJ.start HP.out HI.out (by omega) hil
      case round =>
        clear HI
        generalize wr = wi at *
        obtain ⟨k, hk, rfl, ⟨xa, xn, xc, rfl⟩, HG⟩ := hrel
        by_cases hlt2 : k < 24
        · have hlt3 : (k : Int) < 24 := by omega
          go_wp2_with (at_builtin; refine wpL_appB rfl _ _ 51 rfl (.slice xa xn xc) (.slice (some ⟨wi.heap.size, 0, none⟩) 1 1) rfl rfl (fun ty => GJ.more HP.out HG.out (by omega) hlt2 (by decide) 51 43 rfl ty) ?_; rintro v' w3 ⟨⟨ya, yn, yc, rfl⟩, hg⟩; replace hg := hidC hg)
          exact ⟨⟨k + 1, by omega, by go_num, ⟨_, _, _, rfl⟩, hg⟩, by simp [intOf]; omega⟩
        · obtain rfl : k = 24 := by omega
          rw [show ((24 : Nat) : Int) = 24 from rfl]
          have hi2 : GI w wi n0 Sb vs ls mb 132 := HG.out.2.2
          obtain ⟨c0, c1, c2⟩ := HC.out wi hi2.sh
          have ce := HCe.out wi hi2.sh
          obtain ⟨hil, hgv⟩ := HGv.out
          obtain ⟨v', w3, y1, ⟨ya, yn, yc, rfl⟩, hz⟩ := GI.last HP.out hi2 (t := 0) (by omega) hil (by decide) 51 rfl (.slice ga gn gc) hgv 51
          have HZ := hidC hz
          have hsl := fun u => sl24_0 u mb
          have d0 : wi.drew.cell? ⟨Sb, 0, none⟩ = _ := c0
          have d1 : wi.drew.cell? ⟨rb, i, none⟩ = _ := ce
          clear hz hgv hil hi2 HG
          simp [go_sem] at y1
          go_wp2_with fail
          go_region
          clear y1 hsl
          go_wp2
          exact ⟨⟨i + 1, by omega, by go_num, HZ⟩, by simp [intOf]; omega⟩
    · obtain rfl : i = m0 := by omega
      clear hlt
      have HS : Hid (SHF wr n0 Sb vs ls ∧ Below n0 w wr ∧ LFr ls w wr) := ⟨HI.out.sh, HI.out.be, HI.out.lf⟩
      clear HI
      go_wp2_with fail
      clear c0 c1 c2
      generalize wr = wx1 at *
      go_loopw [7] (fun x wr => ∃ i : Nat, i ≤ m1 ∧ x = .int .i64 (i : Int) ∧ Hid (GI w wr n0 Sb vs ls wx1.heap.size 133)) (fun x _ => m1 - (intOf x).toNat)
      case atStart => exact ⟨0, Nat.zero_le _, rfl, GI.start HP.out 133 HS.out.1 HS.out.2.1 HS.out.2.2⟩
      case round =>
        clear HS
        obtain ⟨i, hi, rfl, HI⟩ := hrel
        obtain ⟨c0, c1, c2⟩ := HC.out wr HI.out.sh
        by_cases hlt : i < m1
        · have hil : i < (ls 1).length := by have := HE1.out.2; omega
          obtain ⟨rb, ga, gn, gc, hra, hgv, hce⟩ := HI.out.sh.at2 (t := 1) (by omega) hil HE1.out.1
          have HGv : Hid (∃ hi : i < (ls 1).length, (ls 1)[i].1 = .slice ga gn gc) := ⟨hil, hgv⟩
          have HCe := hidC hce
          have ce := hce wr HI.out.sh
          clear hce hgv hil
          subst hra
          have hlt' : (i : Int) < (m1 : Int) := by omega
          generalize wx1.heap.size = mb at *
          go_wp2_with fail
          clear c0 c1 c2 ce
          go_loopw [8, 9] (fun gv x wi => ∃ k : Nat, k ≤ 24 ∧ x = .int .i64 (k : Int) ∧ (∃ ga gn gc, gv = .slice ga gn gc) ∧ Hid (GJ w wi n0 Sb vs ls mb 133 1 i gv k)) (fun _ x _ => 24 - (intOf x).toNat)
          case atStart =>
            refine ⟨0, by omega, rfl, ⟨_, _, _, rfl⟩, ?_⟩
            obtain ⟨hil, hgv⟩ := HGv.out
            rw [← hgv]
            exact GJ.start HP.out HI.out (by omega) hil
          case round =>
            clear HI
            generalize wr = wi at *
            obtain ⟨k, hk, rfl, ⟨xa, xn, xc, rfl⟩, HG⟩ := hrel
            by_cases hlt2 : k < 24
            · have hlt3 : (k : Int) < 24 := by omega
              go_wp2_with (at_builtin; refine wpL_appB rfl _ _ 78 rfl (.slice xa xn xc) (.slice (some ⟨wi.heap.size, 0, none⟩) 1 1) rfl rfl (fun ty => GJ.more HP.out HG.out (by omega) hlt2 (by decide) 78 99 rfl ty) ?_; rintro v' w3 ⟨⟨ya, yn, yc, rfl⟩, hg⟩; replace hg := hidC hg)
              exact ⟨⟨k + 1, by omega, by go_num, ⟨_, _, _, rfl⟩, hg⟩, by simp [intOf]; omega⟩
            · obtain rfl : k = 24 := by omega
              rw [show ((24 : Nat) : Int) = 24 from rfl]
              have hi2 : GI w wi n0 Sb vs ls mb 133 := HG.out.2.2
              obtain ⟨c0, c1, c2⟩ := HC.out wi hi2.sh
              have ce := HCe.out wi hi2.sh
              obtain ⟨hil, hgv⟩ := HGv.out
              obtain ⟨v', w3, y1, ⟨ya, yn, yc, rfl⟩, hz⟩ := GI.last HP.out hi2 (t := 1) (by omega) hil (by decide) 78 rfl (.slice ga gn gc) hgv 78
              have HZ := hidC hz
              have hsl := fun u => sl24_1 u mb
              have d0 : wi.drew.cell? ⟨Sb, 1, none⟩ = _ := c1
              have d1 : wi.drew.cell? ⟨rb, i, none⟩ = _ := ce
              clear hz hgv hil hi2 HG
              simp [go_sem] at y1
              go_wp2_with fail
              go_region
              clear y1 hsl
              go_wp2
              exact ⟨⟨i + 1, by omega, by go_num, HZ⟩, by simp [intOf]; omega⟩
        · obtain rfl : i = m1 := by omega
          clear hlt
          have HS : Hid (SHF wr n0 Sb vs ls ∧ Below n0 w wr ∧ LFr ls w wr) := ⟨HI.out.sh, HI.out.be, HI.out.lf⟩
          clear HI
          go_wp2_with fail
          clear c0 c1 c2
          generalize wr = wx2 at *
          go_loopw [11] (fun x wr => ∃ i : Nat, i ≤ m2 ∧ x = .int .i64 (i : Int) ∧ Hid (GI w wr n0 Sb vs ls wx2.heap.size 134)) (fun x _ => m2 - (intOf x).toNat)
          case atStart => exact ⟨0, Nat.zero_le _, rfl, GI.start HP.out 134 HS.out.1 HS.out.2.1 HS.out.2.2⟩
          case round =>
            clear HS
            obtain ⟨i, hi, rfl, HI⟩ := hrel
            obtain ⟨c0, c1, c2⟩ := HC.out wr HI.out.sh
            by_cases hlt : i < m2
            · have hil : i < (ls 2).length := by have := HE2.out.2; omega
              obtain ⟨rb, ga, gn, gc, hra, hgv, hce⟩ := HI.out.sh.at2 (t := 2) (by omega) hil HE2.out.1
              have HGv : Hid (∃ hi : i < (ls 2).length, (ls 2)[i].1 = .slice ga gn gc) := ⟨hil, hgv⟩
              have HCe := hidC hce
              have ce := hce wr HI.out.sh
              clear hce hgv hil
              subst hra
              have hlt' : (i : Int) < (m2 : Int) := by omega
              generalize wx2.heap.size = mb at *
              go_wp2_with fail
              clear c0 c1 c2 ce
              go_loopw [12, 13] (fun gv x wi => ∃ k : Nat, k ≤ 24 ∧ x = .int .i64 (k : Int) ∧ (∃ ga gn gc, gv = .slice ga gn gc) ∧ Hid (GJ w wi n0 Sb vs ls mb 134 2 i gv k)) (fun _ x _ => 24 - (intOf x).toNat)
              case atStart =>
                refine ⟨0, by omega, rfl, ⟨_, _, _, rfl⟩, ?_⟩
                obtain ⟨hil, hgv⟩ := HGv.out
                rw [← hgv]
                exact GJ.start HP.out HI.out (by omega) hil
              case round =>
                clear HI
                generalize wr = wi at *
                obtain ⟨k, hk, rfl, ⟨xa, xn, xc, rfl⟩, HG⟩ := hrel
                by_cases hlt2 : k < 24
                · have hlt3 : (k : Int) < 24 := by omega
                  go_wp2_with (at_builtin; refine wpL_appB rfl _ _ 22 rfl (.slice xa xn xc) (.slice (some ⟨wi.heap.size, 0, none⟩) 1 1) rfl rfl (fun ty => GJ.more HP.out HG.out (by omega) hlt2 (by decide) 22 92 rfl ty) ?_; rintro v' w3 ⟨⟨ya, yn, yc, rfl⟩, hg⟩; replace hg := hidC hg)
                  exact ⟨⟨k + 1, by omega, by go_num, ⟨_, _, _, rfl⟩, hg⟩, by simp [intOf]; omega⟩
                · obtain rfl : k = 24 := by omega
                  rw [show ((24 : Nat) : Int) = 24 from rfl]
                  have hi2 : GI w wi n0 Sb vs ls mb 134 := HG.out.2.2
                  obtain ⟨c0, c1, c2⟩ := HC.out wi hi2.sh
                  have ce := HCe.out wi hi2.sh
                  obtain ⟨hil, hgv⟩ := HGv.out
                  obtain ⟨v', w3, y1, ⟨ya, yn, yc, rfl⟩, hz⟩ := GI.last HP.out hi2 (t := 2) (by omega) hil (by decide) 22 rfl (.slice ga gn gc) hgv 22
                  have HZ := hidC hz
                  have hsl := fun u => sl24_2 u mb
                  have d0 : wi.drew.cell? ⟨Sb, 2, none⟩ = _ := c2
                  have d1 : wi.drew.cell? ⟨rb, i, none⟩ = _ := ce
                  clear hz hgv hil hi2 HG
                  simp [go_sem] at y1
                  go_wp2_with fail
                  go_region
                  clear y1 hsl
                  go_wp2
                  exact ⟨⟨i + 1, by omega, by go_num, HZ⟩, by simp [intOf]; omega⟩
            · obtain rfl : i = m2 := by omega
              clear hlt
              have HS : Hid (SHF wr n0 Sb vs ls ∧ Below n0 w wr ∧ LFr ls w wr) := ⟨HI.out.sh, HI.out.be, HI.out.lf⟩
              clear HI
              go_wp2
              go_end0
              exact ⟨rfl, HS.out.1, HS.out.2.1, HS.out.2.2⟩
end Go.Proofs.YtbmohlkcmhhpgaaGreat
