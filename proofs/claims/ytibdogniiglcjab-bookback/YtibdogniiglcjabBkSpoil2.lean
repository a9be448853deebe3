/-
  spoil, the walk.
-/
import Derived.Test.YtibdogniiglcjabBkSpoil
namespace Go.Proofs.Ytibdogniiglcjab
open Go.RowKit Go.Sort

theorem Shp.typ {n0 n1 : Nat} {w : World} {ao : Option Addr} {n : Nat} {T : TypeId} {sz : Nat} (h : Shp n0 n1 w ao n T sz) {i g : Nat} (hi : i < n) (hg : ao = some ⟨g, 0, none⟩) : ∃ cur, w.heap[g]? = some (.cells cur T (0, 0)) := by
  rcases h with h | ⟨g', cur, h1, h2, _⟩
  · omega
  · rw [hg] at h1; cases h1; exact ⟨cur, h2⟩
theorem Rest.set {w : World} {s : Sn} {i g j : Nat} {v : Value} (h : Rest w s i) (hne : ∀ gc, s.ca = some ⟨gc, 0, none⟩ → gc ≠ g) : Rest (w.setCell ⟨g, j, none⟩ v) s i := fun k hk hik => by
  obtain ⟨gc, h1, h2⟩ := h k hk hik
  refine ⟨gc, h1, ?_⟩
  have h3 : (w.setCell ⟨g, j, none⟩ v).heap[gc]? = w.heap[gc]? := heap_setCell_other _ _ _ _ (fun e => hne gc h1 e)
  unfold World.cell? at h2 ⊢
  simp only at h2 ⊢
  rw [h3]
  exact h2
theorem cell_set_ne {w : World} {g j m : Nat} {cur : Array Value} {T : TypeId} {v : Value} (h : w.heap[g]? = some (.cells cur T (0, 0))) (hm : m ≠ j) : (w.setCell ⟨g, j, none⟩ v).cell? ⟨g, m, none⟩ = w.cell? ⟨g, m, none⟩ := by
  have h1 := heap_setCell_same w g j _ _ v h
  simp only [World.cell?, h1, h]
  rw [Array.getElem?_setIfInBounds_ne (fun e => hm e.symm)]
theorem Rest.setC {w : World} {s : Sn} {i gc j : Nat} {v : Value} {cur : Array Value} {T : TypeId} (h : Rest w s (i + 1)) (hty : w.heap[gc]? = some (.cells cur T (0, 0))) (hj : j < (i + 1) * 3) : Rest (w.setCell ⟨gc, j, none⟩ v) s (i + 1) := fun k hk hik => by
  obtain ⟨g, h1, h2⟩ := h k hk hik
  refine ⟨g, h1, ?_⟩
  have hkj : (i + 1) * 3 ≤ k * 3 := Nat.mul_le_mul_right 3 hik
  by_cases e : g = gc
  · subst e
    rw [cell_set_ne hty (by omega)]
    exact h2
  · have h3 : (w.setCell ⟨gc, j, none⟩ v).heap[g]? = w.heap[g]? := heap_setCell_other _ _ _ _ (fun e' => e e')
    unfold World.cell? at h2 ⊢
    simp only at h2 ⊢
    rw [h3]
    exact h2
set_option maxRecDepth 100000 in
set_option maxHeartbeats 4000000 in
theorem spoil_any (n0 n1 : Nat) (w : World) (s : Sn) (h : SnSh n0 n1 w s) (hr : Rest w s 0) (hn : n1 ≤ w.heap.size) (ho : SnOK s) :
    Calls Try.prog 41 #[snv s] w fun e w' => SpPost n0 n1 w e w' := by
  obtain ⟨pn, hpn⟩ : ∃ pn, pn = s.pins.length := ⟨_, rfl⟩
  obtain ⟨cn, hcn⟩ : ∃ cn, cn = s.chs.length := ⟨_, rfl⟩
  obtain ⟨pa, hpa⟩ : ∃ pa, pa = s.pa := ⟨_, rfl⟩
  obtain ⟨ca, hca⟩ : ∃ ca, ca = s.ca := ⟨_, rfl⟩
  obtain ⟨pc, hpc⟩ : ∃ pc, pc = s.pc := ⟨_, rfl⟩
  obtain ⟨cc, hcc⟩ : ∃ cc, cc = s.cc := ⟨_, rfl⟩
  obtain ⟨la, hla⟩ : ∃ la, la = s.la := ⟨_, rfl⟩
  have hnp := ho.np
  have hnc := ho.nc
  have hsv : snv s = .agg #[.int .i64 la, .slice pa pn pc, .slice ca cn cc] := by rw [hla, hpa, hpn, hpc, hca, hcn, hcc]; rfl
  rw [← hpn] at hnp
  rw [← hcn] at hnc
  obtain ⟨W1, hW1⟩ : ∃ W1, W1 = w.alloc (.cells #[.int .i64 la, .slice pa pn pc, .slice ca cn cc] 27) := ⟨_, rfl⟩
  obtain ⟨Kb, hKb⟩ : ∃ Kb, Kb = w.heap.size := ⟨_, rfl⟩
  have HB : Hid (Below w.heap.size w W1 ∧ W1.heap[Kb]? = some (.cells #[.int .i64 la, .slice pa pn pc, .slice ca cn cc] 27 (0, 0)) ∧ n1 ≤ Kb) := by
    rw [hW1, hKb]
    exact ⟨(Below.refl _ _).alloc (Nat.le_refl _) _, heap_alloc_new _ _ rfl, hn⟩
  have HK : Hid (∀ W, Spl n0 n1 W1 W → W.cell? ⟨Kb, 1, none⟩ = some (.slice pa pn pc) ∧ W.cell? ⟨Kb, 2, none⟩ = some (.slice ca cn cc)) := fun W hW => by
    have h4 : W.heap[Kb]? = _ := (hW.fr.block _ (blk_lt HB.out.2.1) (fun e => by have := HB.out.2.2; omega)).trans HB.out.2.1
    refine ⟨?_, ?_⟩ <;> simp [World.cell?, h4]
  have H1 : Hid (SnSh n0 n1 W1 s ∧ Rest W1 s 0) := by
    refine ⟨h.below (HB.out.1.mono hn), fun k hk _ => ?_⟩
    obtain ⟨g, e1, e2⟩ := hr k hk (Nat.zero_le _)
    refine ⟨g, e1, (HB.out.1.cell (p := ⟨g, k * 3 + 2, none⟩) ?_).trans e2⟩
    exact World.block_lt_of_cell? _ _ e2
  have HE := hidC (And.intro hpn (And.intro hcn (And.intro hpa hca)))
  have HNv := hidC ho.nv
  have HF : Hid (∀ W, Spl n0 n1 W1 W → Spl n0 n1 w W) := fun W hW => ⟨(Fr.ofBelow HB.out.1).trans hW.fr⟩
  rw [hsv]
  clear h hr hpn hcn hpa hca hpc hcc hla ho hsv
  go_enter Try.func41, Try.ntmps41
  go_wp2_with fail
  rw [← hW1, ← hKb]
  clear hW1 hKb
  go_loopw [2] (fun y wr => ∃ i : Nat, i ≤ pn ∧ y = .int .i64 (i : Int) ∧ Hid (Spl n0 n1 W1 wr ∧ SnSh n0 n1 wr s ∧ Rest wr s 0)) (fun y _ => pn - (intOf y).toNat)
  case atStart => exact ⟨0, Nat.zero_le _, rfl, Spl.refl _ _ _, H1.out⟩
  case round =>
    obtain ⟨i, hi, rfl, HI⟩ := hrel
    obtain ⟨k1, k2⟩ := HK.out wr HI.out.1
    by_cases hlt : i < pn
    · have hil : i < s.pins.length := by have := HE.out.1; omega
      obtain ⟨g, hga, hgn, hgc⟩ := HI.out.2.1.ps.at hil
      obtain ⟨⟨u0, d0⟩, f0⟩ := hgc 0 (by omega)
      obtain ⟨⟨u1, d1⟩, f1⟩ := hgc 1 (by omega)
      rw [Nat.add_zero] at d0 f0
      obtain ⟨cur, hty⟩ := HI.out.2.1.ps.typ hil hga
      have HN : Hid (∀ v1 v2, Spl n0 n1 W1 ((wr.setCell ⟨g, i * 2, none⟩ v1).setCell ⟨g, i * 2 + 1, none⟩ v2) ∧ SnSh n0 n1 ((wr.setCell ⟨g, i * 2, none⟩ v1).setCell ⟨g, i * 2 + 1, none⟩ v2) s ∧ Rest ((wr.setCell ⟨g, i * 2, none⟩ v1).setCell ⟨g, i * 2 + 1, none⟩ v2) s 0) := fun v1 v2 => by
        refine ⟨(HI.out.1.set g _ _ hgn).set g _ _ hgn, (HI.out.2.1.set g _ _).set g _ _, ?_⟩
        by_cases hc0 : s.chs.length = 0
        · intro k hk; omega
        · have hne : ∀ gc, s.ca = some ⟨gc, 0, none⟩ → gc ≠ g := fun gc hgc e => by
            obtain ⟨cur', hc'⟩ := HI.out.2.1.cs.typ (i := 0) (by omega) hgc
            rw [e, hty] at hc'
            cases hc'
          exact (HI.out.2.2.set hne).set hne
      rw [← HE.out.2.2.1] at hga
      subst hga
      clear HI hgc hty
      go_wp2
      exact ⟨⟨i + 1, by omega, by go_num, HN.out _ _⟩, by simp [intOf]; omega⟩
    · have H2 := hidC HI.out
      clear HI H1
      generalize wr = W2 at *
      go_wp2_with fail
      clear k1 k2
      go_loopw [3, 4] (fun y _ wr => ∃ i : Nat, i ≤ cn ∧ y = .int .i64 (i : Int) ∧ Hid (Spl n0 n1 W1 wr ∧ SnSh n0 n1 wr s ∧ Rest wr s i)) (fun y _ _ => cn - (intOf y).toNat)
      case atStart => exact ⟨0, Nat.zero_le _, rfl, H2.out⟩
      case round =>
        clear H2
        rename_i hlt0 _ _ _ _
        obtain ⟨i2, hi2, rfl, HI⟩ := hrel
        obtain ⟨k1, k2⟩ := HK.out wr HI.out.1
        by_cases hlt2 : i2 < cn
        · have hil : i2 < s.chs.length := by have := HE.out.2.1; omega
          obtain ⟨gc, hgc, hsl⟩ := HI.out.2.2 i2 hil (Nat.le_refl _)
          have hsn := HNv.out _ (List.getElem_mem hil)
          have hmem := List.getElem_mem hil
          have HSt : Hid (∀ W, SnSh n0 n1 W s → Shp n0 n1 W s.chs[i2].a s.chs[i2].l.length 112 4) := fun W hW => hW.vs _ hmem
          have HI0 : Hid (Spl n0 n1 W1 wr ∧ SnSh n0 n1 wr s ∧ Rest wr s i2) := HI.out
          have HRs : Hid (∀ W, Rest W s i2 → W.cell? ⟨gc, i2 * 3 + 2, none⟩ = some (.slice s.chs[i2].a s.chs[i2].l.length s.chs[i2].c)) := fun W hW => by
            obtain ⟨g', e1, e2⟩ := hW i2 hil (Nat.le_refl _)
            rw [hgc] at e1
            cases e1
            exact e2
          have HGc : Hid (s.ca = some ⟨gc, 0, none⟩) := hgc
          have HIl := hidC hil
          rw [← HE.out.2.2.2] at hgc
          subst hgc
          clear HI hmem
          generalize s.chs[i2].a = sa at *
          generalize s.chs[i2].l.length = sn at *
          generalize s.chs[i2].c = sc at *
          go_wp2_with fail
          clear k1 k2 hsl
          go_loopw [4] (fun y wr => ∃ j : Nat, j ≤ sn ∧ y = .int .i64 (j : Int) ∧ Hid (Spl n0 n1 W1 wr ∧ SnSh n0 n1 wr s ∧ Rest wr s i2)) (fun y _ => sn - (intOf y).toNat)
          case atStart => exact ⟨0, Nat.zero_le _, rfl, HI0.out⟩
          case round =>
            clear HI0
            obtain ⟨j, hj, rfl, HJ⟩ := hrel
            obtain ⟨k1, k2⟩ := HK.out wr HJ.out.1
            have hsl := HRs.out wr HJ.out.2.2
            by_cases hjlt : j < sn
            · obtain ⟨g, hga, hgn, hgcc⟩ := (HSt.out wr HJ.out.2.1).at hjlt
              obtain ⟨⟨u0, d0⟩, f0⟩ := hgcc 0 (by omega)
              obtain ⟨⟨u1, d1⟩, f1⟩ := hgcc 1 (by omega)
              obtain ⟨⟨u2, d2⟩, f2⟩ := hgcc 2 (by omega)
              obtain ⟨⟨u3, d3⟩, f3⟩ := hgcc 3 (by omega)
              rw [Nat.add_zero] at d0 f0
              obtain ⟨cur, hty⟩ := (HSt.out wr HJ.out.2.1).typ hjlt hga
              have HN : Hid (∀ v1 v2 v3 v4, Spl n0 n1 W1 ((((wr.setCell ⟨g, j * 4, none⟩ v1).setCell ⟨g, j * 4 + 1, none⟩ v2).setCell ⟨g, j * 4 + 2, none⟩ v3).setCell ⟨g, j * 4 + 3, none⟩ v4) ∧ SnSh n0 n1 ((((wr.setCell ⟨g, j * 4, none⟩ v1).setCell ⟨g, j * 4 + 1, none⟩ v2).setCell ⟨g, j * 4 + 2, none⟩ v3).setCell ⟨g, j * 4 + 3, none⟩ v4) s ∧ Rest ((((wr.setCell ⟨g, j * 4, none⟩ v1).setCell ⟨g, j * 4 + 1, none⟩ v2).setCell ⟨g, j * 4 + 2, none⟩ v3).setCell ⟨g, j * 4 + 3, none⟩ v4) s i2) := fun v1 v2 v3 v4 => by
                refine ⟨(((HJ.out.1.set g _ _ hgn).set g _ _ hgn).set g _ _ hgn).set g _ _ hgn, (((HJ.out.2.1.set g _ _).set g _ _).set g _ _).set g _ _, ?_⟩
                have hne : ∀ gc', s.ca = some ⟨gc', 0, none⟩ → gc' ≠ g := fun gc' hgc' e => by
                  obtain ⟨cur', hc'⟩ := HJ.out.2.1.cs.typ (i := i2) HIl.out hgc'
                  rw [e, hty] at hc'
                  cases hc'
                exact (((HJ.out.2.2.set hne).set hne).set hne).set hne
              subst hga
              clear HJ hgcc hty
              go_wp2
              exact ⟨⟨j + 1, by omega, by go_num, HN.out _ _ _ _⟩, by simp [intOf]; omega⟩
            · obtain ⟨g, hga, hgn, hgcc⟩ := HJ.out.2.1.cs.at HIl.out
              rw [HGc.out] at hga
              cases hga
              obtain ⟨⟨u0, d0⟩, f0⟩ := hgcc 0 (by omega)
              obtain ⟨⟨u1, d1⟩, f1⟩ := hgcc 1 (by omega)
              have f2 := (hgcc 2 (by omega)).2
              rw [Nat.add_zero] at d0 f0
              obtain ⟨cur, hty⟩ := HJ.out.2.1.cs.typ HIl.out HGc.out
              have HN : Hid (∀ v1 v2 v3, Spl n0 n1 W1 (((wr.setCell ⟨gc, i2 * 3, none⟩ v1).setCell ⟨gc, i2 * 3 + 1, none⟩ v2).setCell ⟨gc, i2 * 3 + 2, none⟩ v3) ∧ SnSh n0 n1 (((wr.setCell ⟨gc, i2 * 3, none⟩ v1).setCell ⟨gc, i2 * 3 + 1, none⟩ v2).setCell ⟨gc, i2 * 3 + 2, none⟩ v3) s ∧ Rest (((wr.setCell ⟨gc, i2 * 3, none⟩ v1).setCell ⟨gc, i2 * 3 + 1, none⟩ v2).setCell ⟨gc, i2 * 3 + 2, none⟩ v3) s (i2 + 1)) := fun v1 v2 v3 => by
                refine ⟨((HJ.out.1.set gc _ _ hgn).set gc _ _ hgn).set gc _ _ hgn, ((HJ.out.2.1.set gc _ _).set gc _ _).set gc _ _, ?_⟩
                have h0 : Rest wr s (i2 + 1) := fun k hk hik => HJ.out.2.2 k hk (by omega)
                have t1 := heap_setCell_same wr gc (i2 * 3) _ _ v1 hty
                have t2 := heap_setCell_same _ gc (i2 * 3 + 1) _ _ v2 t1
                exact ((h0.setC hty (by omega)).setC t1 (by omega)).setC t2 (by omega)
              clear HJ hgcc hty
              go_wp2
              exact ⟨⟨i2 + 1, by omega, by go_num, HN.out _ _ _⟩, by simp [intOf]; omega⟩
        · have HX : Hid (SpPost n0 n1 w (.returned (.tuple #[])) wr) := ⟨⟨_, rfl⟩, HF.out _ HI.out.1⟩
          clear HI
          go_wp2
          go_end0
          exact HX.out
end Go.Proofs.Ytibdogniiglcjab
