import Derived.Test.YtlilaicgmdbhcaaJ25
/-
  THE SHELF WITH LISTS OF BYTES ALONE.
-/
namespace Go.Proofs.Ytlilaicgmdbhcaa.Kk
open Go.RowKit Go.Sort

theorem elY : El 25 5 (.int .u8 0) 1 1 := ⟨Try.underlying25, by kernel_rfl, rfl, by decide, by decide⟩
def patY (i : Nat) : List Value := [.int .u8 ((i : Int) + 1)]
structure SY (w0 W : World) (B hd : Nat) (Ys : List It) : Prop where
  bx : W.heap[B]? = some (.cells #[.slice none 0 0, .slice none 0 0, .slice none 0 0, .slice none 0 0, .slice (some ⟨hd, 0, none⟩) Ys.length Ys.length] 41 (0, 0))
  hx : W.heap[hd]? = some (.cells (Ys.map itv).toArray 25 (0, 0))
  rY : ∀ x ∈ Ys, Rw W 5 1 w0.heap.size hd x
  sY : Rs Ys
  lY : ∀ x ∈ Ys, x.2 ≤ 100000
  n : Ys.length ≤ 2
  bel : Below w0.heap.size w0 W
  ge : w0.heap.size ≤ hd ∧ hd < B
section
variable {w0 W W' : World} {B hd : Nat} {Ys : List It}
theorem SY.lt (h : SY w0 W B hd Ys) : B < W.heap.size := (Array.getElem?_eq_some_iff.1 h.bx).1
theorem SY.kept (h : SY w0 W B hd Ys) (hb : Below W.heap.size W W') : SY w0 W' B hd Ys :=
  have hB := h.lt
  have hg := h.ge
  ⟨(hb.block _ h.lt).trans h.bx, (hb.block _ (by omega)).trans h.hx, fun x hx => (h.rY x hx).below hb (by omega), h.sY, h.lY, h.n, h.bel.trans (hb.mono h.bel.size), h.ge⟩
theorem SY.cells (h : SY w0 W B hd Ys) : W.cell? ⟨B, 0, none⟩ = some (.slice none 0 0) ∧ W.cell? ⟨B, 1, none⟩ = some (.slice none 0 0) ∧ W.cell? ⟨B, 2, none⟩ = some (.slice none 0 0) ∧ W.cell? ⟨B, 3, none⟩ = some (.slice none 0 0) ∧ W.cell? ⟨B, 4, none⟩ = some (.slice (some ⟨hd, 0, none⟩) Ys.length Ys.length) := by
  refine ⟨?_, ?_, ?_, ?_, ?_⟩ <;> simp [World.cell?, h.bx]
theorem SY.el (h : SY w0 W B hd Ys) (i : Nat) (hi : i < Ys.length) : W.cell? ⟨hd, i, none⟩ = some (itv Ys[i]) := by
  simp only [World.cell?, h.hx]
  simp [hi]
theorem SY.set (h : SY w0 W B hd Ys) (g j : Nat) (v : Value) (h1 : w0.heap.size ≤ g) (h2 : g < hd) : SY w0 (W.setCell ⟨g, j, none⟩ v) B hd Ys := by
  have hg := h.ge
  have hs : ∀ k, hd ≤ k → (W.setCell ⟨g, j, none⟩ v).heap[k]? = W.heap[k]? := fun k hk => heap_setCell_other W ⟨g, j, none⟩ k v (by show k ≠ g; omega)
  exact ⟨(hs B (by omega)).trans h.bx, (hs hd (Nat.le_refl _)).trans h.hx, fun x hx => (h.rY x hx).set _ _ _, h.sY, h.lY, h.n, bset h.bel _ h1, h.ge⟩
end

set_option maxRecDepth 100000 in
set_option maxHeartbeats 4000000 in
theorem fillY_any (w0 w : World) (B hd : Nat) (Ys : List It) (nY : Nat) (hY : nY = Ys.length) (h : SY w0 w B hd Ys) :
    Calls Try.prog 39 #[.pointer (some ⟨B, 0, none⟩)] w fun e w' => e = .returned (.tuple #[]) ∧ SY w0 w' B hd Ys ∧ Up w' 1 patY Ys Ys.length := by
  have HQ : Hid (SY w0 w B hd Ys) := h
  have HL : Hid (nY = Ys.length) := hY
  have hn : nY ≤ 2 := by have := h.n; omega
  have HC : Hid (∀ W, SY w0 W B hd Ys → W.cell? ⟨B, 0, none⟩ = some (.slice none 0 0) ∧ W.cell? ⟨B, 1, none⟩ = some (.slice none 0 0) ∧ W.cell? ⟨B, 2, none⟩ = some (.slice none 0 0) ∧ W.cell? ⟨B, 3, none⟩ = some (.slice none 0 0) ∧ W.cell? ⟨B, 4, none⟩ = some (.slice (some ⟨hd, 0, none⟩) nY nY)) := fun W hW => by rw [hY]; exact hW.cells
  clear h hY
  go_enter Try.func39, Try.ntmps39
  go_wp2_with fail
  go_loopw [2] (fun x wr => x = .int .i64 0 ∧ Hid (SY w0 wr B hd Ys)) (fun _ _ => 0)
  case atStart => exact ⟨rfl, HQ⟩
  case round =>
    clear HQ
    obtain ⟨rfl, HQ⟩ := hrel
    obtain ⟨c0, c1, c2, c3, c4⟩ := HC.out wr HQ.out
    go_wp2_with fail
    clear c0 c1 c2 c3 c4
    generalize wr = wy at *
    go_loopw [4] (fun x wr => x = .int .i64 0 ∧ Hid (SY w0 wr B hd Ys)) (fun _ _ => 0)
    case atStart => exact ⟨rfl, HQ⟩
    case round =>
      clear HQ
      obtain ⟨rfl, HQ⟩ := hrel
      obtain ⟨c0, c1, c2, c3, c4⟩ := HC.out wr HQ.out
      go_wp2_with fail
      clear c0 c1 c2 c3 c4
      generalize wr = wy at *
      go_loopw [6] (fun x wr => ∃ i : Nat, i ≤ nY ∧ x = .int .i64 (i : Int) ∧ Hid (SY w0 wr B hd Ys) ∧ Hid (Up wr 1 patY Ys i)) (fun x _ => nY - (intOf x).toNat)
      case atStart => exact ⟨0, Nat.zero_le _, rfl, HQ, Up.zero _ _ _ _⟩
      case round =>
        clear HQ
        obtain ⟨i, hi, rfl, HS, HU⟩ := hrel
        obtain ⟨c0, c1, c2, c3, c4⟩ := HC.out wr HS.out
        by_cases hlt : i < nY
        · have hil : i < Ys.length := by have := HL.out; omega
          have hw8 : IntKind.u8.wrap ((i : Int) + 1) = (i : Int) + 1 := by rw [IntKind.wrap_u8]; omega
          have HEl : Hid (∀ W, SY w0 W B hd Ys → W.cell? ⟨hd, i, none⟩ = some (itv Ys[i])) := fun W hW => hW.el i hil
          have HRw : Hid (∀ W, SY w0 W B hd Ys → Rw W 5 1 w0.heap.size hd Ys[i]) := fun W hW => hW.rY _ (List.getElem_mem hil)
          have HNe : Hid (∀ g, Ys[i].1 = some g → ∀ i' (h : i' < Ys.length), i' < i → ∀ x, Ys[i'].1 = some x → x ≠ g) := fun g eg i' hl' hi' x ex => HS.out.sY.ne hl' hil (by omega) ex eg
          have hm64 : Ys[i].2 ≤ 100000 := HS.out.lY _ (List.getElem_mem hil)
          have HSt2 : Hid (∀ W, Up W 1 patY Ys i → (∀ g, Ys[i].1 = some g → Mrk W g 1 Ys[i].2 (patY i)) → Up W 1 patY Ys (i + 1)) := fun W hu hm => hu.step hil hm
          have HM0 : Hid (∀ g, Ys[i].1 = some g → Mrk wr g 1 0 (patY i)) := fun g _ => Mrk.zero _ _ _ _
          generalize Ys[i] = it at *
          clear hil
          obtain ⟨og, m⟩ := it
          simp only at hm64 HSt2 HM0 HNe
          obtain ⟨ao, hao⟩ : ∃ ao, itv (og, m) = .slice ao m m := ⟨_, rfl⟩
          have HAo : Hid (∀ g, og = some g → ao = some ⟨g, 0, none⟩) := fun g e => by subst e; rw [itv_some] at hao; simp at hao; exact hao.symm
          rw [hao] at HEl
          clear hao
          have ce := HEl.out wr HS.out
          go_wp2_with fail
          clear c0 c1 c2 c3 c4 ce
          go_loopw [7] (fun x wi => ∃ k : Nat, k ≤ m ∧ x = .int .i64 (k : Int) ∧ Hid (SY w0 wi B hd Ys) ∧ Hid (Up wi 1 patY Ys i ∧ ∀ g, og = some g → Mrk wi g 1 k (patY i))) (fun x _ => m - (intOf x).toNat)
          case atStart => exact ⟨0, Nat.zero_le _, rfl, HS, HU.out, HM0.out⟩
          case round =>
            clear HS HU HM0
            generalize wr = wi at *
            obtain ⟨k, hk, rfl, HS, HU⟩ := hrel
            obtain ⟨c0, c1, c2, c3, c4⟩ := HC.out wi HS.out
            have ce := HEl.out wi HS.out
            by_cases hlt : k < m
            · cases og with
              | none => have := nat0 (HRw.out wi HS.out); omega
              | some g =>
                have hao := HAo.out g rfl
                subst hao
                obtain ⟨hg1, hg2, cur, hc, hcs⟩ := (HRw.out wi HS.out).at
                obtain ⟨u0, e0⟩ := row_cells hc hcs hlt (show 0 < 1 by omega)
                rw [Nat.add_zero, Nat.mul_one] at e0
                have f0 := frozen_of_row wi g k _ _ hc
                have HS3 : Hid (SY w0 (wi.setCell ⟨g, k, none⟩ (.int .u8 ((i : Int) + 1))) B hd Ys) := HS.out.set g k _ hg1 hg2
                have HU3 : Hid (Up (wi.setCell ⟨g, k, none⟩ (.int .u8 ((i : Int) + 1))) 1 patY Ys i ∧ ∀ g', some g = some g' → Mrk (wi.setCell ⟨g, k, none⟩ (.int .u8 ((i : Int) + 1))) g' 1 (k + 1) (patY i)) := by
                  have hw : wi.setCells g (k * 1) (patY i) = wi.setCell ⟨g, k, none⟩ (.int .u8 ((i : Int) + 1)) := by rw [Nat.mul_one]; rfl
                  rw [← hw]
                  refine ⟨HU.out.1.other (fun i' hl hi' x ex => setCells_oth g _ _ wi x (HNe.out g rfl i' hl hi' x ex)), fun g' e => ?_⟩
                  cases e
                  exact (HU.out.2 g rfl).more rfl (fun t ht => by obtain ⟨u, hu⟩ := row_cells hc hcs hlt ht; rw [hu]; rfl)
                clear HS HU hc hcs hg1 hg2
                go_wp2_with fail
                exact ⟨⟨k + 1, by omega, by go_num, HS3, HU3⟩, by simp [intOf]; omega⟩
            · obtain rfl : k = m := by omega
              have HUn : Hid (Up wi 1 patY Ys (i + 1)) := HSt2.out wi HU.out.1 HU.out.2
              clear HU
              go_wp2_with fail
              exact ⟨⟨i + 1, by omega, by go_num, HS, HUn⟩, by simp [intOf]; omega⟩
        · obtain rfl : i = nY := by omega
          have HQ : Hid (SY w0 wr B hd Ys ∧ Up wr 1 patY Ys Ys.length) := by have h2 := HU.out; rw [HL.out] at h2; exact ⟨HS.out, h2⟩
          clear HS HU hlt
          go_wp2_with fail
          clear c0 c1 c2 c3 c4
          generalize wr = wy at *
          go_loopw [8] (fun x wr => x = .int .i64 0 ∧ Hid (SY w0 wr B hd Ys ∧ Up wr 1 patY Ys Ys.length)) (fun _ _ => 0)
          case atStart => exact ⟨rfl, HQ⟩
          case round =>
            clear HQ
            obtain ⟨rfl, HQ⟩ := hrel
            obtain ⟨c0, c1, c2, c3, c4⟩ := HC.out wr HQ.out.1
            go_wp2_with fail
            clear c0 c1 c2 c3 c4
            generalize wr = wy at *
            go_loopw [10] (fun x wr => x = .int .i64 0 ∧ Hid (SY w0 wr B hd Ys ∧ Up wr 1 patY Ys Ys.length)) (fun _ _ => 0)
            case atStart => exact ⟨rfl, HQ⟩
            case round =>
              clear HQ
              obtain ⟨rfl, HQ⟩ := hrel
              obtain ⟨c0, c1, c2, c3, c4⟩ := HC.out wr HQ.out.1
              go_wp2
              go_end0
              exact ⟨rfl, HQ.out.1, HQ.out.2⟩

set_option maxRecDepth 100000 in
set_option maxHeartbeats 4000000 in
theorem growY_any (w0 w : World) (B hd : Nat) (Ys : List It) (nY : Nat) (hY : nY = Ys.length) (h : SY w0 w B hd Ys) :
    Calls Try.prog 40 #[.pointer (some ⟨B, 0, none⟩)] w fun e w' => e = .returned (.tuple #[]) ∧ Below w.heap.size w w' := by
  have HS0 : Hid (SY w0 w B hd Ys) := h
  have HL : Hid (nY = Ys.length) := hY
  have hn : nY ≤ 2 := by have := h.n; omega
  have HC : Hid (∀ W, Below w.heap.size w W → W.cell? ⟨B, 0, none⟩ = some (.slice none 0 0) ∧ W.cell? ⟨B, 1, none⟩ = some (.slice none 0 0) ∧ W.cell? ⟨B, 2, none⟩ = some (.slice none 0 0) ∧ W.cell? ⟨B, 3, none⟩ = some (.slice none 0 0) ∧ W.cell? ⟨B, 4, none⟩ = some (.slice (some ⟨hd, 0, none⟩) nY nY)) := fun W hW => by rw [hY]; exact (h.kept hW).cells
  have HQ : Hid (Below w.heap.size w w) := Below.refl _ _
  have HBs : Hid (hd ≤ w.heap.size) := by have := h.lt; have := h.ge; simp only [Hid]; omega
  clear h hY
  go_enter Try.func40, Try.ntmps40
  go_wp2_with fail
  go_loopw [2] (fun x wr => x = .int .i64 0 ∧ Hid (Below w.heap.size w wr)) (fun _ _ => 0)
  case atStart => exact ⟨rfl, HQ⟩
  case round =>
    clear HQ
    obtain ⟨rfl, HQ⟩ := hrel
    obtain ⟨c0, c1, c2, c3, c4⟩ := HC.out wr HQ.out
    go_wp2_with fail
    clear c0 c1 c2 c3 c4
    generalize wr = wy at *
    go_loopw [6] (fun x wr => x = .int .i64 0 ∧ Hid (Below w.heap.size w wr)) (fun _ _ => 0)
    case atStart => exact ⟨rfl, HQ⟩
    case round =>
      clear HQ
      obtain ⟨rfl, HQ⟩ := hrel
      obtain ⟨c0, c1, c2, c3, c4⟩ := HC.out wr HQ.out
      go_wp2_with fail
      clear c0 c1 c2 c3 c4
      generalize wr = wy at *
      go_loopw [10] (fun x wr => ∃ i : Nat, i ≤ nY ∧ x = .int .i64 (i : Int) ∧ Hid (Below w.heap.size w wr)) (fun x _ => nY - (intOf x).toNat)
      case atStart => exact ⟨0, Nat.zero_le _, rfl, HQ⟩
      case round =>
        clear HQ
        obtain ⟨i, hi, rfl, HBr⟩ := hrel
        obtain ⟨c0, c1, c2, c3, c4⟩ := HC.out wr HBr.out
        by_cases hlt : i < nY
        · have hil : i < Ys.length := by have := HL.out; omega
          have hw8 : IntKind.u8.wrap ((i : Int) + 1) = (i : Int) + 1 := by rw [IntKind.wrap_u8]; omega
          have HEl : Hid (∀ W, Below w.heap.size w W → W.cell? ⟨hd, i, none⟩ = some (itv Ys[i])) := fun W hW => (HS0.out.kept hW).el i hil
          have HRw : Hid (∀ W, Below w.heap.size w W → Rw W 5 1 w0.heap.size hd Ys[i]) := fun W hW => (HS0.out.kept hW).rY _ (List.getElem_mem hil)
          have hm64 : Ys[i].2 ≤ 100000 := HS0.out.lY _ (List.getElem_mem hil)
          generalize Ys[i] = it at *
          clear hil
          obtain ⟨og, m⟩ := it
          simp only at hm64
          obtain ⟨ao, hao⟩ : ∃ ao, itv (og, m) = .slice ao m m := ⟨_, rfl⟩
          have HAo : Hid (itv (og, m) = .slice ao m m) := hao
          have HCe : Hid (∀ W, Below w.heap.size w W → W.cell? ⟨hd, i, none⟩ = some (.slice ao m m)) := fun W hW => by rw [← hao]; exact HEl.out W hW
          clear hao HEl
          have ce := HCe.out wr HBr.out
          go_wp2_with fail
          clear c0 c1 c2 c3 c4 ce
          go_loopw [11, 12, 13] (fun gv mv x wi => ∃ k : Nat, k ≤ 64 ∧ x = .int .i64 (k : Int) ∧ (∃ ga gn gc, gv = .slice ga gn gc) ∧ (∃ ma mn mc, mv = .slice ma mn mc) ∧ Hid (Below w.heap.size w wi) ∧ Hid (GS w wi 5 1 (og, m) gv k ∧ MS w wi 5 1 mv k ∧ Ap gv mv k)) (fun _ _ x _ => 64 - (intOf x).toNat)
          case atStart => exact ⟨0, by omega, rfl, ⟨_, _, _, rfl⟩, ⟨_, _, _, rfl⟩, HBr, .inl ⟨rfl, HAo.out.symm⟩, ⟨[], World.ownsRow_nil _ _ _ _, by simp⟩, fun h => absurd h (by omega)⟩
          case round =>
            clear HBr
            generalize wr = wi at *
            obtain ⟨k, hk, rfl, ⟨ga, gn, gc, rfl⟩, ⟨ma, mn, mc, rfl⟩, HBi, HG⟩ := hrel
            by_cases hlt : k < 64
            · have hlt' : (k : Int) < 64 := by omega
              go_wp2_with (first | (at_builtin; refine wpL_app rfl _ _ 25 rfl (.slice ma mn mc) _ rfl rfl (fun ty => many_step elY (it := (og, m)) (k := k) (by omega) HG1.out.1 HG1.out.2.1 HG1.out.2.2 HB1.out [.int .u8 ((i : Int) + 1)] rfl (by intro u hu; simp only [List.mem_cons, List.not_mem_nil, or_false] at hu; subst hu; rfl) ty) ?_; rintro mv' w2 ⟨hb2, hg2, hm2, ha2, ma2, mn2, mc2, rfl⟩; have HB2 : Hid (Below w.heap.size w w2) := hb2; have HG2 : Hid (GS w w2 5 1 (og, m) (.slice ga1 gn1 gc1) (k + 1) ∧ MS w w2 5 1 (.slice ma2 mn2 mc2) (k + 1) ∧ Ap (.slice ga1 gn1 gc1) (.slice ma2 mn2 mc2) (k + 1)) := ⟨hg2, hm2, ha2⟩; clear hb2 hg2 hm2 ha2) | (at_builtin; refine wpL_app rfl _ _ 25 rfl (.slice ga gn gc) _ rfl rfl (fun ty => grow_step elY (mv := .slice ma mn mc) (km := k) (HRw.out wi HBi.out) (by have := HBi.out.size; have := HBs.out; omega) (by omega) (k := k) (by omega) HG.out.1 HG.out.2.1 HG.out.2.2 HBi.out [.int .u8 ((i : Int) + 1)] rfl (by intro u hu; simp only [List.mem_cons, List.not_mem_nil, or_false] at hu; subst hu; rfl) ty) ?_; rintro gv' w1 ⟨hb1, hg1, hm1, ha1, ga1, gn1, gc1, rfl⟩; have HB1 : Hid (Below w.heap.size w w1) := hb1; have HG1 : Hid (GS w w1 5 1 (og, m) (.slice ga1 gn1 gc1) (k + 1) ∧ MS w w1 5 1 (.slice ma mn mc) k ∧ Ap (.slice ga1 gn1 gc1) (.slice ma mn mc) (k + 1)) := ⟨hg1, hm1, ha1⟩; clear hb1 hg1 hm1 ha1))
              exact ⟨⟨k + 1, by omega, by go_num, ⟨_, _, _, rfl⟩, ⟨_, _, _, rfl⟩, HB2, HG2⟩, by simp [intOf]; omega⟩
            · obtain rfl : k = 64 := by omega
              rw [show ((64 : Nat) : Int) = 64 from rfl]
              have ce := HCe.out wi HBi.out
              obtain ⟨c0, c1, c2, c3, c4⟩ := HC.out wi HBi.out
              have hm24 : (m : Int) < (m : Int) + 64 := by omega
              go_wp2_with (at_builtin; refine wpL_app rfl _ _ 25 rfl (.slice ao m m) (.slice ma mn mc) rfl rfl (fun ty => by have h := last_step elY (it := (og, m)) (HRw.out wi HBi.out) (by omega) (k := 64) (by omega) (by omega) HG.out.2.1 HBi.out ty; rw [HAo.out] at h; exact h) ?_; rintro v3 w3 ⟨hb3, b, cap, cur, rfl, hbb, hcur, hcs, hcap⟩; have ce3 := HCe.out w3 hb3; obtain ⟨d0, d1, d2, d3, d4⟩ := HC.out w3 hb3; obtain ⟨u3, e3⟩ := row_cells hcur hcs (k := m) (t := 0) (by simp only at hcap; omega) (by omega); have f3 := frozen_of_row w3 b m _ _ hcur; rw [Nat.add_zero, Nat.mul_one] at e3; have HB4 : Hid (Below w.heap.size w (w3.setCell ⟨b, m, none⟩ (.int .u8 0))) := bset hb3 _ hbb; have hcap2 : m + 64 ≤ cap := hcap; clear hb3 hcur hcs hcap hbb)
              exact ⟨⟨i + 1, by omega, by go_num, HB4⟩, by simp [intOf]; omega⟩
        · obtain rfl : i = nY := by omega
          have HQ := HBr
          clear HBr hlt
          go_wp2_with fail
          clear c0 c1 c2 c3 c4
          generalize wr = wy at *
          go_loopw [14] (fun x wr => x = .int .i64 0 ∧ Hid (Below w.heap.size w wr)) (fun _ _ => 0)
          case atStart => exact ⟨rfl, HQ⟩
          case round =>
            clear HQ
            obtain ⟨rfl, HQ⟩ := hrel
            obtain ⟨c0, c1, c2, c3, c4⟩ := HC.out wr HQ.out
            go_wp2_with fail
            clear c0 c1 c2 c3 c4
            generalize wr = wy at *
            go_loopw [17] (fun x wr => x = .int .i64 0 ∧ Hid (Below w.heap.size w wr)) (fun _ _ => 0)
            case atStart => exact ⟨rfl, HQ⟩
            case round =>
              clear HQ
              obtain ⟨rfl, HQ⟩ := hrel
              obtain ⟨c0, c1, c2, c3, c4⟩ := HC.out wr HQ.out
              go_wp2
              go_end0
              exact ⟨rfl, HQ.out⟩

set_option maxRecDepth 100000 in
set_option maxHeartbeats 4000000 in
theorem apartY_any (w0 w : World) (B hd : Nat) (Ys : List It) (h : SY w0 w B hd Ys) :
    Calls Try.prog 13 #[.pointer (some ⟨B, 0, none⟩)] w fun e w' => e = .returned (.bool true) ∧ Below w0.heap.size w0 w' := by
  obtain ⟨nY, hY⟩ : ∃ n, n = Ys.length := ⟨_, rfl⟩
  have HS : Hid (SY w0 w B hd Ys) := h
  have HL : Hid (nY = Ys.length) := hY
  have hn : nY ≤ 2 := by have := h.n; omega
  have HC : Hid (∀ W, SY w0 W B hd Ys → W.cell? ⟨B, 0, none⟩ = some (.slice none 0 0) ∧ W.cell? ⟨B, 1, none⟩ = some (.slice none 0 0) ∧ W.cell? ⟨B, 2, none⟩ = some (.slice none 0 0) ∧ W.cell? ⟨B, 3, none⟩ = some (.slice none 0 0) ∧ W.cell? ⟨B, 4, none⟩ = some (.slice (some ⟨hd, 0, none⟩) nY nY)) := fun W hW => by rw [hY]; exact hW.cells
  clear h hY
  go_enter Try.func13, Try.ntmps13
  go_wp2_with fail
  refine (fillY_any w0 w B hd Ys nY HL.out HS.out).mono ?_
  rintro e w1 ⟨rfl, hs1, hu1⟩
  have HS1 : Hid (SY w0 w1 B hd Ys ∧ Up w1 1 patY Ys Ys.length) := ⟨hs1, hu1⟩
  clear hs1 hu1 HS
  go_wp2_with fail
  refine (growY_any w0 w1 B hd Ys nY HL.out HS1.out.1).mono ?_
  rintro e W ⟨rfl, hb2⟩
  have HQ : Hid (SY w0 W B hd Ys ∧ Up W 1 patY Ys Ys.length) := ⟨HS1.out.1.kept hb2, HS1.out.2.other (fun i' hl _ g e => by
    have h1 := HS1.out.1.rY _ (List.getElem_mem hl)
    have h2 : Ys[i'] = (some g, Ys[i'].2) := Prod.ext e rfl
    rw [h2] at h1
    have h3 := h1.at.2.1
    have h4 := HS1.out.1.lt
    have h5 := HS1.out.1.ge
    exact hb2.block g (by omega))⟩
  clear hb2 HS1
  go_wp2_with fail
  go_loopw [3] (fun x wr => x = .int .i64 0 ∧ Hid (SY w0 wr B hd Ys ∧ Up wr 1 patY Ys Ys.length)) (fun _ _ => 0)
  case atStart => exact ⟨rfl, HQ⟩
  case round =>
    clear HQ
    obtain ⟨rfl, HQ⟩ := hrel
    obtain ⟨c0, c1, c2, c3, c4⟩ := HC.out wr HQ.out.1
    go_wp2_with fail
    clear c0 c1 c2 c3 c4
    generalize wr = wy at *
    go_loopw [5] (fun x wr => x = .int .i64 0 ∧ Hid (SY w0 wr B hd Ys ∧ Up wr 1 patY Ys Ys.length)) (fun _ _ => 0)
    case atStart => exact ⟨rfl, HQ⟩
    case round =>
      clear HQ
      obtain ⟨rfl, HQ⟩ := hrel
      obtain ⟨c0, c1, c2, c3, c4⟩ := HC.out wr HQ.out.1
      go_wp2_with fail
      clear c0 c1 c2 c3 c4
      generalize wr = wy at *
      go_loopw [7] (fun x wr => ∃ i : Nat, i ≤ nY ∧ x = .int .i64 (i : Int) ∧ Hid (SY w0 wr B hd Ys ∧ Up wr 1 patY Ys Ys.length)) (fun x _ => nY - (intOf x).toNat)
      case atStart => exact ⟨0, Nat.zero_le _, rfl, HQ⟩
      case round =>
        clear HQ
        obtain ⟨i, hi, rfl, HQ⟩ := hrel
        obtain ⟨c0, c1, c2, c3, c4⟩ := HC.out wr HQ.out.1
        by_cases hlt : i < nY
        · have hil : i < Ys.length := by have := HL.out; omega
          have hw8 : IntKind.u8.wrap ((i : Int) + 1) = (i : Int) + 1 := by rw [IntKind.wrap_u8]; omega
          have HEl : Hid (∀ W, SY w0 W B hd Ys → W.cell? ⟨hd, i, none⟩ = some (itv Ys[i])) := fun W hW => hW.el i hil
          have HRw : Hid (∀ W, SY w0 W B hd Ys → Rw W 5 1 w0.heap.size hd Ys[i]) := fun W hW => hW.rY _ (List.getElem_mem hil)
          have hm64 : Ys[i].2 ≤ 100000 := HQ.out.1.lY _ (List.getElem_mem hil)
          have HMk : Hid (∀ W, Up W 1 patY Ys Ys.length → ∀ g, Ys[i].1 = some g → Mrk W g 1 Ys[i].2 (patY i)) := fun W hu g e => hu i hil hil g e
          generalize Ys[i] = it at *
          clear hil
          obtain ⟨og, m⟩ := it
          simp only at hm64 HMk
          obtain ⟨ao, hao⟩ : ∃ ao, itv (og, m) = .slice ao m m := ⟨_, rfl⟩
          have HAo : Hid (∀ g, og = some g → ao = some ⟨g, 0, none⟩) := fun g e => by subst e; rw [itv_some] at hao; simp at hao; exact hao.symm
          rw [hao] at HEl
          clear hao
          have ce := HEl.out wr HQ.out.1
          go_wp2_with fail
          clear c0 c1 c2 c3 c4 ce
          generalize wr = wy at *
          go_loopw [8] (fun x wr => ∃ k : Nat, k ≤ m ∧ x = .int .i64 (k : Int) ∧ Hid (SY w0 wr B hd Ys ∧ Up wr 1 patY Ys Ys.length)) (fun x _ => m - (intOf x).toNat)
          case atStart => exact ⟨0, Nat.zero_le _, rfl, HQ⟩
          case round =>
            clear HQ
            obtain ⟨k, hk, rfl, HQ⟩ := hrel
            obtain ⟨c0, c1, c2, c3, c4⟩ := HC.out wr HQ.out.1
            have ce := HEl.out wr HQ.out.1
            by_cases hlt : k < m
            · cases og with
              | none => have := nat0 (HRw.out wr HQ.out.1); omega
              | some g =>
                have hao := HAo.out g rfl
                subst hao
                have e0 := (HMk.out wr HQ.out.2 g rfl) k hlt 0 _ rfl
                rw [Nat.add_zero, Nat.mul_one] at e0
                go_wp2_with fail
                exact ⟨⟨k + 1, by omega, by go_num, HQ⟩, by simp [intOf]; omega⟩
            · obtain rfl : k = m := by omega
              go_wp2_with fail
              exact ⟨⟨i + 1, by omega, by go_num, HQ⟩, by simp [intOf]; omega⟩
        · obtain rfl : i = nY := by omega
          clear hlt
          go_wp2_with fail
          clear c0 c1 c2 c3 c4
          generalize wr = wy at *
          go_loopw [9] (fun x wr => x = .int .i64 0 ∧ Hid (SY w0 wr B hd Ys ∧ Up wr 1 patY Ys Ys.length)) (fun _ _ => 0)
          case atStart => exact ⟨rfl, HQ⟩
          case round =>
            clear HQ
            obtain ⟨rfl, HQ⟩ := hrel
            obtain ⟨c0, c1, c2, c3, c4⟩ := HC.out wr HQ.out.1
            go_wp2_with fail
            clear c0 c1 c2 c3 c4
            generalize wr = wy at *
            go_loopw [11] (fun x wr => x = .int .i64 0 ∧ Hid (SY w0 wr B hd Ys ∧ Up wr 1 patY Ys Ys.length)) (fun _ _ => 0)
            case atStart => exact ⟨rfl, HQ⟩
            case round =>
              clear HQ
              obtain ⟨rfl, HQ⟩ := hrel
              obtain ⟨c0, c1, c2, c3, c4⟩ := HC.out wr HQ.out.1
              go_wp2
              go_ret
              exact ⟨rfl, HQ.out.1.bel⟩
end Go.Proofs.Ytlilaicgmdbhcaa.Kk
