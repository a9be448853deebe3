import Derived.Test.YtglodmmmcdjgcaaJ24
import Derived.Test.YtglodmmmcdjgcaaJ04
import Derived.Test.YtglodmmmcdjgcaaJ16
import Derived.Test.YtglodmmmcdjgcaaJ20
/-
  THE SHELF WITH LISTS OF BYTES ALONE.
-/
namespace Go.Proofs.Ytglodmmmcdjgcaa.Kk
open Go.RowKit Go.Sort

theorem elY : El 50 5 (.int .u8 0) 1 1 := ⟨Try.underlying50, by kernel_rfl, rfl, by decide, by decide⟩
def patY (i : Nat) : List Value := [.int .u8 ((i : Int) + 1)]
structure SY (w0 W : World) (B hd : Nat) (Ys : List It) : Prop where
  bx : W.heap[B]? = some (.cells #[.slice none 0 0, .slice none 0 0, .slice none 0 0, .slice none 0 0, .slice (some ⟨hd, 0, none⟩) Ys.length Ys.length] 37 (0, 0))
  hx : W.heap[hd]? = some (.cells (Ys.map itv).toArray 50 (0, 0))
  rY : ∀ x ∈ Ys, Rw W 5 1 w0.heap.size hd x
  sY : Rs Ys
  lY : ∀ x ∈ Ys, x.2 ≤ 100000
  n : Ys.length ≤ 2
  bel : Below w0.heap.size w0 W
  ge : w0.heap.size ≤ hd ∧ hd < B
section
variable {w0 W W' : World} {B hd : Nat} {Ys : List It}
theorem SY.lt (h : SY w0 W B hd Ys) : B < W.heap.size := (Array.getElem?_eq_some_iff.1 h.bx).1
theorem SY.kept (h : SY w0 W B hd Ys) (hb : Below W.heap.size W W') : SY w0 W' B hd Ys :=
  have hB := h.lt
  have hg := h.ge
  ⟨(hb.block _ h.lt).trans h.bx, (hb.block _ (by omega)).trans h.hx, fun x hx => (h.rY x hx).below hb (by omega), h.sY, h.lY, h.n, h.bel.trans (hb.mono h.bel.size), h.ge⟩
theorem SY.cells (h : SY w0 W B hd Ys) : W.cell? ⟨B, 0, none⟩ = some (.slice none 0 0) ∧ W.cell? ⟨B, 1, none⟩ = some (.slice none 0 0) ∧ W.cell? ⟨B, 2, none⟩ = some (.slice none 0 0) ∧ W.cell? ⟨B, 3, none⟩ = some (.slice none 0 0) ∧ W.cell? ⟨B, 4, none⟩ = some (.slice (some ⟨hd, 0, none⟩) Ys.length Ys.length) := by
  refine ⟨?_, ?_, ?_, ?_, ?_⟩ <;> simp [World.cell?, h.bx]
theorem SY.el (h : SY w0 W B hd Ys) (i : Nat) (hi : i < Ys.length) : W.cell? ⟨hd, i, none⟩ = some (itv Ys[i]) := by
  simp only [World.cell?, h.hx]
  simp [hi]
theorem SY.set (h : SY w0 W B hd Ys) (g j : Nat) (v : Value) (h1 : w0.heap.size ≤ g) (h2 : g < hd) : SY w0 (W.setCell ⟨g, j, none⟩ v) B hd Ys := by
  have hg := h.ge
  have hs : ∀ k, hd ≤ k → (W.setCell ⟨g, j, none⟩ v).heap[k]? = W.heap[k]? := fun k hk => heap_setCell_other W ⟨g, j, none⟩ k v (by show k ≠ g; omega)
  exact ⟨(hs B (by omega)).trans h.bx, (hs hd (Nat.le_refl _)).trans h.hx, fun x hx => (h.rY x hx).set _ _ _, h.sY, h.lY, h.n, bset h.bel _ h1, h.ge⟩
end

set_option maxRecDepth 100000 in
set_option maxHeartbeats 4000000 in
theorem fillY_any (w0 w : World) (B hd : Nat) (Ys : List It) (nY : Nat) (hY : nY = Ys.length) (h : SY w0 w B hd Ys) :
    Calls Try.prog 20 #[.pointer (some ⟨B, 0, none⟩)] w fun e w' => e = .returned (.tuple #[]) ∧ SY w0 w' B hd Ys ∧ Up w' 1 patY Ys Ys.length := by
  have HQ : Hid (SY w0 w B hd Ys) := h
  have HL : Hid (nY = Ys.length) := hY
  have hn : nY ≤ 2 := by have := h.n; omega
  have HC : Hid (∀ W, SY w0 W B hd Ys → W.cell? ⟨B, 0, none⟩ = some (.slice none 0 0) ∧ W.cell? ⟨B, 1, none⟩ = some (.slice none 0 0) ∧ W.cell? ⟨B, 2, none⟩ = some (.slice none 0 0) ∧ W.cell? ⟨B, 3, none⟩ = some (.slice none 0 0) ∧ W.cell? ⟨B, 4, none⟩ = some (.slice (some ⟨hd, 0, none⟩) nY nY)) := fun W hW => by rw [hY]; exact hW.cells
  clear h hY
  go_enter Try.func20, Try.ntmps20
  go_wp2_with fail
  go_loopw [2] (fun x wr => x = .int .i64 0 ∧ Hid (SY w0 wr B hd Ys)) (fun _ _ => 0)
  case atStart => exact ⟨rfl, HQ⟩
  case round =>
    clear HQ
    obtain ⟨rfl, HQ⟩ := hrel
    obtain ⟨c0, c1, c2, c3, c4⟩ := HC.out wr HQ.out
    go_wp2_with fail
    clear c0 c1 c2 c3 c4
    generalize wr = wy at *
    go_loopw [4] (fun x wr => x = .int .i64 0 ∧ Hid (SY w0 wr B hd Ys)) (fun _ _ => 0)
    case atStart => exact ⟨rfl, HQ⟩
    case round =>
      clear HQ
      obtain ⟨rfl, HQ⟩ := hrel
      obtain ⟨c0, c1, c2, c3, c4⟩ := HC.out wr HQ.out
      go_wp2_with fail
      clear c0 c1 c2 c3 c4
      generalize wr = wy at *
      go_loopw [6] (fun x wr => ∃ i : Nat, i ≤ nY ∧ x = .int .i64 (i : Int) ∧ Hid (SY w0 wr B hd Ys) ∧ Hid (Up wr 1 patY Ys i)) (fun x _ => nY - (intOf x).toNat)
      case atStart => exact ⟨0, Nat.zero_le _, rfl, HQ, Up.zero _ _ _ _⟩
      case round =>
        clear HQ
        obtain ⟨i, hi, rfl, HS, HU⟩ := hrel
        obtain ⟨c0, c1, c2, c3, c4⟩ := HC.out wr HS.out
        by_cases hlt : i < nY
        · have hil : i < Ys.length := by have := HL.out; omega
          have hw8 : IntKind.u8.wrap ((i : Int) + 1) = (i : Int) + 1 := by rw [IntKind.wrap_u8]; omega
          have HEl : Hid (∀ W, SY w0 W B hd Ys → W.cell? ⟨hd, i, none⟩ = some (itv Ys[i])) := fun W hW => hW.el i hil
          have HRw : Hid (∀ W, SY w0 W B hd Ys → Rw W 5 1 w0.heap.size hd Ys[i]) := fun W hW => hW.rY _ (List.getElem_mem hil)
          have HNe : Hid (∀ g, Ys[i].1 = some g → ∀ i' (h : i' < Ys.length), i' < i → ∀ x, Ys[i'].1 = some x → x ≠ g) := fun g eg i' hl' hi' x ex => HS.out.sY.ne hl' hil (by omega) ex eg
          have hm64 : Ys[i].2 ≤ 100000 := HS.out.lY _ (List.getElem_mem hil)
          have HSt2 : Hid (∀ W, Up W 1 patY Ys i → (∀ g, Ys[i].1 = some g → Mrk W g 1 Ys[i].2 (patY i)) → Up W 1 patY Ys (i + 1)) := fun W hu hm => hu.step hil hm
          have HM0 : Hid (∀ g, Ys[i].1 = some g → Mrk wr g 1 0 (patY i)) := fun g _ => Mrk.zero _ _ _ _
          generalize Ys[i] = it at *
          clear hil
          obtain ⟨og, m⟩ := it
          simp only at hm64 HSt2 HM0 HNe
          obtain ⟨ao, hao⟩ : ∃ ao, itv (og, m) = .slice ao m m := ⟨_, rfl⟩
          have HAo : Hid (∀ g, og = some g → ao = some ⟨g, 0, none⟩) := fun g e => by subst e; rw [itv_some] at hao; simp at hao; exact hao.symm
          rw [hao] at HEl
          clear hao
          have ce := HEl.out wr HS.out
          go_wp2_with fail
          clear c0 c1 c2 c3 c4 ce
          go_loopw [7] (fun x wi => ∃ k : Nat, k ≤ m ∧ x = .int .i64 (k : Int) ∧ Hid (SY w0 wi B hd Ys) ∧ Hid (Up wi 1 patY Ys i ∧ ∀ g, og = some g → Mrk wi g 1 k (patY i))) (fun x _ => m - (intOf x).toNat)
          case atStart => exact ⟨0, Nat.zero_le _, rfl, HS, HU.out, HM0.out⟩
          case round =>
            clear HS HU HM0
            generalize wr = wi at *
            obtain ⟨k, hk, rfl, HS, HU⟩ := hrel
            obtain ⟨c0, c1, c2, c3, c4⟩ := HC.out wi HS.out
            have ce := HEl.out wi HS.out
            by_cases hlt : k < m
            · cases og with
              | none => have := nat0 (HRw.out wi HS.out); omega
              | some g =>
                have hao := HAo.out g rfl
                subst hao
                obtain ⟨hg1, hg2, cur, hc, hcs⟩ := (HRw.out wi HS.out).at
                obtain ⟨u0, e0⟩ := row_cells hc hcs hlt (show 0 < 1 by omega)
                rw [Nat.add_zero, Nat.mul_one] at e0
                have f0 := frozen_of_row wi g k _ _ hc
                have HS3 : Hid (SY w0 (wi.setCell ⟨g, k, none⟩ (.int .u8 ((i : Int) + 1))) B hd Ys) := HS.out.set g k _ hg1 hg2
                have HU3 : Hid (Up (wi.setCell ⟨g, k, none⟩ (.int .u8 ((i : Int) + 1))) 1 patY Ys i ∧ ∀ g', some g = some g' → Mrk (wi.setCell ⟨g, k, none⟩ (.int .u8 ((i : Int) + 1))) g' 1 (k + 1) (patY i)) := by
                  have hw : wi.setCells g (k * 1) (patY i) = wi.setCell ⟨g, k, none⟩ (.int .u8 ((i : Int) + 1)) := by rw [Nat.mul_one]; rfl
                  rw [← hw]
                  refine ⟨HU.out.1.other (fun i' hl hi' x ex => setCells_oth g _ _ wi x (HNe.out g rfl i' hl hi' x ex)), fun g' e => ?_⟩
                  cases e
                  exact (HU.out.2 g rfl).more rfl (fun t ht => by obtain ⟨u, hu⟩ := row_cells hc hcs hlt ht; rw [hu]; rfl)
                clear HS HU hc hcs hg1 hg2
                go_wp2_with fail
                exact ⟨⟨k + 1, by omega, by go_num, HS3, HU3⟩, by simp [intOf]; omega⟩
            · obtain rfl : k = m := by omega
              have HUn : Hid (Up wi 1 patY Ys (i + 1)) := HSt2.out wi HU.out.1 HU.out.2
              clear HU
              go_wp2_with fail
              exact ⟨⟨i + 1, by omega, by go_num, HS, HUn⟩, by simp [intOf]; omega⟩
        · obtain rfl : i = nY := by omega
          have HQ : Hid (SY w0 wr B hd Ys ∧ Up wr 1 patY Ys Ys.length) := by have h2 := HU.out; rw [HL.out] at h2; exact ⟨HS.out, h2⟩
          clear HS HU hlt
          go_wp2_with fail
          clear c0 c1 c2 c3 c4
          generalize wr = wy at *
          go_loopw [8] (fun x wr => x = .int .i64 0 ∧ Hid (SY w0 wr B hd Ys ∧ Up wr 1 patY Ys Ys.length)) (fun _ _ => 0)
          case atStart => exact ⟨rfl, HQ⟩
          case round =>
            clear HQ
            obtain ⟨rfl, HQ⟩ := hrel
            obtain ⟨c0, c1, c2, c3, c4⟩ := HC.out wr HQ.out.1
            go_wp2_with fail
            clear c0 c1 c2 c3 c4
            generalize wr = wy at *
            go_loopw [10] (fun x wr => x = .int .i64 0 ∧ Hid (SY w0 wr B hd Ys ∧ Up wr 1 patY Ys Ys.length)) (fun _ _ => 0)
            case atStart => exact ⟨rfl, HQ⟩
            case round =>
              clear HQ
              obtain ⟨rfl, HQ⟩ := hrel
              obtain ⟨c0, c1, c2, c3, c4⟩ := HC.out wr HQ.out.1
              go_wp2
              go_end0
              exact ⟨rfl, HQ.out.1, HQ.out.2⟩

set_option maxRecDepth 100000 in
set_option maxHeartbeats 4000000 in
theorem growY_any (w0 w : World) (B hd : Nat) (Ys : List It) (nY : Nat) (hY : nY = Ys.length) (h : SY w0 w B hd Ys) :
    Calls Try.prog 21 #[.pointer (some ⟨B, 0, none⟩)] w fun e w' => e = .returned (.tuple #[]) ∧ Below w.heap.size w w' := by
  have HS0 : Hid (SY w0 w B hd Ys) := h
  have HL : Hid (nY = Ys.length) := hY
  have hn : nY ≤ 2 := by have := h.n; omega
  have HC : Hid (∀ W, Below w.heap.size w W → W.cell? ⟨B, 0, none⟩ = some (.slice none 0 0) ∧ W.cell? ⟨B, 1, none⟩ = some (.slice none 0 0) ∧ W.cell? ⟨B, 2, none⟩ = some (.slice none 0 0) ∧ W.cell? ⟨B, 3, none⟩ = some (.slice none 0 0) ∧ W.cell? ⟨B, 4, none⟩ = some (.slice (some ⟨hd, 0, none⟩) nY nY)) := fun W hW => by rw [hY]; exact (h.kept hW).cells
  have HQ : Hid (Below w.heap.size w w) := Below.refl _ _
  have HBs : Hid (hd ≤ w.heap.size) := by have := h.lt; have := h.ge; simp only [Hid]; omega
  clear h hY
  go_enter Try.func21, Try.ntmps21
  go_wp2_with fail
  go_loopw [2] (fun x wr => x = .int .i64 0 ∧ Hid (Below w.heap.size w wr)) (fun _ _ => 0)
  case atStart => exact ⟨rfl, HQ⟩
  case round =>
    clear HQ
    obtain ⟨rfl, HQ⟩ := hrel
    obtain ⟨c0, c1, c2, c3, c4⟩ := HC.out wr HQ.out
    go_wp2_with fail
    clear c0 c1 c2 c3 c4
    generalize wr = wy at *
    go_loopw [6] (fun x wr => x = .int .i64 0 ∧ Hid (Below w.heap.size w wr)) (fun _ _ => 0)
    case atStart => exact ⟨rfl, HQ⟩
    case round =>
      clear HQ
      obtain ⟨rfl, HQ⟩ := hrel
      obtain ⟨c0, c1, c2, c3, c4⟩ := HC.out wr HQ.out
      go_wp2_with fail
      clear c0 c1 c2 c3 c4
      generalize wr = wy at *
      go_loopw [10] (fun x wr => ∃ i : Nat, i ≤ nY ∧ x = .int .i64 (i : Int) ∧ Hid (Below w.heap.size w wr)) (fun x _ => nY - (intOf x).toNat)
      case atStart => exact ⟨0, Nat.zero_le _, rfl, HQ⟩
      case round =>
        clear HQ
        obtain ⟨i, hi, rfl, HBr⟩ := hrel
        obtain ⟨c0, c1, c2, c3, c4⟩ := HC.out wr HBr.out
        by_cases hlt : i < nY
        · have hil : i < Ys.length := by have := HL.out; omega
          have hw8 : IntKind.u8.wrap ((i : Int) + 1) = (i : Int) + 1 := by rw [IntKind.wrap_u8]; omega
          have HEl : Hid (∀ W, Below w.heap.size w W → W.cell? ⟨hd, i, none⟩ = some (itv Ys[i])) := fun W hW => (HS0.out.kept hW).el i hil
          have HRw : Hid (∀ W, Below w.heap.size w W → Rw W 5 1 w0.heap.size hd Ys[i]) := fun W hW => (HS0.out.kept hW).rY _ (List.getElem_mem hil)
          have hm64 : Ys[i].2 ≤ 100000 := HS0.out.lY _ (List.getElem_mem hil)
          generalize Ys[i] = it at *
          clear hil
          obtain ⟨og, m⟩ := it
          simp only at hm64
          obtain ⟨ao, hao⟩ : ∃ ao, itv (og, m) = .slice ao m m := ⟨_, rfl⟩
          have HAo : Hid (itv (og, m) = .slice ao m m) := hao
          have HCe : Hid (∀ W, Below w.heap.size w W → W.cell? ⟨hd, i, none⟩ = some (.slice ao m m)) := fun W hW => by rw [← hao]; exact HEl.out W hW
          clear hao HEl
          have ce := HCe.out wr HBr.out
          go_wp2_with fail
          clear c0 c1 c2 c3 c4 ce
          go_loopw [11, 12, 13] (fun gv mv x wi => ∃ k : Nat, k ≤ 64 ∧ x = .int .i64 (k : Int) ∧ (∃ ga gn gc, gv = .slice ga gn gc) ∧ (∃ ma mn mc, mv = .slice ma mn mc) ∧ Hid (Below w.heap.size w wi) ∧ Hid (GS w wi 5 1 (og, m) gv k ∧ MS w wi 5 1 mv k ∧ Ap gv mv k)) (fun _ _ x _ => 64 - (intOf x).toNat)
          case atStart => exact ⟨0, by omega, rfl, ⟨_, _, _, rfl⟩, ⟨_, _, _, rfl⟩, HBr, .inl ⟨rfl, HAo.out.symm⟩, ⟨[], World.ownsRow_nil _ _ _ _, by simp⟩, fun h => absurd h (by omega)⟩
          case round =>
            clear HBr
            generalize wr = wi at *
            obtain ⟨k, hk, rfl, ⟨ga, gn, gc, rfl⟩, ⟨ma, mn, mc, rfl⟩, HBi, HG⟩ := hrel
            by_cases hlt : k < 64
            · have hlt' : (k : Int) < 64 := by omega
              go_wp2_with (first | (at_builtin; refine wpL_app rfl _ _ 50 rfl (.slice ma mn mc) _ rfl rfl (fun ty => many_step elY (it := (og, m)) (k := k) (by omega) HG1.out.1 HG1.out.2.1 HG1.out.2.2 HB1.out [.int .u8 ((i : Int) + 1)] rfl (by intro u hu; simp only [List.mem_cons, List.not_mem_nil, or_false] at hu; subst hu; rfl) ty) ?_; rintro mv' w2 ⟨hb2, hg2, hm2, ha2, ma2, mn2, mc2, rfl⟩; have HB2 : Hid (Below w.heap.size w w2) := hb2; have HG2 : Hid (GS w w2 5 1 (og, m) (.slice ga1 gn1 gc1) (k + 1) ∧ MS w w2 5 1 (.slice ma2 mn2 mc2) (k + 1) ∧ Ap (.slice ga1 gn1 gc1) (.slice ma2 mn2 mc2) (k + 1)) := ⟨hg2, hm2, ha2⟩; clear hb2 hg2 hm2 ha2) | (at_builtin; refine wpL_app rfl _ _ 50 rfl (.slice ga gn gc) _ rfl rfl (fun ty => grow_step elY (mv := .slice ma mn mc) (km := k) (HRw.out wi HBi.out) (by have := HBi.out.size; have := HBs.out; omega) (by omega) (k := k) (by omega) HG.out.1 HG.out.2.1 HG.out.2.2 HBi.out [.int .u8 ((i : Int) + 1)] rfl (by intro u hu; simp only [List.mem_cons, List.not_mem_nil, or_false] at hu; subst hu; rfl) ty) ?_; rintro gv' w1 ⟨hb1, hg1, hm1, ha1, ga1, gn1, gc1, rfl⟩; have HB1 : Hid (Below w.heap.size w w1) := hb1; have HG1 : Hid (GS w w1 5 1 (og, m) (.slice ga1 gn1 gc1) (k + 1) ∧ MS w w1 5 1 (.slice ma mn mc) k ∧ Ap (.slice ga1 gn1 gc1) (.slice ma mn mc) (k + 1)) := ⟨hg1, hm1, ha1⟩; clear hb1 hg1 hm1 ha1))
              exact ⟨⟨k + 1, by omega, by go_num, ⟨_, _, _, rfl⟩, ⟨_, _, _, rfl⟩, HB2, HG2⟩, by simp [intOf]; omega⟩
            · obtain rfl : k = 64 := by omega
              rw [show ((64 : Nat) : Int) = 64 from rfl]
              have ce := HCe.out wi HBi.out
              obtain ⟨c0, c1, c2, c3, c4⟩ := HC.out wi HBi.out
              have hm24 : (m : Int) < (m : Int) + 64 := by omega
              go_wp2_with (at_builtin; refine wpL_app rfl _ _ 50 rfl (.slice ao m m) (.slice ma mn mc) rfl rfl (fun ty => by have h := last_step elY (it := (og, m)) (HRw.out wi HBi.out) (by omega) (k := 64) (by omega) (by omega) HG.out.2.1 HBi.out ty; rw [HAo.out] at h; exact h) ?_; rintro v3 w3 ⟨hb3, b, cap, cur, rfl, hbb, hcur, hcs, hcap⟩; have ce3 := HCe.out w3 hb3; obtain ⟨d0, d1, d2, d3, d4⟩ := HC.out w3 hb3; obtain ⟨u3, e3⟩ := row_cells hcur hcs (k := m) (t := 0) (by simp only at hcap; omega) (by omega); have f3 := frozen_of_row w3 b m _ _ hcur; rw [Nat.add_zero, Nat.mul_one] at e3; have HB4 : Hid (Below w.heap.size w (w3.setCell ⟨b, m, none⟩ (.int .u8 0))) := bset hb3 _ hbb; have hcap2 : m + 64 ≤ cap := hcap; clear hb3 hcur hcs hcap hbb)
              exact ⟨⟨i + 1, by omega, by go_num, HB4⟩, by simp [intOf]; omega⟩
        · obtain rfl : i = nY := by omega
          have HQ := HBr
          clear HBr hlt
          go_wp2_with fail
          clear c0 c1 c2 c3 c4
          generalize wr = wy at *
          go_loopw [14] (fun x wr => x = .int .i64 0 ∧ Hid (Below w.heap.size w wr)) (fun _ _ => 0)
          case atStart => exact ⟨rfl, HQ⟩
          case round =>
            clear HQ
            obtain ⟨rfl, HQ⟩ := hrel
            obtain ⟨c0, c1, c2, c3, c4⟩ := HC.out wr HQ.out
            go_wp2_with fail
            clear c0 c1 c2 c3 c4
            generalize wr = wy at *
            go_loopw [17] (fun x wr => x = .int .i64 0 ∧ Hid (Below w.heap.size w wr)) (fun _ _ => 0)
            case atStart => exact ⟨rfl, HQ⟩
            case round =>
              clear HQ
              obtain ⟨rfl, HQ⟩ := hrel
              obtain ⟨c0, c1, c2, c3, c4⟩ := HC.out wr HQ.out
              go_wp2
              go_end0
              exact ⟨rfl, HQ.out⟩

set_option maxRecDepth 100000 in
set_option maxHeartbeats 4000000 in
theorem apartY_any (w0 w : World) (B hd : Nat) (Ys : List It) (h : SY w0 w B hd Ys) :
    Calls Try.prog 13 #[.pointer (some ⟨B, 0, none⟩)] w fun e w' => e = .returned (.bool true) ∧ Below w0.heap.size w0 w' := by
  obtain ⟨nY, hY⟩ : ∃ n, n = Ys.length := ⟨_, rfl⟩
  have HS : Hid (SY w0 w B hd Ys) := h
  have HL : Hid (nY = Ys.length) := hY
  have hn : nY ≤ 2 := by have := h.n; omega
  have HC : Hid (∀ W, SY w0 W B hd Ys → W.cell? ⟨B, 0, none⟩ = some (.slice none 0 0) ∧ W.cell? ⟨B, 1, none⟩ = some (.slice none 0 0) ∧ W.cell? ⟨B, 2, none⟩ = some (.slice none 0 0) ∧ W.cell? ⟨B, 3, none⟩ = some (.slice none 0 0) ∧ W.cell? ⟨B, 4, none⟩ = some (.slice (some ⟨hd, 0, none⟩) nY nY)) := fun W hW => by rw [hY]; exact hW.cells
  clear h hY
  go_enter Try.func13, Try.ntmps13
  go_wp2_with fail
  refine (fillY_any w0 w B hd Ys nY HL.out HS.out).mono ?_
  rintro e w1 ⟨rfl, hs1, hu1⟩
  have HS1 : Hid (SY w0 w1 B hd Ys ∧ Up w1 1 patY Ys Ys.length) := ⟨hs1, hu1⟩
  clear hs1 hu1 HS
  go_wp2_with fail
  refine (growY_any w0 w1 B hd Ys nY HL.out HS1.out.1).mono ?_
  rintro e W ⟨rfl, hb2⟩
  have HQ : Hid (SY w0 W B hd Ys ∧ Up W 1 patY Ys Ys.length) := ⟨HS1.out.1.kept hb2, HS1.out.2.other (fun i' hl _ g e => by
    have h1 := HS1.out.1.rY _ (List.getElem_mem hl)
    have h2 : Ys[i'] = (some g, Ys[i'].2) := Prod.ext e rfl
    rw [h2] at h1
    have h3 := h1.at.2.1
    have h4 := HS1.out.1.lt
    have h5 := HS1.out.1.ge
    exact hb2.block g (by omega))⟩
  clear hb2 HS1
  go_wp2_with fail
  go_loopw [3] (fun x wr => x = .int .i64 0 ∧ Hid (SY w0 wr B hd Ys ∧ Up wr 1 patY Ys Ys.length)) (fun _ _ => 0)
  case atStart => exact ⟨rfl, HQ⟩
  case round =>
    clear HQ
    obtain ⟨rfl, HQ⟩ := hrel
    obtain ⟨c0, c1, c2, c3, c4⟩ := HC.out wr HQ.out.1
    go_wp2_with fail
    clear c0 c1 c2 c3 c4
    generalize wr = wy at *
    go_loopw [5] (fun x wr => x = .int .i64 0 ∧ Hid (SY w0 wr B hd Ys ∧ Up wr 1 patY Ys Ys.length)) (fun _ _ => 0)
    case atStart => exact ⟨rfl, HQ⟩
    case round =>
      clear HQ
      obtain ⟨rfl, HQ⟩ := hrel
      obtain ⟨c0, c1, c2, c3, c4⟩ := HC.out wr HQ.out.1
      go_wp2_with fail
      clear c0 c1 c2 c3 c4
      generalize wr = wy at *
      go_loopw [7] (fun x wr => ∃ i : Nat, i ≤ nY ∧ x = .int .i64 (i : Int) ∧ Hid (SY w0 wr B hd Ys ∧ Up wr 1 patY Ys Ys.length)) (fun x _ => nY - (intOf x).toNat)
      case atStart => exact ⟨0, Nat.zero_le _, rfl, HQ⟩
      case round =>
        clear HQ
        obtain ⟨i, hi, rfl, HQ⟩ := hrel
        obtain ⟨c0, c1, c2, c3, c4⟩ := HC.out wr HQ.out.1
        by_cases hlt : i < nY
        · have hil : i < Ys.length := by have := HL.out; omega
          have hw8 : IntKind.u8.wrap ((i : Int) + 1) = (i : Int) + 1 := by rw [IntKind.wrap_u8]; omega
          have HEl : Hid (∀ W, SY w0 W B hd Ys → W.cell? ⟨hd, i, none⟩ = some (itv Ys[i])) := fun W hW => hW.el i hil
          have HRw : Hid (∀ W, SY w0 W B hd Ys → Rw W 5 1 w0.heap.size hd Ys[i]) := fun W hW => hW.rY _ (List.getElem_mem hil)
          have hm64 : Ys[i].2 ≤ 100000 := HQ.out.1.lY _ (List.getElem_mem hil)
          have HMk : Hid (∀ W, Up W 1 patY Ys Ys.length → ∀ g, Ys[i].1 = some g → Mrk W g 1 Ys[i].2 (patY i)) := fun W hu g e => hu i hil hil g e
          generalize Ys[i] = it at *
          clear hil
          obtain ⟨og, m⟩ := it
          simp only at hm64 HMk
          obtain ⟨ao, hao⟩ : ∃ ao, itv (og, m) = .slice ao m m := ⟨_, rfl⟩
          have HAo : Hid (∀ g, og = some g → ao = some ⟨g, 0, none⟩) := fun g e => by subst e; rw [itv_some] at hao; simp at hao; exact hao.symm
          rw [hao] at HEl
          clear hao
          have ce := HEl.out wr HQ.out.1
          go_wp2_with fail
          clear c0 c1 c2 c3 c4 ce
          generalize wr = wy at *
          go_loopw [8] (fun x wr => ∃ k : Nat, k ≤ m ∧ x = .int .i64 (k : Int) ∧ Hid (SY w0 wr B hd Ys ∧ Up wr 1 patY Ys Ys.length)) (fun x _ => m - (intOf x).toNat)
          case atStart => exact ⟨0, Nat.zero_le _, rfl, HQ⟩
          case round =>
            clear HQ
            obtain ⟨k, hk, rfl, HQ⟩ := hrel
            obtain ⟨c0, c1, c2, c3, c4⟩ := HC.out wr HQ.out.1
            have ce := HEl.out wr HQ.out.1
            by_cases hlt : k < m
            · cases og with
              | none => have := nat0 (HRw.out wr HQ.out.1); omega
              | some g =>
                have hao := HAo.out g rfl
                subst hao
                have e0 := (HMk.out wr HQ.out.2 g rfl) k hlt 0 _ rfl
                rw [Nat.add_zero, Nat.mul_one] at e0
                go_wp2_with fail
                exact ⟨⟨k + 1, by omega, by go_num, HQ⟩, by simp [intOf]; omega⟩
            · obtain rfl : k = m := by omega
              go_wp2_with fail
              exact ⟨⟨i + 1, by omega, by go_num, HQ⟩, by simp [intOf]; omega⟩
        · obtain rfl : i = nY := by omega
          clear hlt
          go_wp2_with fail
          clear c0 c1 c2 c3 c4
          generalize wr = wy at *
          go_loopw [9] (fun x wr => x = .int .i64 0 ∧ Hid (SY w0 wr B hd Ys ∧ Up wr 1 patY Ys Ys.length)) (fun _ _ => 0)
          case atStart => exact ⟨rfl, HQ⟩
          case round =>
            clear HQ
            obtain ⟨rfl, HQ⟩ := hrel
            obtain ⟨c0, c1, c2, c3, c4⟩ := HC.out wr HQ.out.1
            go_wp2_with fail
            clear c0 c1 c2 c3 c4
            generalize wr = wy at *
            go_loopw [11] (fun x wr => x = .int .i64 0 ∧ Hid (SY w0 wr B hd Ys ∧ Up wr 1 patY Ys Ys.length)) (fun _ _ => 0)
            case atStart => exact ⟨rfl, HQ⟩
            case round =>
              clear HQ
              obtain ⟨rfl, HQ⟩ := hrel
              obtain ⟨c0, c1, c2, c3, c4⟩ := HC.out wr HQ.out.1
              go_wp2
              go_ret
              exact ⟨rfl, HQ.out.1.bel⟩
end Go.Proofs.Ytglodmmmcdjgcaa.Kk
/-
  KEYS' BYTES, THERE AND BACK.
-/
namespace Go.Proofs.Ytglodmmmcdjgcaa.Kk
open Go.RowKit Go.Sort

theorem num_from (B : List Nat) (u : Nat) : B.foldl (fun u c => u * 256 + c) u = u * 256 ^ B.length + num B := by
  induction B generalizing u with
  | nil => simp [num]
  | cons b B ih =>
    unfold num
    rw [List.foldl_cons, List.foldl_cons, ih, ih (0 * 256 + b), List.length_cons, Nat.pow_succ, Nat.add_mul, Nat.zero_mul, Nat.zero_add, Nat.mul_assoc, Nat.mul_comm 256, Nat.add_assoc]
theorem num_append (A B : List Nat) : num (A ++ B) = num A * 256 ^ B.length + num B := by
  rw [← num_from B (num A)]; unfold num; rw [List.foldl_append]
theorem num_cons (x : Nat) (X : List Nat) : num (x :: X) = x * 256 ^ X.length + num X := by
  have := num_append [x] X
  simpa [num] using this
theorem num_diff (P X Y : List Nat) (x y : Nat) (hl : X.length = Y.length) (hX : ∀ z ∈ X, z < 256) (hY : ∀ z ∈ Y, z < 256) (hne : x ≠ y) : (num (P ++ x :: X) < num (P ++ y :: Y)) ↔ x < y := by
  rw [num_append, num_append, num_cons, num_cons, List.length_cons, List.length_cons, hl]
  have h1 := num_lt X hX
  have h2 := num_lt Y hY
  rw [hl] at h1
  generalize 256 ^ Y.length = m at *
  generalize num P * 256 ^ (Y.length + 1) = p at *
  constructor
  · intro h
    rcases Nat.lt_or_ge x y with h3 | h3
    · exact h3
    · have : y + 1 ≤ x := by omega
      have := Nat.mul_le_mul_right m this
      rw [Nat.add_mul] at this
      omega
  · intro h
    have : x + 1 ≤ y := by omega
    have := Nat.mul_le_mul_right m this
    rw [Nat.add_mul] at this
    omega
theorem split_at (xs : List Nat) (k : Nat) (h : k < xs.length) : xs = xs.take k ++ xs.getD k 0 :: xs.drop (k + 1) := by
  rw [List.getD_eq_getElem?_getD, List.getElem?_eq_getElem h]
  simp
theorem below_at (xs ys : List Nat) (k : Nat) (hl : xs.length = ys.length) (hk : k < xs.length) (hx : ∀ z ∈ xs, z < 256) (hy : ∀ z ∈ ys, z < 256) (hp : xs.take k = ys.take k) (hne : xs.getD k 0 ≠ ys.getD k 0) :
    decide (num xs < num ys) = decide (xs.getD k 0 < ys.getD k 0) := by
  have h := num_diff (xs.take k) (xs.drop (k + 1)) (ys.drop (k + 1)) (xs.getD k 0) (ys.getD k 0) (by simp; omega) (fun z hz => hx z (List.mem_of_mem_drop hz)) (fun z hz => hy z (List.mem_of_mem_drop hz)) hne
  have e1 := split_at xs k hk
  have e2 := split_at ys k (by omega)
  rw [← hp] at e2
  rw [← e1, ← e2] at h
  simp [h]

/-- a key as one number -/
theorem num_keyBytes {k : K} (h2 : In64 k.2) : num (keyBytes k) = k.1.toNat * 18446744073709551616 + turn k.2 := by
  unfold keyBytes
  rw [num_append, be_length, num_be 8 _ (turn_lt h2)]
  have : num [k.1.toNat / 256, k.1.toNat % 256] = k.1.toNat := by simp [num]; omega
  rw [this]
theorem num_lt_key {a b : K} (ha : isKey a = true) (hb : isKey b = true) (ia : In64 a.2) (ib : In64 b.2) : decide (num (keyBytes a) < num (keyBytes b)) = lt a b := by
  rw [num_keyBytes ia, num_keyBytes ib]
  have t1 := turn_lt ia
  have t2 := turn_lt ib
  have u1 := turn_int ia
  have u2 := turn_int ib
  simp only [isKey, Bool.and_eq_true, decide_eq_true_eq] at ha hb
  rw [Bool.eq_iff_iff, lt_iff, decide_eq_true_eq]
  omega
theorem from_keyBytes {k : K} (hk : isKey k = true) (h2 : In64 k.2) : fromK (keyBytes k) = k ∧ fromE (keyBytes k) = 0 := by
  have hl := keyBytes_length k
  refine ⟨?_, by unfold fromE; rw [if_neg (by omega), if_neg (by omega)]⟩
  unfold fromK fromB
  rw [if_pos hl]
  have e : (keyBytes k).drop 2 = be 8 (turn k.2) := rfl
  rw [e, num_be 8 _ (turn_lt h2), turn_int h2]
  have e0 : (keyBytes k).getD 0 0 = k.1.toNat / 256 := rfl
  have e1 : (keyBytes k).getD 1 0 = k.1.toNat % 256 := rfl
  rw [e0, e1]
  simp only [isKey, Bool.and_eq_true, decide_eq_true_eq] at hk
  obtain ⟨k1, k2⟩ := k
  simp only [Prod.mk.injEq] at *
  omega
theorem isKey_iff' (k : K) : isKey k = true ↔ 0 ≤ k.1 ∧ k.1 ≤ 65535 := by simp [isKey]
theorem keyBytes_from {zs : List Nat} (hl : zs.length = 10) (hz : ∀ z ∈ zs, z < 256) : isKey (fromB zs) = true ∧ In64 (fromB zs).2 ∧ keyBytes (fromB zs) = zs := by
  have hu := num10_lt zs hz hl
  have h0 := getD_lt hz 0
  have h1 := getD_lt hz 1
  refine ⟨?_, ?_, ?_⟩
  · rw [isKey_iff']; simp only [fromB]; omega
  · simp only [fromB, In64]; omega
  · unfold keyBytes
    have e : turn (fromB zs).2 = num (zs.drop 2) := by simp only [fromB, turn]; omega
    have hb := be_num (zs.drop 2) (fun z h => hz z (List.mem_of_mem_drop h))
    rw [show (zs.drop 2).length = 8 by simp; omega] at hb
    rw [e, hb]
    have t : (fromB zs).1.toNat = zs.getD 0 0 * 256 + zs.getD 1 0 := by simp only [fromB]; omega
    rw [t, show (zs.getD 0 0 * 256 + zs.getD 1 0) / 256 = zs.getD 0 0 by omega, show (zs.getD 0 0 * 256 + zs.getD 1 0) % 256 = zs.getD 1 0 by omega]
    obtain ⟨a, b, c, d, f, g, i, j, k, l, rfl⟩ := list10 hl
    rfl
theorem keyBytes_inj {a b : K} (ha : isKey a = true) (hb : isKey b = true) (ia : In64 a.2) (ib : In64 b.2) : decide (keyBytes a = keyBytes b) = decide (a = b) := by
  by_cases h : a = b
  · simp [h]
  · have : keyBytes a ≠ keyBytes b := fun e => h (by
      have h1 := (from_keyBytes ha ia).1
      rw [e, (from_keyBytes hb ib).1] at h1
      exact h1.symm)
    simp [h, this]

end Go.Proofs.Ytglodmmmcdjgcaa.Kk
/-
  A BATCH's BYTES, AND BACK.
-/
namespace Go.Proofs.Ytglodmmmcdjgcaa.Kk
open Go.RowKit Go.Sort

theorem hfk (k : K) (h : isKey k = true) (h2 : In64 k.2) : fromK (keyBytes k) = k := (from_keyBytes h h2).1
theorem fold_unfold (n : Nat) : fold (unfold n) = n := by
  unfold fold unfold
  split
  · split <;> omega
  · split <;> omega
theorem unfold_in {n : Nat} (h : n < 18446744073709551616) : In64 (unfold n) := by
  unfold unfold In64
  split <;> omega
/-- a number that was read -/
theorem upR_ate {b : List Nat} (hz : ∀ z ∈ b, z < 256) {most p n q : Nat} (hp : p ≤ b.length) (h : upR b most p = .ok (n, q)) : b.drop p = uint 10 n ++ b.drop q ∧ n ≤ most ∧ q = p + (uint 10 n).length ∧ q ≤ b.length ∧ n < 18446744073709551616 := by
  have hle := upto_le b p most
  unfold upR at h
  split at h
  · rename_i h0
    simp only [Except.ok.injEq, Prod.mk.injEq] at h
    obtain ⟨rfl, rfl⟩ := h
    unfold rdUpto at h0 hle ⊢
    rw [if_neg (by simp)] at h0 hle ⊢
    split at h0
    · rename_i hs; exact absurd (by simpa using h0) hs
    · rename_i hs
      rw [if_neg hs] at hle ⊢
      split at h0
      · cases h0
      · rename_i hm
        rw [if_neg hm] at hle ⊢
        obtain ⟨n, k, e⟩ : ∃ n k, scan (b.drop p) = (n, k, 0) := by
          have h3 : (scan (b.drop p)).2.2 = 0 := by simpa using hs
          exact ⟨(scan (b.drop p)).1, (scan (b.drop p)).2.1, by rw [← h3]⟩
        obtain ⟨h1, _, h3, h4⟩ := scan_one _ n k (fun z h => hz z (List.mem_of_mem_drop h)) e
        rw [e] at hle ⊢
        simp only at hle ⊢
        have hk : (uint 10 n).length = k := by rw [← h4, List.length_take]; omega
        rw [List.length_drop] at h3
        refine ⟨?_, hle, by rw [hk], by omega, h1⟩
        rw [← List.drop_drop, ← h4, List.take_append_drop]
  · cases h
theorem argsR_ate {b : List Nat} (hz : ∀ z ∈ b, z < 256) : ∀ (n : Nat) (acc A : List Int) (p q : Nat), p ≤ b.length → argsR b n acc p = .ok (A, q) → ∃ A', A = acc ++ A' ∧ A'.length = n ∧ b.drop p = argsT A' ++ b.drop q ∧ q = p + (argsT A').length ∧ q ≤ b.length ∧ ∀ z ∈ A', In64 z
  | 0, acc, A, p, q, hp, h => by
    simp only [argsR, Except.ok.injEq, Prod.mk.injEq] at h
    obtain ⟨rfl, rfl⟩ := h
    exact ⟨[], by simp, rfl, by simp [argsT], by simp [argsT], hp, by simp⟩
  | n + 1, acc, A, p, q, hp, h => by
    rw [argsR] at h
    unfold intR at h
    cases hu : upR b 18446744073709551615 p with
    | error x => rw [hu] at h; cases h
    | ok x =>
      obtain ⟨m, q1⟩ := x
      rw [hu] at h
      simp only at h
      obtain ⟨h1, _, h3, h4, h5⟩ := upR_ate hz hp hu
      obtain ⟨A', e, hl, hd, hq, hq2, hin⟩ := argsR_ate hz n _ A q1 q h4 h
      have ea : argsT (unfold m :: A') = uint 10 m ++ argsT A' := by simp [argsT, fold_unfold]
      refine ⟨unfold m :: A', by rw [e]; simp, by simp [hl], by rw [ea, List.append_assoc, ← hd, h1], by rw [ea, hq, h3, List.length_append]; omega, hq2, fun z hz => ?_⟩
      rcases List.mem_cons.1 hz with rfl | hz
      · exact unfold_in h5
      · exact hin z hz
theorem argR_ate {b : List Nat} (hz : ∀ z ∈ b, z < 256) {p q : Nat} {A : List Int} (hp : p ≤ b.length) (h : argR b p = .ok (A, q)) : b.drop p = argsN A ++ b.drop q ∧ A.length ≤ 16 ∧ q = p + (argsN A).length ∧ q ≤ b.length ∧ ∀ z ∈ A, In64 z := by
  unfold argR at h
  cases hu : upR b 16 p with
  | error x => rw [hu] at h; cases h
  | ok x =>
    obtain ⟨n, q1⟩ := x
    rw [hu] at h
    simp only at h
    obtain ⟨h1, h2, h3, h4, h5⟩ := upR_ate hz hp hu
    obtain ⟨A', e, hl, hd, hq, hq2, hin⟩ := argsR_ate hz n [] A q1 q h4 h
    rw [List.nil_append] at e
    subst e
    subst hl
    have ea : argsN A = uint 10 A.length ++ argsT A := rfl
    exact ⟨by rw [ea, List.append_assoc, ← hd, h1], h2, by rw [ea, hq, h3, List.length_append]; omega, hq2, hin⟩
theorem keysR_ate {b : List Nat} (hz : ∀ z ∈ b, z < 256) : ∀ (n : Nat) (acc L : List K) (p q : Nat), p ≤ b.length → Rise acc → keysR b n acc p = .ok (L, q) → Rise L ∧ ∃ L', L = acc ++ L' ∧ L'.length = n ∧ b.drop p = L'.flatMap keyBytes ++ b.drop q ∧ q = p + L'.length * 10 ∧ q ≤ b.length ∧ ∀ z ∈ L', KIn z
  | 0, acc, A, p, q, hp, hr, h => by
    simp only [keysR, Except.ok.injEq, Prod.mk.injEq] at h
    obtain ⟨rfl, rfl⟩ := h
    exact ⟨hr, [], by simp, rfl, by simp, by simp, hp, by simp⟩
  | n + 1, acc, A, p, q, hp, hr, h => by
    rw [keysR] at h
    unfold keyR at h
    by_cases hl : p + 10 ≤ b.length
    · rw [if_pos hl] at h
      simp only at h
      have h10 : ((b.drop p).take 10).length = 10 := by simp; omega
      have hb : ∀ z ∈ (b.drop p).take 10, z < 256 := fun z h => hz z (List.mem_of_mem_drop (List.mem_of_mem_take h))
      obtain ⟨k1, k2, k3⟩ := keyBytes_from h10 hb
      have ek : fromK ((b.drop p).take 10) = fromB ((b.drop p).take 10) := by unfold fromK; rw [if_pos h10]
      rw [ek] at h
      generalize hk : fromB ((b.drop p).take 10) = k at *
      split at h
      · cases h
      · rename_i hlt
        have hr2 : Rise (acc ++ [k]) := by
          refine rise_snoc hr k1 (fun i y hi hy => ?_)
          have hne : acc ≠ [] := by intro e; rw [e] at hi; simp at hi
          have hkd : kd acc (acc.length - 1) = y := by
            have := kd_get (L := acc) (j := acc.length - 1) (by omega)
            rw [show acc.length - 1 = i by omega, hy] at this
            rw [show acc.length - 1 = i by omega]
            exact (Option.some.inj this).symm
          cases hc : lt y k with
          | true => rfl
          | false => exact absurd ⟨hne, by rw [hkd]; exact hc⟩ hlt
        obtain ⟨hR, L', e, hl', hd, hq, hq2, hin⟩ := keysR_ate hz n _ A (p + 10) q hl hr2 h
        refine ⟨hR, k :: L', by rw [e]; simp, by simp [hl'], ?_, by rw [hq, List.length_cons]; omega, hq2, fun z hz' => ?_⟩
        · rw [List.flatMap_cons, List.append_assoc, ← hd, k3, ← List.drop_drop, List.take_append_drop]
        · rcases List.mem_cons.1 hz' with rfl | hz'
          · refine ⟨?_, k2⟩
            rw [isKey_iff'] at k1
            unfold In64; omega
          · exact hin z hz'
    · rw [if_neg hl] at h; cases h
theorem setR_ate {b : List Nat} (hz : ∀ z ∈ b, z < 256) {p q : Nat} {L : List K} (hp : p ≤ b.length) (h : setR b 16 p = .ok (L, q)) : b.drop p = setN L ++ b.drop q ∧ L.length ≤ 16 ∧ q = p + (setN L).length ∧ q ≤ b.length ∧ Rise L ∧ ∀ z ∈ L, KIn z := by
  unfold setR at h
  cases hu : upR b 16 p with
  | error x => rw [hu] at h; cases h
  | ok x =>
    obtain ⟨n, q1⟩ := x
    rw [hu] at h
    simp only at h
    obtain ⟨h1, h2, h3, h4, h5⟩ := upR_ate hz hp hu
    obtain ⟨hR, A', e, hl, hd, hq, hq2, hin⟩ := keysR_ate hz n [] L q1 q h4 rise_nil h
    rw [List.nil_append] at e
    subst e
    subst hl
    have ea : setN L = uint 10 L.length ++ L.flatMap keyBytes := rfl
    exact ⟨by rw [ea, List.append_assoc, ← hd, h1], h2, by rw [ea, hq, h3, List.length_append, keysT_length]; omega, hq2, hR, hin⟩
theorem txR_ate {b : List Nat} (hz : ∀ z ∈ b, z < 256) {p q : Nat} {t : Tp} (hp : p ≤ b.length) (h : txR b p = .ok (t, q)) : b.drop p = txN t ++ b.drop q ∧ q = p + (txN t).length ∧ q ≤ b.length ∧ WF t ∧ TIn t := by
  unfold txR at h
  cases h1 : upR b 63 p with
  | error x => rw [h1] at h; cases h
  | ok x =>
    obtain ⟨n, p1⟩ := x
    rw [h1] at h; simp only at h
    obtain ⟨d1, l1, q1, b1, n1⟩ := upR_ate hz hp h1
    cases h2 : argR b p1 with
    | error x => rw [h2] at h; cases h
    | ok x =>
      obtain ⟨A, p2⟩ := x
      rw [h2] at h; simp only at h
      obtain ⟨d2, l2, q2, b2, i2⟩ := argR_ate hz b1 h2
      cases h3 : setR b 16 p2 with
      | error x => rw [h3] at h; cases h
      | ok x =>
        obtain ⟨R, p3⟩ := x
        rw [h3] at h; simp only at h
        obtain ⟨d3, l3, q3, b3, r3, i3⟩ := setR_ate hz b2 h3
        cases h4 : setR b 16 p3 with
        | error x => rw [h4] at h; cases h
        | ok x =>
          obtain ⟨V, p4⟩ := x
          rw [h4] at h; simp only [Except.ok.injEq, Prod.mk.injEq] at h
          obtain ⟨d4, l4, q4, b4, r4, i4⟩ := setR_ate hz b3 h4
          obtain ⟨rfl, rfl⟩ := h
          have e : txN ⟨(n : Int), A, R, V⟩ = uint 10 n ++ (argsN A ++ (setN R ++ setN V)) := by simp [txN]
          refine ⟨by rw [e]; simp only [List.append_assoc]; rw [← d4, ← d3, ← d2, ← d1], by rw [e, q4, q3, q2, q1]; simp only [List.length_append]; omega, b4, ⟨?_, ?_, l2, l3, l4, r3, r4⟩, ⟨i2, i3, i4⟩⟩
          · show (0 : Int) ≤ (n : Int); omega
          · show (n : Int) < 64; omega
theorem txsR_ate {b : List Nat} (hz : ∀ z ∈ b, z < 256) : ∀ (n : Nat) (acc T : List Tp) (p q : Nat), p ≤ b.length → txsR b n acc p = .ok (T, q) → ∃ T', T = acc ++ T' ∧ T'.length = n ∧ b.drop p = T'.flatMap txN ++ b.drop q ∧ q = p + (T'.flatMap txN).length ∧ q ≤ b.length ∧ ∀ t ∈ T', WF t ∧ TIn t
  | 0, acc, A, p, q, hp, h => by
    simp only [txsR, Except.ok.injEq, Prod.mk.injEq] at h
    obtain ⟨rfl, rfl⟩ := h
    exact ⟨[], by simp, rfl, by simp, by simp, hp, by simp⟩
  | n + 1, acc, A, p, q, hp, h => by
    rw [txsR] at h
    cases hu : txR b p with
    | error x => rw [hu] at h; cases h
    | ok x =>
      obtain ⟨t, q1⟩ := x
      rw [hu] at h
      simp only at h
      obtain ⟨h1, h3, h4, h5, h6⟩ := txR_ate hz hp hu
      obtain ⟨A', e, hl, hd, hq, hq2, hin⟩ := txsR_ate hz n _ A q1 q h4 h
      refine ⟨t :: A', by rw [e]; simp, by simp [hl], by rw [List.flatMap_cons, List.append_assoc, ← hd, h1], by rw [List.flatMap_cons, hq, h3, List.length_append]; omega, hq2, fun z hz => ?_⟩
      rcases List.mem_cons.1 hz with rfl | hz
      · exact ⟨h5, h6⟩
      · exact hin z hz
/-- what is read is what is written -/
theorem decR_back {b : List Nat} (hz : ∀ z ∈ b, z < 256) {T : List Tp} (h : decR b = .ok T) : batN T = b ∧ T.length ≤ 64 ∧ ∀ t ∈ T, WF t ∧ TIn t := by
  unfold decR at h
  cases hb : batR b 0 with
  | error x => rw [hb] at h; cases h
  | ok x =>
    obtain ⟨T1, q⟩ := x
    rw [hb] at h; simp only at h
    split at h
    · rename_i hq
      simp only [Except.ok.injEq] at h
      subst h
      unfold batR at hb
      cases hu : upR b 64 0 with
      | error x => rw [hu] at hb; cases hb
      | ok x =>
        obtain ⟨n, q1⟩ := x
        rw [hu] at hb; simp only at hb
        obtain ⟨h1, h2, h3, h4, h5⟩ := upR_ate hz (Nat.zero_le _) hu
        obtain ⟨A', e, hl, hd, _, _, hin⟩ := txsR_ate hz n [] T1 q1 q h4 hb
        rw [List.nil_append] at e
        subst e
        subst hl
        refine ⟨?_, h2, hin⟩
        unfold batN
        rw [hq, List.drop_length, List.append_nil] at hd
        rw [← hd, ← h1]; simp
    · cases h
end Go.Proofs.Ytglodmmmcdjgcaa.Kk
