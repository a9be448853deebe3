import Derived.Test.YtiiplikmoodfnaaGreatDoorKLFits
import Derived.Deep.DeepCutAuto
import Derived.Great.BuildSlice
import Derived.WalkMore
import Derived.Laws.Tables
import Derived.Deep.MidRow
/-
  THE WALK OF search.
-/
namespace Go.Proofs.YtiiplikmoodfnaaGreatDoor
open Go.RowKit Go.Sort

def SPost (L : List K) (B : Nat) (e : Ending) (w' : World) : Prop :=
  (runD L L.length = none ∧ e = .returned (.tuple #[.slice none 0 0, .int .i64 34])) ∨
  ∃ d g, runD L L.length = some d ∧ e = .returned (.tuple #[.slice (some ⟨g, 0, none⟩) (L.length + 1) (L.length + 1), .int .i64 0]) ∧ RowI w' g d ∧ B ≤ g
theorem start_set (n : Nat) : (List.replicate (n + 1) (-1 : Int)).set 0 0 = startD n := by simp [startD, List.replicate_succ]
/-- what stands while an instruction is gone over -/
def SI (w W : World) (G B : Nat) (op a : Int) (d : List Int) : Prop := W.cell? ⟨B, 0, none⟩ = some (.int .i64 op) ∧ W.cell? ⟨B, 1, none⟩ = some (.int .i64 a) ∧ RowI W G d ∧ Below w.heap.size w W
theorem SI.kept {w W W' : World} {G B : Nat} {op a : Int} {d : List Int} (h : SI w W G B op a d) (hb : Below W.heap.size W W') : SI w W' G B op a d :=
  ⟨(hb.cell (p := ⟨B, 0, none⟩) (cell_lt h.1)).trans h.1, (hb.cell (p := ⟨B, 1, none⟩) (cell_lt h.2.1)).trans h.2.1, h.2.2.1.kept hb, h.2.2.2.trans (hb.mono h.2.2.2.size)⟩
theorem SI.new {w wr : World} {G : Nat} {d : List Int} (op a : Int) (h1 : RowI wr G d) (h2 : Below w.heap.size w wr) :
    SI w (wr.alloc (.cells #[.int .i64 op, .int .i64 a] 76)) G wr.heap.size op a d := by
  have hb : Below wr.heap.size wr (wr.alloc (.cells #[.int .i64 op, .int .i64 a] 76)) := (Below.refl _ _).alloc (Nat.le_refl _) _
  obtain ⟨k1, k2⟩ := Box.new (w := wr) (b := wr.heap.size) (x := op) (y := a) rfl
  exact ⟨k1, k2, h1.kept hb, h2.trans (hb.mono h2.size)⟩
/-- two numbers in a block of their own -/
def ArrAt (W : World) (B : Nat) (x y : Int) : Prop := W.heap[B]? = some (.cells #[.int .i64 x, .int .i64 y] 179 (0, 0))
theorem arr_new (w : World) (x y : Int) : ArrAt (w.alloc (.cells #[.int .i64 x, .int .i64 y] 179)) w.heap.size x y := heap_alloc_new _ _ rfl
theorem ArrAt.lt {W : World} {B : Nat} {x y : Int} (h : ArrAt W B x y) : B < W.heap.size := (Array.getElem?_eq_some_iff.1 h).1
theorem ArrAt.cell {W : World} {B : Nat} {x y : Int} (h : ArrAt W B x y) : W.cell? ⟨B, 0, none⟩ = some (.int .i64 x) ∧ W.cell? ⟨B, 1, none⟩ = some (.int .i64 y) := by
  constructor <;> simp [World.cell?, show W.heap[B]? = _ from h]
theorem ArrAt.ne {W : World} {B G : Nat} {x y : Int} {d : List Int} (h : ArrAt W B x y) (hr : RowI W G d) : B ≠ G := by
  rintro rfl
  unfold RowI at hr
  rw [show W.heap[B]? = _ from h] at hr
  simp at hr
theorem ArrAt.set {W : World} {B G : Nat} {x y : Int} (h : ArrAt W B x y) (hne : B ≠ G) (i : Nat) (v : Value) : ArrAt (W.setCell ⟨G, i, none⟩ v) B x y := by
  unfold ArrAt; rw [heap_setCell_other W ⟨G, i, none⟩ B v hne]; exact h
/-- the j-th place of two -/
def arrD (x y : Int) (j : Nat) : Int := if j = 0 then x else y
theorem ArrAt.at {W : World} {B : Nat} {x y : Int} (h : ArrAt W B x y) (j : Nat) (hj : j < 2) : W.cell? ⟨B, j, none⟩ = some (.int .i64 (arrD x y j)) := by
  match j, hj with
  | 0, _ => exact h.cell.1
  | 1, _ => exact h.cell.2
theorem arr_next {L : List K} (h : Sane L) {i : Nat} (hi : i < L.length) (j : Nat) (hj : j < (nextN i (cd L i).1 (cd L i).2).length) :
    arrD (onw i (cd L i).1 (cd L i).2).1 (onw i (cd L i).1 (cd L i).2).2.1 j = (((nextN i (cd L i).1 (cd L i).2).getD j 0 : Nat) : Int) := by
  obtain ⟨_, h2, h3⟩ := onw_next h hi
  have h4 := next_two i (cd L i).1 (cd L i).2
  generalize nextN i (cd L i).1 (cd L i).2 = nx at *
  match nx, j with
  | [], j => simp at hj
  | t :: r, 0 => simpa [arrD] using h2 t r rfl
  | [t], j + 1 => simp at hj
  | t :: u :: r, 1 => simpa [arrD] using h3 t u r rfl
  | t :: u :: r, j + 2 => simp only [List.length_cons] at hj h4; omega
theorem putD_none {d : List Int} {x : Int} {t : Nat} {r : List Nat} (h1 : d.getD t 0 ≠ -1) (h2 : d.getD t 0 ≠ x) : putD d x (t :: r) = none := by
  unfold putD; rw [if_pos ⟨h1, h2⟩]
theorem putD_some {d : List Int} {x : Int} {t : Nat} {r : List Nat} (h : d.getD t 0 = -1 ∨ d.getD t 0 = x) : putD d x (t :: r) = putD (d.set t x) x r := by
  rw [putD, if_neg (by rintro ⟨h1, h2⟩; rcases h with h | h; exact h1 h; exact h2 h)]
theorem drop_getD (nx : List Nat) (j : Nat) (h : j < nx.length) : nx.drop j = nx.getD j 0 :: nx.drop (j + 1) := by
  rw [List.drop_eq_getElem_cons h, List.getD_eq_getElem?_getD, List.getElem?_eq_getElem h]; rfl

theorem slice_arr (u : World) (B c : Nat) (hc : c ≤ 2) : (Instr.sliceAt 179 (.pointer (some ⟨B, 0, none⟩)) none (some (.int .i64 (c : Int))) none).run Tryz.prog u = .ok (.slice (some ⟨B, 0, none⟩) c 2) u := by
  have hl : Tryz.prog.arrayLen 179 = 2 := by kernel_rfl
  have he : Tryz.prog.elem 179 = 3 := by kernel_rfl
  have h := run_sliceAt_array_h (P := Tryz.prog) u 179 ⟨B, 0, none⟩ (by rw [hl, he]; exact Tryz.underlying179) .i64 (c : Int) (by omega) (by rw [hl]; omega)
  rw [h, hl, he]
  obtain ⟨i0, hi, hz0, hz1, hz2⟩ := info_parts infoI
  simp [sizeOf, typeInfo, hi, slicedAt, addr_add]
theorem cell_new1 (w : World) (v : Value) (t : TypeId) : (w.alloc (.cells #[v] t)).cell? ⟨w.heap.size, 0, none⟩ = some v := by
  have h := heap_alloc_new (w := w) (.cells #[v] t) w.heap.size rfl
  unfold World.cell?
  rw [h]
  rfl
/-- []int{-1} -/
theorem build_one (u : World) : (Instr.buildSlice 120 1 #[(0, .int .i64 (-1))]).run Tryz.prog u = .ok (.slice (some ⟨u.heap.size, 0, none⟩) 1 1) (u.alloc (.cells #[.int .i64 (-1)] 3)) := by
  obtain ⟨i0, hi, hz0, hz1, hz2⟩ := info_parts infoI
  refine run_buildSlice u 120 3 1 _ #[.int .i64 (-1)] i0 (.int .i64 0) Tryz.underlying120 hi hz0 (by rw [hz1]; omega) (by rw [hz1]; omega) ?_
  rw [hz1]
  simp [Instr.fill, Value.cells]
  apply Array.ext'
  simp [Array.range]

set_option maxRecDepth 100000 in
set_option maxHeartbeats 1000000 in
theorem search_any (w : World) (ao : Option Addr) (n cap : Nat) (L : List K) (h : KeysAt w ao L) (hn : n = L.length) (hm : n ≤ 256) (hs : Sane L) :
    Calls Tryz.prog 84 #[.slice ao n cap] w fun e w' => SPost L w.heap.size e w' ∧ Below w.heap.size w w' := by
  have HL : Hid (KeysAt w ao L) := h
  have HN : Hid (n = L.length) := hn
  have HS : Hid (Sane L) := hs
  have hbs := build_one
  clear h hn hs
  go_enter Tryz.func84, Tryz.ntmps84
  go_wp2_with fail
  go_step3
  go_wp2_with fail
  rw [show ((n : Int) + 1) = ((n + 1 : Nat) : Int) by omega]
  refine (repeat_any _ _ (n + 1) (cell_new1 _ _ _) (by omega) (by omega)).mono ?_
  rintro e w1 ⟨rfl, hr, hb⟩
  obtain ⟨G, hG⟩ : ∃ G, G = (w.alloc (.cells #[.int .i64 (-1)] 3)).heap.size := ⟨_, rfl⟩
  rw [← hG] at hr ⊢
  have hf := hr.frozen 0
  have hc0 := hr.cell 0 (by simp)
  have HR1 : Hid (RowI (w1.setCell ⟨G, 0, none⟩ (.int .i64 0)) G (startD n)) := by have := hr.set 0 0; rwa [start_set] at this
  have HG : Hid (w.heap.size ≤ G) := by rw [hG]; simp [Hid]
  have HB1 : Hid (Below w.heap.size w (w1.setCell ⟨G, 0, none⟩ (.int .i64 0))) := below_set (((Below.refl _ _).alloc (Nat.le_refl _) _).trans (hb.mono (by simp))) _ _ HG.out
  clear hr hb hG
  clear hbs
  go_wp2_with fail
  go_step3
  go_wp2_with fail
  generalize w1.setCell ⟨G, 0, none⟩ (.int .i64 0) = w0 at *
  clear hf hc0
  go_loopw [5, 23] (fun er x wr => ∃ (k : Nat) (d : List Int), k ≤ n ∧ er = .int .i64 0 ∧ x = .int .i64 (k : Int) ∧ Hid (runD L k = some d) ∧ Hid (RowI wr G d) ∧ Hid (Below w.heap.size w wr)) (fun _ x _ => n - (intOf x).toNat)
  case atStart => exact ⟨0, startD n, by omega, rfl, rfl, by rw [HN.out]; rfl, HR1, HB1⟩
  case round =>
    clear HR1 HB1
    obtain ⟨k, d, hk, rfl, rfl, HRun, HR, HB⟩ := hrel
    have HD : Hid (d.length = n + 1) := by have := runD_length HRun.out; rwa [← HN.out] at this
    by_cases hlt : k < n
    · have HK : Hid (k < L.length) := by have := HN.out; show k < L.length; omega
      obtain ⟨b, off, rfl, c1, c2⟩ := (HL.out.kept HB.out).get k HK.out
      have HO : Hid (isOpB (cd L k).1 = true) := (HS.out k HK.out).1
      have HSt : Hid (∀ d', stepD (cd L k) k d = some d' → runD L (k + 1) = some d') := fun d' h => by rw [runD, HRun.out]; exact h
      have HSn : Hid (stepD (cd L k) k d = none → runD L L.length = none) := fun h => runD_stuck (k := k + 1) (by rw [runD, HRun.out]; exact h) _ HK.out
      have hcx := HR.out.cell k (by have := HD.out; omega)
      have HM : Hid (-1 ≤ d.getD k 0 ∧ d.getD k 0 ≤ 32) := Mild.run HS.out (Nat.le_of_lt HK.out) HRun.out k (by have := HD.out; omega)
      have HNx : Hid (∀ j, j < (nextN k (cd L k).1 (cd L k).2).length → arrD (onw k (cd L k).1 (cd L k).2).1 (onw k (cd L k).1 (cd L k).2).2.1 j = (((nextN k (cd L k).1 (cd L k).2).getD j 0 : Nat) : Int)) := fun j hj => arr_next HS.out HK.out j hj
      have HNl : Hid ((onw k (cd L k).1 (cd L k).2).2.2 = ((nextN k (cd L k).1 (cd L k).2).length : Int)) := (onw_next HS.out HK.out).1
      have HNt : Hid (∀ t ∈ nextN k (cd L k).1 (cd L k).2, k < t ∧ t ≤ n) := by have := next_lt HS.out HK.out; rw [← HN.out] at this; exact this
      have HN2 : Hid ((nextN k (cd L k).1 (cd L k).2).length ≤ 2) := next_two _ _ _
      generalize hkk : cd L k = kk at *
      obtain ⟨op, a⟩ := kk
      have HKK : Hid (cd L k = (op, a)) := hkk
      clear hkk
      simp only at c1 c2 HO HNx HNl HNt HN2
      have HSI := SI.new (w := w) op a HR.out HB.out
      have HSI : Hid (SI w (wr.alloc (.cells #[.int .i64 op, .int .i64 a] 76)) G wr.heap.size op a d) := HSI
      have hbl : b < wr.heap.size := cell_lt c1
      have hGl : G < wr.heap.size := HR.out.lt
      generalize hx : d.getD k 0 = x at *
      have HX : Hid (d.getD k 0 = x) := hx
      clear hx
      by_cases h1 : x = -1
      · subst h1
        have HE := HSt.out d (by unfold stepD; rw [if_pos HX.out])
        have HE : Hid (runD L (k + 1) = some d) := HE
        go_wp2
        go_roundw
        case rel => exact ⟨k + 1, d, by omega, rfl, by go_num, HE, HSI.out.2.2.1, HSI.out.2.2.2⟩
        case measure => simp [intOf]; omega
      · have h1' : (x == -1) = false := by simpa using h1
        go_wp2_with fail
        obtain ⟨W, hW⟩ : ∃ W, W = (wr.alloc (.cells #[.int .i64 op, .int .i64 a] 76)) := ⟨_, rfl⟩
        rw [← hW] at HSI ⊢
        clear hW
        generalize wr.heap.size = B at *
        obtain ⟨tk0, tk2⟩ := takes_bound HO.out
        obtain ⟨lv0, lv2⟩ := leaves_bound HO.out
        obtain ⟨xl, xu⟩ := HM.out
        have cA := fun q os => cell_grown (cell_lt HSI.out.1) HSI.out.1 q os
        have cB := fun q os => cell_grown (w := W) (a := ⟨G, k, none⟩) (v := .int .i64 x) HSI.out.2.2.1.lt (by rw [HSI.out.2.2.1.cell k (by have := HD.out; omega), HX.out]) q os
        have mx := mixed
        refine wp_region_quiet_grown mx (by kernel_rfl) ?_
        repeat (go_big_quiet_step (first | (go_at_call 91; exact Calls.grown_of ((takes_any _ _ HO.out).mono fun e w' h => ⟨h.1, 0, #[], by rw [h.2, grow_empty]; rfl⟩))))
        refine wpQuiet_nil ?_
        intro _ hw'
        obtain ⟨⟨nq, osq⟩, hw''⟩ := hw'
        subst hw''
        clear cA cB mx
        have HS2 : Hid (SI w (grow (W.drewN nq) osq) G B op a d) := HSI.out.kept (Grew.grow (Grew.refl W) nq osq).below
        generalize grow (W.drewN nq) osq = W2 at *
        clear HSI
        have cA := HS2.out.1
        have cA1 := HS2.out.2.1
        go_wp2_with fail
        refine (leaves_any _ _ HO.out).mono ?_
        rintro e W3 ⟨rfl, rfl⟩
        have HSd : Hid (∀ r, (if x - takesN op < 0 ∨ 32 < x - takesN op + leavesN op then none else putD d (x - takesN op + leavesN op) (nextN k op a)) = r → stepD (op, a) k d = r) := fun r h => by
          unfold stepD; rw [HX.out, if_neg h1]; exact h
        generalize takesN op = tk at *
        generalize leavesN op = lv at *
        by_cases hl : x - tk < 0
        · have HE : Hid (runD L L.length = none) := HSn.out (HSd.out none (by rw [if_pos (.inl hl)]))
          go_wp2
          try rw [Exit.noGoto_ret]
          go_ret2
          exact ⟨.inl ⟨HE.out, rfl⟩, HS2.out.2.2.2⟩
        · have hl' : decide (x - tk < 0) = false := by simpa using hl
          by_cases hu : 32 < x - tk + lv
          · have HE : Hid (runD L L.length = none) := HSn.out (HSd.out none (by rw [if_pos (.inr hu)]))
            go_wp2
            try rw [Exit.noGoto_ret]
            go_ret2
            exact ⟨.inl ⟨HE.out, rfl⟩, HS2.out.2.2.2⟩
          · have hu' : decide (32 < x - tk + lv) = false := by simpa using hu
            have HSp : Hid (∀ r, putD d (x - tk + lv) (nextN k op a) = r → stepD (op, a) k d = r) := fun r h => HSd.out r (by rw [if_neg (by omega)]; exact h)
            clear HSd
            go_wp2_with fail
            refine (onward_any _ op a k (by omega)).mono ?_
            rintro e W4 ⟨rfl, hb4⟩
            have HS4 : Hid (SI w W4 G B op a d) := HS2.out.kept hb4
            have HA4 : Hid (ArrAt (W4.alloc (.cells #[.int .i64 (onw k op a).1, .int .i64 (onw k op a).2.1] 179)) W4.heap.size (onw k op a).1 (onw k op a).2.1) := arr_new _ _ _
            have HS5 : Hid (SI w (W4.alloc (.cells #[.int .i64 (onw k op a).1, .int .i64 (onw k op a).2.1] 179)) G B op a d) := HS4.out.kept ((Below.refl _ _).alloc (Nat.le_refl _) _)
            clear HS2 hb4 HS4 cA cA1
            rw [tripleV, HNl.out]
            clear HNl
            generalize (onw k op a).1 = X at *
            generalize (onw k op a).2.1 = Y at *
            generalize nextN k op a = nx at *
            have hc2 := HN2.out
            obtain ⟨c, hc⟩ : ∃ c, c = nx.length := ⟨_, rfl⟩
            rw [← hc] at hc2 ⊢
            have HC : Hid (c = nx.length) := hc
            clear hc
            have hsl := fun u => slice_arr u W4.heap.size c hc2
            go_wp2_with fail
            clear hsl
            generalize W4.heap.size = B2 at *
            generalize W4.alloc (.cells #[.int .i64 X, .int .i64 Y] 179) = W5 at *
            have HDep : Hid (x - tk + lv ≤ 32) := by show x - tk + lv ≤ 32; omega
            generalize x - tk + lv = dep at *
            clear c1 c2 hcx hbl hGl h1' hl hl' hu hu'
            generalize wr = wo at *
            go_loopw [5, 61] (fun er y wr => ∃ (j : Nat) (dj : List Int), j ≤ c ∧ er = .int .i64 0 ∧ y = .int .i64 (j : Int) ∧ Hid (putD d dep nx = putD dj dep (nx.drop j)) ∧ Hid (dj.length = n + 1) ∧ Hid (RowI wr G dj) ∧ Hid (ArrAt wr B2 X Y) ∧ Hid (Below w.heap.size w wr)) (fun _ y _ => c - (intOf y).toNat)
            case atStart => exact ⟨0, d, by omega, rfl, rfl, by rw [List.drop_zero]; rfl, HD, HS5.out.2.2.1, HA4, HS5.out.2.2.2⟩
            case round =>
              obtain ⟨j, dj, hj, rfl, rfl, HP, HDj, HRj, HAj, HBj⟩ := hrel
              by_cases hlj : j < c
              · have HJ : Hid (j < nx.length) := by have := HC.out; show j < nx.length; omega
                have ca := HAj.out.at j (by omega)
                rw [HNx.out j HJ.out] at ca
                have HT := HNt.out (nx.getD j 0) (by rw [List.getD_eq_getElem?_getD, List.getElem?_eq_getElem HJ.out]; simp)
                have HP' := HP.out
                rw [drop_getD nx j HJ.out] at HP'
                have HP1 : Hid (putD d dep nx = putD dj dep (nx.getD j 0 :: nx.drop (j + 1))) := HP'
                clear HP HP'
                generalize nx.getD j 0 = t at *
                obtain ⟨ht1, ht2⟩ := HT
                have cd1 := HRj.out.cell t (by have := HDj.out; omega)
                have cf := HRj.out.frozen t
                have HR2 : Hid (RowI (wr.setCell ⟨G, t, none⟩ (.int .i64 dep)) G (dj.set t dep)) := HRj.out.set t dep
                have HA2 : Hid (ArrAt (wr.setCell ⟨G, t, none⟩ (.int .i64 dep)) B2 X Y) := HAj.out.set (HAj.out.ne HRj.out) t _
                have HB2 : Hid (Below w.heap.size w (wr.setCell ⟨G, t, none⟩ (.int .i64 dep))) := below_set HBj.out _ _ HG.out
                have HD2 : Hid ((dj.set t dep).length = n + 1) := by rw [List.length_set]; exact HDj.out
                have HY0 : Hid (∀ y, dj.getD t 0 = y → dj.getD t 0 = y) := fun y h => h
                generalize hy : dj.getD t 0 = y at *
                have HY : Hid (dj.getD t 0 = y) := hy
                clear hy HY0
                by_cases hy1 : y = -1
                · subst hy1
                  have HP2 : Hid (putD d dep nx = putD (dj.set t dep) dep (nx.drop (j + 1))) := HP1.out.trans (putD_some (.inl HY.out))
                  go_wp2
                  go_roundw
                  case rel => exact ⟨j + 1, dj.set t dep, by omega, rfl, by go_num, HP2, HD2, HR2, HA2, HB2⟩
                  case measure => simp [intOf]; omega
                · have hy1' : (y != -1) = true := by simpa using hy1
                  by_cases hy2 : y = dep
                  · subst hy2
                    have HP2 : Hid (putD d y nx = putD (dj.set t y) y (nx.drop (j + 1))) := HP1.out.trans (putD_some (.inr HY.out))
                    go_wp2
                    go_roundw
                    case rel => exact ⟨j + 1, dj.set t y, by omega, rfl, by go_num, HP2, HD2, HR2, HA2, HB2⟩
                    case measure => simp [intOf]; omega
                  · have hy2' : (y != dep) = true := by simpa using hy2
                    have HE : Hid (runD L L.length = none) := HSn.out (HSp.out none (HP1.out.trans (putD_none (by rw [HY.out]; exact hy1) (by rw [HY.out]; exact hy2))))
                    go_wp2
                    try rw [Exit.noGoto_ret]
                    go_ret2
                    exact ⟨.inl ⟨HE.out, rfl⟩, HBj.out⟩
              · obtain rfl : j = c := by omega
                have HE : Hid (runD L (k + 1) = some dj) := HSt.out dj (HSp.out _ (HP.out.trans (by rw [HC.out, List.drop_length]; rfl)))
                go_wp2
                go_roundw
                case rel => exact ⟨k + 1, dj, by omega, rfl, by go_num, HE, HRj, HBj⟩
                case measure => simp [intOf]; omega
    · obtain rfl : k = n := by omega
      go_wp2
      try rw [Exit.noGoto_ret]
      go_ret2
      exact ⟨.inr ⟨d, G, by rw [← HN.out]; exact HRun.out, by rw [← HN.out]; rfl, HR.out, HG.out⟩, HB.out⟩

end Go.Proofs.YtiiplikmoodfnaaGreatDoor
/-
  THE WALKS OF Depths, Verify.
-/
namespace Go.Proofs.YtiiplikmoodfnaaGreatDoor
open Go.RowKit Go.Sort

/-- A PROGRAM IN A BOX -/
def PBox (W : World) (B : Nat) (p : Nums) (ao : Option Addr) (n cap : Nat) : Prop := W.heap[B]? = some (.cells #[.int .i64 p.args, .int .i64 p.reads, .int .i64 p.writes, .int .i64 p.locals, .slice ao n cap] 42 (0, 0))
theorem PBox.new (w : World) (p : Nums) (ao : Option Addr) (n cap : Nat) : PBox (w.alloc (.cells #[.int .i64 p.args, .int .i64 p.reads, .int .i64 p.writes, .int .i64 p.locals, .slice ao n cap] 42)) w.heap.size p ao n cap := heap_alloc_new _ _ rfl
theorem PBox.lt {W : World} {B : Nat} {p : Nums} {ao : Option Addr} {n cap : Nat} (h : PBox W B p ao n cap) : B < W.heap.size := (Array.getElem?_eq_some_iff.1 h).1
theorem PBox.below {W W' : World} {B C : Nat} {p : Nums} {ao : Option Addr} {n cap : Nat} (h : PBox W B p ao n cap) (hb : Below C W W') (hc : B < C) : PBox W' B p ao n cap := (hb.block B hc).trans h
theorem PBox.kept {W W' : World} {B : Nat} {p : Nums} {ao : Option Addr} {n cap : Nat} (h : PBox W B p ao n cap) (hb : Below W.heap.size W W') : PBox W' B p ao n cap := h.below hb h.lt
theorem PBox.cells {W : World} {B : Nat} {p : Nums} {ao : Option Addr} {n cap : Nat} (h : PBox W B p ao n cap) :
    W.cell? ⟨B, 0, none⟩ = some (.int .i64 p.args) ∧ W.cell? ⟨B, 1, none⟩ = some (.int .i64 p.reads) ∧ W.cell? ⟨B, 2, none⟩ = some (.int .i64 p.writes) ∧ W.cell? ⟨B, 3, none⟩ = some (.int .i64 p.locals) ∧ W.cell? ⟨B, 4, none⟩ = some (.slice ao n cap) := by
  refine ⟨?_, ?_, ?_, ?_, ?_⟩ <;> simp [World.cell?, show W.heap[B]? = _ from h]

def DPost (p : Nums) (L : List K) (B : Nat) (e : Ending) (w' : World) : Prop :=
  (verifyN p L ≠ 0 ∧ e = .returned (.tuple #[.slice none 0 0, .int .i64 (verifyN p L)])) ∨
  (verifyN p L = 0 ∧ ∃ g, e = .returned (.tuple #[.slice (some ⟨g, 0, none⟩) (L.length + 1) (L.length + 1), .int .i64 0]) ∧ RowI w' g (depthsN p L).1 ∧ B ≤ g)
theorem look_bound (p : Nums) (n i : Nat) (k : K) : 0 ≤ lookN p n i k ∧ lookN p n i k ≤ 33 := by
  unfold lookN; split; omega; split; omega; split <;> omega

set_option maxRecDepth 100000 in
set_option maxHeartbeats 1000000 in
theorem depths_any (w : World) (p : Nums) (ao : Option Addr) (n cap : Nat) (L : List K) (hp : NIn p) (h : KeysAt w ao L) (hn : n = L.length) :
    Calls Tryz.prog 77 #[pv p ao n cap] w fun e w' => DPost p L w.heap.size e w' ∧ Below w.heap.size w w' := by
  have HL : Hid (KeysAt w ao L) := h
  have HN : Hid (n = L.length) := hn
  have HP : Hid (NIn p) := hp
  clear h hn hp
  go_enter Tryz.func77, Tryz.ntmps77
  go_wp2_with fail
  refine (withinLimits_any _ p ao n cap).mono ?_
  rintro e w1 ⟨rfl, g1⟩
  have HB1 : Hid (PBox w1 w.heap.size p ao n cap) := (PBox.new w p ao n cap).kept (Grew.below g1)
  have HW1 : Hid (Below w.heap.size w w1) := ((Below.refl _ _).alloc (Nat.le_refl _) _).trans ((Grew.below g1).mono (by simp))
  clear g1
  obtain ⟨x0, x1, x2, x3, x4⟩ := HB1.out.cells
  cases hl : limB p n with
  | false =>
    have HV : Hid (verifyN p L = 30) := by unfold verifyN depthsN; rw [← HN.out, hl]; rfl
    go_wp2
    go_ret2
    exact ⟨.inl ⟨by rw [HV.out]; decide, by rw [HV.out]; rfl⟩, HW1.out⟩
  | true =>
    have hm : n ≤ 256 := ((limB_iff p n).1 hl).2.2.2.2
    have HLim : Hid (limB p L.length = true) := by rw [← HN.out]; exact hl
    clear hl
    go_wp2_with fail
    clear x0 x1 x2 x3 x4
    go_loopw [12] (fun x wr => ∃ k : Nat, k ≤ n ∧ x = .int .i64 (k : Int) ∧ Hid (lookAll p L k = 0) ∧ Hid (PBox wr w.heap.size p ao n cap) ∧ Hid (Below w.heap.size w wr)) (fun x _ => n - (intOf x).toNat)
    case atStart => exact ⟨0, by omega, rfl, rfl, HB1, HW1⟩
    case round =>
      clear HB1 HW1
      obtain ⟨k, hk, rfl, HA, HB, HW⟩ := hrel
      obtain ⟨x0, x1, x2, x3, x4⟩ := HB.out.cells
      by_cases hlt : k < n
      · go_wp2_with fail
        refine (look_any wr p ao n cap k L HP.out (HL.out.kept HW.out) HN.out hlt).mono ?_
        rintro e w2 ⟨rfl, hb2⟩
        have HB2 : Hid (PBox w2 w.heap.size p ao n cap) := HB.out.kept hb2
        have HW2 : Hid (Below w.heap.size w w2) := HW.out.trans (hb2.mono HW.out.size)
        have HLk : Hid (lookN p n k (cd L k) = 0 → lookAll p L (k + 1) = 0) := fun h => by
          unfold lookAll firstE
          rw [show firstE _ k = 0 from HA.out, if_neg (by simp), ← HN.out]; exact h
        have HLe : Hid (lookN p n k (cd L k) ≠ 0 → verifyN p L = lookN p n k (cd L k)) := fun h => by
          have e : lookAll p L L.length = lookN p n k (cd L k) := by
            have := firstE_stop (n := L.length) (f := fun i => lookN p L.length i (cd L i)) HA.out (by rw [← HN.out]; exact h) (by rw [← HN.out]; exact hlt)
            unfold lookAll; rw [this, ← HN.out]
          unfold verifyN depthsN
          rw [HLim.out, if_neg (by simp), if_pos (by rw [e]; exact h)]; exact e
        obtain ⟨lb0, lb1⟩ := look_bound p n k (cd L k)
        generalize lookN p n k (cd L k) = le at *
        clear hb2 x0 x1 x2 x3 x4
        by_cases h0 : le = 0
        · subst h0
          have HN2 : Hid (lookAll p L (k + 1) = 0) := HLk.out rfl
          go_wp2
          go_roundw
          case rel => exact ⟨k + 1, by omega, by go_num, HN2, HB2, HW2⟩
          case measure => simp [intOf]; omega
        · have h0' : (le != 0) = true := by simpa using h0
          have HV : Hid (verifyN p L = le) := HLe.out h0
          go_wp2
          go_ret2
          exact ⟨.inl ⟨by rw [HV.out]; exact h0, by rw [HV.out]; rfl⟩, HW2.out⟩
      · obtain rfl : k = n := by omega
        have HS : Hid (lookAll p L L.length = 0) := by rw [← HN.out]; exact HA.out
        go_wp2_with fail
        refine (search_any wr ao k cap L (HL.out.kept HW.out) HN.out hm (sane_of HS.out)).mono ?_
        rintro e w2 ⟨hs, hb2⟩
        have HW2 : Hid (Below w.heap.size w w2) := HW.out.trans (hb2.mono HW.out.size)
        rcases hs with ⟨h1, rfl⟩ | ⟨d, g, h1, rfl, h2, h3⟩
        · have HV : Hid (verifyN p L = 34) := by unfold verifyN depthsN; rw [HLim.out, if_neg (by simp), HS.out, if_neg (by simp), h1]; rfl
          go_wp2
          go_ret2
          exact ⟨.inl ⟨by rw [HV.out]; decide, by rw [HV.out]; rfl⟩, HW2.out⟩
        · have HV : Hid (depthsN p L = (d, 0)) := by unfold depthsN; rw [HLim.out, if_neg (by simp), HS.out, if_neg (by simp), h1]; rfl
          have HR : Hid (RowI w2 g d ∧ wr.heap.size ≤ g) := ⟨h2, h3⟩
          clear h1 h2 h3
          go_wp2
          go_ret2
          refine ⟨.inr ⟨by unfold verifyN; rw [HV.out], g, rfl, by rw [HV.out]; exact HR.out.1, Nat.le_trans HW.out.size HR.out.2⟩, HW2.out⟩

theorem verify_any (w : World) (p : Nums) (ao : Option Addr) (n cap : Nat) (L : List K) (hp : NIn p) (h : KeysAt w ao L) (hn : n = L.length) :
    Calls Tryz.prog 59 #[pv p ao n cap] w fun e w' => e = .returned (.int .i64 (verifyN p L)) ∧ Below w.heap.size w w' := by
  go_enter Tryz.func59, Tryz.ntmps59
  have hb0 : Below w.heap.size w (w.alloc (.cells #[.int .i64 p.args, .int .i64 p.reads, .int .i64 p.writes, .int .i64 p.locals, .slice ao n cap] 42)) := (Below.refl _ _).alloc (Nat.le_refl _) _
  have HC := depths_any (w.alloc (.cells #[.int .i64 p.args, .int .i64 p.reads, .int .i64 p.writes, .int .i64 p.locals, .slice ao n cap] 42)) p ao n cap L hp (h.kept hb0) hn
  have HB0 : Hid (Below w.heap.size w (w.alloc (.cells #[.int .i64 p.args, .int .i64 p.reads, .int .i64 p.writes, .int .i64 p.locals, .slice ao n cap] 42))) := hb0
  clear h hn hp hb0
  go_wp2_with fail
  refine HC.mono ?_
  rintro e w1 ⟨hd, hb1⟩
  have HB : Hid (Below w.heap.size w w1) := HB0.out.trans (hb1.mono HB0.out.size)
  rcases hd with ⟨h1, rfl⟩ | ⟨h1, g, rfl, h2, h3⟩
  · have HV : Hid (verifyN p L ≠ 0) := h1
    clear h1
    go_wp2
    go_ret
    exact ⟨rfl, HB.out⟩
  · have HV : Hid (verifyN p L = 0) := h1
    clear h1 h2 h3
    go_wp2
    go_ret
    exact ⟨by rw [HV.out]; rfl, HB.out⟩

end Go.Proofs.YtiiplikmoodfnaaGreatDoor
/-
  THE NAMES OF THE INSTRUCTIONS.
-/
namespace Go.Proofs.YtiiplikmoodfnaaGreatDoor
open Go.RowKit Go.Sort

def nmL : List ByteArray := [⟨#[115, 116, 111, 112]⟩, ⟨#[112, 117, 115, 104]⟩, ⟨#[112, 111, 112]⟩, ⟨#[100, 117, 112]⟩, ⟨#[108, 111, 97, 100]⟩, ⟨#[115, 97, 118, 101]⟩, ⟨#[97, 114, 103]⟩, ⟨#[103, 101, 116]⟩, ⟨#[104, 97, 115]⟩, ⟨#[103, 101, 116, 120]⟩, ⟨#[97, 100, 100]⟩, ⟨#[115, 117, 98]⟩, ⟨#[109, 117, 108]⟩, ⟨#[100, 105, 118]⟩, ⟨#[109, 111, 100]⟩, ⟨#[97, 110, 100]⟩, ⟨#[111, 114]⟩, ⟨#[120, 111, 114]⟩, ⟨#[115, 104, 108]⟩, ⟨#[115, 104, 114]⟩, ⟨#[110, 101, 103]⟩, ⟨#[110, 111, 116]⟩, ⟨#[101, 113]⟩, ⟨#[110, 101]⟩, ⟨#[108, 116]⟩, ⟨#[108, 101]⟩, ⟨#[103, 116]⟩, ⟨#[103, 101]⟩, ⟨#[109, 105, 110]⟩, ⟨#[109, 97, 120]⟩, ⟨#[106, 117, 109, 112]⟩, ⟨#[122, 101, 114, 111]⟩, ⟨#[112, 117, 116]⟩, ⟨#[100, 101, 108]⟩, ⟨#[112, 117, 116, 120]⟩, ⟨#[111, 117, 116]⟩, ⟨#[97, 98, 111, 114, 116]⟩]
def nmOf (op : Int) : ByteArray := nmL.getD op.toNat ⟨#[]⟩
def nmCells : Array Value := #[.string ⟨#[115, 116, 111, 112]⟩, .string ⟨#[112, 117, 115, 104]⟩, .string ⟨#[112, 111, 112]⟩, .string ⟨#[100, 117, 112]⟩, .string ⟨#[108, 111, 97, 100]⟩, .string ⟨#[115, 97, 118, 101]⟩, .string ⟨#[97, 114, 103]⟩, .string ⟨#[103, 101, 116]⟩, .string ⟨#[104, 97, 115]⟩, .string ⟨#[103, 101, 116, 120]⟩, .string ⟨#[97, 100, 100]⟩, .string ⟨#[115, 117, 98]⟩, .string ⟨#[109, 117, 108]⟩, .string ⟨#[100, 105, 118]⟩, .string ⟨#[109, 111, 100]⟩, .string ⟨#[97, 110, 100]⟩, .string ⟨#[111, 114]⟩, .string ⟨#[120, 111, 114]⟩, .string ⟨#[115, 104, 108]⟩, .string ⟨#[115, 104, 114]⟩, .string ⟨#[110, 101, 103]⟩, .string ⟨#[110, 111, 116]⟩, .string ⟨#[101, 113]⟩, .string ⟨#[110, 101]⟩, .string ⟨#[108, 116]⟩, .string ⟨#[108, 101]⟩, .string ⟨#[103, 116]⟩, .string ⟨#[103, 101]⟩, .string ⟨#[109, 105, 110]⟩, .string ⟨#[109, 97, 120]⟩, .string ⟨#[106, 117, 109, 112]⟩, .string ⟨#[122, 101, 114, 111]⟩, .string ⟨#[112, 117, 116]⟩, .string ⟨#[100, 101, 108]⟩, .string ⟨#[112, 117, 116, 120]⟩, .string ⟨#[111, 117, 116]⟩, .string ⟨#[97, 98, 111, 114, 116]⟩]
theorem nmCells_eq : nmCells = (nmL.map Value.string).toArray := rfl
theorem nmCells_get (i : Nat) (h : i < 37) : nmCells[i]? = some (.string (nmOf (i : Int))) := by
  have hl : nmL.length = 37 := rfl
  rw [nmCells_eq]
  simp [nmOf, List.getD_eq_getElem?_getD, List.getElem?_eq_getElem (show i < nmL.length by omega)]
theorem wpList_built {P : Program} {ops : Array Oper} {rest : List Oper} {o : Oper} {a : Act} {w : World} {Q : Exit → Act → World → Prop} (hg : o.guard = none) (t : TypeId) (parts : Array (Nat × Operand)) (ho : o.op = .build t parts) (cells : Array Value)
    (hc : P.built t (parts.map fun (i, x) => (i, a.eval x)).toList = some cells) (h : wpList P ops Q rest (a.put o.dst (.agg cells)) w) : wpList P ops Q (o :: rest) a w := by
  refine wpList_build hg t parts ho (by rw [hc]; rfl) ?_
  rw [hc]; exact h

set_option maxHeartbeats 400000 in
set_option maxRecDepth 100000 in
theorem refNames_any (w : World) : Calls Tryz.prog 61 #[] w fun e w' => e = .returned (.agg nmCells) ∧ Below w.heap.size w w' := by
  go_enter Tryz.func61, Tryz.ntmps61
  go_wp2_with (first | (refine wpList_built rfl 155 _ rfl nmCells (by kernel_rfl) ?_) | (refine wpList_store_row rfl _ _ _ rfl w.heap.size nmCells rfl rfl 155 _ (heap_alloc_new _ _ rfl) (by kernel_rfl) (by kernel_rfl) (by kernel_rfl) ?_))
  have hh := setRow_heap _ w.heap.size _ nmCells 155 (0, 0) (heap_alloc_new (w := w) (.cells #[.string ⟨#[]⟩, .string ⟨#[]⟩, .string ⟨#[]⟩, .string ⟨#[]⟩, .string ⟨#[]⟩, .string ⟨#[]⟩, .string ⟨#[]⟩, .string ⟨#[]⟩, .string ⟨#[]⟩, .string ⟨#[]⟩, .string ⟨#[]⟩, .string ⟨#[]⟩, .string ⟨#[]⟩, .string ⟨#[]⟩, .string ⟨#[]⟩, .string ⟨#[]⟩, .string ⟨#[]⟩, .string ⟨#[]⟩, .string ⟨#[]⟩, .string ⟨#[]⟩, .string ⟨#[]⟩, .string ⟨#[]⟩, .string ⟨#[]⟩, .string ⟨#[]⟩, .string ⟨#[]⟩, .string ⟨#[]⟩, .string ⟨#[]⟩, .string ⟨#[]⟩, .string ⟨#[]⟩, .string ⟨#[]⟩, .string ⟨#[]⟩, .string ⟨#[]⟩, .string ⟨#[]⟩, .string ⟨#[]⟩, .string ⟨#[]⟩, .string ⟨#[]⟩, .string ⟨#[]⟩] 155) w.heap.size rfl)
  have HB : Hid (Below w.heap.size w ((w.alloc (.cells #[.string ⟨#[]⟩, .string ⟨#[]⟩, .string ⟨#[]⟩, .string ⟨#[]⟩, .string ⟨#[]⟩, .string ⟨#[]⟩, .string ⟨#[]⟩, .string ⟨#[]⟩, .string ⟨#[]⟩, .string ⟨#[]⟩, .string ⟨#[]⟩, .string ⟨#[]⟩, .string ⟨#[]⟩, .string ⟨#[]⟩, .string ⟨#[]⟩, .string ⟨#[]⟩, .string ⟨#[]⟩, .string ⟨#[]⟩, .string ⟨#[]⟩, .string ⟨#[]⟩, .string ⟨#[]⟩, .string ⟨#[]⟩, .string ⟨#[]⟩, .string ⟨#[]⟩, .string ⟨#[]⟩, .string ⟨#[]⟩, .string ⟨#[]⟩, .string ⟨#[]⟩, .string ⟨#[]⟩, .string ⟨#[]⟩, .string ⟨#[]⟩, .string ⟨#[]⟩, .string ⟨#[]⟩, .string ⟨#[]⟩, .string ⟨#[]⟩, .string ⟨#[]⟩, .string ⟨#[]⟩] 155)).setRow w.heap.size nmCells)) := ((Below.refl _ _).alloc (Nat.le_refl _) _).trans (below_setRow _ (Nat.le_refl _))
  generalize (w.alloc (.cells #[.string ⟨#[]⟩, .string ⟨#[]⟩, .string ⟨#[]⟩, .string ⟨#[]⟩, .string ⟨#[]⟩, .string ⟨#[]⟩, .string ⟨#[]⟩, .string ⟨#[]⟩, .string ⟨#[]⟩, .string ⟨#[]⟩, .string ⟨#[]⟩, .string ⟨#[]⟩, .string ⟨#[]⟩, .string ⟨#[]⟩, .string ⟨#[]⟩, .string ⟨#[]⟩, .string ⟨#[]⟩, .string ⟨#[]⟩, .string ⟨#[]⟩, .string ⟨#[]⟩, .string ⟨#[]⟩, .string ⟨#[]⟩, .string ⟨#[]⟩, .string ⟨#[]⟩, .string ⟨#[]⟩, .string ⟨#[]⟩, .string ⟨#[]⟩, .string ⟨#[]⟩, .string ⟨#[]⟩, .string ⟨#[]⟩, .string ⟨#[]⟩, .string ⟨#[]⟩, .string ⟨#[]⟩, .string ⟨#[]⟩, .string ⟨#[]⟩, .string ⟨#[]⟩, .string ⟨#[]⟩] 155)).setRow w.heap.size nmCells = W at *
  have hr := World.rangeAt_of_block hh 0 37
  have e : (nmCells.extract 0 (0 + 37)).toList = nmCells.toList := by rfl
  rw [e] at hr
  have hld := run_loadVar_mid (P := Tryz.prog) W w.heap.size 0 155 nmCells.toList _ hr Tryz.underlying155 rfl (by kernel_rfl)
  refine bodyPost_ret (v := .agg nmCells) ?_ rfl ⟨rfl, HB.out⟩
  simp [results, Tryz.results61, Act.put, asAddr, hld]

def spellS (op : Int) : ByteArray := if isOpB op then nmOf op else ⟨#[]⟩
theorem spellS_op {op : Int} (h : isOpB op = true) : spellS op = nmOf op := by rw [spellS, h]; rfl
theorem spellS_no {op : Int} (h : isOpB op = false) : spellS op = ⟨#[]⟩ := by rw [spellS, h]; rfl
set_option maxHeartbeats 400000 in
set_option maxRecDepth 100000 in
theorem refSpell_any (w : World) (op : Int) : Calls Tryz.prog 78 #[.int .i64 op] w fun e w' => e = .returned (.string (spellS op)) ∧ Below w.heap.size w w' := by
  by_cases h0 : op < 0
  · go_enter Tryz.func78, Tryz.ntmps78
    have HE : Hid (spellS op = ⟨#[]⟩) := spellS_no (by simp [isOpB]; omega)
    go_wp2
    go_ret
    exact ⟨by rw [HE.out]; rfl, Below.refl _ _⟩
  · have h0' : decide (op < 0) = false := by simpa using h0
    by_cases h1 : 37 ≤ op
    · go_enter Tryz.func78, Tryz.ntmps78
      have HE : Hid (spellS op = ⟨#[]⟩) := spellS_no (by simp [isOpB]; omega)
      go_wp2
      go_ret
      exact ⟨by rw [HE.out]; rfl, Below.refl _ _⟩
    · have h1' : decide (37 ≤ op) = false := by simpa using h1
      obtain ⟨i, rfl⟩ : ∃ i : Nat, op = (i : Int) := ⟨op.toNat, by omega⟩
      have hi : i < 37 := by omega
      have HX : Hid (spellS (i : Int) = nmOf (i : Int)) := spellS_op (by simp [isOpB]; omega)
      have HC := nmCells_get i hi
      generalize nmOf (i : Int) = s at *
      go_enter Tryz.func78, Tryz.ntmps78
      go_wp2_with fail
      refine (refNames_any _).mono ?_
      rintro e w1 ⟨rfl, hb1⟩
      have HB1 : Hid (Below w.heap.size w w1) := hb1
      have HNm : Hid (nmCells[i]? = some (.string s)) := HC
      clear hb1 HC
      have hcell : ((w1.alloc (.cells #[.string ⟨#[]⟩, .string ⟨#[]⟩, .string ⟨#[]⟩, .string ⟨#[]⟩, .string ⟨#[]⟩, .string ⟨#[]⟩, .string ⟨#[]⟩, .string ⟨#[]⟩, .string ⟨#[]⟩, .string ⟨#[]⟩, .string ⟨#[]⟩, .string ⟨#[]⟩, .string ⟨#[]⟩, .string ⟨#[]⟩, .string ⟨#[]⟩, .string ⟨#[]⟩, .string ⟨#[]⟩, .string ⟨#[]⟩, .string ⟨#[]⟩, .string ⟨#[]⟩, .string ⟨#[]⟩, .string ⟨#[]⟩, .string ⟨#[]⟩, .string ⟨#[]⟩, .string ⟨#[]⟩, .string ⟨#[]⟩, .string ⟨#[]⟩, .string ⟨#[]⟩, .string ⟨#[]⟩, .string ⟨#[]⟩, .string ⟨#[]⟩, .string ⟨#[]⟩, .string ⟨#[]⟩, .string ⟨#[]⟩, .string ⟨#[]⟩, .string ⟨#[]⟩, .string ⟨#[]⟩] 155)).setRow w1.heap.size nmCells).cell? ⟨w1.heap.size, i, none⟩ = some (.string s) := (cell_setRow_same _ w1.heap.size i _ nmCells 155 (0, 0) (heap_alloc_new _ _ rfl)).trans HNm.out
      have HB2 : Hid (Below w.heap.size w ((w1.alloc (.cells #[.string ⟨#[]⟩, .string ⟨#[]⟩, .string ⟨#[]⟩, .string ⟨#[]⟩, .string ⟨#[]⟩, .string ⟨#[]⟩, .string ⟨#[]⟩, .string ⟨#[]⟩, .string ⟨#[]⟩, .string ⟨#[]⟩, .string ⟨#[]⟩, .string ⟨#[]⟩, .string ⟨#[]⟩, .string ⟨#[]⟩, .string ⟨#[]⟩, .string ⟨#[]⟩, .string ⟨#[]⟩, .string ⟨#[]⟩, .string ⟨#[]⟩, .string ⟨#[]⟩, .string ⟨#[]⟩, .string ⟨#[]⟩, .string ⟨#[]⟩, .string ⟨#[]⟩, .string ⟨#[]⟩, .string ⟨#[]⟩, .string ⟨#[]⟩, .string ⟨#[]⟩, .string ⟨#[]⟩, .string ⟨#[]⟩, .string ⟨#[]⟩, .string ⟨#[]⟩, .string ⟨#[]⟩, .string ⟨#[]⟩, .string ⟨#[]⟩, .string ⟨#[]⟩, .string ⟨#[]⟩] 155)).setRow w1.heap.size nmCells)) := (HB1.out.alloc HB1.out.size _).trans (below_setRow _ HB1.out.size)
      go_wp2_with (refine wpList_store_row rfl _ _ _ rfl w1.heap.size nmCells rfl rfl 155 _ (heap_alloc_new _ _ rfl) (by kernel_rfl) (by kernel_rfl) (by kernel_rfl) ?_)
      go_ret
      exact ⟨by rw [HX.out]; rfl, HB2.out⟩

/-- texts and numbers -/
theorem nm_ne {i j : Int} (hi : isOpB i = true) (hj : isOpB j = true) : nmOf i = nmOf j ↔ i = j := by
  constructor
  · intro h
    have hd : ∀ a b : Fin 37, (nmL.getD a.val ⟨#[]⟩).data.toList = (nmL.getD b.val ⟨#[]⟩).data.toList → a = b := by decide +kernel
    simp only [isOpB, Bool.and_eq_true, decide_eq_true_eq] at hi hj
    have h2 := hd ⟨i.toNat, by omega⟩ ⟨j.toNat, by omega⟩ (by rw [show nmL.getD i.toNat ⟨#[]⟩ = nmL.getD j.toNat ⟨#[]⟩ from h])
    simp at h2
    omega
  · rintro rfl; rfl

end Go.Proofs.YtiiplikmoodfnaaGreatDoor
/-
  THE WALKS OF Spell, Op, Wants.
-/
namespace Go.Proofs.YtiiplikmoodfnaaGreatDoor
open Go.RowKit Go.Sort

/-- THE TABLE OF NAMES -/
def NmAt (W : World) : Prop := ∀ i, i < 37 → W.cell? ⟨2, i, none⟩ = some (.string (nmOf (i : Int)))
theorem NmAt.kept {W W' : World} (h : NmAt W) (hb : Below W.heap.size W W') : NmAt W' := fun i hi => by
  rw [hb.cell (p := ⟨2, i, none⟩) (cell_lt (h i hi))]; exact h i hi
theorem NmAt.range {W : World} (h : NmAt W) : W.rangeAt 2 0 nmCells.toList := by
  intro j v hv
  have hj : j < 37 := (List.getElem?_eq_some_iff.1 hv).1
  have e := nmCells_get j hj
  rw [Array.getElem?_toList] at hv
  rw [e] at hv
  rw [Nat.zero_add, h j hj]
  exact hv
set_option maxRecDepth 100000 in
theorem nm_index (k : Nat) (hk : k < 37) : ∀ w, (Go.Instr.index 155 (.agg nmCells) (.int .i64 (k : Int))).run Tryz.prog w = .ok (.string (nmOf (k : Int))) w := by
  obtain rfl | rfl | rfl | rfl | rfl | rfl | rfl | rfl | rfl | rfl | rfl | rfl | rfl | rfl | rfl | rfl | rfl | rfl | rfl | rfl | rfl | rfl | rfl | rfl | rfl | rfl | rfl | rfl | rfl | rfl | rfl | rfl | rfl | rfl | rfl | rfl | rfl : k = 0 ∨ k = 1 ∨ k = 2 ∨ k = 3 ∨ k = 4 ∨ k = 5 ∨ k = 6 ∨ k = 7 ∨ k = 8 ∨ k = 9 ∨ k = 10 ∨ k = 11 ∨ k = 12 ∨ k = 13 ∨ k = 14 ∨ k = 15 ∨ k = 16 ∨ k = 17 ∨ k = 18 ∨ k = 19 ∨ k = 20 ∨ k = 21 ∨ k = 22 ∨ k = 23 ∨ k = 24 ∨ k = 25 ∨ k = 26 ∨ k = 27 ∨ k = 28 ∨ k = 29 ∨ k = 30 ∨ k = 31 ∨ k = 32 ∨ k = 33 ∨ k = 34 ∨ k = 35 ∨ k = 36 := by omega
  all_goals exact fun _ => by kernel_rfl
/-- the first instruction of a name -/
def findN (s : ByteArray) : Nat → Option Nat
  | 0 => none
  | k + 1 => match findN s k with
    | some i => some i
    | none => if ((nmOf (k : Int)).toList == s.toList) = true then some k else none
def opR (s : ByteArray) : Nat × Bool := match findN s 37 with
  | some i => (i, true)
  | none => (0, false)
theorem find_stop {s : ByteArray} {k n : Nat} (h : findN s k = none) (hk : ((nmOf (k : Int)).toList == s.toList) = true) (hn : k < n) : findN s n = some k := by
  induction n with
  | zero => omega
  | succ n ih =>
    unfold findN
    by_cases e : k = n
    · subst e; rw [h]; simp only [hk, if_true]
    · rw [ih (by omega)]
theorem find_next {s : ByteArray} {k : Nat} (h : findN s k = none) (hk : ((nmOf (k : Int)).toList == s.toList) = false) : findN s (k + 1) = none := by
  unfold findN; rw [h]; simp [hk]
set_option maxRecDepth 100000 in
set_option maxHeartbeats 1000000 in
theorem op_any (w : World) (s : ByteArray) (h : NmAt w) : Calls Tryz.prog 47 #[.string s] w fun e w' => e = .returned (.tuple #[.int .i64 ((opR s).1 : Int), .bool (opR s).2]) ∧ w' = w := by
  have HR : Hid (w.rangeAt 2 0 nmCells.toList) := h.range
  clear h
  go_enter Tryz.func47, Tryz.ntmps47
  go_wp2_with (refine wpList_load_mid rfl 155 _ rfl 2 0 rfl nmCells.toList _ HR.out Tryz.underlying155 rfl (by kernel_rfl) ?_)
  obtain ⟨nc, hnc⟩ : ∃ nc, nc = nmCells := ⟨_, rfl⟩
  rw [← hnc]
  have HNc : Hid (nmCells = nc) := hnc.symm
  clear hnc
  go_loop [7] (fun x => ∃ k : Nat, k ≤ 37 ∧ x = .int .i64 (k : Int) ∧ Hid (findN s k = none)) (fun x => 37 - (intOf x).toNat)
  case atStart => exact ⟨0, by omega, rfl, rfl⟩
  case round =>
    obtain ⟨k, hk, rfl, HA⟩ := hrel
    by_cases hlt : k < 37
    · have hix := nm_index k hlt
      rw [HNc.out] at hix
      have HS : Hid (((nmOf (k : Int)).toList == s.toList) = true → opR s = (k, true)) := fun h => by unfold opR; rw [find_stop HA.out h hlt]
      have HT : Hid (((nmOf (k : Int)).toList == s.toList) = false → findN s (k + 1) = none) := find_next HA.out
      generalize nmOf (k : Int) = nm at *
      cases hq : nm.toList == s.toList with
      | true =>
        have HV : Hid (opR s = (k, true)) := HS.out hq
        go_wp2
        go_ret2
        exact ⟨by rw [HV.out]; rfl, rfl⟩
      | false =>
        have HV : Hid (findN s (k + 1) = none) := HT.out hq
        go_wp2
        go_round
        case rel => exact ⟨k + 1, by omega, by go_num, HV⟩
        case measure => simp [intOf]; omega
    · obtain rfl : k = 37 := by omega
      have HV : Hid (opR s = (0, false)) := by show opR s = _; unfold opR; rw [HA.out]
      go_wp2
      go_ret2
      exact ⟨by rw [HV.out]; rfl, rfl⟩
end Go.Proofs.YtiiplikmoodfnaaGreatDoor
