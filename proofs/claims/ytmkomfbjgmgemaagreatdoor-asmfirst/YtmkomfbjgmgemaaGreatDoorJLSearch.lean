import Derived.Test.YtmkomfbjgmgemaaGreatDoorJLInts
import Derived.Deep.DeepCutAuto
import Derived.Great.BuildSlice
import Derived.WalkMore
/-
  THE WALK OF search.
-/
namespace Go.Proofs.YtmkomfbjgmgemaaGreatDoor
open Go.RowKit Go.Sort

def SPost (L : List K) (B : Nat) (e : Ending) (w' : World) : Prop :=
  (runD L L.length = none ∧ e = .returned (.tuple #[.slice none 0 0, .int .i64 34])) ∨
  ∃ d g, runD L L.length = some d ∧ e = .returned (.tuple #[.slice (some ⟨g, 0, none⟩) (L.length + 1) (L.length + 1), .int .i64 0]) ∧ RowI w' g d ∧ B ≤ g
theorem start_set (n : Nat) : (List.replicate (n + 1) (-1 : Int)).set 0 0 = startD n := by simp [startD, List.replicate_succ]
/-- what stands while an instruction is gone over -/
def SI (w W : World) (G B : Nat) (op a : Int) (d : List Int) : Prop := W.cell? ⟨B, 0, none⟩ = some (.int .i64 op) ∧ W.cell? ⟨B, 1, none⟩ = some (.int .i64 a) ∧ RowI W G d ∧ Below w.heap.size w W
theorem SI.kept {w W W' : World} {G B : Nat} {op a : Int} {d : List Int} (h : SI w W G B op a d) (hb : Below W.heap.size W W') : SI w W' G B op a d :=
  ⟨(hb.cell (p := ⟨B, 0, none⟩) (cell_lt h.1)).trans h.1, (hb.cell (p := ⟨B, 1, none⟩) (cell_lt h.2.1)).trans h.2.1, h.2.2.1.kept hb, h.2.2.2.trans (hb.mono h.2.2.2.size)⟩
theorem SI.new {w wr : World} {G : Nat} {d : List Int} (op a : Int) (h1 : RowI wr G d) (h2 : Below w.heap.size w wr) :
    SI w (wr.alloc (.cells #[.int .i64 op, .int .i64 a] 40)) G wr.heap.size op a d := by
  have hb : Below wr.heap.size wr (wr.alloc (.cells #[.int .i64 op, .int .i64 a] 40)) := (Below.refl _ _).alloc (Nat.le_refl _) _
  obtain ⟨k1, k2⟩ := Box.new (w := wr) (b := wr.heap.size) (x := op) (y := a) rfl
  exact ⟨k1, k2, h1.kept hb, h2.trans (hb.mono h2.size)⟩
/-- two numbers in a block of their own -/
def ArrAt (W : World) (B : Nat) (x y : Int) : Prop := W.heap[B]? = some (.cells #[.int .i64 x, .int .i64 y] 173 (0, 0))
theorem arr_new (w : World) (x y : Int) : ArrAt (w.alloc (.cells #[.int .i64 x, .int .i64 y] 173)) w.heap.size x y := heap_alloc_new _ _ rfl
theorem ArrAt.lt {W : World} {B : Nat} {x y : Int} (h : ArrAt W B x y) : B < W.heap.size := (Array.getElem?_eq_some_iff.1 h).1
theorem ArrAt.cell {W : World} {B : Nat} {x y : Int} (h : ArrAt W B x y) : W.cell? ⟨B, 0, none⟩ = some (.int .i64 x) ∧ W.cell? ⟨B, 1, none⟩ = some (.int .i64 y) := by
  constructor <;> simp [World.cell?, show W.heap[B]? = _ from h]
theorem ArrAt.ne {W : World} {B G : Nat} {x y : Int} {d : List Int} (h : ArrAt W B x y) (hr : RowI W G d) : B ≠ G := by
  rintro rfl
  unfold RowI at hr
  rw [show W.heap[B]? = _ from h] at hr
  simp at hr
theorem ArrAt.set {W : World} {B G : Nat} {x y : Int} (h : ArrAt W B x y) (hne : B ≠ G) (i : Nat) (v : Value) : ArrAt (W.setCell ⟨G, i, none⟩ v) B x y := by
  unfold ArrAt; rw [heap_setCell_other W ⟨G, i, none⟩ B v hne]; exact h
/-- the j-th place of two -/
def arrD (x y : Int) (j : Nat) : Int := if j = 0 then x else y
theorem ArrAt.at {W : World} {B : Nat} {x y : Int} (h : ArrAt W B x y) (j : Nat) (hj : j < 2) : W.cell? ⟨B, j, none⟩ = some (.int .i64 (arrD x y j)) := by
  match j, hj with
  | 0, _ => exact h.cell.1
  | 1, _ => exact h.cell.2
theorem arr_next {L : List K} (h : Sane L) {i : Nat} (hi : i < L.length) (j : Nat) (hj : j < (nextN i (cd L i).1 (cd L i).2).length) :
    arrD (onw i (cd L i).1 (cd L i).2).1 (onw i (cd L i).1 (cd L i).2).2.1 j = (((nextN i (cd L i).1 (cd L i).2).getD j 0 : Nat) : Int) := by
  obtain ⟨_, h2, h3⟩ := onw_next h hi
  have h4 := next_two i (cd L i).1 (cd L i).2
  generalize nextN i (cd L i).1 (cd L i).2 = nx at *
  match nx, j with
  | [], j => simp at hj
  | t :: r, 0 => simpa [arrD] using h2 t r rfl
  | [t], j + 1 => simp at hj
  | t :: u :: r, 1 => simpa [arrD] using h3 t u r rfl
  | t :: u :: r, j + 2 => simp only [List.length_cons] at hj h4; omega
theorem putD_none {d : List Int} {x : Int} {t : Nat} {r : List Nat} (h1 : d.getD t 0 ≠ -1) (h2 : d.getD t 0 ≠ x) : putD d x (t :: r) = none := by
  unfold putD; rw [if_pos ⟨h1, h2⟩]
theorem putD_some {d : List Int} {x : Int} {t : Nat} {r : List Nat} (h : d.getD t 0 = -1 ∨ d.getD t 0 = x) : putD d x (t :: r) = putD (d.set t x) x r := by
  rw [putD, if_neg (by rintro ⟨h1, h2⟩; rcases h with h | h; exact h1 h; exact h2 h)]
theorem drop_getD (nx : List Nat) (j : Nat) (h : j < nx.length) : nx.drop j = nx.getD j 0 :: nx.drop (j + 1) := by
  rw [List.drop_eq_getElem_cons h, List.getD_eq_getElem?_getD, List.getElem?_eq_getElem h]; rfl

theorem slice_arr (u : World) (B c : Nat) (hc : c ≤ 2) : (Instr.sliceAt 173 (.pointer (some ⟨B, 0, none⟩)) none (some (.int .i64 (c : Int))) none).run Tryz.prog u = .ok (.slice (some ⟨B, 0, none⟩) c 2) u := by
  have hl : Tryz.prog.arrayLen 173 = 2 := by kernel_rfl
  have he : Tryz.prog.elem 173 = 3 := by kernel_rfl
  have h := run_sliceAt_array_h (P := Tryz.prog) u 173 ⟨B, 0, none⟩ (by rw [hl, he]; exact Tryz.underlying173) .i64 (c : Int) (by omega) (by rw [hl]; omega)
  rw [h, hl, he]
  obtain ⟨i0, hi, hz0, hz1, hz2⟩ := info_parts infoI
  simp [sizeOf, typeInfo, hi, slicedAt, addr_add]
theorem cell_new1 (w : World) (v : Value) (t : TypeId) : (w.alloc (.cells #[v] t)).cell? ⟨w.heap.size, 0, none⟩ = some v := by
  have h := heap_alloc_new (w := w) (.cells #[v] t) w.heap.size rfl
  unfold World.cell?
  rw [h]
  rfl
/-- []int{-1} -/
theorem build_one (u : World) : (Instr.buildSlice 140 1 #[(0, .int .i64 (-1))]).run Tryz.prog u = .ok (.slice (some ⟨u.heap.size, 0, none⟩) 1 1) (u.alloc (.cells #[.int .i64 (-1)] 3)) := by
  obtain ⟨i0, hi, hz0, hz1, hz2⟩ := info_parts infoI
  refine run_buildSlice u 140 3 1 _ #[.int .i64 (-1)] i0 (.int .i64 0) Tryz.underlying140 hi hz0 (by rw [hz1]; omega) (by rw [hz1]; omega) ?_
  rw [hz1]
  simp [Instr.fill, Value.cells]
  apply Array.ext'
  simp [Array.range]

set_option maxRecDepth 100000 in
set_option maxHeartbeats 1000000 in
theorem search_any (w : World) (ao : Option Addr) (n cap : Nat) (L : List K) (h : KeysAt w ao L) (hn : n = L.length) (hm : n ≤ 256) (hs : Sane L) :
    Calls Tryz.prog 80 #[.slice ao n cap] w fun e w' => SPost L w.heap.size e w' ∧ Below w.heap.size w w' := by
  have HL : Hid (KeysAt w ao L) := h
  have HN : Hid (n = L.length) := hn
  have HS : Hid (Sane L) := hs
  have hbs := build_one
  clear h hn hs
  go_enter Tryz.func80, Tryz.ntmps80
  go_wp2_with fail
  go_step3
  go_wp2_with fail
  rw [show ((n : Int) + 1) = ((n + 1 : Nat) : Int) by omega]
  refine (repeat_any _ _ (n + 1) (cell_new1 _ _ _) (by omega) (by omega)).mono ?_
  rintro e w1 ⟨rfl, hr, hb⟩
  obtain ⟨G, hG⟩ : ∃ G, G = (w.alloc (.cells #[.int .i64 (-1)] 3)).heap.size := ⟨_, rfl⟩
  rw [← hG] at hr ⊢
  have hf := hr.frozen 0
  have hc0 := hr.cell 0 (by simp)
  have HR1 : Hid (RowI (w1.setCell ⟨G, 0, none⟩ (.int .i64 0)) G (startD n)) := by have := hr.set 0 0; rwa [start_set] at this
  have HG : Hid (w.heap.size ≤ G) := by rw [hG]; simp [Hid]
  have HB1 : Hid (Below w.heap.size w (w1.setCell ⟨G, 0, none⟩ (.int .i64 0))) := below_set (((Below.refl _ _).alloc (Nat.le_refl _) _).trans (hb.mono (by simp))) _ _ HG.out
  clear hr hb hG
  clear hbs
  go_wp2_with fail
  go_step3
  go_wp2_with fail
  generalize w1.setCell ⟨G, 0, none⟩ (.int .i64 0) = w0 at *
  clear hf hc0
  go_loopw [5, 23] (fun er x wr => ∃ (k : Nat) (d : List Int), k ≤ n ∧ er = .int .i64 0 ∧ x = .int .i64 (k : Int) ∧ Hid (runD L k = some d) ∧ Hid (RowI wr G d) ∧ Hid (Below w.heap.size w wr)) (fun _ x _ => n - (intOf x).toNat)
  case atStart => exact ⟨0, startD n, by omega, rfl, rfl, by rw [HN.out]; rfl, HR1, HB1⟩
  case round =>
    clear HR1 HB1
    obtain ⟨k, d, hk, rfl, rfl, HRun, HR, HB⟩ := hrel
    have HD : Hid (d.length = n + 1) := by have := runD_length HRun.out; rwa [← HN.out] at this
    by_cases hlt : k < n
    · have HK : Hid (k < L.length) := by have := HN.out; show k < L.length; omega
      obtain ⟨b, off, rfl, c1, c2⟩ := (HL.out.kept HB.out).get k HK.out
      have HO : Hid (isOpB (cd L k).1 = true) := (HS.out k HK.out).1
      have HSt : Hid (∀ d', stepD (cd L k) k d = some d' → runD L (k + 1) = some d') := fun d' h => by rw [runD, HRun.out]; exact h
      have HSn : Hid (stepD (cd L k) k d = none → runD L L.length = none) := fun h => runD_stuck (k := k + 1) (by rw [runD, HRun.out]; exact h) _ HK.out
      have hcx := HR.out.cell k (by have := HD.out; omega)
      have HM : Hid (-1 ≤ d.getD k 0 ∧ d.getD k 0 ≤ 32) := Mild.run HS.out (Nat.le_of_lt HK.out) HRun.out k (by have := HD.out; omega)
      have HNx : Hid (∀ j, j < (nextN k (cd L k).1 (cd L k).2).length → arrD (onw k (cd L k).1 (cd L k).2).1 (onw k (cd L k).1 (cd L k).2).2.1 j = (((nextN k (cd L k).1 (cd L k).2).getD j 0 : Nat) : Int)) := fun j hj => arr_next HS.out HK.out j hj
      have HNl : Hid ((onw k (cd L k).1 (cd L k).2).2.2 = ((nextN k (cd L k).1 (cd L k).2).length : Int)) := (onw_next HS.out HK.out).1
      have HNt : Hid (∀ t ∈ nextN k (cd L k).1 (cd L k).2, k < t ∧ t ≤ n) := by have := next_lt HS.out HK.out; rw [← HN.out] at this; exact this
      have HN2 : Hid ((nextN k (cd L k).1 (cd L k).2).length ≤ 2) := next_two _ _ _
      generalize hkk : cd L k = kk at *
      obtain ⟨op, a⟩ := kk
      have HKK : Hid (cd L k = (op, a)) := hkk
      clear hkk
      simp only at c1 c2 HO HNx HNl HNt HN2
      have HSI := SI.new (w := w) op a HR.out HB.out
      have HSI : Hid (SI w (wr.alloc (.cells #[.int .i64 op, .int .i64 a] 40)) G wr.heap.size op a d) := HSI
      have hbl : b < wr.heap.size := cell_lt c1
      have hGl : G < wr.heap.size := HR.out.lt
      generalize hx : d.getD k 0 = x at *
      have HX : Hid (d.getD k 0 = x) := hx
      clear hx
      by_cases h1 : x = -1
      · subst h1
        have HE := HSt.out d (by unfold stepD; rw [if_pos HX.out])
        have HE : Hid (runD L (k + 1) = some d) := HE
        go_wp2
        go_roundw
        case rel => exact ⟨k + 1, d, by omega, rfl, by go_num, HE, HSI.out.2.2.1, HSI.out.2.2.2⟩
        case measure => simp [intOf]; omega
      · have h1' : (x == -1) = false := by simpa using h1
        go_wp2_with fail
        obtain ⟨W, hW⟩ : ∃ W, W = (wr.alloc (.cells #[.int .i64 op, .int .i64 a] 40)) := ⟨_, rfl⟩
        rw [← hW] at HSI ⊢
        clear hW
        generalize wr.heap.size = B at *
        obtain ⟨tk0, tk2⟩ := takes_bound HO.out
        obtain ⟨lv0, lv2⟩ := leaves_bound HO.out
        obtain ⟨xl, xu⟩ := HM.out
        have cA := fun q os => cell_grown (cell_lt HSI.out.1) HSI.out.1 q os
        have cB := fun q os => cell_grown (w := W) (a := ⟨G, k, none⟩) (v := .int .i64 x) HSI.out.2.2.1.lt (by rw [HSI.out.2.2.1.cell k (by have := HD.out; omega), HX.out]) q os
        have mx := mixed
        refine wp_region_quiet_grown mx (by kernel_rfl) ?_
        repeat (go_big_quiet_step (first | (go_at_call 91; exact Calls.grown_of ((takes_any _ _ HO.out).mono fun e w' h => ⟨h.1, 0, #[], by rw [h.2, grow_empty]; rfl⟩))))
        refine wpQuiet_nil ?_
        intro _ hw'
        obtain ⟨⟨nq, osq⟩, hw''⟩ := hw'
        subst hw''
        clear cA cB mx
        have HS2 : Hid (SI w (grow (W.drewN nq) osq) G B op a d) := HSI.out.kept (Grew.grow (Grew.refl W) nq osq).below
        generalize grow (W.drewN nq) osq = W2 at *
        clear HSI
        have cA := HS2.out.1
        have cA1 := HS2.out.2.1
        go_wp2_with fail
        refine (leaves_any _ _ HO.out).mono ?_
        rintro e W3 ⟨rfl, rfl⟩
        have HSd : Hid (∀ r, (if x - takesN op < 0 ∨ 32 < x - takesN op + leavesN op then none else putD d (x - takesN op + leavesN op) (nextN k op a)) = r → stepD (op, a) k d = r) := fun r h => by
          unfold stepD; rw [HX.out, if_neg h1]; exact h
        generalize takesN op = tk at *
        generalize leavesN op = lv at *
        by_cases hl : x - tk < 0
        · have HE : Hid (runD L L.length = none) := HSn.out (HSd.out none (by rw [if_pos (.inl hl)]))
          go_wp2
          try rw [Exit.noGoto_ret]
          go_ret2
          exact ⟨.inl ⟨HE.out, rfl⟩, HS2.out.2.2.2⟩
        · have hl' : decide (x - tk < 0) = false := by simpa using hl
          by_cases hu : 32 < x - tk + lv
          · have HE : Hid (runD L L.length = none) := HSn.out (HSd.out none (by rw [if_pos (.inr hu)]))
            go_wp2
            try rw [Exit.noGoto_ret]
            go_ret2
            exact ⟨.inl ⟨HE.out, rfl⟩, HS2.out.2.2.2⟩
          · have hu' : decide (32 < x - tk + lv) = false := by simpa using hu
            have HSp : Hid (∀ r, putD d (x - tk + lv) (nextN k op a) = r → stepD (op, a) k d = r) := fun r h => HSd.out r (by rw [if_neg (by omega)]; exact h)
            clear HSd
            go_wp2_with fail
            refine (onward_any _ op a k (by omega)).mono ?_
            rintro e W4 ⟨rfl, hb4⟩
            have HS4 : Hid (SI w W4 G B op a d) := HS2.out.kept hb4
            have HA4 : Hid (ArrAt (W4.alloc (.cells #[.int .i64 (onw k op a).1, .int .i64 (onw k op a).2.1] 173)) W4.heap.size (onw k op a).1 (onw k op a).2.1) := arr_new _ _ _
            have HS5 : Hid (SI w (W4.alloc (.cells #[.int .i64 (onw k op a).1, .int .i64 (onw k op a).2.1] 173)) G B op a d) := HS4.out.kept ((Below.refl _ _).alloc (Nat.le_refl _) _)
            clear HS2 hb4 HS4 cA cA1
            rw [tripleV, HNl.out]
            clear HNl
            generalize (onw k op a).1 = X at *
            generalize (onw k op a).2.1 = Y at *
            generalize nextN k op a = nx at *
            have hc2 := HN2.out
            obtain ⟨c, hc⟩ : ∃ c, c = nx.length := ⟨_, rfl⟩
            rw [← hc] at hc2 ⊢
            have HC : Hid (c = nx.length) := hc
            clear hc
            have hsl := fun u => slice_arr u W4.heap.size c hc2
            go_wp2_with fail
            clear hsl
            generalize W4.heap.size = B2 at *
            generalize W4.alloc (.cells #[.int .i64 X, .int .i64 Y] 173) = W5 at *
            have HDep : Hid (x - tk + lv ≤ 32) := by show x - tk + lv ≤ 32; omega
            generalize x - tk + lv = dep at *
            clear c1 c2 hcx hbl hGl h1' hl hl' hu hu'
            generalize wr = wo at *
            go_loopw [5, 61] (fun er y wr => ∃ (j : Nat) (dj : List Int), j ≤ c ∧ er = .int .i64 0 ∧ y = .int .i64 (j : Int) ∧ Hid (putD d dep nx = putD dj dep (nx.drop j)) ∧ Hid (dj.length = n + 1) ∧ Hid (RowI wr G dj) ∧ Hid (ArrAt wr B2 X Y) ∧ Hid (Below w.heap.size w wr)) (fun _ y _ => c - (intOf y).toNat)
            case atStart => exact ⟨0, d, by omega, rfl, rfl, by rw [List.drop_zero]; rfl, HD, HS5.out.2.2.1, HA4, HS5.out.2.2.2⟩
            case round =>
              obtain ⟨j, dj, hj, rfl, rfl, HP, HDj, HRj, HAj, HBj⟩ := hrel
              by_cases hlj : j < c
              · have HJ : Hid (j < nx.length) := by have := HC.out; show j < nx.length; omega
                have ca := HAj.out.at j (by omega)
                rw [HNx.out j HJ.out] at ca
                have HT := HNt.out (nx.getD j 0) (by rw [List.getD_eq_getElem?_getD, List.getElem?_eq_getElem HJ.out]; simp)
                have HP' := HP.out
                rw [drop_getD nx j HJ.out] at HP'
                have HP1 : Hid (putD d dep nx = putD dj dep (nx.getD j 0 :: nx.drop (j + 1))) := HP'
                clear HP HP'
                generalize nx.getD j 0 = t at *
                obtain ⟨ht1, ht2⟩ := HT
                have cd1 := HRj.out.cell t (by have := HDj.out; omega)
                have cf := HRj.out.frozen t
                have HR2 : Hid (RowI (wr.setCell ⟨G, t, none⟩ (.int .i64 dep)) G (dj.set t dep)) := HRj.out.set t dep
                have HA2 : Hid (ArrAt (wr.setCell ⟨G, t, none⟩ (.int .i64 dep)) B2 X Y) := HAj.out.set (HAj.out.ne HRj.out) t _
                have HB2 : Hid (Below w.heap.size w (wr.setCell ⟨G, t, none⟩ (.int .i64 dep))) := below_set HBj.out _ _ HG.out
                have HD2 : Hid ((dj.set t dep).length = n + 1) := by rw [List.length_set]; exact HDj.out
                have HY0 : Hid (∀ y, dj.getD t 0 = y → dj.getD t 0 = y) := fun y h => h
                generalize hy : dj.getD t 0 = y at *
                have HY : Hid (dj.getD t 0 = y) := hy
                clear hy HY0
                by_cases hy1 : y = -1
                · subst hy1
                  have HP2 : Hid (putD d dep nx = putD (dj.set t dep) dep (nx.drop (j + 1))) := HP1.out.trans (putD_some (.inl HY.out))
                  go_wp2
                  go_roundw
                  case rel => exact ⟨j + 1, dj.set t dep, by omega, rfl, by go_num, HP2, HD2, HR2, HA2, HB2⟩
                  case measure => simp [intOf]; omega
                · have hy1' : (y != -1) = true := by simpa using hy1
                  by_cases hy2 : y = dep
                  · subst hy2
                    have HP2 : Hid (putD d y nx = putD (dj.set t y) y (nx.drop (j + 1))) := HP1.out.trans (putD_some (.inr HY.out))
                    go_wp2
                    go_roundw
                    case rel => exact ⟨j + 1, dj.set t y, by omega, rfl, by go_num, HP2, HD2, HR2, HA2, HB2⟩
                    case measure => simp [intOf]; omega
                  · have hy2' : (y != dep) = true := by simpa using hy2
                    have HE : Hid (runD L L.length = none) := HSn.out (HSp.out none (HP1.out.trans (putD_none (by rw [HY.out]; exact hy1) (by rw [HY.out]; exact hy2))))
                    go_wp2
                    try rw [Exit.noGoto_ret]
                    go_ret2
                    exact ⟨.inl ⟨HE.out, rfl⟩, HBj.out⟩
              · obtain rfl : j = c := by omega
                have HE : Hid (runD L (k + 1) = some dj) := HSt.out dj (HSp.out _ (HP.out.trans (by rw [HC.out, List.drop_length]; rfl)))
                go_wp2
                go_roundw
                case rel => exact ⟨k + 1, dj, by omega, rfl, by go_num, HE, HRj, HBj⟩
                case measure => simp [intOf]; omega
    · obtain rfl : k = n := by omega
      go_wp2
      try rw [Exit.noGoto_ret]
      go_ret2
      exact ⟨.inr ⟨d, G, by rw [← HN.out]; exact HRun.out, by rw [← HN.out]; rfl, HR.out, HG.out⟩, HB.out⟩

end Go.Proofs.YtmkomfbjgmgemaaGreatDoor
