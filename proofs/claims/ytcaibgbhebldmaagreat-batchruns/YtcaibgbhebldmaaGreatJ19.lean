import Derived.Test.YtcaibgbhebldmaaGreatJ18
import Derived.Test.YtcaibgbhebldmaaGreatJ10
/-
  THE WALK OF set.
-/
namespace Go.Proofs.YtcaibgbhebldmaaGreat.Kk
open Go.RowKit Go.Sort

/-- a row of keys that a call has made -/
def OwnKs (w0 : World) (L : List K) (v : Value) (w' : World) : Prop := ∃ g, v = .slice (some ⟨g, 0, none⟩) L.length L.length ∧ RK w' g L ∧ w0.heap.size ≤ g
structure KS (w W : World) (r : Nat) (a : Option Addr) (c : Nat) (b : List Nat) (q g n : Nat) (A : List K) : Prop where
  rd : Reads w r a c b q 0 W
  box : W.heap[w.heap.size]? = some (.cells #[.pointer (some ⟨r, 0, none⟩)] 116 (0, 0))
  row : RK W g (A ++ List.replicate (n - A.length) (0, 0))
  gt : w.heap.size < g
  rlt : r < w.heap.size
theorem KS.cell {w W : World} {r : Nat} {a : Option Addr} {c : Nat} {b : List Nat} {q g n : Nat} {A : List K} (h : KS w W r a c b q g n A) : W.cell? ⟨w.heap.size, 0, none⟩ = some (.pointer (some ⟨r, 0, none⟩)) := by simp [World.cell?, h.box]
theorem setK {A : List K} {n k : Nat} {z : K} (hk : A.length = k) (hn : k < n) : (A ++ List.replicate (n - A.length) (0, 0)).set k z = (A ++ [z]) ++ List.replicate (n - (A ++ [z]).length) (0, 0) := by
  rw [List.set_append_right _ _ (by omega), hk, Nat.sub_self, show n - k = (n - (k + 1)) + 1 by omega, List.replicate_succ, List.set_cons_zero]
  simp [hk]
theorem KS.step {w W W1 : World} {r : Nat} {a : Option Addr} {c : Nat} {b : List Nat} {q g n q1 : Nat} {A : List K} (h : KS w W r a c b q g n A) (hr : Reads W r a c b q1 0 W1) : KS w W1 r a c b q1 g n A := by
  have hgt := h.gt
  have hrl := h.rlt
  exact ⟨h.rd.trans hr, (block_reads hr (Array.getElem?_eq_some_iff.1 h.box).1 (by omega)).trans h.box, h.row.same (block_reads hr h.row.lt (by omega)), h.gt, h.rlt⟩
theorem KS.put {w W : World} {r p0 : Nat} {a : Option Addr} {c : Nat} {b : List Nat} {q g n k : Nat} {A : List K} (h : KS w W r a c b q g n A) (h0 : IsReader w r a c b p0 0) (x y : Int) (hk : A.length = k) (hn : k < n) :
    KS w ((W.setCell ⟨g, k * 2, none⟩ (.int .i64 x)).setCell ⟨g, k * 2 + 1, none⟩ (.int .i64 y)) r a c b q g n (A ++ [(x, y)]) := by
  have hgt := h.gt
  refine ⟨(h.rd.setNew h0 g (k * 2) _ (by omega)).setNew h0 g (k * 2 + 1) _ (by omega), ?_, ?_, h.gt, h.rlt⟩
  · rw [heap_setCell_other _ ⟨g, k * 2 + 1, none⟩ w.heap.size _ (by show w.heap.size ≠ g; omega), heap_setCell_other W ⟨g, k * 2, none⟩ w.heap.size _ (by show w.heap.size ≠ g; omega)]
    exact h.box
  · have := h.row.set k x y (by simp [hk]; omega)
    rw [setK hk hn] at this
    exact this
theorem KS.kept {w W W1 : World} {r : Nat} {a : Option Addr} {c : Nat} {b : List Nat} {q g n : Nat} {A : List K} (h : KS w W r a c b q g n A) (hb : Below W.heap.size W W1) : KS w W1 r a c b q g n A :=
  ⟨h.rd.kept hb, (hb.block _ (Array.getElem?_eq_some_iff.1 h.box).1).trans h.box, h.row.same (hb.block _ h.row.lt), h.gt, h.rlt⟩

set_option maxRecDepth 100000 in
set_option maxHeartbeats 2000000 in
theorem set_r (w : World) (r : Nat) (a : Option Addr) (c : Nat) (b : List Nat) (p most : Nat) (h : IsReader w r a c b p 0) (hmo : most ≤ 1000) :
    Calls Tryz.prog 90 #[rdv r, .int .u64 (most : Int)] w fun e' w' => RdPost w r a c b (setR b most p) (OwnKs w) e' w' := by
  have H0 : Hid (IsReader w r a c b p 0) := h
  have HR : Hid (Reads w r a c b p 0 (w.alloc (.cells #[.pointer (some ⟨r, 0, none⟩)] 116))) := Reads.alloc ⟨h, World.grownBy.refl _ _⟩ _
  have HB0 : Hid ((w.alloc (.cells #[.pointer (some ⟨r, 0, none⟩)] 116)).heap[w.heap.size]? = some (.cells #[.pointer (some ⟨r, 0, none⟩)] 116 (0, 0))) := heap_alloc_new _ _ rfl
  have HLt : Hid (r < w.heap.size) := h.lt
  have HA : Hid (setR b most p = match upR b most p with | .ok (n, q) => keysR b n [] q | .error x => .error x) := rfl
  clear h
  generalize setR b most p = TT at *
  go_enter Tryz.func90, Tryz.ntmps90
  go_upto_region 1 with fail
  generalize w.alloc (.cells #[.pointer (some ⟨r, 0, none⟩)] 116) = W0 at *
  have k0 : W0.cell? ⟨w.heap.size, 0, none⟩ = some (.pointer (some ⟨r, 0, none⟩)) := by simp [World.cell?, HB0.out]
  cases hu : upR b most p with
  | error x =>
    obtain ⟨q, x⟩ := x
    have HT : Hid (TT = .error (q, x)) := by rw [HA.out, hu]; rfl
    have HU : Hid (upR b most p = .error (q, x)) := hu
    clear hu HA
    go_wp2_with fail
    refine (upto_bad W0 r a c b p most q x HR.out.1 HU.out).mono ?_
    rintro e1 w1 ⟨rfl, hg1⟩
    have HF : Hid (RdPost w r a c b TT (OwnKs w) (.panicked (flt q x)) w1) := RdPost.fails HT.out (grown_trans' HR.out.2 hg1)
    clear hg1
    go_wp2
    exact ⟨rfl, HF.out⟩
  | ok x =>
    obtain ⟨n, q⟩ := x
    have HU : Hid (upR b most p = .ok (n, q)) := hu
    have HT : Hid (keysR b n [] q = TT) := by rw [HA.out, hu]; rfl
    clear hu HA
    go_wp2_with fail
    refine (upto_ok W0 r a c b p most n q HR.out.1 hmo HU.out).mono ?_
    rintro e1 w1 ⟨rfl, hr1, hn⟩
    have HB1 : Hid (w1.heap[w.heap.size]? = some (.cells #[.pointer (some ⟨r, 0, none⟩)] 116 (0, 0))) := (block_reads hr1 (Array.getElem?_eq_some_iff.1 HB0.out).1 (by have := HLt.out; omega)).trans HB0.out
    have HR1 : Hid (Reads w r a c b q 0 w1) := HR.out.trans hr1
    have hmk := make_keys n (n : Int) rfl (by omega)
    clear hr1 HR HB0 k0
    have HS0 : Hid (KS w (w1.alloc (.cells (cks (List.replicate n (0, 0))).toArray 89)) r a c b q w1.heap.size n []) := ⟨HR1.out.alloc _, (heap_alloc_old _ _ (Array.getElem?_eq_some_iff.1 HB1.out).1).trans HB1.out, by rw [List.nil_append, List.length_nil, Nat.sub_zero]; exact heap_alloc_new _ _ rfl, (Array.getElem?_eq_some_iff.1 HB1.out).1, HLt.out⟩
    go_upto_region 2 with fail
    generalize w1.alloc (.cells (cks (List.replicate n (0, 0))).toArray 89) = W1 at *
    generalize w1.heap.size = g at *
    clear hmk HR1 HB1
    go_wp2_with fail
    go_loopw [14] (fun x wr => ∃ (k q : Nat) (A : List K), k ≤ n ∧ x = .int .i64 (k : Int) ∧ A.length = k ∧ Hid (KS w wr r a c b q g n A) ∧ Hid (keysR b (n - k) A q = TT)) (fun x _ => n - (intOf x).toNat)
    case atStart => exact ⟨0, q, [], Nat.zero_le _, rfl, rfl, HS0, HT⟩
    case round =>
      clear HS0 HT HU q
      obtain ⟨k, q, A, hk, rfl, hA, HS, HT⟩ := hrel
      by_cases hlt : k < n
      · have k0 := HS.out.cell
        have HT2 : Hid (TT = match keyR b q with | .error x => .error x | .ok (z, q1) => if A ≠ [] ∧ lt (kd A (A.length - 1)) z = false then .error (q, 65) else keysR b (n - (k + 1)) (A ++ [z]) q1) := by
          rw [← HT.out, show n - k = (n - (k + 1)) + 1 by omega]; rfl
        clear HT
        go_wp2_with fail
        refine (rAt_any wr r a c b q 0 HS.out.rd.1).mono ?_
        rintro e2 w2 ⟨rfl, hw2⟩
        have hw2' := hw2.symm
        subst hw2'
        clear hw2
        by_cases hq : q + 10 ≤ b.length
        case neg =>
          have HT : Hid (TT = .error (q, 10)) := by rw [HT2.out]; unfold keyR; rw [if_neg hq]; rfl
          have HQ : Hid (¬ q + 10 ≤ b.length) := hq
          clear HT2 hq
          go_wp2_with fail
          refine (key_bad wr r a c b q HS.out.rd.1 HQ.out).mono ?_
          rintro e3 w3 ⟨rfl, hg3⟩
          have HF : Hid (RdPost w r a c b TT (OwnKs w) (.panicked (flt q 10)) w3) := RdPost.fails HT.out (grown_trans' HS.out.rd.2 hg3)
          clear hg3 k0
          go_wp2
          exact ⟨rfl, HF.out⟩
        case pos =>
          obtain ⟨z, hz⟩ : ∃ z, z = fromK ((b.drop q).take 10) := ⟨_, rfl⟩
          have HT3 : Hid (TT = if A ≠ [] ∧ lt (kd A (A.length - 1)) z = false then .error (q, 65) else keysR b (n - (k + 1)) (A ++ [z]) (q + 10)) := by rw [HT2.out]; unfold keyR; rw [if_pos hq, hz]; rfl
          have HQ : Hid (q + 10 ≤ b.length) := hq
          have HZ : Hid (fromK ((b.drop q).take 10) = z) := hz.symm
          clear HT2 hq hz
          go_wp2_with fail
          refine (key_ok wr r a c b q HS.out.rd.1 HQ.out).mono ?_
          rintro e3 w3 ⟨rfl, hr3⟩
          rw [HZ.out]
          have HS3 : Hid (KS w w3 r a c b (q + 10) g n A) := HS.out.step hr3
          clear hr3 k0 HS HZ
          obtain ⟨z1, z2⟩ := z
          obtain ⟨e1, e2⟩ := HS3.out.row.cell k (by simp [hA]; omega)
          have f1 := HS3.out.row.frozen (k * 2)
          have f2 := HS3.out.row.frozen (k * 2 + 1)
          have HS4 : Hid (KS w ((w3.setCell ⟨g, k * 2, none⟩ (.int .i64 z1)).setCell ⟨g, k * 2 + 1, none⟩ (.int .i64 z2)) r a c b (q + 10) g n (A ++ [(z1, z2)])) := HS3.out.put H0.out z1 z2 hA hlt
          go_upto_region 7 with fail
          generalize (w3.setCell ⟨g, k * 2, none⟩ (.int .i64 z1)).setCell ⟨g, k * 2 + 1, none⟩ (.int .i64 z2) = W4 at *
          clear e1 e2 f1 f2 HS3
          have mx := mixed
          by_cases hk0 : k = 0
          · have HT : Hid (keysR b (n - (k + 1)) (A ++ [(z1, z2)]) (q + 10) = TT) := by
              have e : A = [] := List.eq_nil_of_length_eq_zero (by omega)
              rw [HT3.out, if_neg (by rw [e]; simp)]; rfl
            have hd0 : decide ((0 : Int) < (k : Int)) = false := by simp; omega
            have hd1 : decide (0 < k) = false := by simp; omega
            have HCm : Hid (∀ w, Calls Tryz.prog 35 #[.agg #[.int .i64 z1, .int .i64 z2], .agg #[.int .i64 z1, .int .i64 z2]] w fun e w' => e = .returned (.int .i64 (cmp (z1, z2) (z1, z2))) ∧ ∃ q os, w' = grow (w.drewN q) os) := fun w => compare_any w z1 z2 z1 z2
            clear hk0 HT3
            refine wp_region_quiet_grown mx (by kernel_rfl) ?_
            repeat (go_big_quiet_step ((go_at_call 35; exact Calls.grown_of (HCm.out _))))
            refine wpQuiet_nil ?_
            intro _ hw'
            obtain ⟨⟨nq, osq⟩, hw''⟩ := hw'
            subst hw''
            have HS5 : Hid (KS w (grow (W4.drewN nq) osq) r a c b (q + 10) g n (A ++ [(z1, z2)])) := HS4.out.kept (Grew.below ⟨_, _, rfl⟩)
            generalize grow (W4.drewN nq) osq = W5 at *
            clear HS4 hd0 hd1
            go_wp2
            go_roundw
            case rel => exact ⟨k + 1, q + 10, A ++ [(z1, z2)], by omega, by go_num, by simp [hA], HS5, HT⟩
            case measure => simp [intOf]; omega
          · have hkp : (0 : Int) < (k : Int) := by omega
            have hd0 : decide ((0 : Int) < (k : Int)) = true := by simpa using hkp
            have hd1 : decide (0 < k) = true := by simp; omega
            have hkm : (k : Int) - 1 = ((k - 1 : Nat) : Int) := by omega
            have hkn : (k : Int) < (n : Int) := by omega
            have hkn1 : ((k - 1 : Nat) : Int) < (n : Int) := by omega
            have hk1 : k - 1 < n := by omega
            obtain ⟨p1, p2⟩ := HS4.out.row.cell (k - 1) (by rw [List.length_append, List.length_append, List.length_replicate]; simp only [List.length_singleton]; omega)
            obtain ⟨p3, p4⟩ := HS4.out.row.cell k (by rw [List.length_append, List.length_append, List.length_replicate]; simp only [List.length_singleton]; omega)
            have ek1 : kd (A ++ [(z1, z2)] ++ List.replicate (n - (A ++ [(z1, z2)]).length) (0, 0)) (k - 1) = kd A (k - 1) := by
              rw [kd_left _ _ _ (by simp <;> omega), kd_left _ _ _ (by omega)]
            have ek2 : kd (A ++ [(z1, z2)] ++ List.replicate (n - (A ++ [(z1, z2)]).length) (0, 0)) k = (z1, z2) := by
              rw [kd_left _ _ _ (by simp <;> omega)]
              have := kd_right A [(z1, z2)] 0 (by simp)
              rw [hA] at this; exact this
            rw [ek1] at p1 p2
            rw [ek2] at p3 p4
            have HTc : Hid (TT = if lt (kd A (k - 1)) (z1, z2) = false then .error (q, 65) else keysR b (n - (k + 1)) (A ++ [(z1, z2)]) (q + 10)) := by
              rw [HT3.out, hA]
              have hne : A ≠ [] := fun e => hk0 (by rw [e] at hA; exact hA.symm)
              by_cases hl : lt (kd A (k - 1)) (z1, z2) = false
              · rw [if_pos ⟨hne, hl⟩, if_pos hl]; rfl
              · rw [if_neg (fun h => hl h.2), if_neg hl]; rfl
            clear HT3 ek1 ek2
            generalize kd A (k - 1) = pk at *
            obtain ⟨u, s⟩ := pk
            simp only at p1 p2 p3 p4
            have d1 : ∀ n os, (grow (W4.drewN n) os).cell? ⟨g, (k - 1) * 2, none⟩ = some (.int .i64 u) := fun n os => Grew.cell ⟨n, os, rfl⟩ p1
            have d2 : ∀ n os, (grow (W4.drewN n) os).cell? ⟨g, (k - 1) * 2 + 1, none⟩ = some (.int .i64 s) := fun n os => Grew.cell ⟨n, os, rfl⟩ p2
            have d3 : ∀ n os, (grow (W4.drewN n) os).cell? ⟨g, k * 2, none⟩ = some (.int .i64 z1) := fun n os => Grew.cell ⟨n, os, rfl⟩ p3
            have d4 : ∀ n os, (grow (W4.drewN n) os).cell? ⟨g, k * 2 + 1, none⟩ = some (.int .i64 z2) := fun n os => Grew.cell ⟨n, os, rfl⟩ p4
            clear p1 p2 p3 p4 hk0
            cases hlu : lt (u, s) (z1, z2) with
            | false =>
              have HT : Hid (TT = .error (q, 65)) := by rw [HTc.out, if_pos hlu]; rfl
              have hcv : ∃ c : Int, cmp (u, s) (z1, z2) = c ∧ 0 ≤ c := ⟨_, rfl, by have := cmp_neg (u, s) (z1, z2); rw [hlu] at this; simp at this; exact this⟩
              obtain ⟨cv, hcv, hcp⟩ := hcv
              have hcd : decide (0 ≤ cv) = true := by simpa using hcp
              have HCm : Hid (∀ w, Calls Tryz.prog 35 #[.agg #[.int .i64 u, .int .i64 s], .agg #[.int .i64 z1, .int .i64 z2]] w fun e w' => e = .returned (.int .i64 cv) ∧ ∃ q os, w' = grow (w.drewN q) os) := fun w => by
                have h := compare_any w u s z1 z2
                rwa [hcv] at h
              clear HTc hlu hcv
              refine wp_region_quiet_grown mx (by kernel_rfl) ?_
              repeat (go_big_quiet_step ((go_at_call 35; exact Calls.grown_of (HCm.out _))))
              refine wpQuiet_nil ?_
              intro _ hw'
              obtain ⟨⟨nq, osq⟩, hw''⟩ := hw'
              subst hw''
              have HF : Hid (RdPost w r a c b TT (OwnKs w) (.panicked (flt q 65)) (grow (W4.drewN nq) osq)) := RdPost.fails HT.out (HS4.out.kept (Grew.below ⟨_, _, rfl⟩)).rd.2
              generalize grow (W4.drewN nq) osq = W5 at *
              clear d1 d2 d3 d4 HS4
              go_wp2
              exact ⟨rfl, HF.out⟩
            | true =>
              have HT : Hid (keysR b (n - (k + 1)) (A ++ [(z1, z2)]) (q + 10) = TT) := by rw [HTc.out, if_neg (by rw [hlu]; simp)]; rfl
              have hcv : cmp (u, s) (z1, z2) = -1 := cmp_lt hlu
              have HCm : Hid (∀ w, Calls Tryz.prog 35 #[.agg #[.int .i64 u, .int .i64 s], .agg #[.int .i64 z1, .int .i64 z2]] w fun e w' => e = .returned (.int .i64 (-1)) ∧ ∃ q os, w' = grow (w.drewN q) os) := fun w => by
                have h := compare_any w u s z1 z2
                rwa [hcv] at h
              clear HTc hlu hcv
              refine wp_region_quiet_grown mx (by kernel_rfl) ?_
              repeat (go_big_quiet_step ((go_at_call 35; exact Calls.grown_of (HCm.out _))))
              refine wpQuiet_nil ?_
              intro _ hw'
              obtain ⟨⟨nq, osq⟩, hw''⟩ := hw'
              subst hw''
              have HS5 : Hid (KS w (grow (W4.drewN nq) osq) r a c b (q + 10) g n (A ++ [(z1, z2)])) := HS4.out.kept (Grew.below ⟨_, _, rfl⟩)
              generalize grow (W4.drewN nq) osq = W5 at *
              clear HS4 d1 d2 d3 d4
              go_wp2
              go_roundw
              case rel => exact ⟨k + 1, q + 10, A ++ [(z1, z2)], by omega, by go_num, by simp [hA], HS5, HT⟩
              case measure => simp [intOf]; omega
      · obtain rfl : k = n := by omega
        have HF : Hid (RdPost w r a c b TT (OwnKs w) (.returned (.slice (some ⟨g, 0, none⟩) k k)) wr) := by
          have h1 := HT.out
          rw [Nat.sub_self] at h1
          refine RdPost.good (x := A) (q := q) h1.symm HS.out.rd ⟨g, by rw [hA], ?_, by have := HS.out.gt; omega⟩
          have h2 := HS.out.row
          rw [hA, Nat.sub_self, List.replicate_zero, List.append_nil] at h2
          exact h2
        clear HS HT
        go_wp2
        go_ret
        exact HF.out
end Go.Proofs.YtcaibgbhebldmaaGreat.Kk
/-
  THE WALK OF tx.
-/
namespace Go.Proofs.YtcaibgbhebldmaaGreat.Kk
open Go.RowKit Go.Sort

/-- a transaction's lists, in rows that a call has made -/
def OwnTx (w0 : World) (t : Tp) (v : Value) (w' : World) : Prop := ∃ ga gr gw, v = .agg #[.int .i64 t.proc, .slice (some ⟨ga, 0, none⟩) t.args.length t.args.length, .slice (some ⟨gr, 0, none⟩) t.reads.length t.reads.length, .slice (some ⟨gw, 0, none⟩) t.writes.length t.writes.length] ∧
  R64 w' ga t.args ∧ RK w' gr t.reads ∧ RK w' gw t.writes ∧ w0.heap.size ≤ ga ∧ ga < gr ∧ gr < gw
abbrev zTx : Array Value := #[.int .i64 0, .slice none 0 0, .slice none 0 0, .slice none 0 0]
structure TS (w W : World) (r : Nat) (a : Option Addr) (c : Nat) (b : List Nat) (q : Nat) (x0 x1 x2 x3 : Value) : Prop where
  rd : Reads w r a c b q 0 W
  box : W.heap[w.heap.size]? = some (.cells #[.pointer (some ⟨r, 0, none⟩)] 116 (0, 0))
  res : W.heap[w.heap.size + 1]? = some (.cells zTx 46 (0, 0))
  loc : W.heap[w.heap.size + 1 + 1]? = some (.cells #[x0, x1, x2, x3] 46 (0, 0))
  rlt : r < w.heap.size
section
variable {w W W1 : World} {r : Nat} {a : Option Addr} {c : Nat} {b : List Nat} {q q1 : Nat} {x0 x1 x2 x3 : Value}
theorem TS.cell (h : TS w W r a c b q x0 x1 x2 x3) : W.cell? ⟨w.heap.size, 0, none⟩ = some (.pointer (some ⟨r, 0, none⟩)) := by simp [World.cell?, h.box]
theorem TS.cells (h : TS w W r a c b q x0 x1 x2 x3) : W.cell? ⟨w.heap.size + 1 + 1, 0, none⟩ = some x0 ∧ W.cell? ⟨w.heap.size + 1 + 1, 1, none⟩ = some x1 ∧ W.cell? ⟨w.heap.size + 1 + 1, 2, none⟩ = some x2 ∧ W.cell? ⟨w.heap.size + 1 + 1, 3, none⟩ = some x3 := by
  refine ⟨?_, ?_, ?_, ?_⟩ <;> simp [World.cell?, h.loc]
theorem TS.frozen (h : TS w W r a c b q x0 x1 x2 x3) (j : Nat) : W.frozen? ⟨w.heap.size + 1 + 1, j, none⟩ = false := frozen_of_row W _ j _ _ h.loc
theorem TS.size (h : TS w W r a c b q x0 x1 x2 x3) : w.heap.size + 1 + 1 < W.heap.size := (Array.getElem?_eq_some_iff.1 h.loc).1
theorem TS.step (h : TS w W r a c b q x0 x1 x2 x3) (hr : Reads W r a c b q1 0 W1) : TS w W1 r a c b q1 x0 x1 x2 x3 := by
  have hrl := h.rlt
  have hs := h.size
  exact ⟨h.rd.trans hr, (block_reads hr (by omega) (by omega)).trans h.box, (block_reads hr (by omega) (by omega)).trans h.res, (block_reads hr (by omega) (by omega)).trans h.loc, h.rlt⟩
theorem TS.set {p0 : Nat} (h : TS w W r a c b q x0 x1 x2 x3) (h0 : IsReader w r a c b p0 0) (j : Nat) (v y0 y1 y2 y3 : Value) (hy : (#[x0, x1, x2, x3] : Array Value).setIfInBounds j v = #[y0, y1, y2, y3]) : TS w (W.setCell ⟨w.heap.size + 1 + 1, j, none⟩ v) r a c b q y0 y1 y2 y3 := by
  refine ⟨h.rd.setNew h0 _ j v (by omega), ?_, ?_, ?_, h.rlt⟩
  · rw [heap_setCell_other W ⟨w.heap.size + 1 + 1, j, none⟩ w.heap.size v (by show w.heap.size ≠ w.heap.size + 1 + 1; omega)]; exact h.box
  · rw [heap_setCell_other W ⟨w.heap.size + 1 + 1, j, none⟩ (w.heap.size + 1) v (by show w.heap.size + 1 ≠ w.heap.size + 1 + 1; omega)]; exact h.res
  · have := heap_setCell_same W (w.heap.size + 1 + 1) j _ _ v h.loc
    rw [hy] at this; exact this
end
theorem ldTx (W : World) (G : Nat) (h : W.heap[G]? = some (.cells zTx 46 (0, 0))) (x0 x1 x2 x3 : Value) (h0 : ∃ z, x0 = .int .i64 z) (h1 : ∃ s n c, x1 = .slice s n c) (h2 : ∃ s n c, x2 = .slice s n c) (h3 : ∃ s n c, x3 = .slice s n c) :
    (loadVar 46 ⟨G, 0, none⟩).run Tryz.prog ((((W.setCell ⟨G, 0, none⟩ x0).setCell ⟨G, 1, none⟩ x1).setCell ⟨G, 2, none⟩ x2).setCell ⟨G, 3, none⟩ x3) = .ok (.agg #[x0, x1, x2, x3]) ((((W.setCell ⟨G, 0, none⟩ x0).setCell ⟨G, 1, none⟩ x1).setCell ⟨G, 2, none⟩ x2).setCell ⟨G, 3, none⟩ x3) := by
  obtain ⟨z, rfl⟩ := h0
  obtain ⟨s1, n1, c1, rfl⟩ := h1
  obtain ⟨s2, n2, c2, rfl⟩ := h2
  obtain ⟨s3, n3, c3, rfl⟩ := h3
  have g1 := heap_setCell_same W G 0 _ _ (.int .i64 z) h
  have g2 := heap_setCell_same _ G 1 _ _ (.slice s1 n1 c1) g1
  have g3 := heap_setCell_same _ G 2 _ _ (.slice s2 n2 c2) g2
  have g4 := heap_setCell_same _ G 3 _ _ (.slice s3 n3 c3) g3
  refine run_loadVar_mid (P := Tryz.prog) _ G 0 46 [.int .i64 z, .slice s1 n1 c1, .slice s2 n2 c2, .slice s3 n3 c3] _ ?_ Tryz.underlying46 rfl (by kernel_rfl)
  intro j v hv
  simp only [World.cell?, g4, Nat.zero_add]
  simpa using hv

set_option maxRecDepth 100000 in
set_option maxHeartbeats 2000000 in
theorem tx_r (w : World) (r : Nat) (a : Option Addr) (c : Nat) (b : List Nat) (p : Nat) (h : IsReader w r a c b p 0) :
    Calls Tryz.prog 71 #[rdv r] w fun e' w' => RdPost w r a c b (txR b p) (OwnTx w) e' w' := by
  have H0 : Hid (IsReader w r a c b p 0) := h
  have HS0 : Hid (TS w (((w.alloc (.cells #[.pointer (some ⟨r, 0, none⟩)] 116)).alloc (.cells zTx 46)).alloc (.cells zTx 46)) r a c b p (.int .i64 0) (.slice none 0 0) (.slice none 0 0) (.slice none 0 0)) :=
    ⟨Reads.alloc (Reads.alloc (Reads.alloc ⟨h, World.grownBy.refl _ _⟩ _) _) _, (heap_alloc_old _ _ (by simp; omega)).trans ((heap_alloc_old _ _ (by simp)).trans (heap_alloc_new _ _ rfl)), (heap_alloc_old _ _ (by simp)).trans (heap_alloc_new _ _ (by simp)), heap_alloc_new _ _ (by simp), h.lt⟩
  have HA : Hid (txR b p = match upR b 63 p with
    | .error x => .error x
    | .ok (n, p1) => match argR b p1 with
      | .error x => .error x
      | .ok (A, p2) => match setR b 16 p2 with
        | .error x => .error x
        | .ok (R, p3) => match setR b 16 p3 with
          | .error x => .error x
          | .ok (V, p4) => .ok (⟨n, A, R, V⟩, p4)) := rfl
  clear h
  generalize txR b p = TT at *
  go_enter Tryz.func71, Tryz.ntmps71
  go_upto_region 2 with fail
  generalize ((w.alloc (.cells #[.pointer (some ⟨r, 0, none⟩)] 116)).alloc (.cells zTx 46)).alloc (.cells zTx 46) = W0 at *
  have k0 := HS0.out.cell
  cases hu : upR b 63 p with
  | error x =>
    obtain ⟨q, x⟩ := x
    have HT : Hid (TT = .error (q, x)) := by rw [HA.out, hu]; rfl
    have HU : Hid (upR b 63 p = .error (q, x)) := hu
    clear hu HA
    go_wp2_with fail
    refine (upto_bad W0 r a c b p 63 q x HS0.out.rd.1 HU.out).mono ?_
    rintro e1 w1 ⟨rfl, hg1⟩
    have HF : Hid (RdPost w r a c b TT (OwnTx w) (.panicked (flt q x)) w1) := RdPost.fails HT.out (grown_trans' HS0.out.rd.2 hg1)
    clear hg1
    go_wp2
    exact ⟨rfl, HF.out⟩
  | ok x =>
    obtain ⟨n, q⟩ := x
    have HU : Hid (upR b 63 p = .ok (n, q)) := hu
    rw [hu] at HA
    simp only at HA
    clear hu
    go_wp2_with fail
    refine (upto_ok W0 r a c b p 63 n q HS0.out.rd.1 (by omega) HU.out).mono ?_
    rintro e1 w1 ⟨rfl, hr1, _⟩
    have HS1 : Hid (TS w w1 r a c b q (.int .i64 0) (.slice none 0 0) (.slice none 0 0) (.slice none 0 0)) := HS0.out.step hr1
    clear hr1 k0 HS0 HU
    obtain ⟨c0, _, _, _⟩ := HS1.out.cells
    have f0 := HS1.out.frozen 0
    have HS2 : Hid (TS w (w1.setCell ⟨w.heap.size + 1 + 1, 0, none⟩ (.int .i64 (n : Int))) r a c b q (.int .i64 (n : Int)) (.slice none 0 0) (.slice none 0 0) (.slice none 0 0)) := HS1.out.set H0.out 0 _ _ _ _ _ rfl
    go_upto_region 3 with fail
    generalize w1.setCell ⟨w.heap.size + 1 + 1, 0, none⟩ (.int .i64 (n : Int)) = W2 at *
    clear c0 f0 HS1
    have k2 := HS2.out.cell
    have HC : Hid (Calls Tryz.prog 89 #[rdv r] W2 fun e' w' => RdPost W2 r a c b (argR b q) (Own64 W2) e' w') := args_r W2 r a c b q HS2.out.rd.1
    cases hu : argR b q with
    | error x =>
      obtain ⟨qx, x⟩ := x
      have HT : Hid (TT = .error (qx, x)) := by rw [HA.out, hu]; rfl
      rw [hu] at HC
      clear hu HA
      go_wp2_with fail
      refine HC.out.mono ?_
      rintro e1 w3 ⟨rfl, hg1⟩
      have HF : Hid (RdPost w r a c b TT (OwnTx w) (.panicked (flt qx x)) w3) := RdPost.fails HT.out (grown_trans' HS2.out.rd.2 hg1)
      clear hg1
      go_wp2
      exact ⟨rfl, HF.out⟩
    | ok x =>
      obtain ⟨A, q2⟩ := x
      rw [hu] at HC HA
      simp only at HA
      clear hu
      go_wp2_with fail
      refine HC.out.mono ?_
      rintro e1 w3 ⟨v, rfl, hr, ga, rfl, hrow, hge⟩
      have HS3 : Hid (TS w w3 r a c b q2 (.int .i64 (n : Int)) (.slice none 0 0) (.slice none 0 0) (.slice none 0 0)) := HS2.out.step hr
      have hsz := HS2.out.size
      have hrl := HS2.out.rlt
      have HL2 : Hid (R64 (w3.setCell ⟨w.heap.size + 1 + 1, 1, none⟩ (.slice (some ⟨ga, 0, none⟩) A.length A.length)) ga A ∧ w.heap.size + 1 + 1 < ga) := ⟨hrow.same (heap_setCell_other w3 ⟨w.heap.size + 1 + 1, 1, none⟩ ga _ (by show ga ≠ w.heap.size + 1 + 1; omega)), by omega⟩
      have HS4 : Hid (TS w (w3.setCell ⟨w.heap.size + 1 + 1, 1, none⟩ (.slice (some ⟨ga, 0, none⟩) A.length A.length)) r a c b q2 (.int .i64 (n : Int)) (.slice (some ⟨ga, 0, none⟩) A.length A.length) (.slice none 0 0) (.slice none 0 0)) := HS3.out.set H0.out 1 _ _ _ _ _ rfl
      obtain ⟨c0, c1, c2, c3⟩ := HS3.out.cells
      have f0 := HS3.out.frozen 1
      clear hr hrow hsz hrl hge HC k2 HS3 HS2
      go_upto_region 4 with fail
      generalize (w3.setCell ⟨w.heap.size + 1 + 1, 1, none⟩ (.slice (some ⟨ga, 0, none⟩) A.length A.length)) = W4 at *
      clear c0 c1 c2 c3 f0
      have k4 := HS4.out.cell
      have HC : Hid (Calls Tryz.prog 90 #[rdv r, .int .u64 ((16 : Nat) : Int)] W4 fun e' w' => RdPost W4 r a c b (setR b 16 q2) (OwnKs W4) e' w') := set_r W4 r a c b q2 16 HS4.out.rd.1 (by omega)
      cases hu : setR b 16 q2 with
      | error x =>
        obtain ⟨qx, x⟩ := x
        have HT : Hid (TT = .error (qx, x)) := by rw [HA.out, hu]; rfl
        rw [hu] at HC
        clear hu HA
        go_wp2_with fail
        refine HC.out.mono ?_
        rintro e1 w5 ⟨rfl, hg1⟩
        have HF : Hid (RdPost w r a c b TT (OwnTx w) (.panicked (flt qx x)) w5) := RdPost.fails HT.out (grown_trans' HS4.out.rd.2 hg1)
        clear hg1
        go_wp2
        exact ⟨rfl, HF.out⟩
      | ok x =>
        obtain ⟨R, q3⟩ := x
        rw [hu] at HC HA
        simp only at HA
        clear hu
        go_wp2_with fail
        refine HC.out.mono ?_
        rintro e1 w5 ⟨v, rfl, hr, gr, rfl, hrow, hge⟩
        have HS5 : Hid (TS w w5 r a c b q3 (.int .i64 (n : Int)) (.slice (some ⟨ga, 0, none⟩) A.length A.length) (.slice none 0 0) (.slice none 0 0)) := HS4.out.step hr
        have hsz := HS4.out.size
        have hrl := HS4.out.rlt
        obtain ⟨oA, og⟩ := HL2.out
        have hla := oA.lt
        have HL4 : Hid (R64 (w5.setCell ⟨w.heap.size + 1 + 1, 2, none⟩ (.slice (some ⟨gr, 0, none⟩) R.length R.length)) ga A ∧ RK (w5.setCell ⟨w.heap.size + 1 + 1, 2, none⟩ (.slice (some ⟨gr, 0, none⟩) R.length R.length)) gr R ∧ w.heap.size + 1 + 1 < ga ∧ ga < gr) := ⟨oA.same ((heap_setCell_other w5 ⟨w.heap.size + 1 + 1, 2, none⟩ ga _ (by show ga ≠ w.heap.size + 1 + 1; omega)).trans (block_reads hr hla (by omega))), hrow.same (heap_setCell_other w5 ⟨w.heap.size + 1 + 1, 2, none⟩ gr _ (by show gr ≠ w.heap.size + 1 + 1; omega)), by omega, by omega⟩
        have HS6 : Hid (TS w (w5.setCell ⟨w.heap.size + 1 + 1, 2, none⟩ (.slice (some ⟨gr, 0, none⟩) R.length R.length)) r a c b q3 (.int .i64 (n : Int)) (.slice (some ⟨ga, 0, none⟩) A.length A.length) (.slice (some ⟨gr, 0, none⟩) R.length R.length) (.slice none 0 0)) := HS5.out.set H0.out 2 _ _ _ _ _ rfl
        obtain ⟨c0, c1, c2, c3⟩ := HS5.out.cells
        have f0 := HS5.out.frozen 2
        clear hr hrow hsz hrl hge HC k4 HS5 HS4 oA og hla HL2
        go_upto_region 5 with fail
        generalize (w5.setCell ⟨w.heap.size + 1 + 1, 2, none⟩ (.slice (some ⟨gr, 0, none⟩) R.length R.length)) = W6 at *
        clear c0 c1 c2 c3 f0
        have k6 := HS6.out.cell
        have HC : Hid (Calls Tryz.prog 90 #[rdv r, .int .u64 ((16 : Nat) : Int)] W6 fun e' w' => RdPost W6 r a c b (setR b 16 q3) (OwnKs W6) e' w') := set_r W6 r a c b q3 16 HS6.out.rd.1 (by omega)
        cases hu : setR b 16 q3 with
        | error x =>
          obtain ⟨qx, x⟩ := x
          have HT : Hid (TT = .error (qx, x)) := by rw [HA.out, hu]; rfl
          rw [hu] at HC
          clear hu HA
          go_wp2_with fail
          refine HC.out.mono ?_
          rintro e1 w7 ⟨rfl, hg1⟩
          have HF : Hid (RdPost w r a c b TT (OwnTx w) (.panicked (flt qx x)) w7) := RdPost.fails HT.out (grown_trans' HS6.out.rd.2 hg1)
          clear hg1
          go_wp2
          exact ⟨rfl, HF.out⟩
        | ok x =>
          obtain ⟨V, q4⟩ := x
          rw [hu] at HC HA
          simp only at HA
          clear hu
          go_wp2_with fail
          refine HC.out.mono ?_
          rintro e1 w7 ⟨v, rfl, hr, gw, rfl, hrow, hge⟩
          have HS7 : Hid (TS w w7 r a c b q4 (.int .i64 (n : Int)) (.slice (some ⟨ga, 0, none⟩) A.length A.length) (.slice (some ⟨gr, 0, none⟩) R.length R.length) (.slice none 0 0)) := HS6.out.step hr
          have hsz := HS6.out.size
          have hrl := HS6.out.rlt
          obtain ⟨oA, oR, og1, og2⟩ := HL4.out
          have hla := oA.lt
          have hlr := oR.lt
          have HL6 : Hid (R64 (w7.setCell ⟨w.heap.size + 1 + 1, 3, none⟩ (.slice (some ⟨gw, 0, none⟩) V.length V.length)) ga A ∧ RK (w7.setCell ⟨w.heap.size + 1 + 1, 3, none⟩ (.slice (some ⟨gw, 0, none⟩) V.length V.length)) gr R ∧ RK (w7.setCell ⟨w.heap.size + 1 + 1, 3, none⟩ (.slice (some ⟨gw, 0, none⟩) V.length V.length)) gw V ∧ w.heap.size + 1 + 1 < ga ∧ ga < gr ∧ gr < gw) := ⟨oA.same ((heap_setCell_other w7 ⟨w.heap.size + 1 + 1, 3, none⟩ ga _ (by show ga ≠ w.heap.size + 1 + 1; omega)).trans (block_reads hr hla (by omega))), oR.same ((heap_setCell_other w7 ⟨w.heap.size + 1 + 1, 3, none⟩ gr _ (by show gr ≠ w.heap.size + 1 + 1; omega)).trans (block_reads hr hlr (by omega))), hrow.same (heap_setCell_other w7 ⟨w.heap.size + 1 + 1, 3, none⟩ gw _ (by show gw ≠ w.heap.size + 1 + 1; omega)), by omega, by omega, by omega⟩
          have HS8 : Hid (TS w (w7.setCell ⟨w.heap.size + 1 + 1, 3, none⟩ (.slice (some ⟨gw, 0, none⟩) V.length V.length)) r a c b q4 (.int .i64 (n : Int)) (.slice (some ⟨ga, 0, none⟩) A.length A.length) (.slice (some ⟨gr, 0, none⟩) R.length R.length) (.slice (some ⟨gw, 0, none⟩) V.length V.length)) := HS7.out.set H0.out 3 _ _ _ _ _ rfl
          obtain ⟨c0, c1, c2, c3⟩ := HS7.out.cells
          have f0 := HS7.out.frozen 3
          clear hr hrow hsz hrl hge HC k6 HS7 HS6 oA oR og1 og2 hla hlr HL4
          go_upto_region 6 with fail
          generalize (w7.setCell ⟨w.heap.size + 1 + 1, 3, none⟩ (.slice (some ⟨gw, 0, none⟩) V.length V.length)) = W8 at *
          clear c0 c1 c2 c3 f0
          obtain ⟨c0, c1, c2, c3⟩ := HS8.out.cells
          have hres := HS8.out.res
          have d0 : W8.cell? ⟨w.heap.size + 1, 0, none⟩ = some (.int .i64 0) := by simp [World.cell?, hres]
          have d1 : W8.cell? ⟨w.heap.size + 1, 1, none⟩ = some (.slice none 0 0) := by simp [World.cell?, hres]
          have d2 : W8.cell? ⟨w.heap.size + 1, 2, none⟩ = some (.slice none 0 0) := by simp [World.cell?, hres]
          have d3 : W8.cell? ⟨w.heap.size + 1, 3, none⟩ = some (.slice none 0 0) := by simp [World.cell?, hres]
          have f0 := frozen_of_row W8 (w.heap.size + 1) 0 _ _ hres
          have f1 := frozen_of_row W8 (w.heap.size + 1) 1 _ _ hres
          have f2 := frozen_of_row W8 (w.heap.size + 1) 2 _ _ hres
          have f3 := frozen_of_row W8 (w.heap.size + 1) 3 _ _ hres
          have HLd : Hid ((loadVar 46 ⟨w.heap.size + 1, 0, none⟩).run Tryz.prog ((((W8.setCell ⟨w.heap.size + 1, 0, none⟩ (.int .i64 (n : Int))).setCell ⟨w.heap.size + 1, 1, none⟩ (.slice (some ⟨ga, 0, none⟩) A.length A.length)).setCell ⟨w.heap.size + 1, 2, none⟩ (.slice (some ⟨gr, 0, none⟩) R.length R.length)).setCell ⟨w.heap.size + 1, 3, none⟩ (.slice (some ⟨gw, 0, none⟩) V.length V.length)) = .ok (.agg #[(.int .i64 (n : Int)), (.slice (some ⟨ga, 0, none⟩) A.length A.length), (.slice (some ⟨gr, 0, none⟩) R.length R.length), (.slice (some ⟨gw, 0, none⟩) V.length V.length)]) ((((W8.setCell ⟨w.heap.size + 1, 0, none⟩ (.int .i64 (n : Int))).setCell ⟨w.heap.size + 1, 1, none⟩ (.slice (some ⟨ga, 0, none⟩) A.length A.length)).setCell ⟨w.heap.size + 1, 2, none⟩ (.slice (some ⟨gr, 0, none⟩) R.length R.length)).setCell ⟨w.heap.size + 1, 3, none⟩ (.slice (some ⟨gw, 0, none⟩) V.length V.length))) := ldTx W8 (w.heap.size + 1) hres _ _ _ _ ⟨_, rfl⟩ ⟨_, _, _, rfl⟩ ⟨_, _, _, rfl⟩ ⟨_, _, _, rfl⟩
          have HF : Hid (RdPost w r a c b TT (OwnTx w) (.returned (.agg #[(.int .i64 (n : Int)), (.slice (some ⟨ga, 0, none⟩) A.length A.length), (.slice (some ⟨gr, 0, none⟩) R.length R.length), (.slice (some ⟨gw, 0, none⟩) V.length V.length)])) ((((W8.setCell ⟨w.heap.size + 1, 0, none⟩ (.int .i64 (n : Int))).setCell ⟨w.heap.size + 1, 1, none⟩ (.slice (some ⟨ga, 0, none⟩) A.length A.length)).setCell ⟨w.heap.size + 1, 2, none⟩ (.slice (some ⟨gr, 0, none⟩) R.length R.length)).setCell ⟨w.heap.size + 1, 3, none⟩ (.slice (some ⟨gw, 0, none⟩) V.length V.length))) := by
            have hoth : ∀ G, G ≠ w.heap.size + 1 → ((((W8.setCell ⟨w.heap.size + 1, 0, none⟩ (.int .i64 (n : Int))).setCell ⟨w.heap.size + 1, 1, none⟩ (.slice (some ⟨ga, 0, none⟩) A.length A.length)).setCell ⟨w.heap.size + 1, 2, none⟩ (.slice (some ⟨gr, 0, none⟩) R.length R.length)).setCell ⟨w.heap.size + 1, 3, none⟩ (.slice (some ⟨gw, 0, none⟩) V.length V.length)).heap[G]? = W8.heap[G]? := fun G hG => by
              rw [heap_setCell_other _ _ G _ (by exact hG), heap_setCell_other _ _ G _ (by exact hG), heap_setCell_other _ _ G _ (by exact hG), heap_setCell_other _ _ G _ (by exact hG)]
            obtain ⟨oA, oR, oV, og1, og2, og3⟩ := HL6.out
            refine RdPost.good (x := ⟨n, A, R, V⟩) (q := q4) HA.out ((((HS8.out.rd.setNew H0.out _ 0 _ (by omega)).setNew H0.out _ 1 _ (by omega)).setNew H0.out _ 2 _ (by omega)).setNew H0.out _ 3 _ (by omega)) ⟨ga, gr, gw, rfl, oA.same (hoth ga (by omega)), oR.same (hoth gr (by omega)), oV.same (hoth gw (by omega)), by omega, og2, og3⟩
          clear hres HS8 HL6 HA
          go_wp2
          refine bodyPost_ret (v := .agg #[(.int .i64 (n : Int)), (.slice (some ⟨ga, 0, none⟩) A.length A.length), (.slice (some ⟨gr, 0, none⟩) R.length R.length), (.slice (some ⟨gw, 0, none⟩) V.length V.length)]) ?_ rfl HF.out
          simp [results, Tryz.results71, asAddr, HLd.out]
end Go.Proofs.YtcaibgbhebldmaaGreat.Kk
/-
  THE WALK OF batch.
-/
namespace Go.Proofs.YtcaibgbhebldmaaGreat.Kk
open Go.RowKit Go.Sort

/-- a transaction that was read: its lists lie in rows of their own, between lo and hi -/
def DcT (W : World) (lo hi : Nat) (y : Bx) : Prop := ∃ ga gr gw, y = ⟨y.t, some ⟨ga, 0, none⟩, y.t.args.length, some ⟨gr, 0, none⟩, y.t.reads.length, some ⟨gw, 0, none⟩, y.t.writes.length⟩ ∧
  R64 W ga y.t.args ∧ RK W gr y.t.reads ∧ RK W gw y.t.writes ∧ lo ≤ ga ∧ ga < gr ∧ gr < gw ∧ gw < hi
theorem DcT.same {W W' : World} {lo hi : Nat} {y : Bx} (h : DcT W lo hi y) (hs : ∀ G, lo ≤ G → G < hi → G < W.heap.size → W'.heap[G]? = W.heap[G]?) : DcT W' lo hi y := by
  obtain ⟨ga, gr, gw, e, h1, h2, h3, h4, h5, h6, h7⟩ := h
  exact ⟨ga, gr, gw, e, h1.same (hs ga h4 (by omega) h1.lt), h2.same (hs gr (by omega) (by omega) h2.lt), h3.same (hs gw (by omega) h7 h3.lt), h4, h5, h6, h7⟩
/-- a batch that was read -/
structure Dcd (W : World) (base g n k : Nat) (Ts : List Tp) (Qs : List Bx) (lo : Nat → Nat) : Prop where
  row : RT W g Qs
  len : Qs.length = n
  ts : (Qs.take k).map Bx.t = Ts
  ge : base ≤ g
  one : ∀ i, i < k → DcT W (lo i) (lo (i + 1)) (bd Qs i)
  lo0 : g < lo 0
  lok : lo k ≤ W.heap.size
  mono : ∀ i, i < k → lo i ≤ lo (i + 1)
theorem Dcd.gt {W : World} {base g n k : Nat} {Ts : List Tp} {Qs : List Bx} {lo : Nat → Nat} (h : Dcd W base g n k Ts Qs lo) : ∀ i, i ≤ k → g < lo i
  | 0, _ => h.lo0
  | i + 1, hi => Nat.lt_of_lt_of_le (h.gt i (by omega)) (h.mono i (by omega))
theorem Dcd.same {W W' : World} {base g n k : Nat} {Ts : List Tp} {Qs : List Bx} {lo : Nat → Nat} (h : Dcd W base g n k Ts Qs lo) (hs : ∀ G, g ≤ G → G < W.heap.size → W'.heap[G]? = W.heap[G]?) (hz : W.heap.size ≤ W'.heap.size) : Dcd W' base g n k Ts Qs lo :=
  ⟨h.row.same (hs g (Nat.le_refl _) h.row.lt), h.len, h.ts, h.ge, fun i hi => (h.one i hi).same (fun G g1 _ g3 => hs G (by have := h.gt i (by omega); omega) g3), h.lo0, Nat.le_trans h.lok hz, h.mono⟩
theorem take_set_map (Qs : List Bx) (k : Nat) (y : Bx) (h : k < Qs.length) : ((Qs.set k y).take (k + 1)).map Bx.t = (Qs.take k).map Bx.t ++ [y.t] := by
  have hl : k < (Qs.set k y).length := by rw [List.length_set]; exact h
  rw [bd_take (Qs.set k y) k hl, bd_set_eq _ _ _ h, List.take_set_of_le (Nat.le_refl _)]
  simp
/-- one more is read and stored -/
theorem Dcd.put {W W3 : World} {base g n k : Nat} {Ts : List Tp} {Qs : List Bx} {lo : Nat → Nat} (h : Dcd W base g n k Ts Qs lo) (hk : k < n) (hs : ∀ G, g ≤ G → G < W.heap.size → W3.heap[G]? = W.heap[G]?) (hz : W.heap.size ≤ W3.heap.size) (t : Tp) (ga gr gw : Nat)
    (hA : R64 W3 ga t.args) (hR : RK W3 gr t.reads) (hW : RK W3 gw t.writes) (h1 : W.heap.size ≤ ga) (h2 : ga < gr) (h3 : gr < gw) :
    RT W3 g Qs ∧ ∃ lo', Dcd ((((W3.setCell ⟨g, k * 4, none⟩ (.int .i64 t.proc)).setCell ⟨g, k * 4 + 1, none⟩ (.slice (some ⟨ga, 0, none⟩) t.args.length t.args.length)).setCell ⟨g, k * 4 + 2, none⟩ (.slice (some ⟨gr, 0, none⟩) t.reads.length t.reads.length)).setCell ⟨g, k * 4 + 3, none⟩ (.slice (some ⟨gw, 0, none⟩) t.writes.length t.writes.length)) base g n (k + 1) (Ts ++ [t])
      (Qs.set k ⟨t, some ⟨ga, 0, none⟩, t.args.length, some ⟨gr, 0, none⟩, t.reads.length, some ⟨gw, 0, none⟩, t.writes.length⟩) lo' := by
  have hS := h.same hs hz
  have hkl : k < Qs.length := by rw [h.len]; exact hk
  have hP := hS.row.put hkl ⟨t, some ⟨ga, 0, none⟩, t.args.length, some ⟨gr, 0, none⟩, t.reads.length, some ⟨gw, 0, none⟩, t.writes.length⟩
  have hg := h.row.lt
  have hoth : ∀ G, G ≠ g → ((((W3.setCell ⟨g, k * 4, none⟩ (.int .i64 t.proc)).setCell ⟨g, k * 4 + 1, none⟩ (.slice (some ⟨ga, 0, none⟩) t.args.length t.args.length)).setCell ⟨g, k * 4 + 2, none⟩ (.slice (some ⟨gr, 0, none⟩) t.reads.length t.reads.length)).setCell ⟨g, k * 4 + 3, none⟩ (.slice (some ⟨gw, 0, none⟩) t.writes.length t.writes.length)).heap[G]? = W3.heap[G]? := fun G hG => by
    rw [heap_setCell_other _ _ G _ (by exact hG), heap_setCell_other _ _ G _ (by exact hG), heap_setCell_other _ _ G _ (by exact hG), heap_setCell_other _ _ G _ (by exact hG)]
  have hgw := hW.lt
  refine ⟨hS.row, fun i => if i ≤ k then lo i else W3.heap.size, hP, by rw [List.length_set]; exact h.len, by rw [take_set_map Qs k _ hkl, h.ts], h.ge, fun i hi => ?_, by simp only [Nat.zero_le, if_true]; exact h.lo0, by simp only [if_neg (show ¬ k + 1 ≤ k by omega)]; simp, fun i hi => ?_⟩
  · by_cases e : i = k
    · subst e
      rw [bd_set_eq _ _ _ hkl]
      have hlk := h.lok
      simp only [Nat.le_refl, if_true, if_neg (show ¬ i + 1 ≤ i by omega)]
      exact ⟨ga, gr, gw, rfl, hA.same (hoth ga (by omega)), hR.same (hoth gr (by omega)), hW.same (hoth gw (by omega)), by omega, h2, h3, hgw⟩
    · rw [bd_set_ne _ _ _ _ e]
      have hgt := h.gt i (by omega)
      simp only [if_pos (show i ≤ k by omega), if_pos (show i + 1 ≤ k by omega)]
      exact (hS.one i (by omega)).same (fun G g1 _ _ => hoth G (by omega))
  · by_cases e : i = k
    · subst e
      have hlk := h.lok
      simp only [Nat.le_refl, if_true, if_neg (show ¬ i + 1 ≤ i by omega)]; omega
    · simp only [if_pos (show i ≤ k by omega), if_pos (show i + 1 ≤ k by omega)]
      exact h.mono i (by omega)
def OwnBat (w0 : World) (Ts : List Tp) (v : Value) (w' : World) : Prop := ∃ g Qs lo, v = .slice (some ⟨g, 0, none⟩) Ts.length Ts.length ∧ Dcd w' w0.heap.size g Ts.length Ts.length Ts Qs lo
structure BS (w W : World) (r : Nat) (a : Option Addr) (c : Nat) (b : List Nat) (q : Nat) : Prop where
  rd : Reads w r a c b q 0 W
  box : W.heap[w.heap.size]? = some (.cells #[.pointer (some ⟨r, 0, none⟩)] 116 (0, 0))
  rlt : r < w.heap.size
theorem BS.cell {w W : World} {r : Nat} {a : Option Addr} {c : Nat} {b : List Nat} {q : Nat} (h : BS w W r a c b q) : W.cell? ⟨w.heap.size, 0, none⟩ = some (.pointer (some ⟨r, 0, none⟩)) := by simp [World.cell?, h.box]

set_option maxRecDepth 100000 in
set_option maxHeartbeats 2000000 in
theorem batch_r (w : World) (r : Nat) (a : Option Addr) (c : Nat) (b : List Nat) (p : Nat) (h : IsReader w r a c b p 0) :
    Calls Tryz.prog 49 #[rdv r] w fun e' w' => RdPost w r a c b (batR b p) (OwnBat w) e' w' := by
  have H0 : Hid (IsReader w r a c b p 0) := h
  have HR : Hid (Reads w r a c b p 0 (w.alloc (.cells #[.pointer (some ⟨r, 0, none⟩)] 116))) := Reads.alloc ⟨h, World.grownBy.refl _ _⟩ _
  have HB0 : Hid ((w.alloc (.cells #[.pointer (some ⟨r, 0, none⟩)] 116)).heap[w.heap.size]? = some (.cells #[.pointer (some ⟨r, 0, none⟩)] 116 (0, 0))) := heap_alloc_new _ _ rfl
  have HLt : Hid (r < w.heap.size) := h.lt
  have HA : Hid (batR b p = match upR b 64 p with | .ok (n, q) => txsR b n [] q | .error x => .error x) := rfl
  clear h
  generalize batR b p = TT at *
  go_enter Tryz.func49, Tryz.ntmps49
  go_upto_region 1 with fail
  generalize w.alloc (.cells #[.pointer (some ⟨r, 0, none⟩)] 116) = W0 at *
  have k0 : W0.cell? ⟨w.heap.size, 0, none⟩ = some (.pointer (some ⟨r, 0, none⟩)) := by simp [World.cell?, HB0.out]
  cases hu : upR b 64 p with
  | error x =>
    obtain ⟨q, x⟩ := x
    have HT : Hid (TT = .error (q, x)) := by rw [HA.out, hu]; rfl
    have HU : Hid (upR b 64 p = .error (q, x)) := hu
    clear hu HA
    go_wp2_with fail
    refine (upto_bad W0 r a c b p 64 q x HR.out.1 HU.out).mono ?_
    rintro e1 w1 ⟨rfl, hg1⟩
    have HF : Hid (RdPost w r a c b TT (OwnBat w) (.panicked (flt q x)) w1) := RdPost.fails HT.out (grown_trans' HR.out.2 hg1)
    clear hg1
    go_wp2
    exact ⟨rfl, HF.out⟩
  | ok x =>
    obtain ⟨n, q⟩ := x
    have HU : Hid (upR b 64 p = .ok (n, q)) := hu
    have HT : Hid (txsR b n [] q = TT) := by rw [HA.out, hu]; rfl
    clear hu HA
    go_wp2_with fail
    refine (upto_ok W0 r a c b p 64 n q HR.out.1 (by omega) HU.out).mono ?_
    rintro e1 w1 ⟨rfl, hr1, hn⟩
    have HB1 : Hid (w1.heap[w.heap.size]? = some (.cells #[.pointer (some ⟨r, 0, none⟩)] 116 (0, 0))) := (block_reads hr1 (Array.getElem?_eq_some_iff.1 HB0.out).1 (by have := HLt.out; omega)).trans HB0.out
    have HR1 : Hid (Reads w r a c b q 0 w1) := HR.out.trans hr1
    have hmk := make_txs n (n : Int) rfl (by omega)
    clear hr1 HR HB0 k0
    have hsz : w.heap.size < w1.heap.size := (Array.getElem?_eq_some_iff.1 HB1.out).1
    have HS0 : Hid (BS w (w1.alloc (.cells (bxcs (List.replicate n bxD)).toArray 46)) r a c b q) := ⟨HR1.out.alloc _, (heap_alloc_old _ _ hsz).trans HB1.out, HLt.out⟩
    have HD0 : Hid (Dcd (w1.alloc (.cells (bxcs (List.replicate n bxD)).toArray 46)) w.heap.size w1.heap.size n 0 [] (List.replicate n bxD) (fun _ => w1.heap.size + 1)) := ⟨heap_alloc_new _ _ rfl, by simp, by simp, by omega, fun i hi => by omega, Nat.lt_succ_self _, by simp, fun i hi => by omega⟩
    have HGt : Hid (w.heap.size < w1.heap.size) := hsz
    go_upto_region 2 with fail
    generalize w1.alloc (.cells (bxcs (List.replicate n bxD)).toArray 46) = W1 at *
    generalize w1.heap.size = g at *
    clear hmk HR1 HB1 hsz
    go_wp2_with fail
    go_loopw [10] (fun x wr => ∃ (k q : Nat) (T : List Tp) (Qs : List Bx) (lo : Nat → Nat), k ≤ n ∧ x = .int .i64 (k : Int) ∧ T.length = k ∧ Hid (BS w wr r a c b q) ∧ Hid (Dcd wr w.heap.size g n k T Qs lo) ∧ Hid (txsR b (n - k) T q = TT)) (fun x _ => n - (intOf x).toNat)
    case atStart => exact ⟨0, q, [], _, _, Nat.zero_le _, rfl, rfl, HS0, HD0, HT⟩
    case round =>
      clear HS0 HT HU q HD0
      obtain ⟨k, q, T, Qs, lo, hk, rfl, hA, HS, HD, HT⟩ := hrel
      by_cases hlt : k < n
      · have k0 := HS.out.cell
        have hlti : (k : Int) < (n : Int) := by omega
        have HT2 : Hid (TT = match txR b q with | .ok (x, q1) => txsR b (n - (k + 1)) (T ++ [x]) q1 | .error x => .error x) := by
          rw [← HT.out, show n - k = (n - (k + 1)) + 1 by omega]; rfl
        have HC : Hid (Calls Tryz.prog 71 #[rdv r] wr fun e' w' => RdPost wr r a c b (txR b q) (OwnTx wr) e' w') := tx_r wr r a c b q HS.out.rd.1
        clear HT
        cases hu : txR b q with
        | error x =>
          obtain ⟨q1, x⟩ := x
          have HT : Hid (TT = .error (q1, x)) := by rw [HT2.out, hu]; rfl
          rw [hu] at HC
          clear hu HT2
          go_wp2_with fail
          refine HC.out.mono ?_
          rintro e2 w2 ⟨rfl, hg2⟩
          have HF : Hid (RdPost w r a c b TT (OwnBat w) (.panicked (flt q1 x)) w2) := RdPost.fails HT.out (grown_trans' HS.out.rd.2 hg2)
          clear hg2 k0
          go_wp2
          exact ⟨rfl, HF.out⟩
        | ok x =>
          obtain ⟨t, q1⟩ := x
          have HT : Hid (txsR b (n - (k + 1)) (T ++ [t]) q1 = TT) := by rw [HT2.out, hu]; rfl
          rw [hu] at HC
          clear hu HT2
          go_wp2_with fail
          refine HC.out.mono ?_
          rintro e2 w2 ⟨v, rfl, hr2, ga, gr, gw, rfl, h1, h2, h3, h4, h5, h6⟩
          have hgr : ∀ G, g ≤ G → G < wr.heap.size → w2.heap[G]? = wr.heap[G]? := fun G g1 g2 => block_reads hr2 g2 (by have := HGt.out; have := HLt.out; omega)
          obtain ⟨hrow, lo', hp⟩ := HD.out.put hlt hgr hr2.2.size t ga gr gw h1 h2 h3 h4 h5 h6
          obtain ⟨e0, e1, e2, e3⟩ := hrow.cell k (by rw [HD.out.len]; exact hlt)
          have f0 := hrow.frozen (k * 4)
          have f1 := hrow.frozen (k * 4 + 1)
          have f2 := hrow.frozen (k * 4 + 2)
          have f3 := hrow.frozen (k * 4 + 3)
          have HD2 : Hid (Dcd _ w.heap.size g n (k + 1) (T ++ [t]) _ lo') := hp
          have HS2 : Hid (BS w ((((w2.setCell ⟨g, k * 4, none⟩ (.int .i64 t.proc)).setCell ⟨g, k * 4 + 1, none⟩ (.slice (some ⟨ga, 0, none⟩) t.args.length t.args.length)).setCell ⟨g, k * 4 + 2, none⟩ (.slice (some ⟨gr, 0, none⟩) t.reads.length t.reads.length)).setCell ⟨g, k * 4 + 3, none⟩ (.slice (some ⟨gw, 0, none⟩) t.writes.length t.writes.length)) r a c b q1) := by
            have hgt := HGt.out
            have hb := (Array.getElem?_eq_some_iff.1 HS.out.box).1
            refine ⟨((((HS.out.rd.trans hr2).setNew H0.out g _ _ (by omega)).setNew H0.out g _ _ (by omega)).setNew H0.out g _ _ (by omega)).setNew H0.out g _ _ (by omega), ?_, HS.out.rlt⟩
            rw [heap_setCell_other _ _ w.heap.size _ (by show w.heap.size ≠ g; omega), heap_setCell_other _ _ w.heap.size _ (by show w.heap.size ≠ g; omega), heap_setCell_other _ _ w.heap.size _ (by show w.heap.size ≠ g; omega), heap_setCell_other _ _ w.heap.size _ (by show w.heap.size ≠ g; omega)]
            exact (block_reads hr2 hb (by have := HLt.out; omega)).trans HS.out.box
          clear hp hrow hr2 h1 h2 h3 h4 h5 h6 hgr k0 HC HS HD
          go_wp2
          go_roundw
          case rel => exact ⟨k + 1, q1, T ++ [t], _, lo', by omega, by go_num, by simp [hA], HS2, HD2, HT⟩
          case measure => simp [intOf]; omega
      · obtain rfl : k = n := by omega
        have HF : Hid (RdPost w r a c b TT (OwnBat w) (.returned (.slice (some ⟨g, 0, none⟩) k k)) wr) := by
          have h1 := HT.out
          rw [Nat.sub_self] at h1
          refine RdPost.good (x := T) (q := q) h1.symm HS.out.rd ⟨g, Qs, lo, by rw [hA], ?_⟩
          rw [hA]; exact HD.out
        clear HS HT HD
        go_wp2
        go_ret
        exact HF.out
end Go.Proofs.YtcaibgbhebldmaaGreat.Kk
