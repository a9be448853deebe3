import Derived.Test.YtbpgafchagpmoaaJXRApp
import Derived.Deep.DeepCutAuto
/-
  THE WALK OF apart.
-/
namespace Go.Proofs.Ytbpgafchagpmoaa
open Go.RowKit Go.Sort

/-- the three effects' boxes, and what stays -/
structure PB (w W : World) (co : Bool) (cd us st : Int) (v1 v2 u1 u2 t1 t2 : Value) : Prop where
  fz : Fz w W v1 v2
  ra : RE W w.heap.size (.bool co) (.int .i64 cd) (.int .i64 us) v1 v2 (.int .i64 st)
  rb : RE W (w.heap.size + 1) (.bool co) (.int .i64 cd) (.int .i64 us) u1 u2 (.int .i64 st)
  rc : RE W (w.heap.size + 1 + 1) (.bool co) (.int .i64 cd) (.int .i64 us) t1 t2 (.int .i64 st)
section
variable {w W W' : World} {co : Bool} {cd us st : Int} {v1 v2 u1 u2 t1 t2 : Value}
theorem PB.start (w : World) (co : Bool) (cd us st : Int) (v1 v2 u1 u2 t1 t2 : Value) : PB w (((w.alloc (.cells #[.bool co, .int .i64 cd, .int .i64 us, v1, v2, .int .i64 st] 33)).alloc (.cells #[.bool co, .int .i64 cd, .int .i64 us, u1, u2, .int .i64 st] 33)).alloc (.cells #[.bool co, .int .i64 cd, .int .i64 us, t1, t2, .int .i64 st] 33)) co cd us st v1 v2 u1 u2 t1 t2 :=
  ⟨⟨rfl, rfl, rfl, by simp; omega, fun b h _ _ => ((((Below.refl _ _).alloc (Nat.le_refl _) _).alloc (by simp) _).alloc (by simp; omega) _ : Go.RowKit.Below w.heap.size w _).block b h⟩, (heap_alloc_old _ _ (by simp; omega)).trans ((heap_alloc_old _ _ (by simp)).trans (heap_alloc_new _ _ rfl)), (heap_alloc_old _ _ (by simp)).trans (heap_alloc_new _ _ (by simp)), heap_alloc_new _ _ (by simp)⟩
theorem PB.below (h : PB w W co cd us st v1 v2 u1 u2 t1 t2) (hb : Go.RowKit.Below W.heap.size W W') : PB w W' co cd us st v1 v2 u1 u2 t1 t2 := ⟨h.fz.below hb, h.ra.below hb h.ra.lt, h.rb.below hb h.rb.lt, h.rc.below hb h.rc.lt⟩
theorem PB.own {e size n : Nat} {v : Value} {xs : List Value} (h : PB w W co cd us st v1 v2 u1 u2 t1 t2) (hf : Fz w W' v1 v2) (hr : W.ownsRow 0 e size v n xs) (he : e ≠ 33) (hg : W.grownBy W' v.ownBlock) : PB w W' co cd us st v1 v2 u1 u2 t1 t2 := ⟨hf, h.ra.own hr he hg, h.rb.own hr he hg, h.rc.own hr he hg⟩
end
/-- while a's lists are written over -/
structure P1 (w W : World) (co : Bool) (cd us st : Int) (v1 v2 u1 u2 t1 t2 : Value) (n1 n2 k1 k2 : Nat) (xs zs : List Value) : Prop where
  b : PB w W co cd us st v1 v2 u1 u2 t1 t2
  r1 : W.ownsRow 0 2 1 v1 n1 xs
  r2 : W.ownsRow 0 60 2 v2 n2 zs
  o1 : ∀ i, i < k1 → xs[i]? = some (.int .i64 (-100 - (i : Int)))
  o2 : ∀ i, i < k2 → zs[i * 2 + 1]? = some (.int .i64 (-200 - (i : Int)))
  o3 : ∀ i, i < n2 → ∃ t, zs[i * 2]? = some (.int .i64 t)
section
variable {w W W' : World} {co : Bool} {cd us st : Int} {v1 v2 u1 u2 t1 t2 : Value} {n1 n2 k1 k2 : Nat} {xs zs : List Value}
theorem P1.set1 {g c : Nat} (h : P1 w W co cd us st (.slice (some ⟨g, 0, none⟩) n1 c) v2 u1 u2 t1 t2 n1 n2 k1 k2 xs zs) (hk : k1 < n1) : P1 w (W.setCell ⟨g, k1, none⟩ (.int .i64 (-100 - (k1 : Int)))) co cd us st (.slice (some ⟨g, 0, none⟩) n1 c) v2 u1 u2 t1 t2 n1 n2 (k1 + 1) k2 (xs.set k1 (.int .i64 (-100 - (k1 : Int)))) zs := by
  obtain ⟨h1, h2⟩ := World.ownsRow.stored h.r1 k1 (.int .i64 (-100 - (k1 : Int)))
  refine ⟨h.b.own (h.b.fz.by1 h2) h.r1 (by decide) h2, h1, ownsRow_same h.r2 (fun x hx => h2.block x (World.ownsRow.lt h.r2 x hx).2 (fun e => own_apart h.r2 h.r1 (by decide) hx e.symm)), fun i hi => ?_, h.o2, h.o3⟩
  have hl := h.r1.1
  rw [List.getElem?_set]
  by_cases hik : k1 = i
  · subst hik; rw [if_pos rfl, if_pos (by omega)]
  · rw [if_neg hik]; exact h.o1 i (by omega)
theorem P1.set2 {g c : Nat} (h : P1 w W co cd us st v1 (.slice (some ⟨g, 0, none⟩) n2 c) u1 u2 t1 t2 n1 n2 k1 k2 xs zs) (hk : k2 < n2) : P1 w (W.setCell ⟨g, k2 * 2 + 1, none⟩ (.int .i64 (-200 - (k2 : Int)))) co cd us st v1 (.slice (some ⟨g, 0, none⟩) n2 c) u1 u2 t1 t2 n1 n2 k1 (k2 + 1) xs (zs.set (k2 * 2 + 1) (.int .i64 (-200 - (k2 : Int)))) := by
  obtain ⟨h1, h2⟩ := World.ownsRow.stored h.r2 (k2 * 2 + 1) (.int .i64 (-200 - (k2 : Int)))
  have hl := h.r2.1
  refine ⟨h.b.own (h.b.fz.by2 h2) h.r2 (by decide) h2, ownsRow_same h.r1 (fun x hx => h2.block x (World.ownsRow.lt h.r1 x hx).2 (fun e => own_apart h.r1 h.r2 (by decide) hx e.symm)), h1, h.o1, fun i hi => ?_, fun i hi => ?_⟩
  · rw [List.getElem?_set]
    by_cases hik : k2 = i
    · subst hik; rw [if_pos rfl, if_pos (by omega)]
    · rw [if_neg (by omega)]; exact h.o2 i (by omega)
  · rw [List.getElem?_set, if_neg (by omega)]; exact h.o3 i hi
end
/-- while two further views grow -/
structure P3 (w W : World) (co : Bool) (cd us st : Int) (v1 v2 u1 u2 t1 t2 : Value) (n1 n2 k l : Nat) (xs zs : List Value) (vx vy : Value) : Prop where
  b : PB w W co cd us st v1 v2 u1 u2 t1 t2
  x : ∃ ys, AX w.heap.size W 2 1 v1 n1 xs vx (n1 + k) ys
  y : ∃ ys, AX w.heap.size W 60 2 v2 n2 zs vy (n2 + l) ys
section
variable {w W W' : World} {co : Bool} {cd us st : Int} {v1 v2 u1 u2 t1 t2 : Value} {n1 n2 k l : Nat} {xs zs ys : List Value} {vx vy v' : Value}
theorem P3.below (h : P3 w W co cd us st v1 v2 u1 u2 t1 t2 n1 n2 k l xs zs vx vy) (hb : Go.RowKit.Below W.heap.size W W') : P3 w W' co cd us st v1 v2 u1 u2 t1 t2 n1 n2 k l xs zs vx vy := ⟨h.b.below hb, h.x.imp fun _ q => q.below hb, h.y.imp fun _ q => q.below hb⟩
theorem P1.grow (h : P1 w W co cd us st v1 v2 u1 u2 t1 t2 n1 n2 k l xs zs) : P3 w W co cd us st v1 v2 u1 u2 t1 t2 n1 n2 0 0 xs zs v1 v2 := ⟨h.b, ⟨_, AX.start h.r1⟩, ⟨_, AX.start h.r2⟩⟩
theorem P3.appX (h : P3 w W co cd us st v1 v2 u1 u2 t1 t2 n1 n2 k l xs zs vx vy) {q m : List Value} (hx : AX w.heap.size W 2 1 v1 n1 xs vx (n1 + k) q) (h2 : W'.ownsRow 0 2 1 v' (n1 + k + 1) ((xs ++ q) ++ m)) (h3 : W.grownBy W' vx.ownBlock) (h4 : Went W W' vx v' (n1 + k + 1)) : P3 w W' co cd us st v1 v2 u1 u2 t1 t2 n1 n2 (k + 1) l xs zs v' vy :=
  ⟨h.b.own (h.b.fz.ax1 hx (Nat.le_refl _) h3) hx.x (by decide) h3, ⟨_, hx.app h.b.fz.size h2 h3 h4⟩, h.y.imp fun _ q => q.other hx.x (by decide) h3⟩
theorem P3.appY (h : P3 w W co cd us st v1 v2 u1 u2 t1 t2 n1 n2 k l xs zs vx vy) {q m : List Value} (hy : AX w.heap.size W 60 2 v2 n2 zs vy (n2 + l) q) (h2 : W'.ownsRow 0 60 2 v' (n2 + l + 1) ((zs ++ q) ++ m)) (h3 : W.grownBy W' vy.ownBlock) (h4 : Went W W' vy v' (n2 + l + 1)) : P3 w W' co cd us st v1 v2 u1 u2 t1 t2 n1 n2 k (l + 1) xs zs vx v' :=
  ⟨h.b.own (h.b.fz.ax2 hy (Nat.le_refl _) h3) hy.x (by decide) h3, h.x.imp fun _ q => q.other hy.x (by decide) h3, ⟨_, hy.app h.b.fz.size h2 h3 h4⟩⟩
end
theorem ax_cells {N : Nat} {W : World} {e size n nx : Nat} {v vx : Value} {xs ys : List Value} (h : AX N W e size v n xs vx nx ys) {ao : Option Addr} {c : Nat} (hv : vx = .slice ao nx c) : CellsAt W ao (xs ++ ys) := own_read (hv ▸ h.x)
theorem fst_at {W : World} {ao : Option Addr} {xs : List Value} (h : CellsAt W ao xs) {j : Nat} {u : Value} (hu : xs[j]? = some u) : ∃ b off, ao = some ⟨b, off, none⟩ ∧ W.cell? ⟨b, off + j, none⟩ = some u := by
  rcases h with h | ⟨b, off, rfl, hc⟩
  · rw [h] at hu; simp at hu
  · exact ⟨b, off, rfl, hc j u hu⟩
theorem bel_al (W : World) (o : Obj) : Go.RowKit.Below W.heap.size W (W.alloc o) := (Below.refl _ _).alloc (Nat.le_refl _) _
theorem src_new (W : World) (ys : List Value) (e : Nat) : ∀ j u, ys[j]? = some u → (W.alloc (.cells ys.toArray e)).cell? ((⟨W.heap.size, 0, none⟩ : Addr).add j) = some u := fun j u hu => by
  rw [addr_add, World.cell?, heap_alloc_new _ _ rfl, Nat.zero_add]; simpa using hu
theorem app_left {xs ys : List Value} {j : Nat} {u : Value} (h : xs[j]? = some u) : (xs ++ ys)[j]? = some u := by
  rw [List.getElem?_append_left (List.getElem?_eq_some_iff.1 h).1]; exact h
set_option maxRecDepth 100000 in
set_option maxHeartbeats 4000000 in
theorem apart_g (w : World) (co : Bool) (cd us st : Int) (n1 n2 : Nat) (S : List Int) (U : List K) (hS : n1 = S.length) (hU : n2 = U.length) (a1 a2 b1 b2 c1 c2 : Option Addr) (i1 i2 j1 j2 m1 m2 : Nat)
    (ho : w.ownsRow 0 2 1 (.slice a1 n1 i1) n1 (S.map iv)) (hp : w.ownsRow 0 60 2 (.slice a2 n2 i2) n2 (cks U))
    (hb1 : CellsAt w b1 (S.map iv)) (hb2 : CellsAt w b2 (cks U)) (hc1 : CellsAt w c1 (S.map iv)) (hc2 : CellsAt w c2 (cks U)) (ob1 : Off (.slice a1 n1 i1) (.slice a2 n2 i2) b1) (ob2 : Off (.slice a1 n1 i1) (.slice a2 n2 i2) b2) (oc1 : Off (.slice a1 n1 i1) (.slice a2 n2 i2) c1) (oc2 : Off (.slice a1 n1 i1) (.slice a2 n2 i2) c2) (l1 : n1 ≤ 1000000) (l2 : n2 ≤ 1000000) :
    Calls Try.prog 14 #[.agg (eP co cd us a1 n1 i1 a2 n2 i2 st), .agg (eP co cd us b1 n1 j1 b2 n2 j2 st), .agg (eP co cd us c1 n1 m1 c2 n2 m2 st)] w fun e w' => e = .returned (.bool true) ∧ Fz w w' (.slice a1 n1 i1) (.slice a2 n2 i2) := by
  have HEnd : Hid (∀ W, Fz w W (.slice a1 n1 i1) (.slice a2 n2 i2) → Calls Try.prog 12 #[.agg (eP co cd us b1 n1 j1 b2 n2 j2 st), .agg (eP co cd us c1 n1 m1 c2 n2 m2 st)] W fun e w' => e = .returned (.bool true) ∧ Go.RowKit.Below W.heap.size W w') := fun W hf => sameEffect_g W co cd us st S U n1 n2 hS hU b1 b2 c1 c2 j1 j2 m1 m2 (hb1.off hf ob1) (hb2.off hf ob2) (hc1.off hf oc1) (hc2.off hf oc2) l1 l2
  have HP : Hid (P1 w (((w.alloc (.cells #[.bool co, .int .i64 cd, .int .i64 us, (.slice a1 n1 i1), (.slice a2 n2 i2), .int .i64 st] 33)).alloc (.cells #[.bool co, .int .i64 cd, .int .i64 us, (.slice b1 n1 j1), (.slice b2 n2 j2), .int .i64 st] 33)).alloc (.cells #[.bool co, .int .i64 cd, .int .i64 us, (.slice c1 n1 m1), (.slice c2 n2 m2), .int .i64 st] 33)) co cd us st (.slice a1 n1 i1) (.slice a2 n2 i2) (.slice b1 n1 j1) (.slice b2 n2 j2) (.slice c1 n1 m1) (.slice c2 n2 m2) n1 n2 0 0 (S.map iv) (cks U)) := by
    have hb : Go.RowKit.Below w.heap.size w (((w.alloc (.cells #[.bool co, .int .i64 cd, .int .i64 us, (.slice a1 n1 i1), (.slice a2 n2 i2), .int .i64 st] 33)).alloc (.cells #[.bool co, .int .i64 cd, .int .i64 us, (.slice b1 n1 j1), (.slice b2 n2 j2), .int .i64 st] 33)).alloc (.cells #[.bool co, .int .i64 cd, .int .i64 us, (.slice c1 n1 m1), (.slice c2 n2 m2), .int .i64 st] 33)) := ((Below.refl _ _).alloc (Nat.le_refl _) _).alloc (by simp) _ |>.alloc (by simp; omega) _
    exact ⟨PB.start w co cd us st _ _ _ _ _ _, ownsRow_same ho (fun g hg => hb.block g (World.ownsRow.lt ho g hg).2), ownsRow_same hp (fun g hg => hb.block g (World.ownsRow.lt hp g hg).2), fun i hi => absurd hi (Nat.not_lt_zero _), fun i hi => absurd hi (Nat.not_lt_zero _), fun i hi => ⟨_, (cks_at U i (hU ▸ hi)).1⟩⟩
  have HN : Hid ((a1 = none → n1 = 0) ∧ (a2 = none → n2 = 0) ∧ (∀ ad, a1 = some ad → ad = ⟨ad.block, 0, none⟩) ∧ (∀ ad, a2 = some ad → ad = ⟨ad.block, 0, none⟩)) := by
    obtain ⟨x1, y1, e1, q1, _, r1⟩ := own_slice ho
    obtain ⟨x2, y2, e2, q2, _, r2⟩ := own_slice hp
    cases e1; cases e2
    exact ⟨fun e => (q1 e).2, fun e => (q2 e).2, fun ad e => (r1 ad e).1, fun ad e => (r2 ad e).1⟩
  obtain ⟨jj0, ji, jz0, jz1, jz2⟩ := info_parts info64
  obtain ⟨kk0, ki, kz0, kz1, kz2⟩ := info_parts info_put
  clear ho hp hb1 hb2 hc1 hc2 ob1 ob2 oc1 oc2 hS hU
  go_enter Try.func14, Try.ntmps14
  go_wp2_with fail
  generalize (((w.alloc (.cells #[.bool co, .int .i64 cd, .int .i64 us, (.slice a1 n1 i1), (.slice a2 n2 i2), .int .i64 st] 33)).alloc (.cells #[.bool co, .int .i64 cd, .int .i64 us, (.slice b1 n1 j1), (.slice b2 n2 j2), .int .i64 st] 33)).alloc (.cells #[.bool co, .int .i64 cd, .int .i64 us, (.slice c1 n1 m1), (.slice c2 n2 m2), .int .i64 st] 33)) = W0 at *
  go_loopw [7] (fun x wr => ∃ (k : Nat) (xs : List Value), k ≤ n1 ∧ x = .int .i64 (k : Int) ∧ Hid (P1 w wr co cd us st (.slice a1 n1 i1) (.slice a2 n2 i2) (.slice b1 n1 j1) (.slice b2 n2 j2) (.slice c1 n1 m1) (.slice c2 n2 m2) n1 n2 k 0 xs (cks U))) (fun x _ => n1 - (intOf x).toNat)
  case atStart => exact ⟨0, _, Nat.zero_le _, rfl, HP⟩
  case round =>
    obtain ⟨k, xs, hk, rfl, HQ⟩ := hrel
    obtain ⟨_, _, _, x3, x4, _⟩ := HQ.out.b.ra.cells
    by_cases hlt : k < n1
    · cases a1 with
      | none => exact absurd (HN.out.1 rfl) (by omega)
      | some ad =>
        obtain ⟨g, rfl⟩ : ∃ g, ad = ⟨g, 0, none⟩ := ⟨_, HN.out.2.2.1 ad rfl⟩
        have cc := World.ownsRow.cellAt HQ.out.r1 k (by omega)
        obtain ⟨u, hu⟩ : ∃ u, xs[k]? = some u := ⟨_, List.getElem?_eq_getElem (by have := HQ.out.r1.1; omega)⟩
        rw [hu] at cc
        have ff := World.ownsRow.frozenAt HQ.out.r1 k
        go_wp2
        go_roundw
        case rel => exact ⟨k + 1, _, by omega, by go_num, HQ.out.set1 hlt⟩
        case measure => simp [intOf]; omega
    · obtain rfl : n1 = k := by omega
      clear HP
      go_wp2_with fail
      clear x3 x4
      go_loopw [8] (fun x wr => ∃ (k : Nat) (zs : List Value), k ≤ n2 ∧ x = .int .i64 (k : Int) ∧ Hid (P1 w wr co cd us st (.slice a1 n1 i1) (.slice a2 n2 i2) (.slice b1 n1 j1) (.slice b2 n2 j2) (.slice c1 n1 m1) (.slice c2 n2 m2) n1 n2 n1 k xs zs)) (fun x _ => n2 - (intOf x).toNat)
      case atStart => exact ⟨0, _, Nat.zero_le _, rfl, HQ⟩
      case round =>
        clear HQ
        obtain ⟨k, zs, hk, rfl, HQ⟩ := hrel
        obtain ⟨_, _, _, x3, x4, _⟩ := HQ.out.b.ra.cells
        by_cases hlt : k < n2
        · cases a2 with
          | none => exact absurd (HN.out.2.1 rfl) (by omega)
          | some ad =>
            obtain ⟨g, rfl⟩ : ∃ g, ad = ⟨g, 0, none⟩ := ⟨_, HN.out.2.2.2 ad rfl⟩
            have cc := World.ownsRow.cellAt HQ.out.r2 (k * 2 + 1) (by omega)
            obtain ⟨u, hu⟩ : ∃ u, zs[k * 2 + 1]? = some u := ⟨_, List.getElem?_eq_getElem (by have := HQ.out.r2.1; omega)⟩
            rw [hu] at cc
            have ff := World.ownsRow.frozenAt HQ.out.r2 (k * 2 + 1)
            go_wp2
            go_roundw
            case rel => exact ⟨k + 1, _, by omega, by go_num, HQ.out.set2 hlt⟩
            case measure => simp [intOf]; omega
        · obtain rfl : n2 = k := by omega
          go_wp2_with fail
          go_quiet (fail)
          go_wp2_with fail
          have HO : Hid ((∀ i, i < n1 → xs[i]? = some (.int .i64 (-100 - (i : Int)))) ∧ (∀ i, i < n2 → zs[i * 2 + 1]? = some (.int .i64 (-200 - (i : Int)))) ∧ (∀ i, i < n2 → ∃ t, zs[i * 2]? = some (.int .i64 t))) := ⟨HQ.out.o1, HQ.out.o2, HQ.out.o3⟩
          have HP : Hid (P3 w (wr.drewN nq) co cd us st (.slice a1 n1 i1) (.slice a2 n2 i2) (.slice b1 n1 j1) (.slice b2 n2 j2) (.slice c1 n1 m1) (.slice c2 n2 m2) n1 n2 0 0 xs zs (.slice a1 n1 i1) (.slice a2 n2 i2)) := HQ.out.grow.below ((Grew.refl wr).drewN nq).below
          clear x3 x4 HQ
          generalize wr.drewN nq = W1 at *
          go_loopw [9, 10, 11] (fun x y z wr => ∃ (k : Nat) (ax ay : Option Addr) (cx cy : Nat), k ≤ 40 ∧ x = .slice ax (n1 + k) cx ∧ y = .slice ay (n2 + k) cy ∧ z = .int .i64 (k : Int) ∧ Hid (P3 w wr co cd us st (.slice a1 n1 i1) (.slice a2 n2 i2) (.slice b1 n1 j1) (.slice b2 n2 j2) (.slice c1 n1 m1) (.slice c2 n2 m2) n1 n2 k k xs zs (.slice ax (n1 + k) cx) (.slice ay (n2 + k) cy))) (fun _ _ z _ => 40 - (intOf z).toNat)
          case atStart => exact ⟨0, _, _, _, _, by omega, rfl, rfl, rfl, HP⟩
          case round =>
            clear HP
            obtain ⟨k, ax, ay, cx, cy, hk, rfl, rfl, rfl, HQ⟩ := hrel
            by_cases hlt : k < 40
            · obtain ⟨qx, hqx⟩ := HQ.out.x
              have HX : Hid (AX w.heap.size wr 2 1 (.slice a1 n1 i1) n1 xs (.slice ax (n1 + k) cx) (n1 + k) qx) := hqx
              clear hqx
              go_wp2_with (first
                | (at_builtin; refine wpList_append_two rfl _ _ 25 2 jj0 (.int .i64 0) 1 8 Try.underlying25 ji jz0 jz1 jz2 rfl (by decide) rfl 0 (.slice ax (n1 + k) cx) (n1 + k) (xs ++ qx) rfl (HX.out.below (bel_al _ _)).x ⟨wr.heap.size, 0, none⟩ 1 1 [.int .i64 (-7)] rfl rfl (src_new wr _ _) (by intro u hu; simp at hu; rw [hu]; rfl) (by unfold maxLen; omega) (by omega) (Nat.zero_le _) ?_; intro v3 w3 h2 h3 h4; have HQ3 : Hid (P3 w w3 co cd us st (.slice a1 n1 i1) (.slice a2 n2 i2) (.slice b1 n1 j1) (.slice b2 n2 j2) (.slice c1 n1 m1) (.slice c2 n2 m2) n1 n2 (k + 1) k xs zs v3 (.slice ay (n2 + k) cy)) := (HQ.out.below (bel_al _ _)).appX (HX.out.below (bel_al _ _)) h2 h3 h4; obtain ⟨ax3, cx3, hv3, _⟩ := own_slice h2; clear h2 h3 h4; subst hv3; obtain ⟨qy, hqy⟩ := HQ3.out.y; have HY : Hid (AX w.heap.size w3 60 2 (.slice a2 n2 i2) n2 zs (.slice ay (n2 + k) cy) (n2 + k) qy) := hqy; clear hqy)
                | (at_builtin; refine wpList_append_two rfl _ _ 31 60 kk0 (.agg #[.int .i64 0, .int .i64 0]) 2 16 Try.underlying31 ki kz0 kz1 kz2 rfl (by decide) rfl 0 (.slice ay (n2 + k) cy) (n2 + k) (zs ++ qy) rfl (HY.out.below (bel_al _ _)).x ⟨w3.heap.size, 0, none⟩ 1 1 [.int .i64 (-7), .int .i64 0] rfl rfl (src_new w3 _ _) (by intro u hu; simp at hu; rcases hu with rfl | rfl <;> rfl) (by unfold maxLen; omega) (by omega) (Nat.zero_le _) ?_; intro v4 w4 h2 h3 h4; have HQ4 : Hid (P3 w w4 co cd us st (.slice a1 n1 i1) (.slice a2 n2 i2) (.slice b1 n1 j1) (.slice b2 n2 j2) (.slice c1 n1 m1) (.slice c2 n2 m2) n1 n2 (k + 1) (k + 1) xs zs (.slice ax3 (n1 + k + 1) cx3) v4) := (HQ3.out.below (bel_al _ _)).appY (HY.out.below (bel_al _ _)) h2 h3 h4; obtain ⟨ay4, cy4, hv4, _⟩ := own_slice h2; clear h2 h3 h4; subst hv4))
              go_roundw
              case rel => exact ⟨k + 1, _, _, _, _, by omega, rfl, rfl, by go_num, HQ4⟩
              case measure => simp [intOf]; omega
            · obtain rfl : k = 40 := by omega
              go_wp2_with fail
              go_loopw [12] (fun x wr => ∃ (k : Nat), k ≤ n1 ∧ x = .int .i64 (k : Int) ∧ Hid (P3 w wr co cd us st (.slice a1 n1 i1) (.slice a2 n2 i2) (.slice b1 n1 j1) (.slice b2 n2 j2) (.slice c1 n1 m1) (.slice c2 n2 m2) n1 n2 40 40 xs zs (.slice ax (n1 + 40) cx) (.slice ay (n2 + 40) cy))) (fun x _ => n1 - (intOf x).toNat)
              case atStart => exact ⟨0, Nat.zero_le _, rfl, HQ⟩
              case round =>
                clear HQ
                obtain ⟨k, hk, rfl, HQ⟩ := hrel
                obtain ⟨_, _, _, x3, x4, _⟩ := HQ.out.b.ra.cells
                by_cases hlt : k < n1
                · obtain ⟨qx, hqx⟩ := HQ.out.x
                  obtain ⟨g1, f1, rfl, c1⟩ := fst_at (own_read hqx.a) (HO.out.1 k hlt)
                  obtain ⟨g2, f2, rfl, c2⟩ := fst_at (own_read hqx.x) (app_left (HO.out.1 k hlt))
                  clear hqx
                  go_wp2_with fail
                  go_quiet (fail)
                  go_wp2
                  go_roundw
                  case rel => exact ⟨k + 1, by omega, by go_num, HQ.out.below ((Grew.refl _).drewN nq).below⟩
                  case measure => simp [intOf]; omega
                · obtain rfl : n1 = k := by omega
                  go_wp2_with fail
                  clear x3 x4
                  go_loopw [13] (fun x wr => ∃ (k : Nat), k ≤ n2 ∧ x = .int .i64 (k : Int) ∧ Hid (P3 w wr co cd us st (.slice a1 n1 i1) (.slice a2 n2 i2) (.slice b1 n1 j1) (.slice b2 n2 j2) (.slice c1 n1 m1) (.slice c2 n2 m2) n1 n2 40 40 xs zs (.slice ax (n1 + 40) cx) (.slice ay (n2 + 40) cy))) (fun x _ => n2 - (intOf x).toNat)
                  case atStart => exact ⟨0, Nat.zero_le _, rfl, HQ⟩
                  case round =>
                    clear HQ
                    obtain ⟨k, hk, rfl, HQ⟩ := hrel
                    obtain ⟨_, _, _, x3, x4, _⟩ := HQ.out.b.ra.cells
                    by_cases hlt : k < n2
                    · obtain ⟨qy, hqy⟩ := HQ.out.y
                      obtain ⟨t, ht⟩ := HO.out.2.2 k hlt
                      obtain ⟨g1, f1, rfl, c1⟩ := fst_at (own_read hqy.a) (HO.out.2.1 k hlt)
                      obtain ⟨g2, f2, rfl, c2⟩ := fst_at (own_read hqy.x) (app_left (HO.out.2.1 k hlt))
                      obtain ⟨_, _, e1, d1⟩ := fst_at (own_read hqy.a) ht
                      cases e1
                      obtain ⟨_, _, e2, d2⟩ := fst_at (own_read hqy.x) (app_left ht)
                      cases e2
                      rw [← Nat.add_assoc] at c1 c2
                      clear hqy ht
                      have hq := run_nePut t (-200 - (k : Int))
                      have hgd := fun op x y => run_putGuard op x y t (-200 - (k : Int)) t (-200 - (k : Int))
                      go_wp2_with fail
                      go_quiet (fail)
                      go_wp2
                      go_roundw
                      case rel => exact ⟨k + 1, by omega, by go_num, HQ.out.below ((Grew.refl _).drewN nq).below⟩
                      case measure => simp [intOf]; omega
                    · obtain rfl : n2 = k := by omega
                      obtain ⟨y0, y1, y2, y3, y4, y5⟩ := HQ.out.b.rb.cells
                      obtain ⟨z0, z1, z2, z3, z4, z5⟩ := HQ.out.b.rc.cells
                      go_wp2_with fail
                      refine (HEnd.out _ HQ.out.b.fz).mono ?_
                      rintro e w1 ⟨rfl, hg⟩
                      have HF : Hid (Fz w w1 (.slice a1 n1 i1) (.slice a2 n2 i2)) := HQ.out.b.fz.below hg
                      clear hg
                      go_wp2_with fail
                      go_ret
                      exact ⟨rfl, HF.out⟩
end Go.Proofs.Ytbpgafchagpmoaa
