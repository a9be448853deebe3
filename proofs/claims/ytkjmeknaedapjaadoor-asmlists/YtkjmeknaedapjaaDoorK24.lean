import Derived.Test.YtkjmeknaedapjaaDoorK15
import Derived.Test.YtkjmeknaedapjaaDoorK23
/-
  THE WALK OF layer 4's back.
-/
namespace Go.Proofs.YtkjmeknaedapjaaDoor
open Go.RowKit Go.Sort

/-- what was lent, and whose it is -/
structure Bk (W : World) (n g : Nat) (a : Addr) (Ps Qs : List Pr) : Prop where
  row : RowP W g Qs
  len : Qs.length = n + 3
  pad : ∀ i, n ≤ i → i < n + 3 → pd Qs i = padP i
  cop : ∀ i, i < n → CopL W g (pd Ps i) (pd Qs i)
  lib : LibAt W (some a) Ps
  num : n = Ps.length
theorem Bk.kept {W W' : World} {n g : Nat} {a : Addr} {Ps Qs : List Pr} (h : Bk W n g a Ps Qs) (hb : Below W.heap.size W W') : Bk W' n g a Ps Qs :=
  ⟨h.row.kept hb, h.len, h.pad, fun i hi => (h.cop i hi).kept hb, h.lib.kept hb, h.num⟩
theorem Bk.ok {W : World} {n g : Nat} {a : Addr} {Ps Qs : List Pr} (h : Bk W n g a Ps Qs) (i : Nat) (hi : i < n) : LikeP (pd Qs i) (pd Ps i) ∧ PrOK W (pd Qs i) ∧ PrOK W (pd Ps i) := by
  have hp := h.lib.ok _ (pd_mem (by rw [← h.num]; exact hi))
  rcases h.cop i hi with ⟨_, e⟩ | ⟨G, M, e, r, p, _⟩
  · rw [e]; exact ⟨⟨rfl, rfl, rfl, rfl⟩, hp, hp⟩
  · have hM : M = (pd Ps i).L ++ M.drop (pd Ps i).n := by rw [← p.take, List.take_append_drop]
    rw [hM] at r
    rw [e]
    exact ⟨⟨rfl, rfl, rfl, rfl⟩, ⟨hp.len, r.keys, hp.nin, hp.kin, (fun h => by cases h), hp.str, hp.big⟩, hp⟩
theorem pd_tk {Qs : List Pr} {n i : Nat} (h : i < n) : pd (Qs.take n) i = pd Qs i := by
  simp [pd, List.getD_eq_getElem?_getD, h]
theorem Bk.like {W : World} {n g : Nat} {a : Addr} {Ps Qs : List Pr} (h : Bk W n g a Ps Qs) (i : Nat) (hi : i < n) :
    LikeP (pd (Qs.take n) i) (pd Ps i) ∧ KeysAt W (pd (Qs.take n) i).ao (pd (Qs.take n) i).L ∧ KeysAt W (pd Ps i).ao (pd Ps i).L ∧ (pd Ps i).n = (pd Ps i).L.length ∧ (pd Ps i).n * 16 ≤ 140737488355328 := by
  rw [pd_tk hi]
  obtain ⟨a, b, c⟩ := h.ok i hi
  exact ⟨a, b.ks, c.ks, c.len, by have := c.big; omega⟩
theorem Bk.lent {W : World} {n g : Nat} {a : Addr} {Ps Qs : List Pr} (h : Bk W n g a Ps Qs) : LibAt W (some ⟨g, 0, none⟩) (Qs.take n) := by
  refine ⟨h.row.procs.take n, fun x hx => ?_⟩
  obtain ⟨i, hi, rfl⟩ := List.mem_iff_getElem.1 hx
  have hl : i < n := by simp [h.len] at hi; omega
  have := (h.ok i hl).2.1
  rw [← pd_tk hl] at this
  simpa [pd, List.getD_eq_getElem?_getD, List.getElem?_eq_getElem hi] using this
theorem Bk.core {W : World} {n g : Nat} {a : Addr} {Ps Qs : List Pr} (h : Bk W n g a Ps Qs) : (Qs.take n).map core = Ps.map core := by
  apply List.ext_getElem
  · simp [h.len, ← h.num]
  · intro i h1 h2
    have hl : i < n := by simp at h2; rw [h.num]; exact h2
    have e := (h.ok i hl).1
    rw [← pd_tk hl] at e
    simp only [List.length_map] at h1 h2
    have e1 : pd (Qs.take n) i = (Qs.take n)[i] := by simp [pd, List.getD_eq_getElem?_getD, List.getElem?_eq_getElem h1]
    have e2 : pd Ps i = Ps[i] := by simp [pd, List.getD_eq_getElem?_getD, List.getElem?_eq_getElem h2]
    rw [e1, e2] at e
    simp only [List.getElem_map, Go.Proofs.YtkjmeknaedapjaaDoor.core, e.name, e.p, e.L]

theorem back_nil (w : World) (n cap : Nat) (Ps : List Pr) (h : LibAt w none Ps) (hn : n = Ps.length) :
    Calls Tryd.prog 21 #[.slice none 0 0, .slice none n cap] w fun e w' => e = .returned (.bool true) ∧ Below w.heap.size w w' := by
  have hP : Ps = [] := by
    rcases h.at_ with h | ⟨_, _, e, _⟩
    · exact h
    · cases e
  subst hP
  obtain rfl : n = 0 := hn
  have hnil := run_eqNilP none 0 cap
  have HC : Hid (Calls Tryd.prog 50 #[.slice none 0 0, .slice none 0 cap] w fun e w' => e = .returned (.bool true) ∧ ∃ q os, w' = grow (w.drewN q) os) :=
    sameLib_eq w none none 0 0 cap [] [] (.inl rfl) (.inl rfl) rfl rfl (by omega) (fun i hi => by omega)
  clear h
  go_enter Tryd.func21, Tryd.ntmps21
  go_wp2_with fail
  refine HC.out.mono ?_
  rintro e w1 ⟨rfl, q, os, hw1⟩
  have HB : Hid (Below w.heap.size w w1) := Grew.below ⟨q, os, hw1⟩
  clear HC hw1
  go_wp2
  go_ret
  exact ⟨rfl, HB.out⟩

theorem padCells {W : World} {n g : Nat} {a : Addr} {Ps Qs : List Pr} (h : Bk W n g a Ps Qs) (j : Nat) (h1 : n ≤ j) (h2 : j < n + 3) :
    W.cell? ⟨g, j * 6, none⟩ = some (.string ⟨#[45]⟩) ∧ W.cell? ⟨g, j * 6 + 1, none⟩ = some (.int .i64 (-(j : Int))) := by
  obtain ⟨_, _, e, s0, s1, _⟩ := h.row.procs.get j (by rw [h.len]; exact h2)
  cases e
  rw [h.pad j h1 h2] at s0 s1
  simp only [Nat.zero_add, padP] at s0 s1
  exact ⟨s0, s1⟩

set_option maxRecDepth 100000 in
set_option maxHeartbeats 2000000 in
theorem back_some (w : World) (n cap g : Nat) (a : Addr) (Ps Qs : List Pr) (h : Bk w n g a Ps Qs) (hm : n ≤ 100000) (hx : ∀ x ∈ Ps, x.n ≤ 100000) :
    Calls Tryd.prog 21 #[.slice (some ⟨g, 0, none⟩) n (n + 3), .slice (some a) n cap] w fun e w' => e = .returned (.bool true) ∧ Below w.heap.size w w' := by
  have H : Hid (Bk w n g a Ps Qs) := h
  have HM : Hid (∀ x ∈ Ps, x.n ≤ 100000) := hx
  clear h hx
  have hnil := run_eqNilP (some a) n cap
  have HC : Hid (Calls Tryd.prog 50 #[.slice (some ⟨g, 0, none⟩) n (n + 3), .slice (some a) n cap] w fun e w' => e = .returned (.bool true) ∧ ∃ q os, w' = grow (w.drewN q) os) :=
    sameLib_eq w _ _ n (n + 3) cap (Qs.take n) Ps H.out.lent.at_ H.out.lib.at_ H.out.num (by rw [List.length_take, H.out.len]; omega) (by omega) H.out.like
  go_enter Tryd.func21, Tryd.ntmps21
  go_wp2_with fail
  refine HC.out.mono ?_
  rintro e w1 ⟨rfl, q, os, hw1⟩
  have HB1 : Hid (Grew w w1) := ⟨q, os, hw1⟩
  clear HC hw1
  go_wp2_with fail
  clear hnil
  go_loopw [5, 7] (fun y x wr => ∃ k : Nat, n ≤ k ∧ k ≤ n + 3 ∧ y = .bool true ∧ x = .int .i64 (k : Int) ∧ Hid (Grew w wr)) (fun _ x _ => n + 3 - (intOf x).toNat)
  case atStart => exact ⟨n, Nat.le_refl _, by omega, rfl, rfl, HB1⟩
  case round =>
    clear HB1
    obtain ⟨k, hk0, hk, rfl, rfl, HB⟩ := hrel
    by_cases hlt : k < n + 3
    · have hlti : (k : Int) < (n : Int) + 3 := by omega
      obtain ⟨p0, p1⟩ := padCells (H.out.kept HB.out.below) k hk0 hlt
      go_wp2_with fail
      exact ⟨⟨k + 1, by omega, by omega, by simp, by go_num, HB⟩, by simp [intOf]; omega⟩
    · obtain rfl : k = n + 3 := by omega
      clear hlt hk hk0
      go_wp2_with fail
      generalize wr = wx at *
      have HB2 := HB
      clear HB
      go_loopw [5, 8] (fun y x wr => ∃ k : Nat, k ≤ n ∧ y = .bool true ∧ x = .int .i64 (k : Int) ∧ Hid (Grew w wr)) (fun _ x _ => n - (intOf x).toNat)
      case atStart => exact ⟨0, Nat.zero_le _, rfl, rfl, HB2⟩
      case round =>
        clear HB2
        obtain ⟨k, hk, rfl, rfl, HB⟩ := hrel
        by_cases hlt : k < n
        · have hlt' : k < Ps.length := by have := H.out.num; omega
          have hB := H.out.kept HB.out.below
          obtain ⟨b, off, e, c0, c1, c2, c3, c4, c5⟩ := hB.lib.at_.get k hlt'
          cases e
          have hxn : (pd Ps k).n ≤ 100000 := HM.out _ (pd_mem hlt')
          have hC := hB.cop k hlt
          obtain ⟨_, _, e, s0, s1, s2, s3, s4, s5⟩ := hB.row.procs.get k (by have := hB.len; omega)
          cases e
          simp only [Nat.zero_add] at s5
          clear c0 c1 c2 c3 c4 s0 s1 s2 s3 s4 hB
          generalize pd Ps k = x at *
          generalize pd Qs k = y at *
          obtain ⟨name, pp, xao, xn, xcap, xL⟩ := x
          simp only at c5 hxn
          rcases hC with ⟨e1, e2⟩ | ⟨G, M, e2, hr, hpd, _⟩
          · simp only at e1
            subst e1 e2
            have hnil := run_eqNilI none xn xcap
            go_wp2
            go_roundw
            case rel => exact ⟨k + 1, by omega, rfl, by go_num, HB⟩
            case measure => simp [intOf]; omega
          · subst e2
            simp only [cp3] at s5
            have HR : Hid (RowK wr G M) := hr
            have HPD : Hid (Pads xn xL M) := hpd
            clear hr hpd
            have hao : xao = none ∨ ∃ xa, xao = some xa := by cases xao <;> simp
            rcases hao with rfl | ⟨xa, rfl⟩
            · have hnil := run_eqNilI none xn xcap
              go_wp2
              go_roundw
              case rel => exact ⟨k + 1, by omega, rfl, by go_num, HB⟩
              case measure => simp [intOf]; omega
            · have hnil := run_eqNilI (some xa) xn xcap
              go_upto_region 16 with fail
              clear hnil c5 s5
              generalize hwx : wr = wq at *
              go_loopw [5, 11] (fun y x wr => ∃ j : Nat, xn ≤ j ∧ j ≤ xn + 3 ∧ y = .bool true ∧ x = .int .i64 (j : Int) ∧ wr = wq) (fun _ x _ => xn + 3 - (intOf x).toNat)
              case atStart => exact ⟨xn, Nat.le_refl _, by omega, rfl, rfl, rfl⟩
              case round =>
                obtain ⟨j, hj0, hj, rfl, rfl, rfl⟩ := hrel
                by_cases hjl : j < xn + 3
                · have hjli : (j : Int) < (xn : Int) + 3 := by omega
                  obtain ⟨_, _, e, m0, m1⟩ := HR.out.keys0.get j (by have := HPD.out.len; omega)
                  cases e
                  rw [HPD.out.pad j hj0 hjl] at m0 m1
                  simp only [Nat.zero_add] at m0 m1
                  have hq := run_eqKey (-7) (j : Int) (-7) (j : Int)
                  rw [decide_eq_true rfl] at hq
                  have hgd := fun op x y => run_eqGuard op x y (-7) (j : Int) (-7) (j : Int)
                  go_wp2_with fail
                  exact ⟨⟨j + 1, by omega, by omega, by simp, by go_num, by trivial⟩, by simp [intOf]; omega⟩
                · obtain rfl : j = xn + 3 := by omega
                  go_wp2
                  go_roundw
                  case rel => exact ⟨k + 1, by omega, rfl, by go_num, HB⟩
                  case measure => simp [intOf]; omega
        · obtain rfl : k = n := by omega
          have HBb : Hid (Below w.heap.size w wr) := HB.out.below
          go_wp2
          go_ret
          exact ⟨rfl, HBb.out⟩
end Go.Proofs.YtkjmeknaedapjaaDoor
