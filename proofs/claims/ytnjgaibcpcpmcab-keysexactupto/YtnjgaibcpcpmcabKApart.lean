/-
  THE WALK OF apart.
-/
import Derived.Test.YtnjgaibcpcpmcabKApart1
import Derived.Deep.DeepCutAuto
import Derived.Deep.RegionLaw
namespace Go.Proofs.Ytnjgaibcpcpmcab
open Go.RowKit Go.Sort

theorem own_shape {w : World} {base : Nat} {v : Value} {L : List K} (h : OwnK w base v L) : ∃ a c, v = .slice a L.length c ∧ (L ≠ [] → ∃ g, a = some ⟨g, 0, none⟩) := by
  rcases h.shape with ⟨rfl, rfl⟩ | ⟨g, cap, rfl, _⟩
  · exact ⟨none, 0, rfl, fun h => absurd rfl h⟩
  · exact ⟨_, cap, rfl, fun _ => ⟨g, rfl⟩⟩

theorem below_alloc (w : World) (o : Obj) : Below w.heap.size w (w.alloc o) := (Below.refl _ w).alloc (Nat.le_refl _) o
theorem cell_new1 (w : World) (v : Value) (t : TypeId) : (w.alloc (.cells #[v] t)).cell? ⟨w.heap.size, 0, none⟩ = some v := by
  simp only [World.cell?, heap_alloc_new (w := w) (.cells #[v] t) w.heap.size rfl]; rfl
theorem rep_snoc (n : Nat) (x : K) : List.replicate n x ++ [x] = List.replicate (n + 1) x := (List.replicate_succ').symm
theorem rows_shape {w : World} {base : Nat} {gv : Value} {es : List Value} (h : OwnR w base gv es) : ∃ a c, gv = .slice a es.length c := by
  rcases h.shape with ⟨rfl, rfl⟩ | ⟨g, cap, rfl, _⟩
  · exact ⟨none, 0, rfl⟩
  · exact ⟨_, cap, rfl⟩
theorem grow_one {w w1 w2 : World} {base N : Nat} {ao : Option Addr} {vs : Nat → Value} {Ms : Nat → List K} {T : Value → Nat → Nat → Prop} {O : Nat → Option Nat} {gv v v2 : Value} {es : List Value} {i k mi : Nat} {o : Obj} (h0 : Shelf0 w base N ao vs Ms) (h : Ph2 w w1 base N ao vs (fun j => (Ms j).length) T O gv es i k k) (hi : i < N) (ht : T v i (mi + k)) (hmi : mi = (Ms i).length) (hk : k < 20)
    (h2 : OwnK w2 base v2 (List.replicate (mi + k) (mkK i) ++ [mkK i])) (hg : (v2.ownBlock = v.ownBlock ∧ (w1.alloc o).grownBy w2 v.ownBlock ∧ ∀ g n cap, v = own g n cap → ∃ n', v2 = own g n' cap) ∨ (v2.ownBlock = some (w1.alloc o).heap.size ∧ (w1.alloc o).grownBy w2 none)) :
    ∃ T' O', Ph2 w w2 base N ao vs (fun j => (Ms j).length) T' O' gv es i k (k + 1) ∧ T' v2 i (mi + (k + 1)) := by
  rw [rep_snoc] at h2
  obtain ⟨T', O', q, t, _⟩ := (h.below (below_alloc w1 o) h0.base_).grow h0.base_ hi ht (u' := k + 1) (by omega) (by omega) (c := 1) (by rw [hmi]; omega) h2 hg
  refine ⟨T', O', q, ?_⟩
  rw [hmi]; exact t

theorem grow_many {w w1 w2 : World} {base N : Nat} {ao : Option Addr} {vs : Nat → Value} {Ms : Nat → List K} {T : Value → Nat → Nat → Prop} {O : Nat → Option Nat} {gv v v2 : Value} {es : List Value} {i mi : Nat} (h0 : Shelf0 w base N ao vs Ms) (h : Ph2 w w1 base N ao vs (fun j => (Ms j).length) T O gv es i 20 20) (hi : i < N) (ht : T v i mi) (hmi : mi = (Ms i).length)
    (h2 : OwnK w2 base v2 (List.replicate mi (mkK i) ++ List.replicate 64 (mkK i))) (hg : (v2.ownBlock = v.ownBlock ∧ w1.grownBy w2 v.ownBlock ∧ ∀ g n cap, v = own g n cap → ∃ n', v2 = own g n' cap) ∨ (v2.ownBlock = some w1.heap.size ∧ w1.grownBy w2 none)) :
    ∃ T' O', Ph2 w w2 base N ao vs (fun j => (Ms j).length) T' O' gv es i 20 64 ∧ T' v2 i (mi + 64) := by
  rw [List.replicate_append_replicate] at h2
  obtain ⟨T', O', q, t, _⟩ := h.grow h0.base_ hi ht (u' := 64) (by omega) (by omega) (c := 64) (by rw [hmi]) h2 hg
  exact ⟨T', O', q, by rw [hmi]; exact t⟩

set_option maxHeartbeats 8000000 in
set_option maxRecDepth 100000 in
theorem apart_any (w : World) (base N cap : Nat) (ao : Option Addr) (vs : Nat → Value) (Ms : Nat → List K) (h0 : Shelf0 w base N ao vs Ms) (hN : N ≤ 1073741824) (hM : ∀ j, j < N → (Ms j).length ≤ 4194304) :
    Calls Try.prog 40 #[.slice ao N cap] w fun e w' => e = .returned (.bool true) ∧ Below base w w' := by
  have H0 : Hid (Shelf0 w base N ao vs Ms) := h0
  have HM : Hid (∀ j, j < N → (Ms j).length ≤ 4194304) := hM
  clear h0 hM
  go_enter Try.func40, Try.ntmps40
  go_wp2_with fail
  have HP : Hid (Ph1 w w base N ao vs (fun j => (Ms j).length) 0 0) := Ph1.start H0.out
  go_loopw [3] (fun x wr => ∃ i : Nat, i ≤ N ∧ x = .int .i64 (i : Int) ∧ Hid (Ph1 w wr base N ao vs (fun j => (Ms j).length) i 0)) (fun x _ => N - (intOf x).toNat)
  case atStart => exact ⟨0, Nat.zero_le _, rfl, HP⟩
  case round =>
    clear HP
    obtain ⟨i, hi, rfl, HP⟩ := hrel
    by_cases hlt : i < N
    · rcases HP.out.at_ with hz | ⟨rb, ro, e, -⟩
      · omega
      subst e
      obtain ⟨C, hC1, hC2, _⟩ := HP.out.own i hlt
      obtain ⟨a, ci, hv, _⟩ := own_shape hC1
      rw [hC2] at hv
      have HV : Hid (vs i = .slice a (Ms i).length ci) := hv
      have hml := HM.out i hlt
      obtain ⟨mi, hmi⟩ : ∃ n, n = (Ms i).length := ⟨_, rfl⟩
      rw [← hmi] at HV hml
      have Hmi : Hid (mi = (Ms i).length) := hmi
      have HC : Hid (∀ W k, Ph1 w W base N (some ⟨rb, ro, none⟩) vs (fun j => (Ms j).length) i k → W.cell? ⟨rb, ro + i, none⟩ = some (.slice a mi ci)) := fun W k h => by
        rcases h.at_ with hz | ⟨b, o, e, hc⟩
        · omega
        · cases e; have := hc i hlt; rwa [HV.out] at this
      clear hC1 hC2 hv hmi
      obtain ⟨wo, hwo⟩ : ∃ x, x = wr := ⟨_, rfl⟩
      subst hwo
      have c0 := HC.out _ _ HP.out
      go_wp2_with fail
      go_loopw [4] (fun x w2 => ∃ k : Nat, k ≤ mi ∧ x = .int .i64 (k : Int) ∧ Hid (Ph1 w w2 base N (some ⟨rb, ro, none⟩) vs (fun j => (Ms j).length) i k)) (fun x _ => mi - (intOf x).toNat)
      case atStart => exact ⟨0, Nat.zero_le _, rfl, HP⟩
      case round =>
        clear HP c0
        obtain ⟨k, hk, rfl, HP⟩ := hrel
        have c0 := HC.out _ _ HP.out
        by_cases hkl : k < mi
        · obtain ⟨C, hC1, hC2, _⟩ := HP.out.own i hlt
          obtain ⟨a', ci', hv, hg⟩ := own_shape hC1
          have hCl : C ≠ [] := fun e => by rw [e] at hC2; simp at hC2; have := Hmi.out; omega
          obtain ⟨g, rfl⟩ := hg hCl
          rw [HV.out] at hv
          cases hv
          have hil : i ≤ 8796093022208 := by omega
          have HW : Hid (∀ W, Grew wr W → W.cell? ⟨rb, ro + i, none⟩ = some (.slice (some ⟨g, 0, none⟩) C.length ci) ∧ (∃ u, W.cell? ⟨g, k * 2, none⟩ = some u) ∧ (∃ u, W.cell? ⟨g, k * 2 + 1, none⟩ = some u) ∧ W.frozen? ⟨g, k * 2, none⟩ = false ∧ W.frozen? ⟨g, k * 2 + 1, none⟩ = false) := fun W hW => by
            have hO := hC1.kept hW.below
            rw [HV.out] at hO
            obtain ⟨x1, x2⟩ := hO.at k hkl
            exact ⟨Grew.cell hW c0, ⟨_, x1⟩, ⟨_, x2⟩, hO.frozen _, hO.frozen _⟩
          have HE : Hid (∀ W, Grew wr W → Ph1 w ((W.setCell ⟨g, k * 2, none⟩ (.int .i64 (mkK i).1)).setCell ⟨g, k * 2 + 1, none⟩ (.int .i64 (mkK i).2)) base N (some ⟨rb, ro, none⟩) vs (fun j => (Ms j).length) i (k + 1)) := fun W hW =>
            Ph1.set H0.out (HP.out.below hW.below H0.out.base_) hlt HV.out hkl
          have HGd : Hid (∀ W, Grew wr.drew W → Grew wr W) := fun W h => ((Grew.refl wr).drew).trans h
          have HM1 : Hid (∀ w, Calls Try.prog 39 #[.int .i64 (i : Int)] w fun e w' => e = .returned (.agg #[.int .i64 (mkK i).1, .int .i64 (mkK i).2]) ∧ ∃ q os, w' = grow (w.drewN q) os) := fun w => mark_any w i hil
          generalize C.length = ml at *
          clear HP HC Hmi hC1 hC2 hCl
          go_wp2_with fail
          go_region_with (go_at_call 39; go_loud (refine (HM1.out _).mono ?_; rintro e w2 ⟨rfl, hg⟩; have HG2 : Hid (Grew wr w2) := (by first | exact HGd.out _ hg | exact hg); clear hg; obtain ⟨r1, ⟨u1, r2⟩, ⟨u2, r3⟩, r4, r5⟩ := HW.out _ HG2.out))
          all_goals go_wp2_with fail
          all_goals go_roundw
          all_goals first | exact ⟨k + 1, by omega, by go_num, HE.out _ HG2.out⟩ | (simp [intOf]; omega)
        · obtain rfl : k = mi := by omega
          have HP2 : Hid (Ph1 w wr base N (some ⟨rb, ro, none⟩) vs (fun j => (Ms j).length) (i + 1) 0) := by
            have := HP.out; rw [Hmi.out] at this; exact this.next
          clear HP HC HV Hmi
          go_wp2_with fail
          go_roundw
          case rel => exact ⟨i + 1, by omega, by go_num, HP2⟩
          case measure => simp [intOf]; omega
    · obtain rfl : i = N := by omega
      have HQ : Hid (∃ T O, Ph2 w wr base i ao vs (fun j => (Ms j).length) T O (.slice none 0 0) [] 0 0 0) := Ph2.start H0.out HP.out
      clear HP hlt hi
      obtain ⟨N, hNN⟩ : ∃ n, n = i := ⟨_, rfl⟩
      rw [← hNN] at HQ H0 HM hN ⊢
      clear hNN
      have HS : Hid (base ≤ w.heap.size) := H0.out.base_
      go_wp2_with fail
      go_loopw [6, 5] (fun x y wr => ∃ (i ng cg : Nat) (ag : Option Addr) (es : List Value), i ≤ N ∧ x = .int .i64 (i : Int) ∧ y = .slice ag ng cg ∧ Hid (∃ T O, Ph2 w wr base N ao vs (fun j => (Ms j).length) T O (.slice ag ng cg) es i 0 0)) (fun x _ _ => N - (intOf x).toNat)
      case atStart => exact ⟨0, 0, 0, none, [], Nat.zero_le _, rfl, rfl, HQ⟩
      case round =>
        clear HQ
        obtain ⟨i, ng, cg, ag, es, hi, rfl, rfl, HQ⟩ := hrel
        by_cases hlt : i < N
        · obtain ⟨T0, O0, hq0⟩ := HQ.out
          have HQ0 : Hid (Ph2 w wr base N ao vs (fun j => (Ms j).length) T0 O0 (.slice ag ng cg) es i 0 0) := hq0
          rcases hq0.at_ with hz | ⟨rb, ro, e, -⟩
          · omega
          subst e
          obtain ⟨a, ci, hv, _⟩ := own_shape (hq0.mks.items _ _ _ (hq0.lists i hlt)).1
          rw [List.length_replicate] at hv
          have HV : Hid (vs i = .slice a (Ms i).length ci) := hv
          have hml := HM.out i hlt
          obtain ⟨mi, hmi⟩ : ∃ n, n = (Ms i).length := ⟨_, rfl⟩
          rw [← hmi] at HV hml
          have Hmi : Hid (mi = (Ms i).length) := hmi
          have hil : i ≤ 8796093022208 := by omega
          have HC : Hid (∀ W, ListsAt W (some ⟨rb, ro, none⟩) N vs → W.cell? ⟨rb, ro + i, none⟩ = some (.slice a mi ci)) := fun W h => by
            rcases h with hz | ⟨b, o, e, hc⟩
            · omega
            · cases e; have := hc i hlt; rwa [HV.out] at this
          have HI : Hid (T0 (.slice a mi ci) i (mi + 0)) := by have := hq0.lists i hlt; rw [HV.out, ← Hmi.out] at this; exact this
          have HM1 : Hid (∀ w, Calls Try.prog 39 #[.int .i64 (i : Int)] w fun e w' => e = .returned (.agg #[.int .i64 (mkK i).1, .int .i64 (mkK i).2]) ∧ ∃ q os, w' = grow (w.drewN q) os) := fun w => mark_any w i hil
          have c0 := HC.out _ hq0.at_
          clear hq0 hv hmi HQ
          obtain ⟨wo, hwo⟩ : ∃ x, x = wr := ⟨_, rfl⟩
          subst hwo
          go_wp2_with fail
          go_loopw [8, 7, 5] (fun x y z w2 => ∃ (k n' c' ng cg : Nat) (a' ag : Option Addr) (es : List Value), k ≤ 20 ∧ x = .int .i64 (k : Int) ∧ y = .slice a' n' c' ∧ z = .slice ag ng cg ∧ Hid (∃ T O, Ph2 w w2 base N (some ⟨rb, ro, none⟩) vs (fun j => (Ms j).length) T O (.slice ag ng cg) es i k k ∧ T (.slice a' n' c') i (mi + k))) (fun x _ _ _ => 20 - (intOf x).toNat)
          case atStart => exact ⟨0, mi, ci, ng, cg, a, ag, es, by omega, rfl, rfl, rfl, T0, O0, HQ0.out, HI.out⟩
          case round =>
            clear HQ0 HI c0
            obtain ⟨k, n', c', ng, cg, a', ag, es, hk, rfl, rfl, rfl, HQ⟩ := hrel
            obtain ⟨T, O, hq, ht⟩ := HQ.out
            have HQ0 : Hid (Ph2 w wr base N (some ⟨rb, ro, none⟩) vs (fun j => (Ms j).length) T O (.slice ag ng cg) es i k k ∧ T (.slice a' n' c') i (mi + k)) := ⟨hq, ht⟩
            have c0 := HC.out _ hq.at_
            clear hq ht HQ
            by_cases hkl : k < 20
            · go_wp2_with fail
              refine (HM1.out _).mono ?_
              rintro e w1 ⟨rfl, hg⟩
              have HQ1 : Hid (Ph2 w w1 base N (some ⟨rb, ro, none⟩) vs (fun j => (Ms j).length) T O (.slice ag ng cg) es i k k ∧ T (.slice a' n' c') i (mi + k)) := ⟨HQ0.out.1.below (Grew.below hg) HS.out, HQ0.out.2⟩
              clear hg HQ0 c0
              have HO1 : Hid (OwnK w1 base (.slice a' n' c') (List.replicate (mi + k) (mkK i))) := (HQ1.out.1.mks.items _ _ _ HQ1.out.2).1
              have hb1 : base ≤ w1.heap.size := Nat.le_trans HS.out HQ1.out.1.bel.size
              go_wp2_with (first | (at_builtin; refine wpList_append_rows rfl _ _ rfl base (.slice ag ng cg) es rfl (HQ2.out.1.row.kept (below_alloc _ _)) _ (.slice a2 (mi + (k + 1)) c2) rfl (cell_new1 _ _ _) rfl (by rw [HQ2.out.1.len]; omega) (by have := HQ2.out.1.bel.size; have := H0.out.base_; simp only [World.size_alloc]; omega) ?_; intro v3 w3 h3 hg3 hat3; have HQ3 : Hid (∃ T O, Ph2 w w3 base N (some ⟨rb, ro, none⟩) vs (fun j => (Ms j).length) T O v3 (es ++ [(.slice a2 (mi + (k + 1)) c2)]) i (k + 1) (k + 1) ∧ T (.slice a2 (mi + (k + 1)) c2) i (mi + (k + 1))) := ⟨_, _, (HQ2.out.1.below (below_alloc _ _) H0.out.base_).put H0.out.base_ HQ2.out.2 (by omega) h3 hg3 (by rcases hat3 with e | e; exact .inl e; exact .inr ⟨_, e, Nat.le_refl _⟩), HQ2.out.2⟩; obtain ⟨ag3, cg3, hv3⟩ := rows_shape h3; rw [List.length_append, List.length_singleton] at hv3; clear h3 hg3 hat3; subst hv3) | (at_builtin; refine wpList_append_keys2 rfl _ _ rfl base (.slice a' n' c') (List.replicate (mi + k) (mkK i)) rfl (HO1.out.alloc _) _ 1 1 [mkK i] rfl rfl (key_src w1 _ _ _ rfl) (by simp; omega) (by simp only [World.size_alloc]; omega) ?_; intro v2 w2 h2 hg2; have HQ2x : Hid (∃ T' O', Ph2 w w2 base N (some ⟨rb, ro, none⟩) vs (fun j => (Ms j).length) T' O' (.slice ag ng cg) es i k (k + 1) ∧ T' v2 i (mi + (k + 1))) := (grow_one H0.out HQ1.out.1 hlt HQ1.out.2 Hmi.out hkl h2 hg2); have HO2 : Hid (OwnK w2 base v2 (List.replicate (mi + (k + 1)) (mkK i))) := (by have h5 := h2; rwa [rep_snoc, Nat.add_assoc] at h5); clear h2 hg2; obtain ⟨a2, c2, hv2, _⟩ := own_shape HO2.out; rw [List.length_replicate] at hv2; subst hv2; obtain ⟨T2, O2, hq2⟩ := HQ2x.out; have HQ2 : Hid (Ph2 w w2 base N (some ⟨rb, ro, none⟩) vs (fun j => (Ms j).length) T2 O2 (.slice ag ng cg) es i k (k + 1) ∧ T2 (.slice a2 (mi + (k + 1)) c2) i (mi + (k + 1))) := hq2; clear hq2 HQ2x))
              go_roundw
              case rel => exact ⟨k + 1, _, _, _, _, _, _, _, by omega, by go_num, rfl, rfl, HQ3⟩
              case measure => simp [intOf]; omega
            · obtain rfl : k = 20 := by omega
              rw [show ((20 : Nat) : Int) = (20 : Int) from rfl]
              obtain ⟨S5, hS5⟩ : ∃ n, n = wr.heap.size := ⟨_, rfl⟩
              have HS5 : Hid ((∀ b, S5 ≤ b → O b = none) ∧ (∀ b, (Value.slice ag ng cg).ownBlock = some b → b < S5) ∧ rb < S5 ∧ S5 ≤ wr.heap.size ∧ base ≤ S5) := ⟨fun b hb => HQ0.out.1.mks.fresh b (by omega), fun b hb => by rw [hS5]; exact (HQ0.out.1.row.lt b hb).2, by rw [hS5]; exact cell_lt c0, by omega, by rw [hS5]; exact Nat.le_trans HS.out HQ0.out.1.bel.size⟩
              have HTi : Hid (T (.slice a mi ci) i mi) := by have := HQ0.out.1.lists i hlt; rw [HV.out, ← Hmi.out] at this; exact this
              have HQa : Hid (Ph2 w wr base N (some ⟨rb, ro, none⟩) vs (fun j => (Ms j).length) T O (.slice ag ng cg) es i 20 20) := HQ0.out.1
              have HSw : Hid (S5 ≤ wr.heap.size) := by rw [Hid]; omega
              clear HQ0 hS5
              obtain ⟨wo5, hwo5⟩ : ∃ x, x = wr := ⟨_, rfl⟩
              subst hwo5
              go_wp2_with fail
              go_loopw [10, 9] (fun x y w2 => ∃ (k nm cm : Nat) (am : Option Addr), k ≤ 64 ∧ x = .int .i64 (k : Int) ∧ y = .slice am nm cm ∧ Hid (Ph2 w w2 base N (some ⟨rb, ro, none⟩) vs (fun j => (Ms j).length) T O (.slice ag ng cg) es i 20 20) ∧ Hid (OwnK w2 base (.slice am nm cm) (List.replicate k (mkK i)) ∧ (∀ b, (Value.slice am nm cm).ownBlock = some b → S5 ≤ b) ∧ S5 ≤ w2.heap.size)) (fun x _ _ => 64 - (intOf x).toNat)
              case atStart => exact ⟨0, 0, 0, none, by omega, rfl, rfl, HQa, OwnK.nil _ _, fun b hb => by simp [Value.ownBlock] at hb, HSw.out⟩
              case round =>
                clear HQa HSw c0
                obtain ⟨k, nm, cm, am, hk, rfl, rfl, HQm, HOm⟩ := hrel
                have c0 := HC.out _ HQm.out.at_
                have hbk : base ≤ wr.heap.size := Nat.le_trans HS.out HQm.out.bel.size
                by_cases hkl : k < 64
                · go_wp2_with fail
                  refine (HM1.out _).mono ?_
                  rintro e w1 ⟨rfl, hg⟩
                  have HQ1 : Hid (Ph2 w w1 base N (some ⟨rb, ro, none⟩) vs (fun j => (Ms j).length) T O (.slice ag ng cg) es i 20 20) := HQm.out.below (Grew.below hg) HS.out
                  have HO1 : Hid (OwnK w1 base (.slice am nm cm) (List.replicate k (mkK i)) ∧ (∀ b, (Value.slice am nm cm).ownBlock = some b → S5 ≤ b) ∧ S5 ≤ w1.heap.size) := ⟨HOm.out.1.kept (Grew.below hg), HOm.out.2.1, Nat.le_trans HOm.out.2.2 (Grew.size hg)⟩
                  have hb1 : base ≤ w1.heap.size := Nat.le_trans HS.out HQ1.out.bel.size
                  clear hg HQm HOm c0
                  go_wp2_with (at_builtin; refine wpList_append_keys rfl _ _ rfl base (.slice am nm cm) (List.replicate k (mkK i)) rfl (HO1.out.1.alloc _) _ 1 1 [mkK i] rfl rfl (key_src w1 _ _ _ rfl) (by simp) (by simp; omega) (by simp only [World.size_alloc]; omega) ?_; intro v2 w2 h2 hg2 hat2; have HQ2 : Hid (Ph2 w w2 base N (some ⟨rb, ro, none⟩) vs (fun j => (Ms j).length) T O (.slice ag ng cg) es i 20 20) := ((HQ1.out.below (below_alloc _ _) HS.out).other HS.out hg2 (fun b hb => ⟨HS5.out.1 b (HO1.out.2.1 b hb), (HO1.out.1.lt b hb).1, fun e => by have := HS5.out.2.1 b e; have := HO1.out.2.1 b hb; omega, fun a ha => by cases ha; have := HS5.out.2.2.1; have := HO1.out.2.1 b hb; simp only; omega⟩)); have HO2 : Hid (OwnK w2 base v2 (List.replicate (k + 1) (mkK i)) ∧ (∀ b, v2.ownBlock = some b → S5 ≤ b) ∧ S5 ≤ w2.heap.size) := ⟨by rw [← rep_snoc]; exact h2, fun b hb => by rcases hat2 with e | e; exact HO1.out.2.1 b (e ▸ hb); rw [e] at hb; cases hb; have := HO1.out.2.2; simp; omega, by have := HO1.out.2.2; have := hg2.size; simp at this; omega⟩; clear h2 hg2 hat2; obtain ⟨a2, c2, hv2, _⟩ := own_shape HO2.out.1; rw [List.length_replicate] at hv2; subst hv2)
                  go_roundw
                  case rel => exact ⟨k + 1, _, _, _, by omega, by go_num, rfl, HQ2, HO2⟩
                  case measure => simp [intOf]; omega
                · obtain rfl : k = 64 := by omega
                  obtain ⟨am', cm', hvm, hgm⟩ := own_shape HOm.out.1
                  rw [List.length_replicate] at hvm
                  cases hvm
                  obtain ⟨gm, rfl⟩ := hgm (by simp)
                  have HOi : Hid (OwnK wr base (.slice a mi ci) (List.replicate mi (mkK i))) := (HQm.out.mks.items _ _ _ HTi.out).1
                  replace HOm : Hid (OwnK wr base (own gm 64 cm) (List.replicate 64 (mkK i))) := HOm.out.1
                  clear hgm
                  go_wp2_with (first | (at_builtin; refine wpList_append_rows rfl _ _ rfl base (.slice ag ng cg) es rfl (HQ2.out.1.row.kept (below_alloc _ _)) _ (.slice a2 (mi + 64) c2) rfl (cell_new1 _ _ _) rfl (by rw [HQ2.out.1.len]; omega) (by have := HQ2.out.1.bel.size; have := H0.out.base_; simp only [World.size_alloc]; omega) ?_; intro v3 w3 h3 hg3 hat3; have HQ3 : Hid (∃ T O, Ph2 w w3 base N (some ⟨rb, ro, none⟩) vs (fun j => (Ms j).length) T O v3 (es ++ [(.slice a2 (mi + 64) c2)]) i (20 + 1) 64 ∧ T (.slice a2 (mi + 64) c2) i (mi + 64)) := ⟨_, _, (HQ2.out.1.below (below_alloc _ _) H0.out.base_).put H0.out.base_ HQ2.out.2 (by omega) h3 hg3 (by rcases hat3 with e | e; exact .inl e; exact .inr ⟨_, e, Nat.le_refl _⟩), HQ2.out.2⟩; obtain ⟨ag3, cg3, hv3⟩ := rows_shape h3; rw [List.length_append, List.length_singleton] at hv3; clear h3 hg3 hat3; subst hv3) | (at_builtin; refine wpList_append_keys2 rfl _ _ rfl base (.slice a mi ci) (List.replicate mi (mkK i)) rfl HOi.out ⟨gm, 0, none⟩ 64 cm (List.replicate 64 (mkK i)) rfl (by simp) HOm.out.lst_at (by simp; omega) hbk ?_; intro v2 w2 h2 hg2; have HQ2x : Hid (∃ T' O', Ph2 w w2 base N (some ⟨rb, ro, none⟩) vs (fun j => (Ms j).length) T' O' (.slice ag ng cg) es i 20 64 ∧ T' v2 i (mi + 64)) := (grow_many H0.out HQm.out hlt HTi.out Hmi.out h2 hg2); have HO2 : Hid (OwnK w2 base v2 (List.replicate (mi + 64) (mkK i))) := (by have h5 := h2; rwa [List.replicate_append_replicate] at h5); clear h2 hg2; obtain ⟨a2, c2, hv2, _⟩ := own_shape HO2.out; rw [List.length_replicate] at hv2; subst hv2; obtain ⟨T2, O2, hq2⟩ := HQ2x.out; have HQ2 : Hid (Ph2 w w2 base N (some ⟨rb, ro, none⟩) vs (fun j => (Ms j).length) T2 O2 (.slice ag ng cg) es i 20 64 ∧ T2 (.slice a2 (mi + 64) c2) i (mi + 64)) := hq2; clear hq2 HQ2x))
                  have HQ4 : Hid (∃ T O, Ph2 w w3 base N (some ⟨rb, ro, none⟩) vs (fun j => (Ms j).length) T O (.slice ag3 (es.length + 1) cg3) (es ++ [Value.slice a2 (mi + 64) c2]) (i + 1) 0 0) := by
                    obtain ⟨T3, O3, h3, _⟩ := HQ3.out
                    exact ⟨T3, O3, h3.next⟩
                  clear HQ3
                  go_roundw
                  case rel => exact ⟨i + 1, _, _, _, _, by omega, by go_num, rfl, HQ4⟩
                  case measure => simp [intOf]; omega
        · obtain hiN : i = N := by omega
          have HF : Hid ((∀ j, j < N → OwnK wr base (vs j) (List.replicate (Ms j).length (mkK j))) ∧ ListsAt wr ao N vs ∧ OwnR wr base (.slice ag ng cg) es ∧ es.length = 21 * N ∧ (∀ q e, es[q]? = some e → ∃ n, (q / 21 < N → n ≤ 4194368) ∧ OwnK wr base e (List.replicate n (mkK (q / 21)))) ∧ Below base w wr) := by
            obtain ⟨T, O, h⟩ := HQ.out
            refine ⟨fun j hj => (h.mks.items _ _ _ (h.lists j hj)).1, h.at_, h.row, by rw [h.len, hiN]; omega, fun q e he => ?_, h.bel⟩
            obtain ⟨n, hn⟩ := h.ents q e he
            exact ⟨n, fun hq => by have h1 := (h.upto _ _ _ hn).1; have h2 := HM.out _ hq; omega, (h.mks.items _ _ _ hn).1⟩
          subst hiN
          obtain ⟨N, hNN⟩ : ∃ n, n = i := ⟨_, rfl⟩
          rw [← hNN] at HF HM hN ⊢
          clear hNN HQ hlt hi H0
          obtain ⟨wz, hwz⟩ : ∃ x, x = wr := ⟨_, rfl⟩
          rw [← hwz] at HF
          have HZ : Hid (Grew wz wr) := by rw [hwz]; exact Grew.refl _
          clear hwz
          go_wp2_with fail
          go_loopw [11] (fun x w2 => ∃ i : Nat, i ≤ N ∧ x = .int .i64 (i : Int) ∧ Hid (Grew wz w2)) (fun x _ => N - (intOf x).toNat)
          case atStart => exact ⟨0, Nat.zero_le _, rfl, HZ⟩
          case round =>
            clear HZ
            obtain ⟨i, hi, rfl, HZ⟩ := hrel
            by_cases hlt : i < N
            · rcases HF.out.2.1 with hz | ⟨rb, ro, e, hc⟩
              · omega
              subst e
              obtain ⟨a, ci, hv, _⟩ := own_shape (HF.out.1 i hlt)
              rw [List.length_replicate] at hv
              have HV : Hid (vs i = .slice a (Ms i).length ci) := hv
              have hml := HM.out i hlt
              have c0 := Grew.cell HZ.out (hc i hlt)
              rw [hv] at c0
              have HL : Hid (Lst wr a (Ms i).length ci (List.replicate (Ms i).length (mkK i))) := by
                have h1 := (HF.out.1 i hlt).kept HZ.out.below
                rw [hv] at h1
                obtain ⟨a', n', c', e, h2, _⟩ := h1.lst
                cases e; exact h2
              generalize (Ms i).length = mi at *
              clear hv hc
              go_wp2_with fail
              refine (full_any wr a mi ci i HL.out (by omega) (by omega)).mono ?_
              rintro e w2 ⟨rfl, hg⟩
              have HZ2 : Hid (Grew wz w2) := HZ.out.trans hg
              clear hg HZ c0 HL HV
              go_wp2_with fail
              go_loopw [13] (fun x w3 => ∃ k : Nat, k ≤ 21 ∧ x = .int .i64 (k : Int) ∧ Hid (Grew wz w3)) (fun x _ => 21 - (intOf x).toNat)
              case atStart => exact ⟨0, by omega, rfl, HZ2⟩
              case round =>
                clear HZ2
                obtain ⟨k, hk, rfl, HZ⟩ := hrel
                by_cases hkl : k < 21
                · have hq : 21 * i + k < es.length := by rw [HF.out.2.2.2.1]; omega
                  obtain ⟨e, he⟩ : ∃ e, es[21 * i + k]? = some e := ⟨_, List.getElem?_eq_getElem hq⟩
                  obtain ⟨n, hn, hO⟩ := HF.out.2.2.2.2.1 _ _ he
                  rw [show (21 * i + k) / 21 = i by omega] at hn hO
                  have hnl := hn hlt
                  have hO2 := hO.kept HZ.out.below
                  obtain ⟨a, m, c, hv, hl, _⟩ := hO2.lst
                  obtain rfl : m = n := by rw [hl.len]; simp
                  subst hv
                  have HL : Hid (Lst wr a m c (List.replicate m (mkK i))) := hl
                  rcases HF.out.2.2.1.shape with ⟨_, h0⟩ | ⟨gg, cap', e, _, _, _, hrc⟩
                  · rw [h0] at hq; simp at hq
                  · cases e
                    have c1 : wr.cell? ⟨gg, 21 * i + k, none⟩ = some (.slice a m c) := Grew.cell HZ.out (hrc _ _ he)
                    have hx1 : (0 : Int) ≤ 21 * (i : Int) + (k : Int) := by omega
                    have hx2 : 21 * (i : Int) + (k : Int) < (es.length : Int) := by omega
                    have hx3 : (21 * (i : Int) + (k : Int)).toNat = 21 * i + k := by omega
                    clear hrc he hO hO2 hl hn hq
                    go_wp2_with fail
                    refine (full_any wr a m c i HL.out (by omega) (by omega)).mono ?_
                    rintro e w2 ⟨rfl, hg⟩
                    have HZ2 : Hid (Grew wz w2) := HZ.out.trans hg
                    clear hg HZ c1 HL hx1 hx2 hx3
                    go_wp2_with fail
                    go_roundw
                    case rel => exact ⟨k + 1, by omega, by go_num, HZ2⟩
                    case measure => simp [intOf]; omega
                · obtain rfl : k = 21 := by omega
                  go_wp2_with fail
                  go_roundw
                  case rel => exact ⟨i + 1, by omega, by go_num, HZ⟩
                  case measure => simp [intOf]; omega
            · obtain rfl : i = N := by omega
              have HE : Hid (Below base w wr) := HF.out.2.2.2.2.2.trans (HZ.out.below.mono (by
                have h1 := HF.out.2.2.2.2.2.size; have h2 := HS.out; omega))
              clear HF HZ
              go_wp2
              go_ret
              exact ⟨rfl, HE.out⟩

end Go.Proofs.Ytnjgaibcpcpmcab
