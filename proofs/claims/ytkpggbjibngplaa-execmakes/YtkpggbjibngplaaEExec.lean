/-
  exec.New AND ITS DOCUMENT'S LIKE.
-/
import Derived.Test.YtkpggbjibngplaaESpoil
import Derived.Test.YtkpggbjibngplaaEMkC
import Derived.Test.YtkpggbjibngplaaLRefC
namespace Go.Proofs.Ytkpggbjibngplaa
open Go.RowKit Go.Sort

theorem q24 (w : World) (a : Option Addr) (n c n' c' : Nat) : (binOp .eql 24 (.slice a n c) (.slice none n' c')).run Try.prog w = .ok (.bool a.isNone) w := Lib.run_eql_slice_nil w _ _ a n c n' c' Try.underlying24
theorem q30 (w : World) (a : Option Addr) (n c n' c' : Nat) : (binOp .eql 30 (.slice a n c) (.slice none n' c')).run Try.prog w = .ok (.bool a.isNone) w := Lib.run_eql_slice_nil w _ _ a n c n' c' Try.underlying30
set_option maxRecDepth 100000 in
set_option maxHeartbeats 1000000 in
theorem cloneI (w : World) (ao : Option Addr) (n cap : Nat) (L : List K) (hn : n = L.length) (h : KeysAt w ao L) (hnil : ao = none → cap = 0) (hm : n * 16 ≤ 140737488355328) :
    Calls Try.prog 27 #[.slice ao n cap] w fun e w' => ∃ v, e = .returned v ∧ OwnK w' w.heap.size v L ∧ Below w.heap.size w w' := by
  have q := q30
  cases ao with
  | none =>
    obtain rfl := hnil rfl
    have h0 : L = [] := by
      rcases h with h1 | ⟨b, off, h1, _⟩
      · exact h1
      · cases h1
    subst h0
    obtain rfl : n = 0 := hn
    clear h hnil
    go_enter Try.func27, Try.ntmps27
    go_wp2
    go_ret
    exact ⟨_, rfl, OwnK.nil _ _, Below.refl _ _⟩
  | some ad =>
    have HO : Hid (OwnK (w.alloc (.cells #[] 93)) w.heap.size (.slice (some ⟨w.heap.size, 0, none⟩) 0 0) []) := World.ownsRow_made w #[] 0 (Nat.le_refl _) (Nat.zero_le _) (by simp)
    have HK : Hid (KeysAt (w.alloc (.cells #[] 93)) (some ad) L ∧ n = L.length ∧ (([] : List K).length + L.length) * 16 ≤ 140737488355328) := ⟨h.kept ((Below.refl _ _).alloc (Nat.le_refl _) _), hn, by simp; omega⟩
    clear h hn hnil hm
    go_enter Try.func27, Try.ntmps27
    go_wp2_with (at_builtin; refine wpList_append_keys rfl _ _ rfl w.heap.size (.slice (some ⟨w.heap.size, 0, none⟩) 0 0) [] rfl HO.out (some ad) n cap L rfl HK.out.2.1 HK.out.1 (fun e => by cases e) HK.out.2.2 (by simp) ?_; intro v' w1 hown hgrow _)
    go_ret
    exact ⟨v', rfl, hown, ((Below.refl _ w).alloc (Nat.le_refl _) _).grown hgrow (by simp) (by intro k hk; simp [Value.ownBlock] at hk; omega)⟩
set_option maxRecDepth 100000 in
set_option maxHeartbeats 1000000 in
theorem cloneP (w : World) (ao : Option Addr) (n cap : Nat) (Ps : List Pr) (hn : n = Ps.length) (h : ProcsAt w ao Ps) (hnil : Ps = [] → ao = none → cap = 0) (hm : n ≤ 100000) :
    Calls Try.prog 26 #[.slice ao n cap] w fun e w' => ∃ v, e = .returned v ∧ OwnP w' w.heap.size v Ps ∧ Below w.heap.size w w' := by
  have q := q24
  cases ao with
  | none =>
    have h0 : Ps = [] := by
      rcases h with h1 | ⟨b, off, h1, _⟩
      · exact h1
      · cases h1
    obtain rfl := hnil h0 rfl
    subst h0
    obtain rfl : n = 0 := hn
    clear h hnil
    go_enter Try.func26, Try.ntmps26
    go_wp2
    go_ret
    exact ⟨_, rfl, OwnP.nil _ _, Below.refl _ _⟩
  | some ad =>
    have HO : Hid (OwnP (w.alloc (.cells #[] 34)) w.heap.size (.slice (some ⟨w.heap.size, 0, none⟩) 0 0) []) := World.ownsRow_made w #[] 0 (Nat.le_refl _) (Nat.zero_le _) (by simp)
    have HK : Hid ((∀ j u, (prcs Ps)[j]? = some u → (w.alloc (.cells #[] 34)).cell? (ad.add j) = some u) ∧ n = Ps.length ∧ (([] : List Pr).length + Ps.length) * 72 ≤ 140737488355328) := ⟨fun j u hu => by
      rcases h.kept ((Below.refl _ _).alloc (Nat.le_refl _) (.cells #[] 34)) with h0 | ⟨b, off, e, hc⟩
      · subst h0; simp [prcs] at hu
      · cases e; rw [addr_add]; exact hc j u hu, hn, by simp; omega⟩
    clear h hn hnil hm
    go_enter Try.func26, Try.ntmps26
    go_wp2_with (at_builtin; refine wpList_append_procs rfl _ _ rfl w.heap.size (.slice (some ⟨w.heap.size, 0, none⟩) 0 0) [] rfl HO.out ad n cap Ps rfl HK.out.2.1 HK.out.1 HK.out.2.2 (by simp) ?_; intro v' w1 hown hgrow _)
    go_ret
    exact ⟨v', rfl, hown, ((Below.refl _ w).alloc (Nat.le_refl _) _).grown hgrow (by simp) (by intro k hk; simp [Value.ownBlock] at hk; omega)⟩
/-- the codes from i on are still the old ones -/
structure CpI (n0 g n : Nat) (Qs : List Pr) (W0 W : World) (i : Nat) : Prop where
  bel : Below n0 W0 W
  ge : n0 ≤ g
  row : ∃ cur, W.heap[g]? = some (.cells cur 34 (0, 0))
  cls : ∀ j, i ≤ j → j < n → ∀ m u, (prc (pd Qs j))[m]? = some u → W.cell? ⟨g, j * 6 + m, none⟩ = some u
theorem CpI.proc {n0 g n : Nat} {Qs : List Pr} {W0 W : World} {i : Nat} (h : CpI n0 g n Qs W0 W i) (m : Nat) (v : Value) (hm : m < i * 6 + 6) : CpI n0 g n Qs W0 (W.setCell ⟨g, m, none⟩ v) (i + 1) := by
  obtain ⟨cur, hr⟩ := h.row
  refine ⟨below_set h.bel _ _ h.ge, h.ge, ⟨_, heap_setCell_same W g m _ _ v hr⟩, fun j h1 h2 k u hu => ?_⟩
  rw [cell_setN hr (by omega)]; exact h.cls j (by omega) h2 k u hu
theorem CpI.kept {n0 g n : Nat} {Qs : List Pr} {W0 W W' : World} {i : Nat} (h : CpI n0 g n Qs W0 W i) (hb : Below W.heap.size W W') (h0 : n0 ≤ W0.heap.size) : CpI n0 g n Qs W0 W' i := by
  obtain ⟨cur, hr⟩ := h.row
  refine ⟨h.bel.trans (hb.mono (Nat.le_trans h0 h.bel.size)), h.ge, ⟨cur, (hb.block g (Array.getElem?_eq_some_iff.1 hr).1).trans hr⟩, fun j h1 h2 k u hu => ?_⟩
  have := h.cls j h1 h2 k u hu
  exact (hb.cell (p := ⟨g, j * 6 + k, none⟩) (cell_lt this)).trans this
theorem CpI.start {n0 : Nat} {w W : World} {g n cap : Nat} {Ps : List Pr} (h : OwnP W n0 (.slice (some ⟨g, 0, none⟩) n cap) Ps) (hn : n = Ps.length) (hb : Below n0 w W) : CpI n0 g n Ps w W 0 := by
  have h0 := h
  rcases h.shape with ⟨e, _⟩ | ⟨g', cap', e, hge, _, _, _, hp⟩
  · cases e
  · simp only [Value.slice.injEq, Option.some.injEq, Addr.mk.injEq] at e
    obtain ⟨⟨rfl, -, -⟩, -, rfl⟩ := e
    refine ⟨hb, hge, ?_, fun j _ hj m u hu => ?_⟩
    · obtain ⟨_, h1 | ⟨g2, cap2, cur, e2, _, hg, _⟩⟩ := h0
      · cases h1.1
      · cases e2; exact ⟨cur, hg⟩
    · have hm : m < 6 := by have := (List.getElem?_eq_some_iff.1 hu).1; simpa [prc] using this
      rcases hp with h1 | ⟨b, off, e, hc⟩
      · rw [h1] at hn; simp at hn; omega
      · simp only [Option.some.injEq, Addr.mk.injEq] at e
        obtain ⟨rfl, rfl, -⟩ := e
        have := hc (j * 6 + m) u (by rw [prcs_at Ps j m (by omega) hm]; exact hu)
        rw [Nat.zero_add] at this; exact this
set_option maxRecDepth 100000 in
set_option maxHeartbeats 1000000 in
theorem copied_any (w : World) (ao : Option Addr) (n cap : Nat) (Ps : List Pr) (h : LibAt w ao Ps) (hn : n = Ps.length) (hnil : Ps = [] → ao = none → cap = 0) (hm : n ≤ 100000) :
    Calls Try.prog 18 #[.slice ao n cap] w fun e w' => ∃ a c, e = .returned (.slice a n c) ∧ Below w.heap.size w w' := by
  have HCl := cloneP w ao n cap Ps hn h.at_ hnil hm
  have H : Hid (LibAt w ao Ps) := h
  have HN : Hid (n = Ps.length) := hn
  clear h hn hnil
  go_enter Try.func18, Try.ntmps18
  go_wp2_with fail
  refine HCl.mono ?_
  clear HCl
  rintro e w1 ⟨v, rfl, ho, hb1⟩
  obtain ⟨a1, q1, hv, _, _, _⟩ := ho.slice
  rw [← HN.out] at hv
  subst hv
  cases a1 with
  | none =>
    have h0 : n = 0 := by
      obtain ⟨_, h0 | ⟨_, _, _, e, _⟩⟩ := ho
      · rw [HN.out]; exact h0.2
      · cases e
    have HB : Hid (Below w.heap.size w w1) := hb1
    clear ho hb1
    have HN0 : Hid (n = 0) := h0
    clear h0
    go_wp2_with fail
    go_loopw [9] (fun x wr => x = .int .i64 0 ∧ wr = w1) (fun _ _ => 0)
    case atStart => exact ⟨rfl, rfl⟩
    case round =>
      obtain ⟨rfl, rfl⟩ := hrel
      have hlt : ¬ (0 : Int) < (n : Int) := by have := HN0.out; omega
      go_wp2
      go_ret
      exact ⟨⟨_, _, rfl⟩, HB.out⟩
  | some a =>
    obtain ⟨g, rfl⟩ : ∃ g, a = ⟨g, 0, none⟩ := by
      rcases ho.shape with ⟨e, _⟩ | ⟨g', cap', e, _⟩
      · cases e
      · simp only [Value.slice.injEq, Option.some.injEq] at e; exact ⟨g', e.1⟩
    have HI0 : Hid (CpI w.heap.size g n Ps w w1 0) := CpI.start ho HN.out hb1
    clear ho hb1
    go_wp2_with fail
    go_loopw [9] (fun x wr => ∃ i : Nat, i ≤ n ∧ x = .int .i64 (i : Int) ∧ Hid (CpI w.heap.size g n Ps w wr i)) (fun x _ => n - (intOf x).toNat)
    case atStart => exact ⟨0, Nat.zero_le _, rfl, HI0⟩
    case round =>
      clear HI0
      obtain ⟨i, hi, rfl, HI⟩ := hrel
      by_cases hlt : i < n
      · have hlti : (i : Int) < (n : Int) := by omega
        have HO : Hid (PrOK wr (pd Ps i)) := (H.out.ok _ (pd_mem (by have := HN.out; omega))).kept HI.out.bel
        have c5 := HI.out.cls i (Nat.le_refl _) hlt 5 _ rfl
        have HC5 : Hid (∀ W, CpI w.heap.size g n Ps w W i → W.cell? ⟨g, i * 6 + 5, none⟩ = some (.slice (pd Ps i).ao (pd Ps i).n (pd Ps i).cap)) := fun W hW => hW.cls i (Nat.le_refl _) hlt 5 _ rfl
        generalize pd Ps i = x at *
        have HCi := cloneI wr x.ao x.n x.cap x.L HO.out.len HO.out.ks HO.out.nil (by have := HO.out.big; omega)
        go_wp2_with fail
        refine HCi.mono ?_
        clear HCi
        rintro e w2 ⟨v, rfl, ho, hb2⟩
        obtain ⟨a2, q2, rfl, _, _, _⟩ := ho.slice
        have hk := HI.out.kept hb2 (Nat.le_refl _)
        have d5 := HC5.out _ hk
        have f5 : w2.frozen? ⟨g, i * 6 + 5, none⟩ = false := by
          obtain ⟨cur, hr⟩ := hk.row
          exact frozen_of_row w2 g _ _ _ hr
        have HI2 : Hid (CpI w.heap.size g n Ps w (w2.setCell ⟨g, i * 6 + 5, none⟩ (.slice a2 x.L.length q2)) (i + 1)) := hk.proc _ _ (by omega)
        clear hk HI hb2 ho c5 HC5 HO
        generalize x.L.length = xl at *
        go_wp2
        go_roundw
        case rel => exact ⟨i + 1, by omega, by go_num, HI2⟩
        case measure => simp [intOf]; omega
      · obtain rfl : i = n := by omega
        go_wp2
        go_ret
        exact ⟨_, _, rfl, HI.out.bel⟩
end Go.Proofs.Ytkpggbjibngplaa
