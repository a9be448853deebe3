import Derived.Test.YtiiplikmoodfnaaGreatDoorKLawAsmH
import Derived.Test.YtiiplikmoodfnaaGreatDoorKLDMath
import Derived.Deep.RegionHeld3
/-
  AsmAssembles: THE LAW's WALK.
-/
namespace Go.Proofs.YtiiplikmoodfnaaGreatDoor
open Go.RowKit Go.Sort

/-- a library in rows of one's own -/
structure RwP (W : World) (base : Nat) (ao : Option Addr) (n cap : Nat) (Ps : List Pr) : Prop where
  at_ : LibAt W ao Ps
  len : n = Ps.length
  row : W.ownsRow base 72 6 (.slice ao n cap) n (prcs Ps)
  code : ∀ x ∈ Ps, x.n = x.L.length ∧ x.L.length ≤ 65537 ∧ W.ownsRow base 76 2 (cdV x) x.n (cks x.L)
  ap : Ps.Pairwise (fun x y => ∀ g, (cdV x).ownBlock = some g → (cdV y).ownBlock ≠ some g)
  sz : n ≤ 65537
theorem RwP.kept {W W' : World} {base n cap : Nat} {ao : Option Addr} {Ps : List Pr} (h : RwP W base ao n cap Ps) (hb : Go.RowKit.Below W.heap.size W W') : RwP W' base ao n cap Ps :=
  ⟨h.at_.kept hb, h.len, ownsRow_same h.row (fun g hg => hb.block g (World.ownsRow.lt h.row g hg).2), fun x hx => ⟨(h.code x hx).1, (h.code x hx).2.1, ownsRow_same (h.code x hx).2.2 (fun g hg => hb.block g (World.ownsRow.lt (h.code x hx).2.2 g hg).2)⟩, h.ap, h.sz⟩
theorem RwP.nil (W : World) (base : Nat) : RwP W base none 0 0 [] := ⟨⟨.inl rfl, fun x hx => (by cases hx)⟩, rfl, World.ownsRow_nil _ _ _ _, fun x hx => (by cases hx), List.Pairwise.nil, by omega⟩
/-- refused, or taken -/
def KeyL (l : List UInt8) (x y z : Int) (Ps : List Pr) : Prop := (ErrL l x y z ∧ Ps = []) ∨ (x = 0 ∧ y = 0 ∧ z = 0 ∧ ∃ a, OkL l a ∧ a.lib = Ps.map ppOf)
theorem KeyL.one {l : List UInt8} {x y z x' y' z' : Int} {Ps Qs : List Pr} (h : KeyL l x y z Ps) (h' : KeyL l x' y' z' Qs) : (x = x' ∧ y = y' ∧ z = z') ∧ Ps.map corA = Qs.map corA := by
  rcases h with ⟨h1, rfl⟩ | ⟨rfl, rfl, rfl, a, h1, h2⟩
  · rcases h' with ⟨k1, rfl⟩ | ⟨_, _, _, a', k1, _⟩
    · exact ⟨h1.one k1, rfl⟩
    · exact (h1.no k1).elim
  · rcases h' with ⟨k1, _⟩ | ⟨rfl, rfl, rfl, a', k1, k2⟩
    · exact (k1.no h1).elim
    · refine ⟨⟨rfl, rfl, rfl⟩, corA_of ?_⟩
      rw [← h2, ← k2, h1.one k1]
theorem doc2_any (w : World) (l : List UInt8) : Calls Tryz.prog 4 #[.string (S l)] w fun e w' => ∃ x y z go n cap Qs, e = .returned (.tuple #[.slice go n cap, ftv x y z]) ∧ LibAt w' go Qs ∧ n = Qs.length ∧ n ≤ 65537 ∧ KeyL l x y z Qs ∧ Go.RowKit.Below w.heap.size w w' := by
  refine (doc_any w l).mono ?_
  rintro e w' ⟨hb, ⟨x, y, z, rfl, h1⟩ | ⟨a, go, cap, Qs, rfl, h1, h2, h3, h4⟩⟩
  · exact ⟨x, y, z, none, 0, 0, [], rfl, ⟨.inl rfl, fun x hx => (by cases hx)⟩, rfl, by omega, .inl ⟨h1, rfl⟩, hb⟩
  · exact ⟨0, 0, 0, go, _, cap, Qs, rfl, h2, rfl, h4, .inr ⟨rfl, rfl, rfl, a, h1, h3⟩, hb⟩
theorem cod2_any (w : World) (l : List UInt8) (hv : NumVars w) (hn : NmAt w) (hkw : KwAt w) (he : ErrVar w) (hB : 8 ≤ w.heap.size) : Calls Tryz.prog 5 #[.string (S l)] w fun e w' => ∃ x y z ao n cap Ps v, e = .returned (.tuple #[.slice ao n cap, v]) ∧ RwP w' w.heap.size ao n cap Ps ∧ FltR w' v x y z ∧ KeyL l x y z Ps ∧ Go.RowKit.Below w.heap.size w w' ∧ (v = .nilIface ∨ ∃ t p, v = .iface t p) := by
  refine (cod_any w l hv hn hkw he hB).mono ?_
  rintro e w' ⟨hb, ⟨v, x, y, z, rfl, h1, h2, h3⟩ | ⟨a, M, B, line, Ps, vl, vn, vm, vj, rfl, h1, h2, h3⟩⟩
  · exact ⟨x, y, z, none, 0, 0, [], v, rfl, RwP.nil _ _, h2, .inl ⟨h1, rfl⟩, hb, .inr h3⟩
  · have hsz := h1.sz
    obtain ⟨lo, lc, rfl, _⟩ := own_slice h2.lib
    have hM : w.heap.size ≤ M := by have := h2.bm.1; omega
    have hpl : Ps.length ≤ 65537 := by
      have h9 := hsz.lib
      have h8 := hsz.top
      rw [h2.eq, List.length_map] at h9
      omega
    refine ⟨0, 0, 0, lo, Ps.length, lc, Ps, .nilIface, rfl, ⟨h2.libAt hsz, rfl, ownA_mono h2.lib hM, fun x hx => ⟨(h2.code x hx).1, ?_, ownA_mono (h2.code x hx).2 hM⟩, h2.ap, hpl⟩, fun W' hb' => faultNil_any W', .inr ⟨rfl, rfl, rfl, a, h1, h2.eq⟩, hb, .inl rfl⟩
    exact Nat.le_trans (hsz.code (ppOf x) (by rw [h2.eq]; exact List.mem_map_of_mem hx)) hsz.top
/-- two libraries side by side -/
theorem pd_app (Ps Qs : List Pr) (k : Nat) : pd (Ps ++ Qs) (Ps.length + k) = pd Qs k := by
  simp [pd, List.getD_eq_getElem?_getD, List.getElem?_append_right]
theorem pd_left (Ps Qs : List Pr) {k : Nat} (h : k < Ps.length) : pd (Ps ++ Qs) k = pd Ps k := by
  simp [pd, List.getD_eq_getElem?_getD, List.getElem?_append_left h]
theorem apart2_any (w : World) (base mid lb : Nat) (a1 a2 : Option Addr) (n1 n2 c1 c2 : Nat) (Ps Qs : List Pr) (h1 : RwP w base a1 n1 c1 Ps) (h2 : RwP w mid a2 n2 c2 Qs) (hbm : base ≤ mid) (hb : base ≤ w.heap.size) (hlt : ∀ g, (Value.slice a1 n1 c1).ownBlock = some g → g < mid) (hlc : ∀ x ∈ Ps, ∀ g, (cdV x).ownBlock = some g → g < mid) (hL : w.heap[lb]? = some (.cells #[.slice a1 n1 c1, .slice a2 n2 c2] 22 (0, 0))) :
    Calls Tryz.prog 8 #[.slice (some ⟨lb, 0, none⟩) 2 2] w fun e w' => e = .returned (.bool true) ∧ Go.RowKit.Below base w w' := by
  have e1 := h1.len
  have e2 := h2.len
  subst e1
  subst e2
  have hmem : ∀ i, i < (Ps ++ Qs).length → pd (Ps ++ Qs) i ∈ Ps ++ Qs := fun i hi => pd_mem hi
  have hcode : ∀ x ∈ Ps ++ Qs, x.n = x.L.length ∧ x.L.length ≤ 65537 ∧ w.ownsRow base 76 2 (cdV x) x.n (cks x.L) := fun x hx => by
    rcases List.mem_append.1 hx with hx | hx
    · exact h1.code x hx
    · exact ⟨(h2.code x hx).1, (h2.code x hx).2.1, ownA_mono (h2.code x hx).2.2 hbm⟩
  have hpw : (Ps ++ Qs).Pairwise (fun x y => ∀ g, (cdV x).ownBlock = some g → (cdV y).ownBlock ≠ some g) := by
    refine List.pairwise_append.2 ⟨h1.ap, h2.ap, fun x hx y hy g e1 e2 => ?_⟩
    have q1 := hlc x hx g e1
    have q2 := (World.ownsRow.lt (h2.code y hy).2.2 g e2).1
    omega
  have hN : (Ps ++ Qs).length = Ps.length + Qs.length := List.length_append
  have s1 := h1.sz
  have s2 := h2.sz
  refine apartA_any w base lb (Ps ++ Qs).length (fun i => if i = 0 then .slice a1 Ps.length c1 else .slice a2 Qs.length c2) (fun i => if i = 0 then Ps.length else Qs.length) (fun i => if i = 0 then prcs Ps else prcs Qs) (fun i => cdV (pd (Ps ++ Qs) i)) (fun i => (pd (Ps ++ Qs) i).n) (fun i => cks (pd (Ps ++ Qs) i).L) (fun i => if i = 0 then 0 else if i = 1 then Ps.length else Ps.length + Qs.length) hb hL ⟨fun i hi => ?_, fun i j hi hj hij g e1 e2 => ?_⟩ ⟨fun i hi => (hcode _ (hmem i hi)).2.2, fun i j hi hj hij g e1 e2 => ?_⟩ rfl (fun i hi => ?_) hN.symm (fun i k hi hk => ?_) (fun i hi => ?_) (fun i hi => ?_) (by omega)
  · rcases (show i = 0 ∨ i = 1 by omega) with rfl | rfl
    · exact h1.row
    · exact ownA_mono h2.row hbm
  · rcases (show i = 0 ∧ j = 1 ∨ i = 1 ∧ j = 0 by omega) with ⟨rfl, rfl⟩ | ⟨rfl, rfl⟩
    · have q1 := hlt g e1
      have q2 := (World.ownsRow.lt h2.row g e2).1
      omega
    · have q1 := hlt g e2
      have q2 := (World.ownsRow.lt h2.row g e1).1
      omega
  · rw [List.pairwise_iff_getElem] at hpw
    have p1 : pd (Ps ++ Qs) i = (Ps ++ Qs)[i] := by simp [pd, List.getD_eq_getElem?_getD, List.getElem?_eq_getElem hi]
    have p2 : pd (Ps ++ Qs) j = (Ps ++ Qs)[j] := by simp [pd, List.getD_eq_getElem?_getD, List.getElem?_eq_getElem hj]
    have e1 : (cdV (pd (Ps ++ Qs) i)).ownBlock = some g := e1
    have e2 : (cdV (pd (Ps ++ Qs) j)).ownBlock = some g := e2
    rw [p1] at e1
    rw [p2] at e2
    rcases Nat.lt_or_gt_of_ne hij with h9 | h9
    · exact hpw i j hi hj h9 g e1 e2
    · exact hpw j i hj hi h9 g e2 e1
  · rcases (show i = 0 ∨ i = 1 by omega) with rfl | rfl
    · simp
    · simp
  · rcases (show i = 0 ∨ i = 1 by omega) with rfl | rfl
    · have hk' : k < Ps.length := hk
      show (prcs Ps)[k * 6 + 5]? = some (cdV (pd (Ps ++ Qs) (0 + k)))
      rw [prcs_at Ps k 5 hk' (by omega), Nat.zero_add, pd_left Ps Qs hk']
      rfl
    · have hk' : k < Qs.length := hk
      show (prcs Qs)[k * 6 + 5]? = some (cdV (pd (Ps ++ Qs) (Ps.length + k)))
      rw [prcs_at Qs k 5 hk' (by omega), pd_app Ps Qs k]
      rfl
  · show (if i = 0 then Ps.length else Qs.length) ≤ 65537
    split <;> omega
  · have := hcode _ (hmem i hi)
    show (pd (Ps ++ Qs) i).n ≤ 65537
    omega
set_option maxRecDepth 100000 in
set_option maxHeartbeats 4000000 in
theorem lawAsm (w : World) (l : List UInt8) (_ : l.length ≤ 140737488351232) (hv : NumVars w) (hs : Vs w) (he : ErrVar w) (hB : 8 ≤ w.heap.size) :
    Calls Tryz.prog 3 #[.string (S l)] w fun e w' => e = .returned (.bool true) ∧ Go.RowKit.Below w.heap.size w w' := by
  have HDo := hidA (doc2_any w l)
  have HCo : Hid (∀ W', Go.RowKit.Below w.heap.size w W' → Calls Tryz.prog 5 #[.string (S l)] W' fun e w' => ∃ x y z ao n cap Ps v, e = .returned (.tuple #[.slice ao n cap, v]) ∧ RwP w' W'.heap.size ao n cap Ps ∧ FltR w' v x y z ∧ KeyL l x y z Ps ∧ Go.RowKit.Below W'.heap.size W' w' ∧ (v = .nilIface ∨ ∃ t p, v = .iface t p)) := fun W' hb => cod2_any W' l (hv.kept hb) (hs.kept hb).nm (nw_kw (hs.kept hb).nw) (he.bel hb hB) (Nat.le_trans hB hb.size)
  obtain ⟨sl, hsl⟩ : ∃ sl, sl = S l := ⟨_, rfl⟩
  rw [← hsl] at HDo HCo ⊢
  clear hv hs he hB hsl
  go_enter Tryz.func3, Tryz.ntmps3
  go_wp2_with fail
  refine HDo.out.mono ?_
  rintro e w1 ⟨x, y, z, go, gn, gc, Qs, rfl, h1, h2, h3, h4, hb1⟩
  obtain ⟨w2, hw2⟩ : ∃ w2, w2 = w1.alloc (.cells #[.int .i64 x, .int .i64 y, .int .i64 z] 24) := ⟨_, rfl⟩
  obtain ⟨f, hf⟩ : ∃ f, f = w1.heap.size := ⟨_, rfl⟩
  have hb2 : Go.RowKit.Below w1.heap.size w1 w2 := by rw [hw2]; exact bel_al _ _
  have hF : FB w2 f (.int .i64 x) (.int .i64 y) (.int .i64 z) := by rw [hw2, hf]; exact heap_alloc_new _ _ rfl
  have HF := hidA hF
  have HQ := hidA (h1.kept hb2)
  have HQn := hidA h2
  have HK := hidA h4
  have HB2 : Hid (Go.RowKit.Below w.heap.size w w2) := hb1.trans (hb2.mono hb1.size)
  clear h1 h2 h4 hb1 hb2 hF HDo
  go_upto_region 2 with fail
  rw [← hw2, ← hf]
  clear hw2 hf
  go_wp2_with fail
  refine (HCo.out w2 HB2.out).mono ?_
  rintro e w3 ⟨x1, y1, z1, ao, an, ac, Ps, v1, rfl, k1, k2, k3, hb3, hv1⟩
  have HB3 : Hid (Go.RowKit.Below w2.heap.size w2 w3) := hb3
  have HB3w : Hid (Go.RowKit.Below w.heap.size w w3) := HB2.out.trans (hb3.mono HB2.out.size)
  obtain ⟨⟨rfl, rfl, rfl⟩, hcr1⟩ := k3.one HK.out
  have HLow : Hid ((∀ g, (Value.slice ao an ac).ownBlock = some g → g < w3.heap.size) ∧ ∀ x ∈ Ps, ∀ g, (cdV x).ownBlock = some g → g < w3.heap.size) := ⟨fun g hg => (World.ownsRow.lt k1.row g hg).2, fun x hx g hg => (World.ownsRow.lt (k1.code x hx).2.2 g hg).2⟩
  have HR1 := hidA k1
  have HF1 := hidA k2
  have HV1 := hidA hv1
  have HCr1 := hidA hcr1
  have HK1 := hidA k3
  clear k1 k2 k3 hb3 hv1 hcr1
  go_wp2_with fail
  refine (HCo.out w3 HB3w.out).mono ?_
  rintro e w4 ⟨x2, y2, z2, bo, bn, bc, Rs, v2, rfl, m1, m2, m3, hb4, hv2⟩
  obtain ⟨⟨rfl, rfl, rfl⟩, hcr2⟩ := m3.one HK.out
  have HB4 : Hid (Go.RowKit.Below w3.heap.size w3 w4) := hb4
  have hb24 : Go.RowKit.Below w2.heap.size w2 w4 := HB3.out.trans (hb4.mono HB3.out.size)
  have HB24 := hidA hb24
  have hb0 : Go.RowKit.Below w.heap.size w w4 := HB2.out.trans (hb24.mono HB2.out.size)
  have HR1 := hidA (HR1.out.kept hb4)
  have HR2 := hidA m1
  have HQ4 := hidA (HQ.out.kept hb24)
  have hF4 : FB w4 f (.int .i64 x2) (.int .i64 y2) (.int .i64 z2) := (hb24.block f (Array.getElem?_eq_some_iff.1 HF.out).1).trans HF.out
  have e1 : an = gn := by rw [HR1.out.len, HQn.out]; simpa using congrArg List.length HCr1.out
  have e2 : bn = gn := by rw [HR2.out.len, HQn.out]; simpa using congrArg List.length hcr2
  have HCl : Hid (∀ W, Go.RowKit.Below w4.heap.size w4 W → W.cell? ⟨f, 0, none⟩ = some (.int .i64 x2) ∧ W.cell? ⟨f, 1, none⟩ = some (.int .i64 y2) ∧ W.cell? ⟨f, 2, none⟩ = some (.int .i64 z2)) := fun W hb => by
    have h9 : FB W f _ _ _ := (hb.block f (Array.getElem?_eq_some_iff.1 hF4).1).trans hF4
    exact (ft_facts h9).2.1
  have HG1 : Hid (∀ W, Go.RowKit.Below w4.heap.size w4 W → Calls Tryz.prog 6 #[v1] W fun e w' => e = .returned (ftv x2 y2 z2) ∧ Go.RowKit.Below W.heap.size W w') := fun W hb => HF1.out W (hb4.trans (hb.mono hb4.size))
  have HG2 : Hid (∀ W, Go.RowKit.Below w4.heap.size w4 W → Calls Tryz.prog 6 #[v2] W fun e w' => e = .returned (ftv x2 y2 z2) ∧ Go.RowKit.Below W.heap.size W w') := fun W hb => m2 W hb
  have HS1 : Hid (∀ W, Go.RowKit.Below w4.heap.size w4 W → Calls Tryz.prog 7 #[.slice ao gn ac, .slice go gn gc] W fun e w' => e = .returned (.bool true) ∧ Go.RowKit.Below W.heap.size W w') := fun W hb => sameLibA_any W ao go gn ac gc Ps Qs (HR1.out.at_.kept hb) (HQ4.out.kept hb) HQn.out (by omega) HCr1.out
  have HS2 : Hid (∀ W, Go.RowKit.Below w4.heap.size w4 W → Calls Tryz.prog 7 #[.slice bo gn bc, .slice go gn gc] W fun e w' => e = .returned (.bool true) ∧ Go.RowKit.Below W.heap.size W w') := fun W hb => sameLibA_any W bo go gn bc gc Rs Qs (HR2.out.at_.kept hb) (HQ4.out.kept hb) HQn.out (by omega) hcr2
  subst e1
  subst e2
  have HApt : Hid (∀ W lb, Go.RowKit.Below w4.heap.size w4 W → W.heap[lb]? = some (.cells #[.slice ao bn ac, .slice bo bn bc] 22 (0, 0)) → Calls Tryz.prog 8 #[.slice (some ⟨lb, 0, none⟩) 2 2] W fun e w' => e = .returned (.bool true) ∧ Go.RowKit.Below w2.heap.size W w') := fun W lb hb hL => apart2_any W w2.heap.size w3.heap.size lb ao bo bn bn ac bc Ps Rs (HR1.out.kept hb) (HR2.out.kept hb) HB3.out.size (Nat.le_trans HB24.out.size hb.size) HLow.out.1 HLow.out.2 hL
  have hDr : Go.RowKit.Below w4.heap.size w4 w4.drew := bel_drewN w4 1
  have HDr := hidA hDr
  have HB0 := hidA hb0
  obtain ⟨c0, c1, c2⟩ := HCl.out w4 (Below.refl _ _)
  have HV2 := hidA hv2
  clear m1 m2 m3 hb4 hb24 hF4 hDr hb0 HF HQ HQ4 HQn HK HK1 HR1 HR2 HCr1 hcr2 HCo HF1 HB4 HLow hv2
  go_upto_region 4 with fail
  go_region_held3 (fun w' => w'.cell? ⟨f, 0, none⟩ = some (.int .i64 x2) ∧ w'.cell? ⟨f, 1, none⟩ = some (.int .i64 y2) ∧ w'.cell? ⟨f, 2, none⟩ = some (.int .i64 z2)) (first | with_reducible exact HC8.out | with_reducible exact HC7.out | with_reducible exact HC6.out | with_reducible exact HC5.out | go_keep) (first
    | (go_at_call 6; with_reducible refine (HG1.out _ HDr.out).mono ?_; rintro e w5 ⟨rfl, hb5⟩; have HB5 := hidA (HDr.out.trans (hb5.mono HDr.out.size)); have HC5 := hidA (HCl.out w5 HB5.out); clear hb5)
    | (go_at_call 6; with_reducible refine (HG2.out _ HB5.out).mono ?_; rintro e w6 ⟨rfl, hb6⟩; have HB6 := hidA (HB5.out.trans (hb6.mono HB5.out.size)); have HC6 := hidA (HCl.out w6 HB6.out); clear hb6)
    | (go_at_call 7; with_reducible refine (HS1.out _ HB6.out).mono ?_; rintro e w7 ⟨rfl, hb7⟩; have HB7 := hidA (HB6.out.trans (hb7.mono HB6.out.size)); have HC7 := hidA (HCl.out w7 HB7.out); clear hb7)
    | (go_at_call 7; with_reducible refine (HS2.out _ HB7.out).mono ?_; rintro e w8 ⟨rfl, hb8⟩; have HB8 := hidA (HB7.out.trans (hb8.mono HB7.out.size)); have HC8 := hidA (HCl.out w8 HB8.out); clear hb8))
  have HA9 : Hid (Calls Tryz.prog 8 #[.slice (some ⟨w8.heap.size, 0, none⟩) 2 2] (w8.alloc (.cells #[.slice ao bn ac, .slice bo bn bc] 22)) fun e w' => e = .returned (.bool true) ∧ Go.RowKit.Below w2.heap.size (w8.alloc (.cells #[.slice ao bn ac, .slice bo bn bc] 22)) w') := HApt.out _ _ (HB8.out.trans ((bel_al _ _).mono HB8.out.size)) (heap_alloc_new _ _ rfl)
  have HB9 : Hid (Go.RowKit.Below w.heap.size w (w8.alloc (.cells #[.slice ao bn ac, .slice bo bn bc] 22))) := by
    have h9 := HB0.out.trans (HB8.out.mono HB0.out.size)
    exact h9.trans ((bel_al _ _).mono h9.size)
  clear HC5 HC6 HC7 HC8 HB5 HB6 HB7 HB8 HDr HCl HG1 HG2 HS1 HS2 HApt
  go_wp2_with fail
  refine HA9.out.mono ?_
  rintro e w9 ⟨rfl, hb9⟩
  have HX : Hid (Go.RowKit.Below w.heap.size w w9) := HB9.out.trans (hb9.mono HB2.out.size)
  clear hb9 HA9
  go_wp2_with fail
  go_ret
  exact ⟨rfl, HX.out⟩
end Go.Proofs.YtiiplikmoodfnaaGreatDoor
