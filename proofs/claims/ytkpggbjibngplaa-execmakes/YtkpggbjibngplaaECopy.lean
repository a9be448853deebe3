/-
  A LIBRARY IN MEMORY OF ITS OWN: layer 12's copyLib.
-/
import Derived.Test.YtkpggbjibngplaaLOwnP
import Derived.Test.YtkpggbjibngplaaLCheck
namespace Go.Proofs.Ytkpggbjibngplaa
open Go.RowKit Go.Sort

theorem hidX {p : Prop} (h : p) : Hid p := h
structure LkX (x y : Pr) : Prop where
  name : x.name = y.name
  p : x.p = y.p
  n : x.n = y.n
  L : x.L = y.L
theorem hasB_nm (Ps : List Pr) (nm : ByteArray) : hasB Ps nm = (Ps.map (·.name)).any fun s => s.toList == nm.toList := by
  unfold hasB; rw [List.any_map]; rfl
theorem check_lk {Ps Qs : List Pr} (hl : Qs.length = Ps.length) (h : ∀ i, i < Ps.length → LkX (pd Qs i) (pd Ps i)) : checkN Qs = checkN Ps := by
  have hm : Qs.map (·.name) = Ps.map (·.name) := by
    apply List.ext_getElem (by simp [hl])
    intro i h1 h2
    have hi : i < Ps.length := by simpa using h2
    have hi2 : i < Qs.length := by simpa using h1
    have := (h i hi).name
    simpa [pd, List.getD_eq_getElem?_getD, List.getElem?_eq_getElem hi, List.getElem?_eq_getElem hi2] using this
  have hc : ∀ i, i < Ps.length → chkOne Qs i = chkOne Ps i := by
    intro i hi
    have hx := h i hi
    unfold chkOne
    rw [hx.name, hx.p, hx.L, hasB_nm, hasB_nm, List.map_take, List.map_take, hm]
  have hf : ∀ k, k ≤ Ps.length → firstP (chkOne Qs) k = firstP (chkOne Ps) k := by
    intro k
    induction k with
    | zero => intro _; rfl
    | succ k ih =>
      intro hk
      simp only [firstP, ih (by omega), hc k (by omega)]
  unfold checkN
  rw [hl, hf _ (Nat.le_refl _)]
/-- the block of a procedure's code -/
def cbX (x : Pr) : Option Nat := (Value.slice x.ao x.n x.cap).ownBlock
/-- a procedure whose code is the call's own -/
structure PrX (W : World) (base : Nat) (x : Pr) : Prop where
  len : x.n = x.L.length
  own : OwnK W base (.slice x.ao x.n x.cap) x.L
  nin : NIn x.p
  kin : ∀ k ∈ x.L, KIn k
  str : x.name.size ≤ 140737488351232
  big : x.n * 16 ≤ 140737488351232
theorem PrX.ok {W : World} {base : Nat} {x : Pr} (h : PrX W base x) : PrOK W x := by
  obtain ⟨ao, cap, e, hk, hn, _⟩ := h.own.slice
  simp only [Value.slice.injEq] at e
  obtain ⟨e1, _, e3⟩ := e
  exact ⟨h.len, by rw [e1]; exact hk, h.nin, h.kin, by rw [e1, e3]; exact hn, h.str, h.big⟩
theorem PrX.same {W W' : World} {base : Nat} {x : Pr} (h : PrX W base x) (hs : ∀ g, cbX x = some g → W'.heap[g]? = W.heap[g]?) : PrX W' base x := ⟨h.len, h.own.same hs, h.nin, h.kin, h.str, h.big⟩
theorem PrX.lt {W : World} {base : Nat} {x : Pr} (h : PrX W base x) : ∀ g, cbX x = some g → base ≤ g ∧ g < W.heap.size := h.own.lt
/-- the first k procedures are copied -/
structure CLs (n0 : Nat) (w W : World) (v : Value) (Ps Qs : List Pr) (k : Nat) : Prop where
  bel : Below n0 w W
  le : n0 ≤ w.heap.size
  len : Qs.length = k
  own : OwnP W n0 v Qs
  ok : ∀ x ∈ Qs, PrX W n0 x
  ap : ∀ x ∈ Qs, ∀ g, cbX x = some g → v.ownBlock ≠ some g
  lk : ∀ i, i < k → LkX (pd Qs i) (pd Ps i)
theorem CLs.start (n0 : Nat) (w : World) (Ps : List Pr) (h : n0 ≤ w.heap.size) : CLs n0 w w (.slice none 0 0) Ps [] 0 := ⟨Below.refl _ _, h, rfl, OwnP.nil _ _, by simp, by simp, fun i hi => by omega⟩
theorem pd_app {A : List Pr} {x : Pr} {i : Nat} (h : i < A.length) : pd (A ++ [x]) i = pd A i := by
  simp [pd, List.getD_eq_getElem?_getD, List.getElem?_append_left h]
theorem pd_appE {A : List Pr} {x : Pr} : pd (A ++ [x]) A.length = x := by
  simp [pd, List.getD_eq_getElem?_getD]
/-- one more -/
theorem CLs.put {n0 : Nat} {w W U W' : World} {v v' : Value} {Ps Qs : List Pr} {k : Nat} {x : Pr} (h : CLs n0 w W v Ps Qs k) (hb : Below W.heap.size W U) (hx : PrX U W.heap.size x) (hlk : LkX x (pd Ps k))
    (ho : OwnP W' n0 v' (Qs ++ [x])) (hg : U.grownBy W' v.ownBlock) (hv : v'.ownBlock = v.ownBlock ∨ v'.ownBlock = some U.heap.size) : CLs n0 w W' v' Ps (Qs ++ [x]) (k + 1) := by
  have hz : n0 ≤ W.heap.size := Nat.le_trans h.le h.bel.size
  have hs : ∀ g, g < U.heap.size → v.ownBlock ≠ some g → W'.heap[g]? = U.heap[g]? := fun g hl hn => hg.block g hl (fun e => hn e.symm)
  have hso : ∀ g, g < W.heap.size → v.ownBlock ≠ some g → W'.heap[g]? = W.heap[g]? := fun g hl hn => (hs g (Nat.lt_of_lt_of_le hl hb.size) hn).trans (hb.block g hl)
  have hvl : ∀ g, v.ownBlock = some g → n0 ≤ g ∧ g < W.heap.size := h.own.lt
  have hvx : ∀ g, cbX x = some g → v.ownBlock ≠ some g := fun g hg' e => by have := (hx.lt g hg').1; have := (hvl g e).2; omega
  refine ⟨?_, h.le, by rw [List.length_append, h.len]; rfl, ho, ?_, ?_, ?_⟩
  · exact ⟨hg.os.trans (hb.os.trans h.bel.os), hg.tape.trans (hb.tape.trans h.bel.tape), hg.output.trans (hb.output.trans h.bel.output), Nat.le_trans h.bel.size (Nat.le_trans hb.size hg.size), fun b hbk => by
      rw [hso b (by omega) (fun e => by have := (hvl b e).1; omega)]; exact h.bel.block b hbk⟩
  · intro y hy
    rcases List.mem_append.1 hy with hy | hy
    · exact (h.ok y hy).same fun g hg' => hso g ((h.ok y hy).lt g hg').2 (h.ap y hy g hg')
    · simp at hy; subst hy
      have := hx.same (W' := W') fun g hg' => hs g (hx.lt g hg').2 (hvx g hg')
      exact ⟨this.len, this.own.mono hz, this.nin, this.kin, this.str, this.big⟩
  · intro y hy g hg' e
    rcases hv with hv | hv
    · rw [hv] at e
      rcases List.mem_append.1 hy with hy | hy
      · exact h.ap y hy g hg' e
      · simp at hy; subst hy; exact hvx g hg' e
    · rw [hv] at e; cases e
      rcases List.mem_append.1 hy with hy | hy
      · have := ((h.ok y hy).lt _ hg').2; have := hb.size; omega
      · simp at hy; subst hy; have := (hx.lt _ hg').2; omega
  · intro i hi
    by_cases e : i = k
    · subst e
      rw [show i = Qs.length from h.len.symm, pd_appE, h.len]; exact hlk
    · rw [pd_app (by rw [h.len]; omega)]; exact h.lk i (by omega)
theorem CLs.lib {n0 : Nat} {w W : World} {ao : Option Addr} {n cap : Nat} {Ps Qs : List Pr} {k : Nat} (h : CLs n0 w W (.slice ao n cap) Ps Qs k) : LibAt W ao Qs ∧ n = Qs.length ∧ n ≤ cap := by
  obtain ⟨ao', cap', e', hk, _, hc⟩ := h.own.slice
  simp only [Value.slice.injEq] at e'
  obtain ⟨e1, e2, e3⟩ := e'
  exact ⟨⟨by rw [e1]; exact hk, fun x hx => (h.ok x hx).ok⟩, e2, by rw [e2, e3]; exact hc⟩
/-- the box with the copy in it -/
theorem box5 (w1 : World) (B : Nat) (nm : ByteArray) (y1 y2 y3 y4 : Int) (u v' : Value) (h : w1.heap[B]? = some (.cells #[.string nm, .int .i64 y1, .int .i64 y2, .int .i64 y3, .int .i64 y4, u] 34 (0, 0))) :
    (w1.setCell ⟨B, 5, none⟩ v').heap[B]? = some (.cells #[.string nm, .int .i64 y1, .int .i64 y2, .int .i64 y3, .int .i64 y4, v'] 34 (0, 0)) := by
  have := heap_setCell_same w1 B 5 _ _ v' h
  rw [this]; rfl
theorem box6 (w1 : World) (B : Nat) (nm : ByteArray) (y1 y2 y3 y4 : Int) (u : Value) (h : w1.heap[B]? = some (.cells #[.string nm, .int .i64 y1, .int .i64 y2, .int .i64 y3, .int .i64 y4, u] 34 (0, 0))) :
    w1.cell? ⟨B, 0, none⟩ = some (.string nm) ∧ w1.cell? ⟨B, 1, none⟩ = some (.int .i64 y1) ∧ w1.cell? ⟨B, 2, none⟩ = some (.int .i64 y2) ∧ w1.cell? ⟨B, 3, none⟩ = some (.int .i64 y3) ∧ w1.cell? ⟨B, 4, none⟩ = some (.int .i64 y4) ∧ w1.cell? ⟨B, 5, none⟩ = some u ∧ w1.frozen? ⟨B, 5, none⟩ = false := by
  refine ⟨?_, ?_, ?_, ?_, ?_, ?_, frozen_of_row w1 B 5 _ _ h⟩ <;> simp [World.cell?, h]
set_option maxRecDepth 100000 in
set_option maxHeartbeats 2000000 in
theorem copyLib_any (w : World) (ao : Option Addr) (n cap : Nat) (Ps : List Pr) (h : LibAt w ao Ps) (hn : n = Ps.length) (hm : n ≤ 100000) :
    Calls Try.prog 11 #[.slice ao n cap] w fun e w' => ∃ v Qs, e = .returned v ∧ CLs w.heap.size w w' v Ps Qs n := by
  have H : Hid (LibAt w ao Ps) := h
  have HN : Hid (n = Ps.length) := hn
  clear h hn
  go_enter Try.func11, Try.ntmps11
  go_wp2_with fail
  go_loopw [3, 4] (fun x y wr => ∃ (k : Nat) (Qs : List Pr) (av : Option Addr) (cv : Nat), k ≤ n ∧ x = .slice av k cv ∧ y = .int .i64 (k : Int) ∧ Hid (CLs w.heap.size w wr (.slice av k cv) Ps Qs k)) (fun _ y _ => n - (intOf y).toNat)
  case atStart => exact ⟨0, [], none, 0, Nat.zero_le _, rfl, rfl, CLs.start _ _ _ (Nat.le_refl _)⟩
  case round =>
    obtain ⟨k, Qs, av, cv, hk, rfl, rfl, HC⟩ := hrel
    by_cases hlt : k < n
    · have hlt' : k < Ps.length := by have := HN.out; omega
      have hlti : (k : Int) < (n : Int) := by omega
      obtain ⟨b, off, rfl, c0, c1, c2, c3, c4, c5⟩ := (H.out.at_.kept HC.out.bel).get k hlt'
      have HO : Hid (PrOK wr (pd Ps k)) := (H.out.ok _ (pd_mem hlt')).kept HC.out.bel
      obtain ⟨xx, hxx⟩ : ∃ xx, xx = pd Ps k := ⟨_, rfl⟩
      rw [← hxx] at HO c0 c1 c2 c3 c4 c5
      have HXX : Hid (xx = pd Ps k) := hxx
      clear hxx
      obtain ⟨nm, ⟨y1, y2, y3, y4⟩, xa, xn, xc, xL⟩ := xx
      simp only at c0 c1 c2 c3 c4 c5
      have HA : Hid (∀ W, Below wr.heap.size wr W → W.cell? ⟨b, off + k * 6 + 5, none⟩ = some (.slice xa xn xc)) := fun W hW => (hW.cell (p := ⟨b, off + k * 6 + 5, none⟩) (cell_lt c5)).trans c5
      obtain ⟨B, hB⟩ : ∃ B, B = wr.heap.size := ⟨_, rfl⟩
      obtain ⟨W1, hW1⟩ : ∃ W1, W1 = wr.alloc (.cells #[.string nm, .int .i64 y1, .int .i64 y2, .int .i64 y3, .int .i64 y4, .slice xa xn xc] 34) := ⟨_, rfl⟩
      have HW1 : Hid (Below wr.heap.size wr W1 ∧ W1.heap[B]? = some (.cells #[.string nm, .int .i64 y1, .int .i64 y2, .int .i64 y3, .int .i64 y4, .slice xa xn xc] 34 (0, 0)) ∧ W1.heap.size = B + 1 ∧ B = wr.heap.size) := by
        rw [hW1]
        exact ⟨(Below.refl _ _).alloc (Nat.le_refl _) _, heap_alloc_new _ _ hB, by simp [hB], hB⟩
      go_upto_region 7 with fail
      rw [← hW1, ← hB]
      clear hW1 hB c0 c1 c2 c3 c4 c5
      have c5 := HA.out W1 HW1.out.1
      have HL1 : Hid ((([] : List K).length + xL.length) * 16 ≤ 140737488355328) := by have h1 := HO.out.big; have h2 := HO.out.len; simp only at h1 h2; show _ ≤ _; simp; omega
      have HK1 : Hid (KeysAt W1 xa xL) := HO.out.ks.kept HW1.out.1
      have HS1 : Hid (B + 1 ≤ W1.heap.size) := by rw [HW1.out.2.2.1]; exact Nat.le_refl _
      have HBe : Hid (B = wr.heap.size) := HW1.out.2.2.2
      have HF1 : Hid (∀ v1 w1, OwnK w1 (B + 1) v1 ([] ++ xL) → W1.grownBy w1 (Value.slice none 0 0).ownBlock → ∃ a1 q1, v1 = .slice a1 xn q1 ∧ Below wr.heap.size wr w1 ∧ w1.heap[B]? = some (.cells #[.string nm, .int .i64 y1, .int .i64 y2, .int .i64 y3, .int .i64 y4, .slice xa xn xc] 34 (0, 0)) ∧ PrX w1 (B + 1) ⟨nm, ⟨y1, y2, y3, y4⟩, a1, xn, q1, xL⟩) := fun v1 w1 ho1 hg1 => by
        rw [List.nil_append] at ho1
        obtain ⟨a1, q1, rfl, hk1, hn1, hc1⟩ := ho1.slice
        rw [show xL.length = xn from HO.out.len.symm] at ho1 ⊢
        have hb1 : Below W1.heap.size W1 w1 := grown_belowK hg1 (fun k hk => by cases hk) (Nat.le_refl _)
        exact ⟨a1, q1, rfl, HW1.out.1.trans (hb1.mono HW1.out.1.size), (hb1.block B (by rw [HW1.out.2.2.1]; omega)).trans HW1.out.2.1, HO.out.len, ho1, HO.out.nin, HO.out.kin, HO.out.str, HO.out.big⟩
      have HF2 : Hid (∀ (w1 : World) (a1 : Option Addr) (q1 : Nat), Below wr.heap.size wr w1 → PrX w1 (B + 1) ⟨nm, ⟨y1, y2, y3, y4⟩, a1, xn, q1, xL⟩ → Below wr.heap.size wr ((w1.setCell ⟨B, 5, none⟩ (.slice a1 xn q1)).alloc (.cells #[.string nm, .int .i64 y1, .int .i64 y2, .int .i64 y3, .int .i64 y4, .slice a1 xn q1] 34)) ∧ PrX ((w1.setCell ⟨B, 5, none⟩ (.slice a1 xn q1)).alloc (.cells #[.string nm, .int .i64 y1, .int .i64 y2, .int .i64 y3, .int .i64 y4, .slice a1 xn q1] 34)) wr.heap.size ⟨nm, ⟨y1, y2, y3, y4⟩, a1, xn, q1, xL⟩) := fun w1 a1 q1 hb hx => by
        have hb2 : Below wr.heap.size wr (w1.setCell ⟨B, 5, none⟩ (.slice a1 xn q1)) := below_set hb _ _ (by have := HBe.out; simp only; omega)
        have hx2 : PrX (w1.setCell ⟨B, 5, none⟩ (.slice a1 xn q1)) (B + 1) ⟨nm, ⟨y1, y2, y3, y4⟩, a1, xn, q1, xL⟩ := hx.same fun g hg => heap_setCell_other w1 ⟨B, 5, none⟩ g _ (fun e => by have := (hx.lt g hg).1; simp only at e; omega)
        have := hx2.same (W' := (w1.setCell ⟨B, 5, none⟩ (.slice a1 xn q1)).alloc (.cells #[.string nm, .int .i64 y1, .int .i64 y2, .int .i64 y3, .int .i64 y4, .slice a1 xn q1] 34)) fun g hg => heap_alloc_old _ _ (hx2.lt g hg).2
        exact ⟨hb2.alloc hb2.size _, this.len, this.own.mono (by have := HBe.out; omega), this.nin, this.kin, this.str, this.big⟩
      have HLn : Hid ((Qs.length + [(⟨nm, ⟨y1, y2, y3, y4⟩, xa, xn, xc, xL⟩ : Pr)].length) * 72 ≤ 140737488355328) := by have := HC.out.len; show _ ≤ _; simp; omega
      have HNl : Hid (xn = xL.length ∧ (xa = none → xc = 0)) := ⟨HO.out.len, HO.out.nil⟩
      clear HW1 HA HO
      go_wp2_with (first
        | (at_builtin; refine wpList_append_keys rfl _ _ rfl (B + 1) (.slice none 0 0) [] rfl (OwnK.nil _ _) xa xn xc xL rfl HNl.out.1 HK1.out HNl.out.2 HL1.out HS1.out ?_; intro v1 w1 ho1 hg1 hv1; clear hv1; obtain ⟨a1, q1, hv1, hbw, hbx, hx1⟩ := HF1.out v1 w1 ho1 hg1; clear ho1 hg1; subst hv1; obtain ⟨d0, d1, d2, d3, d4, d5, f5⟩ := box6 w1 B nm y1 y2 y3 y4 _ hbx; have HU := hidX (HF2.out w1 a1 q1 hbw hx1); clear hbw hbx hx1)
        | (at_builtin; refine wpList_append_procs rfl _ _ rfl w.heap.size (.slice av k cv) Qs rfl (HC.out.own.kept HU.out.1) _ 1 1 [⟨nm, ⟨y1, y2, y3, y4⟩, a1, xn, q1, xL⟩] rfl rfl (proc_src (w1.setCell ⟨B, 5, none⟩ (.slice a1 xn q1)) _ ⟨nm, ⟨y1, y2, y3, y4⟩, a1, xn, q1, xL⟩ (by simp)) HLn.out (Nat.le_trans HC.out.bel.size HU.out.1.size) ?_; intro v2 w2 ho2 hg2 hv2))
      have hp := HC.out.put HU.out.1 (x := ⟨nm, ⟨y1, y2, y3, y4⟩, a1, xn, q1, xL⟩) HU.out.2 (by rw [← HXX.out]; exact ⟨rfl, rfl, rfl, rfl⟩) ho2 hg2 hv2
      obtain ⟨a2, q2, rfl, _, _, _⟩ := ho2.slice
      have hl2 : (Qs ++ [(⟨nm, ⟨y1, y2, y3, y4⟩, a1, xn, q1, xL⟩ : Pr)]).length = k + 1 := by rw [List.length_append, HC.out.len]; rfl
      rw [hl2] at hp ⊢
      have HP : Hid (CLs w.heap.size w w2 (.slice a2 (k + 1) q2) Ps _ (k + 1)) := hp
      clear hp ho2 hg2 hv2 hl2 HU HC HBe HXX
      go_wp2
      go_roundw
      case rel => exact ⟨k + 1, _, a2, q2, by omega, rfl, by go_num, HP⟩
      case measure => simp [intOf]; omega
    · obtain rfl : k = n := by omega
      go_wp2
      go_ret
      exact ⟨_, Qs, rfl, HC.out⟩
end Go.Proofs.Ytkpggbjibngplaa
