import Derived.Test.YtiiplikmoodfnaaGreatDoorKALSame
/-
  THE WALK OF apart (layer 4).
-/
namespace Go.Proofs.YtiiplikmoodfnaaGreatDoor
open Go.RowKit Go.Sort

theorem FrX.below {base T : Nat} {a b : World} (h : FrX base T a b) : Go.RowKit.Below base a b := ⟨h.os, h.tape, h.output, h.size, h.low⟩
abbrev mkI (i : Nat) : Value := .int .i64 (-100 - (i : Int))
abbrev mkP (i : Nat) : Value := .int .i64 (-5 - (i : Int))
theorem two_at {x y : Value} {f : Nat → Value} (hx : x = f 0) (hy : y = f 1) {i : Nat} (hi : i < 2) : (#[x, y] : Array Value)[i]? = some (f i) := by
  rcases (show i = 0 ∨ i = 1 by omega) with rfl | rfl
  · rw [hx]; rfl
  · rw [hy]; rfl
theorem lib_cell {W : World} {lb i : Nat} {lv : Nat → Value} (h : W.heap[lb]? = some (.cells #[lv 0, lv 1] 22 (0, 0))) (hi : i < 2) : W.cell? ⟨lb, i, none⟩ = some (lv i) := by
  unfold World.cell?
  rw [h]
  exact two_at rfl rfl hi
theorem own_row1 {W : World} {base T n c g i : Nat} {f : Nat → Value} (h : W.ownsRow base T 1 (.slice (some ⟨g, 0, none⟩) n c) n ((List.range n).map f)) (hi : i < n) : W.cell? ⟨g, i, none⟩ = some (f i) := by
  rw [World.ownsRow.cellAt h i (by omega)]
  simp [hi]
/-- one element more in the row of rows -/
theorem row_app {W : World} {base k : Nat} {v : Value} {f : Nat → Value} (h : W.ownsRow base 40 1 v k ((List.range k).map f)) (hb : base ≤ W.heap.size) (hk : k ≤ 1000000) (ho : (f k).oneCell' = true) (ty : TypeId) :
    ∃ v' w', (Builtin.append_ #[74, 74] ty #[v, .slice (some ⟨W.heap.size, 0, none⟩) 1 1]).run Tryz.prog (W.alloc (.cells #[f k] 40)) = .ok v' w' ∧ (∃ o c, v' = .slice o (k + 1) c) ∧ w'.ownsRow base 40 1 v' (k + 1) ((List.range (k + 1)).map f) ∧ FrX base 40 W w' := by
  have hal : Go.RowKit.Below W.heap.size W (W.alloc (.cells #[f k] 40)) := bel_al _ _
  have hb' : base ≤ (W.alloc (.cells #[f k] 40)).heap.size := Nat.le_trans hb hal.size
  have h' : (W.alloc (.cells #[f k] 40)).ownsRow base 40 1 v k ((List.range k).map f) := World.ownsRow.alloc h _
  obtain ⟨v', w', hr, h2, hc⟩ := appC elRo ty base v k _ h' ⟨W.heap.size, 0, none⟩ 1 1 [f k] rfl new_src (by simpa using ho) (by omega) hb'
  obtain ⟨o9, c9, hv9, _⟩ := own_slice h2
  refine ⟨v', w', hr, ⟨o9, c9, hv9⟩, ?_, (FrX.bel hal hb).trans ?_⟩
  · rw [List.range_succ, List.map_append]; exact h2
  · rcases hc with ⟨g, cap, rfl, rfl, hgr⟩ | ⟨_, hgr⟩
    · exact FrX.grown hgr hb' (fun q e => by cases e; exact ⟨(World.ownsRow.lt h' g rfl).1, own_blk h' rfl⟩)
    · exact FrX.grown hgr hb' (fun q e => by cases e)
section
variable {W : World} {base T sz N : Nat} {cv : Nat → Value} {ln : Nat → Nat} {Z : Nat → List Value}
theorem SHX.sl (h : SHX W base T sz N cv ln Z) {i : Nat} (hi : i < N) : ∃ o c, cv i = .slice o (ln i) c ∧ (0 < ln i → ∃ g, o = some ⟨g, 0, none⟩) := by
  obtain ⟨o, c, e, _⟩ := own_slice (h.row i hi)
  refine ⟨o, c, e, fun hp => ?_⟩
  obtain ⟨g, c', e2, _⟩ := own_some (h.row i hi) hp
  rw [e] at e2
  cases e2
  exact ⟨g, rfl⟩
theorem SHX.cellAt (h : SHX W base T sz N cv ln Z) {i g c j : Nat} (hi : i < N) (e : cv i = .slice (some ⟨g, 0, none⟩) (ln i) c) (hj : j < ln i * sz) : W.cell? ⟨g, j, none⟩ = (Z i)[j]? ∧ W.frozen? ⟨g, j, none⟩ = false := by
  have h9 := h.row i hi
  rw [e] at h9
  exact ⟨World.ownsRow.cellAt h9 j hj, World.ownsRow.frozenAt h9 j⟩
/-- one element of two cells is written over -/
theorem SHX.set2 {i g c k : Nat} {x y : Value} (h : SHX W base T sz N cv ln (updA Z i (fil2 x y k (Z i)))) (hi : i < N) (e : cv i = .slice (some ⟨g, 0, none⟩) (ln i) c) (hb : base ≤ W.heap.size) : SHX ((W.setCell ⟨g, k * 2, none⟩ x).setCell ⟨g, k * 2 + 1, none⟩ y) base T sz N cv ln (updA Z i (fil2 x y (k + 1) (Z i))) ∧ FrX base T W ((W.setCell ⟨g, k * 2, none⟩ x).setCell ⟨g, k * 2 + 1, none⟩ y) := by
  have h9 := h.row i hi
  rw [e] at h9
  have e0 : updA Z i (fil2 x y k (Z i)) i = fil2 x y k (Z i) := by simp [updA]
  rw [e0] at h9
  obtain ⟨q1, q2⟩ := World.ownsRow.stored h9 (k * 2) x
  obtain ⟨q3, q4⟩ := World.ownsRow.stored q1 (k * 2 + 1) y
  have hg : W.grownBy ((W.setCell ⟨g, k * 2, none⟩ x).setCell ⟨g, k * 2 + 1, none⟩ y) (cv i).ownBlock := by
    rw [e]
    exact ⟨q4.os.trans q2.os, q4.tape.trans q2.tape, q4.output.trans q2.output, Nat.le_trans q2.size q4.size, fun j hj hne => (q4.block j (Nat.lt_of_lt_of_le hj q2.size) hne).trans (q2.block j hj hne)⟩
  have h8 := h.put (Y := fil2 x y (k + 1) (Z i)) hi (by rw [e]; exact q3) hg
  refine ⟨h8.congr (fun j hj => ?_), FrX.grown hg hb (fun q eq => ⟨(World.ownsRow.lt (h.row i hi) q eq).1, own_blk (h.row i hi) eq⟩)⟩
  unfold updA
  split
  · rfl
  · rfl
/-- one procedure is written over -/
theorem SHX.set6 {i g c k : Nat} {x : Value} (h : SHX W base T sz N cv ln (updA Z i (fil6 x k (Z i)))) (hi : i < N) (e : cv i = .slice (some ⟨g, 0, none⟩) (ln i) c) (hb : base ≤ W.heap.size) :
    SHX ((((((W.setCell ⟨g, k * 6, none⟩ (.string ⟨#[]⟩)).setCell ⟨g, k * 6 + 1, none⟩ x).setCell ⟨g, k * 6 + 2, none⟩ (.int .i64 0)).setCell ⟨g, k * 6 + 3, none⟩ (.int .i64 0)).setCell ⟨g, k * 6 + 4, none⟩ (.int .i64 0)).setCell ⟨g, k * 6 + 5, none⟩ (.slice none 0 0)) base T sz N cv ln (updA Z i (fil6 x (k + 1) (Z i))) ∧
    FrX base T W ((((((W.setCell ⟨g, k * 6, none⟩ (.string ⟨#[]⟩)).setCell ⟨g, k * 6 + 1, none⟩ x).setCell ⟨g, k * 6 + 2, none⟩ (.int .i64 0)).setCell ⟨g, k * 6 + 3, none⟩ (.int .i64 0)).setCell ⟨g, k * 6 + 4, none⟩ (.int .i64 0)).setCell ⟨g, k * 6 + 5, none⟩ (.slice none 0 0)) := by
  have h9 := h.row i hi
  rw [e] at h9
  have e0 : updA Z i (fil6 x k (Z i)) i = fil6 x k (Z i) := by simp [updA]
  rw [e0] at h9
  have tr : ∀ {a b c : World} {row : Option Nat}, a.grownBy b row → b.grownBy c row → a.grownBy c row := fun q2 q4 => ⟨q4.os.trans q2.os, q4.tape.trans q2.tape, q4.output.trans q2.output, Nat.le_trans q2.size q4.size, fun j hj hne => (q4.block j (Nat.lt_of_lt_of_le hj q2.size) hne).trans (q2.block j hj hne)⟩
  obtain ⟨q1, r1⟩ := World.ownsRow.stored h9 (k * 6) (.string ⟨#[]⟩)
  obtain ⟨q2, r2⟩ := World.ownsRow.stored q1 (k * 6 + 1) x
  obtain ⟨q3, r3⟩ := World.ownsRow.stored q2 (k * 6 + 2) (.int .i64 0)
  obtain ⟨q4, r4⟩ := World.ownsRow.stored q3 (k * 6 + 3) (.int .i64 0)
  obtain ⟨q5, r5⟩ := World.ownsRow.stored q4 (k * 6 + 4) (.int .i64 0)
  obtain ⟨q6, r6⟩ := World.ownsRow.stored q5 (k * 6 + 5) (.slice none 0 0)
  have hg := tr (tr (tr (tr (tr r1 r2) r3) r4) r5) r6
  have h8 := h.put (Y := fil6 x (k + 1) (Z i)) hi (by rw [e]; exact q6) (by rw [e]; exact hg)
  refine ⟨h8.congr (fun j hj => ?_), FrX.grown hg hb (fun q eq => ⟨(World.ownsRow.lt h9 q eq).1, own_blk h9 eq⟩)⟩
  unfold updA
  split
  · rfl
  · rfl
end
/-- the first i of them are others -/
def zlt (G Z : Nat → List Value) (i : Nat) : Nat → List Value := fun j => if j < i then G j else Z j
theorem zlt_self (G Z : Nat → List Value) (i : Nat) : zlt G Z i i = Z i := by simp [zlt]
theorem zlt_upd (G Z : Nat → List Value) (i j : Nat) : zlt G Z i j = updA (zlt G Z i) i (Z i) j := by
  by_cases e : j = i
  · subst e; simp [zlt, updA]
  · simp [updA, e]
theorem zlt_next (G Z : Nat → List Value) (i j : Nat) : updA (zlt G Z i) i (G i) j = zlt G Z (i + 1) j := by
  by_cases e : j = i
  · subst e; simp [zlt, updA]
  · simp only [updA, e, if_false, zlt]
    by_cases h9 : j < i
    · rw [if_pos h9, if_pos (by omega)]
    · rw [if_neg h9, if_neg (by omega)]
theorem zlt_zero (G Z : Nat → List Value) (j : Nat) : Z j = zlt G Z 0 j := by simp [zlt]
theorem zlt_full (G Z : Nat → List Value) {N j : Nat} (h : j < N) : zlt G Z N j = G j := by simp [zlt, h]
/-- the code, written over -/
abbrev cG (lns : Nat → Nat) (Z : Nat → List Value) : Nat → List Value := fun j => fil2 (mkI j) (.int .i64 0) (lns j) (Z j)
/-- the procedures, written over -/
abbrev pG (ll : Nat → Nat) (Y : Nat → List Value) : Nat → List Value := fun j => fil6 (mkP j) (ll j) (Y j)
set_option maxRecDepth 100000 in
set_option maxHeartbeats 8000000 in
theorem apartA_any (w : World) (base lb N : Nat) (lv : Nat → Value) (ll : Nat → Nat) (Y : Nat → List Value) (cvs : Nat → Value) (lns : Nat → Nat) (Z : Nat → List Value) (cnt : Nat → Nat) (hb : base ≤ w.heap.size) (hL : w.heap[lb]? = some (.cells #[lv 0, lv 1] 22 (0, 0)))
    (hP : SHX w base 72 6 2 lv ll Y) (hC : SHX w base 76 2 N cvs lns Z) (hc0 : cnt 0 = 0) (hc1 : ∀ i, i < 2 → cnt (i + 1) = cnt i + ll i) (hc2 : cnt 2 = N) (hcode : ∀ i k, i < 2 → k < ll i → (Y i)[k * 6 + 5]? = some (cvs (cnt i + k))) (hll : ∀ i, i < 2 → ll i ≤ 65537) (hln : ∀ i, i < N → lns i ≤ 65537) (hN : N ≤ 1000000) :
    Calls Tryz.prog 8 #[.slice (some ⟨lb, 0, none⟩) 2 2] w fun e w' => e = .returned (.bool true) ∧ Go.RowKit.Below base w w' := by
  have HB := hidA hb
  have HL := hidA hL
  have HP := hidA hP
  have HC := hidA hC
  have HC0 := hidA hc0
  have HC1 := hidA hc1
  have HC2 := hidA hc2
  have HCd := hidA hcode
  have HLl := hidA hll
  have HLn := hidA hln
  have HR0 : Hid (w.ownsRow base 40 1 (.slice none 0 0) (cnt 0) ((List.range (cnt 0)).map cvs)) := by rw [Hid, hc0]; exact World.ownsRow_nil _ _ _ _
  have HF0 : Hid (FrX base 40 w w) := FrX.refl _ _ _
  have hv0 : Value.slice none 0 0 = .slice none (cnt 0) 0 := by rw [hc0]
  have HV0 := hidA hv0
  clear hb hL hP hC hc0 hc1 hc2 hcode hll hln hv0
  go_enter Tryz.func8, Tryz.ntmps8
  go_wp2_with fail
  go_loopw [3, 4, 5] (fun v x _ wr => ∃ (i : Nat) (a : Option Addr) (c : Nat), i ≤ 2 ∧ v = .slice a (cnt i) c ∧ x = .int .i64 (i : Int) ∧ Hid (wr.ownsRow base 40 1 (.slice a (cnt i) c) (cnt i) ((List.range (cnt i)).map cvs)) ∧ Hid (FrX base 40 w wr)) (fun _ x _ _ => 2 - (intOf x).toNat)
  case atStart => exact ⟨0, none, 0, by omega, HV0.out, rfl, by rw [← HV0.out]; exact HR0, HF0⟩
  case round =>
    clear HR0 HF0 HV0
    obtain ⟨i, la, lc, hi, rfl, rfl, HR, HF⟩ := hrel
    by_cases hlt : i < 2
    · have HPr := hidA (HP.out.frx HF.out (by decide))
      obtain ⟨po, pc, hpv, hpg⟩ := HPr.out.sl hlt
      have hlc : wr.cell? ⟨lb, i, none⟩ = some (.slice po (ll i) pc) := by rw [← hpv]; exact lib_cell ((HF.out.oth lb _ _ HL.out (by decide)).trans HL.out) hlt
      obtain ⟨pn, hpn⟩ : ∃ pn, pn = ll i := ⟨_, rfl⟩
      have hpl : pn ≤ 65537 := by rw [hpn]; exact HLl.out i hlt
      have HPn := hidA hpn
      have HPv := hidA hpv
      have HPg := hidA hpg
      rw [← hpn] at hlc
      obtain ⟨c9, hc9⟩ : ∃ c9, c9 = cnt i := ⟨_, rfl⟩
      have HC9 := hidA hc9
      rw [← hc9] at HR ⊢
      have HR0 : Hid (wr.ownsRow base 40 1 (.slice la c9 lc) (c9 + 0) ((List.range (c9 + 0)).map cvs)) := HR
      have hdI : decide ((i : Int) < 2) = true := by simp; omega
      clear hpn hpv hpg hc9
      go_wp2_with fail
      go_loopw [3, 5] (fun v y wq => ∃ (k : Nat) (a : Option Addr) (c : Nat), k ≤ pn ∧ v = .slice a (c9 + k) c ∧ y = .int .i64 (k : Int) ∧ Hid (wq.ownsRow base 40 1 (.slice a (c9 + k) c) (c9 + k) ((List.range (c9 + k)).map cvs)) ∧ Hid (FrX base 40 w wq) ∧ wq.cell? ⟨lb, i, none⟩ = some (.slice po pn pc)) (fun _ y _ => pn - (intOf y).toNat)
      case atStart => exact ⟨0, la, lc, by omega, rfl, rfl, HR0, HF, hlc⟩
      case round =>
        clear HR0 HR HF hlc HPr
        obtain ⟨k, ka, kc, hk, rfl, rfl, HR, HF, hlc⟩ := hrel
        by_cases hkl : k < pn
        · obtain ⟨pg, rfl⟩ := HPg.out (by rw [← HPn.out]; omega)
          have hcn : c9 + k < N := by
            have h1 := HC1.out i hlt
            have h2 := HC2.out
            have h3 := HPn.out
            have h4 := HC9.out
            rcases (show i = 0 ∨ i = 1 by omega) with rfl | rfl
            · have h5 := HC1.out 1 (by omega)
              simp only [Nat.zero_add, Nat.reduceAdd] at h1 h5
              omega
            · simp only [Nat.reduceAdd] at h1
              omega
          have HPq := hidA (HP.out.frx HF.out (by decide))
          have hcl : wr.cell? ⟨pg, k * 6 + 5, none⟩ = some (cvs (c9 + k)) := by
            rw [(HPq.out.cellAt (j := k * 6 + 5) hlt HPv.out (by rw [← HPn.out]; omega)).1, HCd.out i k hlt (by rw [← HPn.out]; exact hkl), HC9.out]
          obtain ⟨co, cc, hcv, _⟩ := HC.out.sl hcn
          have HAp : Hid (∀ ty, ∃ v' w', (Builtin.append_ #[74, 74] ty #[.slice ka (c9 + k) kc, .slice (some ⟨wr.heap.size, 0, none⟩) 1 1]).run Tryz.prog (wr.alloc (.cells #[.slice co (lns (c9 + k)) cc] 40)) = .ok v' w' ∧ (∃ o c, v' = .slice o (c9 + k + 1) c) ∧ w'.cell? ⟨lb, i, none⟩ = some (.slice (some ⟨pg, 0, none⟩) pn pc) ∧ Hid (w'.ownsRow base 40 1 v' (c9 + k + 1) ((List.range (c9 + k + 1)).map cvs) ∧ FrX base 40 w w')) := fun ty => by
            obtain ⟨v', w', q1, q2, q3, q4⟩ := row_app HR.out (Nat.le_trans HB.out HF.out.size) (by omega) (by rw [hcv]; rfl) ty
            rw [hcv] at q1
            have f2 := HF.out.trans q4
            refine ⟨v', w', q1, q2, ?_, q3, f2⟩
            rw [lib_cell ((f2.oth lb _ _ HL.out (by decide)).trans HL.out) hlt, HPv.out, HPn.out]
          rw [hcv] at hcl
          generalize lns (c9 + k) = cn at *
          clear hcv HPq HR HF
          go_wp2_with (at_builtin; refine wpL_appR rfl _ _ 74 rfl (.slice ka (c9 + k) kc) (.slice (some ⟨wr.heap.size, 0, none⟩) 1 1) rfl rfl HAp.out ?_; rintro v2 w2 ⟨⟨o2, c2, rfl⟩, hlc2, HP2⟩)
          go_roundw
          case rel => exact ⟨k + 1, o2, c2, by omega, rfl, by go_num, HP2.out.1, HP2.out.2, hlc2⟩
          case measure => simp [intOf]; omega
        · obtain rfl : k = pn := by omega
          have e9 : c9 + k = cnt (i + 1) := by rw [HC1.out i hlt, HC9.out, HPn.out]
          have HR2 : Hid (wr.ownsRow base 40 1 (.slice ka (cnt (i + 1)) kc) (cnt (i + 1)) ((List.range (cnt (i + 1))).map cvs)) := by rw [← e9]; exact HR
          rw [e9]
          clear HR e9
          go_wp2_with fail
          go_roundw
          case rel => exact ⟨i + 1, ka, kc, by omega, rfl, by go_num, HR2, HF⟩
          case measure => simp [intOf]; omega
    · obtain rfl : i = 2 := by omega
      rw [show ((2 : Nat) : Int) = 2 from rfl]
      have HRn : Hid (wr.ownsRow base 40 1 (.slice la N lc) N ((List.range N).map cvs)) := by have := HR; rw [HC2.out] at this; exact this
      rw [HC2.out]
      have HP1 := hidA (HP.out.frx HF.out (by decide))
      have HCx := hidA (HC.out.frx HF.out (by decide))
      have HL1 : Hid (wr.heap[lb]? = some (.cells #[lv 0, lv 1] 22 (0, 0))) := (HF.out.oth lb _ _ HL.out (by decide)).trans HL.out
      have HB1 : Hid (Go.RowKit.Below base w wr ∧ base ≤ wr.heap.size) := ⟨HF.out.below, Nat.le_trans HB.out HF.out.size⟩
      clear HR HF HP HC HL HB HCd HC0 HC1 HC2 hlt
      obtain ⟨w1, hw1⟩ : ∃ w1, w1 = wr := ⟨_, rfl⟩
      rw [← hw1] at HP1 HCx HL1 HB1 HRn
      have HZ0 : Hid (SHX wr base 76 2 N cvs lns (zlt (cG lns Z) Z 0)) := by rw [Hid, ← hw1]; exact HCx.out.congr (fun j hj => zlt_zero _ _ j)
      have HF0 : Hid (FrX base 76 w1 wr) := by rw [Hid, hw1]; exact FrX.refl _ _ _
      clear hw1
      go_wp2_with fail
      go_loopw [6, 7] (fun x _ wr => ∃ (i : Nat), i ≤ N ∧ x = .int .i64 (i : Int) ∧ Hid (SHX wr base 76 2 N cvs lns (zlt (cG lns Z) Z i)) ∧ Hid (FrX base 76 w1 wr)) (fun x _ _ => N - (intOf x).toNat)
      case atStart => exact ⟨0, by omega, rfl, HZ0, HF0⟩
      case round =>
        clear HZ0 HF0
        obtain ⟨i, hi, rfl, HS, HF⟩ := hrel
        by_cases hlt : i < N
        · have HRq := hidA (HF.out.row HRn.out (by decide))
          obtain ⟨lg, rfl⟩ : ∃ lg, la = some ⟨lg, 0, none⟩ := by
            obtain ⟨g', c', e1, _⟩ := own_some HRq.out (by omega)
            cases e1
            exact ⟨g', rfl⟩
          obtain ⟨co, cc, hcv, hcg⟩ := HS.out.sl hlt
          obtain ⟨cn, hcn⟩ : ∃ cn, cn = lns i := ⟨_, rfl⟩
          have hcl : wr.cell? ⟨lg, i, none⟩ = some (.slice co cn cc) := by rw [hcn, ← hcv]; exact own_row1 HRq.out hlt
          have hcb : cn ≤ 65537 := by rw [hcn]; exact HLn.out i hlt
          have HCn := hidA hcn
          have HCv := hidA hcv
          have HCg := hidA hcg
          have hdI : decide ((i : Int) < (N : Int)) = true := by simp; omega
          have HI0 : Hid (SHX wr base 76 2 N cvs lns (updA (zlt (cG lns Z) Z i) i (fil2 (mkI i) (.int .i64 0) 0 (Z i)))) := HS.out.congr (fun j hj => zlt_upd _ _ i j)
          clear hcn hcv hcg HRq HS
          go_wp2_with fail
          go_loopw [7] (fun y wq => ∃ (k : Nat), k ≤ cn ∧ y = .int .i64 (k : Int) ∧ Hid (SHX wq base 76 2 N cvs lns (updA (zlt (cG lns Z) Z i) i (fil2 (mkI i) (.int .i64 0) k (Z i)))) ∧ Hid (FrX base 76 w1 wq) ∧ wq.cell? ⟨lg, i, none⟩ = some (.slice co cn cc)) (fun y _ => cn - (intOf y).toNat)
          case atStart => exact ⟨0, by omega, rfl, HI0, HF, hcl⟩
          case round =>
            clear HI0 HF hcl
            obtain ⟨k, hk, rfl, HS, HF, hcl⟩ := hrel
            by_cases hkl : k < cn
            · obtain ⟨cg, rfl⟩ := HCg.out (by rw [← HCn.out]; omega)
              have hkn : k < lns i := by rw [← HCn.out]; exact hkl
              have hz : ∀ j, j < lns i * 2 → ∃ u, wr.cell? ⟨cg, j, none⟩ = some u ∧ wr.frozen? ⟨cg, j, none⟩ = false := fun j hj => by
                obtain ⟨q1, q2⟩ := HS.out.cellAt hlt HCv.out hj
                have h9 := (HS.out.row i hlt).1
                exact ⟨_, by rw [q1, List.getElem?_eq_getElem (by rw [h9]; exact hj)], q2⟩
              obtain ⟨u0, a0, g0⟩ := hz (k * 2) (by omega)
              obtain ⟨u1, a1, g1⟩ := hz (k * 2 + 1) (by omega)
              have hS2 := SHX.set2 (Z := zlt (cG lns Z) Z i) (i := i) (k := k) (x := mkI i) (y := .int .i64 0) (by rw [zlt_self]; exact HS.out) hlt HCv.out (Nat.le_trans HB1.out.2 HF.out.size)
              rw [zlt_self] at hS2
              have HS2 := hidA hS2.1
              have HF2 := hidA (HF.out.trans hS2.2)
              have hcl2 : ((wr.setCell ⟨cg, k * 2, none⟩ (mkI i)).setCell ⟨cg, k * 2 + 1, none⟩ (.int .i64 0)).cell? ⟨lg, i, none⟩ = some (.slice (some ⟨cg, 0, none⟩) cn cc) := by
                rw [own_row1 (HF2.out.row HRn.out (by decide)) hlt, HCv.out, HCn.out]
              have hki : ¬ ((cn : Int) ≤ (k : Int)) := by omega
              clear hz hS2 HS HF hkn
              go_wp2_with fail
              go_roundw
              case rel => exact ⟨k + 1, by omega, by go_num, HS2, HF2, hcl2⟩
              case measure => simp [intOf]; omega
            · obtain rfl : k = cn := by omega
              have HS2 : Hid (SHX wr base 76 2 N cvs lns (zlt (cG lns Z) Z (i + 1))) := HS.out.congr (fun j hj => by rw [HCn.out]; exact zlt_next (cG lns Z) Z i j)
              clear HS
              go_wp2_with fail
              go_roundw
              case rel => exact ⟨i + 1, by omega, by go_num, HS2, HF⟩
              case measure => simp [intOf]; omega
        · obtain rfl : N = i := by omega
          have HZ1 : Hid (SHX wr base 76 2 N cvs lns (cG lns Z)) := HS.out.congr (fun j hj => zlt_full _ _ hj)
          have HR2 := hidA (HF.out.row HRn.out (by decide))
          have HP2 := hidA (HP1.out.frx HF.out (by decide))
          have HL2 : Hid (wr.heap[lb]? = some (.cells #[lv 0, lv 1] 22 (0, 0))) := (HF.out.oth lb _ _ HL1.out (by decide)).trans HL1.out
          have HB2 : Hid (Go.RowKit.Below base w wr ∧ base ≤ wr.heap.size) := ⟨HB1.out.1.trans HF.out.below, Nat.le_trans HB1.out.2 HF.out.size⟩
          clear HS HF HRn HP1 HL1 HB1 HCx hlt
          obtain ⟨w2, hw2⟩ : ∃ w2, w2 = wr := ⟨_, rfl⟩
          have HF0 : Hid (FrX base 76 w2 wr) := by rw [Hid, hw2]; exact FrX.refl _ _ _
          rw [← hw2] at HR2 HP2 HL2 HB2
          clear hw2
          go_wp2_with fail
          go_loopw [8, 9, 10, 11, 12] (fun x _ _ _ _ wr => ∃ (i : Nat), i ≤ N ∧ x = .int .i64 (i : Int) ∧ Hid (SHX wr base 76 2 N cvs lns (cG lns Z)) ∧ Hid (FrX base 76 w2 wr)) (fun x _ _ _ _ _ => N - (intOf x).toNat)
          case atStart => exact ⟨0, by omega, rfl, HZ1, HF0⟩
          case round =>
            clear HZ1 HF0
            obtain ⟨i, hi, rfl, HS, HF⟩ := hrel
            by_cases hlt : i < N
            · have HRq := hidA (HF.out.row HR2.out (by decide))
              obtain ⟨lg, rfl⟩ : ∃ lg, la = some ⟨lg, 0, none⟩ := by
                obtain ⟨g', c', e1, _⟩ := own_some HRq.out (by omega)
                cases e1
                exact ⟨g', rfl⟩
              obtain ⟨co, cc, hcv, hcg⟩ := HS.out.sl hlt
              obtain ⟨cn, hcn⟩ : ∃ cn, cn = lns i := ⟨_, rfl⟩
              have hcl : wr.cell? ⟨lg, i, none⟩ = some (.slice co cn cc) := by rw [hcn, ← hcv]; exact own_row1 HRq.out hlt
              have hcb : cn ≤ 65537 := by rw [hcn]; exact HLn.out i hlt
              have HCn := hidA hcn
              have HCv : Hid (cvs i = .slice co cn cc) := by rw [Hid, hcn]; exact hcv
              have hdI : decide ((i : Int) < (N : Int)) = true := by simp; omega
              have HG0 : Hid (GV wr base 76 2 N cvs lns (cG lns Z) i (.slice co (cn + 0) cc) 0) := by rw [Hid, Nat.add_zero, ← HCv.out]; exact GV.start HS.out hlt
              clear hcn hcv hcg HRq
              go_wp2_with fail
              go_loopw [9, 10] (fun v y wq => ∃ (t : Nat) (o : Option Addr) (c : Nat), t ≤ 20 ∧ v = .slice o (cn + t) c ∧ y = .int .i64 (t : Int) ∧ Hid (SHX wq base 76 2 N cvs lns (cG lns Z)) ∧ Hid (GV wq base 76 2 N cvs lns (cG lns Z) i (.slice o (cn + t) c) t) ∧ Hid (FrX base 76 w2 wq)) (fun _ y _ => 20 - (intOf y).toNat)
              case atStart => exact ⟨0, co, cc, by omega, rfl, rfl, HS, HG0, HF⟩
              case round =>
                clear HS HF HG0 hcl
                obtain ⟨t, tq, tc, ht, rfl, rfl, HS, HG, HF⟩ := hrel
                by_cases htl : t < 20
                · have HAp : Hid (∀ ty, ∃ v' w', (Builtin.append_ #[40, 40] ty #[.slice tq (cn + t) tc, .slice (some ⟨wr.heap.size, 0, none⟩) 1 1]).run Tryz.prog (wr.alloc (.cells #[mkI i, .int .i64 0] 76)) = .ok v' w' ∧ (∃ o c, v' = .slice o (cn + (t + 1)) c) ∧ Hid (SHX w' base 76 2 N cvs lns (cG lns Z) ∧ GV w' base 76 2 N cvs lns (cG lns Z) i v' (t + 1) ∧ FrX base 76 w2 w')) := fun ty => by
                    have hal : Go.RowKit.Below wr.heap.size wr (wr.alloc (.cells [mkI i, .int .i64 0].toArray 76)) := bel_al _ _
                    have hbw : base ≤ wr.heap.size := Nat.le_trans HB2.out.2 HF.out.size
                    obtain ⟨v', w', q1, q2, q3, q4, q5⟩ := GV.app elIn (HS.out.kept hal) hlt (HG.out.kept hal) ⟨wr.heap.size, 0, none⟩ 1 1 [mkI i, .int .i64 0] rfl new_src (by intro u hu; simp at hu; rcases hu with rfl | rfl <;> rfl) (by rw [← HCn.out]; omega) (Nat.le_trans hbw hal.size) ty
                    rw [← HCn.out] at q2
                    exact ⟨v', w', q1, q2, q3, q4, (HF.out.trans (FrX.bel hal hbw)).trans q5⟩
                  clear HS HG HF
                  go_wp2_with (at_builtin; refine wpL_appR rfl _ _ 40 rfl (.slice tq (cn + t) tc) (.slice (some ⟨wr.heap.size, 0, none⟩) 1 1) rfl rfl HAp.out ?_; rintro v2 w3 ⟨⟨o2, c2, rfl⟩, HP9⟩)
                  go_roundw
                  case rel => exact ⟨t + 1, o2, c2, by omega, rfl, by go_num, HP9.out.1, HP9.out.2.1, HP9.out.2.2⟩
                  case measure => simp [intOf]; omega
                · obtain ⟨H, hH⟩ : ∃ H, H = wr.heap.size := ⟨_, rfl⟩
                  have HHb : Hid (base ≤ H) := by rw [Hid, hH]; exact Nat.le_trans HB2.out.2 HF.out.size
                  have HPb : Hid (∀ j, j < N → ∀ g, (cvs j).ownBlock = some g → g < H) := fun j hj g hg => by rw [hH]; exact (World.ownsRow.lt (HS.out.row j hj) g hg).2
                  have HM0 : Hid (H ≤ wr.heap.size ∧ ∃ ys, wr.ownsRow H 76 2 (.slice none 0 0) 0 ys ∧ ∀ u ∈ ys, u.oneCell' = true) := ⟨Nat.le_of_eq hH, [], World.ownsRow_nil _ _ _ _, by simp⟩
                  have hdT : decide ((t : Int) < 20) = false := by simp; omega
                  obtain rfl : t = 20 := by omega
                  rw [show ((20 : Nat) : Int) = 20 from rfl]
                  clear HG hH htl hdT
                  go_wp2_with fail
                  go_loopw [11, 12] (fun v y wq => ∃ (t : Nat) (o : Option Addr) (c : Nat), t ≤ 64 ∧ v = .slice o t c ∧ y = .int .i64 (t : Int) ∧ Hid (H ≤ wq.heap.size ∧ ∃ ys, wq.ownsRow H 76 2 (.slice o t c) t ys ∧ ∀ u ∈ ys, u.oneCell' = true) ∧ Hid (SHX wq base 76 2 N cvs lns (cG lns Z)) ∧ Hid (FrX base 76 w2 wq)) (fun _ y _ => 64 - (intOf y).toNat)
                  case atStart => exact ⟨0, none, 0, by omega, rfl, rfl, HM0, HS, HF⟩
                  case round =>
                    clear HS HF HM0
                    obtain ⟨t, mo, mc, ht2, rfl, rfl, HM, HS, HF⟩ := hrel
                    by_cases htl : t < 64
                    · have HAp : Hid (∀ ty, ∃ v' w', (Builtin.append_ #[40, 40] ty #[.slice mo t mc, .slice (some ⟨wr.heap.size, 0, none⟩) 1 1]).run Tryz.prog (wr.alloc (.cells #[mkI i, .int .i64 0] 76)) = .ok v' w' ∧ (∃ o c, v' = .slice o (t + 1) c) ∧ Hid ((H ≤ w'.heap.size ∧ ∃ ys, w'.ownsRow H 76 2 v' (t + 1) ys ∧ ∀ u ∈ ys, u.oneCell' = true) ∧ SHX w' base 76 2 N cvs lns (cG lns Z) ∧ FrX base 76 w2 w')) := fun ty => by
                        have hal : Go.RowKit.Below wr.heap.size wr (wr.alloc (.cells [mkI i, .int .i64 0].toArray 76)) := bel_al _ _
                        have hbw : base ≤ wr.heap.size := Nat.le_trans HB2.out.2 HF.out.size
                        obtain ⟨hHw, ys, hM, hM1⟩ := HM.out
                        have hM' : (wr.alloc (.cells [mkI i, .int .i64 0].toArray 76)).ownsRow H 76 2 (.slice mo t mc) t ys := World.ownsRow.alloc hM _
                        obtain ⟨v', w', q1, q2, q3⟩ := appC elIn ty H _ t ys hM' ⟨wr.heap.size, 0, none⟩ 1 1 [mkI i, .int .i64 0] rfl new_src (by intro u hu; simp at hu; rcases hu with rfl | rfl <;> rfl) (by omega) (Nat.le_trans hHw hal.size)
                        obtain ⟨o9, c9, hv9, _⟩ := own_slice q2
                        have hgr : ∃ row, (wr.alloc (.cells [mkI i, .int .i64 0].toArray 76)).grownBy w' row ∧ ∀ g, row = some g → H ≤ g ∧ ∃ cur, (wr.alloc (.cells [mkI i, .int .i64 0].toArray 76)).heap[g]? = some (.cells cur 76 (0, 0)) := by
                          rcases q3 with ⟨g, cap, e1, _, e3⟩ | ⟨_, e3⟩
                          · refine ⟨_, e3, fun q e => ?_⟩
                            cases e
                            have e4 : (Value.slice mo t mc).ownBlock = some g := by rw [e1]; rfl
                            exact ⟨(World.ownsRow.lt hM' g e4).1, own_blk hM' e4⟩
                          · exact ⟨_, e3, fun q e => by cases e⟩
                        obtain ⟨row, r1, r2⟩ := hgr
                        have hHb := HHb.out
                        refine ⟨v', w', q1, ⟨o9, c9, hv9⟩, ⟨Nat.le_trans hHw (Nat.le_trans hal.size r1.size), _, q2, fun u hu => ?_⟩, (HS.out.kept hal).grown r1 (fun g e j hj e2 => ?_), (HF.out.trans (FrX.bel hal hbw)).trans (FrX.grown r1 (Nat.le_trans hbw hal.size) (fun g e => ⟨by have := (r2 g e).1; omega, (r2 g e).2⟩))⟩
                        · rcases List.mem_append.1 hu with hu | hu
                          · exact hM1 u hu
                          · simp at hu; rcases hu with rfl | rfl <;> rfl
                        · have h5 := (r2 g e).1
                          have h6 := HPb.out j hj g e2
                          omega
                      clear HM HS HF
                      go_wp2_with (at_builtin; refine wpL_appR rfl _ _ 40 rfl (.slice mo t mc) (.slice (some ⟨wr.heap.size, 0, none⟩) 1 1) rfl rfl HAp.out ?_; rintro v2 w3 ⟨⟨o2, c2, rfl⟩, HP9⟩)
                      go_roundw
                      case rel => exact ⟨t + 1, o2, c2, by omega, rfl, by go_num, HP9.out.1, HP9.out.2.1, HP9.out.2.2⟩
                      case measure => simp [intOf]; omega
                    · obtain rfl : t = 64 := by omega
                      rw [show ((64 : Nat) : Int) = 64 from rfl]
                      obtain ⟨mg, rfl⟩ : ∃ mg, mo = some ⟨mg, 0, none⟩ := by
                        obtain ⟨_, ys, hM, _⟩ := HM.out
                        obtain ⟨g', c', e1, _⟩ := own_some hM (by omega)
                        cases e1
                        exact ⟨g', rfl⟩
                      have hcl : wr.cell? ⟨lg, i, none⟩ = some (.slice co cn cc) := by rw [← HCv.out]; exact own_row1 (HF.out.row HR2.out (by decide)) hlt
                      have HAp : Hid (∀ ty, ∃ v' w', (Builtin.append_ #[40, 40] ty #[.slice co cn cc, .slice (some ⟨mg, 0, none⟩) 64 mc]).run Tryz.prog wr = .ok v' w' ∧ (∃ o c, v' = .slice o (cn + 64) c) ∧ w'.cell? ⟨lg, i, none⟩ = some (.slice co cn cc) ∧ Hid (SHX w' base 76 2 N cvs lns (cG lns Z) ∧ FrX base 76 w2 w')) := fun ty => by
                        have hbw : base ≤ wr.heap.size := Nat.le_trans HB2.out.2 HF.out.size
                        obtain ⟨hHw, ys, hM, hM1⟩ := HM.out
                        have hG0 := GV.start HS.out hlt
                        rw [HCv.out] at hG0
                        have hys := World.ownsRow.cells hM rfl
                        obtain ⟨v', w', q1, q2, q3, q4, q5⟩ := GV.app elIn HS.out hlt hG0 ⟨mg, 0, none⟩ 64 mc ys hM.1 hys hM1 (by rw [← HCn.out]; omega) hbw ty
                        rw [← HCn.out, Nat.zero_add] at q2
                        have f2 := HF.out.trans q5
                        refine ⟨v', w', q1, q2, ?_, q3, f2⟩
                        rw [← HCv.out]; exact own_row1 (f2.row HR2.out (by decide)) hlt
                      clear HM HS HF
                      go_wp2_with (at_builtin; refine wpL_appR rfl _ _ 40 rfl (.slice co cn cc) (.slice (some ⟨mg, 0, none⟩) 64 mc) rfl rfl HAp.out ?_; rintro v2 w3 ⟨⟨o2, c2, rfl⟩, hcl2, HP9⟩)
                      go_roundw
                      case rel => exact ⟨i + 1, by omega, by go_num, HP9.out.1, HP9.out.2⟩
                      case measure => simp [intOf]; omega
            · obtain rfl : N = i := by omega
              have HR3 := hidA (HF.out.row HR2.out (by decide))
              have HP3 := hidA (HP2.out.frx HF.out (by decide))
              have HL3 : Hid (wr.heap[lb]? = some (.cells #[lv 0, lv 1] 22 (0, 0))) := (HF.out.oth lb _ _ HL2.out (by decide)).trans HL2.out
              have HB3 : Hid (Go.RowKit.Below base w wr ∧ base ≤ wr.heap.size) := ⟨HB2.out.1.trans HF.out.below, Nat.le_trans HB2.out.2 HF.out.size⟩
              clear HF HR2 HP2 HL2 HB2 hlt
              generalize wr = w3 at *
              go_wp2_with fail
              go_loop [13, 14] (fun x _ => ∃ (i : Nat), i ≤ N ∧ x = .int .i64 (i : Int)) (fun x _ => N - (intOf x).toNat)
              case atStart => exact ⟨0, by omega, rfl⟩
              case round =>
                obtain ⟨i, hi, rfl⟩ := hrel
                by_cases hlt : i < N
                · obtain ⟨lg, rfl⟩ : ∃ lg, la = some ⟨lg, 0, none⟩ := by
                    obtain ⟨g', c', e1, _⟩ := own_some HR3.out (by omega)
                    cases e1
                    exact ⟨g', rfl⟩
                  obtain ⟨co, cc, hcv, hcg⟩ := HS.out.sl hlt
                  obtain ⟨cn, hcn⟩ : ∃ cn, cn = lns i := ⟨_, rfl⟩
                  have hcl : w3.cell? ⟨lg, i, none⟩ = some (.slice co cn cc) := by rw [hcn, ← hcv]; exact own_row1 HR3.out hlt
                  have hcb : cn ≤ 65537 := by rw [hcn]; exact HLn.out i hlt
                  have HCn := hidA hcn
                  have HCv := hidA hcv
                  have HCg := hidA hcg
                  have hdI : decide ((i : Int) < (N : Int)) = true := by simp; omega
                  clear hcn hcv hcg
                  go_wp2_with fail
                  go_loop [14] (fun y => ∃ (k : Nat), k ≤ cn ∧ y = .int .i64 (k : Int)) (fun y => cn - (intOf y).toNat)
                  case atStart => exact ⟨0, by omega, rfl⟩
                  case round =>
                    obtain ⟨k, hk, rfl⟩ := hrel
                    by_cases hkl : k < cn
                    · obtain ⟨cg, rfl⟩ := HCg.out (by rw [← HCn.out]; omega)
                      have hkn : k < lns i := by rw [← HCn.out]; exact hkl
                      have a0 : w3.cell? ⟨cg, k * 2, none⟩ = some (mkI i) := by
                        rw [(HS.out.cellAt hlt HCv.out (j := k * 2) (by omega)).1]
                        have h9 := (HS.out.row i hlt).1
                        rw [fil2_len] at h9
                        exact fil2_at _ _ _ _ (by omega) k hkn
                      have hki : ¬ ((cn : Int) ≤ (k : Int)) := by omega
                      clear hkn
                      go_wp2_with fail
                      go_round
                      case rel => exact ⟨k + 1, by omega, by go_num⟩
                      case measure => simp [intOf]; omega
                    · obtain rfl : k = cn := by omega
                      go_wp2_with fail
                      go_round
                      case rel => exact ⟨i + 1, by omega, by go_num⟩
                      case measure => simp [intOf]; omega
                · obtain rfl : N = i := by omega
                  have HZ0 : Hid (SHX w3 base 72 6 2 lv ll (zlt (pG ll Y) Y 0)) := HP3.out.congr (fun j hj => zlt_zero _ _ j)
                  have HF0 : Hid (FrX base 72 w3 w3) := FrX.refl _ _ _
                  clear HS HR3 HP3 hlt
                  go_wp2_with fail
                  go_loopw [15, 16] (fun x _ wr => ∃ (i : Nat), i ≤ 2 ∧ x = .int .i64 (i : Int) ∧ Hid (SHX wr base 72 6 2 lv ll (zlt (pG ll Y) Y i)) ∧ Hid (FrX base 72 w3 wr)) (fun x _ _ => 2 - (intOf x).toNat)
                  case atStart => exact ⟨0, by omega, rfl, HZ0, HF0⟩
                  case round =>
                    clear HZ0 HF0
                    obtain ⟨i, hi, rfl, HS, HF⟩ := hrel
                    by_cases hlt : i < 2
                    · obtain ⟨co, cc, hcv, hcg⟩ := HS.out.sl hlt
                      obtain ⟨cn, hcn⟩ : ∃ cn, cn = ll i := ⟨_, rfl⟩
                      have hcl : wr.cell? ⟨lb, i, none⟩ = some (.slice co cn cc) := by rw [hcn, ← hcv]; exact lib_cell ((HF.out.oth lb _ _ HL3.out (by decide)).trans HL3.out) hlt
                      have hcb : cn ≤ 65537 := by rw [hcn]; exact HLl.out i hlt
                      have HCn := hidA hcn
                      have HCv := hidA hcv
                      have HCg := hidA hcg
                      have hdI : decide ((i : Int) < 2) = true := by simp; omega
                      have HI0 : Hid (SHX wr base 72 6 2 lv ll (updA (zlt (pG ll Y) Y i) i (fil6 (mkP i) 0 (Y i)))) := HS.out.congr (fun j hj => zlt_upd _ _ i j)
                      clear hcn hcv hcg HS
                      go_wp2_with fail
                      go_loopw [16] (fun y wq => ∃ (k : Nat), k ≤ cn ∧ y = .int .i64 (k : Int) ∧ Hid (SHX wq base 72 6 2 lv ll (updA (zlt (pG ll Y) Y i) i (fil6 (mkP i) k (Y i)))) ∧ Hid (FrX base 72 w3 wq) ∧ wq.cell? ⟨lb, i, none⟩ = some (.slice co cn cc)) (fun y _ => cn - (intOf y).toNat)
                      case atStart => exact ⟨0, by omega, rfl, HI0, HF, hcl⟩
                      case round =>
                        clear HI0 HF hcl
                        obtain ⟨k, hk, rfl, HS, HF, hcl⟩ := hrel
                        by_cases hkl : k < cn
                        · obtain ⟨cg, rfl⟩ := HCg.out (by rw [← HCn.out]; omega)
                          have hkn : k < ll i := by rw [← HCn.out]; exact hkl
                          have hz : ∀ j, j < ll i * 6 → ∃ u, wr.cell? ⟨cg, j, none⟩ = some u ∧ wr.frozen? ⟨cg, j, none⟩ = false := fun j hj => by
                            obtain ⟨q1, q2⟩ := HS.out.cellAt hlt HCv.out hj
                            have h9 := (HS.out.row i hlt).1
                            exact ⟨_, by rw [q1, List.getElem?_eq_getElem (by rw [h9]; exact hj)], q2⟩
                          obtain ⟨u0, a0, g0⟩ := hz (k * 6) (by omega)
                          obtain ⟨u1, a1, g1⟩ := hz (k * 6 + 1) (by omega)
                          obtain ⟨u2, a2, g2⟩ := hz (k * 6 + 2) (by omega)
                          obtain ⟨u3, a3, g3⟩ := hz (k * 6 + 3) (by omega)
                          obtain ⟨u4, a4, g4⟩ := hz (k * 6 + 4) (by omega)
                          obtain ⟨u5, a5, g5⟩ := hz (k * 6 + 5) (by omega)
                          have hS2 := SHX.set6 (Z := zlt (pG ll Y) Y i) (i := i) (k := k) (x := mkP i) (by rw [zlt_self]; exact HS.out) hlt HCv.out (Nat.le_trans HB3.out.2 HF.out.size)
                          rw [zlt_self] at hS2
                          have HS2 := hidA hS2.1
                          have HF2 := hidA (HF.out.trans hS2.2)
                          have hcl2 : ((((((wr.setCell ⟨cg, k * 6, none⟩ (.string ⟨#[]⟩)).setCell ⟨cg, k * 6 + 1, none⟩ (mkP i)).setCell ⟨cg, k * 6 + 2, none⟩ (.int .i64 0)).setCell ⟨cg, k * 6 + 3, none⟩ (.int .i64 0)).setCell ⟨cg, k * 6 + 4, none⟩ (.int .i64 0)).setCell ⟨cg, k * 6 + 5, none⟩ (.slice none 0 0)).cell? ⟨lb, i, none⟩ = some (.slice (some ⟨cg, 0, none⟩) cn cc) := by
                            rw [lib_cell ((HF2.out.oth lb _ _ HL3.out (by decide)).trans HL3.out) hlt, HCv.out, HCn.out]
                          have hki : ¬ ((cn : Int) ≤ (k : Int)) := by omega
                          clear hz hS2 HS HF hkn
                          go_wp2_with fail
                          go_roundw
                          case rel => exact ⟨k + 1, by omega, by go_num, HS2, HF2, hcl2⟩
                          case measure => simp [intOf]; omega
                        · obtain rfl : k = cn := by omega
                          have HS2 : Hid (SHX wr base 72 6 2 lv ll (zlt (pG ll Y) Y (i + 1))) := HS.out.congr (fun j hj => by rw [HCn.out]; exact zlt_next (pG ll Y) Y i j)
                          clear HS
                          go_wp2_with fail
                          go_roundw
                          case rel => exact ⟨i + 1, by omega, by go_num, HS2, HF⟩
                          case measure => simp [intOf]; omega
                    · obtain rfl : i = 2 := by omega
                      rw [show ((2 : Nat) : Int) = 2 from rfl]
                      have HZ1 : Hid (SHX wr base 72 6 2 lv ll (pG ll Y)) := HS.out.congr (fun j hj => zlt_full _ _ hj)
                      clear HS hlt
                      go_wp2_with fail
                      go_loopw [17, 18, 19] (fun x _ _ wr => ∃ (i : Nat), i ≤ 2 ∧ x = .int .i64 (i : Int) ∧ Hid (SHX wr base 72 6 2 lv ll (pG ll Y)) ∧ Hid (FrX base 72 w3 wr)) (fun x _ _ _ => 2 - (intOf x).toNat)
                      case atStart => exact ⟨0, by omega, rfl, HZ1, HF⟩
                      case round =>
                        clear HZ1 HF
                        obtain ⟨i, hi, rfl, HS, HF⟩ := hrel
                        by_cases hlt : i < 2
                        · obtain ⟨co, cc, hcv, hcg⟩ := HS.out.sl hlt
                          obtain ⟨cn, hcn⟩ : ∃ cn, cn = ll i := ⟨_, rfl⟩
                          have hcl : wr.cell? ⟨lb, i, none⟩ = some (.slice co cn cc) := by rw [hcn, ← hcv]; exact lib_cell ((HF.out.oth lb _ _ HL3.out (by decide)).trans HL3.out) hlt
                          have hcb : cn ≤ 65537 := by rw [hcn]; exact HLl.out i hlt
                          have HCn := hidA hcn
                          have HCv : Hid (lv i = .slice co cn cc) := by rw [Hid, hcn]; exact hcv
                          have hdI : decide ((i : Int) < 2) = true := by simp; omega
                          have HG0 : Hid (GV wr base 72 6 2 lv ll (pG ll Y) i (.slice co (cn + 0) cc) 0) := by rw [Hid, Nat.add_zero, ← HCv.out]; exact GV.start HS.out hlt
                          clear hcn hcv hcg
                          go_wp2_with fail
                          go_loopw [18, 19] (fun v y wq => ∃ (t : Nat) (o : Option Addr) (c : Nat), t ≤ 20 ∧ v = .slice o (cn + t) c ∧ y = .int .i64 (t : Int) ∧ Hid (SHX wq base 72 6 2 lv ll (pG ll Y)) ∧ Hid (GV wq base 72 6 2 lv ll (pG ll Y) i (.slice o (cn + t) c) t) ∧ Hid (FrX base 72 w3 wq)) (fun _ y _ => 20 - (intOf y).toNat)
                          case atStart => exact ⟨0, co, cc, by omega, rfl, rfl, HS, HG0, HF⟩
                          case round =>
                            clear HS HF HG0 hcl
                            obtain ⟨t, tq, tc, ht, rfl, rfl, HS, HG, HF⟩ := hrel
                            by_cases htl : t < 20
                            · have HAp : Hid (∀ ty, ∃ v' w', (Builtin.append_ #[22, 22] ty #[.slice tq (cn + t) tc, .slice (some ⟨wr.heap.size, 0, none⟩) 1 1]).run Tryz.prog (wr.alloc (.cells #[.string ⟨#[]⟩, mkP i, .int .i64 0, .int .i64 0, .int .i64 0, .slice none 0 0] 72)) = .ok v' w' ∧ (∃ o c, v' = .slice o (cn + (t + 1)) c) ∧ Hid (SHX w' base 72 6 2 lv ll (pG ll Y) ∧ GV w' base 72 6 2 lv ll (pG ll Y) i v' (t + 1) ∧ FrX base 72 w3 w')) := fun ty => by
                                have hal : Go.RowKit.Below wr.heap.size wr (wr.alloc (.cells [.string ⟨#[]⟩, mkP i, .int .i64 0, .int .i64 0, .int .i64 0, .slice none 0 0].toArray 72)) := bel_al _ _
                                have hbw : base ≤ wr.heap.size := Nat.le_trans HB3.out.2 HF.out.size
                                obtain ⟨v', w', q1, q2, q3, q4, q5⟩ := GV.app elPc (HS.out.kept hal) hlt (HG.out.kept hal) ⟨wr.heap.size, 0, none⟩ 1 1 [.string ⟨#[]⟩, mkP i, .int .i64 0, .int .i64 0, .int .i64 0, .slice none 0 0] rfl new_src (by intro u hu; simp at hu; rcases hu with rfl | rfl | rfl | rfl <;> rfl) (by rw [← HCn.out]; omega) (Nat.le_trans hbw hal.size) ty
                                rw [← HCn.out] at q2
                                exact ⟨v', w', q1, q2, q3, q4, (HF.out.trans (FrX.bel hal hbw)).trans q5⟩
                              clear HS HG HF
                              go_wp2_with (at_builtin; refine wpL_appR rfl _ _ 22 rfl (.slice tq (cn + t) tc) (.slice (some ⟨wr.heap.size, 0, none⟩) 1 1) rfl rfl HAp.out ?_; rintro v2 w5 ⟨⟨o2, c2, rfl⟩, HP9⟩)
                              go_roundw
                              case rel => exact ⟨t + 1, o2, c2, by omega, rfl, by go_num, HP9.out.1, HP9.out.2.1, HP9.out.2.2⟩
                              case measure => simp [intOf]; omega
                            · obtain rfl : t = 20 := by omega
                              rw [show ((20 : Nat) : Int) = 20 from rfl]
                              clear HG htl
                              go_wp2_with fail
                              go_roundw
                              case rel => exact ⟨i + 1, by omega, by go_num, HS, HF⟩
                              case measure => simp [intOf]; omega
                        · obtain rfl : i = 2 := by omega
                          rw [show ((2 : Nat) : Int) = 2 from rfl]
                          have HL4 : Hid (wr.heap[lb]? = some (.cells #[lv 0, lv 1] 22 (0, 0))) := (HF.out.oth lb _ _ HL3.out (by decide)).trans HL3.out
                          have HB4 : Hid (Go.RowKit.Below base w wr) := HB3.out.1.trans HF.out.below
                          clear HF HL3 HB3 hlt
                          generalize wr = w4 at *
                          go_wp2_with fail
                          go_loop [20, 21] (fun x _ => ∃ (i : Nat), i ≤ 2 ∧ x = .int .i64 (i : Int)) (fun x _ => 2 - (intOf x).toNat)
                          case atStart => exact ⟨0, by omega, rfl⟩
                          case round =>
                            obtain ⟨i, hi, rfl⟩ := hrel
                            by_cases hlt : i < 2
                            · obtain ⟨co, cc, hcv, hcg⟩ := HS.out.sl hlt
                              obtain ⟨cn, hcn⟩ : ∃ cn, cn = ll i := ⟨_, rfl⟩
                              have hcl : w4.cell? ⟨lb, i, none⟩ = some (.slice co cn cc) := by rw [hcn, ← hcv]; exact lib_cell HL4.out hlt
                              have hcb : cn ≤ 65537 := by rw [hcn]; exact HLl.out i hlt
                              have HCn := hidA hcn
                              have HCv := hidA hcv
                              have HCg := hidA hcg
                              have hdI : decide ((i : Int) < 2) = true := by simp; omega
                              clear hcn hcv hcg
                              go_wp2_with fail
                              go_loop [21] (fun y => ∃ (k : Nat), k ≤ cn ∧ y = .int .i64 (k : Int)) (fun y => cn - (intOf y).toNat)
                              case atStart => exact ⟨0, by omega, rfl⟩
                              case round =>
                                obtain ⟨k, hk, rfl⟩ := hrel
                                by_cases hkl : k < cn
                                · obtain ⟨cg, rfl⟩ := HCg.out (by rw [← HCn.out]; omega)
                                  have hkn : k < ll i := by rw [← HCn.out]; exact hkl
                                  have a0 : w4.cell? ⟨cg, k * 6 + 1, none⟩ = some (mkP i) := by
                                    rw [(HS.out.cellAt hlt HCv.out (j := k * 6 + 1) (by omega)).1]
                                    have h9 := (HS.out.row i hlt).1
                                    rw [fil6_len] at h9
                                    exact fil6_at _ _ _ (by omega) k hkn
                                  have hki : ¬ ((cn : Int) ≤ (k : Int)) := by omega
                                  clear hkn
                                  go_wp2_with fail
                                  go_round
                                  case rel => exact ⟨k + 1, by omega, by go_num⟩
                                  case measure => simp [intOf]; omega
                                · obtain rfl : k = cn := by omega
                                  go_wp2_with fail
                                  go_round
                                  case rel => exact ⟨i + 1, by omega, by go_num⟩
                                  case measure => simp [intOf]; omega
                            · obtain rfl : i = 2 := by omega
                              rw [show ((2 : Nat) : Int) = 2 from rfl]
                              clear HS hlt
                              go_wp2_with fail
                              go_ret
                              exact ⟨rfl, HB4.out⟩
end Go.Proofs.YtiiplikmoodfnaaGreatDoor
