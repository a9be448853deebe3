/-
  KeysWalks: THE WALK OF THE LAW.
-/
import Derived.Test.YtnjgaibcpcpmcabKAll
import Derived.Laws.EntriesVeiled
namespace Go.Proofs.Ytnjgaibcpcpmcab
open Go.RowKit Go.Sort Go.Shelf

attribute [local go_sem] Oper.semAt_some

theorem run_equalFn (d : Nat) (f : Fn) (x y : Array Value) (w : World) : (Op.equalIn (d + 1) 37 (.func f x y) .nilFunc).run Try.prog w = .ok false w := by
  simp [Op.equalIn, run_underlying Try.underlying37]
theorem run_eqFn (f : Fn) (x y : Array Value) (w : World) : (binOp .eql 37 (.func f x y) .nilFunc).run Try.prog w = .ok (.bool false) w := by
  have h : (Op.equal 37 (.func f x y) .nilFunc).run Try.prog w = .ok false w := run_equalFn 9999 f x y w
  simp only [binOp]
  simp [h]

theorem keeps_drewN (W : World) (q : Nat) : KeepsOthers W (W.drewN q) := ⟨Nat.le_refl _, fun _ _ h _ => h⟩
theorem below_drew0 (B : Nat) (W : World) (q : Nat) : Below B W (W.drewN q) := ⟨rfl, rfl, rfl, Nat.le_refl _, fun _ _ => rfl⟩
theorem own_block {β : Type} {B D : Nat} (hD : D < B) : OwnFrom B (fun (_ : β) W => W.heap[D]? = some (.deferred (some []))) :=
  fun _ X Y row hs hg hr => (hg.block D (Array.getElem?_eq_some_iff.1 hs).1 (fun e => by have := (hr D e.symm).1; omega)).trans hs
/-- what has come is the list's beginning -/
def Chain (L : List K) (pre : List KX) : Prop := pre = upto (fun j => (j, kd L j)) pre.length
theorem chain_nil (L : List K) : Chain L [] := rfl
theorem chain_upto (L : List K) (k : Nat) : Chain L (upto (fun j => (j, kd L j)) k) := by unfold Chain; rw [upto_length]
theorem chain_snoc {L : List K} {pre : List KX} {x : KX} (h : Chain L pre) : Chain L (pre ++ [x]) ↔ x = (pre.length, kd L pre.length) := by
  unfold Chain at *
  rw [List.length_append, List.length_singleton, upto_succ, ← h]
  simp

/-- what stands where a loop begins -/
structure St (W : World) (b0 Bq Bs Bn n cap cC : Nat) (ao aC : Option Addr) (L : List K) (stop : Int) : Prop where
  l : Boxed W b0 29 (.slice ao n cap)
  s : Boxed W (b0 + 1) 3 (.int .i64 stop)
  r : Boxed W (b0 + 1 + 1) 4 (.bool false)
  q : Boxed W Bq 37 (.func (.func 22) #[] #[.pointer (some ⟨Bs, 0, none⟩)])
  b : Boxed W Bs 29 (.slice aC n cC)
  lo : Lst W ao n cap L
  lc : Lst W aC n cC L
  lt : b0 + 1 + 1 < Bn ∧ Bq < Bn ∧ Bs < Bn ∧ (∀ a, L ≠ [] → ao = some a → a.block < Bn) ∧ (∀ a, L ≠ [] → aC = some a → a.block < Bn)
theorem St.below {W W' : World} {b0 Bq Bs Bn n cap cC : Nat} {ao aC : Option Addr} {L : List K} {stop : Int} (h : St W b0 Bq Bs Bn n cap cC ao aC L stop) (hb : Below Bn W W') : St W' b0 Bq Bs Bn n cap cC ao aC L stop := by
  obtain ⟨l1, l2, l3, l4, l5⟩ := h.lt
  exact ⟨(hb.block _ (by omega)).trans h.l, (hb.block _ (by omega)).trans h.s, (hb.block _ (by omega)).trans h.r, (hb.block _ (by omega)).trans h.q, (hb.block _ (by omega)).trans h.b, h.lo.far hb l4, h.lc.far hb l5, h.lt⟩

set_option maxHeartbeats 8000000 in
set_option maxRecDepth 100000 in
theorem walks_any (w : World) (ao : Option Addr) (n cap : Nat) (L : List K) (stop : Int) (hL : Lst w ao n cap L) (hm : n * 16 ≤ 140737488351232) :
    Calls Try.prog 5 #[.slice ao n cap, .int .i64 stop] w fun e w' => e = .returned (.bool true) ∧ Below w.heap.size w w' := by
  have HL : Hid (Lst w ao n cap L) := hL
  clear hL
  refine (callsIn_wide (n := 10)).1 ?_
  refine callsIn_of_wp_marks Try.func5 rfl trivial ?_ rfl
  simp only [Try.ntmps5, List.size_toArray, List.length_cons, List.length_nil, Nat.reduceAdd, Nat.reduceSub, Array.replicate_succ, Array.replicate_zero, List.push_toArray, List.append_toArray, List.nil_append, List.cons_append]
  gi_wp2_with fail
  have hbL : Boxed (((w.alloc (.cells #[.slice ao n cap] 29)).alloc (.cells #[.int .i64 stop] 3)).alloc (.cells #[.bool false] 4)) w.heap.size 29 (.slice ao n cap) := ((Boxed.new w 29 (.slice ao n cap)).alloc (.cells #[.int .i64 stop] 3)).alloc (.cells #[.bool false] 4)
  have hbS : Boxed (((w.alloc (.cells #[.slice ao n cap] 29)).alloc (.cells #[.int .i64 stop] 3)).alloc (.cells #[.bool false] 4)) (w.heap.size + 1) 3 (.int .i64 stop) := by
    have := (Boxed.new (w.alloc (.cells #[.slice ao n cap] 29)) 3 (.int .i64 stop)).alloc (.cells #[.bool false] 4)
    simpa only [World.size_alloc] using this
  have hbR : Boxed (((w.alloc (.cells #[.slice ao n cap] 29)).alloc (.cells #[.int .i64 stop] 3)).alloc (.cells #[.bool false] 4)) (w.heap.size + 1 + 1) 4 (.bool false) := by
    have := Boxed.new ((w.alloc (.cells #[.slice ao n cap] 29)).alloc (.cells #[.int .i64 stop] 3)) 4 (.bool false)
    simpa only [World.size_alloc] using this
  have hB0 : Below w.heap.size w (((w.alloc (.cells #[.slice ao n cap] 29)).alloc (.cells #[.int .i64 stop] 3)).alloc (.cells #[.bool false] 4)) := (((Below.refl _ w).alloc (Nat.le_refl _) _).alloc (by simp) _).alloc (by simp; omega) _
  generalize (((w.alloc (.cells #[.slice ao n cap] 29)).alloc (.cells #[.int .i64 stop] 3)).alloc (.cells #[.bool false] 4)) = W0 at *
  have HLo : Hid (Lst W0 ao n cap L) := HL.out.kept hB0
  have hLo : Lst W0 ao n cap L := HLo.out
  refine ⟨trivial, (callsIn_wide.2 (lent_l W0 ao n cap L HLo.out hm)).mono ?_⟩
  rintro e W1 ⟨aO, cO, rfl, hLent, hb1⟩
  have HLent : Hid (Lent W1 W0.heap.size aO n cO ao L) := hLent
  clear hLent
  gi_wp2_with fail
  refine ⟨trivial, (callsIn_wide.2 (all_any W1 aO n cO L HLent.out.lst HLent.out.flat (by omega))).mono ?_⟩
  rintro e W2 ⟨Bs, aC, cC, rfl, HC, HFl, HBs, HBl, hb2⟩
  have HLent0 := HLent
  replace HLent : Hid (Lent W2 W0.heap.size aO n cO ao L) := HLent.out.kept hb2
  have hb3 : Below W2.heap.size W2 (W2.alloc (.cells #[.func (.func 22) #[] #[.pointer (some ⟨Bs, 0, none⟩)]] 37)) := (Below.refl _ W2).alloc (Nat.le_refl _) _
  have hbQ : Boxed (W2.alloc (.cells #[.func (.func 22) #[] #[.pointer (some ⟨Bs, 0, none⟩)]] 37)) W2.heap.size 37 (.func (.func 22) #[] #[.pointer (some ⟨Bs, 0, none⟩)]) := Boxed.new W2 _ _
  have hs1 := hb1.size
  have hs2 := hb2.size
  have hb03 : Below W0.heap.size W0 (W2.alloc (.cells #[.func (.func 22) #[] #[.pointer (some ⟨Bs, 0, none⟩)]] 37)) := hb1.trans ((hb2.mono hs1).trans (hb3.mono (by omega)))
  have cL : (W2.alloc (.cells #[.func (.func 22) #[] #[.pointer (some ⟨Bs, 0, none⟩)]] 37)).cell? ⟨w.heap.size, 0, none⟩ = some (.slice ao n cap) := (hb03.cell (p := ⟨w.heap.size, 0, none⟩) hbL.lt).trans hbL.cell
  have HS3 : Hid (Lst (W2.alloc (.cells #[.func (.func 22) #[] #[.pointer (some ⟨Bs, 0, none⟩)]] 37)) ao n cap L ∧ Lent (W2.alloc (.cells #[.func (.func 22) #[] #[.pointer (some ⟨Bs, 0, none⟩)]] 37)) W0.heap.size aO n cO ao L) := ⟨HLo.out.kept hb03, HLent.out.kept hb3⟩
  gi_wp2_with fail
  generalize hW3 : W2.alloc (.cells #[.func (.func 22) #[] #[.pointer (some ⟨Bs, 0, none⟩)]] 37) = W3 at *
  refine ⟨trivial, (callsIn_wide.2 (back_l W3 W0.heap.size n cO cap aO ao L HS3.out.2 HS3.out.1 hm)).mono ?_⟩
  rintro e W4 ⟨rfl, hg4⟩
  have hr4 : ∀ k, aO.map (·.block) = some k → W0.heap.size ≤ k ∧ k < W1.heap.size := by
    intro k hk
    cases aO with
    | none => cases hk
    | some x => cases hk; exact HLent0.out.lt x rfl
  have hs3 := hb3.size
  have hb34 : Below W0.heap.size W3 W4 := grown_below hg4 (fun k hk => (hr4 k hk).1) (by omega)
  have HSt : Hid (∀ Bn, W4.heap.size ≤ Bn → St W4 w.heap.size W2.heap.size Bs Bn n cap cC ao aC L stop) := fun Bn hBn => by
    have hq := hbQ.lt
    have hl := hbL.lt
    have hr := hbR.lt
    have h4 := hg4.size
    have k1 : ∀ B t v, Boxed W3 B t v → (B < W0.heap.size ∨ W1.heap.size ≤ B) → Boxed W4 B t v := fun B t v h hB => h.kept hg4 (fun e => by have := hr4 B e.symm; omega)
    have hsB := (HBs.out.alloc (.cells #[.func (.func 22) #[] #[.pointer (some ⟨Bs, 0, none⟩)]] 37))
    rw [hW3] at hsB
    have hC3 : Lst W3 aC n cC L := HC.out.kept hb3
    refine ⟨k1 _ _ _ ((hb03.block _ hl).trans hbL) (.inl hl), k1 _ _ _ ((hb03.block _ hbS.lt).trans hbS) (.inl hbS.lt), k1 _ _ _ ((hb03.block _ hr).trans hbR) (.inl hr), k1 _ _ _ hbQ (.inr (by omega)), k1 _ _ _ hsB (.inr HBl.out.1), ?_, ?_, ?_⟩
    · exact (HLo.out.kept (hb03.trans hb34))
    · refine ⟨hC3.len, ?_, hC3.nil, hC3.cap⟩
      rcases hC3.at_ with h0 | ⟨b, off, e, hc⟩
      · exact .inl h0
      · exact .inr ⟨b, off, e, fun j u hu => hg4.cell (hc j u hu) (fun e' => by have h1 := hr4 b e'.symm; have h2 := HBl.out.2 _ e; simp at h2; omega)⟩
    · have hsl := hsB.lt
      refine ⟨by omega, by omega, by omega, fun a hne e => ?_, fun a hne e => ?_⟩
      · have := HLo.out.at_.lt a hne e; omega
      · have := hC3.at_.lt a hne e; omega
  have hB4 : Below w.heap.size w W4 := hB0.trans ((hb03.trans hb34).mono hB0.size)
  have cQ : W4.cell? ⟨W2.heap.size, 0, none⟩ = some (.func (.func 22) #[] #[.pointer (some ⟨Bs, 0, none⟩)]) := (HSt.out _ (Nat.le_refl _)).q.cell
  clear hbL hbS hbR hbQ hb1 hb2 hb3 hb03 hb34 hg4 hr4 hs1 hs2 hs3 HS3 HL HLo hLo HLent HLent0 HC HFl HBs HBl cL hW3
  generalize W2.heap.size = Bq at *
  have hfn := run_eqFn (.func 22) #[] #[.pointer (some ⟨Bs, 0, none⟩)]
  have cQ' : (W4.alloc (.cells #[.int .i64 0] 3)).cell? ⟨Bq, 0, none⟩ = some (.func (.func 22) #[] #[.pointer (some ⟨Bs, 0, none⟩)]) := Grew.cell ((Grew.refl _).alloc _) cQ
  gi_wp2_with fail
  have bN : Boxed (W4.alloc (.cells #[.int .i64 0] 3)) W4.heap.size 3 (.int .i64 0) := Boxed.new W4 _ _
  have hb45 : Below W4.heap.size W4 (W4.alloc (.cells #[.int .i64 0] 3)) := (Below.refl _ W4).alloc (Nat.le_refl _) _
  have HSt5 : Hid (St (W4.alloc (.cells #[.int .i64 0] 3)) w.heap.size Bq Bs W4.heap.size n cap cC ao aC L stop) := (HSt.out _ (Nat.le_refl _)).below hb45
  have hB5 : Below w.heap.size w (W4.alloc (.cells #[.int .i64 0] 3)) := hB4.trans (hb45.mono hB4.size)
  have hwB : w.heap.size ≤ W4.heap.size := hB4.size
  generalize W4.alloc (.cells #[.int .i64 0] 3) = W5 at *
  generalize W4.heap.size = Bn at *
  clear cQ cQ' hfn HSt hb45 hB4
  have hlt5 := bN.lt
  have hlBs : Bs < W5.heap.size := HSt5.out.b.lt
  refine loop_cut 0 (fun W => ∃ k : Nat, k ≤ n ∧ (k = n ∨ (k : Int) = stop) ∧ Boxed W Bn 3 (.int .i64 (k : Int)) ∧ Below Bn W5 W) (fun _ _ h => h) ?loop ?rest
  case loop =>
    refine wpIn_rangeFunc_ownH rfl (by omega) (gf := 22) (lb := #[.pointer (some ⟨Bs, 0, none⟩)]) rfl trivial (enters_of Try.func22 (by kernel_rfl) rfl)
      (all_stops Fence.wide 9 trivial rfl (by omega) Bs Bn n cC aC L (by omega) W5 hlBs (by omega) HSt5.out.b.cell HSt5.out.lc HSt5.out.lt.2.2.2.2) belowK_t (belowK_b (by omega)) (Below.refl _ _) (fun _ => rfl)
      (fun pre W => (Chain L pre ∧ Boxed W Bn 3 (.int .i64 (pre.length : Int))) ∧ Below Bn W5 W)
      (fun c pre W => (c = .ret ∧ ¬ Chain L pre) ∨ (c = .exit 0 ∧ Chain L pre ∧ (pre.length : Int) = stop ∧ Boxed W Bn 3 (.int .i64 (pre.length : Int)) ∧ Below Bn W5 W))
      (OwnFrom.and (OwnFrom.and (ownFrom_pure _ _) (Own.from (boxed_own _ _ _) _)) (ownFrom_below (by omega) (by omega)))
      (fun c s X Y row hs hg hr => hs.elim .inl (fun ⟨h1, h2, h3, h4, h5⟩ => .inr ⟨h1, h2, h3, boxed_own Bn 3 (fun (p : List KX) => Value.int .i64 (p.length : Int)) s X Y row h4 hg (fun r e => (hr r e).2), h5.grown hg (by have := h5.size; omega) (fun k e => by have := (hr k e).1; omega)⟩))
      ⟨⟨chain_nil L, bN⟩, Below.refl _ _⟩
      (fun x a' W => ∃ Bx, Bn < Bx ∧ KBoxed W Bx x.2.1 x.2.2 ∧ a' = { tmps := #[(.slice ao n cap), (.int .i64 stop), (.pointer (some ⟨w.heap.size, 0, none⟩)), (.pointer (some ⟨w.heap.size + 1, 0, none⟩)), (.pointer (some ⟨w.heap.size + 1 + 1, 0, none⟩)), (.slice aO n cO), (.pointer (some ⟨Bq, 0, none⟩)), (.bool true), (.pointer (some ⟨Bn, 0, none⟩)), (.int .i64 (x.1 : Int)), (.pointer (some ⟨Bx, 0, none⟩)), undef, undef, undef, undef, undef, (.slice ao n cap), (.slice aO n cO), (.slice aO n cO), (.func (.func 22) #[] #[.pointer (some ⟨Bs, 0, none⟩)]), (.slice aO n cO), (.slice ao n cap), (.bool true), (.func (.func 22) #[] #[.pointer (some ⟨Bs, 0, none⟩)]), (.bool false), (.bool false), (.bool true), (.bool false), (.bool false), (.func (.func 22) #[] #[.pointer (some ⟨Bs, 0, none⟩)]), (.int .i64 (x.1 : Int)), (.agg #[.int .i64 x.2.1, .int .i64 x.2.2]), undef, undef, undef, undef, undef, undef, undef, undef, undef, undef, undef, undef, undef, undef, undef, undef, undef, undef, undef, undef, undef, undef, undef, undef, undef, undef, undef, undef, undef, undef, undef, undef, undef, undef, undef, undef, undef, undef, undef, undef, undef, undef, undef, undef, undef, undef, undef, undef, undef, undef, undef, undef, undef, undef, undef, undef, undef, undef, undef, undef, undef, undef, undef, undef, undef, undef, undef, undef, undef, undef, undef, undef, undef, undef, undef, undef, undef, undef, undef, undef, undef, undef, undef, undef, undef, undef], defers := [] })
      (fun x a' _ X Y row hs hg hr => by obtain ⟨Bx, e1, e2, e3⟩ := hs; exact ⟨Bx, e1, e2.own hg (fun r e => (hr r e).2), e3⟩)
      ?assign ?body ?done ?stop
    case assign =>
      rintro l pre x W K ⟨⟨hp, b1⟩, hB1⟩ hK
      gi_wp2
      exact hK _ _ ((KeepsOthers.alloc _ _).from _) ((Below.refl _ W).alloc (by have := b1.lt; omega) _) ⟨⟨hp, b1.alloc _⟩, hB1.alloc (by have := b1.lt; omega) _⟩ ⟨W.heap.size, b1.lt, KBoxed.new W _ _, rfl⟩
    case body =>
      rintro l pre x a' W hl ⟨r, hr⟩ ⟨⟨hp, b1⟩, hB1⟩ ⟨Bx, hBx, bX, rfl⟩ hlt
      obtain ⟨xi, xt, xr⟩ := x
      have S1 := HSt5.out.below hB1
      have cN := b1.cell
      have fN := b1.frozen
      have cL := S1.l.cell
      have cS := S1.s.cell
      have cR := S1.r.cell
      have fR := S1.r.frozen
      have x1 := bX.cell.1
      have x2 := bX.cell.2
      simp only at x1 x2
      have HCh : Hid (Chain L (pre ++ [(xi, xt, xr)]) ↔ (xi, xt, xr) = (pre.length, kd L pre.length)) := chain_snoc hp
      obtain ⟨b, off, e, c1, c2⟩ := S1.lo.at pre.length hlt
      have Hao : Hid (ao = some ⟨b, off, none⟩) := e
      rw [e] at cL
      clear e
      have e1 : decide ((n : Int) ≤ (pre.length : Int)) = false := by simp; omega
      have e2 : decide (n ≤ pre.length) = false := by simp; omega
      by_cases hi : xi = pre.length
      · subst hi
        by_cases hz : (xt, xr) = kd L pre.length
        · have HC : Hid (Chain L (pre ++ [(pre.length, xt, xr)])) := HCh.out.2 (by rw [← hz])
          rw [← hz] at c1 c2
          simp only at c1 c2
          have hq := run_neKey xt xr xt xr
          simp only [decide_true, Bool.not_true] at hq
          have hgd := fun op x y => run_eqGuard op x y xt xr xt xr
          clear hz HCh
          by_cases hs : (pre.length : Int) + 1 = stop
          · skip
            have hs' : ((pre.length : Int) + 1 == stop) = true := by simp; exact hs
            have Hs : Hid ((pre.length : Int) + 1 = stop) := hs
            clear hs
            have hbB : w.heap.size + 1 + 1 < Bn := HSt5.out.lt.1
            gi_wp2_with fail
            refine region_round (F := Fence.wide) (l := l) rfl (by kernel_rfl) (by kernel_rfl) (by kernel_rfl) ?_
            repeat (gi_big_quiet_step (fail))
            refine wpQuietIn_nil ?_
            intro _ hw'
            obtain ⟨nq, hw''⟩ := hw'
            subst hw''
            have cS' : ((W.drewN nq).setCell ⟨Bn, 0, none⟩ (.int .i64 ((pre.length : Int) + 1))).cell? ⟨w.heap.size + 1, 0, none⟩ = some (.int .i64 stop) := (World.cell?_setCell_other _ _ _ _ (by simp; try omega)).trans cS
            have cN' : ((W.drewN nq).setCell ⟨Bn, 0, none⟩ (.int .i64 ((pre.length : Int) + 1))).cell? ⟨Bn, 0, none⟩ = some (.int .i64 ((pre.length : Int) + 1)) := ((show Boxed (W.drewN nq) Bn 3 (.int .i64 (pre.length : Int)) from b1).set _).cell
            have HE : Hid (KeepsFrom W5.heap.size W ((W.drewN nq).setCell ⟨Bn, 0, none⟩ (.int .i64 ((pre.length : Int) + 1))) ∧ Below Bn W ((W.drewN nq).setCell ⟨Bn, 0, none⟩ (.int .i64 ((pre.length : Int) + 1))) ∧ Boxed ((W.drewN nq).setCell ⟨Bn, 0, none⟩ (.int .i64 ((pre.length : Int) + 1))) Bn 3 (.int .i64 ((pre ++ [(pre.length, xt, xr)]).length : Int)) ∧ Below Bn W5 ((W.drewN nq).setCell ⟨Bn, 0, none⟩ (.int .i64 ((pre.length : Int) + 1)))) := by
              have h1 := below_drew0 Bn W nq
              have h2 : Below Bn W ((W.drewN nq).setCell ⟨Bn, 0, none⟩ (.int .i64 ((pre.length : Int) + 1))) := h1.setCell (p := ⟨Bn, 0, none⟩) (Nat.le_refl _) _
              refine ⟨((keeps_drewN W nq).trans (KeepsOthers.setCell _ _ _)).from _, h2, ?_, hB1.trans h2⟩
              have h3 := (show Boxed (W.drewN nq) Bn 3 (.int .i64 (pre.length : Int)) from b1).set (.int .i64 ((pre.length : Int) + 1))
              rw [List.length_append, List.length_singleton]
              push_cast
              exact h3
            gi_wp2_with fail
            exact ⟨HE.out.1, .inr ⟨rfl, HC.out, by rw [List.length_append, List.length_singleton]; push_cast; exact Hs.out, HE.out.2.2.1, HE.out.2.2.2⟩⟩
          · skip
            have hs' : ((pre.length : Int) + 1 == stop) = false := by simp; exact hs
            have Hs : Hid (¬ (pre.length : Int) + 1 = stop) := hs
            clear hs
            have hbB : w.heap.size + 1 + 1 < Bn := HSt5.out.lt.1
            gi_wp2_with fail
            refine region_round (F := Fence.wide) (l := l) rfl (by kernel_rfl) (by kernel_rfl) (by kernel_rfl) ?_
            repeat (gi_big_quiet_step (fail))
            refine wpQuietIn_nil ?_
            intro _ hw'
            obtain ⟨nq, hw''⟩ := hw'
            subst hw''
            have cS' : ((W.drewN nq).setCell ⟨Bn, 0, none⟩ (.int .i64 ((pre.length : Int) + 1))).cell? ⟨w.heap.size + 1, 0, none⟩ = some (.int .i64 stop) := (World.cell?_setCell_other _ _ _ _ (by simp; try omega)).trans cS
            have cN' : ((W.drewN nq).setCell ⟨Bn, 0, none⟩ (.int .i64 ((pre.length : Int) + 1))).cell? ⟨Bn, 0, none⟩ = some (.int .i64 ((pre.length : Int) + 1)) := ((show Boxed (W.drewN nq) Bn 3 (.int .i64 (pre.length : Int)) from b1).set _).cell
            have HE : Hid (KeepsFrom W5.heap.size W ((W.drewN nq).setCell ⟨Bn, 0, none⟩ (.int .i64 ((pre.length : Int) + 1))) ∧ Below Bn W ((W.drewN nq).setCell ⟨Bn, 0, none⟩ (.int .i64 ((pre.length : Int) + 1))) ∧ Boxed ((W.drewN nq).setCell ⟨Bn, 0, none⟩ (.int .i64 ((pre.length : Int) + 1))) Bn 3 (.int .i64 ((pre ++ [(pre.length, xt, xr)]).length : Int)) ∧ Below Bn W5 ((W.drewN nq).setCell ⟨Bn, 0, none⟩ (.int .i64 ((pre.length : Int) + 1)))) := by
              have h1 := below_drew0 Bn W nq
              have h2 : Below Bn W ((W.drewN nq).setCell ⟨Bn, 0, none⟩ (.int .i64 ((pre.length : Int) + 1))) := h1.setCell (p := ⟨Bn, 0, none⟩) (Nat.le_refl _) _
              refine ⟨((keeps_drewN W nq).trans (KeepsOthers.setCell _ _ _)).from _, h2, ?_, hB1.trans h2⟩
              have h3 := (show Boxed (W.drewN nq) Bn 3 (.int .i64 (pre.length : Int)) from b1).set (.int .i64 ((pre.length : Int) + 1))
              rw [List.length_append, List.length_singleton]
              push_cast
              exact h3
            gi_wp2_with fail
            exact ⟨HE.out.1, HE.out.2.1, ⟨HC.out, HE.out.2.2.1⟩, HE.out.2.2.2⟩
        · have HC : Hid (¬ Chain L (pre ++ [(pre.length, xt, xr)])) := fun h => hz (by have := HCh.out.1 h; simpa using this)
          generalize kd L pre.length = z at *
          obtain ⟨z1, z2⟩ := z
          simp only at c1 c2
          have hq := run_neKey xt xr z1 z2
          rw [decide_eq_false hz, Bool.not_false] at hq
          have hgd := fun op x y => run_eqGuard op x y xt xr z1 z2
          clear hz HCh
          have hbB : w.heap.size + 1 + 1 < Bn := HSt5.out.lt.1
          gi_wp2_with fail
          refine region_round (F := Fence.wide) (l := l) rfl (by kernel_rfl) (by kernel_rfl) (by kernel_rfl) ?_
          repeat (gi_big_quiet_step (fail))
          refine wpQuietIn_nil ?_
          intro _ hw'
          obtain ⟨nq, hw''⟩ := hw'
          subst hw''
          gi_wp2_with fail
          exact ⟨((keeps_drewN W nq).trans (KeepsOthers.setCell _ _ _)).from _, .inl ⟨rfl, HC.out⟩⟩
      · have HC : Hid (¬ Chain L (pre ++ [(xi, xt, xr)])) := fun h => hi (by have := HCh.out.1 h; simp at this; exact this.1)
        have hi3 : ((xi : Int) != (pre.length : Int)) = true := by simp; omega
        have hi4 : (xi != pre.length) = true := by simp; exact hi
        clear hi HCh
        have hbB : w.heap.size + 1 + 1 < Bn := HSt5.out.lt.1
        gi_wp2_with fail
        refine region_round (F := Fence.wide) (l := l) rfl (by kernel_rfl) (by kernel_rfl) (by kernel_rfl) ?_
        repeat (gi_big_quiet_step (fail))
        refine wpQuietIn_nil ?_
        intro _ hw'
        obtain ⟨nq, hw''⟩ := hw'
        subst hw''
        gi_wp2_with fail
        exact ⟨((keeps_drewN W nq).trans (KeepsOthers.setCell _ _ _)).from _, .inl ⟨rfl, HC.out⟩⟩
    case done =>
      rintro D ys W hD rfl ⟨⟨hp, b1⟩, hB1⟩ hK
      refine ⟨.inl rfl, D, hD, rfl, ⟨n, Nat.le_refl _, .inl rfl, ?_, hB1⟩, hK⟩
      rw [upto_length] at b1; exact b1
    case stop =>
      rintro D c pre W hD ⟨k, hk, rfl⟩ hIx hK
      rcases hIx with ⟨_, hn⟩ | ⟨rfl, _, hs, b1, hB1⟩
      · exact absurd (chain_upto L k) hn
      · rw [upto_length] at hs b1
        gi_wp2
        first | exact ⟨D, hD, rfl, ⟨k, hk, .inr hs, b1⟩, hK⟩ | exact ⟨.inr rfl, D, hD, rfl, ⟨k, hk, .inr hs, b1, hB1⟩, hK⟩ | exact ⟨D, hD, rfl, ⟨k, hk, .inr hs, b1, hB1⟩, hK⟩
  case rest =>
    rintro D1 W6 hD1 ⟨k, hk, hkn, b1, hB1⟩ hK1
    have S6 := HSt5.out.below hB1
    have hbB : w.heap.size + 1 + 1 < Bn := HSt5.out.lt.1
    have cN := b1.cell
    have fN := b1.frozen
    have cL := S6.l.cell
    have cS := S6.s.cell
    have bN7 : Boxed (W6.setCell ⟨Bn, 0, none⟩ (.int .i64 0)) Bn 3 (.int .i64 0) := b1.set _
    have hB7 : Below Bn W5 (W6.setCell ⟨Bn, 0, none⟩ (.int .i64 0)) := hB1.setCell (p := ⟨Bn, 0, none⟩) (Nat.le_refl _) _
    have hK7 : (W6.setCell ⟨Bn, 0, none⟩ (.int .i64 0)).heap[D1]? = some (.deferred (some [])) := (KeepsOthers.setCell W6 ⟨Bn, 0, none⟩ _).same D1 _ hK1 rfl
    have cQ7 : (W6.setCell ⟨Bn, 0, none⟩ (.int .i64 0)).cell? ⟨Bq, 0, none⟩ = some (.func (.func 22) #[] #[.pointer (some ⟨Bs, 0, none⟩)]) := (HSt5.out.below hB7).q.cell
    clear S6 hK1
    by_cases hkn' : k = n
    · obtain hs' : n = k := hkn'.symm
      subst hs'
      clear hkn' hkn
      gi_wp2_with fail
      generalize W6.setCell ⟨Bn, 0, none⟩ (.int .i64 0) = W7 at *
      have HS7 : Hid (St W7 w.heap.size Bq Bs Bn n cap cC ao aC L stop) := HSt5.out.below hB7
      have hlt7 := bN7.lt
      have hD7 : D1 < W7.heap.size := (Array.getElem?_eq_some_iff.1 hK7).1
      have hl7s : Bs < W7.heap.size := HS7.out.b.lt
      clear cN fN cL cS cQ7 b1 hB1 bN
      refine wpIn_rangeFunc_ownH rfl (by omega) (gf := 22) (lb := #[.pointer (some ⟨Bs, 0, none⟩)]) rfl trivial (enters_of Try.func22 (by kernel_rfl) rfl)
        (all_stops Fence.wide 9 trivial rfl (by omega) Bs Bn n cC aC L (by omega) W7 hl7s (by omega) HS7.out.b.cell HS7.out.lc HS7.out.lt.2.2.2.2) belowK_t (belowK_b (by omega)) (Below.refl _ _) (fun _ => rfl)
        (fun pre W => ((Chain L pre ∧ Boxed W Bn 3 (.int .i64 (pre.length : Int))) ∧ W.heap[D1]? = some (.deferred (some []))) ∧ Below Bn W5 W)
        (fun c pre _ => c = .ret ∧ ¬ Chain L pre)
        (OwnFrom.and (OwnFrom.and (OwnFrom.and (ownFrom_pure _ _) (Own.from (boxed_own _ _ _) _)) (own_block hD7)) (ownFrom_below (by omega) (by omega)))
        (fun c => ownFrom_pure _ _)
        ⟨⟨⟨chain_nil L, bN7⟩, hK7⟩, hB7⟩
        (fun x a' W => ∃ Bx, Bn < Bx ∧ KBoxed W Bx x.2.1 x.2.2 ∧ a' = { tmps := #[(.slice ao n cap), (.int .i64 stop), (.pointer (some ⟨w.heap.size, 0, none⟩)), (.pointer (some ⟨w.heap.size + 1, 0, none⟩)), (.pointer (some ⟨w.heap.size + 1 + 1, 0, none⟩)), (.slice aO n cO), (.pointer (some ⟨Bq, 0, none⟩)), (.bool true), (.pointer (some ⟨Bn, 0, none⟩)), undef, undef, (.int .i64 (x.1 : Int)), (.pointer (some ⟨Bx, 0, none⟩)), undef, undef, undef, (.slice ao n cap), (.slice aO n cO), (.slice aO n cO), (.func (.func 22) #[] #[.pointer (some ⟨Bs, 0, none⟩)]), (.slice aO n cO), (.slice ao n cap), (.bool true), (.func (.func 22) #[] #[.pointer (some ⟨Bs, 0, none⟩)]), (.bool false), (.bool false), (.bool true), (.bool false), (.bool false), (.func (.func 22) #[] #[.pointer (some ⟨Bs, 0, none⟩)]), undef, undef, undef, undef, undef, undef, undef, undef, undef, undef, undef, undef, undef, undef, undef, undef, undef, undef, undef, undef, undef, undef, undef, undef, (.int .i64 (n : Int)), (.slice ao n cap), (.int .i64 (n : Int)), (.bool false), (.bool false), undef, undef, undef, (.bool false), (.func (.func 22) #[] #[.pointer (some ⟨Bs, 0, none⟩)]), (.int .i64 (x.1 : Int)), (.agg #[.int .i64 x.2.1, .int .i64 x.2.2]), undef, undef, undef, undef, undef, undef, undef, undef, undef, undef, undef, undef, undef, undef, undef, undef, undef, undef, undef, undef, undef, undef, undef, undef, undef, undef, undef, undef, undef, undef, undef, undef, undef, undef, undef, undef, undef, undef, undef, undef, undef, undef, undef, undef, undef, undef, undef, undef, undef, undef, undef, undef], defers := [] })
        (fun x a' _ X Y row hs hg hr => by obtain ⟨Bx, e1, e2, e3⟩ := hs; exact ⟨Bx, e1, e2.own hg (fun r e => (hr r e).2), e3⟩)
        ?assign ?body ?done ?stop
      case assign =>
        rintro l pre x W K ⟨⟨⟨hp, b1⟩, hd⟩, hB1⟩ hK
        gi_wp2
        exact hK _ _ ((KeepsOthers.alloc _ _).from _) ((Below.refl _ W).alloc (by have := b1.lt; omega) _) ⟨⟨⟨hp, b1.alloc _⟩, (Below.heap_alloc W _ D1 (Array.getElem?_eq_some_iff.1 hd).1).trans hd⟩, hB1.alloc (by have := b1.lt; omega) _⟩ ⟨W.heap.size, b1.lt, KBoxed.new W _ _, rfl⟩
      case done =>
        rintro D2 ys W hD2 rfl ⟨⟨⟨hp, b1⟩, hd⟩, hB1⟩ hK2
        rw [upto_length] at b1
        have S8 := HSt5.out.below hB1
        have cN := b1.cell
        have cL := S8.l.cell
        have cR := S8.r.cell
        have fR := S8.r.frozen
        gi_wp2
        have hK9 : (W.setCell ⟨w.heap.size + 1 + 1, 0, none⟩ (.bool true)).heap[D2]? = some (.deferred (some [])) := (KeepsOthers.setCell W ⟨w.heap.size + 1 + 1, 0, none⟩ _).same D2 _ hK2 rfl
        have hd9 : (W.setCell ⟨w.heap.size + 1 + 1, 0, none⟩ (.bool true)).heap[D1]? = some (.deferred (some [])) := (KeepsOthers.setCell W ⟨w.heap.size + 1 + 1, 0, none⟩ _).same D1 _ hd rfl
        have hb9 : Below w.heap.size w (W.setCell ⟨w.heap.size + 1 + 1, 0, none⟩ (.bool true)) := (hB5.trans (hB1.mono hwB)).setCell (p := ⟨w.heap.size + 1 + 1, 0, none⟩) (by simp; omega) _
        have r9 := (S8.r.set (.bool true)).cell
        have hsw := hb9.size
        have hwD1 : w.heap.size ≤ D1 := by have := hB5.size; omega
        have hwD2 : w.heap.size ≤ D2 := by omega
        generalize W.setCell ⟨w.heap.size + 1 + 1, 0, none⟩ (.bool true) = W9 at *
        have hd10 : (W9.putObj D2 (.deferred none)).heap[D1]? = some (.deferred (some [])) := ((grownBy_putObj' W9 D2 _).block D1 (Array.getElem?_eq_some_iff.1 hd9).1 (by simp; omega)).trans hd9
        have r10 := cell_kept r9 (grownBy_putObj' W9 D2 (.deferred none)) (fun r e => by cases e; exact ⟨_, hK9, rfl⟩)
        have r11 := cell_kept r10 (grownBy_putObj' _ D1 (.deferred none)) (fun r e => by cases e; exact ⟨_, hd10, rfl⟩)
        have b10 := hb9.trans (belowK_b (w := w) (Nat.le_refl _) W9 D2 _ (.deferred none) hwD2 hK9 rfl rfl)
        have b11 := b10.trans (belowK_b (w := w) (Nat.le_refl _) _ D1 _ (.deferred none) hwD1 hd10 rfl rfl)
        refine ⟨by simp, .inl ⟨D2, _, rfl, run_takeDeferred hK9, ⟨by simp, .inl ⟨D1, _, rfl, run_takeDeferred hd10, ?_⟩⟩⟩⟩
        refine ⟨.bool true, ?_, rfl, b11⟩
        simp [results, Try.f5, go_sem, r11]
      case stop =>
        rintro D2 c pre W hD2 ⟨k2, hk2, rfl⟩ ⟨_, hn⟩ hK2
        exact absurd (chain_upto L k2) hn
      case body =>
        rintro l pre x a' W hl ⟨r, hr⟩ ⟨⟨⟨hp, b1⟩, hd⟩, hB1⟩ ⟨Bx, hBx, bX, rfl⟩ hlt
        obtain ⟨xi, xt, xr⟩ := x
        have S1 := HSt5.out.below hB1
        have cN := b1.cell
        have fN := b1.frozen
        have cL := S1.l.cell
        have cR := S1.r.cell
        have fR := S1.r.frozen
        have cQ := S1.q.cell
        have x1 := bX.cell.1
        have x2 := bX.cell.2
        simp only at x1 x2
        have HCh : Hid (Chain L (pre ++ [(xi, xt, xr)]) ↔ (xi, xt, xr) = (pre.length, kd L pre.length)) := chain_snoc hp
        obtain ⟨b, off, e, c1, c2⟩ := S1.lo.at pre.length hlt
        rw [e] at cL
        clear e
        have e1 : decide ((n : Int) ≤ (pre.length : Int)) = false := by simp; omega
        have e2 : decide (n ≤ pre.length) = false := by simp; omega
        by_cases hi : xi = pre.length
        · subst hi
          by_cases hz : (xt, xr) = kd L pre.length
          · have HC : Hid (Chain L (pre ++ [(pre.length, xt, xr)])) := HCh.out.2 (by rw [← hz])
            rw [← hz] at c1 c2
            simp only at c1 c2
            have hq := run_neKey xt xr xt xr
            simp only [decide_true, Bool.not_true] at hq
            have hgd := fun op x y => run_eqGuard op x y xt xr xt xr
            clear hz HCh
            have hbB : w.heap.size + 1 + 1 < Bn := HSt5.out.lt.1
            gi_wp2_with fail
            refine region_round (F := Fence.wide) (l := l) rfl (by kernel_rfl) (by kernel_rfl) (by kernel_rfl) ?_
            repeat (gi_big_quiet_step (fail))
            refine wpQuietIn_nil ?_
            intro _ hw'
            obtain ⟨nq, hw''⟩ := hw'
            subst hw''
            have b2 : Boxed (W.drewN nq) Bn 3 (.int .i64 (pre.length : Int)) := b1
            have hd2 : (W.drewN nq).heap[D1]? = some (.deferred (some [])) := hd
            have hr2 : (W.drewN nq).heap[l]? = some (.loop r) := hr
            have hBV : Below Bn W (W.drewN nq) := below_drew0 Bn W nq
            have hKV : KeepsOthers W (W.drewN nq) := keeps_drewN W nq
            have HsM : Hid (W.heap.size ≤ (W.drewN nq).heap.size) := Nat.le_refl _
            clear cN fN cL cR fR cQ x1 x2 c1 c2 hq hgd e1 e2 b1 hd hr bX S1 hp
            generalize W.drewN nq = V at *
            have HSV : Hid (St V w.heap.size Bq Bs Bn n cap cC ao aC L stop) := HSt5.out.below (hB1.trans hBV)
            have cQ' : (V.alloc (.cells #[.int .i64 0] 3)).cell? ⟨Bq, 0, none⟩ = some (.func (.func 22) #[] #[.pointer (some ⟨Bs, 0, none⟩)]) := Grew.cell ((Grew.refl _).alloc _) HSV.out.q.cell
            gi_wp2_with fail
            have bM : Boxed (V.alloc (.cells #[.int .i64 0] 3)) V.heap.size 3 (.int .i64 0) := Boxed.new V _ _
            have b3 : Boxed (V.alloc (.cells #[.int .i64 0] 3)) Bn 3 (.int .i64 (pre.length : Int)) := b2.alloc _
            have hd3 : (V.alloc (.cells #[.int .i64 0] 3)).heap[D1]? = some (.deferred (some [])) := (Below.heap_alloc V _ D1 (Array.getElem?_eq_some_iff.1 hd2).1).trans hd2
            have hr3 : (V.alloc (.cells #[.int .i64 0] 3)).heap[l]? = some (.loop r) := (Below.heap_alloc V _ l (Array.getElem?_eq_some_iff.1 hr2).1).trans hr2
            have hBI : Below Bn W (V.alloc (.cells #[.int .i64 0] 3)) := hBV.alloc (by have := b2.lt; omega) _
            have hKI : KeepsFrom W7.heap.size W (V.alloc (.cells #[.int .i64 0] 3)) := (hKV.trans (KeepsOthers.alloc _ _)).from _
            have hBmV : Bn < V.heap.size := b2.lt
            clear cQ' b2 hd2 hr2 hBV hKV HSV
            generalize V.alloc (.cells #[.int .i64 0] 3) = WI at *
            generalize V.heap.size = Bm at *
            have HSI : Hid (St WI w.heap.size Bq Bs Bn n cap cC ao aC L stop) := HSt5.out.below (hB1.trans hBI)
            have hltI := bM.lt
            have hlIs : Bs < WI.heap.size := HSI.out.b.lt
            have hDI : D1 < WI.heap.size := (Array.getElem?_eq_some_iff.1 hd3).1
            have hsWI : W.heap.size ≤ WI.heap.size := hBI.size
            have hszW : W5.heap.size ≤ W.heap.size := hB1.size
            refine wpIn_rangeFunc_ownN (l₀ := l) (r₀ := r) rfl hr3 (by omega) (gf := 22) (lb := #[.pointer (some ⟨Bs, 0, none⟩)]) rfl trivial (enters_of Try.func22 (by kernel_rfl) rfl)
              ((all_stops Fence.wide 7 trivial rfl (by omega) Bs Bn n cC aC L (by omega) WI hlIs (by omega) HSI.out.b.cell HSI.out.lc HSI.out.lt.2.2.2.2).inRound l) belowK_t (belowK_b (by omega)) (Below.refl _ _) (fun _ => rfl)
              (fun pre' W' => (Chain L pre' ∧ pre'.length ≤ pre.length) ∧ Boxed W' Bm 3 (.int .i64 (pre'.length : Int)) ∧ Boxed W' Bn 3 (.int .i64 (pre.length : Int)) ∧ W'.heap[D1]? = some (.deferred (some [])) ∧ Below Bn W W' ∧ KeepsFrom W7.heap.size W W')
              (fun c pre' W' => (c = .ret ∧ ¬ Chain L pre') ∨ (c = .exit 4 ∧ pre'.length = pre.length + 1 ∧ Boxed W' Bm 3 (.int .i64 (pre'.length : Int)) ∧ Boxed W' Bn 3 (.int .i64 (pre.length : Int)) ∧ W'.heap[D1]? = some (.deferred (some [])) ∧ Below Bn W W' ∧ KeepsFrom W7.heap.size W W'))
              (OwnFrom.and (ownFrom_pure _ _) (OwnFrom.and (Own.from (boxed_own Bm 3 (fun (p : List KX) => Value.int .i64 (p.length : Int))) _) (OwnFrom.and (Own.from (boxed_own Bn 3 (fun (_ : List KX) => Value.int .i64 (pre.length : Int))) _) (OwnFrom.and (own_block hDI) (OwnFrom.and (ownFrom_below (by omega) (by omega)) (ownFrom_keepsFrom hsWI))))))
              (fun c s X Y row hs hg hr => hs.elim .inl (fun ⟨h1, h2, h3⟩ => .inr ⟨h1, h2, (OwnFrom.and (Own.from (boxed_own Bm 3 (fun (p : List KX) => Value.int .i64 (p.length : Int))) _) (OwnFrom.and (Own.from (boxed_own Bn 3 (fun (_ : List KX) => Value.int .i64 (pre.length : Int))) _) (OwnFrom.and (own_block hDI) (OwnFrom.and (ownFrom_below (by omega) (by omega)) (ownFrom_keepsFrom hsWI))))) s X Y row h3 hg hr⟩))
              ⟨⟨chain_nil L, Nat.zero_le _⟩, bM, b3, hd3, hBI, hKI⟩
              (fun y a' W' => ∃ By, Bm < By ∧ KBoxed W' By y.2.1 y.2.2 ∧ a' = { tmps := #[(.slice ao n cap), (.int .i64 stop), (.pointer (some ⟨w.heap.size, 0, none⟩)), (.pointer (some ⟨w.heap.size + 1, 0, none⟩)), (.pointer (some ⟨w.heap.size + 1 + 1, 0, none⟩)), (.slice aO n cO), (.pointer (some ⟨Bq, 0, none⟩)), (.bool true), (.pointer (some ⟨Bn, 0, none⟩)), undef, undef, (.int .i64 (pre.length : Int)), (.pointer (some ⟨Bx, 0, none⟩)), (.pointer (some ⟨Bm, 0, none⟩)), (.int .i64 (y.1 : Int)), (.pointer (some ⟨By, 0, none⟩)), (.slice ao n cap), (.slice aO n cO), (.slice aO n cO), (.func (.func 22) #[] #[.pointer (some ⟨Bs, 0, none⟩)]), (.slice aO n cO), (.slice ao n cap), (.bool true), (.func (.func 22) #[] #[.pointer (some ⟨Bs, 0, none⟩)]), (.bool false), (.bool false), (.bool true), (.bool false), (.bool false), (.func (.func 22) #[] #[.pointer (some ⟨Bs, 0, none⟩)]), undef, undef, undef, undef, undef, undef, undef, undef, undef, undef, undef, undef, undef, undef, undef, undef, undef, undef, undef, undef, undef, undef, undef, undef, (.int .i64 (n : Int)), (.slice ao n cap), (.int .i64 (n : Int)), (.bool false), (.bool false), undef, undef, undef, (.bool false), (.func (.func 22) #[] #[.pointer (some ⟨Bs, 0, none⟩)]), (.int .i64 (pre.length : Int)), (.agg #[.int .i64 xt, .int .i64 xr]), (.int .i64 (pre.length : Int)), (.slice (some ⟨b, off, none⟩) n cap), (.int .i64 (n : Int)), (.bool false), (.bool false), (.int .i64 (pre.length : Int)), (.int .i64 (pre.length : Int)), (.bool false), (.bool false), (.bool false), (.agg #[.int .i64 xt, .int .i64 xr]), (.slice (some ⟨b, off, none⟩) n cap), (.int .i64 (pre.length : Int)), (.pointer (some ⟨b, off + pre.length * 2, none⟩)), (.agg #[.int .i64 xt, .int .i64 xr]), (.bool false), (.bool false), (.func (.func 22) #[] #[.pointer (some ⟨Bs, 0, none⟩)]), (.int .i64 (y.1 : Int)), (.agg #[.int .i64 y.2.1, .int .i64 y.2.2]), undef, undef, undef, undef, undef, undef, undef, undef, undef, undef, undef, undef, undef, undef, undef, undef, undef, undef, undef, undef, undef, undef, undef, undef, undef, undef, undef, undef, undef, undef, undef, undef], defers := [] })
              (fun y a' _ X Y row hs hg hr => by obtain ⟨By, e1, e2, e3⟩ := hs; exact ⟨By, e1, e2.own hg (fun r e => (hr r e).2), e3⟩)
              ?assign2 ?body2 ?done2 ?stop2
            case assign2 =>
              rintro l2 pre' y W' K ⟨hp, m1, n1, d1, B1, K1⟩ hK
              gi_wp2
              have hm1 := m1.lt
              have ha := (Below.refl Bn W').alloc (by omega) (.cells #[.int .i64 y.2.1, .int .i64 y.2.2] 28)
              exact hK _ _ ((KeepsOthers.alloc _ _).from _) ha ⟨hp, m1.alloc _, n1.alloc _, (Below.heap_alloc W' _ D1 (Array.getElem?_eq_some_iff.1 d1).1).trans d1, B1.trans ha, K1.trans ((KeepsOthers.alloc _ _).from _)⟩ ⟨W'.heap.size, m1.lt, KBoxed.new W' _ _, rfl⟩
            case done2 =>
              rintro ys W' rfl ⟨⟨_, hle⟩, _⟩
              rw [upto_length] at hle
              omega
            case stop2 =>
              rintro c pre' W' ⟨k2, hk2, rfl⟩ hIx
              rcases hIx with ⟨_, hn⟩ | ⟨rfl, hlen, m1, n1, d1, B1, K1⟩
              · exact absurd (chain_upto L k2) hn
              · rw [upto_length] at hlen m1
                subst hlen
                have cM := m1.cell
                have cN := n1.cell
                have fN := n1.frozen
                have cM' : W'.cell? ⟨Bm, 0, none⟩ = some (.int .i64 ((pre.length : Int) + 1)) := by rw [cM]; push_cast; rfl
                clear cM
                have HE : Hid (KeepsFrom W7.heap.size W (W'.setCell ⟨Bn, 0, none⟩ (.int .i64 ((pre.length : Int) + 1))) ∧ Below Bn W (W'.setCell ⟨Bn, 0, none⟩ (.int .i64 ((pre.length : Int) + 1))) ∧ Boxed (W'.setCell ⟨Bn, 0, none⟩ (.int .i64 ((pre.length : Int) + 1))) Bn 3 (.int .i64 ((pre ++ [(pre.length, xt, xr)]).length : Int)) ∧ (W'.setCell ⟨Bn, 0, none⟩ (.int .i64 ((pre.length : Int) + 1))).heap[D1]? = some (.deferred (some []))) := by
                  refine ⟨K1.trans ((KeepsOthers.setCell _ _ _).from _), B1.setCell (p := ⟨Bn, 0, none⟩) (Nat.le_refl _) _, ?_, (KeepsOthers.setCell W' ⟨Bn, 0, none⟩ _).same D1 _ d1 rfl⟩
                  have h3 := n1.set (.int .i64 ((pre.length : Int) + 1))
                  rw [List.length_append, List.length_singleton]
                  push_cast
                  exact h3
                gi_wp2
                exact ⟨HE.out.1, HE.out.2.1, ⟨⟨HC.out, HE.out.2.2.1⟩, HE.out.2.2.2⟩, hB1.trans HE.out.2.1⟩
            case body2 =>
              rintro l2 pre' y a'' W' hl2 ⟨r2, hr2⟩ ⟨⟨hp', hle'⟩, m1, n1, d1, B1, K1⟩ ⟨By, hBy, bY, rfl⟩ hlt'
              obtain ⟨yi, yt, yr⟩ := y
              have S1 := HSt5.out.below (hB1.trans B1)
              have cM := m1.cell
              have fM := m1.frozen
              have cN := n1.cell
              have cL := S1.l.cell
              have cR := S1.r.cell
              have fR := S1.r.frozen
              have y1 := bY.cell.1
              have y2 := bY.cell.2
              simp only at y1 y2
              have HCh : Hid (Chain L (pre' ++ [(yi, yt, yr)]) ↔ (yi, yt, yr) = (pre'.length, kd L pre'.length)) := chain_snoc hp'
              obtain ⟨b2, off2, e, c1, c2⟩ := S1.lo.at pre'.length hlt'
              rw [e] at cL
              clear e
              have e1 : decide ((n : Int) ≤ (pre'.length : Int)) = false := by simp; omega
              have e2 : decide (n ≤ pre'.length) = false := by simp; omega
              by_cases hi : yi = pre'.length
              · subst hi
                by_cases hz : (yt, yr) = kd L pre'.length
                · have HC2 : Hid (Chain L (pre' ++ [(pre'.length, yt, yr)])) := HCh.out.2 (by rw [← hz])
                  rw [← hz] at c1 c2
                  simp only at c1 c2
                  have hq := run_neKey yt yr yt yr
                  simp only [decide_true, Bool.not_true] at hq
                  have hgd := fun op x y => run_eqGuard op x y yt yr yt yr
                  clear hz HCh
                  by_cases hs : pre.length < pre'.length + 1
                  · skip
                    have hs1 : decide ((pre.length : Int) < (pre'.length : Int) + 1) = true := by simp; omega
                    have hs2 : decide (pre.length < pre'.length + 1) = true := by simp; omega
                    have Hs : Hid (pre.length < pre'.length + 1) := hs
                    clear hs
                    have hbB : w.heap.size + 1 + 1 < Bn := HSt5.out.lt.1
                    gi_wp2_with fail
                    refine region_round (F := Fence.wide) (l := l2) rfl (by kernel_rfl) (by kernel_rfl) (by kernel_rfl) ?_
                    repeat (gi_big_quiet_step (fail))
                    refine wpQuietIn_nil ?_
                    intro _ hw'
                    obtain ⟨nq, hw''⟩ := hw'
                    subst hw''
                    have n2 : Boxed ((W'.drewN nq).setCell ⟨Bm, 0, none⟩ (.int .i64 ((pre'.length : Int) + 1))) Bn 3 (.int .i64 (pre.length : Int)) := (show Boxed (W'.drewN nq) Bn 3 (.int .i64 (pre.length : Int)) from n1).other (by omega) _
                    have m2 : Boxed ((W'.drewN nq).setCell ⟨Bm, 0, none⟩ (.int .i64 ((pre'.length : Int) + 1))) Bm 3 (.int .i64 ((pre'.length : Int) + 1)) := (show Boxed (W'.drewN nq) Bm 3 (.int .i64 (pre'.length : Int)) from m1).set _
                    have cN' := n2.cell
                    have cM' := m2.cell
                    have HE : Hid (KeepsOthers W' ((W'.drewN nq).setCell ⟨Bm, 0, none⟩ (.int .i64 ((pre'.length : Int) + 1))) ∧ Below Bn W' ((W'.drewN nq).setCell ⟨Bm, 0, none⟩ (.int .i64 ((pre'.length : Int) + 1))) ∧ Boxed ((W'.drewN nq).setCell ⟨Bm, 0, none⟩ (.int .i64 ((pre'.length : Int) + 1))) Bm 3 (.int .i64 ((pre' ++ [(pre'.length, yt, yr)]).length : Int)) ∧ Boxed ((W'.drewN nq).setCell ⟨Bm, 0, none⟩ (.int .i64 ((pre'.length : Int) + 1))) Bn 3 (.int .i64 (pre.length : Int)) ∧ ((W'.drewN nq).setCell ⟨Bm, 0, none⟩ (.int .i64 ((pre'.length : Int) + 1))).heap[D1]? = some (.deferred (some []))) := by
                      have h1 := below_drew0 Bn W' nq
                      have k1 := (keeps_drewN W' nq).trans (KeepsOthers.setCell (W'.drewN nq) ⟨Bm, 0, none⟩ (.int .i64 ((pre'.length : Int) + 1)))
                      refine ⟨k1, h1.setCell (p := ⟨Bm, 0, none⟩) (by simp; omega) _, ?_, n2, k1.same D1 _ d1 rfl⟩
                      rw [List.length_append, List.length_singleton]
                      push_cast
                      exact m2
                    gi_wp2_with fail
                    obtain ⟨h1, h2, h3, h4, h5⟩ := HE.out
                    refine ⟨h1.from _, .inr ⟨rfl, ?_, h3, h4, h5, B1.trans h2, K1.trans (h1.from _)⟩⟩
                    rw [List.length_append, List.length_singleton]
                    have := Hs.out; omega
                  · skip
                    have hs1 : decide ((pre.length : Int) < (pre'.length : Int) + 1) = false := by simp; omega
                    have hs2 : decide (pre.length < pre'.length + 1) = false := by simp; omega
                    have Hs : Hid (¬ pre.length < pre'.length + 1) := hs
                    clear hs
                    have hbB : w.heap.size + 1 + 1 < Bn := HSt5.out.lt.1
                    gi_wp2_with fail
                    refine region_round (F := Fence.wide) (l := l2) rfl (by kernel_rfl) (by kernel_rfl) (by kernel_rfl) ?_
                    repeat (gi_big_quiet_step (fail))
                    refine wpQuietIn_nil ?_
                    intro _ hw'
                    obtain ⟨nq, hw''⟩ := hw'
                    subst hw''
                    have n2 : Boxed ((W'.drewN nq).setCell ⟨Bm, 0, none⟩ (.int .i64 ((pre'.length : Int) + 1))) Bn 3 (.int .i64 (pre.length : Int)) := (show Boxed (W'.drewN nq) Bn 3 (.int .i64 (pre.length : Int)) from n1).other (by omega) _
                    have m2 : Boxed ((W'.drewN nq).setCell ⟨Bm, 0, none⟩ (.int .i64 ((pre'.length : Int) + 1))) Bm 3 (.int .i64 ((pre'.length : Int) + 1)) := (show Boxed (W'.drewN nq) Bm 3 (.int .i64 (pre'.length : Int)) from m1).set _
                    have cN' := n2.cell
                    have cM' := m2.cell
                    have HE : Hid (KeepsOthers W' ((W'.drewN nq).setCell ⟨Bm, 0, none⟩ (.int .i64 ((pre'.length : Int) + 1))) ∧ Below Bn W' ((W'.drewN nq).setCell ⟨Bm, 0, none⟩ (.int .i64 ((pre'.length : Int) + 1))) ∧ Boxed ((W'.drewN nq).setCell ⟨Bm, 0, none⟩ (.int .i64 ((pre'.length : Int) + 1))) Bm 3 (.int .i64 ((pre' ++ [(pre'.length, yt, yr)]).length : Int)) ∧ Boxed ((W'.drewN nq).setCell ⟨Bm, 0, none⟩ (.int .i64 ((pre'.length : Int) + 1))) Bn 3 (.int .i64 (pre.length : Int)) ∧ ((W'.drewN nq).setCell ⟨Bm, 0, none⟩ (.int .i64 ((pre'.length : Int) + 1))).heap[D1]? = some (.deferred (some []))) := by
                      have h1 := below_drew0 Bn W' nq
                      have k1 := (keeps_drewN W' nq).trans (KeepsOthers.setCell (W'.drewN nq) ⟨Bm, 0, none⟩ (.int .i64 ((pre'.length : Int) + 1)))
                      refine ⟨k1, h1.setCell (p := ⟨Bm, 0, none⟩) (by simp; omega) _, ?_, n2, k1.same D1 _ d1 rfl⟩
                      rw [List.length_append, List.length_singleton]
                      push_cast
                      exact m2
                    gi_wp2_with fail
                    obtain ⟨h1, h2, h3, h4, h5⟩ := HE.out
                    refine ⟨h1.from _, h2, ⟨HC2.out, ?_⟩, h3, h4, h5, B1.trans h2, K1.trans (h1.from _)⟩
                    rw [List.length_append, List.length_singleton]
                    have := Hs.out; omega
                · have HC2 : Hid (¬ Chain L (pre' ++ [(pre'.length, yt, yr)])) := fun h => hz (by have := HCh.out.1 h; simpa using this)
                  generalize kd L pre'.length = z at *
                  obtain ⟨z1, z2⟩ := z
                  simp only at c1 c2
                  have hq := run_neKey yt yr z1 z2
                  rw [decide_eq_false hz, Bool.not_false] at hq
                  have hgd := fun op x y => run_eqGuard op x y yt yr z1 z2
                  clear hz HCh
                  have hbB : w.heap.size + 1 + 1 < Bn := HSt5.out.lt.1
                  gi_wp2_with fail
                  refine region_round (F := Fence.wide) (l := l2) rfl (by kernel_rfl) (by kernel_rfl) (by kernel_rfl) ?_
                  repeat (gi_big_quiet_step (fail))
                  refine wpQuietIn_nil ?_
                  intro _ hw'
                  obtain ⟨nq, hw''⟩ := hw'
                  subst hw''
                  gi_wp2_with fail
                  exact ⟨((keeps_drewN W' nq).trans (KeepsOthers.setCell _ _ _)).from _, .inl ⟨rfl, HC2.out⟩⟩
              · have HC2 : Hid (¬ Chain L (pre' ++ [(yi, yt, yr)])) := fun h => hi (by have := HCh.out.1 h; simp at this; exact this.1)
                have hi3 : ((yi : Int) != (pre'.length : Int)) = true := by simp; omega
                have hi4 : (yi != pre'.length) = true := by simp; exact hi
                clear hi HCh
                have hbB : w.heap.size + 1 + 1 < Bn := HSt5.out.lt.1
                gi_wp2_with fail
                refine region_round (F := Fence.wide) (l := l2) rfl (by kernel_rfl) (by kernel_rfl) (by kernel_rfl) ?_
                repeat (gi_big_quiet_step (fail))
                refine wpQuietIn_nil ?_
                intro _ hw'
                obtain ⟨nq, hw''⟩ := hw'
                subst hw''
                gi_wp2_with fail
                exact ⟨((keeps_drewN W' nq).trans (KeepsOthers.setCell _ _ _)).from _, .inl ⟨rfl, HC2.out⟩⟩
          · have HC : Hid (¬ Chain L (pre ++ [(pre.length, xt, xr)])) := fun h => hz (by have := HCh.out.1 h; simpa using this)
            generalize kd L pre.length = z at *
            obtain ⟨z1, z2⟩ := z
            simp only at c1 c2
            have hq := run_neKey xt xr z1 z2
            rw [decide_eq_false hz, Bool.not_false] at hq
            have hgd := fun op x y => run_eqGuard op x y xt xr z1 z2
            clear hz HCh
            have hbB : w.heap.size + 1 + 1 < Bn := HSt5.out.lt.1
            gi_wp2_with fail
            refine region_round (F := Fence.wide) (l := l) rfl (by kernel_rfl) (by kernel_rfl) (by kernel_rfl) ?_
            repeat (gi_big_quiet_step (fail))
            refine wpQuietIn_nil ?_
            intro _ hw'
            obtain ⟨nq, hw''⟩ := hw'
            subst hw''
            gi_wp2_with fail
            exact ⟨((keeps_drewN W nq).trans (KeepsOthers.setCell _ _ _)).from _, rfl, HC.out⟩
        · have HC : Hid (¬ Chain L (pre ++ [(xi, xt, xr)])) := fun h => hi (by have := HCh.out.1 h; simp at this; exact this.1)
          have hi3 : ((xi : Int) != (pre.length : Int)) = true := by simp; omega
          have hi4 : (xi != pre.length) = true := by simp; exact hi
          clear hi HCh
          have hbB : w.heap.size + 1 + 1 < Bn := HSt5.out.lt.1
          gi_wp2_with fail
          refine region_round (F := Fence.wide) (l := l) rfl (by kernel_rfl) (by kernel_rfl) (by kernel_rfl) ?_
          repeat (gi_big_quiet_step (fail))
          refine wpQuietIn_nil ?_
          intro _ hw'
          obtain ⟨nq, hw''⟩ := hw'
          subst hw''
          gi_wp2_with fail
          exact ⟨((keeps_drewN W nq).trans (KeepsOthers.setCell _ _ _)).from _, rfl, HC.out⟩
    · have hs : (k : Int) = stop := hkn.resolve_left hkn'
      have q1 : ((k : Int) != (n : Int)) = true := by simp; omega
      have q2 : (k != n) = true := by simp; exact hkn'
      have q3 : ((k : Int) != stop) = false := by simp; exact hs
      clear hs hkn hkn'
      gi_wp2_with fail
      generalize W6.setCell ⟨Bn, 0, none⟩ (.int .i64 0) = W7 at *
      have HS7 : Hid (St W7 w.heap.size Bq Bs Bn n cap cC ao aC L stop) := HSt5.out.below hB7
      have hlt7 := bN7.lt
      have hD7 : D1 < W7.heap.size := (Array.getElem?_eq_some_iff.1 hK7).1
      have hl7s : Bs < W7.heap.size := HS7.out.b.lt
      clear cN fN cL cS cQ7 b1 hB1 bN
      refine wpIn_rangeFunc_ownH rfl (by omega) (gf := 22) (lb := #[.pointer (some ⟨Bs, 0, none⟩)]) rfl trivial (enters_of Try.func22 (by kernel_rfl) rfl)
        (all_stops Fence.wide 9 trivial rfl (by omega) Bs Bn n cC aC L (by omega) W7 hl7s (by omega) HS7.out.b.cell HS7.out.lc HS7.out.lt.2.2.2.2) belowK_t (belowK_b (by omega)) (Below.refl _ _) (fun _ => rfl)
        (fun pre W => ((Chain L pre ∧ Boxed W Bn 3 (.int .i64 (pre.length : Int))) ∧ W.heap[D1]? = some (.deferred (some []))) ∧ Below Bn W5 W)
        (fun c pre _ => c = .ret ∧ ¬ Chain L pre)
        (OwnFrom.and (OwnFrom.and (OwnFrom.and (ownFrom_pure _ _) (Own.from (boxed_own _ _ _) _)) (own_block hD7)) (ownFrom_below (by omega) (by omega)))
        (fun c => ownFrom_pure _ _)
        ⟨⟨⟨chain_nil L, bN7⟩, hK7⟩, hB7⟩
        (fun x a' W => ∃ Bx, Bn < Bx ∧ KBoxed W Bx x.2.1 x.2.2 ∧ a' = { tmps := #[(.slice ao n cap), (.int .i64 stop), (.pointer (some ⟨w.heap.size, 0, none⟩)), (.pointer (some ⟨w.heap.size + 1, 0, none⟩)), (.pointer (some ⟨w.heap.size + 1 + 1, 0, none⟩)), (.slice aO n cO), (.pointer (some ⟨Bq, 0, none⟩)), (.bool true), (.pointer (some ⟨Bn, 0, none⟩)), undef, undef, (.int .i64 (x.1 : Int)), (.pointer (some ⟨Bx, 0, none⟩)), undef, undef, undef, (.slice ao n cap), (.slice aO n cO), (.slice aO n cO), (.func (.func 22) #[] #[.pointer (some ⟨Bs, 0, none⟩)]), (.slice aO n cO), (.slice ao n cap), (.bool true), (.func (.func 22) #[] #[.pointer (some ⟨Bs, 0, none⟩)]), (.bool false), (.bool false), (.bool true), (.bool false), (.bool false), (.func (.func 22) #[] #[.pointer (some ⟨Bs, 0, none⟩)]), undef, undef, undef, undef, undef, undef, undef, undef, undef, undef, undef, undef, undef, undef, undef, undef, undef, undef, undef, undef, undef, undef, undef, undef, (.int .i64 (k : Int)), (.slice ao n cap), (.int .i64 (n : Int)), (.bool true), (.bool true), (.int .i64 (k : Int)), (.int .i64 stop), (.bool false), (.bool false), (.func (.func 22) #[] #[.pointer (some ⟨Bs, 0, none⟩)]), (.int .i64 (x.1 : Int)), (.agg #[.int .i64 x.2.1, .int .i64 x.2.2]), undef, undef, undef, undef, undef, undef, undef, undef, undef, undef, undef, undef, undef, undef, undef, undef, undef, undef, undef, undef, undef, undef, undef, undef, undef, undef, undef, undef, undef, undef, undef, undef, undef, undef, undef, undef, undef, undef, undef, undef, undef, undef, undef, undef, undef, undef, undef, undef, undef, undef, undef, undef], defers := [] })
        (fun x a' _ X Y row hs hg hr => by obtain ⟨Bx, e1, e2, e3⟩ := hs; exact ⟨Bx, e1, e2.own hg (fun r e => (hr r e).2), e3⟩)
        ?assign ?body ?done ?stop
      case assign =>
        rintro l pre x W K ⟨⟨⟨hp, b1⟩, hd⟩, hB1⟩ hK
        gi_wp2
        exact hK _ _ ((KeepsOthers.alloc _ _).from _) ((Below.refl _ W).alloc (by have := b1.lt; omega) _) ⟨⟨⟨hp, b1.alloc _⟩, (Below.heap_alloc W _ D1 (Array.getElem?_eq_some_iff.1 hd).1).trans hd⟩, hB1.alloc (by have := b1.lt; omega) _⟩ ⟨W.heap.size, b1.lt, KBoxed.new W _ _, rfl⟩
      case done =>
        rintro D2 ys W hD2 rfl ⟨⟨⟨hp, b1⟩, hd⟩, hB1⟩ hK2
        rw [upto_length] at b1
        have S8 := HSt5.out.below hB1
        have cN := b1.cell
        have cL := S8.l.cell
        have cR := S8.r.cell
        have fR := S8.r.frozen
        gi_wp2
        have hK9 : (W.setCell ⟨w.heap.size + 1 + 1, 0, none⟩ (.bool true)).heap[D2]? = some (.deferred (some [])) := (KeepsOthers.setCell W ⟨w.heap.size + 1 + 1, 0, none⟩ _).same D2 _ hK2 rfl
        have hd9 : (W.setCell ⟨w.heap.size + 1 + 1, 0, none⟩ (.bool true)).heap[D1]? = some (.deferred (some [])) := (KeepsOthers.setCell W ⟨w.heap.size + 1 + 1, 0, none⟩ _).same D1 _ hd rfl
        have hb9 : Below w.heap.size w (W.setCell ⟨w.heap.size + 1 + 1, 0, none⟩ (.bool true)) := (hB5.trans (hB1.mono hwB)).setCell (p := ⟨w.heap.size + 1 + 1, 0, none⟩) (by simp; omega) _
        have r9 := (S8.r.set (.bool true)).cell
        have hsw := hb9.size
        have hwD1 : w.heap.size ≤ D1 := by have := hB5.size; omega
        have hwD2 : w.heap.size ≤ D2 := by omega
        generalize W.setCell ⟨w.heap.size + 1 + 1, 0, none⟩ (.bool true) = W9 at *
        have hd10 : (W9.putObj D2 (.deferred none)).heap[D1]? = some (.deferred (some [])) := ((grownBy_putObj' W9 D2 _).block D1 (Array.getElem?_eq_some_iff.1 hd9).1 (by simp; omega)).trans hd9
        have r10 := cell_kept r9 (grownBy_putObj' W9 D2 (.deferred none)) (fun r e => by cases e; exact ⟨_, hK9, rfl⟩)
        have r11 := cell_kept r10 (grownBy_putObj' _ D1 (.deferred none)) (fun r e => by cases e; exact ⟨_, hd10, rfl⟩)
        have b10 := hb9.trans (belowK_b (w := w) (Nat.le_refl _) W9 D2 _ (.deferred none) hwD2 hK9 rfl rfl)
        have b11 := b10.trans (belowK_b (w := w) (Nat.le_refl _) _ D1 _ (.deferred none) hwD1 hd10 rfl rfl)
        refine ⟨by simp, .inl ⟨D2, _, rfl, run_takeDeferred hK9, ⟨by simp, .inl ⟨D1, _, rfl, run_takeDeferred hd10, ?_⟩⟩⟩⟩
        refine ⟨.bool true, ?_, rfl, b11⟩
        simp [results, Try.f5, go_sem, r11]
      case stop =>
        rintro D2 c pre W hD2 ⟨k2, hk2, rfl⟩ ⟨_, hn⟩ hK2
        exact absurd (chain_upto L k2) hn
      case body =>
        rintro l pre x a' W hl ⟨r, hr⟩ ⟨⟨⟨hp, b1⟩, hd⟩, hB1⟩ ⟨Bx, hBx, bX, rfl⟩ hlt
        obtain ⟨xi, xt, xr⟩ := x
        have S1 := HSt5.out.below hB1
        have cN := b1.cell
        have fN := b1.frozen
        have cL := S1.l.cell
        have cR := S1.r.cell
        have fR := S1.r.frozen
        have cQ := S1.q.cell
        have x1 := bX.cell.1
        have x2 := bX.cell.2
        simp only at x1 x2
        have HCh : Hid (Chain L (pre ++ [(xi, xt, xr)]) ↔ (xi, xt, xr) = (pre.length, kd L pre.length)) := chain_snoc hp
        obtain ⟨b, off, e, c1, c2⟩ := S1.lo.at pre.length hlt
        rw [e] at cL
        clear e
        have e1 : decide ((n : Int) ≤ (pre.length : Int)) = false := by simp; omega
        have e2 : decide (n ≤ pre.length) = false := by simp; omega
        by_cases hi : xi = pre.length
        · subst hi
          by_cases hz : (xt, xr) = kd L pre.length
          · have HC : Hid (Chain L (pre ++ [(pre.length, xt, xr)])) := HCh.out.2 (by rw [← hz])
            rw [← hz] at c1 c2
            simp only at c1 c2
            have hq := run_neKey xt xr xt xr
            simp only [decide_true, Bool.not_true] at hq
            have hgd := fun op x y => run_eqGuard op x y xt xr xt xr
            clear hz HCh
            have hbB : w.heap.size + 1 + 1 < Bn := HSt5.out.lt.1
            gi_wp2_with fail
            refine region_round (F := Fence.wide) (l := l) rfl (by kernel_rfl) (by kernel_rfl) (by kernel_rfl) ?_
            repeat (gi_big_quiet_step (fail))
            refine wpQuietIn_nil ?_
            intro _ hw'
            obtain ⟨nq, hw''⟩ := hw'
            subst hw''
            have b2 : Boxed (W.drewN nq) Bn 3 (.int .i64 (pre.length : Int)) := b1
            have hd2 : (W.drewN nq).heap[D1]? = some (.deferred (some [])) := hd
            have hr2 : (W.drewN nq).heap[l]? = some (.loop r) := hr
            have hBV : Below Bn W (W.drewN nq) := below_drew0 Bn W nq
            have hKV : KeepsOthers W (W.drewN nq) := keeps_drewN W nq
            have HsM : Hid (W.heap.size ≤ (W.drewN nq).heap.size) := Nat.le_refl _
            clear cN fN cL cR fR cQ x1 x2 c1 c2 hq hgd e1 e2 b1 hd hr bX S1 hp
            generalize W.drewN nq = V at *
            have HSV : Hid (St V w.heap.size Bq Bs Bn n cap cC ao aC L stop) := HSt5.out.below (hB1.trans hBV)
            have cQ' : (V.alloc (.cells #[.int .i64 0] 3)).cell? ⟨Bq, 0, none⟩ = some (.func (.func 22) #[] #[.pointer (some ⟨Bs, 0, none⟩)]) := Grew.cell ((Grew.refl _).alloc _) HSV.out.q.cell
            gi_wp2_with fail
            have bM : Boxed (V.alloc (.cells #[.int .i64 0] 3)) V.heap.size 3 (.int .i64 0) := Boxed.new V _ _
            have b3 : Boxed (V.alloc (.cells #[.int .i64 0] 3)) Bn 3 (.int .i64 (pre.length : Int)) := b2.alloc _
            have hd3 : (V.alloc (.cells #[.int .i64 0] 3)).heap[D1]? = some (.deferred (some [])) := (Below.heap_alloc V _ D1 (Array.getElem?_eq_some_iff.1 hd2).1).trans hd2
            have hr3 : (V.alloc (.cells #[.int .i64 0] 3)).heap[l]? = some (.loop r) := (Below.heap_alloc V _ l (Array.getElem?_eq_some_iff.1 hr2).1).trans hr2
            have hBI : Below Bn W (V.alloc (.cells #[.int .i64 0] 3)) := hBV.alloc (by have := b2.lt; omega) _
            have hKI : KeepsFrom W7.heap.size W (V.alloc (.cells #[.int .i64 0] 3)) := (hKV.trans (KeepsOthers.alloc _ _)).from _
            have hBmV : Bn < V.heap.size := b2.lt
            clear cQ' b2 hd2 hr2 hBV hKV HSV
            generalize V.alloc (.cells #[.int .i64 0] 3) = WI at *
            generalize V.heap.size = Bm at *
            have HSI : Hid (St WI w.heap.size Bq Bs Bn n cap cC ao aC L stop) := HSt5.out.below (hB1.trans hBI)
            have hltI := bM.lt
            have hlIs : Bs < WI.heap.size := HSI.out.b.lt
            have hDI : D1 < WI.heap.size := (Array.getElem?_eq_some_iff.1 hd3).1
            have hsWI : W.heap.size ≤ WI.heap.size := hBI.size
            have hszW : W5.heap.size ≤ W.heap.size := hB1.size
            refine wpIn_rangeFunc_ownN (l₀ := l) (r₀ := r) rfl hr3 (by omega) (gf := 22) (lb := #[.pointer (some ⟨Bs, 0, none⟩)]) rfl trivial (enters_of Try.func22 (by kernel_rfl) rfl)
              ((all_stops Fence.wide 7 trivial rfl (by omega) Bs Bn n cC aC L (by omega) WI hlIs (by omega) HSI.out.b.cell HSI.out.lc HSI.out.lt.2.2.2.2).inRound l) belowK_t (belowK_b (by omega)) (Below.refl _ _) (fun _ => rfl)
              (fun pre' W' => (Chain L pre' ∧ pre'.length ≤ pre.length) ∧ Boxed W' Bm 3 (.int .i64 (pre'.length : Int)) ∧ Boxed W' Bn 3 (.int .i64 (pre.length : Int)) ∧ W'.heap[D1]? = some (.deferred (some [])) ∧ Below Bn W W' ∧ KeepsFrom W7.heap.size W W')
              (fun c pre' W' => (c = .ret ∧ ¬ Chain L pre') ∨ (c = .exit 4 ∧ pre'.length = pre.length + 1 ∧ Boxed W' Bm 3 (.int .i64 (pre'.length : Int)) ∧ Boxed W' Bn 3 (.int .i64 (pre.length : Int)) ∧ W'.heap[D1]? = some (.deferred (some [])) ∧ Below Bn W W' ∧ KeepsFrom W7.heap.size W W'))
              (OwnFrom.and (ownFrom_pure _ _) (OwnFrom.and (Own.from (boxed_own Bm 3 (fun (p : List KX) => Value.int .i64 (p.length : Int))) _) (OwnFrom.and (Own.from (boxed_own Bn 3 (fun (_ : List KX) => Value.int .i64 (pre.length : Int))) _) (OwnFrom.and (own_block hDI) (OwnFrom.and (ownFrom_below (by omega) (by omega)) (ownFrom_keepsFrom hsWI))))))
              (fun c s X Y row hs hg hr => hs.elim .inl (fun ⟨h1, h2, h3⟩ => .inr ⟨h1, h2, (OwnFrom.and (Own.from (boxed_own Bm 3 (fun (p : List KX) => Value.int .i64 (p.length : Int))) _) (OwnFrom.and (Own.from (boxed_own Bn 3 (fun (_ : List KX) => Value.int .i64 (pre.length : Int))) _) (OwnFrom.and (own_block hDI) (OwnFrom.and (ownFrom_below (by omega) (by omega)) (ownFrom_keepsFrom hsWI))))) s X Y row h3 hg hr⟩))
              ⟨⟨chain_nil L, Nat.zero_le _⟩, bM, b3, hd3, hBI, hKI⟩
              (fun y a' W' => ∃ By, Bm < By ∧ KBoxed W' By y.2.1 y.2.2 ∧ a' = { tmps := #[(.slice ao n cap), (.int .i64 stop), (.pointer (some ⟨w.heap.size, 0, none⟩)), (.pointer (some ⟨w.heap.size + 1, 0, none⟩)), (.pointer (some ⟨w.heap.size + 1 + 1, 0, none⟩)), (.slice aO n cO), (.pointer (some ⟨Bq, 0, none⟩)), (.bool true), (.pointer (some ⟨Bn, 0, none⟩)), undef, undef, (.int .i64 (pre.length : Int)), (.pointer (some ⟨Bx, 0, none⟩)), (.pointer (some ⟨Bm, 0, none⟩)), (.int .i64 (y.1 : Int)), (.pointer (some ⟨By, 0, none⟩)), (.slice ao n cap), (.slice aO n cO), (.slice aO n cO), (.func (.func 22) #[] #[.pointer (some ⟨Bs, 0, none⟩)]), (.slice aO n cO), (.slice ao n cap), (.bool true), (.func (.func 22) #[] #[.pointer (some ⟨Bs, 0, none⟩)]), (.bool false), (.bool false), (.bool true), (.bool false), (.bool false), (.func (.func 22) #[] #[.pointer (some ⟨Bs, 0, none⟩)]), undef, undef, undef, undef, undef, undef, undef, undef, undef, undef, undef, undef, undef, undef, undef, undef, undef, undef, undef, undef, undef, undef, undef, undef, (.int .i64 (k : Int)), (.slice ao n cap), (.int .i64 (n : Int)), (.bool true), (.bool true), (.int .i64 (k : Int)), (.int .i64 stop), (.bool false), (.bool false), (.func (.func 22) #[] #[.pointer (some ⟨Bs, 0, none⟩)]), (.int .i64 (pre.length : Int)), (.agg #[.int .i64 xt, .int .i64 xr]), (.int .i64 (pre.length : Int)), (.slice (some ⟨b, off, none⟩) n cap), (.int .i64 (n : Int)), (.bool false), (.bool false), (.int .i64 (pre.length : Int)), (.int .i64 (pre.length : Int)), (.bool false), (.bool false), (.bool false), (.agg #[.int .i64 xt, .int .i64 xr]), (.slice (some ⟨b, off, none⟩) n cap), (.int .i64 (pre.length : Int)), (.pointer (some ⟨b, off + pre.length * 2, none⟩)), (.agg #[.int .i64 xt, .int .i64 xr]), (.bool false), (.bool false), (.func (.func 22) #[] #[.pointer (some ⟨Bs, 0, none⟩)]), (.int .i64 (y.1 : Int)), (.agg #[.int .i64 y.2.1, .int .i64 y.2.2]), undef, undef, undef, undef, undef, undef, undef, undef, undef, undef, undef, undef, undef, undef, undef, undef, undef, undef, undef, undef, undef, undef, undef, undef, undef, undef, undef, undef, undef, undef, undef, undef], defers := [] })
              (fun y a' _ X Y row hs hg hr => by obtain ⟨By, e1, e2, e3⟩ := hs; exact ⟨By, e1, e2.own hg (fun r e => (hr r e).2), e3⟩)
              ?assign2 ?body2 ?done2 ?stop2
            case assign2 =>
              rintro l2 pre' y W' K ⟨hp, m1, n1, d1, B1, K1⟩ hK
              gi_wp2
              have hm1 := m1.lt
              have ha := (Below.refl Bn W').alloc (by omega) (.cells #[.int .i64 y.2.1, .int .i64 y.2.2] 28)
              exact hK _ _ ((KeepsOthers.alloc _ _).from _) ha ⟨hp, m1.alloc _, n1.alloc _, (Below.heap_alloc W' _ D1 (Array.getElem?_eq_some_iff.1 d1).1).trans d1, B1.trans ha, K1.trans ((KeepsOthers.alloc _ _).from _)⟩ ⟨W'.heap.size, m1.lt, KBoxed.new W' _ _, rfl⟩
            case done2 =>
              rintro ys W' rfl ⟨⟨_, hle⟩, _⟩
              rw [upto_length] at hle
              omega
            case stop2 =>
              rintro c pre' W' ⟨k2, hk2, rfl⟩ hIx
              rcases hIx with ⟨_, hn⟩ | ⟨rfl, hlen, m1, n1, d1, B1, K1⟩
              · exact absurd (chain_upto L k2) hn
              · rw [upto_length] at hlen m1
                subst hlen
                have cM := m1.cell
                have cN := n1.cell
                have fN := n1.frozen
                have cM' : W'.cell? ⟨Bm, 0, none⟩ = some (.int .i64 ((pre.length : Int) + 1)) := by rw [cM]; push_cast; rfl
                clear cM
                have HE : Hid (KeepsFrom W7.heap.size W (W'.setCell ⟨Bn, 0, none⟩ (.int .i64 ((pre.length : Int) + 1))) ∧ Below Bn W (W'.setCell ⟨Bn, 0, none⟩ (.int .i64 ((pre.length : Int) + 1))) ∧ Boxed (W'.setCell ⟨Bn, 0, none⟩ (.int .i64 ((pre.length : Int) + 1))) Bn 3 (.int .i64 ((pre ++ [(pre.length, xt, xr)]).length : Int)) ∧ (W'.setCell ⟨Bn, 0, none⟩ (.int .i64 ((pre.length : Int) + 1))).heap[D1]? = some (.deferred (some []))) := by
                  refine ⟨K1.trans ((KeepsOthers.setCell _ _ _).from _), B1.setCell (p := ⟨Bn, 0, none⟩) (Nat.le_refl _) _, ?_, (KeepsOthers.setCell W' ⟨Bn, 0, none⟩ _).same D1 _ d1 rfl⟩
                  have h3 := n1.set (.int .i64 ((pre.length : Int) + 1))
                  rw [List.length_append, List.length_singleton]
                  push_cast
                  exact h3
                gi_wp2
                exact ⟨HE.out.1, HE.out.2.1, ⟨⟨HC.out, HE.out.2.2.1⟩, HE.out.2.2.2⟩, hB1.trans HE.out.2.1⟩
            case body2 =>
              rintro l2 pre' y a'' W' hl2 ⟨r2, hr2⟩ ⟨⟨hp', hle'⟩, m1, n1, d1, B1, K1⟩ ⟨By, hBy, bY, rfl⟩ hlt'
              obtain ⟨yi, yt, yr⟩ := y
              have S1 := HSt5.out.below (hB1.trans B1)
              have cM := m1.cell
              have fM := m1.frozen
              have cN := n1.cell
              have cL := S1.l.cell
              have cR := S1.r.cell
              have fR := S1.r.frozen
              have y1 := bY.cell.1
              have y2 := bY.cell.2
              simp only at y1 y2
              have HCh : Hid (Chain L (pre' ++ [(yi, yt, yr)]) ↔ (yi, yt, yr) = (pre'.length, kd L pre'.length)) := chain_snoc hp'
              obtain ⟨b2, off2, e, c1, c2⟩ := S1.lo.at pre'.length hlt'
              rw [e] at cL
              clear e
              have e1 : decide ((n : Int) ≤ (pre'.length : Int)) = false := by simp; omega
              have e2 : decide (n ≤ pre'.length) = false := by simp; omega
              by_cases hi : yi = pre'.length
              · subst hi
                by_cases hz : (yt, yr) = kd L pre'.length
                · have HC2 : Hid (Chain L (pre' ++ [(pre'.length, yt, yr)])) := HCh.out.2 (by rw [← hz])
                  rw [← hz] at c1 c2
                  simp only at c1 c2
                  have hq := run_neKey yt yr yt yr
                  simp only [decide_true, Bool.not_true] at hq
                  have hgd := fun op x y => run_eqGuard op x y yt yr yt yr
                  clear hz HCh
                  by_cases hs : pre.length < pre'.length + 1
                  · skip
                    have hs1 : decide ((pre.length : Int) < (pre'.length : Int) + 1) = true := by simp; omega
                    have hs2 : decide (pre.length < pre'.length + 1) = true := by simp; omega
                    have Hs : Hid (pre.length < pre'.length + 1) := hs
                    clear hs
                    have hbB : w.heap.size + 1 + 1 < Bn := HSt5.out.lt.1
                    gi_wp2_with fail
                    refine region_round (F := Fence.wide) (l := l2) rfl (by kernel_rfl) (by kernel_rfl) (by kernel_rfl) ?_
                    repeat (gi_big_quiet_step (fail))
                    refine wpQuietIn_nil ?_
                    intro _ hw'
                    obtain ⟨nq, hw''⟩ := hw'
                    subst hw''
                    have n2 : Boxed ((W'.drewN nq).setCell ⟨Bm, 0, none⟩ (.int .i64 ((pre'.length : Int) + 1))) Bn 3 (.int .i64 (pre.length : Int)) := (show Boxed (W'.drewN nq) Bn 3 (.int .i64 (pre.length : Int)) from n1).other (by omega) _
                    have m2 : Boxed ((W'.drewN nq).setCell ⟨Bm, 0, none⟩ (.int .i64 ((pre'.length : Int) + 1))) Bm 3 (.int .i64 ((pre'.length : Int) + 1)) := (show Boxed (W'.drewN nq) Bm 3 (.int .i64 (pre'.length : Int)) from m1).set _
                    have cN' := n2.cell
                    have cM' := m2.cell
                    have HE : Hid (KeepsOthers W' ((W'.drewN nq).setCell ⟨Bm, 0, none⟩ (.int .i64 ((pre'.length : Int) + 1))) ∧ Below Bn W' ((W'.drewN nq).setCell ⟨Bm, 0, none⟩ (.int .i64 ((pre'.length : Int) + 1))) ∧ Boxed ((W'.drewN nq).setCell ⟨Bm, 0, none⟩ (.int .i64 ((pre'.length : Int) + 1))) Bm 3 (.int .i64 ((pre' ++ [(pre'.length, yt, yr)]).length : Int)) ∧ Boxed ((W'.drewN nq).setCell ⟨Bm, 0, none⟩ (.int .i64 ((pre'.length : Int) + 1))) Bn 3 (.int .i64 (pre.length : Int)) ∧ ((W'.drewN nq).setCell ⟨Bm, 0, none⟩ (.int .i64 ((pre'.length : Int) + 1))).heap[D1]? = some (.deferred (some []))) := by
                      have h1 := below_drew0 Bn W' nq
                      have k1 := (keeps_drewN W' nq).trans (KeepsOthers.setCell (W'.drewN nq) ⟨Bm, 0, none⟩ (.int .i64 ((pre'.length : Int) + 1)))
                      refine ⟨k1, h1.setCell (p := ⟨Bm, 0, none⟩) (by simp; omega) _, ?_, n2, k1.same D1 _ d1 rfl⟩
                      rw [List.length_append, List.length_singleton]
                      push_cast
                      exact m2
                    gi_wp2_with fail
                    obtain ⟨h1, h2, h3, h4, h5⟩ := HE.out
                    refine ⟨h1.from _, .inr ⟨rfl, ?_, h3, h4, h5, B1.trans h2, K1.trans (h1.from _)⟩⟩
                    rw [List.length_append, List.length_singleton]
                    have := Hs.out; omega
                  · skip
                    have hs1 : decide ((pre.length : Int) < (pre'.length : Int) + 1) = false := by simp; omega
                    have hs2 : decide (pre.length < pre'.length + 1) = false := by simp; omega
                    have Hs : Hid (¬ pre.length < pre'.length + 1) := hs
                    clear hs
                    have hbB : w.heap.size + 1 + 1 < Bn := HSt5.out.lt.1
                    gi_wp2_with fail
                    refine region_round (F := Fence.wide) (l := l2) rfl (by kernel_rfl) (by kernel_rfl) (by kernel_rfl) ?_
                    repeat (gi_big_quiet_step (fail))
                    refine wpQuietIn_nil ?_
                    intro _ hw'
                    obtain ⟨nq, hw''⟩ := hw'
                    subst hw''
                    have n2 : Boxed ((W'.drewN nq).setCell ⟨Bm, 0, none⟩ (.int .i64 ((pre'.length : Int) + 1))) Bn 3 (.int .i64 (pre.length : Int)) := (show Boxed (W'.drewN nq) Bn 3 (.int .i64 (pre.length : Int)) from n1).other (by omega) _
                    have m2 : Boxed ((W'.drewN nq).setCell ⟨Bm, 0, none⟩ (.int .i64 ((pre'.length : Int) + 1))) Bm 3 (.int .i64 ((pre'.length : Int) + 1)) := (show Boxed (W'.drewN nq) Bm 3 (.int .i64 (pre'.length : Int)) from m1).set _
                    have cN' := n2.cell
                    have cM' := m2.cell
                    have HE : Hid (KeepsOthers W' ((W'.drewN nq).setCell ⟨Bm, 0, none⟩ (.int .i64 ((pre'.length : Int) + 1))) ∧ Below Bn W' ((W'.drewN nq).setCell ⟨Bm, 0, none⟩ (.int .i64 ((pre'.length : Int) + 1))) ∧ Boxed ((W'.drewN nq).setCell ⟨Bm, 0, none⟩ (.int .i64 ((pre'.length : Int) + 1))) Bm 3 (.int .i64 ((pre' ++ [(pre'.length, yt, yr)]).length : Int)) ∧ Boxed ((W'.drewN nq).setCell ⟨Bm, 0, none⟩ (.int .i64 ((pre'.length : Int) + 1))) Bn 3 (.int .i64 (pre.length : Int)) ∧ ((W'.drewN nq).setCell ⟨Bm, 0, none⟩ (.int .i64 ((pre'.length : Int) + 1))).heap[D1]? = some (.deferred (some []))) := by
                      have h1 := below_drew0 Bn W' nq
                      have k1 := (keeps_drewN W' nq).trans (KeepsOthers.setCell (W'.drewN nq) ⟨Bm, 0, none⟩ (.int .i64 ((pre'.length : Int) + 1)))
                      refine ⟨k1, h1.setCell (p := ⟨Bm, 0, none⟩) (by simp; omega) _, ?_, n2, k1.same D1 _ d1 rfl⟩
                      rw [List.length_append, List.length_singleton]
                      push_cast
                      exact m2
                    gi_wp2_with fail
                    obtain ⟨h1, h2, h3, h4, h5⟩ := HE.out
                    refine ⟨h1.from _, h2, ⟨HC2.out, ?_⟩, h3, h4, h5, B1.trans h2, K1.trans (h1.from _)⟩
                    rw [List.length_append, List.length_singleton]
                    have := Hs.out; omega
                · have HC2 : Hid (¬ Chain L (pre' ++ [(pre'.length, yt, yr)])) := fun h => hz (by have := HCh.out.1 h; simpa using this)
                  generalize kd L pre'.length = z at *
                  obtain ⟨z1, z2⟩ := z
                  simp only at c1 c2
                  have hq := run_neKey yt yr z1 z2
                  rw [decide_eq_false hz, Bool.not_false] at hq
                  have hgd := fun op x y => run_eqGuard op x y yt yr z1 z2
                  clear hz HCh
                  have hbB : w.heap.size + 1 + 1 < Bn := HSt5.out.lt.1
                  gi_wp2_with fail
                  refine region_round (F := Fence.wide) (l := l2) rfl (by kernel_rfl) (by kernel_rfl) (by kernel_rfl) ?_
                  repeat (gi_big_quiet_step (fail))
                  refine wpQuietIn_nil ?_
                  intro _ hw'
                  obtain ⟨nq, hw''⟩ := hw'
                  subst hw''
                  gi_wp2_with fail
                  exact ⟨((keeps_drewN W' nq).trans (KeepsOthers.setCell _ _ _)).from _, .inl ⟨rfl, HC2.out⟩⟩
              · have HC2 : Hid (¬ Chain L (pre' ++ [(yi, yt, yr)])) := fun h => hi (by have := HCh.out.1 h; simp at this; exact this.1)
                have hi3 : ((yi : Int) != (pre'.length : Int)) = true := by simp; omega
                have hi4 : (yi != pre'.length) = true := by simp; exact hi
                clear hi HCh
                have hbB : w.heap.size + 1 + 1 < Bn := HSt5.out.lt.1
                gi_wp2_with fail
                refine region_round (F := Fence.wide) (l := l2) rfl (by kernel_rfl) (by kernel_rfl) (by kernel_rfl) ?_
                repeat (gi_big_quiet_step (fail))
                refine wpQuietIn_nil ?_
                intro _ hw'
                obtain ⟨nq, hw''⟩ := hw'
                subst hw''
                gi_wp2_with fail
                exact ⟨((keeps_drewN W' nq).trans (KeepsOthers.setCell _ _ _)).from _, .inl ⟨rfl, HC2.out⟩⟩
          · have HC : Hid (¬ Chain L (pre ++ [(pre.length, xt, xr)])) := fun h => hz (by have := HCh.out.1 h; simpa using this)
            generalize kd L pre.length = z at *
            obtain ⟨z1, z2⟩ := z
            simp only at c1 c2
            have hq := run_neKey xt xr z1 z2
            rw [decide_eq_false hz, Bool.not_false] at hq
            have hgd := fun op x y => run_eqGuard op x y xt xr z1 z2
            clear hz HCh
            have hbB : w.heap.size + 1 + 1 < Bn := HSt5.out.lt.1
            gi_wp2_with fail
            refine region_round (F := Fence.wide) (l := l) rfl (by kernel_rfl) (by kernel_rfl) (by kernel_rfl) ?_
            repeat (gi_big_quiet_step (fail))
            refine wpQuietIn_nil ?_
            intro _ hw'
            obtain ⟨nq, hw''⟩ := hw'
            subst hw''
            gi_wp2_with fail
            exact ⟨((keeps_drewN W nq).trans (KeepsOthers.setCell _ _ _)).from _, rfl, HC.out⟩
        · have HC : Hid (¬ Chain L (pre ++ [(xi, xt, xr)])) := fun h => hi (by have := HCh.out.1 h; simp at this; exact this.1)
          have hi3 : ((xi : Int) != (pre.length : Int)) = true := by simp; omega
          have hi4 : (xi != pre.length) = true := by simp; exact hi
          clear hi HCh
          have hbB : w.heap.size + 1 + 1 < Bn := HSt5.out.lt.1
          gi_wp2_with fail
          refine region_round (F := Fence.wide) (l := l) rfl (by kernel_rfl) (by kernel_rfl) (by kernel_rfl) ?_
          repeat (gi_big_quiet_step (fail))
          refine wpQuietIn_nil ?_
          intro _ hw'
          obtain ⟨nq, hw''⟩ := hw'
          subst hw''
          gi_wp2_with fail
          exact ⟨((keeps_drewN W nq).trans (KeepsOthers.setCell _ _ _)).from _, rfl, HC.out⟩

end Go.Proofs.Ytnjgaibcpcpmcab
