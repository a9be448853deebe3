import Derived.Test.YtcaibgbhebldmaaGreatJ28
import Derived.RangeFuncNested
import Derived.RangeFuncBound
import Derived.RangeFuncCalls
import Derived.RangeFuncLeaves
import Derived.RangeFuncBox
import Derived.Shelf.Abstract
import Derived.Shelf.RegionOpen
import Derived.WalkKit
import Derived.OwnWalkIn
import Derived.TacticsInMore
import Derived.LoopNIn
import Derived.LoopIn
import Derived.RegionIn
/-
  THE WALK OF Check.
-/
namespace Go.Proofs.YtcaibgbhebldmaaGreat
open Go.RowKit Go.Sort

/-- a procedure in a box -/
def RBox (W : World) (B : Nat) (x : Pr) : Prop := W.heap[B]? = some (.cells #[.string x.name, .int .i64 x.p.args, .int .i64 x.p.reads, .int .i64 x.p.writes, .int .i64 x.p.locals, .slice x.ao x.n x.cap] 52 (0, 0))
theorem RBox.new (w : World) (x : Pr) : RBox (w.alloc (.cells #[.string x.name, .int .i64 x.p.args, .int .i64 x.p.reads, .int .i64 x.p.writes, .int .i64 x.p.locals, .slice x.ao x.n x.cap] 52)) w.heap.size x := heap_alloc_new _ _ rfl
theorem RBox.lt {W : World} {B : Nat} {x : Pr} (h : RBox W B x) : B < W.heap.size := (Array.getElem?_eq_some_iff.1 h).1
theorem RBox.below {W W' : World} {B C : Nat} {x : Pr} (h : RBox W B x) (hb : Below C W W') (hc : B < C) : RBox W' B x := (hb.block B hc).trans h
theorem RBox.kept {W W' : World} {B : Nat} {x : Pr} (h : RBox W B x) (hb : Below W.heap.size W W') : RBox W' B x := h.below hb h.lt
theorem RBox.cells {W : World} {B : Nat} {x : Pr} (h : RBox W B x) :
    W.cell? ⟨B, 0, none⟩ = some (.string x.name) ∧ W.cell? ⟨B, 1, none⟩ = some (.int .i64 x.p.args) ∧ W.cell? ⟨B, 2, none⟩ = some (.int .i64 x.p.reads) ∧ W.cell? ⟨B, 3, none⟩ = some (.int .i64 x.p.writes) ∧ W.cell? ⟨B, 4, none⟩ = some (.int .i64 x.p.locals) ∧ W.cell? ⟨B, 5, none⟩ = some (.slice x.ao x.n x.cap) := by
  refine ⟨?_, ?_, ?_, ?_, ?_, ?_⟩ <;> simp [World.cell?, show W.heap[B]? = _ from h]

set_option maxRecDepth 100000 in
set_option maxHeartbeats 2000000 in
theorem check_any (w : World) (ao : Option Addr) (n cap : Nat) (Ps : List Pr) (h : LibAt w ao Ps) (hn : n = Ps.length) (hc : n ≤ cap) (hm : n ≤ 140737488351232) :
    Calls Tryz.prog 6 #[.slice ao n cap] w fun e w' => e = .returned (.tuple #[.int .i64 ((checkN Ps).1 : Int), .int .i64 (checkN Ps).2]) ∧ Below w.heap.size w w' := by
  have H : Hid (LibAt w ao Ps) := h
  have HN : Hid (n = Ps.length) := hn
  clear h hn
  by_cases h64 : 64 < n
  · have HV : Hid (checkN Ps = (0, 36)) := by show checkN Ps = (0, 36); unfold checkN; rw [if_pos (by have := HN.out; omega)]
    go_enter Tryz.func6, Tryz.ntmps6
    go_wp2
    go_ret2
    exact ⟨by rw [HV.out]; rfl, Below.refl _ _⟩
  · go_enter Tryz.func6, Tryz.ntmps6
    go_wp2
    go_loopw [12] (fun x wr => ∃ k : Nat, k ≤ n ∧ x = .int .i64 (k : Int) ∧ Hid (∀ i, i < k → chkOne Ps i = 0) ∧ Hid (Below w.heap.size w wr)) (fun x _ => n - (intOf x).toNat)
    case atStart => exact ⟨0, Nat.zero_le _, rfl, fun i hi => absurd hi (Nat.not_lt_zero i), Below.refl _ _⟩
    case round =>
      obtain ⟨k, hk, rfl, HA, HB⟩ := hrel
      by_cases hlt : k < n
      · have hlt' : k < Ps.length := by have := HN.out; omega
        obtain ⟨b, off, rfl, c0, c1, c2, c3, c4, c5⟩ := (H.out.at_.kept HB.out).get k hlt'
        have HS : Hid (chkOne Ps k ≠ 0 → checkN Ps = (k, chkOne Ps k)) := fun h => checkN_stop (by have := HN.out; omega) HA.out h hlt'
        have HF : Hid ((nameB (pd Ps k).name = false ∨ hasB (Ps.take k) (pd Ps k).name = true) → chkOne Ps k = 35) := chkOne_bad
        have HT : Hid (nameB (pd Ps k).name = true → hasB (Ps.take k) (pd Ps k).name = false → chkOne Ps k = verifyN (pd Ps k).p (pd Ps k).L) := chkOne_good
        have HO : Hid (PrOK wr (pd Ps k)) := (H.out.ok _ (pd_mem hlt')).kept HB.out
        generalize pd Ps k = x at *
        have HR : Hid (RBox (wr.alloc (.cells #[.string x.name, .int .i64 x.p.args, .int .i64 x.p.reads, .int .i64 x.p.writes, .int .i64 x.p.locals, .slice x.ao x.n x.cap] 52)) wr.heap.size x) := RBox.new wr x
        have HB2 : Hid (Below w.heap.size w (wr.alloc (.cells #[.string x.name, .int .i64 x.p.args, .int .i64 x.p.reads, .int .i64 x.p.writes, .int .i64 x.p.locals, .slice x.ao x.n x.cap] 52))) := HB.out.alloc HB.out.size _
        have HO2 : Hid (PrOK (wr.alloc (.cells #[.string x.name, .int .i64 x.p.args, .int .i64 x.p.reads, .int .i64 x.p.writes, .int .i64 x.p.locals, .slice x.ao x.n x.cap] 52)) x) := HO.out.kept ((Below.refl _ _).alloc (Nat.le_refl _) _)
        go_wp2_with fail
        generalize wr.alloc (.cells #[.string x.name, .int .i64 x.p.args, .int .i64 x.p.reads, .int .i64 x.p.writes, .int .i64 x.p.locals, .slice x.ao x.n x.cap] 52) = W2 at *
        generalize wr.heap.size = B at *
        clear c0 c1 c2 c3 c4 c5 HO HB
        have mx := mixed
        have g0 : ∀ n os, (grow (W2.drewN n) os).cell? ⟨B, 0, none⟩ = some (.string x.name) := fun n os => Grew.cell ⟨n, os, rfl⟩ HR.out.cells.1
        have HC1 : Hid (∀ n os, Calls Tryz.prog 19 #[.string x.name] (grow (W2.drewN n) os) fun e w' => e = .returned (.bool (nameB x.name)) ∧ ∃ q os', w' = grow ((grow (W2.drewN n) os).drewN q) os') := fun n os =>
          (isName_any _ x.name (by have := HO2.out.str; omega)).mono fun e w' ⟨h1, h2⟩ => ⟨h1, 0, #[], by rw [h2, grow_empty]; rfl⟩
        have HC2 : Hid (∀ m os, Calls Tryz.prog 20 #[.slice (some ⟨b, off, none⟩) k cap, .string x.name] (grow (W2.drewN m) os) fun e w' => e = .returned (.bool (hasB (Ps.take k) x.name)) ∧ ∃ q os', w' = grow ((grow (W2.drewN m) os).drewN q) os') := fun m os =>
          hasProc_any _ _ k cap (Ps.take k) x.name (((H.out.at_.kept HB2.out).take k).grew ⟨m, os, rfl⟩) (by rw [List.length_take]; have := HN.out; omega) (by omega)
        have hle : (k : Int) ≤ (cap : Int) := by omega
        cases hnm : nameB x.name with
        | false =>
          have HV : Hid (checkN Ps = (k, 35)) := by
            have e := HF.out (.inl hnm)
            have := HS.out (by rw [e]; decide)
            rw [e] at this; exact this
          rw [hnm] at HC1
          refine wp_region_quiet_grown mx (by kernel_rfl) ?_
          repeat (go_big_quiet_step (first | (go_at_call 19; exact Calls.grown_of (HC1.out _ _)) | (go_at_call 20; exact Calls.grown_of (HC2.out _ _))))
          refine wpQuiet_nil ?_
          intro _ hw'
          obtain ⟨⟨nq, osq⟩, hw''⟩ := hw'
          subst hw''
          have HB3 : Hid (Below w.heap.size w (grow (W2.drewN nq) osq)) := HB2.out.trans ((Grew.below ⟨nq, osq, rfl⟩).mono HB2.out.size)
          go_wp2
          go_ret2
          exact ⟨by rw [HV.out]; rfl, HB3.out⟩
        | true =>
          rw [hnm] at HC1
          cases hhs : hasB (Ps.take k) x.name with
          | true =>
            have HV : Hid (checkN Ps = (k, 35)) := by
              have e := HF.out (.inr hhs)
              have := HS.out (by rw [e]; decide)
              rw [e] at this; exact this
            rw [hhs] at HC2
            refine wp_region_quiet_grown mx (by kernel_rfl) ?_
            repeat (go_big_quiet_step (first | (go_at_call 19; exact Calls.grown_of (HC1.out _ _)) | (go_at_call 20; exact Calls.grown_of (HC2.out _ _))))
            refine wpQuiet_nil ?_
            intro _ hw'
            obtain ⟨⟨nq, osq⟩, hw''⟩ := hw'
            subst hw''
            have HB3 : Hid (Below w.heap.size w (grow (W2.drewN nq) osq)) := HB2.out.trans ((Grew.below ⟨nq, osq, rfl⟩).mono HB2.out.size)
            go_wp2
            go_ret2
            exact ⟨by rw [HV.out]; rfl, HB3.out⟩
          | false =>
            have HV : Hid (chkOne Ps k = verifyN x.p x.L) := HT.out hnm hhs
            rw [hhs] at HC2
            refine wp_region_quiet_grown mx (by kernel_rfl) ?_
            repeat (go_big_quiet_step (first | (go_at_call 19; exact Calls.grown_of (HC1.out _ _)) | (go_at_call 20; exact Calls.grown_of (HC2.out _ _))))
            refine wpQuiet_nil ?_
            intro _ hw'
            obtain ⟨⟨nq, osq⟩, hw''⟩ := hw'
            subst hw''
            have HB3 : Hid (Below w.heap.size w (grow (W2.drewN nq) osq)) := HB2.out.trans ((Grew.below ⟨nq, osq, rfl⟩).mono HB2.out.size)
            have HR3 : Hid (RBox (grow (W2.drewN nq) osq) B x) := HR.out.kept (Grew.below ⟨nq, osq, rfl⟩)
            have HO3 : Hid (PrOK (grow (W2.drewN nq) osq) x) := HO2.out.kept (Grew.below ⟨nq, osq, rfl⟩)
            clear g0 HC1 HC2 HF HT HR HO2 HB2
            generalize grow (W2.drewN nq) osq = W3 at *
            obtain ⟨x0, x1, x2, x3, x4, x5⟩ := HR3.out.cells
            go_wp2_with fail
            refine (verify_any W3 x.p x.ao x.n x.cap x.L HO3.out.nin HO3.out.ks HO3.out.len).mono ?_
            rintro e W4 ⟨rfl, hb4⟩
            have HB4 : Hid (Below w.heap.size w W4) := HB3.out.trans (hb4.mono HB3.out.size)
            rw [← HV.out]
            clear hb4 HV x0 x1 x2 x3 x4 x5
            generalize hce : chkOne Ps k = ce at *
            by_cases h0 : ce = 0
            · have HA2 : Hid (∀ i, i < k + 1 → chkOne Ps i = 0) := fun i hi => by
                by_cases e : i = k
                · rw [e, hce]; exact h0
                · exact HA.out i (by omega)
              clear hce
              subst h0
              go_wp2
              go_roundw
              case rel => exact ⟨k + 1, by omega, by go_num, HA2, HB4⟩
              case measure => simp [intOf]; omega
            · have h0' : (ce != 0) = true := by simpa using h0
              have HV : Hid (checkN Ps = (k, ce)) := HS.out h0
              clear hce
              go_wp2
              go_ret2
              exact ⟨by rw [HV.out]; rfl, HB4.out⟩
      · obtain rfl : k = n := by omega
        have HV : Hid (checkN Ps = (0, 0)) := checkN_zero (by have := HN.out; omega) (by rw [← HN.out]; exact HA.out)
        go_wp2
        go_ret2
        exact ⟨by rw [HV.out]; rfl, HB.out⟩
end Go.Proofs.YtcaibgbhebldmaaGreat
/-
  A REGION THAT DRAWS ITS ORDER AND ONLY READS, IN THE ROUND OF A LOOP OVER A FUNCTION: as outside a round, where no operation is a defer.
-/
namespace Go.Proofs.YtcaibgbhebldmaaGreat
open Go.RowKit Go.Sort

def noDefer (o : Oper) : Bool := match o.op with
  | .defer _ => false
  | _ => true
theorem noDefer_ne {o : Oper} (h : noDefer o = true) : ∀ c, o.op ≠ .defer c := by
  intro c e
  unfold noDefer at h
  rw [e] at h
  simp at h
theorem wpIn_round {F : Fence} {n l : Nat} {P : Program} {o : Oper} {a : Act} {w : World} {K : Act → World → Prop} {Q : Exit → Act → World → Prop} (hro : F.round = none) (hd : noDefer o = true) (h : o.wpIn F n P a w K Q) : o.wpIn (F.inRound l) n P a w K Q := by
  obtain ⟨h1, h2⟩ := h
  refine ⟨h1, ?_⟩
  rw [hro, Oper.semAt_none] at h2
  rw [Fence.inRound_round, Oper.semAt_some l _ _ (noDefer_ne hd)]
  generalize (execOp a.eval o).run P w = r at *
  cases r with
  | ok x w' => cases x <;> exact h2
  | halt x w' => cases x <;> exact h2
theorem wpAny_round {F : Fence} {n l : Nat} {P : Program} {md : Region.Mode} {ops : Array Oper} {Q : Exit → Act → World → Prop} (hro : F.round = none) (hd : ops.all noDefer = true) :
    ∀ (fuel : Nat) (listed : Array Bool) (a : Act) (w : World), wpAnyIn F n P md ops Q fuel listed a w → wpAnyIn (F.inRound l) n P md ops Q fuel listed a w
  | 0, _, _, _, h => h
  | fuel + 1, listed, a, w, h => ⟨h.1, fun i hi => by
    have h2 := h.2 i hi
    unfold wpOpIn at h2 ⊢
    cases ho : ops[i]? with
    | none => rw [ho] at h2; exact wpAny_round hro hd fuel _ _ _ h2
    | some o =>
      rw [ho] at h2
      have hn : noDefer o = true := by
        have h3 := Array.all_eq_true.1 hd
        obtain ⟨hlt, he⟩ := Array.getElem?_eq_some_iff.1 ho
        rw [← he]; exact h3 i hlt
      simp only at h2 ⊢
      split
      · rename_i hw
        rw [if_pos hw] at h2
        exact wpIn_round hro hn (Oper.wpIn_mono (fun a w hk => wpAny_round hro hd fuel _ a w hk) h2)
      · rename_i hw
        rw [if_neg hw] at h2
        exact ⟨h2.1, wpAny_round hro hd fuel _ _ _ h2.2⟩⟩
theorem region_round {F : Fence} {n l : Nat} {P : Program} {id : Nat} {Q : Exit → Act → World → Prop} {a : Act} {w : World} {ops : List Oper} (hro : F.round = none) (hm : P.follows .mixedOrders = true) (hB : Region.lexB .any ops.toArray = true) (hd : ops.toArray.all noDefer = true)
    (h : wpQuietIn F n P ops.toArray (fun w' => ∃ n, w' = w.drewN n) (fun a' => ∀ w', (∃ n, w' = w.drewN n) → Q .normal a' w') ops a) : (Code.region id ops.toArray true).wpIn (F.inRound l) n P Q a w := by
  simp only [Region.lexB, Bool.and_eq_true] at hB
  refine wpIn_region_any hm (wpAny_round hro hd _ _ _ _ (wpAnyIn_of_quiet (Q := fun a' => ∀ w', (∃ n, w' = w.drewN n) → Q .normal a' w') hro (fun _ w' hw' h => h w' hw') _ _ _ _ ⟨1, rfl⟩ ?_))
  have := wpAnyQIn_lex (F := F) (n := n) (C := fun w' => ∃ n, w' = w.drewN n) (md := .any) hB.1 ops 0 (Array.replicate ops.toArray.size false) a (by simp) (by simpa using hB.2) h
  simpa using this

/-- a loop over a function, whichever way it ends: what holds behind it -/
theorem loop_cut {F : Fence} {n : Nat} {P : Program} {c : Code} {Q : Exit → Act → World → Prop} {a : Act} {w : World} (id : Nat) (Post : World → Prop) (hex : ∀ a w, Q .normal a w → Q (.exit id) a w)
    (h : c.wpIn F n P (fun e a' w' => (e = .normal ∨ e = .exit id) ∧ ∃ D, w.heap.size ≤ D ∧ a' = { a with defers := { target := .collected D, args := #[] } :: a.defers } ∧ Post w' ∧ w'.heap[D]? = some (.deferred (some []))) a w)
    (hk : ∀ D W, w.heap.size ≤ D → Post W → W.heap[D]? = some (.deferred (some [])) → Q .normal { a with defers := { target := .collected D, args := #[] } :: a.defers } W) : c.wpIn F n P Q a w := by
  refine Code.wpIn_mono ?_ h
  rintro e a' w' ⟨he, D, hD, rfl, hp, hd⟩
  rcases he with rfl | rfl
  · exact hk D w' hD hp hd
  · exact hex _ _ (hk D w' hD hp hd)
end Go.Proofs.YtcaibgbhebldmaaGreat
/-
  slices.Backward: THE ITERATOR FROM THE BACK.
-/
namespace Go.Proofs.YtcaibgbhebldmaaGreat
open Go.RowKit Go.Sort Go.Shelf

attribute [local go_sem] Oper.semAt_some

/-- a place within m -/
def cl (m i : Nat) : Nat := min i (m - 1)
theorem cl_lt {m i : Nat} (h : 0 < m) : cl m i < m := by unfold cl; omega
theorem cl_of {m i : Nat} (h : i < m) : cl m i = i := by unfold cl; omega
/-- the last k places, from the back -/
def dn (m k : Nat) : List Nat := (List.range k).map (fun j => m - 1 - j)
theorem dn_succ (m k : Nat) : dn m (k + 1) = dn m k ++ [m - 1 - k] := by simp [dn, List.range_succ]
theorem dn_length (m k : Nat) : (dn m k).length = k := by simp [dn]
/-- what is handed on at a place -/
abbrev encP (m : Nat) (L : List K) (i : Nat) : Array Value := #[.int .i64 ((cl m i : Nat) : Int), .agg #[.int .i64 (cd L (cl m i)).1, .int .i64 (cd L (cl m i)).2]]

/-- what a round leaves: all below n₀, and the box -/
def KB (n₀ Bs : Nat) (A B : World) : Prop := Below n₀ A B ∧ B.heap[Bs]? = A.heap[Bs]?
theorem KB.refl (n₀ Bs : Nat) (A : World) : KB n₀ Bs A A := ⟨Below.refl _ _, rfl⟩
theorem KB.trans {n₀ Bs : Nat} {A B C : World} (h : KB n₀ Bs A B) (k : KB n₀ Bs B C) : KB n₀ Bs A C := ⟨h.1.trans k.1, k.2.trans h.2⟩
theorem KB.cell {n₀ Bs : Nat} {A B : World} (h : KB n₀ Bs A B) (i : Nat) : B.cell? ⟨Bs, i, none⟩ = A.cell? ⟨Bs, i, none⟩ := by simp only [World.cell?, h.2]

set_option maxRecDepth 100000 in
set_option maxHeartbeats 1000000 in
theorem back1_in (F : Fence) (n : Nat) (hf : F.fn 66) (hro : F.round = none) (hn : 1 ≤ n) (l Bs n₀ m c : Nat) (ao : Option Addr) (L : List K) (hm : m ≤ 1000000) (hLm : m = L.length) (J Jx : List Nat → World → Prop)
    (hY : ∀ pre x W, J pre W → pre.length < m → YieldAt F (n - 1) Tryz.prog l (encP m L x) W fun e W' =>
      (e = .returned (.bool true) ∧ J (pre ++ [x]) W' ∧ KB n₀ Bs W W') ∨ (e = .returned (.bool false) ∧ Jx (pre ++ [x]) W'))
    (W : World) (hBs : W.cell? ⟨Bs, 0, none⟩ = some (.slice ao m c)) (hL : KeysAt W ao L) (hlt : ∀ a, L ≠ [] → ao = some a → a.block < n₀) (h0 : J [] W) :
    CallsIn F n Tryz.prog 66 #[.func (.yield l) #[] #[], .pointer (some ⟨Bs, 0, none⟩)] W fun e W' => (∃ v, e = .returned v) ∧
      ((∃ ys, ys = dn m m ∧ J ys W') ∨ (∃ pre, (∃ k, k ≤ m ∧ pre = dn m k) ∧ Jx pre W')) := by
  have HL : Hid (KeysAt W ao L) := hL
  have HA : Hid (∀ a, L ≠ [] → ao = some a → a.block < n₀) := hlt
  have HLm : Hid (m = L.length) := hLm
  have HBs : Hid (W.cell? ⟨Bs, 0, none⟩ = some (.slice ao m c)) := hBs
  clear hL hlt hLm
  refine callsIn_of_wp Tryz.func66 rfl hf ?_ hro
  simp only [Tryz.ntmps66, List.size_toArray, List.length_cons, List.length_nil, Nat.reduceAdd, Nat.reduceSub, Array.replicate_succ, Array.replicate_zero, List.push_toArray, List.append_toArray, List.nil_append, List.cons_append]
  gi_wp2
  clear hBs
  gi_loopw [3] (fun i wr => ∃ k : Nat, k ≤ m ∧ i = .int .i64 ((m : Int) - 1 - (k : Int)) ∧ J (dn m k) wr ∧ KB n₀ Bs W wr)
    (fun i _ => (intOf i + 1).toNat)
  case atStart => exact ⟨0, Nat.zero_le _, by simp, h0, KB.refl _ _ _⟩
  case round =>
    obtain ⟨k, hk, rfl, hJs, hnx⟩ := hrel
    have hBs := (hnx.cell 0).trans HBs.out
    by_cases hlt : k < m
    · obtain ⟨b, off, rfl, c1, c2⟩ := (HL.out.below hnx.1 HA.out).get (m - 1 - k) (by have := HLm.out; omega)
      obtain ⟨fn, tmps, assign, body, hy, hR⟩ := hY _ (m - 1 - k) _ hJs (by rw [dn_length]; exact hlt)
      simp only [encP] at hy
      rw [cl_of (by omega)] at hy
      have hi : ((m : Int) - 1 - (k : Int)) = ((m - 1 - k : Nat) : Int) := by omega
      have hge : (0 : Int) ≤ ((m - 1 - k : Nat) : Int) := by omega
      have HI : Hid (((m : Int) - 1 - (k : Int)) = ((m - 1 - k : Nat) : Int)) := hi
      clear hi
      rw [HI.out]
      obtain ⟨q, hq⟩ : ∃ q, q = m - 1 - k := ⟨_, rfl⟩
      rw [← hq] at c1 c2 hy hR hge ⊢
      have HQ : Hid (q = m - 1 - k) := hq
      have hqm : q < m := by omega
      clear hq
      gi_wp2
      refine hR.mono ?_
      rintro e W3 (⟨rfl, hJ3, hk3⟩ | ⟨rfl, hJx3⟩)
      · gi_wp2
        go_roundw
        case rel => exact ⟨k + 1, by omega, by have := HQ.out; congr 1; omega, by rw [dn_succ, ← HQ.out]; exact hJ3, hnx.trans hk3⟩
        case measure => have := HQ.out; simp [intOf] <;> omega
      · gi_wp2
        refine bodyPost_ret (results_none rfl _ _ _) rfl ?_
        exact ⟨⟨_, rfl⟩, .inr ⟨_, ⟨k + 1, by omega, by rw [dn_succ, ← HQ.out]⟩, hJx3⟩⟩
    · obtain rfl : k = m := by omega
      rw [show ((k : Int) - 1 - (k : Int)) = -1 by omega]
      gi_wp2
      go_end0
      exact ⟨⟨_, rfl⟩, .inl ⟨_, rfl, hJs⟩⟩

theorem backward_any (w : World) (ao : Option Addr) (n cap : Nat) :
    Calls Tryz.prog 40 #[.slice ao n cap] w fun e w' => e = .returned (.func (.func 66) #[] #[.pointer (some ⟨w.heap.size, 0, none⟩)]) ∧ w' = w.alloc (.cells #[.slice ao n cap] 48) := by
  go_enter Tryz.func40, Tryz.ntmps40
  go_wp2
  go_ret
  exact ⟨rfl, rfl⟩

theorem back_stops (F : Fence) (n : Nat) (hf : F.fn 66) (hro : F.round = none) (hn : 1 ≤ n) (Bs n₀ m c : Nat) (ao : Option Addr) (L : List K) (hm : m ≤ 1000000) (hLm : m = L.length) (w : World) (hBw : Bs < w.heap.size)
    (hc : w.cell? ⟨Bs, 0, none⟩ = some (.slice ao m c)) (hL : KeysAt w ao L) (hlt : ∀ a, L ≠ [] → ao = some a → a.block < n₀) :
    SeqStopsK F n Tryz.prog 66 #[.pointer (some ⟨Bs, 0, none⟩)] (encP m L) (KB n₀ Bs) (fun ys => ys = dn m m) (fun pre => ∃ k, k ≤ m ∧ pre = dn m k) m w := fun l J Jx W hW _ _ hY h0 =>
  back1_in F n hf hro hn l Bs n₀ m c ao L hm hLm J Jx hY W ((hW.cell (p := ⟨Bs, 0, none⟩) hBw).trans hc) (hL.kept hW) hlt h0
end Go.Proofs.YtcaibgbhebldmaaGreat
