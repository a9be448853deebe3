import Derived.Test.YtiiplikmoodfnaaGreatDoorKARead
import Derived.Test.YtiiplikmoodfnaaGreatDoorKLSearch
import Derived.Test.YtiiplikmoodfnaaGreatDoorKASplit
import Derived.Maps.OwnSet
import Derived.Maps.Views
import Derived.StringKeys
import Derived.WalkArith
import Derived.Test.YtiiplikmoodfnaaGreatDoorKBytes
import Derived.Laws.AppendOwnNone
import Derived.Maps.AppendAt
/-
  PROCEDURES IN MEMORY; hasProc, Check.
-/
namespace Go.Proofs.YtiiplikmoodfnaaGreatDoor
open Go.RowKit Go.Sort

def hasB (Ps : List Pr) (nm : ByteArray) : Bool := Ps.any fun x => x.name.toList == nm.toList
theorem hasB_take {Ps : List Pr} {nm : ByteArray} {k : Nat} (h : k < Ps.length) : hasB (Ps.take (k + 1)) nm = (hasB (Ps.take k) nm || ((pd Ps k).name.toList == nm.toList)) := by
  unfold hasB; rw [pd_take Ps k h, List.any_append]; simp
theorem hasB_at {Ps : List Pr} {nm : ByteArray} {k : Nat} (h : k < Ps.length) (e : ((pd Ps k).name.toList == nm.toList) = true) : hasB Ps nm = true := by
  unfold hasB; rw [List.any_eq_true]; exact ⟨pd Ps k, pd_mem h, e⟩
def chkOne (Ps : List Pr) (i : Nat) : Int := if nameB (pd Ps i).name = false ∨ hasB (Ps.take i) (pd Ps i).name = true then 35 else verifyN (pd Ps i).p (pd Ps i).L
/-- Check: the place, and the error -/
def checkN (Ps : List Pr) : Nat × Int := if 64 < Ps.length then (0, 36) else firstP (chkOne Ps) Ps.length
theorem checkN_stop {Ps : List Pr} {k : Nat} (hl : Ps.length ≤ 64) (h : ∀ i, i < k → chkOne Ps i = 0) (hk : chkOne Ps k ≠ 0) (hn : k < Ps.length) : checkN Ps = (k, chkOne Ps k) := by
  unfold checkN; rw [if_neg (by omega)]; exact firstP_stop h hk hn
theorem checkN_zero {Ps : List Pr} (hl : Ps.length ≤ 64) (h : ∀ i, i < Ps.length → chkOne Ps i = 0) : checkN Ps = (0, 0) := by
  unfold checkN; rw [if_neg (by omega)]; exact firstP_zero h
theorem chkOne_bad {Ps : List Pr} {i : Nat} (h : nameB (pd Ps i).name = false ∨ hasB (Ps.take i) (pd Ps i).name = true) : chkOne Ps i = 35 := if_pos h
theorem chkOne_good {Ps : List Pr} {i : Nat} (h1 : nameB (pd Ps i).name = true) (h2 : hasB (Ps.take i) (pd Ps i).name = false) : chkOne Ps i = verifyN (pd Ps i).p (pd Ps i).L := if_neg (by rw [h1, h2]; simp)

set_option maxHeartbeats 1000000 in
theorem hasProc_any (w : World) (ao : Option Addr) (n cap : Nat) (Ps : List Pr) (nm : ByteArray) (h : ProcsAt w ao Ps) (hn : n = Ps.length) (hm : n ≤ 1000000) :
    Calls Tryz.prog 58 #[.slice ao n cap, .string nm] w fun e w' => e = .returned (.bool (hasB Ps nm)) ∧ ∃ q os, w' = grow (w.drewN q) os := by
  have H : Hid (ProcsAt w ao Ps) := h
  have HN : Hid (n = Ps.length) := hn
  clear h hn
  go_enter Tryz.func58, Tryz.ntmps58
  go_wp2
  go_loopw [9] (fun x wr => ∃ k : Nat, k ≤ n ∧ x = .int .i64 (k : Int) ∧ Hid (hasB (Ps.take k) nm = false) ∧ Hid (Grew w wr)) (fun x _ => n - (intOf x).toNat)
  case atStart => exact ⟨0, Nat.zero_le _, rfl, rfl, Grew.refl _⟩
  case round =>
    obtain ⟨k, hk, rfl, HA, HG⟩ := hrel
    by_cases hlt : k < n
    · have hlt' : k < Ps.length := by have := HN.out; omega
      obtain ⟨b, off, rfl, c0, c1, c2, c3, c4, c5⟩ := (H.out.grew HG.out).get k hlt'
      have HT : Hid (hasB (Ps.take (k + 1)) nm = (hasB (Ps.take k) nm || ((pd Ps k).name.toList == nm.toList))) := hasB_take hlt'
      have HS : Hid (((pd Ps k).name.toList == nm.toList) = true → hasB Ps nm = true) := hasB_at hlt'
      generalize pd Ps k = x at *
      obtain ⟨xn, ⟨y1, y2, y3, y4⟩, xa, xl, xc, xL⟩ := x
      simp only at c0 c1 c2 c3 c4 c5
      have HG2 : Hid (Grew w (wr.alloc (.cells #[.string xn, .int .i64 y1, .int .i64 y2, .int .i64 y3, .int .i64 y4, .slice xa xl xc] 72))) := HG.out.alloc _
      cases hq : xn.toList == nm.toList with
      | true =>
        have HV : Hid (hasB Ps nm = true) := HS.out hq
        go_wp2
        go_ret
        exact ⟨by rw [HV.out]; rfl, HG2.out⟩
      | false =>
        have HV : Hid (hasB (Ps.take (k + 1)) nm = false) := by rw [HT.out, HA.out, hq]; rfl
        go_wp2
        go_roundw
        case rel => exact ⟨k + 1, by omega, by go_num, HV, HG2⟩
        case measure => simp [intOf]; omega
    · obtain rfl : k = n := by omega
      have HV : Hid (hasB Ps nm = false) := by have := HA.out; rw [HN.out, List.take_length] at this; exact this
      go_wp2
      go_ret
      exact ⟨by rw [HV.out]; rfl, HG.out⟩
end Go.Proofs.YtiiplikmoodfnaaGreatDoor
/-
  THE WALK OF Check.
-/
namespace Go.Proofs.YtiiplikmoodfnaaGreatDoor
open Go.RowKit Go.Sort

/-- a procedure in a box -/
def RBox (W : World) (B : Nat) (x : Pr) : Prop := W.heap[B]? = some (.cells #[.string x.name, .int .i64 x.p.args, .int .i64 x.p.reads, .int .i64 x.p.writes, .int .i64 x.p.locals, .slice x.ao x.n x.cap] 72 (0, 0))
theorem RBox.new (w : World) (x : Pr) : RBox (w.alloc (.cells #[.string x.name, .int .i64 x.p.args, .int .i64 x.p.reads, .int .i64 x.p.writes, .int .i64 x.p.locals, .slice x.ao x.n x.cap] 72)) w.heap.size x := heap_alloc_new _ _ rfl
theorem RBox.lt {W : World} {B : Nat} {x : Pr} (h : RBox W B x) : B < W.heap.size := (Array.getElem?_eq_some_iff.1 h).1
theorem RBox.below {W W' : World} {B C : Nat} {x : Pr} (h : RBox W B x) (hb : Below C W W') (hc : B < C) : RBox W' B x := (hb.block B hc).trans h
theorem RBox.kept {W W' : World} {B : Nat} {x : Pr} (h : RBox W B x) (hb : Below W.heap.size W W') : RBox W' B x := h.below hb h.lt
theorem RBox.cells {W : World} {B : Nat} {x : Pr} (h : RBox W B x) :
    W.cell? ⟨B, 0, none⟩ = some (.string x.name) ∧ W.cell? ⟨B, 1, none⟩ = some (.int .i64 x.p.args) ∧ W.cell? ⟨B, 2, none⟩ = some (.int .i64 x.p.reads) ∧ W.cell? ⟨B, 3, none⟩ = some (.int .i64 x.p.writes) ∧ W.cell? ⟨B, 4, none⟩ = some (.int .i64 x.p.locals) ∧ W.cell? ⟨B, 5, none⟩ = some (.slice x.ao x.n x.cap) := by
  refine ⟨?_, ?_, ?_, ?_, ?_, ?_⟩ <;> simp [World.cell?, show W.heap[B]? = _ from h]

set_option maxRecDepth 100000 in
set_option maxHeartbeats 2000000 in
theorem check_any (w : World) (ao : Option Addr) (n cap : Nat) (Ps : List Pr) (h : LibAt w ao Ps) (hn : n = Ps.length) (hc : n ≤ cap) (hm : n ≤ 140737488351232) :
    Calls Tryz.prog 32 #[.slice ao n cap] w fun e w' => e = .returned (.tuple #[.int .i64 ((checkN Ps).1 : Int), .int .i64 (checkN Ps).2]) ∧ Below w.heap.size w w' := by
  have H : Hid (LibAt w ao Ps) := h
  have HN : Hid (n = Ps.length) := hn
  clear h hn
  by_cases h64 : 64 < n
  · have HV : Hid (checkN Ps = (0, 36)) := by show checkN Ps = (0, 36); unfold checkN; rw [if_pos (by have := HN.out; omega)]
    go_enter Tryz.func32, Tryz.ntmps32
    go_wp2
    go_ret2
    exact ⟨by rw [HV.out]; rfl, Below.refl _ _⟩
  · go_enter Tryz.func32, Tryz.ntmps32
    go_wp2
    go_loopw [12] (fun x wr => ∃ k : Nat, k ≤ n ∧ x = .int .i64 (k : Int) ∧ Hid (∀ i, i < k → chkOne Ps i = 0) ∧ Hid (Below w.heap.size w wr)) (fun x _ => n - (intOf x).toNat)
    case atStart => exact ⟨0, Nat.zero_le _, rfl, fun i hi => absurd hi (Nat.not_lt_zero i), Below.refl _ _⟩
    case round =>
      obtain ⟨k, hk, rfl, HA, HB⟩ := hrel
      by_cases hlt : k < n
      · have hlt' : k < Ps.length := by have := HN.out; omega
        obtain ⟨b, off, rfl, c0, c1, c2, c3, c4, c5⟩ := (H.out.at_.kept HB.out).get k hlt'
        have HS : Hid (chkOne Ps k ≠ 0 → checkN Ps = (k, chkOne Ps k)) := fun h => checkN_stop (by have := HN.out; omega) HA.out h hlt'
        have HF : Hid ((nameB (pd Ps k).name = false ∨ hasB (Ps.take k) (pd Ps k).name = true) → chkOne Ps k = 35) := chkOne_bad
        have HT : Hid (nameB (pd Ps k).name = true → hasB (Ps.take k) (pd Ps k).name = false → chkOne Ps k = verifyN (pd Ps k).p (pd Ps k).L) := chkOne_good
        have HO : Hid (PrOK wr (pd Ps k)) := (H.out.ok _ (pd_mem hlt')).kept HB.out
        generalize pd Ps k = x at *
        have HR : Hid (RBox (wr.alloc (.cells #[.string x.name, .int .i64 x.p.args, .int .i64 x.p.reads, .int .i64 x.p.writes, .int .i64 x.p.locals, .slice x.ao x.n x.cap] 72)) wr.heap.size x) := RBox.new wr x
        have HB2 : Hid (Below w.heap.size w (wr.alloc (.cells #[.string x.name, .int .i64 x.p.args, .int .i64 x.p.reads, .int .i64 x.p.writes, .int .i64 x.p.locals, .slice x.ao x.n x.cap] 72))) := HB.out.alloc HB.out.size _
        have HO2 : Hid (PrOK (wr.alloc (.cells #[.string x.name, .int .i64 x.p.args, .int .i64 x.p.reads, .int .i64 x.p.writes, .int .i64 x.p.locals, .slice x.ao x.n x.cap] 72)) x) := HO.out.kept ((Below.refl _ _).alloc (Nat.le_refl _) _)
        go_wp2_with fail
        generalize wr.alloc (.cells #[.string x.name, .int .i64 x.p.args, .int .i64 x.p.reads, .int .i64 x.p.writes, .int .i64 x.p.locals, .slice x.ao x.n x.cap] 72) = W2 at *
        generalize wr.heap.size = B at *
        clear c0 c1 c2 c3 c4 c5 HO HB
        have mx := mixed
        have g0 : ∀ n os, (grow (W2.drewN n) os).cell? ⟨B, 0, none⟩ = some (.string x.name) := fun n os => Grew.cell ⟨n, os, rfl⟩ HR.out.cells.1
        have HC1 : Hid (∀ n os, Calls Tryz.prog 57 #[.string x.name] (grow (W2.drewN n) os) fun e w' => e = .returned (.bool (nameB x.name)) ∧ ∃ q os', w' = grow ((grow (W2.drewN n) os).drewN q) os') := fun n os =>
          (isName_any _ x.name (by have := HO2.out.str; omega)).mono fun e w' ⟨h1, h2⟩ => ⟨h1, 0, #[], by rw [h2, grow_empty]; rfl⟩
        have HC2 : Hid (∀ m os, Calls Tryz.prog 58 #[.slice (some ⟨b, off, none⟩) k cap, .string x.name] (grow (W2.drewN m) os) fun e w' => e = .returned (.bool (hasB (Ps.take k) x.name)) ∧ ∃ q os', w' = grow ((grow (W2.drewN m) os).drewN q) os') := fun m os =>
          hasProc_any _ _ k cap (Ps.take k) x.name (((H.out.at_.kept HB2.out).take k).grew ⟨m, os, rfl⟩) (by rw [List.length_take]; have := HN.out; omega) (by omega)
        have hle : (k : Int) ≤ (cap : Int) := by omega
        cases hnm : nameB x.name with
        | false =>
          have HV : Hid (checkN Ps = (k, 35)) := by
            have e := HF.out (.inl hnm)
            have := HS.out (by rw [e]; decide)
            rw [e] at this; exact this
          rw [hnm] at HC1
          refine wp_region_quiet_grown mx (by kernel_rfl) ?_
          repeat (go_big_quiet_step (first | (go_at_call 57; exact Calls.grown_of (HC1.out _ _)) | (go_at_call 58; exact Calls.grown_of (HC2.out _ _))))
          refine wpQuiet_nil ?_
          intro _ hw'
          obtain ⟨⟨nq, osq⟩, hw''⟩ := hw'
          subst hw''
          have HB3 : Hid (Below w.heap.size w (grow (W2.drewN nq) osq)) := HB2.out.trans ((Grew.below ⟨nq, osq, rfl⟩).mono HB2.out.size)
          go_wp2
          go_ret2
          exact ⟨by rw [HV.out]; rfl, HB3.out⟩
        | true =>
          rw [hnm] at HC1
          cases hhs : hasB (Ps.take k) x.name with
          | true =>
            have HV : Hid (checkN Ps = (k, 35)) := by
              have e := HF.out (.inr hhs)
              have := HS.out (by rw [e]; decide)
              rw [e] at this; exact this
            rw [hhs] at HC2
            refine wp_region_quiet_grown mx (by kernel_rfl) ?_
            repeat (go_big_quiet_step (first | (go_at_call 57; exact Calls.grown_of (HC1.out _ _)) | (go_at_call 58; exact Calls.grown_of (HC2.out _ _))))
            refine wpQuiet_nil ?_
            intro _ hw'
            obtain ⟨⟨nq, osq⟩, hw''⟩ := hw'
            subst hw''
            have HB3 : Hid (Below w.heap.size w (grow (W2.drewN nq) osq)) := HB2.out.trans ((Grew.below ⟨nq, osq, rfl⟩).mono HB2.out.size)
            go_wp2
            go_ret2
            exact ⟨by rw [HV.out]; rfl, HB3.out⟩
          | false =>
            have HV : Hid (chkOne Ps k = verifyN x.p x.L) := HT.out hnm hhs
            rw [hhs] at HC2
            refine wp_region_quiet_grown mx (by kernel_rfl) ?_
            repeat (go_big_quiet_step (first | (go_at_call 57; exact Calls.grown_of (HC1.out _ _)) | (go_at_call 58; exact Calls.grown_of (HC2.out _ _))))
            refine wpQuiet_nil ?_
            intro _ hw'
            obtain ⟨⟨nq, osq⟩, hw''⟩ := hw'
            subst hw''
            have HB3 : Hid (Below w.heap.size w (grow (W2.drewN nq) osq)) := HB2.out.trans ((Grew.below ⟨nq, osq, rfl⟩).mono HB2.out.size)
            have HR3 : Hid (RBox (grow (W2.drewN nq) osq) B x) := HR.out.kept (Grew.below ⟨nq, osq, rfl⟩)
            have HO3 : Hid (PrOK (grow (W2.drewN nq) osq) x) := HO2.out.kept (Grew.below ⟨nq, osq, rfl⟩)
            clear g0 HC1 HC2 HF HT HR HO2 HB2
            generalize grow (W2.drewN nq) osq = W3 at *
            obtain ⟨x0, x1, x2, x3, x4, x5⟩ := HR3.out.cells
            go_wp2_with fail
            refine (verify_any W3 x.p x.ao x.n x.cap x.L HO3.out.nin HO3.out.ks HO3.out.len).mono ?_
            rintro e W4 ⟨rfl, hb4⟩
            have HB4 : Hid (Below w.heap.size w W4) := HB3.out.trans (hb4.mono HB3.out.size)
            rw [← HV.out]
            clear hb4 HV x0 x1 x2 x3 x4 x5
            generalize hce : chkOne Ps k = ce at *
            by_cases h0 : ce = 0
            · have HA2 : Hid (∀ i, i < k + 1 → chkOne Ps i = 0) := fun i hi => by
                by_cases e : i = k
                · rw [e, hce]; exact h0
                · exact HA.out i (by omega)
              clear hce
              subst h0
              go_wp2
              go_roundw
              case rel => exact ⟨k + 1, by omega, by go_num, HA2, HB4⟩
              case measure => simp [intOf]; omega
            · have h0' : (ce != 0) = true := by simpa using h0
              have HV : Hid (checkN Ps = (k, ce)) := HS.out h0
              clear hce
              go_wp2
              go_ret2
              exact ⟨by rw [HV.out]; rfl, HB4.out⟩
      · obtain rfl : k = n := by omega
        have HV : Hid (checkN Ps = (0, 0)) := checkN_zero (by have := HN.out; omega) (by rw [← HN.out]; exact HA.out)
        go_wp2
        go_ret2
        exact ⟨by rw [HV.out]; rfl, HB.out⟩
end Go.Proofs.YtiiplikmoodfnaaGreatDoor
/-
  program, isName.
-/
namespace Go.Proofs.YtiiplikmoodfnaaGreatDoor
open Go.RowKit Go.Sort

set_option maxRecDepth 100000 in
theorem program_any (w : World) (B line b1 b2 g n cap : Nat) (vn vm vj : Value) (o : Bool) (h : AB w B line (.slice (some ⟨g, 0, none⟩) (n + 1) cap) vn o b1 b2 vm vj) (hn : n ≤ 1000000) :
    Calls Tryz.prog 67 #[.pointer (some ⟨B, 0, none⟩)] w fun e w' => e = .returned (.pointer (some ⟨g, n * 6 + 1, none⟩)) ∧ Grew w w' := by
  obtain ⟨_, x1, _⟩ := h.cells
  have h0 : (0 : Int) ≤ (n : Int) := by omega
  have h1 : (n : Int) < (n : Int) + 1 := by omega
  have HG : Hid (∀ q, Grew w (w.drewN q)) := fun q => (Grew.refl w).drewN q
  clear h
  go_enter Tryz.func67, Tryz.ntmps67
  go_wp2_with fail
  go_quiet (fail)
  go_wp2
  go_ret
  exact ⟨rfl, HG.out _⟩
end Go.Proofs.YtiiplikmoodfnaaGreatDoor
/-
  isName; strings.CutSuffix AT A COLON.
-/
namespace Go.Proofs.YtiiplikmoodfnaaGreatDoor
open Go.RowKit Go.Sort

abbrev nmPr (s : ByteArray) : Pr := ⟨s, ⟨0, 0, 0, 0⟩, none, 0, 0, []⟩
theorem one_check (s : ByteArray) : (checkN [nmPr s]).2 = if nameB s = true then 0 else 35 := by
  have h0 : chkOne [nmPr s] 0 = if nameB s = true then 0 else 35 := by
    unfold chkOne
    show (if nameB s = false ∨ hasB [] s = true then (35 : Int) else verifyN ⟨0, 0, 0, 0⟩ []) = _
    cases nameB s with
    | true => rw [if_neg (by simp [hasB]), if_pos rfl]; decide
    | false => rw [if_pos (.inl rfl), if_neg (by simp)]
  show (if 64 < 1 then (0, 36) else firstP (chkOne [nmPr s]) 1 : Nat × Int).2 = _
  rw [if_neg (by omega)]
  simp only [firstP]
  rw [if_neg (by simp), h0]
  cases nameB s <;> rfl
set_option maxRecDepth 100000 in
theorem isNameA_any (w : World) (s : ByteArray) (hs : s.size ≤ 140737488351232) : Calls Tryz.prog 69 #[.string s] w fun e w' => e = .returned (.bool (nameB s)) ∧ Go.RowKit.Below w.heap.size w w' := by
  have HB : Hid (Go.RowKit.Below w.heap.size w (w.alloc (.cells (prc (nmPr s)).toArray 72))) := bel_al _ _
  have HL : LibAt (w.alloc (.cells (prc (nmPr s)).toArray 72)) (some ⟨w.heap.size, 0, none⟩) [nmPr s] := by
    refine ⟨.inr ⟨w.heap.size, 0, rfl, fun j u hu => ?_⟩, fun x hx => ?_⟩
    · rw [Nat.zero_add, World.cell?, heap_alloc_new _ _ rfl]
      simpa [prcs] using hu
    · obtain rfl : x = nmPr s := by simpa using hx
      exact ⟨rfl, .inl rfl, ⟨by show In64 0; unfold In64; omega, by show In64 0; unfold In64; omega, by show In64 0; unfold In64; omega, by show In64 0; unfold In64; omega⟩, by simp, fun _ => rfl, hs, by show 0 * 16 ≤ _; omega⟩
  have HC := check_any _ _ 1 1 [nmPr s] HL rfl (Nat.le_refl _) (by decide)
  rw [one_check] at HC
  generalize (checkN [nmPr s]).1 = i at HC
  clear HL
  go_enter Tryz.func69, Tryz.ntmps69
  cases hb : nameB s with
  | true =>
    rw [hb, if_pos rfl] at HC
    go_wp2_with fail
    refine HC.mono ?_
    rintro e w1 ⟨rfl, h2⟩
    have HB1 : Hid (Go.RowKit.Below w.heap.size w w1) := HB.out.trans (h2.mono HB.out.size)
    clear h2 HC
    go_wp2_with fail
    go_ret
    exact ⟨rfl, HB1.out⟩
  | false =>
    rw [hb, if_neg (by simp)] at HC
    go_wp2_with fail
    refine HC.mono ?_
    rintro e w1 ⟨rfl, h2⟩
    have HB1 : Hid (Go.RowKit.Below w.heap.size w w1) := HB.out.trans (h2.mono HB.out.size)
    clear h2 HC
    go_wp2_with fail
    go_ret
    exact ⟨rfl, HB1.out⟩
/-- a text's last sign -/
theorem last_piece (l : List UInt8) (h : 1 ≤ l.length) : pieceL l (l.length - 1) l.length = [l.getLast (by intro e; rw [e] at h; simp at h)] := by
  unfold pieceL
  rw [List.take_length]
  obtain ⟨a, b, rfl⟩ : ∃ a b, l = a ++ [b] := ⟨l.dropLast, l.getLast (by intro e; rw [e] at h; simp at h), (List.dropLast_concat_getLast _).symm⟩
  simp
theorem first_piece (l : List UInt8) : pieceL l 0 (l.length - 1) = l.dropLast := by
  unfold pieceL
  rw [List.drop_zero, List.dropLast_eq_take]
def endsB (l : List UInt8) (c : UInt8) : Bool := l.getLast? == some c
theorem endsB_nil (c : UInt8) : endsB [] c = false := rfl
theorem endsB_pos (l : List UInt8) (c : UInt8) (h : 1 ≤ l.length) : endsB l c = (pieceL l (l.length - 1) l.length == [c]) := by
  unfold endsB
  rw [last_piece l h, List.getLast?_eq_some_getLast (by intro e; rw [e] at h; simp at h), Bool.eq_iff_iff]
  simp
set_option maxRecDepth 100000 in
theorem hasSuffix_any (w : World) (l : List UInt8) (c : UInt8) (hl : l.length ≤ 1000000) : Calls Tryz.prog 79 #[.string (S l), .string (S [c])] w fun e w' => e = .returned (.bool (endsB l c)) ∧ w' = w := by
  have h1 : (S l).size = l.length := S_size l
  have h2 : (S [c]).size = 1 := S_size [c]
  cases l with
  | nil =>
    have h1' : (S ([] : List UInt8)).size = 0 := h1
    clear h1
    go_enter Tryz.func79, Tryz.ntmps79
    go_wp2
    go_ret
    exact ⟨rfl, rfl⟩
  | cons x l =>
    have hsl : ∀ W, Sem.run Tryz.prog (Instr.slice 9 (.string (S (x :: l))) (some (.int .i64 (((x :: l).length : Int) - 1))) none none) W = .ok (.string (S (pieceL (x :: l) ((x :: l).length - 1) (x :: l).length))) W := fun W => by
      rw [run_slice_string_from_if W 9 (S (x :: l)) .i64 _ Tryz.underlying9, if_pos (by rw [S_size]; simp; omega), ← S_piece]
      congr 2
      rw [h1]
      congr 1
      simp
    have HE : Hid (endsB (x :: l) c = (pieceL (x :: l) ((x :: l).length - 1) (x :: l).length == [c])) := endsB_pos _ c (by simp)
    have hq : ((S (pieceL (x :: l) ((x :: l).length - 1) (x :: l).length)).toList == (S [c]).toList) = (pieceL (x :: l) ((x :: l).length - 1) (x :: l).length == [c]) := by rw [S_toList, S_toList]
    have hln : 1 ≤ (x :: l).length := by simp
    generalize x :: l = m at *
    generalize (pieceL m (m.length - 1) m.length == [c]) = b at *
    go_enter Tryz.func79, Tryz.ntmps79
    go_wp2
    go_ret
    exact ⟨by rw [HE.out]; rfl, rfl⟩
def cutV (l : List UInt8) (c : UInt8) : Value := .tuple #[.string (S (if endsB l c = true then l.dropLast else l)), .bool (endsB l c)]
set_option maxRecDepth 100000 in
theorem cutLite_any (w : World) (l : List UInt8) (c : UInt8) (hl : l.length ≤ 1000000) : Calls Tryz.prog 68 #[.string (S l), .string (S [c])] w fun e w' => e = .returned (cutV l c) ∧ w' = w := by
  have HC := hasSuffix_any w l c hl
  have h1 : (S l).size = l.length := S_size l
  have h2 : (S [c]).size = 1 := S_size [c]
  cases hb : endsB l c with
  | false =>
    rw [hb] at HC
    have HV : Hid (cutV l c = .tuple #[.string (S l), .bool false]) := by show _ = _; unfold cutV; rw [hb]; rfl
    clear hb
    go_enter Tryz.func68, Tryz.ntmps68
    go_wp2_with fail
    refine HC.mono ?_
    rintro e w1 ⟨rfl, hw⟩
    go_wp2_with fail
    go_ret2
    exact ⟨by rw [HV.out]; rfl, rfl⟩
  | true =>
    rw [hb] at HC
    have hln : 1 ≤ l.length := by
      cases l with
      | nil => cases hb
      | cons x l => simp
    have hsl : ∀ W, Sem.run Tryz.prog (Instr.slice 9 (.string (S l)) none (some (.int .i64 ((l.length : Int) - 1))) none) W = .ok (.string (S l.dropLast)) W := fun W => by
      rw [run_slice_string_to_if W 9 (S l) .i64 _ Tryz.underlying9, if_pos (by rw [S_size]; omega), ← first_piece, ← S_piece]
      congr 3
      omega
    have HV : Hid (cutV l c = .tuple #[.string (S l.dropLast), .bool true]) := by show _ = _; unfold cutV; rw [hb]; rfl
    clear hb
    go_enter Tryz.func68, Tryz.ntmps68
    go_wp2_with fail
    refine HC.mono ?_
    rintro e w1 ⟨rfl, hw⟩
    go_wp2
    go_ret2
    exact ⟨by rw [HV.out]; rfl, rfl⟩
theorem cutSuffix_any (w : World) (l : List UInt8) (c : UInt8) (hl : l.length ≤ 1000000) : Calls Tryz.prog 45 #[.string (S l), .string (S [c])] w fun e w' => e = .returned (cutV l c) ∧ w' = w := by
  have HC := cutLite_any w l c hl
  unfold cutV at HC ⊢
  generalize (if endsB l c = true then l.dropLast else l) = m at *
  generalize endsB l c = b at *
  go_enter Tryz.func45, Tryz.ntmps45
  go_wp2_with fail
  refine HC.mono ?_
  rintro e w1 ⟨rfl, hw⟩
  go_wp2_with fail
  go_ret2
  exact ⟨rfl, rfl⟩
end Go.Proofs.YtiiplikmoodfnaaGreatDoor
/-
  THE MAP OF LABELS.
-/
namespace Go.Proofs.YtiiplikmoodfnaaGreatDoor
open Go.RowKit Go.Sort Go.WideMaps

/-- block b is the map of the labels ls -/
def LM (W : World) (b : Nat) (ls : List (List UInt8 × Nat)) : Prop := ∃ D, W.ownsMap Tryz.prog 9 (plainElem (H := Unit) Tryz.prog 3) b ls.length D ∧ ∀ nm : List UInt8, Maps.has D (.string nm) = (labN ls nm).isSome ∧ ∀ t, labN ls nm = some t → D.atKey (.string nm) (.lit (.int .i64 0)) = .lit (.int .i64 (t : Int))
theorem LM.made (W : World) : LM (W.alloc (.map #[] 0)) W.heap.size [] :=
  ⟨_, World.ownsMap_made W Tryz.prog 9 (plainElem (H := Unit) Tryz.prog 3), fun nm => ⟨rfl, fun t h => by cases h⟩⟩
theorem LM.same {W W' : World} {b : Nat} {ls : List (List UInt8 × Nat)} (h : LM W b ls) (hb : W'.heap[b]? = W.heap[b]?) : LM W' b ls := by
  obtain ⟨D, ⟨es, clock, h1, h2⟩, h3⟩ := h
  exact ⟨D, ⟨es, clock, hb.trans h1, h2⟩, h3⟩
theorem LM.lt {W : World} {b : Nat} {ls : List (List UInt8 × Nat)} (h : LM W b ls) : b < W.heap.size := by
  obtain ⟨D, h1, _⟩ := h
  exact h1.lt
theorem S_data (l : List UInt8) : (S l).data.toList = l := by simp [S]
theorem LM.look {W : World} {b : Nat} {ls : List (List UInt8 × Nat)} (h : LM W b ls) (nm : List UInt8) (hs : nm.length ≤ 1000000) :
    ∃ c : Int, (Instr.lookup 55 (.map (some b)) (.string (S nm)) true).run Tryz.prog W = .ok (.tuple #[.int .i64 c, .bool (labN ls nm).isSome]) W ∧ (∀ u, labN ls nm = some u → c = (u : Int)) := by
  obtain ⟨D, h1, h2⟩ := h
  have hk := keyOf_string_mk (P := Tryz.prog) (k := 9) Tryz.underlying9 (s := S nm) (by rw [S_size]; unfold maxLen; omega)
  rw [S_data] at hk
  obtain ⟨v, ps, hrun, hv⟩ := h1.look_ok (Maps.string_keyed Tryz.underlying9) Tryz.underlying55 (z := .int .i64 0) (by kernel_rfl) (plainElem_int Tryz.underlying3 (by decide)) hk
  obtain ⟨c, rfl, hc, _⟩ := plainElem_int_inv Tryz.underlying3 hv
  obtain ⟨e1, e2⟩ := h2 nm
  rw [e1] at hrun
  refine ⟨c, hrun, fun u hu => ?_⟩
  have := e2 u hu
  simp only [Prod.mk.injEq] at hc
  rw [this] at hc
  have h3 := hc.1
  simp only [DataW.lit.injEq, Lit.int.injEq, true_and] at h3
  exact h3.symm
theorem labN_snoc (ls : List (List UInt8 × Nat)) (nm nm' : List UInt8) (t : Nat) (h : labN ls nm = none) : labN (ls ++ [(nm, t)]) nm' = if nm' = nm then some t else labN ls nm' := by
  unfold labN at *
  rw [List.find?_append]
  by_cases e : nm' = nm
  · subst e
    rw [if_pos rfl]
    have hn : ls.find? (fun x => x.1 == nm') = none := by simpa using h
    rw [hn]; simp
  · rw [if_neg e]
    have hm : ([(nm, t)] : List (List UInt8 × Nat)).find? (fun x => x.1 == nm') = none := by simp; exact fun e' => e e'.symm
    rw [hm]; simp
theorem LM.put {W : World} {b : Nat} {ls : List (List UInt8 × Nat)} (h : LM W b ls) (nm : List UInt8) (t : Nat) (hs : nm.length ≤ 1000000) (ht : t ≤ 1000000) (hl : ls.length ≤ 1000000) (hn : labN ls nm = none) :
    ∃ W', (Instr.mapUpdate 55 (.map (some b)) (.string (S nm)) (.int .i64 (t : Int))).run Tryz.prog W = .ok () W' ∧ LM W' b (ls ++ [(nm, t)]) ∧ W.grownBy W' (some b) := by
  obtain ⟨D, h1, h2⟩ := h
  have hk := keyOf_string_mk (P := Tryz.prog) (k := 9) Tryz.underlying9 (s := S nm) (by rw [S_size]; unfold maxLen; omega)
  rw [S_data] at hk
  have hw : (Lit.int .i64 (t : Int)).wf = true := WalkArith.wf_i64 ⟨by omega, by omega⟩
  obtain ⟨W', hrun, h3, h4⟩ := h1.update (Maps.string_keyed Tryz.underlying9) Tryz.underlying55 (by unfold maxLen; omega) hk (plainElem_int Tryz.underlying3 hw)
  have hkl : WideAt.IsKeyLit (.string nm) := trivial
  refine ⟨W', hrun, ⟨_, by rw [List.length_append]; exact h3, fun nm' => ?_⟩, h4⟩
  rw [labN_snoc ls nm nm' t hn]
  by_cases e : nm' = nm
  · subst e
    rw [if_pos rfl, Maps.has_put_same h1.isMap hkl, Maps.atKey_put_same h1.isMap hkl]
    exact ⟨rfl, fun u hu => by cases hu; rfl⟩
  · have hne : (Lit.string nm') ≠ .string nm := fun e' => e (by cases e'; rfl)
    rw [if_neg e, Maps.has_put_other hne, Maps.atKey_put_other hne]
    exact h2 nm'
end Go.Proofs.YtiiplikmoodfnaaGreatDoor
/-
  A SLICE OF BYTES THAT IS THE CALL's OWN; append.
-/
namespace Go.Proofs.YtiiplikmoodfnaaGreatDoor
open Go.RowKit

/-- v is nil and L is empty; or v lies at the head of a row of the call's own (from block 'base' on), whose first bytes are L. -/
def OwnB (w : World) (base : Nat) (v : Value) (L : List Nat) : Prop := (∀ z ∈ L, z < 256) ∧ w.ownsRow base 5 1 v L.length (L.map b8)

theorem OwnB.nil (w : World) (base : Nat) : OwnB w base (.slice none 0 0) [] := ⟨by simp, World.ownsRow_nil _ _ _ _⟩
theorem OwnB.shape {w : World} {base : Nat} {v : Value} {L : List Nat} (h : OwnB w base v L) :
    (v = .slice none 0 0 ∧ L = []) ∨ ∃ g cap, v = .slice (some ⟨g, 0, none⟩) L.length cap ∧ base ≤ g ∧ g < w.heap.size ∧ L.length ≤ cap ∧ cap ≤ maxLen ∧ BytesAt w (some ⟨g, 0, none⟩) L := by
  obtain ⟨hz, hl, h⟩ := h
  rcases h with ⟨rfl, h0⟩ | ⟨g, cap, cur, rfl, hb, hg, hn, hm, hs, ht⟩
  · exact .inl ⟨rfl, List.eq_nil_of_length_eq_zero h0⟩
  · refine .inr ⟨g, cap, rfl, hb, (Array.getElem?_eq_some_iff.1 hg).1, hn, hm, hz, .inr ⟨g, 0, rfl, fun j hj => ?_⟩⟩
    have e := World.ownsRow.cellAt (w := w) (base := base) (e := 5) (size := 1) (g := g) (cap := cap) ⟨hl, .inr ⟨g, cap, cur, rfl, hb, hg, hn, hm, hs, ht⟩⟩ j (by omega)
    rw [Nat.zero_add, e]
    simp [b8, List.getD_eq_getElem?_getD, List.getElem?_eq_getElem hj]
/-- as a slice, in any case -/
theorem OwnB.slice {w : World} {base : Nat} {v : Value} {L : List Nat} (h : OwnB w base v L) : ∃ ao cap, v = .slice ao L.length cap ∧ BytesAt w ao L ∧ (ao = none → cap = 0) ∧ L.length ≤ cap := by
  rcases h.shape with ⟨rfl, rfl⟩ | ⟨g, cap, rfl, _, _, hc, _, hb⟩
  · exact ⟨none, 0, rfl, ⟨by simp, .inl rfl⟩, fun _ => rfl, by simp⟩
  · exact ⟨_, cap, rfl, hb, by simp, hc⟩
theorem OwnB.alloc {w : World} {base : Nat} {v : Value} {L : List Nat} (h : OwnB w base v L) (o : Obj) : OwnB (w.alloc o) base v L := ⟨h.1, h.2.alloc o⟩
theorem OwnB.drewN {w : World} {base : Nat} {v : Value} {L : List Nat} (h : OwnB w base v L) (n : Nat) : OwnB (w.drewN n) base v L := h
theorem OwnB.mono {w : World} {base base' : Nat} {v : Value} {L : List Nat} (h : OwnB w base v L) (hb : base' ≤ base) : OwnB w base' v L := by
  obtain ⟨hz, hl, h⟩ := h
  refine ⟨hz, hl, ?_⟩
  rcases h with h | ⟨g, cap, cur, e, hg, r⟩
  · exact .inl h
  · exact .inr ⟨g, cap, cur, e, by omega, r⟩
/-- what lies below a number stays -/
theorem OwnB.below {w w1 : World} {base B : Nat} {v : Value} {L : List Nat} (h : OwnB w base v L) (hb : Below B w w1) (hlt : ∀ g, v.ownBlock = some g → g < B) : OwnB w1 base v L := by
  obtain ⟨hz, hl, h⟩ := h
  refine ⟨hz, hl, ?_⟩
  rcases h with h | ⟨g, cap, cur, rfl, hg, hh, r⟩
  · exact .inl h
  · refine .inr ⟨g, cap, cur, rfl, hg, ?_, r⟩
    rw [hb.block g (hlt g rfl)]; exact hh
theorem OwnB.kept {w w1 : World} {base : Nat} {v : Value} {L : List Nat} (h : OwnB w base v L) (hb : Below w.heap.size w w1) : OwnB w1 base v L :=
  h.below hb fun g hg => (h.2.lt g hg).2
theorem OwnB.grown {w w1 : World} {base : Nat} {v : Value} {L : List Nat} {row : Option Nat} (h : OwnB w base v L) (hg : w.grownBy w1 row) (hne : v.ownBlock = none ∨ v.ownBlock ≠ row) : OwnB w1 base v L := ⟨h.1, h.2.kept hg hne⟩
theorem OwnB.made {w : World} {L : List Nat} (hz : ∀ z ∈ L, z < 256) (hm : L.length ≤ maxLen) {base : Nat} (hb : base ≤ w.heap.size) : OwnB (w.alloc (.cells (cellsU8 L) 5)) base (.slice (some ⟨w.heap.size, 0, none⟩) L.length L.length) L := by
  refine ⟨hz, by simp, .inr ⟨w.heap.size, L.length, cellsU8 L, rfl, hb, rowAt_alloc w L, Nat.le_refl _, hm, by simp [size_cellsU8], ?_⟩⟩
  simp only [cellsU8, Nat.mul_one]
  rw [List.take_of_length_le (by simp)]
theorem OwnB.ofRow {w : World} {g : Nat} {L : List Nat} (h : RowAt w g L) (hz : ∀ z ∈ L, z < 256) (hm : L.length ≤ maxLen) {base : Nat} (hb : base ≤ g) : OwnB w base (.slice (some ⟨g, 0, none⟩) L.length L.length) L := by
  refine ⟨hz, by simp, .inr ⟨g, L.length, cellsU8 L, rfl, hb, h, Nat.le_refl _, hm, by simp [size_cellsU8], ?_⟩⟩
  simp only [cellsU8, Nat.mul_one]
  rw [List.take_of_length_le (by simp)]
theorem ownBlock_lt {w : World} {base : Nat} {v : Value} {L : List Nat} (h : OwnB w base v L) : ∀ k, v.ownBlock = some k → base ≤ k := fun k hk => (h.2.lt k hk).1

theorem OwnB.frozen {w : World} {base g n cap : Nat} {L : List Nat} (h : OwnB w base (.slice (some ⟨g, 0, none⟩) n cap) L) (j : Nat) : w.frozen? ⟨g, j, none⟩ = false := by
  obtain ⟨hz, hl, h0 | ⟨g', cap', cur, e, hb, hg, r⟩⟩ := h
  · cases h0.1
  · cases e; exact frozen_of_row w g j _ _ hg
theorem OwnB.cell {w : World} {base g n cap : Nat} {L : List Nat} (h : OwnB w base (.slice (some ⟨g, 0, none⟩) n cap) L) (j : Nat) (hj : j < L.length) : w.cell? ⟨g, j, none⟩ = some (.int .u8 ((L.getD j 0 : Nat) : Int)) := by
  rcases h.shape with ⟨h, _⟩ | ⟨g', cap', h, _, _, _, _, hb⟩
  · cases h
  · simp only [Value.slice.injEq, Option.some.injEq, Addr.mk.injEq] at h
    obtain ⟨⟨rfl, _⟩, _⟩ := h
    obtain ⟨_, h1 | ⟨b', o', e, hcc⟩⟩ := hb
    · rw [h1] at hj; simp at hj
    · simp only [Option.some.injEq, Addr.mk.injEq] at e
      obtain ⟨rfl, rfl, _⟩ := e
      have := hcc j hj
      rwa [Nat.zero_add] at this
theorem OwnB.bytes {w : World} {base n cap : Nat} {ao : Option Addr} {L : List Nat} (h : OwnB w base (.slice ao n cap) L) : BytesAt w ao L ∧ n = L.length := by
  obtain ⟨ao', cap', e, hb, _⟩ := h.slice
  simp only [Value.slice.injEq] at e
  obtain ⟨rfl, rfl, _⟩ := e
  exact ⟨hb, rfl⟩
theorem OwnB.set {w : World} {base g n cap : Nat} {L : List Nat} (h : OwnB w base (.slice (some ⟨g, 0, none⟩) n cap) L) (p z : Nat) (hz : z < 256) : OwnB (w.setCell ⟨g, p, none⟩ (.int .u8 (z : Int))) base (.slice (some ⟨g, 0, none⟩) n cap) (L.set p z) := by
  have hn : n = L.length := by
    obtain ⟨_, _, h0 | ⟨g', cap', cur, e, r⟩⟩ := h
    · cases h0.1
    · cases e; rfl
  subst hn
  have hs := h.2.stored p (.int .u8 (z : Int))
  refine ⟨?_, ?_⟩
  · intro y hy
    rcases List.mem_or_eq_of_mem_set hy with h1 | h1
    · exact h.1 y h1
    · omega
  · rw [List.length_set, List.map_set]
    exact hs.1

/-- THE LAW OF append AT A SLICE OF BYTES OF THE CALL's OWN, whatever slice of bytes is appended. -/
theorem wpList_append_bytes {w : World} {ops : Array Oper} {rest : List Oper} {o : Oper} {a : Act} {Q : Exit → Act → World → Prop} (hgd : o.guard = none) (s x : Operand)
    (ho : o.op = .call { callee := .builtin .append, args := #[s, x], argTypes := #[168, 168] }) (base : Nat) (v : Value) (L : List Nat) (hs : a.eval s = v) (hown : OwnB w base v L)
    (ao : Option Addr) (m c : Nat) (zs : List Nat) (hx : a.eval x = .slice ao m c) (hm : m = zs.length) (hsrc : BytesAt w ao zs) (hnil : ao = none → c = 0) (hlen : L.length + zs.length ≤ 140737488355328) (hbase : base ≤ w.heap.size)
    (h : ∀ v' w', OwnB w' base v' (L ++ zs) → w.grownBy w' v.ownBlock → wpList Tryz.prog ops Q rest (a.put o.dst v') w') : wpList Tryz.prog ops Q (o :: rest) a w := by
  obtain ⟨i0, hi, hz0, hz1, hz2⟩ := info_parts info8
  subst hm
  have hzz : ∀ z ∈ L ++ zs, z < 256 := by
    intro z hz
    rcases List.mem_append.1 hz with h1 | h1
    · exact hown.1 z h1
    · exact hsrc.1 z h1
  cases ao with
  | none =>
    have h0 : zs = [] := by
      obtain ⟨_, h1 | ⟨b, off, h1, _⟩⟩ := hsrc
      · exact h1
      · cases h1
    subst h0
    obtain rfl := hnil rfl
    refine wpList_append_own_none hgd s x 168 ho base 5 i0 1 Tryz.underlying168 hi v L.length (L.map b8) hs hown.2 hx ?_
    exact h v w (by simpa using hown) (World.grownBy.refl _ _)
  | some ad =>
    refine wpList_append_own w hgd s x 168 ho base 5 i0 (.int .u8 0) 1 1 Tryz.underlying168 hi hz0 hz1 hz2 rfl (by decide) v L.length (L.map b8) hs hown.2 ad zs.length c (zs.map b8) hx (by simp) ?_ (oneCells zs) (by unfold maxLen; omega) (by omega) hbase ?_
    · intro j u hu
      by_cases h0 : zs = []
      · subst h0; simp at hu
      · obtain ⟨ad', e, hc⟩ := bytes_src hsrc h0
        cases e
        exact hc j u hu
    · intro v' w' hown' hgrow _
      refine h v' w' ⟨hzz, ?_⟩ hgrow
      rw [List.length_append, List.map_append]
      exact hown'

/-- the same, and where the new slice lies: in the old one's row, or in a new block -/
theorem wpList_append_bytes_at {w : World} {ops : Array Oper} {rest : List Oper} {o : Oper} {a : Act} {Q : Exit → Act → World → Prop} (hgd : o.guard = none) (s x : Operand)
    (ho : o.op = .call { callee := .builtin .append, args := #[s, x], argTypes := #[168, 168] }) (base : Nat) (v : Value) (L : List Nat) (hs : a.eval s = v) (hown : OwnB w base v L)
    (ao : Option Addr) (m c : Nat) (zs : List Nat) (hx : a.eval x = .slice ao m c) (hm : m = zs.length) (hsrc : BytesAt w ao zs) (hnil : ao = none → c = 0) (hlen : L.length + zs.length ≤ 140737488355328) (hbase : base ≤ w.heap.size)
    (h : ∀ v' w', OwnB w' base v' (L ++ zs) → w.grownBy w' v.ownBlock → (v'.ownBlock = v.ownBlock ∨ v'.ownBlock = some w.heap.size) → wpList Tryz.prog ops Q rest (a.put o.dst v') w') : wpList Tryz.prog ops Q (o :: rest) a w := by
  obtain ⟨i0, hi, hz0, hz1, hz2⟩ := info_parts info8
  subst hm
  have hzz : ∀ z ∈ L ++ zs, z < 256 := by
    intro z hz
    rcases List.mem_append.1 hz with h1 | h1
    · exact hown.1 z h1
    · exact hsrc.1 z h1
  cases ao with
  | none =>
    have h0 : zs = [] := by
      obtain ⟨_, h1 | ⟨b, off, h1, _⟩⟩ := hsrc
      · exact h1
      · cases h1
    subst h0
    obtain rfl := hnil rfl
    refine wpList_append_own_none hgd s x 168 ho base 5 i0 1 Tryz.underlying168 hi v L.length (L.map b8) hs hown.2 hx ?_
    exact h v w (by simpa using hown) (World.grownBy.refl _ _) (.inl rfl)
  | some ad =>
    refine wpList_append_own_at w hgd s x 168 ho base 5 i0 (.int .u8 0) 1 1 Tryz.underlying168 hi hz0 hz1 hz2 rfl (by decide) v L.length (L.map b8) hs hown.2 ad zs.length c (zs.map b8) hx (by simp) ?_ (oneCells zs) (by unfold maxLen; omega) (by omega) hbase ?_
    · intro j u hu
      by_cases h0 : zs = []
      · subst h0; simp at hu
      · obtain ⟨ad', e, hc⟩ := bytes_src hsrc h0
        cases e
        exact hc j u hu
    · intro v' w' hown' hgrow _ hat
      refine h v' w' ⟨hzz, ?_⟩ hgrow hat
      rw [List.length_append, List.map_append]
      exact hown'

/-- one byte, laid for an append -/
theorem byte_src (w : World) (B z : Nat) (hB : B = w.heap.size) (hz : z < 256) : BytesAt (w.alloc (.cells #[.int .u8 (z : Int)] 5)) (some ⟨B, 0, none⟩) [z] := by
  subst hB
  have h := rowAt_alloc w [z]
  rw [show cellsU8 [z] = #[.int .u8 (z : Int)] from rfl, ← List.append_nil [z]] at h
  exact h.bytes0 (by simpa using hz)

end Go.Proofs.YtiiplikmoodfnaaGreatDoor
