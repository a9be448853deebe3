import Derived.Test.YtmkomfbjgmgemaaGreatDoorJANum
import Derived.Test.YtmkomfbjgmgemaaGreatDoorJLDepths
/-
  PROCEDURES IN MEMORY; hasProc, Check.
-/
namespace Go.Proofs.YtmkomfbjgmgemaaGreatDoor
open Go.RowKit Go.Sort

def hasB (Ps : List Pr) (nm : ByteArray) : Bool := Ps.any fun x => x.name.toList == nm.toList
theorem hasB_take {Ps : List Pr} {nm : ByteArray} {k : Nat} (h : k < Ps.length) : hasB (Ps.take (k + 1)) nm = (hasB (Ps.take k) nm || ((pd Ps k).name.toList == nm.toList)) := by
  unfold hasB; rw [pd_take Ps k h, List.any_append]; simp
theorem hasB_at {Ps : List Pr} {nm : ByteArray} {k : Nat} (h : k < Ps.length) (e : ((pd Ps k).name.toList == nm.toList) = true) : hasB Ps nm = true := by
  unfold hasB; rw [List.any_eq_true]; exact ⟨pd Ps k, pd_mem h, e⟩
def chkOne (Ps : List Pr) (i : Nat) : Int := if nameB (pd Ps i).name = false ∨ hasB (Ps.take i) (pd Ps i).name = true then 35 else verifyN (pd Ps i).p (pd Ps i).L
/-- Check: the place, and the error -/
def checkN (Ps : List Pr) : Nat × Int := if 64 < Ps.length then (0, 36) else firstP (chkOne Ps) Ps.length
theorem checkN_stop {Ps : List Pr} {k : Nat} (hl : Ps.length ≤ 64) (h : ∀ i, i < k → chkOne Ps i = 0) (hk : chkOne Ps k ≠ 0) (hn : k < Ps.length) : checkN Ps = (k, chkOne Ps k) := by
  unfold checkN; rw [if_neg (by omega)]; exact firstP_stop h hk hn
theorem checkN_zero {Ps : List Pr} (hl : Ps.length ≤ 64) (h : ∀ i, i < Ps.length → chkOne Ps i = 0) : checkN Ps = (0, 0) := by
  unfold checkN; rw [if_neg (by omega)]; exact firstP_zero h
theorem chkOne_bad {Ps : List Pr} {i : Nat} (h : nameB (pd Ps i).name = false ∨ hasB (Ps.take i) (pd Ps i).name = true) : chkOne Ps i = 35 := if_pos h
theorem chkOne_good {Ps : List Pr} {i : Nat} (h1 : nameB (pd Ps i).name = true) (h2 : hasB (Ps.take i) (pd Ps i).name = false) : chkOne Ps i = verifyN (pd Ps i).p (pd Ps i).L := if_neg (by rw [h1, h2]; simp)

set_option maxHeartbeats 1000000 in
theorem hasProc_any (w : World) (ao : Option Addr) (n cap : Nat) (Ps : List Pr) (nm : ByteArray) (h : ProcsAt w ao Ps) (hn : n = Ps.length) (hm : n ≤ 1000000) :
    Calls Tryz.prog 32 #[.slice ao n cap, .string nm] w fun e w' => e = .returned (.bool (hasB Ps nm)) ∧ ∃ q os, w' = grow (w.drewN q) os := by
  have H : Hid (ProcsAt w ao Ps) := h
  have HN : Hid (n = Ps.length) := hn
  clear h hn
  go_enter Tryz.func32, Tryz.ntmps32
  go_wp2
  go_loopw [9] (fun x wr => ∃ k : Nat, k ≤ n ∧ x = .int .i64 (k : Int) ∧ Hid (hasB (Ps.take k) nm = false) ∧ Hid (Grew w wr)) (fun x _ => n - (intOf x).toNat)
  case atStart => exact ⟨0, Nat.zero_le _, rfl, rfl, Grew.refl _⟩
  case round =>
    obtain ⟨k, hk, rfl, HA, HG⟩ := hrel
    by_cases hlt : k < n
    · have hlt' : k < Ps.length := by have := HN.out; omega
      obtain ⟨b, off, rfl, c0, c1, c2, c3, c4, c5⟩ := (H.out.grew HG.out).get k hlt'
      have HT : Hid (hasB (Ps.take (k + 1)) nm = (hasB (Ps.take k) nm || ((pd Ps k).name.toList == nm.toList))) := hasB_take hlt'
      have HS : Hid (((pd Ps k).name.toList == nm.toList) = true → hasB Ps nm = true) := hasB_at hlt'
      generalize pd Ps k = x at *
      obtain ⟨xn, ⟨y1, y2, y3, y4⟩, xa, xl, xc, xL⟩ := x
      simp only at c0 c1 c2 c3 c4 c5
      have HG2 : Hid (Grew w (wr.alloc (.cells #[.string xn, .int .i64 y1, .int .i64 y2, .int .i64 y3, .int .i64 y4, .slice xa xl xc] 38))) := HG.out.alloc _
      cases hq : xn.toList == nm.toList with
      | true =>
        have HV : Hid (hasB Ps nm = true) := HS.out hq
        go_wp2
        go_ret
        exact ⟨by rw [HV.out]; rfl, HG2.out⟩
      | false =>
        have HV : Hid (hasB (Ps.take (k + 1)) nm = false) := by rw [HT.out, HA.out, hq]; rfl
        go_wp2
        go_roundw
        case rel => exact ⟨k + 1, by omega, by go_num, HV, HG2⟩
        case measure => simp [intOf]; omega
    · obtain rfl : k = n := by omega
      have HV : Hid (hasB Ps nm = false) := by have := HA.out; rw [HN.out, List.take_length] at this; exact this
      go_wp2
      go_ret
      exact ⟨by rw [HV.out]; rfl, HG.out⟩
end Go.Proofs.YtmkomfbjgmgemaaGreatDoor
/-
  THE WALK OF Check.
-/
namespace Go.Proofs.YtmkomfbjgmgemaaGreatDoor
open Go.RowKit Go.Sort

/-- a procedure in a box -/
def RBox (W : World) (B : Nat) (x : Pr) : Prop := W.heap[B]? = some (.cells #[.string x.name, .int .i64 x.p.args, .int .i64 x.p.reads, .int .i64 x.p.writes, .int .i64 x.p.locals, .slice x.ao x.n x.cap] 38 (0, 0))
theorem RBox.new (w : World) (x : Pr) : RBox (w.alloc (.cells #[.string x.name, .int .i64 x.p.args, .int .i64 x.p.reads, .int .i64 x.p.writes, .int .i64 x.p.locals, .slice x.ao x.n x.cap] 38)) w.heap.size x := heap_alloc_new _ _ rfl
theorem RBox.lt {W : World} {B : Nat} {x : Pr} (h : RBox W B x) : B < W.heap.size := (Array.getElem?_eq_some_iff.1 h).1
theorem RBox.below {W W' : World} {B C : Nat} {x : Pr} (h : RBox W B x) (hb : Below C W W') (hc : B < C) : RBox W' B x := (hb.block B hc).trans h
theorem RBox.kept {W W' : World} {B : Nat} {x : Pr} (h : RBox W B x) (hb : Below W.heap.size W W') : RBox W' B x := h.below hb h.lt
theorem RBox.cells {W : World} {B : Nat} {x : Pr} (h : RBox W B x) :
    W.cell? ⟨B, 0, none⟩ = some (.string x.name) ∧ W.cell? ⟨B, 1, none⟩ = some (.int .i64 x.p.args) ∧ W.cell? ⟨B, 2, none⟩ = some (.int .i64 x.p.reads) ∧ W.cell? ⟨B, 3, none⟩ = some (.int .i64 x.p.writes) ∧ W.cell? ⟨B, 4, none⟩ = some (.int .i64 x.p.locals) ∧ W.cell? ⟨B, 5, none⟩ = some (.slice x.ao x.n x.cap) := by
  refine ⟨?_, ?_, ?_, ?_, ?_, ?_⟩ <;> simp [World.cell?, show W.heap[B]? = _ from h]

set_option maxRecDepth 100000 in
set_option maxHeartbeats 2000000 in
theorem check_any (w : World) (ao : Option Addr) (n cap : Nat) (Ps : List Pr) (h : LibAt w ao Ps) (hn : n = Ps.length) (hc : n ≤ cap) (hm : n ≤ 140737488351232) :
    Calls Tryz.prog 19 #[.slice ao n cap] w fun e w' => e = .returned (.tuple #[.int .i64 ((checkN Ps).1 : Int), .int .i64 (checkN Ps).2]) ∧ Below w.heap.size w w' := by
  have H : Hid (LibAt w ao Ps) := h
  have HN : Hid (n = Ps.length) := hn
  clear h hn
  by_cases h64 : 64 < n
  · have HV : Hid (checkN Ps = (0, 36)) := by show checkN Ps = (0, 36); unfold checkN; rw [if_pos (by have := HN.out; omega)]
    go_enter Tryz.func19, Tryz.ntmps19
    go_wp2
    go_ret2
    exact ⟨by rw [HV.out]; rfl, Below.refl _ _⟩
  · go_enter Tryz.func19, Tryz.ntmps19
    go_wp2
    go_loopw [12] (fun x wr => ∃ k : Nat, k ≤ n ∧ x = .int .i64 (k : Int) ∧ Hid (∀ i, i < k → chkOne Ps i = 0) ∧ Hid (Below w.heap.size w wr)) (fun x _ => n - (intOf x).toNat)
    case atStart => exact ⟨0, Nat.zero_le _, rfl, fun i hi => absurd hi (Nat.not_lt_zero i), Below.refl _ _⟩
    case round =>
      obtain ⟨k, hk, rfl, HA, HB⟩ := hrel
      by_cases hlt : k < n
      · have hlt' : k < Ps.length := by have := HN.out; omega
        obtain ⟨b, off, rfl, c0, c1, c2, c3, c4, c5⟩ := (H.out.at_.kept HB.out).get k hlt'
        have HS : Hid (chkOne Ps k ≠ 0 → checkN Ps = (k, chkOne Ps k)) := fun h => checkN_stop (by have := HN.out; omega) HA.out h hlt'
        have HF : Hid ((nameB (pd Ps k).name = false ∨ hasB (Ps.take k) (pd Ps k).name = true) → chkOne Ps k = 35) := chkOne_bad
        have HT : Hid (nameB (pd Ps k).name = true → hasB (Ps.take k) (pd Ps k).name = false → chkOne Ps k = verifyN (pd Ps k).p (pd Ps k).L) := chkOne_good
        have HO : Hid (PrOK wr (pd Ps k)) := (H.out.ok _ (pd_mem hlt')).kept HB.out
        generalize pd Ps k = x at *
        have HR : Hid (RBox (wr.alloc (.cells #[.string x.name, .int .i64 x.p.args, .int .i64 x.p.reads, .int .i64 x.p.writes, .int .i64 x.p.locals, .slice x.ao x.n x.cap] 38)) wr.heap.size x) := RBox.new wr x
        have HB2 : Hid (Below w.heap.size w (wr.alloc (.cells #[.string x.name, .int .i64 x.p.args, .int .i64 x.p.reads, .int .i64 x.p.writes, .int .i64 x.p.locals, .slice x.ao x.n x.cap] 38))) := HB.out.alloc HB.out.size _
        have HO2 : Hid (PrOK (wr.alloc (.cells #[.string x.name, .int .i64 x.p.args, .int .i64 x.p.reads, .int .i64 x.p.writes, .int .i64 x.p.locals, .slice x.ao x.n x.cap] 38)) x) := HO.out.kept ((Below.refl _ _).alloc (Nat.le_refl _) _)
        go_wp2_with fail
        generalize wr.alloc (.cells #[.string x.name, .int .i64 x.p.args, .int .i64 x.p.reads, .int .i64 x.p.writes, .int .i64 x.p.locals, .slice x.ao x.n x.cap] 38) = W2 at *
        generalize wr.heap.size = B at *
        clear c0 c1 c2 c3 c4 c5 HO HB
        have mx := mixed
        have g0 : ∀ n os, (grow (W2.drewN n) os).cell? ⟨B, 0, none⟩ = some (.string x.name) := fun n os => Grew.cell ⟨n, os, rfl⟩ HR.out.cells.1
        have HC1 : Hid (∀ n os, Calls Tryz.prog 31 #[.string x.name] (grow (W2.drewN n) os) fun e w' => e = .returned (.bool (nameB x.name)) ∧ ∃ q os', w' = grow ((grow (W2.drewN n) os).drewN q) os') := fun n os =>
          (isName_any _ x.name (by have := HO2.out.str; omega)).mono fun e w' ⟨h1, h2⟩ => ⟨h1, 0, #[], by rw [h2, grow_empty]; rfl⟩
        have HC2 : Hid (∀ m os, Calls Tryz.prog 32 #[.slice (some ⟨b, off, none⟩) k cap, .string x.name] (grow (W2.drewN m) os) fun e w' => e = .returned (.bool (hasB (Ps.take k) x.name)) ∧ ∃ q os', w' = grow ((grow (W2.drewN m) os).drewN q) os') := fun m os =>
          hasProc_any _ _ k cap (Ps.take k) x.name (((H.out.at_.kept HB2.out).take k).grew ⟨m, os, rfl⟩) (by rw [List.length_take]; have := HN.out; omega) (by omega)
        have hle : (k : Int) ≤ (cap : Int) := by omega
        cases hnm : nameB x.name with
        | false =>
          have HV : Hid (checkN Ps = (k, 35)) := by
            have e := HF.out (.inl hnm)
            have := HS.out (by rw [e]; decide)
            rw [e] at this; exact this
          rw [hnm] at HC1
          refine wp_region_quiet_grown mx (by kernel_rfl) ?_
          repeat (go_big_quiet_step (first | (go_at_call 31; exact Calls.grown_of (HC1.out _ _)) | (go_at_call 32; exact Calls.grown_of (HC2.out _ _))))
          refine wpQuiet_nil ?_
          intro _ hw'
          obtain ⟨⟨nq, osq⟩, hw''⟩ := hw'
          subst hw''
          have HB3 : Hid (Below w.heap.size w (grow (W2.drewN nq) osq)) := HB2.out.trans ((Grew.below ⟨nq, osq, rfl⟩).mono HB2.out.size)
          go_wp2
          go_ret2
          exact ⟨by rw [HV.out]; rfl, HB3.out⟩
        | true =>
          rw [hnm] at HC1
          cases hhs : hasB (Ps.take k) x.name with
          | true =>
            have HV : Hid (checkN Ps = (k, 35)) := by
              have e := HF.out (.inr hhs)
              have := HS.out (by rw [e]; decide)
              rw [e] at this; exact this
            rw [hhs] at HC2
            refine wp_region_quiet_grown mx (by kernel_rfl) ?_
            repeat (go_big_quiet_step (first | (go_at_call 31; exact Calls.grown_of (HC1.out _ _)) | (go_at_call 32; exact Calls.grown_of (HC2.out _ _))))
            refine wpQuiet_nil ?_
            intro _ hw'
            obtain ⟨⟨nq, osq⟩, hw''⟩ := hw'
            subst hw''
            have HB3 : Hid (Below w.heap.size w (grow (W2.drewN nq) osq)) := HB2.out.trans ((Grew.below ⟨nq, osq, rfl⟩).mono HB2.out.size)
            go_wp2
            go_ret2
            exact ⟨by rw [HV.out]; rfl, HB3.out⟩
          | false =>
            have HV : Hid (chkOne Ps k = verifyN x.p x.L) := HT.out hnm hhs
            rw [hhs] at HC2
            refine wp_region_quiet_grown mx (by kernel_rfl) ?_
            repeat (go_big_quiet_step (first | (go_at_call 31; exact Calls.grown_of (HC1.out _ _)) | (go_at_call 32; exact Calls.grown_of (HC2.out _ _))))
            refine wpQuiet_nil ?_
            intro _ hw'
            obtain ⟨⟨nq, osq⟩, hw''⟩ := hw'
            subst hw''
            have HB3 : Hid (Below w.heap.size w (grow (W2.drewN nq) osq)) := HB2.out.trans ((Grew.below ⟨nq, osq, rfl⟩).mono HB2.out.size)
            have HR3 : Hid (RBox (grow (W2.drewN nq) osq) B x) := HR.out.kept (Grew.below ⟨nq, osq, rfl⟩)
            have HO3 : Hid (PrOK (grow (W2.drewN nq) osq) x) := HO2.out.kept (Grew.below ⟨nq, osq, rfl⟩)
            clear g0 HC1 HC2 HF HT HR HO2 HB2
            generalize grow (W2.drewN nq) osq = W3 at *
            obtain ⟨x0, x1, x2, x3, x4, x5⟩ := HR3.out.cells
            go_wp2_with fail
            refine (verify_any W3 x.p x.ao x.n x.cap x.L HO3.out.nin HO3.out.ks HO3.out.len).mono ?_
            rintro e W4 ⟨rfl, hb4⟩
            have HB4 : Hid (Below w.heap.size w W4) := HB3.out.trans (hb4.mono HB3.out.size)
            rw [← HV.out]
            clear hb4 HV x0 x1 x2 x3 x4 x5
            generalize hce : chkOne Ps k = ce at *
            by_cases h0 : ce = 0
            · have HA2 : Hid (∀ i, i < k + 1 → chkOne Ps i = 0) := fun i hi => by
                by_cases e : i = k
                · rw [e, hce]; exact h0
                · exact HA.out i (by omega)
              clear hce
              subst h0
              go_wp2
              go_roundw
              case rel => exact ⟨k + 1, by omega, by go_num, HA2, HB4⟩
              case measure => simp [intOf]; omega
            · have h0' : (ce != 0) = true := by simpa using h0
              have HV : Hid (checkN Ps = (k, ce)) := HS.out h0
              clear hce
              go_wp2
              go_ret2
              exact ⟨by rw [HV.out]; rfl, HB4.out⟩
      · obtain rfl : k = n := by omega
        have HV : Hid (checkN Ps = (0, 0)) := checkN_zero (by have := HN.out; omega) (by rw [← HN.out]; exact HA.out)
        go_wp2
        go_ret2
        exact ⟨by rw [HV.out]; rfl, HB.out⟩
end Go.Proofs.YtmkomfbjgmgemaaGreatDoor
/-
  program, isName.
-/
namespace Go.Proofs.YtmkomfbjgmgemaaGreatDoor
open Go.RowKit Go.Sort

set_option maxRecDepth 100000 in
theorem program_any (w : World) (B line b1 b2 g n cap : Nat) (vn vm vj : Value) (o : Bool) (h : AB w B line (.slice (some ⟨g, 0, none⟩) (n + 1) cap) vn o b1 b2 vm vj) (hn : n ≤ 1000000) :
    Calls Tryz.prog 65 #[.pointer (some ⟨B, 0, none⟩)] w fun e w' => e = .returned (.pointer (some ⟨g, n * 6 + 1, none⟩)) ∧ Grew w w' := by
  obtain ⟨_, x1, _⟩ := h.cells
  have h0 : (0 : Int) ≤ (n : Int) := by omega
  have h1 : (n : Int) < (n : Int) + 1 := by omega
  have HG : Hid (∀ q, Grew w (w.drewN q)) := fun q => (Grew.refl w).drewN q
  clear h
  go_enter Tryz.func65, Tryz.ntmps65
  go_wp2_with fail
  go_quiet (fail)
  go_wp2
  go_ret
  exact ⟨rfl, HG.out _⟩
end Go.Proofs.YtmkomfbjgmgemaaGreatDoor
/-
  isName; strings.CutSuffix AT A COLON.
-/
namespace Go.Proofs.YtmkomfbjgmgemaaGreatDoor
open Go.RowKit Go.Sort

abbrev nmPr (s : ByteArray) : Pr := ⟨s, ⟨0, 0, 0, 0⟩, none, 0, 0, []⟩
theorem one_check (s : ByteArray) : (checkN [nmPr s]).2 = if nameB s = true then 0 else 35 := by
  have h0 : chkOne [nmPr s] 0 = if nameB s = true then 0 else 35 := by
    unfold chkOne
    show (if nameB s = false ∨ hasB [] s = true then (35 : Int) else verifyN ⟨0, 0, 0, 0⟩ []) = _
    cases nameB s with
    | true => rw [if_neg (by simp [hasB]), if_pos rfl]; decide
    | false => rw [if_pos (.inl rfl), if_neg (by simp)]
  show (if 64 < 1 then (0, 36) else firstP (chkOne [nmPr s]) 1 : Nat × Int).2 = _
  rw [if_neg (by omega)]
  simp only [firstP]
  rw [if_neg (by simp), h0]
  cases nameB s <;> rfl
set_option maxRecDepth 100000 in
theorem isNameA_any (w : World) (s : ByteArray) (hs : s.size ≤ 140737488351232) : Calls Tryz.prog 67 #[.string s] w fun e w' => e = .returned (.bool (nameB s)) ∧ Go.RowKit.Below w.heap.size w w' := by
  have HB : Hid (Go.RowKit.Below w.heap.size w (w.alloc (.cells (prc (nmPr s)).toArray 38))) := bel_al _ _
  have HL : LibAt (w.alloc (.cells (prc (nmPr s)).toArray 38)) (some ⟨w.heap.size, 0, none⟩) [nmPr s] := by
    refine ⟨.inr ⟨w.heap.size, 0, rfl, fun j u hu => ?_⟩, fun x hx => ?_⟩
    · rw [Nat.zero_add, World.cell?, heap_alloc_new _ _ rfl]
      simpa [prcs] using hu
    · obtain rfl : x = nmPr s := by simpa using hx
      exact ⟨rfl, .inl rfl, ⟨by show In64 0; unfold In64; omega, by show In64 0; unfold In64; omega, by show In64 0; unfold In64; omega, by show In64 0; unfold In64; omega⟩, by simp, fun _ => rfl, hs, by show 0 * 16 ≤ _; omega⟩
  have HC := check_any _ _ 1 1 [nmPr s] HL rfl (Nat.le_refl _) (by decide)
  rw [one_check] at HC
  generalize (checkN [nmPr s]).1 = i at HC
  clear HL
  go_enter Tryz.func67, Tryz.ntmps67
  cases hb : nameB s with
  | true =>
    rw [hb, if_pos rfl] at HC
    go_wp2_with fail
    refine HC.mono ?_
    rintro e w1 ⟨rfl, h2⟩
    have HB1 : Hid (Go.RowKit.Below w.heap.size w w1) := HB.out.trans (h2.mono HB.out.size)
    clear h2 HC
    go_wp2_with fail
    go_ret
    exact ⟨rfl, HB1.out⟩
  | false =>
    rw [hb, if_neg (by simp)] at HC
    go_wp2_with fail
    refine HC.mono ?_
    rintro e w1 ⟨rfl, h2⟩
    have HB1 : Hid (Go.RowKit.Below w.heap.size w w1) := HB.out.trans (h2.mono HB.out.size)
    clear h2 HC
    go_wp2_with fail
    go_ret
    exact ⟨rfl, HB1.out⟩
/-- a text's last sign -/
theorem last_piece (l : List UInt8) (h : 1 ≤ l.length) : pieceL l (l.length - 1) l.length = [l.getLast (by intro e; rw [e] at h; simp at h)] := by
  unfold pieceL
  rw [List.take_length]
  obtain ⟨a, b, rfl⟩ : ∃ a b, l = a ++ [b] := ⟨l.dropLast, l.getLast (by intro e; rw [e] at h; simp at h), (List.dropLast_concat_getLast _).symm⟩
  simp
theorem first_piece (l : List UInt8) : pieceL l 0 (l.length - 1) = l.dropLast := by
  unfold pieceL
  rw [List.drop_zero, List.dropLast_eq_take]
def endsB (l : List UInt8) (c : UInt8) : Bool := l.getLast? == some c
theorem endsB_nil (c : UInt8) : endsB [] c = false := rfl
theorem endsB_pos (l : List UInt8) (c : UInt8) (h : 1 ≤ l.length) : endsB l c = (pieceL l (l.length - 1) l.length == [c]) := by
  unfold endsB
  rw [last_piece l h, List.getLast?_eq_some_getLast (by intro e; rw [e] at h; simp at h), Bool.eq_iff_iff]
  simp
set_option maxRecDepth 100000 in
theorem hasSuffix_any (w : World) (l : List UInt8) (c : UInt8) (hl : l.length ≤ 1000000) : Calls Tryz.prog 82 #[.string (S l), .string (S [c])] w fun e w' => e = .returned (.bool (endsB l c)) ∧ w' = w := by
  have h1 : (S l).size = l.length := S_size l
  have h2 : (S [c]).size = 1 := S_size [c]
  cases l with
  | nil =>
    have h1' : (S ([] : List UInt8)).size = 0 := h1
    clear h1
    go_enter Tryz.func82, Tryz.ntmps82
    go_wp2
    go_ret
    exact ⟨rfl, rfl⟩
  | cons x l =>
    have hsl : ∀ W, Sem.run Tryz.prog (Instr.slice 9 (.string (S (x :: l))) (some (.int .i64 (((x :: l).length : Int) - 1))) none none) W = .ok (.string (S (pieceL (x :: l) ((x :: l).length - 1) (x :: l).length))) W := fun W => by
      rw [run_slice_string_from_if W 9 (S (x :: l)) .i64 _ Tryz.underlying9, if_pos (by rw [S_size]; simp; omega), ← S_piece]
      congr 2
      rw [h1]
      congr 1
      simp
    have HE : Hid (endsB (x :: l) c = (pieceL (x :: l) ((x :: l).length - 1) (x :: l).length == [c])) := endsB_pos _ c (by simp)
    have hq : ((S (pieceL (x :: l) ((x :: l).length - 1) (x :: l).length)).toList == (S [c]).toList) = (pieceL (x :: l) ((x :: l).length - 1) (x :: l).length == [c]) := by rw [S_toList, S_toList]
    have hln : 1 ≤ (x :: l).length := by simp
    generalize x :: l = m at *
    generalize (pieceL m (m.length - 1) m.length == [c]) = b at *
    go_enter Tryz.func82, Tryz.ntmps82
    go_wp2
    go_ret
    exact ⟨by rw [HE.out]; rfl, rfl⟩
def cutV (l : List UInt8) (c : UInt8) : Value := .tuple #[.string (S (if endsB l c = true then l.dropLast else l)), .bool (endsB l c)]
set_option maxRecDepth 100000 in
theorem cutLite_any (w : World) (l : List UInt8) (c : UInt8) (hl : l.length ≤ 1000000) : Calls Tryz.prog 66 #[.string (S l), .string (S [c])] w fun e w' => e = .returned (cutV l c) ∧ w' = w := by
  have HC := hasSuffix_any w l c hl
  have h1 : (S l).size = l.length := S_size l
  have h2 : (S [c]).size = 1 := S_size [c]
  cases hb : endsB l c with
  | false =>
    rw [hb] at HC
    have HV : Hid (cutV l c = .tuple #[.string (S l), .bool false]) := by show _ = _; unfold cutV; rw [hb]; rfl
    clear hb
    go_enter Tryz.func66, Tryz.ntmps66
    go_wp2_with fail
    refine HC.mono ?_
    rintro e w1 ⟨rfl, hw⟩
    go_wp2_with fail
    go_ret2
    exact ⟨by rw [HV.out]; rfl, rfl⟩
  | true =>
    rw [hb] at HC
    have hln : 1 ≤ l.length := by
      cases l with
      | nil => cases hb
      | cons x l => simp
    have hsl : ∀ W, Sem.run Tryz.prog (Instr.slice 9 (.string (S l)) none (some (.int .i64 ((l.length : Int) - 1))) none) W = .ok (.string (S l.dropLast)) W := fun W => by
      rw [run_slice_string_to_if W 9 (S l) .i64 _ Tryz.underlying9, if_pos (by rw [S_size]; omega), ← first_piece, ← S_piece]
      congr 3
      omega
    have HV : Hid (cutV l c = .tuple #[.string (S l.dropLast), .bool true]) := by show _ = _; unfold cutV; rw [hb]; rfl
    clear hb
    go_enter Tryz.func66, Tryz.ntmps66
    go_wp2_with fail
    refine HC.mono ?_
    rintro e w1 ⟨rfl, hw⟩
    go_wp2
    go_ret2
    exact ⟨by rw [HV.out]; rfl, rfl⟩
theorem cutSuffix_any (w : World) (l : List UInt8) (c : UInt8) (hl : l.length ≤ 1000000) : Calls Tryz.prog 41 #[.string (S l), .string (S [c])] w fun e w' => e = .returned (cutV l c) ∧ w' = w := by
  have HC := cutLite_any w l c hl
  unfold cutV at HC ⊢
  generalize (if endsB l c = true then l.dropLast else l) = m at *
  generalize endsB l c = b at *
  go_enter Tryz.func41, Tryz.ntmps41
  go_wp2_with fail
  refine HC.mono ?_
  rintro e w1 ⟨rfl, hw⟩
  go_wp2_with fail
  go_ret2
  exact ⟨rfl, rfl⟩
end Go.Proofs.YtmkomfbjgmgemaaGreatDoor
