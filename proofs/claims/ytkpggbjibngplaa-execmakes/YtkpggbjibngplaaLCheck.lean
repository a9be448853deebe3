/-
  THE WALK OF Check.
-/
import Derived.Test.YtkpggbjibngplaaLProc
namespace Go.Proofs.Ytkpggbjibngplaa
open Go.RowKit Go.Sort

/-- a procedure in a box -/
def RBox (W : World) (B : Nat) (x : Pr) : Prop := W.heap[B]? = some (.cells #[.string x.name, .int .i64 x.p.args, .int .i64 x.p.reads, .int .i64 x.p.writes, .int .i64 x.p.locals, .slice x.ao x.n x.cap] 34 (0, 0))
theorem RBox.new (w : World) (x : Pr) : RBox (w.alloc (.cells #[.string x.name, .int .i64 x.p.args, .int .i64 x.p.reads, .int .i64 x.p.writes, .int .i64 x.p.locals, .slice x.ao x.n x.cap] 34)) w.heap.size x := heap_alloc_new _ _ rfl
theorem RBox.lt {W : World} {B : Nat} {x : Pr} (h : RBox W B x) : B < W.heap.size := (Array.getElem?_eq_some_iff.1 h).1
theorem RBox.below {W W' : World} {B C : Nat} {x : Pr} (h : RBox W B x) (hb : Below C W W') (hc : B < C) : RBox W' B x := (hb.block B hc).trans h
theorem RBox.kept {W W' : World} {B : Nat} {x : Pr} (h : RBox W B x) (hb : Below W.heap.size W W') : RBox W' B x := h.below hb h.lt
theorem RBox.cells {W : World} {B : Nat} {x : Pr} (h : RBox W B x) :
    W.cell? ⟨B, 0, none⟩ = some (.string x.name) ∧ W.cell? ⟨B, 1, none⟩ = some (.int .i64 x.p.args) ∧ W.cell? ⟨B, 2, none⟩ = some (.int .i64 x.p.reads) ∧ W.cell? ⟨B, 3, none⟩ = some (.int .i64 x.p.writes) ∧ W.cell? ⟨B, 4, none⟩ = some (.int .i64 x.p.locals) ∧ W.cell? ⟨B, 5, none⟩ = some (.slice x.ao x.n x.cap) := by
  refine ⟨?_, ?_, ?_, ?_, ?_, ?_⟩ <;> simp [World.cell?, show W.heap[B]? = _ from h]

set_option maxRecDepth 100000 in
set_option maxHeartbeats 2000000 in
theorem check_any (w : World) (ao : Option Addr) (n cap : Nat) (Ps : List Pr) (h : LibAt w ao Ps) (hn : n = Ps.length) (hc : n ≤ cap) (hm : n ≤ 140737488351232) :
    Calls Try.prog 17 #[.slice ao n cap] w fun e w' => e = .returned (.tuple #[.int .i64 ((checkN Ps).1 : Int), .int .i64 (checkN Ps).2]) ∧ Below w.heap.size w w' := by
  have H : Hid (LibAt w ao Ps) := h
  have HN : Hid (n = Ps.length) := hn
  clear h hn
  by_cases h64 : 64 < n
  · have HV : Hid (checkN Ps = (0, 36)) := by show checkN Ps = (0, 36); unfold checkN; rw [if_pos (by have := HN.out; omega)]
    go_enter Try.func17, Try.ntmps17
    go_wp2
    go_ret2
    exact ⟨by rw [HV.out]; rfl, Below.refl _ _⟩
  · go_enter Try.func17, Try.ntmps17
    go_wp2
    go_loopw [12] (fun x wr => ∃ k : Nat, k ≤ n ∧ x = .int .i64 (k : Int) ∧ Hid (∀ i, i < k → chkOne Ps i = 0) ∧ Hid (Below w.heap.size w wr)) (fun x _ => n - (intOf x).toNat)
    case atStart => exact ⟨0, Nat.zero_le _, rfl, fun i hi => absurd hi (Nat.not_lt_zero i), Below.refl _ _⟩
    case round =>
      obtain ⟨k, hk, rfl, HA, HB⟩ := hrel
      by_cases hlt : k < n
      · have hlt' : k < Ps.length := by have := HN.out; omega
        obtain ⟨b, off, rfl, c0, c1, c2, c3, c4, c5⟩ := (H.out.at_.kept HB.out).get k hlt'
        have HS : Hid (chkOne Ps k ≠ 0 → checkN Ps = (k, chkOne Ps k)) := fun h => checkN_stop (by have := HN.out; omega) HA.out h hlt'
        have HF : Hid ((nameB (pd Ps k).name = false ∨ hasB (Ps.take k) (pd Ps k).name = true) → chkOne Ps k = 35) := chkOne_bad
        have HT : Hid (nameB (pd Ps k).name = true → hasB (Ps.take k) (pd Ps k).name = false → chkOne Ps k = verifyN (pd Ps k).p (pd Ps k).L) := chkOne_good
        have HO : Hid (PrOK wr (pd Ps k)) := (H.out.ok _ (pd_mem hlt')).kept HB.out
        generalize pd Ps k = x at *
        have HR : Hid (RBox (wr.alloc (.cells #[.string x.name, .int .i64 x.p.args, .int .i64 x.p.reads, .int .i64 x.p.writes, .int .i64 x.p.locals, .slice x.ao x.n x.cap] 34)) wr.heap.size x) := RBox.new wr x
        have HB2 : Hid (Below w.heap.size w (wr.alloc (.cells #[.string x.name, .int .i64 x.p.args, .int .i64 x.p.reads, .int .i64 x.p.writes, .int .i64 x.p.locals, .slice x.ao x.n x.cap] 34))) := HB.out.alloc HB.out.size _
        have HO2 : Hid (PrOK (wr.alloc (.cells #[.string x.name, .int .i64 x.p.args, .int .i64 x.p.reads, .int .i64 x.p.writes, .int .i64 x.p.locals, .slice x.ao x.n x.cap] 34)) x) := HO.out.kept ((Below.refl _ _).alloc (Nat.le_refl _) _)
        go_wp2_with fail
        generalize wr.alloc (.cells #[.string x.name, .int .i64 x.p.args, .int .i64 x.p.reads, .int .i64 x.p.writes, .int .i64 x.p.locals, .slice x.ao x.n x.cap] 34) = W2 at *
        generalize wr.heap.size = B at *
        clear c0 c1 c2 c3 c4 c5 HO HB
        have mx := mixed
        have g0 : ∀ n os, (grow (W2.drewN n) os).cell? ⟨B, 0, none⟩ = some (.string x.name) := fun n os => Grew.cell ⟨n, os, rfl⟩ HR.out.cells.1
        have HC1 : Hid (∀ n os, Calls Try.prog 23 #[.string x.name] (grow (W2.drewN n) os) fun e w' => e = .returned (.bool (nameB x.name)) ∧ ∃ q os', w' = grow ((grow (W2.drewN n) os).drewN q) os') := fun n os =>
          (isName_any _ x.name (by have := HO2.out.str; omega)).mono fun e w' ⟨h1, h2⟩ => ⟨h1, 0, #[], by rw [h2, grow_empty]; rfl⟩
        have HC2 : Hid (∀ m os, Calls Try.prog 24 #[.slice (some ⟨b, off, none⟩) k cap, .string x.name] (grow (W2.drewN m) os) fun e w' => e = .returned (.bool (hasB (Ps.take k) x.name)) ∧ ∃ q os', w' = grow ((grow (W2.drewN m) os).drewN q) os') := fun m os =>
          hasProc_any _ _ k cap (Ps.take k) x.name (((H.out.at_.kept HB2.out).take k).grew ⟨m, os, rfl⟩) (by rw [List.length_take]; have := HN.out; omega) (by omega)
        have hle : (k : Int) ≤ (cap : Int) := by omega
        cases hnm : nameB x.name with
        | false =>
          have HV : Hid (checkN Ps = (k, 35)) := by
            have e := HF.out (.inl hnm)
            have := HS.out (by rw [e]; decide)
            rw [e] at this; exact this
          rw [hnm] at HC1
          refine wp_region_quiet_grown mx (by kernel_rfl) ?_
          repeat (go_big_quiet_step (first | (go_at_call 23; exact Calls.grown_of (HC1.out _ _)) | (go_at_call 24; exact Calls.grown_of (HC2.out _ _))))
          refine wpQuiet_nil ?_
          intro _ hw'
          obtain ⟨⟨nq, osq⟩, hw''⟩ := hw'
          subst hw''
          have HB3 : Hid (Below w.heap.size w (grow (W2.drewN nq) osq)) := HB2.out.trans ((Grew.below ⟨nq, osq, rfl⟩).mono HB2.out.size)
          go_wp2
          go_ret2
          exact ⟨by rw [HV.out]; rfl, HB3.out⟩
        | true =>
          rw [hnm] at HC1
          cases hhs : hasB (Ps.take k) x.name with
          | true =>
            have HV : Hid (checkN Ps = (k, 35)) := by
              have e := HF.out (.inr hhs)
              have := HS.out (by rw [e]; decide)
              rw [e] at this; exact this
            rw [hhs] at HC2
            refine wp_region_quiet_grown mx (by kernel_rfl) ?_
            repeat (go_big_quiet_step (first | (go_at_call 23; exact Calls.grown_of (HC1.out _ _)) | (go_at_call 24; exact Calls.grown_of (HC2.out _ _))))
            refine wpQuiet_nil ?_
            intro _ hw'
            obtain ⟨⟨nq, osq⟩, hw''⟩ := hw'
            subst hw''
            have HB3 : Hid (Below w.heap.size w (grow (W2.drewN nq) osq)) := HB2.out.trans ((Grew.below ⟨nq, osq, rfl⟩).mono HB2.out.size)
            go_wp2
            go_ret2
            exact ⟨by rw [HV.out]; rfl, HB3.out⟩
          | false =>
            have HV : Hid (chkOne Ps k = verifyN x.p x.L) := HT.out hnm hhs
            rw [hhs] at HC2
            refine wp_region_quiet_grown mx (by kernel_rfl) ?_
            repeat (go_big_quiet_step (first | (go_at_call 23; exact Calls.grown_of (HC1.out _ _)) | (go_at_call 24; exact Calls.grown_of (HC2.out _ _))))
            refine wpQuiet_nil ?_
            intro _ hw'
            obtain ⟨⟨nq, osq⟩, hw''⟩ := hw'
            subst hw''
            have HB3 : Hid (Below w.heap.size w (grow (W2.drewN nq) osq)) := HB2.out.trans ((Grew.below ⟨nq, osq, rfl⟩).mono HB2.out.size)
            have HR3 : Hid (RBox (grow (W2.drewN nq) osq) B x) := HR.out.kept (Grew.below ⟨nq, osq, rfl⟩)
            have HO3 : Hid (PrOK (grow (W2.drewN nq) osq) x) := HO2.out.kept (Grew.below ⟨nq, osq, rfl⟩)
            clear g0 HC1 HC2 HF HT HR HO2 HB2
            generalize grow (W2.drewN nq) osq = W3 at *
            obtain ⟨x0, x1, x2, x3, x4, x5⟩ := HR3.out.cells
            go_wp2_with fail
            refine (verify_any W3 x.p x.ao x.n x.cap x.L HO3.out.nin HO3.out.ks HO3.out.len).mono ?_
            rintro e W4 ⟨rfl, hb4⟩
            have HB4 : Hid (Below w.heap.size w W4) := HB3.out.trans (hb4.mono HB3.out.size)
            rw [← HV.out]
            clear hb4 HV x0 x1 x2 x3 x4 x5
            generalize hce : chkOne Ps k = ce at *
            by_cases h0 : ce = 0
            · have HA2 : Hid (∀ i, i < k + 1 → chkOne Ps i = 0) := fun i hi => by
                by_cases e : i = k
                · rw [e, hce]; exact h0
                · exact HA.out i (by omega)
              clear hce
              subst h0
              go_wp2
              go_roundw
              case rel => exact ⟨k + 1, by omega, by go_num, HA2, HB4⟩
              case measure => simp [intOf]; omega
            · have h0' : (ce != 0) = true := by simpa using h0
              have HV : Hid (checkN Ps = (k, ce)) := HS.out h0
              clear hce
              go_wp2
              go_ret2
              exact ⟨by rw [HV.out]; rfl, HB4.out⟩
      · obtain rfl : k = n := by omega
        have HV : Hid (checkN Ps = (0, 0)) := checkN_zero (by have := HN.out; omega) (by rw [← HN.out]; exact HA.out)
        go_wp2
        go_ret2
        exact ⟨by rw [HV.out]; rfl, HB.out⟩
end Go.Proofs.Ytkpggbjibngplaa
