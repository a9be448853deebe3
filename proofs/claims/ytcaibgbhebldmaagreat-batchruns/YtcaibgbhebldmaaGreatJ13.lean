import Derived.Test.YtcaibgbhebldmaaGreatJ12
import Derived.Test.YtcaibgbhebldmaaGreatJ09
import Derived.Test.YtcaibgbhebldmaaGreatJ07
/-
  THE WALK OF Encode.
-/
namespace Go.Proofs.YtcaibgbhebldmaaGreat.Kk
open Go.RowKit Go.Sort

structure WF (t : Tp) : Prop where
  p0 : 0 ≤ t.proc
  p1 : t.proc < 64
  a : t.args.length ≤ 16
  r : t.reads.length ≤ 16
  w : t.writes.length ≤ 16
  rr : Rise t.reads
  rw : Rise t.writes
theorem wf_of {t : Tp} (h : formN t = 0) : WF t := by
  unfold formN at h
  split at h
  · cases h
  · split at h
    · cases h
    · split at h
      · cases h
      · split at h
        · cases h
        · split at h
          · rename_i h1 h2 h3 h4 h5
            exact ⟨by omega, by omega, by omega, by omega, by omega, h5.1, h5.2⟩
          · cases h
theorem WF.form {t : Tp} (h : WF t) : formN t = 0 := by
  unfold formN
  rw [if_neg (by have := h.p0; have := h.p1; omega), if_neg (by have := h.a; omega), if_neg (by have := h.r; omega), if_neg (by have := h.w; omega), if_pos ⟨h.rr, h.rw⟩]
theorem WF.length {t : Tp} (h : WF t) : (txN t).length ≤ 600 := by
  have a := h.a; have r := h.r; have w := h.w
  have h1 := uint_length 10 t.proc.toNat
  have h2 := uint_length 10 t.args.length
  have h3 := uint_length 10 t.reads.length
  have h4 := uint_length 10 t.writes.length
  have h5 := argsT_length t.args
  have h6 := keysT_length t.reads
  have h7 := keysT_length t.writes
  unfold argsT at h5
  simp only [txN, argsN, setN, List.length_append]
  omega
theorem txs_length {Ts : List Tp} (h : ∀ t ∈ Ts, WF t) : (Ts.flatMap txN).length ≤ Ts.length * 600 := by
  induction Ts with
  | nil => simp
  | cons t Ts ih =>
    have h1 := (h t (by simp)).length
    have h2 := ih (fun x hx => h x (by simp [hx]))
    simp only [List.flatMap_cons, List.length_append, List.length_cons]
    omega
theorem td_take {Ts : List Tp} {k : Nat} (h : k < Ts.length) : Ts.take (k + 1) = Ts.take k ++ [td Ts k] := by
  rw [List.take_succ_eq_append_getElem h]
  simp [td, List.getD_eq_getElem?_getD, List.getElem?_eq_getElem h]
def EncPost (w : World) (Ts : List Tp) (e : Ending) (w' : World) : Prop :=
  ((eachN formN Ts).2 ≠ 0 ∧ e = .returned (.tuple #[.slice none 0 0, .int .i64 (eachN formN Ts).2]) ∧ Below w.heap.size w w') ∨
  ((eachN formN Ts).2 = 0 ∧ ∃ g, e = .returned (.tuple #[.slice (some ⟨g, 0, none⟩) (batN Ts).length (batN Ts).length, .int .i64 0]) ∧ RowAt w' g (batN Ts) ∧ w.heap.size ≤ g ∧ w'.heap.size = g + 1 ∧ Below w.heap.size w w')

set_option maxRecDepth 100000 in
set_option maxHeartbeats 2000000 in
theorem encode_b (w : World) (ao : Option Addr) (n cap : Nat) (Bs : List Bx) (h : BatAt w ao Bs) (hn : n = Bs.length) (hm : n ≤ 140737488355328) :
    Calls Tryz.prog 9 #[.slice ao n cap] w fun e w' => EncPost w (Bs.map Bx.t) e w' := by
  have H : Hid (BatAt w ao Bs) := h
  have HN : Hid (n = Bs.length) := hn
  have HT : Hid ((Bs.map Bx.t).length = n) := by rw [hn]; simp [Hid]
  have HE : Hid (Calls Tryz.prog 24 #[.slice ao n cap, .func (.func 25) #[] #[]] w fun e w' => e = .returned (.tuple #[.int .i64 ((eachN formN (Bs.map Bx.t)).1 : Int), .int .i64 (eachN formN (Bs.map Bx.t)).2]) ∧ Grew w w') := eachF_any w ao n cap Bs formN h hn hm (fun i hi W hg => wellFormed_any W _ ((h.lst i hi).kept hg.below))
  have HPo : Hid (∀ e w', (((eachN formN (Bs.map Bx.t)).2 ≠ 0 ∧ e = .returned (.tuple #[.slice none 0 0, .int .i64 (eachN formN (Bs.map Bx.t)).2]) ∧ Below w.heap.size w w') ∨
    ((eachN formN (Bs.map Bx.t)).2 = 0 ∧ ∃ g, e = .returned (.tuple #[.slice (some ⟨g, 0, none⟩) (batN (Bs.map Bx.t)).length (batN (Bs.map Bx.t)).length, .int .i64 0]) ∧ RowAt w' g (batN (Bs.map Bx.t)) ∧ w.heap.size ≤ g ∧ w'.heap.size = g + 1 ∧ Below w.heap.size w w')) → EncPost w (Bs.map Bx.t) e w') := fun _ _ h => h
  have HOk : Hid ((eachN formN (Bs.map Bx.t)).2 = 0 → n ≤ 64 ∧ ∀ i, i < n → WF (bd Bs i).t) := fun h0 => by
    obtain ⟨h1, h2⟩ := eachN_ok h0
    rw [HT.out] at h1 h2
    exact ⟨h1, fun i hi => wf_of (by have := h2 i hi; rwa [td_map (by have := HN.out; omega)] at this)⟩
  clear h hn
  generalize eachN formN (Bs.map Bx.t) = E at *
  obtain ⟨E1, E2⟩ := E
  simp only at HE HPo HOk
  go_enter Tryz.func9, Tryz.ntmps9
  go_wp2_with fail
  refine HE.out.mono ?_
  rintro e w1 ⟨rfl, hg1⟩
  have HG1 : Hid (Grew w w1) := hg1
  clear hg1 HE
  by_cases h0 : E2 = 0
  case neg =>
    have h0' : ¬ E2 = 0 := h0
    have HF : Hid (EncPost w (Bs.map Bx.t) (.returned (.tuple #[.slice none 0 0, .int .i64 E2])) w1) := HPo.out _ _ (.inl ⟨h0, rfl, HG1.out.below⟩)
    go_wp2
    go_ret2
    exact HF.out
  subst h0
  obtain ⟨h64, hwf⟩ := HOk.out rfl
  have HWF : Hid (∀ i, i < n → WF (bd Bs i).t) := hwf
  clear hwf HOk
  go_wp2_with fail
  refine (new_any w1).mono ?_
  rintro e w2 ⟨rfl, h2, hb2, hs2⟩
  have HW2 : Hid (Wr w2 w1.heap.size w1.heap.size []) := ⟨_, h2⟩
  have HB2 : Hid (Below w1.heap.size w1 w2) := hb2
  clear h2 hb2 hs2
  obtain ⟨base, hbase⟩ : ∃ base, base = w1.heap.size := ⟨_, rfl⟩
  rw [← hbase] at HW2 HB2 ⊢
  have HBs : Hid (w.heap.size ≤ base) := by rw [hbase]; exact HG1.out.size
  have H1 : Hid (BatAt w1 ao Bs) := H.out.kept HG1.out.below
  have HLo : Hid (∀ W, Below base w1 W → BatAt W ao Bs) := fun W hW => by rw [hbase] at hW; exact H1.out.kept hW
  have HLw : Hid (∀ i, i < Bs.length → Low base (bd Bs i).aA ((bd Bs i).t.args.map iv ≠ []) ∧ Low base (bd Bs i).aR ((bd Bs i).t.reads ≠ []) ∧ Low base (bd Bs i).aW ((bd Bs i).t.writes ≠ [])) := fun i hi => by
    rw [hbase]
    exact ⟨(H1.out.lst i hi).args.lt, (H1.out.lst i hi).reads.lt, (H1.out.lst i hi).writes.lt⟩
  have HFr : Hid (∀ W, Below base w1 W → Below w.heap.size w W) := fun W hW => HG1.out.below.trans (hW.mono HBs.out)
  clear hbase H1
  go_wp2_with fail
  refine (wUint_b w2 base base n [] HW2.out (by omega) (by simp)).mono ?_
  rintro e w3 ⟨rfl, h3, hb3⟩
  have HW3 : Hid (Wr w3 base base (uint 10 n)) := by simp only [List.nil_append] at h3; exact h3
  have HB3 : Hid (Below base w1 w3) := HB2.out.trans hb3.bel
  clear h3 hb3 HW2 HB2
  have HU : Hid ((uint 10 n).length ≤ 11) := uint_length 10 n
  go_wp2_with fail
  go_loopw [25] (fun x wr => ∃ k : Nat, k ≤ n ∧ x = .int .i64 (k : Int) ∧ Hid (Wr wr base base (uint 10 n ++ ((Bs.map Bx.t).take k).flatMap txN)) ∧ Hid (Below base w1 wr) ∧ Hid ((((Bs.map Bx.t).take k).flatMap txN).length ≤ k * 600)) (fun x _ => n - (intOf x).toNat)
  case atStart => exact ⟨0, Nat.zero_le _, rfl, by simpa using HW3, HB3, by simp [Hid]⟩
  case round =>
    clear HW3 HB3
    obtain ⟨k, hk, rfl, HWk, HBk, HLk⟩ := hrel
    by_cases hlt : k < n
    · have hlt' : k < Bs.length := by have := HN.out; omega
      have HTk : Hid (((Bs.map Bx.t).take (k + 1)).flatMap txN = ((Bs.map Bx.t).take k).flatMap txN ++ txN (bd Bs k).t) := by
        rw [td_take (by rw [HT.out]; exact hlt), td_map hlt']; simp [Hid]
      have HWt : Hid (WF (bd Bs k).t) := HWF.out k hlt
      have HL2 : Hid ((((Bs.map Bx.t).take (k + 1)).flatMap txN).length ≤ (k + 1) * 600) := by
        rw [HTk.out]
        have h1 := HLk.out
        have h2 := HWt.out.length
        simp only [List.length_append, Hid]; omega
      have HBa : Hid (BatAt wr ao Bs) := HLo.out wr HBk.out
      obtain ⟨b, off, rfl, c0, c1, c2, c3⟩ := TxsAt.get HBa.out.at_ k hlt'
      have HOx : Hid (∀ W, Below base w1 W → BxOK W (bd Bs k)) := fun W hW => (HLo.out W hW).lst k hlt'
      have HLx : Hid (Low base (bd Bs k).aA ((bd Bs k).t.args.map iv ≠ []) ∧ Low base (bd Bs k).aR ((bd Bs k).t.reads ≠ []) ∧ Low base (bd Bs k).aW ((bd Bs k).t.writes ≠ [])) := HLw.out k hlt'
      have hp0 := HWt.out.p0
      have hp1 := HWt.out.p1
      obtain ⟨P, hP⟩ : ∃ P, P = uint 10 n ++ ((Bs.map Bx.t).take k).flatMap txN := ⟨_, rfl⟩
      have HPl : Hid (P.length ≤ 50000) := by
        have h1 := HLk.out
        have h2 := HU.out
        rw [hP]; simp only [List.length_append, Hid]; omega
      have HPe : Hid (P = uint 10 n ++ ((Bs.map Bx.t).take k).flatMap txN) := hP
      rw [← hP] at HWk
      clear hP HLk HBa
      generalize bd Bs k = x at *
      obtain ⟨⟨proc, args, reads, writes⟩, xA, kA, xR, kR, xW, kW⟩ := x
      simp only at c0 c1 c2 c3 hp0 hp1 HLx
      obtain ⟨pq, rfl⟩ : ∃ q : Nat, proc = (q : Int) := ⟨proc.toNat, by omega⟩
      have HG0 : Hid (Grew wr (wr.alloc (.cells #[.int .i64 (pq : Int), .slice xA args.length kA, .slice xR reads.length kR, .slice xW writes.length kW] 46))) := (Grew.refl _).alloc _
      have HW0 : Hid (Wr (wr.alloc (.cells #[.int .i64 (pq : Int), .slice xA args.length kA, .slice xR reads.length kR, .slice xW writes.length kW] 46)) base base P) := HWk.out.kept HG0.out.below
      have HB0 : Hid (Below base w1 (wr.alloc (.cells #[.int .i64 (pq : Int), .slice xA args.length kA, .slice xR reads.length kR, .slice xW writes.length kW] 46))) := HBk.out.trans (HG0.out.below.mono HWk.out.size)
      have HFr0 : Hid (Free (wr.alloc (.cells #[.int .i64 (pq : Int), .slice xA args.length kA, .slice xR reads.length kR, .slice xW writes.length kW] 46)) base wr.heap.size) := free_new HWk.out _
      have HX0 : Hid (∀ W : World, W.heap[wr.heap.size]? = (wr.alloc (.cells #[.int .i64 (pq : Int), .slice xA args.length kA, .slice xR reads.length kR, .slice xW writes.length kW] 46)).heap[wr.heap.size]? → W.cell? ⟨wr.heap.size, 0, none⟩ = some (.int .i64 (pq : Int)) ∧ W.cell? ⟨wr.heap.size, 1, none⟩ = some (.slice xA args.length kA) ∧ W.cell? ⟨wr.heap.size, 2, none⟩ = some (.slice xR reads.length kR) ∧ W.cell? ⟨wr.heap.size, 3, none⟩ = some (.slice xW writes.length kW)) := fun W hW => by
        rw [heap_alloc_new _ _ rfl] at hW
        simp [World.cell?, hW]
      have HU1 : Hid ((uint 10 pq).length ≤ 11) := uint_length 10 pq
      go_upto_region 9 with fail
      generalize wr.alloc (.cells #[.int .i64 (pq : Int), .slice xA args.length kA, .slice xR reads.length kR, .slice xW writes.length kW] 46) = V0 at *
      obtain ⟨x0, x1, x2, x3⟩ := HX0.out V0 rfl
      clear HWk HBk c0 c1 c2 c3
      go_wp2_with fail
      refine (wUint_b V0 base base pq P HW0.out (by omega) (by have := HPl.out; omega)).mono ?_
      rintro e v1 ⟨rfl, h1, f1⟩
      have HW1 : Hid (Wr v1 base base (P ++ uint 10 pq)) := h1
      have HF1 : Hid (Fl base base V0 v1) := f1
      have HB1 : Hid (Below base w1 v1) := HB0.out.trans f1.bel
      obtain ⟨_, y1, y2, y3⟩ := HX0.out v1 (f1.fre _ HFr0.out).1
      clear h1 f1 x0 x1 x2 x3 HW0
      go_wp2_with fail
      refine (putArgs_b v1 base base (P ++ uint 10 pq) xA args.length kA args HW1.out (HOx.out v1 HB1.out).args HLx.out.1 (HOx.out v1 HB1.out).ain rfl HWt.out.a (by have h1 := HPl.out; have h2 := HU1.out; rw [List.length_append]; omega)).mono ?_
      rintro e v2 ⟨rfl, h2, f2⟩
      have HW2 : Hid (Wr v2 base base (P ++ uint 10 pq ++ argsN args)) := h2
      have HF2 : Hid (Fl base base V0 v2) := HF1.out.trans f2
      have HB2 : Hid (Below base w1 v2) := HB0.out.trans HF2.out.bel
      obtain ⟨_, z1, z2, z3⟩ := HX0.out v2 (HF2.out.fre _ HFr0.out).1
      have HA2 : Hid ((argsN args).length ≤ 200) := by
        have h1 := argsT_length args
        have h2 := uint_length 10 args.length
        have h3 := HWt.out.a
        unfold argsT at h1
        simp only at h3
        simp only [argsN, List.length_append, Hid]; omega
      clear h2 f2 y1 y2 y3 HW1 HF1 HB1
      go_wp2_with fail
      refine (putKeys_b v2 base base (P ++ uint 10 pq ++ argsN args) xR reads.length kR reads HW2.out (HOx.out v2 HB2.out).reads HLx.out.2.1 (HOx.out v2 HB2.out).rin HWt.out.rr.1 rfl HWt.out.r (by have h1 := HPl.out; have h2 := HU1.out; have h3 := HA2.out; simp only [List.length_append]; omega)).mono ?_
      rintro e v3 ⟨rfl, h3, f3⟩
      have HW3 : Hid (Wr v3 base base (P ++ uint 10 pq ++ argsN args ++ setN reads)) := h3
      have HF3 : Hid (Fl base base V0 v3) := HF2.out.trans f3
      have HB3 : Hid (Below base w1 v3) := HB0.out.trans HF3.out.bel
      obtain ⟨_, y1, y2, y3⟩ := HX0.out v3 (HF3.out.fre _ HFr0.out).1
      have HA3 : Hid ((setN reads).length ≤ 200) := by
        have h1 := keysT_length reads
        have h2 := uint_length 10 reads.length
        have h3 := HWt.out.r
        simp only at h3
        simp only [setN, List.length_append, Hid]; omega
      clear h3 f3 z1 z2 z3 HW2 HF2 HB2
      go_wp2_with fail
      refine (putKeys_b v3 base base (P ++ uint 10 pq ++ argsN args ++ setN reads) xW writes.length kW writes HW3.out (HOx.out v3 HB3.out).writes HLx.out.2.2 (HOx.out v3 HB3.out).win HWt.out.rw.1 rfl HWt.out.w (by have h1 := HPl.out; have h2 := HU1.out; have h3 := HA2.out; have h4 := HA3.out; simp only [List.length_append]; omega)).mono ?_
      rintro e v4 ⟨rfl, h4, f4⟩
      have HW4 : Hid (Wr v4 base base (uint 10 n ++ ((Bs.map Bx.t).take (k + 1)).flatMap txN)) := by
        rw [HTk.out, ← List.append_assoc, ← HPe.out]
        simp only [txN, Int.toNat_natCast]
        simp only [← List.append_assoc]
        exact h4
      have HB4 : Hid (Below base w1 v4) := HB0.out.trans (HF3.out.trans f4).bel
      clear h4 f4 y1 y2 y3 HW3 HF3 HB3 HX0 HFr0 HOx
      go_wp2
      go_roundw
      case rel => exact ⟨k + 1, by omega, by go_num, HW4, HB4, HL2⟩
      case measure => simp [intOf]; omega
    · obtain rfl : k = n := by omega
      have HBt : Hid (batN (Bs.map Bx.t) = uint 10 k ++ (Bs.map Bx.t).flatMap txN) := by unfold batN; rw [HT.out]; rfl
      have HWn : Hid (Wr wr base base (batN (Bs.map Bx.t)) ∧ (batN (Bs.map Bx.t)).length ≤ 50000) := by
        have h1 := HWk.out
        have h2 := HLk.out
        rw [List.take_of_length_le (by rw [HT.out]; omega)] at h1 h2
        rw [HBt.out]
        refine ⟨h1, ?_⟩
        have h3 := HU.out
        rw [List.length_append]; omega
      clear HWk HLk
      obtain ⟨v, hv⟩ := HWn.out.1
      have HV : Hid (IsWriter wr base base v (batN (Bs.map Bx.t))) := hv
      clear hv
      go_wp2_with fail
      refine (wOut_any wr base base v (batN (Bs.map Bx.t)) HV.out (by have := HWn.out.2; omega)).mono ?_
      rintro e w9 ⟨rfl, h9, hb9, hs9⟩
      have HF : Hid (EncPost w (Bs.map Bx.t) (.returned (.tuple #[.slice (some ⟨wr.heap.size, 0, none⟩) (batN (Bs.map Bx.t)).length (batN (Bs.map Bx.t)).length, .int .i64 0])) w9) := by
        have h1 := HFr.out wr HBk.out
        exact HPo.out _ _ (.inr ⟨by trivial, _, rfl, h9, h1.size, hs9, h1.trans (hb9.mono h1.size)⟩)
      clear h9 hb9 hs9
      go_wp2
      go_ret2
      exact HF.out
end Go.Proofs.YtcaibgbhebldmaaGreat.Kk
/-
  THE WALKS OF codec.Reader's METHODS: Bytes, End; codec.Read.
-/
namespace Go.Proofs.YtcaibgbhebldmaaGreat
open Go.RowKit

def rdBytes (b : List Nat) (p : Nat) (e : Int) (most : Int) : List Nat × Nat × Int :=
  if e ≠ 0 then ([], p, e) else if (scan (b.drop p)).2.2 ≠ 0 then ([], p, (((scan (b.drop p)).2.2 : Nat) : Int)) else if most < 0 ∨ most < (((scan (b.drop p)).1 : Nat) : Int) then ([], p, 12)
  else if b.length - p - (scan (b.drop p)).2.1 < (scan (b.drop p)).1 then ([], p, 10) else rdRaw b (p + (scan (b.drop p)).2.1) 0 (((scan (b.drop p)).1 : Nat) : Int)


end Go.Proofs.YtcaibgbhebldmaaGreat
/-
  WHAT IS READ BACK OF WHAT WAS WRITTEN.
-/
namespace Go.Proofs.YtcaibgbhebldmaaGreat
open Go.RowKit

theorem unfold_fold (z : Int) (h0 : -9223372036854775808 ≤ z) (h1 : z ≤ 9223372036854775807) : unfold (fold z) = z := by
  unfold unfold fold
  split <;> split <;> omega
theorem rdRaw_ok (b : List Nat) (p n : Nat) (h : n ≤ b.length - p) : rdRaw b p 0 (n : Int) = ((b.drop p).take n, p + n, 0) := by
  unfold rdRaw
  rw [if_neg (by simp), if_neg (by omega), if_neg (by omega)]
  rfl
theorem rdByte_at (b : List Nat) (p z : Nat) (R : List Nat) (h : b.drop p = z :: R) : rdByte b p 0 = (z, p + 1, 0) := by
  have hl : p < b.length := by
    have := congrArg List.length h
    rw [List.length_drop, List.length_cons] at this
    omega
  have hg : b.getD p 0 = z := by
    rw [List.drop_eq_getElem_cons hl] at h
    rw [List.getD_eq_getElem?_getD, List.getElem?_eq_getElem hl]
    exact (List.cons.inj h).1
  unfold rdByte
  rw [if_neg (by simp), if_neg (by omega), hg]
theorem scan_at (n : Nat) (hn : n < 18446744073709551616) (R : List Nat) : scan (uint 10 n ++ R) = (n, (uint 10 n).length, 0) := by
  have h := scan_uint R 9 0 0 n (by omega) (by simpa using hn) (by omega)
  simpa [scan] using h
theorem rdUpto_at (b : List Nat) (p n most : Nat) (R : List Nat) (hn : n < 18446744073709551616) (hm : n ≤ most) (h : b.drop p = uint 10 n ++ R) : rdUpto b p 0 most = (n, p + (uint 10 n).length, 0) := by
  unfold rdUpto
  rw [h, scan_at n hn R]
  simp only [ne_eq, not_true, if_false]
  rw [if_neg (by omega)]
theorem rdRaw_at (b : List Nat) (p : Nat) (bs R : List Nat) (h : b.drop p = bs ++ R) : rdRaw b p 0 (bs.length : Int) = (bs, p + bs.length, 0) := by
  have hl := congrArg List.length h
  rw [List.length_drop, List.length_append] at hl
  rw [rdRaw_ok b p bs.length (by omega), h, List.take_left]
theorem rdBytes_at (b : List Nat) (p : Nat) (bs R : List Nat) (hn : bs.length < 18446744073709551616) (h : b.drop p = uint 10 bs.length ++ bs ++ R) : rdBytes b p 0 (bs.length : Int) = (bs, p + (uint 10 bs.length ++ bs).length, 0) := by
  have hl := congrArg List.length h
  rw [List.length_drop, List.length_append, List.length_append] at hl
  have h2 : b.drop (p + (uint 10 bs.length).length) = bs ++ R := by
    rw [← List.drop_drop, h, List.append_assoc, List.drop_left]
  unfold rdBytes
  rw [h, List.append_assoc, scan_at bs.length hn]
  simp only [ne_eq, not_true, if_false]
  rw [if_neg (by omega), if_neg (by omega), rdRaw_at b _ bs R h2, List.length_append]
  congr 2
  omega
end Go.Proofs.YtcaibgbhebldmaaGreat
