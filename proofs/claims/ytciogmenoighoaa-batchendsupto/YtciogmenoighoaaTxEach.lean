/-
  THE WALKS OF each, Check.
-/
import Derived.Test.YtciogmenoighoaaTxForm
namespace Go.Proofs.Ytciogmenoighoaa.Kk
open Go.RowKit Go.Sort

set_option maxRecDepth 100000 in
set_option maxHeartbeats 1000000 in
theorem eachS_any (w : World) (ao : Option Addr) (n cap : Nat) (Bs : List Bx) (f : Tp → Int) (B : Nat) (h : BatAt w ao Bs) (hn : n = Bs.length) (hm : n ≤ 140737488355328)
    (hl : ∀ i, i < Bs.length → ∀ W, Grew w W → Calls Try.prog 89 #[bxv (bd Bs i), .pointer (some ⟨B, 0, none⟩)] W fun e w' => e = .returned (.int .i64 (f (bd Bs i).t)) ∧ Grew W w') :
    Calls Try.prog 28 #[.slice ao n cap, .func (.func 89) #[] #[.pointer (some ⟨B, 0, none⟩)]] w fun e w' => e = .returned (.tuple #[.int .i64 ((eachN f (Bs.map Bx.t)).1 : Int), .int .i64 (eachN f (Bs.map Bx.t)).2]) ∧ Grew w w' := by
  have H : Hid (BatAt w ao Bs) := h
  have HN : Hid (n = Bs.length) := hn
  have HL : Hid (∀ i, i < Bs.length → ∀ W, Grew w W → Calls Try.prog 89 #[bxv (bd Bs i), .pointer (some ⟨B, 0, none⟩)] W fun e w' => e = .returned (.int .i64 (f (bd Bs i).t)) ∧ Grew W w') := hl
  have HT : Hid ((Bs.map Bx.t).length = n) := by rw [hn]; simp [Hid]
  clear h hn hl
  by_cases h64 : 64 < n
  · have HE : Hid (eachN f (Bs.map Bx.t) = (0, 60)) := eachN_big (by rw [HT.out]; exact h64)
    have h64i : (64 : Int) < n := by omega
    go_enter Try.func28, Try.ntmps28
    go_wp2
    go_ret2
    exact ⟨by rw [HE.out]; rfl, Grew.refl _⟩
  have h64i : ¬ (64 : Int) < n := by omega
  go_enter Try.func28, Try.ntmps28
  go_wp2_with fail
  go_loopw [14] (fun x wr => ∃ k : Nat, k ≤ n ∧ x = .int .i64 (k : Int) ∧ Hid (Grew w wr) ∧ Hid (∀ i, i < k → f (td (Bs.map Bx.t) i) = 0)) (fun x _ => n - (intOf x).toNat)
  case atStart => exact ⟨0, Nat.zero_le _, rfl, Grew.refl _, fun i hi => by omega⟩
  case round =>
    obtain ⟨k, hk, rfl, HG, HZ⟩ := hrel
    by_cases hlt : k < n
    · have hlt' : k < Bs.length := by have := HN.out; omega
      have HTd : Hid (td (Bs.map Bx.t) k = (bd Bs k).t) := td_map hlt'
      obtain ⟨b, off, rfl, c0, c1, c2, c3⟩ := TxsAt.get (H.out.at_.kept HG.out.below) k hlt'
      have HC : Hid (∀ W, Grew w W → Calls Try.prog 89 #[bxv (bd Bs k), .pointer (some ⟨B, 0, none⟩)] W fun e w' => e = .returned (.int .i64 (f (bd Bs k).t)) ∧ Grew W w') := HL.out k hlt'
      generalize bd Bs k = x at *
      obtain ⟨⟨proc, args, reads, writes⟩, aA, cA, aR, cR, aW, cW⟩ := x
      simp only [bxv] at c0 c1 c2 c3 HC HTd
      have HG1 : Hid (Grew w (wr.alloc (.cells #[.int .i64 proc, .slice aA args.length cA, .slice aR reads.length cR, .slice aW writes.length cW] 58))) := HG.out.alloc _
      obtain ⟨r, hr⟩ : ∃ r, r = f ⟨proc, args, reads, writes⟩ := ⟨_, rfl⟩
      rw [← hr] at HC
      have HR : Hid (f (td (Bs.map Bx.t) k) = r) := by rw [HTd.out, hr]; rfl
      clear hr HTd
      go_wp2_with fail
      refine (HC.out _ HG1.out).mono ?_
      rintro e w2 ⟨rfl, hg⟩
      have HG2 : Hid (Grew w w2) := HG1.out.trans hg
      clear hg HC HG1 HG c0 c1 c2 c3
      by_cases h0 : r = 0
      · subst h0
        go_wp2
        go_roundw
        case rel => exact ⟨k + 1, by omega, by go_num, HG2, fun i hi => by
          by_cases e : i = k
          · subst e; exact HR.out
          · exact HZ.out i (by omega)⟩
        case measure => simp [intOf]; omega
      · have h0' : ¬ r = 0 := h0
        have HE : Hid (eachN f (Bs.map Bx.t) = (k, r)) := by
          have := eachN_stop (f := f) (Ts := Bs.map Bx.t) (k := k) (by rw [HT.out]; omega) HZ.out (by rw [HR.out]; exact h0) (by rw [HT.out]; exact hlt)
          rw [HR.out] at this; exact this
        go_wp2
        go_ret2
        exact ⟨by rw [HE.out]; rfl, HG2.out⟩
    · obtain rfl : k = n := by omega
      have HE : Hid (eachN f (Bs.map Bx.t) = (0, 0)) := eachN_zero (by rw [HT.out]; omega) (by rw [HT.out]; exact HZ.out)
      go_wp2
      go_ret2
      exact ⟨by rw [HE.out]; rfl, HG.out⟩
set_option maxRecDepth 100000 in
set_option maxHeartbeats 1000000 in
theorem eachF_any (w : World) (ao : Option Addr) (n cap : Nat) (Bs : List Bx) (f : Tp → Int) (h : BatAt w ao Bs) (hn : n = Bs.length) (hm : n ≤ 140737488355328)
    (hl : ∀ i, i < Bs.length → ∀ W, Grew w W → Calls Try.prog 29 #[bxv (bd Bs i)] W fun e w' => e = .returned (.int .i64 (f (bd Bs i).t)) ∧ Grew W w') :
    Calls Try.prog 28 #[.slice ao n cap, .func (.func 29) #[] #[]] w fun e w' => e = .returned (.tuple #[.int .i64 ((eachN f (Bs.map Bx.t)).1 : Int), .int .i64 (eachN f (Bs.map Bx.t)).2]) ∧ Grew w w' := by
  have H : Hid (BatAt w ao Bs) := h
  have HN : Hid (n = Bs.length) := hn
  have HL : Hid (∀ i, i < Bs.length → ∀ W, Grew w W → Calls Try.prog 29 #[bxv (bd Bs i)] W fun e w' => e = .returned (.int .i64 (f (bd Bs i).t)) ∧ Grew W w') := hl
  have HT : Hid ((Bs.map Bx.t).length = n) := by rw [hn]; simp [Hid]
  clear h hn hl
  by_cases h64 : 64 < n
  · have HE : Hid (eachN f (Bs.map Bx.t) = (0, 60)) := eachN_big (by rw [HT.out]; exact h64)
    have h64i : (64 : Int) < n := by omega
    go_enter Try.func28, Try.ntmps28
    go_wp2
    go_ret2
    exact ⟨by rw [HE.out]; rfl, Grew.refl _⟩
  have h64i : ¬ (64 : Int) < n := by omega
  go_enter Try.func28, Try.ntmps28
  go_wp2_with fail
  go_loopw [14] (fun x wr => ∃ k : Nat, k ≤ n ∧ x = .int .i64 (k : Int) ∧ Hid (Grew w wr) ∧ Hid (∀ i, i < k → f (td (Bs.map Bx.t) i) = 0)) (fun x _ => n - (intOf x).toNat)
  case atStart => exact ⟨0, Nat.zero_le _, rfl, Grew.refl _, fun i hi => by omega⟩
  case round =>
    obtain ⟨k, hk, rfl, HG, HZ⟩ := hrel
    by_cases hlt : k < n
    · have hlt' : k < Bs.length := by have := HN.out; omega
      have HTd : Hid (td (Bs.map Bx.t) k = (bd Bs k).t) := td_map hlt'
      obtain ⟨b, off, rfl, c0, c1, c2, c3⟩ := TxsAt.get (H.out.at_.kept HG.out.below) k hlt'
      have HC : Hid (∀ W, Grew w W → Calls Try.prog 29 #[bxv (bd Bs k)] W fun e w' => e = .returned (.int .i64 (f (bd Bs k).t)) ∧ Grew W w') := HL.out k hlt'
      generalize bd Bs k = x at *
      obtain ⟨⟨proc, args, reads, writes⟩, aA, cA, aR, cR, aW, cW⟩ := x
      simp only [bxv] at c0 c1 c2 c3 HC HTd
      have HG1 : Hid (Grew w (wr.alloc (.cells #[.int .i64 proc, .slice aA args.length cA, .slice aR reads.length cR, .slice aW writes.length cW] 58))) := HG.out.alloc _
      obtain ⟨r, hr⟩ : ∃ r, r = f ⟨proc, args, reads, writes⟩ := ⟨_, rfl⟩
      rw [← hr] at HC
      have HR : Hid (f (td (Bs.map Bx.t) k) = r) := by rw [HTd.out, hr]; rfl
      clear hr HTd
      go_wp2_with fail
      refine (HC.out _ HG1.out).mono ?_
      rintro e w2 ⟨rfl, hg⟩
      have HG2 : Hid (Grew w w2) := HG1.out.trans hg
      clear hg HC HG1 HG c0 c1 c2 c3
      by_cases h0 : r = 0
      · subst h0
        go_wp2
        go_roundw
        case rel => exact ⟨k + 1, by omega, by go_num, HG2, fun i hi => by
          by_cases e : i = k
          · subst e; exact HR.out
          · exact HZ.out i (by omega)⟩
        case measure => simp [intOf]; omega
      · have h0' : ¬ r = 0 := h0
        have HE : Hid (eachN f (Bs.map Bx.t) = (k, r)) := by
          have := eachN_stop (f := f) (Ts := Bs.map Bx.t) (k := k) (by rw [HT.out]; omega) HZ.out (by rw [HR.out]; exact h0) (by rw [HT.out]; exact hlt)
          rw [HR.out] at this; exact this
        go_wp2
        go_ret2
        exact ⟨by rw [HE.out]; rfl, HG2.out⟩
    · obtain rfl : k = n := by omega
      have HE : Hid (eachN f (Bs.map Bx.t) = (0, 0)) := eachN_zero (by rw [HT.out]; omega) (by rw [HT.out]; exact HZ.out)
      go_wp2
      go_ret2
      exact ⟨by rw [HE.out]; rfl, HG.out⟩
set_option maxRecDepth 100000 in
set_option maxHeartbeats 1000000 in
theorem check1_any (w : World) (B : Nat) (lo : Option Addr) (n lc : Nat) (Ps : List Pr) (x : Bx) (hb : w.cell? ⟨B, 0, none⟩ = some (.slice lo n lc)) (hl : ProcsAt w lo Ps) (hn : n = Ps.length) (h : BxOK w x) :
    Calls Try.prog 89 #[bxv x, .pointer (some ⟨B, 0, none⟩)] w fun e w' => e = .returned (.int .i64 (soundN Ps x.t)) ∧ Grew w w' := by
  have HG : Hid (Grew w (w.alloc (.cells #[.int .i64 x.t.proc, .slice x.aA x.t.args.length x.cA, .slice x.aR x.t.reads.length x.cR, .slice x.aW x.t.writes.length x.cW] 58))) := (Grew.refl _).alloc _
  have HC : Hid (∀ W, Grew w W → Calls Try.prog 90 #[.slice lo n lc, bxv x] W fun e w' => e = .returned (.int .i64 (soundN Ps x.t)) ∧ Grew W w') := fun W hg => sound_any W lo n lc Ps x (hl.grew hg) hn (h.kept hg.below)
  clear hl hn h
  have hb' : (w.alloc (.cells #[.int .i64 x.t.proc, .slice x.aA x.t.args.length x.cA, .slice x.aR x.t.reads.length x.cR, .slice x.aW x.t.writes.length x.cW] 58)).cell? ⟨B, 0, none⟩ = some (.slice lo n lc) := HG.out.cell hb
  clear hb
  generalize soundN Ps x.t = F at *
  obtain ⟨⟨proc, args, reads, writes⟩, aA, cA, aR, cR, aW, cW⟩ := x
  simp only [bxv] at *
  go_enter Try.func89, Try.ntmps89
  go_wp2_with fail
  refine (HC.out _ HG.out).mono ?_
  rintro e w2 ⟨rfl, hg⟩
  have HG2 : Hid (Grew w w2) := HG.out.trans hg
  clear hg HC HG hb'
  go_wp2
  go_ret
  exact ⟨rfl, HG2.out⟩

set_option maxRecDepth 100000 in
set_option maxHeartbeats 1000000 in
theorem check_b (w : World) (lo ao : Option Addr) (n lc m cap : Nat) (Ps : List Pr) (Bs : List Bx) (hl : ProcsAt w lo Ps) (hn : n = Ps.length) (h : BatAt w ao Bs) (hn' : m = Bs.length) (hm : m ≤ 140737488355328) :
    Calls Try.prog 71 #[.slice lo n lc, .slice ao m cap] w fun e w' => e = .returned (.tuple #[.int .i64 ((eachN (soundN Ps) (Bs.map Bx.t)).1 : Int), .int .i64 (eachN (soundN Ps) (Bs.map Bx.t)).2]) ∧ Grew w w' := by
  have hmf : ∀ (fn : Fn) (first cap : Array Value) (w : World), (Instr.makeFunc fn first cap).run Try.prog w = .ok (.func fn first cap) w := fun _ _ _ _ => rfl
  have HG : Hid (Grew w (w.alloc (.cells #[.slice lo n lc] 93))) := (Grew.refl _).alloc _
  have HB : Hid ((w.alloc (.cells #[.slice lo n lc] 93)).cell? ⟨w.heap.size, 0, none⟩ = some (.slice lo n lc)) := cell_new _ _ _ 0 _ rfl
  have HC : Hid (Calls Try.prog 28 #[.slice ao m cap, .func (.func 89) #[] #[.pointer (some ⟨w.heap.size, 0, none⟩)]] (w.alloc (.cells #[.slice lo n lc] 93)) fun e w' => e = .returned (.tuple #[.int .i64 ((eachN (soundN Ps) (Bs.map Bx.t)).1 : Int), .int .i64 (eachN (soundN Ps) (Bs.map Bx.t)).2]) ∧ Grew (w.alloc (.cells #[.slice lo n lc] 93)) w') :=
    eachS_any _ ao m cap Bs (soundN Ps) w.heap.size (h.kept HG.out.below) hn' hm (fun i hi W hg => check1_any W w.heap.size lo n lc Ps _ (hg.cell HB.out) (hl.grew (HG.out.trans hg)) hn ((h.lst i hi).kept (HG.out.trans hg).below))
  clear hl hn h hn' HB
  generalize eachN (soundN Ps) (Bs.map Bx.t) = E at *
  go_enter Try.func71, Try.ntmps71
  go_wp2_with fail
  refine HC.out.mono ?_
  rintro e w2 ⟨rfl, hg⟩
  have HG2 : Hid (Grew w w2) := HG.out.trans hg
  clear hg HC HG
  go_wp2
  go_ret2
  exact ⟨rfl, HG2.out⟩
end Go.Proofs.Ytciogmenoighoaa.Kk
