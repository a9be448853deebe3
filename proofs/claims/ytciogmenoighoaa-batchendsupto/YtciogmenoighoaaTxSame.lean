/-
  THE WALKS OF layer 6's sameInts, sameKeys, sameBatch, AT LIKE ONES.
-/
import Derived.Test.YtciogmenoighoaaTxRow
import Derived.Test.YtciogmenoighoaaTxForm
namespace Go.Proofs.Ytciogmenoighoaa.Kk
open Go.RowKit Go.Sort

set_option maxHeartbeats 1000000 in
theorem sameInts_eq (w : World) (a1 a2 : Option Addr) (n c1 c2 : Nat) (L : List Int) (h1 : NumsAt w a1 L) (h2 : NumsAt w a2 L) (hn : n = L.length) (hm : n ≤ 17592186044416) :
    Calls Try.prog 50 #[.slice a1 n c1, .slice a2 n c2] w fun e w' => e = .returned (.bool true) ∧ Grew w w' := by
  have H1 : Hid (NumsAt w a1 L) := h1
  have H2 : Hid (NumsAt w a2 L) := h2
  have HN : Hid (n = L.length) := hn
  clear h1 h2 hn
  go_enter Try.func50, Try.ntmps50
  go_wp2_with fail
  go_loopw [5] (fun x wr => ∃ k q : Nat, k ≤ n ∧ x = .int .i64 (k : Int) ∧ wr = w.drewN q) (fun x _ => n - (intOf x).toNat)
  case atStart => exact ⟨0, 0, Nat.zero_le _, rfl, rfl⟩
  case round =>
    obtain ⟨k, q, hk, rfl, rfl⟩ := hrel
    by_cases hlt : k < n
    · have hlt' : k < L.length := by have := HN.out; omega
      obtain ⟨b, off, rfl, e1⟩ := NumsAt.get H1.out k hlt'
      obtain ⟨d, doff, rfl, e2⟩ := NumsAt.get H2.out k hlt'
      generalize ad L k = z at *
      go_wp2_with fail
      go_quiet (fail)
      go_wp2_with fail
      go_roundw
      case rel => exact ⟨k + 1, q + nq, by omega, by go_num, rfl⟩
      case measure => simp [intOf]; omega
    · obtain rfl : k = n := by omega
      go_wp2
      go_ret
      exact ⟨rfl, (Grew.refl w).drewN q⟩
set_option maxHeartbeats 1000000 in
theorem sameKeys_eq (w : World) (a1 a2 : Option Addr) (n c1 c2 : Nat) (L : List K) (h1 : KeysAt w a1 L) (h2 : KeysAt w a2 L) (hn : n = L.length) (hm : n ≤ 17592186044416) :
    Calls Try.prog 23 #[.slice a1 n c1, .slice a2 n c2] w fun e w' => e = .returned (.bool true) ∧ Grew w w' := by
  have H1 : Hid (KeysAt w a1 L) := h1
  have H2 : Hid (KeysAt w a2 L) := h2
  have HN : Hid (n = L.length) := hn
  clear h1 h2 hn
  go_enter Try.func23, Try.ntmps23
  go_wp2_with fail
  go_loopw [5] (fun x wr => ∃ k q : Nat, k ≤ n ∧ x = .int .i64 (k : Int) ∧ wr = w.drewN q) (fun x _ => n - (intOf x).toNat)
  case atStart => exact ⟨0, 0, Nat.zero_le _, rfl, rfl⟩
  case round =>
    obtain ⟨k, q, hk, rfl, rfl⟩ := hrel
    by_cases hlt : k < n
    · have hlt' : k < L.length := by have := HN.out; omega
      obtain ⟨b, off, rfl, e1, e2⟩ := KeysAt.get H1.out k hlt'
      obtain ⟨d, doff, rfl, e3, e4⟩ := KeysAt.get H2.out k hlt'
      generalize kd L k = kk at *
      obtain ⟨u, s⟩ := kk
      simp only at e1 e2 e3 e4
      have hq := run_neKey u s u s
      have hgd := fun op x y => run_eqGuard op x y u s u s
      simp only [decide_true, Bool.not_true] at hq
      go_wp2_with fail
      go_quiet (fail)
      go_wp2_with fail
      go_roundw
      case rel => exact ⟨k + 1, q + nq, by omega, by go_num, rfl⟩
      case measure => simp [intOf]; omega
    · obtain rfl : k = n := by omega
      go_wp2
      go_ret
      exact ⟨rfl, (Grew.refl w).drewN q⟩
/-- two batches that are like -/
structure Like (W : World) (a1 a2 : Option Addr) (Xs Ys : List Bx) : Prop where
  one : TxsAt W a1 Xs
  two : TxsAt W a2 Ys
  ts : Xs.map Bx.t = Ys.map Bx.t
  ok1 : ∀ i, i < Xs.length → NumsAt W (bd Xs i).aA (bd Xs i).t.args ∧ KeysAt W (bd Xs i).aR (bd Xs i).t.reads ∧ KeysAt W (bd Xs i).aW (bd Xs i).t.writes
  ok2 : ∀ i, i < Xs.length → NumsAt W (bd Ys i).aA (bd Xs i).t.args ∧ KeysAt W (bd Ys i).aR (bd Xs i).t.reads ∧ KeysAt W (bd Ys i).aW (bd Xs i).t.writes
  big : ∀ i, i < Xs.length → (bd Xs i).t.args.length ≤ 17592186044416 ∧ (bd Xs i).t.reads.length ≤ 17592186044416 ∧ (bd Xs i).t.writes.length ≤ 17592186044416
theorem Like.t {W : World} {a1 a2 : Option Addr} {Xs Ys : List Bx} (h : Like W a1 a2 Xs Ys) (i : Nat) (hi : i < Xs.length) : i < Ys.length ∧ (bd Ys i).t = (bd Xs i).t := by
  have hl : Xs.length = Ys.length := by have := congrArg List.length h.ts; simpa using this
  have h2 : i < Ys.length := by omega
  have := td_map (Bs := Xs) hi
  rw [h.ts, td_map h2] at this
  exact ⟨h2, this⟩
theorem Like.kept {W W' : World} {a1 a2 : Option Addr} {Xs Ys : List Bx} (h : Like W a1 a2 Xs Ys) (hb : Below W.heap.size W W') : Like W' a1 a2 Xs Ys :=
  ⟨h.one.kept hb, h.two.kept hb, h.ts, fun i hi => ⟨(h.ok1 i hi).1.kept hb, (h.ok1 i hi).2.1.kept hb, (h.ok1 i hi).2.2.kept hb⟩, fun i hi => ⟨(h.ok2 i hi).1.kept hb, (h.ok2 i hi).2.1.kept hb, (h.ok2 i hi).2.2.kept hb⟩, h.big⟩
theorem Like.of {W : World} {a1 a2 : Option Addr} {Xs Ys : List Bx} (h1 : BatAt W a1 Xs) (h2 : BatAt W a2 Ys) (ht : Xs.map Bx.t = Ys.map Bx.t) : Like W a1 a2 Xs Ys := by
  have hl : Xs.length = Ys.length := by have := congrArg List.length ht; simpa using this
  have he : ∀ i, i < Xs.length → (bd Ys i).t = (bd Xs i).t := fun i hi => by
    have := td_map (Bs := Xs) hi
    rw [ht, td_map (by omega)] at this
    exact this
  refine ⟨h1.at_, h2.at_, ht, fun i hi => ⟨(h1.lst i hi).args, (h1.lst i hi).reads, (h1.lst i hi).writes⟩, fun i hi => ?_, fun i hi => ?_⟩
  · have := h2.lst i (by omega)
    rw [← he i hi]
    exact ⟨this.args, this.reads, this.writes⟩
  · have := h1.lst i hi
    have a := this.bigA; have b := this.bigR; have c := this.bigW
    omega

set_option maxRecDepth 100000 in
set_option maxHeartbeats 2000000 in
theorem sameBatch_eq (w : World) (a1 a2 : Option Addr) (n c1 c2 : Nat) (Xs Ys : List Bx) (h : Like w a1 a2 Xs Ys) (hn : n = Xs.length) (hm : n ≤ 8796093022208) :
    Calls Try.prog 17 #[.slice a1 n c1, .slice a2 n c2] w fun e w' => e = .returned (.bool true) ∧ Grew w w' := by
  have H : Hid (Like w a1 a2 Xs Ys) := h
  have HN : Hid (n = Xs.length) := hn
  clear h hn
  go_enter Try.func17, Try.ntmps17
  go_wp2_with fail
  go_loopw [5] (fun x wr => ∃ k : Nat, k ≤ n ∧ x = .int .i64 (k : Int) ∧ Hid (Grew w wr)) (fun x _ => n - (intOf x).toNat)
  case atStart => exact ⟨0, Nat.zero_le _, rfl, Grew.refl _⟩
  case round =>
    obtain ⟨k, hk, rfl, HG⟩ := hrel
    by_cases hlt : k < n
    · have hlt' : k < Xs.length := by have := HN.out; omega
      have HL : Hid (Like wr a1 a2 Xs Ys) := H.out.kept HG.out.below
      obtain ⟨b, off, rfl, c0, c1', c2', c3⟩ := TxsAt.get HL.out.one k hlt'
      obtain ⟨b2, off2, rfl, d0, d1, d2, d3⟩ := TxsAt.get HL.out.two k (HL.out.t k hlt').1
      rw [(HL.out.t k hlt').2] at d0 d1 d2 d3
      have HO : Hid ((NumsAt wr (bd Xs k).aA (bd Xs k).t.args ∧ KeysAt wr (bd Xs k).aR (bd Xs k).t.reads ∧ KeysAt wr (bd Xs k).aW (bd Xs k).t.writes) ∧ (NumsAt wr (bd Ys k).aA (bd Xs k).t.args ∧ KeysAt wr (bd Ys k).aR (bd Xs k).t.reads ∧ KeysAt wr (bd Ys k).aW (bd Xs k).t.writes) ∧ ((bd Xs k).t.args.length ≤ 17592186044416 ∧ (bd Xs k).t.reads.length ≤ 17592186044416 ∧ (bd Xs k).t.writes.length ≤ 17592186044416)) := ⟨HL.out.ok1 k hlt', HL.out.ok2 k hlt', HL.out.big k hlt'⟩
      clear HL
      generalize bd Xs k = x at *
      generalize bd Ys k = y at *
      obtain ⟨⟨proc, args, reads, writes⟩, xA, kA, xR, kR, xW, kW⟩ := x
      obtain ⟨_, yA, mA, yR, mR, yW, mW⟩ := y
      simp only at c0 c1' c2' c3 d0 d1 d2 d3 HO
      have Hi : Hid (∀ W, Grew wr W → Calls Try.prog 50 #[.slice xA args.length kA, .slice yA args.length mA] W fun e w' => e = .returned (.bool true) ∧ Grew W w') := fun W hg => sameInts_eq W xA yA _ kA mA args (HO.out.1.1.kept hg.below) (HO.out.2.1.1.kept hg.below) rfl HO.out.2.2.1
      have Hr : Hid (∀ W, Grew wr W → Calls Try.prog 23 #[.slice xR reads.length kR, .slice yR reads.length mR] W fun e w' => e = .returned (.bool true) ∧ Grew W w') := fun W hg => sameKeys_eq W xR yR _ kR mR reads (HO.out.1.2.1.kept hg.below) (HO.out.2.1.2.1.kept hg.below) rfl HO.out.2.2.2.1
      have Hw : Hid (∀ W, Grew wr W → Calls Try.prog 23 #[.slice xW writes.length kW, .slice yW writes.length mW] W fun e w' => e = .returned (.bool true) ∧ Grew W w') := fun W hg => sameKeys_eq W xW yW _ kW mW writes (HO.out.1.2.2.kept hg.below) (HO.out.2.1.2.2.kept hg.below) rfl HO.out.2.2.2.2
      clear HO
      have e0 : (wr.alloc (.cells #[.int .i64 proc, .slice xA args.length kA, .slice xR reads.length kR, .slice xW writes.length kW] 58)).cell? ⟨b2, off2 + k * 4, none⟩ = some (.int .i64 proc) := ((Grew.refl wr).alloc _).cell d0
      have e1 : (wr.alloc (.cells #[.int .i64 proc, .slice xA args.length kA, .slice xR reads.length kR, .slice xW writes.length kW] 58)).cell? ⟨b2, off2 + k * 4 + 1, none⟩ = some (.slice yA args.length mA) := ((Grew.refl wr).alloc _).cell d1
      have e2 : (wr.alloc (.cells #[.int .i64 proc, .slice xA args.length kA, .slice xR reads.length kR, .slice xW writes.length kW] 58)).cell? ⟨b2, off2 + k * 4 + 2, none⟩ = some (.slice yR reads.length mR) := ((Grew.refl wr).alloc _).cell d2
      have e3 : (wr.alloc (.cells #[.int .i64 proc, .slice xA args.length kA, .slice xR reads.length kR, .slice xW writes.length kW] 58)).cell? ⟨b2, off2 + k * 4 + 3, none⟩ = some (.slice yW writes.length mW) := ((Grew.refl wr).alloc _).cell d3
      clear d0 d1 d2 d3
      go_upto_region 8 with fail
      have HB : Hid (Grew wr ((wr.alloc (.cells #[.int .i64 proc, .slice xA args.length kA, .slice xR reads.length kR, .slice xW writes.length kW] 58)).alloc (.cells #[.int .i64 proc, .slice yA args.length mA, .slice yR reads.length mR, .slice yW writes.length mW] 58))) := ((Grew.refl wr).alloc _).alloc _
      have HX : Hid (∀ W, Grew ((wr.alloc (.cells #[.int .i64 proc, .slice xA args.length kA, .slice xR reads.length kR, .slice xW writes.length kW] 58)).alloc (.cells #[.int .i64 proc, .slice yA args.length mA, .slice yR reads.length mR, .slice yW writes.length mW] 58)) W → (W.cell? ⟨wr.heap.size, 2, none⟩ = some (.slice xR reads.length kR) ∧ W.cell? ⟨wr.heap.size, 3, none⟩ = some (.slice xW writes.length kW)) ∧ W.cell? ⟨wr.heap.size + 1, 2, none⟩ = some (.slice yR reads.length mR) ∧ W.cell? ⟨wr.heap.size + 1, 3, none⟩ = some (.slice yW writes.length mW)) := fun W hg =>
        ⟨⟨hg.cell (((Grew.refl _).alloc _).cell (cell_new _ _ _ 2 _ rfl)), hg.cell (((Grew.refl _).alloc _).cell (cell_new _ _ _ 3 _ rfl))⟩, hg.cell (by simp), hg.cell (by simp)⟩
      go_wp2_with fail
      refine (Hi.out _ HB.out).mono ?_
      rintro e w1 ⟨rfl, hg1⟩
      obtain ⟨⟨x2, x3⟩, x4, x5⟩ := HX.out _ hg1
      have HG1 : Hid (Grew wr w1) := HB.out.trans hg1
      have HX1 : Hid (∀ W, Grew w1 W → W.cell? ⟨wr.heap.size, 3, none⟩ = some (.slice xW writes.length kW) ∧ W.cell? ⟨wr.heap.size + 1, 3, none⟩ = some (.slice yW writes.length mW)) := fun W hg => ⟨(HX.out _ (hg1.trans hg)).1.2, (HX.out _ (hg1.trans hg)).2.2⟩
      clear hg1 HX HB e0 e1 e2 e3
      go_wp2_with fail
      refine (Hr.out _ HG1.out).mono ?_
      rintro e w2 ⟨rfl, hg2⟩
      obtain ⟨z3, z5⟩ := HX1.out _ hg2
      have HG2 : Hid (Grew wr w2) := HG1.out.trans hg2
      clear hg2 HX1 x2 x3 x4 x5 HG1
      go_wp2_with fail
      refine (Hw.out _ HG2.out).mono ?_
      rintro e w3 ⟨rfl, hg3⟩
      have HG3 : Hid (Grew w w3) := HG.out.trans (HG2.out.trans hg3)
      clear hg3 z3 z5 HG2 Hi Hr Hw c0 c1' c2' c3
      go_wp2
      go_roundw
      case rel => exact ⟨k + 1, by omega, by go_num, HG3⟩
      case measure => simp [intOf]; omega
    · obtain rfl : k = n := by omega
      go_wp2
      go_ret
      exact ⟨rfl, HG.out⟩
end Go.Proofs.Ytciogmenoighoaa.Kk
