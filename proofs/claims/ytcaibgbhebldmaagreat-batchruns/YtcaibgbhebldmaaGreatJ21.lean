import Derived.Test.YtcaibgbhebldmaaGreatJ14
import Derived.Test.YtcaibgbhebldmaaGreatJ12
import Derived.Test.YtcaibgbhebldmaaGreatJ03
import Derived.Deep.QuietTactic
/-
  THE WALKS OF layer 6's sameInts, sameKeys, sameBatch, AT LIKE ONES.
-/
namespace Go.Proofs.YtcaibgbhebldmaaGreat.Kk
open Go.RowKit Go.Sort

set_option maxHeartbeats 1000000 in
theorem sameInts_eq (w : World) (a1 a2 : Option Addr) (n c1 c2 : Nat) (L : List Int) (h1 : NumsAt w a1 L) (h2 : NumsAt w a2 L) (hn : n = L.length) (hm : n ≤ 17592186044416) :
    Calls Tryz.prog 42 #[.slice a1 n c1, .slice a2 n c2] w fun e w' => e = .returned (.bool true) ∧ Grew w w' := by
  have H1 : Hid (NumsAt w a1 L) := h1
  have H2 : Hid (NumsAt w a2 L) := h2
  have HN : Hid (n = L.length) := hn
  clear h1 h2 hn
  go_enter Tryz.func42, Tryz.ntmps42
  go_wp2_with fail
  go_loopw [5] (fun x wr => ∃ k q : Nat, k ≤ n ∧ x = .int .i64 (k : Int) ∧ wr = w.drewN q) (fun x _ => n - (intOf x).toNat)
  case atStart => exact ⟨0, 0, Nat.zero_le _, rfl, rfl⟩
  case round =>
    obtain ⟨k, q, hk, rfl, rfl⟩ := hrel
    by_cases hlt : k < n
    · have hlt' : k < L.length := by have := HN.out; omega
      obtain ⟨b, off, rfl, e1⟩ := NumsAt.get H1.out k hlt'
      obtain ⟨d, doff, rfl, e2⟩ := NumsAt.get H2.out k hlt'
      generalize ad L k = z at *
      go_wp2_with fail
      go_quiet (fail)
      go_wp2_with fail
      go_roundw
      case rel => exact ⟨k + 1, q + nq, by omega, by go_num, rfl⟩
      case measure => simp [intOf]; omega
    · obtain rfl : k = n := by omega
      go_wp2
      go_ret
      exact ⟨rfl, (Grew.refl w).drewN q⟩
set_option maxHeartbeats 1000000 in
theorem sameKeys_eq (w : World) (a1 a2 : Option Addr) (n c1 c2 : Nat) (L : List K) (h1 : KeysAt w a1 L) (h2 : KeysAt w a2 L) (hn : n = L.length) (hm : n ≤ 17592186044416) :
    Calls Tryz.prog 43 #[.slice a1 n c1, .slice a2 n c2] w fun e w' => e = .returned (.bool true) ∧ Grew w w' := by
  have H1 : Hid (KeysAt w a1 L) := h1
  have H2 : Hid (KeysAt w a2 L) := h2
  have HN : Hid (n = L.length) := hn
  clear h1 h2 hn
  go_enter Tryz.func43, Tryz.ntmps43
  go_wp2_with fail
  go_loopw [5] (fun x wr => ∃ k q : Nat, k ≤ n ∧ x = .int .i64 (k : Int) ∧ wr = w.drewN q) (fun x _ => n - (intOf x).toNat)
  case atStart => exact ⟨0, 0, Nat.zero_le _, rfl, rfl⟩
  case round =>
    obtain ⟨k, q, hk, rfl, rfl⟩ := hrel
    by_cases hlt : k < n
    · have hlt' : k < L.length := by have := HN.out; omega
      obtain ⟨b, off, rfl, e1, e2⟩ := KeysAt.get H1.out k hlt'
      obtain ⟨d, doff, rfl, e3, e4⟩ := KeysAt.get H2.out k hlt'
      generalize kd L k = kk at *
      obtain ⟨u, s⟩ := kk
      simp only at e1 e2 e3 e4
      have hq := run_neKey u s u s
      have hgd := fun op x y => run_eqGuard op x y u s u s
      simp only [decide_true, Bool.not_true] at hq
      go_wp2_with fail
      go_quiet (fail)
      go_wp2_with fail
      go_roundw
      case rel => exact ⟨k + 1, q + nq, by omega, by go_num, rfl⟩
      case measure => simp [intOf]; omega
    · obtain rfl : k = n := by omega
      go_wp2
      go_ret
      exact ⟨rfl, (Grew.refl w).drewN q⟩
/-- two batches that are like -/
structure Like (W : World) (a1 a2 : Option Addr) (Xs Ys : List Bx) : Prop where
  one : TxsAt W a1 Xs
  two : TxsAt W a2 Ys
  ts : Xs.map Bx.t = Ys.map Bx.t
  ok1 : ∀ i, i < Xs.length → NumsAt W (bd Xs i).aA (bd Xs i).t.args ∧ KeysAt W (bd Xs i).aR (bd Xs i).t.reads ∧ KeysAt W (bd Xs i).aW (bd Xs i).t.writes
  ok2 : ∀ i, i < Xs.length → NumsAt W (bd Ys i).aA (bd Xs i).t.args ∧ KeysAt W (bd Ys i).aR (bd Xs i).t.reads ∧ KeysAt W (bd Ys i).aW (bd Xs i).t.writes
  big : ∀ i, i < Xs.length → (bd Xs i).t.args.length ≤ 17592186044416 ∧ (bd Xs i).t.reads.length ≤ 17592186044416 ∧ (bd Xs i).t.writes.length ≤ 17592186044416
theorem Like.t {W : World} {a1 a2 : Option Addr} {Xs Ys : List Bx} (h : Like W a1 a2 Xs Ys) (i : Nat) (hi : i < Xs.length) : i < Ys.length ∧ (bd Ys i).t = (bd Xs i).t := by
  have hl : Xs.length = Ys.length := by have := congrArg List.length h.ts; simpa using this
  have h2 : i < Ys.length := by omega
  have := td_map (Bs := Xs) hi
  rw [h.ts, td_map h2] at this
  exact ⟨h2, this⟩
theorem Like.kept {W W' : World} {a1 a2 : Option Addr} {Xs Ys : List Bx} (h : Like W a1 a2 Xs Ys) (hb : Below W.heap.size W W') : Like W' a1 a2 Xs Ys :=
  ⟨h.one.kept hb, h.two.kept hb, h.ts, fun i hi => ⟨(h.ok1 i hi).1.kept hb, (h.ok1 i hi).2.1.kept hb, (h.ok1 i hi).2.2.kept hb⟩, fun i hi => ⟨(h.ok2 i hi).1.kept hb, (h.ok2 i hi).2.1.kept hb, (h.ok2 i hi).2.2.kept hb⟩, h.big⟩
theorem Like.of {W : World} {a1 a2 : Option Addr} {Xs Ys : List Bx} (h1 : BatAt W a1 Xs) (h2 : BatAt W a2 Ys) (ht : Xs.map Bx.t = Ys.map Bx.t) : Like W a1 a2 Xs Ys := by
  have hl : Xs.length = Ys.length := by have := congrArg List.length ht; simpa using this
  have he : ∀ i, i < Xs.length → (bd Ys i).t = (bd Xs i).t := fun i hi => by
    have := td_map (Bs := Xs) hi
    rw [ht, td_map (by omega)] at this
    exact this
  refine ⟨h1.at_, h2.at_, ht, fun i hi => ⟨(h1.lst i hi).args, (h1.lst i hi).reads, (h1.lst i hi).writes⟩, fun i hi => ?_, fun i hi => ?_⟩
  · have := h2.lst i (by omega)
    rw [← he i hi]
    exact ⟨this.args, this.reads, this.writes⟩
  · have := h1.lst i hi
    have a := this.bigA; have b := this.bigR; have c := this.bigW
    omega

set_option maxRecDepth 100000 in
set_option maxHeartbeats 2000000 in
theorem sameBatch_eq (w : World) (a1 a2 : Option Addr) (n c1 c2 : Nat) (Xs Ys : List Bx) (h : Like w a1 a2 Xs Ys) (hn : n = Xs.length) (hm : n ≤ 8796093022208) :
    Calls Tryz.prog 18 #[.slice a1 n c1, .slice a2 n c2] w fun e w' => e = .returned (.bool true) ∧ Grew w w' := by
  have H : Hid (Like w a1 a2 Xs Ys) := h
  have HN : Hid (n = Xs.length) := hn
  clear h hn
  go_enter Tryz.func18, Tryz.ntmps18
  go_wp2_with fail
  go_loopw [5] (fun x wr => ∃ k : Nat, k ≤ n ∧ x = .int .i64 (k : Int) ∧ Hid (Grew w wr)) (fun x _ => n - (intOf x).toNat)
  case atStart => exact ⟨0, Nat.zero_le _, rfl, Grew.refl _⟩
  case round =>
    obtain ⟨k, hk, rfl, HG⟩ := hrel
    by_cases hlt : k < n
    · have hlt' : k < Xs.length := by have := HN.out; omega
      have HL : Hid (Like wr a1 a2 Xs Ys) := H.out.kept HG.out.below
      obtain ⟨b, off, rfl, c0, c1', c2', c3⟩ := TxsAt.get HL.out.one k hlt'
      obtain ⟨b2, off2, rfl, d0, d1, d2, d3⟩ := TxsAt.get HL.out.two k (HL.out.t k hlt').1
      rw [(HL.out.t k hlt').2] at d0 d1 d2 d3
      have HO : Hid ((NumsAt wr (bd Xs k).aA (bd Xs k).t.args ∧ KeysAt wr (bd Xs k).aR (bd Xs k).t.reads ∧ KeysAt wr (bd Xs k).aW (bd Xs k).t.writes) ∧ (NumsAt wr (bd Ys k).aA (bd Xs k).t.args ∧ KeysAt wr (bd Ys k).aR (bd Xs k).t.reads ∧ KeysAt wr (bd Ys k).aW (bd Xs k).t.writes) ∧ ((bd Xs k).t.args.length ≤ 17592186044416 ∧ (bd Xs k).t.reads.length ≤ 17592186044416 ∧ (bd Xs k).t.writes.length ≤ 17592186044416)) := ⟨HL.out.ok1 k hlt', HL.out.ok2 k hlt', HL.out.big k hlt'⟩
      clear HL
      generalize bd Xs k = x at *
      generalize bd Ys k = y at *
      obtain ⟨⟨proc, args, reads, writes⟩, xA, kA, xR, kR, xW, kW⟩ := x
      obtain ⟨_, yA, mA, yR, mR, yW, mW⟩ := y
      simp only at c0 c1' c2' c3 d0 d1 d2 d3 HO
      have Hi : Hid (∀ W, Grew wr W → Calls Tryz.prog 42 #[.slice xA args.length kA, .slice yA args.length mA] W fun e w' => e = .returned (.bool true) ∧ Grew W w') := fun W hg => sameInts_eq W xA yA _ kA mA args (HO.out.1.1.kept hg.below) (HO.out.2.1.1.kept hg.below) rfl HO.out.2.2.1
      have Hr : Hid (∀ W, Grew wr W → Calls Tryz.prog 43 #[.slice xR reads.length kR, .slice yR reads.length mR] W fun e w' => e = .returned (.bool true) ∧ Grew W w') := fun W hg => sameKeys_eq W xR yR _ kR mR reads (HO.out.1.2.1.kept hg.below) (HO.out.2.1.2.1.kept hg.below) rfl HO.out.2.2.2.1
      have Hw : Hid (∀ W, Grew wr W → Calls Tryz.prog 43 #[.slice xW writes.length kW, .slice yW writes.length mW] W fun e w' => e = .returned (.bool true) ∧ Grew W w') := fun W hg => sameKeys_eq W xW yW _ kW mW writes (HO.out.1.2.2.kept hg.below) (HO.out.2.1.2.2.kept hg.below) rfl HO.out.2.2.2.2
      clear HO
      have e0 : (wr.alloc (.cells #[.int .i64 proc, .slice xA args.length kA, .slice xR reads.length kR, .slice xW writes.length kW] 46)).cell? ⟨b2, off2 + k * 4, none⟩ = some (.int .i64 proc) := ((Grew.refl wr).alloc _).cell d0
      have e1 : (wr.alloc (.cells #[.int .i64 proc, .slice xA args.length kA, .slice xR reads.length kR, .slice xW writes.length kW] 46)).cell? ⟨b2, off2 + k * 4 + 1, none⟩ = some (.slice yA args.length mA) := ((Grew.refl wr).alloc _).cell d1
      have e2 : (wr.alloc (.cells #[.int .i64 proc, .slice xA args.length kA, .slice xR reads.length kR, .slice xW writes.length kW] 46)).cell? ⟨b2, off2 + k * 4 + 2, none⟩ = some (.slice yR reads.length mR) := ((Grew.refl wr).alloc _).cell d2
      have e3 : (wr.alloc (.cells #[.int .i64 proc, .slice xA args.length kA, .slice xR reads.length kR, .slice xW writes.length kW] 46)).cell? ⟨b2, off2 + k * 4 + 3, none⟩ = some (.slice yW writes.length mW) := ((Grew.refl wr).alloc _).cell d3
      clear d0 d1 d2 d3
      go_upto_region 8 with fail
      have HB : Hid (Grew wr ((wr.alloc (.cells #[.int .i64 proc, .slice xA args.length kA, .slice xR reads.length kR, .slice xW writes.length kW] 46)).alloc (.cells #[.int .i64 proc, .slice yA args.length mA, .slice yR reads.length mR, .slice yW writes.length mW] 46))) := ((Grew.refl wr).alloc _).alloc _
      have HX : Hid (∀ W, Grew ((wr.alloc (.cells #[.int .i64 proc, .slice xA args.length kA, .slice xR reads.length kR, .slice xW writes.length kW] 46)).alloc (.cells #[.int .i64 proc, .slice yA args.length mA, .slice yR reads.length mR, .slice yW writes.length mW] 46)) W → (W.cell? ⟨wr.heap.size, 2, none⟩ = some (.slice xR reads.length kR) ∧ W.cell? ⟨wr.heap.size, 3, none⟩ = some (.slice xW writes.length kW)) ∧ W.cell? ⟨wr.heap.size + 1, 2, none⟩ = some (.slice yR reads.length mR) ∧ W.cell? ⟨wr.heap.size + 1, 3, none⟩ = some (.slice yW writes.length mW)) := fun W hg =>
        ⟨⟨hg.cell (((Grew.refl _).alloc _).cell (cell_new _ _ _ 2 _ rfl)), hg.cell (((Grew.refl _).alloc _).cell (cell_new _ _ _ 3 _ rfl))⟩, hg.cell (by simp), hg.cell (by simp)⟩
      go_wp2_with fail
      refine (Hi.out _ HB.out).mono ?_
      rintro e w1 ⟨rfl, hg1⟩
      obtain ⟨⟨x2, x3⟩, x4, x5⟩ := HX.out _ hg1
      have HG1 : Hid (Grew wr w1) := HB.out.trans hg1
      have HX1 : Hid (∀ W, Grew w1 W → W.cell? ⟨wr.heap.size, 3, none⟩ = some (.slice xW writes.length kW) ∧ W.cell? ⟨wr.heap.size + 1, 3, none⟩ = some (.slice yW writes.length mW)) := fun W hg => ⟨(HX.out _ (hg1.trans hg)).1.2, (HX.out _ (hg1.trans hg)).2.2⟩
      clear hg1 HX HB e0 e1 e2 e3
      go_wp2_with fail
      refine (Hr.out _ HG1.out).mono ?_
      rintro e w2 ⟨rfl, hg2⟩
      obtain ⟨z3, z5⟩ := HX1.out _ hg2
      have HG2 : Hid (Grew wr w2) := HG1.out.trans hg2
      clear hg2 HX1 x2 x3 x4 x5 HG1
      go_wp2_with fail
      refine (Hw.out _ HG2.out).mono ?_
      rintro e w3 ⟨rfl, hg3⟩
      have HG3 : Hid (Grew w w3) := HG.out.trans (HG2.out.trans hg3)
      clear hg3 z3 z5 HG2 Hi Hr Hw c0 c1' c2' c3
      go_wp2
      go_roundw
      case rel => exact ⟨k + 1, by omega, by go_num, HG3⟩
      case measure => simp [intOf]; omega
    · obtain rfl : k = n := by omega
      go_wp2
      go_ret
      exact ⟨rfl, HG.out⟩
end Go.Proofs.YtcaibgbhebldmaaGreat.Kk
/-
  THE WALK OF sameBytes.
-/
namespace Go.Proofs.YtcaibgbhebldmaaGreat
open Go.RowKit

theorem list_eq_of_getD {xs ys : List Nat} (hl : xs.length = ys.length) (h : ∀ j, j < xs.length → xs.getD j 0 = ys.getD j 0) : xs = ys := by
  apply List.ext_getElem hl
  intro i h1 h2
  have := h i h1
  simpa [List.getD_eq_getElem?_getD, List.getElem?_eq_getElem h1, List.getElem?_eq_getElem h2] using this

set_option maxHeartbeats 400000 in
theorem same_cells (w : World) (b off ca d doff cb : Nat) (xs ys : List Nat) (hl : xs.length = ys.length) (hm : xs.length ≤ maxLen)
    (hca : ∀ j, j < xs.length → w.cell? ⟨b, off + j, none⟩ = some (.int .u8 ((xs.getD j 0 : Nat) : Int)))
    (hcb : ∀ j, j < ys.length → w.cell? ⟨d, doff + j, none⟩ = some (.int .u8 ((ys.getD j 0 : Nat) : Int))) :
    Calls Tryz.prog 11 #[.slice (some ⟨b, off, none⟩) xs.length ca, .slice (some ⟨d, doff, none⟩) xs.length cb] w fun e w' => e = .returned (.bool (decide (xs = ys))) ∧ ∃ n, w' = w.drewN n := by
  unfold maxLen at hm
  go_enter Tryz.func11, Tryz.ntmps11
  go_wp2
  go_loopw [5] (fun i wr => ∃ k n : Nat, k ≤ xs.length ∧ i = .int .i64 k ∧ Hid (∀ j, j < k → xs.getD j 0 = ys.getD j 0) ∧ wr = w.drewN n) (fun i _ => xs.length - (intOf i).toNat)
  case atStart => exact ⟨0, 0, Nat.zero_le _, rfl, fun j hj => by omega, rfl⟩
  case round =>
    obtain ⟨k, n, hk, rfl, hall, rfl⟩ := hrel
    by_cases hlt : k < xs.length
    · have h1 := hca k hlt
      have h2 := hcb k (by omega)
      clear hca hcb
      have HT : Hid (∀ j, j < k + 1 → xs.getD j 0 = ys.getD j 0) ∨ xs.getD k 0 ≠ ys.getD k 0 := by
        by_cases e : xs.getD k 0 = ys.getD k 0
        · refine .inl fun j hj => ?_
          by_cases hj' : j = k
          · rw [hj', e]
          · exact hall.out j (by omega)
        · exact .inr e
      have HF : Hid (xs.getD k 0 ≠ ys.getD k 0 → decide (xs = ys) = false) := fun h => by
        rw [decide_eq_false_iff_not]; intro e; exact h (by rw [e])
      clear hall
      by_cases e : xs.getD k 0 = ys.getD k 0
      · have hT : (((xs.getD k 0 : Nat) : Int) != ((ys.getD k 0 : Nat) : Int)) = false := by rw [e]; simp
        have HE : Hid (∀ j, j < k + 1 → xs.getD j 0 = ys.getD j 0) := by
          rcases HT with h | h
          · exact h
          · exact absurd e h
        clear HT HF e
        generalize xs.getD k 0 = x at *
        generalize ys.getD k 0 = y at *
        go_wp2
        go_quiet (fail)
        go_wp2
        go_roundw
        case rel => exact ⟨k + 1, _, by omega, by go_num, HE, rfl⟩
        case measure => simp [intOf]; omega
      · have hT : (((xs.getD k 0 : Nat) : Int) != ((ys.getD k 0 : Nat) : Int)) = true := by rw [bne_iff_ne]; omega
        have HE : Hid (decide (xs = ys) = false) := HF.out e
        clear HT HF e
        generalize xs.getD k 0 = x at *
        generalize ys.getD k 0 = y at *
        go_wp2
        go_quiet (fail)
        go_wp2
        go_ret
        exact ⟨by rw [HE.out]; rfl, _, World.drewN_drewN _ _ _⟩
    · have HE : Hid (decide (xs = ys) = true) := by
        rw [Hid, decide_eq_true_iff]
        exact list_eq_of_getD hl fun j hj => hall.out j (by omega)
      clear hca hcb hall
      go_wp2
      go_ret
      exact ⟨by rw [HE.out]; rfl, _, rfl⟩

/-- same, whatever two slices of bytes. -/
theorem same_any (w : World) (ao bo : Option Addr) (ca cb na nb : Nat) (xs ys : List Nat) (hna : na = xs.length) (hnb : nb = ys.length) (hx : BytesAt w ao xs) (hy : BytesAt w bo ys) (hm : xs.length ≤ maxLen) :
    Calls Tryz.prog 11 #[.slice ao na ca, .slice bo nb cb] w fun e w' => e = .returned (.bool (decide (xs = ys))) ∧ ∃ n, w' = w.drewN n := by
  subst hna hnb
  by_cases hl : xs.length = ys.length
  · by_cases h0 : xs = []
    · subst h0
      have h1 : ys = [] := List.eq_nil_of_length_eq_zero hl.symm
      subst h1
      go_enter Tryz.func11, Tryz.ntmps11
      go_wp2
      go_loop [5] (fun i => i = .int .i64 0) (fun i => 0 - (intOf i).toNat)
      case atStart => rfl
      case round =>
        subst hrel
        go_wp2
        go_ret
        exact ⟨rfl, 0, rfl⟩
    · obtain ⟨_, rfl | ⟨b, off, rfl, hc⟩⟩ := hx
      · exact absurd rfl h0
      · obtain ⟨_, rfl | ⟨d, doff, rfl, hd⟩⟩ := hy
        · exact absurd (List.eq_nil_of_length_eq_zero hl) h0
        · rw [← hl]
          exact same_cells w b off ca d doff cb xs ys hl hm hc hd
  · have HE : Hid (decide (xs = ys) = false) := by
      rw [Hid, decide_eq_false_iff_not]; intro e; exact hl (by rw [e])
    have hT : ((xs.length : Int) != (ys.length : Int)) = true := by rw [bne_iff_ne]; omega
    clear hl hx hy
    go_enter Tryz.func11, Tryz.ntmps11
    go_wp2
    go_ret
    exact ⟨by rw [HE.out]; rfl, 0, rfl⟩

end Go.Proofs.YtcaibgbhebldmaaGreat
/-
  THE WALKS OF THE DOCUMENT's Parts.
-/
namespace Go.Proofs.YtcaibgbhebldmaaGreat.Kk
open Go.RowKit Go.Sort

/-- what a library's parts come to -/
def used : List Pr → Nat
  | [] => 0
  | x :: Ps => 1 + x.name.size + x.n + used Ps
theorem used_append (A B : List Pr) : used (A ++ B) = used A + used B := by
  induction A with
  | nil => simp [used]
  | cons x A ih => simp [used, ih]; omega
theorem used_take (Ps : List Pr) (k : Nat) (h : k < Ps.length) : used (Ps.take (k + 1)) = used (Ps.take k) + (1 + (pd Ps k).name.size + (pd Ps k).n) := by
  rw [pd_take Ps k h, used_append]; simp [used]
theorem used_all {Ps : List Pr} : Ps.length ≤ used Ps ∧ ∀ x ∈ Ps, x.name.size ≤ used Ps ∧ x.n ≤ used Ps := by
  induction Ps with
  | nil => simp [used]
  | cons y Ps ih =>
    refine ⟨by simp [used]; omega, fun x hx => ?_⟩
    rcases List.mem_cons.1 hx with rfl | hx
    · simp [used]; omega
    · have := ih.2 x hx
      simp [used]; omega
def PartsPost (n : Nat) (Ps : List Pr) (e : Ending) : Prop := ∃ r : Int, e = .returned (.int .i64 r) ∧ (0 ≤ r → n ≤ 100000 ∧ ∀ x ∈ Ps, x.name.size ≤ 100000 ∧ x.n ≤ 100000) ∧ r ≤ 100000 ∧ -300000000000000 ≤ r
set_option maxRecDepth 100000 in
set_option maxHeartbeats 1000000 in
theorem parts_any (w : World) (ao : Option Addr) (n cap : Nat) (Ps : List Pr) (h : LibAt w ao Ps) (hn : n = Ps.length) (hm : n ≤ 140737488351232) :
    Calls Tryz.prog 4 #[.slice ao n cap, .int .i64 100000] w fun e w' => PartsPost n Ps e ∧ ∃ q, w' = w.drewN q := by
  have H : Hid (LibAt w ao Ps) := h
  have HN : Hid (n = Ps.length) := hn
  clear h hn
  go_enter Tryz.func4, Tryz.ntmps4
  go_wp2_with fail
  go_loopw [1, 5] (fun x y wr => ∃ (k q : Nat) (r : Int), k ≤ n ∧ x = .int .i64 r ∧ y = .int .i64 (k : Int) ∧ Hid (r = 100000 - (used (Ps.take k) : Int)) ∧ r ≤ 100000 ∧ -300000000000000 ≤ r ∧ wr = w.drewN q) (fun _ y _ => n - (intOf y).toNat)
  case atStart => exact ⟨0, 0, 100000, Nat.zero_le _, rfl, rfl, by simp [Hid, used], by omega, by omega, rfl⟩
  case round =>
    obtain ⟨k, q, r, hk, rfl, rfl, HRe, hr1, hr2, rfl⟩ := hrel
    by_cases hlt : k < n
    · by_cases hr0 : 0 ≤ r
      · have hlt' : k < Ps.length := by have := HN.out; omega
        obtain ⟨b, off, rfl, c0, c1, c2, c3, c4, c5⟩ := H.out.at_.get k hlt'
        have HU : Hid (used (Ps.take (k + 1)) = used (Ps.take k) + (1 + (pd Ps k).name.size + (pd Ps k).n)) := used_take Ps k hlt'
        have HOk := H.out.ok _ (pd_mem hlt')
        have hb1 := HOk.str
        have hb2 := HOk.big
        clear HOk
        generalize pd Ps k = x at *
        generalize hns : x.name.size = ns at *
        generalize x.n = xn at *
        have hns' : x.name.size = ns := hns
        clear hns c1 c2 c3 c4
        have d0 : (w.drewN q).cell? ⟨b, off + k * 6, none⟩ = some (.string x.name) := c0
        have d5 : (w.drewN q).cell? ⟨b, off + k * 6 + 5, none⟩ = some (.slice x.ao xn x.cap) := c5
        have HW1 : Hid (∀ m, (w.drewN q).drewN m = w.drewN (q + m)) := fun m => World.drewN_drewN _ _ _
        generalize w.drewN q = w1 at *
        have hw1 : IntKind.i64.wrap (r - 1) = r - 1 := by rw [IntKind.wrap_i64]; omega
        have hw2 : IntKind.i64.wrap (r - 1 - (ns : Int)) = r - 1 - (ns : Int) := by rw [IntKind.wrap_i64]; omega
        have hw3 : IntKind.i64.wrap (r - 1 - (ns : Int) - (xn : Int)) = r - 1 - (ns : Int) - (xn : Int) := by rw [IntKind.wrap_i64]; omega
        have HR2 : Hid (r - 1 - (ns : Int) - (xn : Int) = 100000 - (used (Ps.take (k + 1)) : Int)) := by rw [HU.out, HRe.out]; show _ = _; omega
        clear HU c0 c5
        go_wp2_with fail
        go_quiet (fail)
        go_wp2_with fail
        go_roundw
        case rel => exact ⟨k + 1, q + nq, r - 1 - (ns : Int) - (xn : Int), by omega, rfl, by go_num, HR2, by omega, by omega, HW1.out nq⟩
        case measure => simp [intOf]; omega
      · have hr0' : ¬ (r ≥ 0) := by omega
        have hrn : r < 0 := by omega
        have HPp : Hid (PartsPost n Ps (.returned (.int .i64 r))) := ⟨r, rfl, fun h => absurd h (by omega), hr1, hr2⟩
        clear HRe
        go_wp2
        go_ret
        exact ⟨HPp.out, q, rfl⟩
    · obtain rfl : k = n := by omega
      have HPp : Hid (PartsPost k Ps (.returned (.int .i64 r))) := ⟨r, rfl, fun h => by
        have hu := HRe.out
        rw [HN.out, List.take_length] at hu
        obtain ⟨h1, h2⟩ := used_all (Ps := Ps)
        refine ⟨by rw [HN.out]; omega, fun x hx => ?_⟩
        have := h2 x hx
        omega, hr1, hr2⟩
      clear HRe
      go_wp2
      go_ret
      exact ⟨HPp.out, q, rfl⟩
/-- what a batch's parts come to -/
def usedB : List Bx → Nat
  | [] => 0
  | x :: Bs => 1 + x.t.args.length + x.t.reads.length + x.t.writes.length + usedB Bs
theorem usedB_append (A B : List Bx) : usedB (A ++ B) = usedB A + usedB B := by
  induction A with
  | nil => simp [usedB]
  | cons x A ih => simp [usedB, ih]; omega
theorem usedB_take (Bs : List Bx) (k : Nat) (h : k < Bs.length) : usedB (Bs.take (k + 1)) = usedB (Bs.take k) + (1 + (bd Bs k).t.args.length + (bd Bs k).t.reads.length + (bd Bs k).t.writes.length) := by
  rw [bd_take Bs k h, usedB_append]; simp [usedB]
theorem usedB_all {Bs : List Bx} : Bs.length ≤ usedB Bs ∧ ∀ x ∈ Bs, x.t.args.length ≤ usedB Bs ∧ x.t.reads.length ≤ usedB Bs ∧ x.t.writes.length ≤ usedB Bs := by
  induction Bs with
  | nil => simp [usedB]
  | cons y Bs ih =>
    refine ⟨by simp [usedB]; omega, fun x hx => ?_⟩
    rcases List.mem_cons.1 hx with rfl | hx
    · simp [usedB]; omega
    · have := ih.2 x hx
      simp [usedB]; omega
def PartsB (left : Int) (n : Nat) (Bs : List Bx) (e : Ending) : Prop := ∃ r : Int, e = .returned (.int .i64 r) ∧ (0 ≤ r → 0 ≤ left ∧ n ≤ 100000 ∧ ∀ x ∈ Bs, x.t.args.length ≤ 100000 ∧ x.t.reads.length ≤ 100000 ∧ x.t.writes.length ≤ 100000)
end Go.Proofs.YtcaibgbhebldmaaGreat.Kk
