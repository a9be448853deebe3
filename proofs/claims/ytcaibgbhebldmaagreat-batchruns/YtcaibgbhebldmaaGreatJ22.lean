import Derived.Test.YtcaibgbhebldmaaGreatJ20
import Derived.Deep.RegionHeld3
import Derived.Test.YtcaibgbhebldmaaGreatJ21
/-
  THE WALK OF layer 6's lent.
-/
namespace Go.Proofs.YtcaibgbhebldmaaGreat.Kk
open Go.RowKit Go.Sort

def padB : Bx := ⟨⟨-31, [], [], []⟩, none, 0, none, 0, none, 0⟩
/-- a transaction that was lent -/
def LnT (W : World) (lo hi : Nat) (x y : Bx) : Prop :=
  y.t = x.t ∧ ∃ m1 m2, lo ≤ m1 ∧ m1 ≤ m2 ∧ m2 ≤ hi ∧ LnI W lo m1 x.aA y.aA y.cA x.t.args ∧ LnK W m1 m2 x.aR y.aR y.cR x.t.reads ∧ LnK W m2 hi x.aW y.aW y.cW x.t.writes
theorem LnT.same {W W' : World} {lo hi : Nat} {x y : Bx} (h : LnT W lo hi x y) (hs : ∀ G, lo ≤ G → G < hi → G < W.heap.size → W'.heap[G]? = W.heap[G]?) : LnT W' lo hi x y := by
  obtain ⟨h0, m1, m2, h1, h2, h3, h4, h5, h6⟩ := h
  exact ⟨h0, m1, m2, h1, h2, h3, h4.same (fun G a b => hs G a (by omega)), h5.same (fun G a b => hs G (by omega) (by omega)), h6.same (fun G a b => hs G (by omega) b)⟩
/-- what stands while a batch is laid: k of its transactions are there -/
structure LtS (w W : World) (n k : Nat) (Bs Qs : List Bx) (lo : Nat → Nat) : Prop where
  row : RT W w.heap.size Qs
  len : Qs.length = n + 3
  bel : Below w.heap.size w W
  pad : ∀ i, k ≤ i → i < n + 3 → bd Qs i = padB
  one : ∀ i, i < k → LnT W (lo i) (lo (i + 1)) (bd Bs i) (bd Qs i)
  lo0 : lo 0 = w.heap.size + 1
  lok : lo k ≤ W.heap.size
  mono : ∀ i, i < k → lo i ≤ lo (i + 1)
theorem LtS.ge {w W : World} {n k : Nat} {Bs Qs : List Bx} {lo : Nat → Nat} (h : LtS w W n k Bs Qs lo) : ∀ i, i ≤ k → w.heap.size + 1 ≤ lo i
  | 0, _ => Nat.le_of_eq h.lo0.symm
  | i + 1, hi => Nat.le_trans (h.ge i (by omega)) (h.mono i (by omega))
theorem LtS.le {w W : World} {n k : Nat} {Bs Qs : List Bx} {lo : Nat → Nat} (h : LtS w W n k Bs Qs lo) (i : Nat) (hi : i ≤ k) : lo i ≤ lo k := by
  obtain ⟨d, rfl⟩ : ∃ d, k = i + d := ⟨k - i, by omega⟩
  suffices ∀ e, e ≤ d → lo i ≤ lo (i + e) from this d (Nat.le_refl _)
  intro e
  induction e with
  | zero => intro _; exact Nat.le_refl _
  | succ e ih => intro he; exact Nat.le_trans (ih (by omega)) (h.mono (i + e) (by omega))
theorem LtS.kept {w W W' : World} {n k : Nat} {Bs Qs : List Bx} {lo : Nat → Nat} (h : LtS w W n k Bs Qs lo) (hb : Below W.heap.size W W') : LtS w W' n k Bs Qs lo :=
  ⟨h.row.same (hb.block _ h.row.lt), h.len, h.bel.trans (hb.mono h.bel.size), h.pad, fun i hi => (h.one i hi).same (fun G _ _ hG => hb.block G hG), h.lo0, Nat.le_trans h.lok hb.size, h.mono⟩
structure Lt1 (w W : World) (n k : Nat) (Qs : List Bx) : Prop where
  row : RT W w.heap.size Qs
  len : Qs.length = n + 3
  bel : Below w.heap.size w W
  pad : ∀ i, i < k → bd Qs i = padB
theorem Lt1.put {w W : World} {n k : Nat} {Qs : List Bx} (h : Lt1 w W n k Qs) (hk : k < n + 3) :
    Lt1 w ((((W.setCell ⟨w.heap.size, k * 4, none⟩ (.int .i64 (-31))).setCell ⟨w.heap.size, k * 4 + 1, none⟩ (.slice none 0 0)).setCell ⟨w.heap.size, k * 4 + 2, none⟩ (.slice none 0 0)).setCell ⟨w.heap.size, k * 4 + 3, none⟩ (.slice none 0 0)) n (k + 1) (Qs.set k padB) := by
  have hkl : k < Qs.length := by have := h.len; omega
  have hR := h.row.put hkl padB
  refine ⟨hR, by rw [List.length_set]; exact h.len, bset (bset (bset (bset h.bel _ (Nat.le_refl _)) _ (Nat.le_refl _)) _ (Nat.le_refl _)) _ (Nat.le_refl _), fun i hi => ?_⟩
  by_cases e : i = k
  · subst e; rw [bd_set_eq _ _ _ hkl]
  · rw [bd_set_ne _ _ _ _ e]; exact h.pad i (by omega)
theorem Lt1.fin {w W : World} {n : Nat} {Bs Qs : List Bx} (h : Lt1 w W n (n + 3) Qs) : LtS w W n 0 Bs Qs (fun _ => w.heap.size + 1) :=
  ⟨h.row, h.len, h.bel, fun i _ hi => h.pad i hi, fun i hi => by omega, rfl, h.row.lt, fun i hi => by omega⟩
/-- one more is stored -/
theorem LtS.put {w W W3 : World} {n k : Nat} {Bs Qs : List Bx} {lo : Nat → Nat} (h : LtS w W n k Bs Qs lo) (hk : k < n) (hb : Below W.heap.size W W3) (x : Bx) (hx : bd Bs k = x) (aA aR aW : Option Addr) (cA cR cW m1 m2 : Nat)
    (h1 : W.heap.size ≤ m1) (h2 : m1 ≤ m2) (h3 : m2 ≤ W3.heap.size) (hA : LnI W3 W.heap.size m1 x.aA aA cA x.t.args) (hR : LnK W3 m1 m2 x.aR aR cR x.t.reads) (hW : LnK W3 m2 W3.heap.size x.aW aW cW x.t.writes) :
    ∃ Qs' lo', LtS w ((((W3.setCell ⟨w.heap.size, k * 4, none⟩ (.int .i64 x.t.proc)).setCell ⟨w.heap.size, k * 4 + 1, none⟩ (.slice aA x.t.args.length cA)).setCell ⟨w.heap.size, k * 4 + 2, none⟩ (.slice aR x.t.reads.length cR)).setCell ⟨w.heap.size, k * 4 + 3, none⟩ (.slice aW x.t.writes.length cW)) n (k + 1) Bs Qs' lo' := by
  have hS := h.kept hb
  have hkl : k < Qs.length := by have := h.len; omega
  have hP := hS.row.put hkl ⟨x.t, aA, cA, aR, cR, aW, cW⟩
  simp only at hP
  have hoth : ∀ G, G ≠ w.heap.size → ((((W3.setCell ⟨w.heap.size, k * 4, none⟩ (.int .i64 x.t.proc)).setCell ⟨w.heap.size, k * 4 + 1, none⟩ (.slice aA x.t.args.length cA)).setCell ⟨w.heap.size, k * 4 + 2, none⟩ (.slice aR x.t.reads.length cR)).setCell ⟨w.heap.size, k * 4 + 3, none⟩ (.slice aW x.t.writes.length cW)).heap[G]? = W3.heap[G]? := fun G hG => by
    rw [heap_setCell_other _ _ G _ (by exact hG), heap_setCell_other _ _ G _ (by exact hG), heap_setCell_other _ _ G _ (by exact hG), heap_setCell_other _ _ G _ (by exact hG)]
  have hlt := h.row.lt
  refine ⟨Qs.set k ⟨x.t, aA, cA, aR, cR, aW, cW⟩, fun i => if i ≤ k then lo i else W3.heap.size, hP, by rw [List.length_set]; exact h.len, bset (bset (bset (bset hS.bel _ (Nat.le_refl _)) _ (Nat.le_refl _)) _ (Nat.le_refl _)) _ (Nat.le_refl _), fun i h4 h5 => ?_, fun i hi => ?_, ?_, ?_, fun i hi => ?_⟩
  · rw [bd_set_ne _ _ _ _ (by omega)]; exact h.pad i (by omega) h5
  · by_cases e : i = k
    · subst e
      rw [bd_set_eq _ _ _ hkl, hx]
      have hge := h.ge i (Nat.le_refl _)
      have hlk := h.lok
      simp only [Nat.le_refl, if_true, if_neg (show ¬ i + 1 ≤ i by omega)]
      exact LnT.same (W := W3) ⟨rfl, m1, m2, by omega, h2, h3, hA.wide hlk (Nat.le_refl _), hR, hW⟩ (fun G g1 _ _ => hoth G (by omega))
    · rw [bd_set_ne _ _ _ _ e]
      have hge := h.ge i (by omega)
      simp only [if_pos (show i ≤ k by omega), if_pos (show i + 1 ≤ k by omega)]
      exact LnT.same (W := W3) (hS.one i (by omega)) (fun G g1 _ _ => hoth G (by omega))
  · simp only [Nat.zero_le, if_true]; exact h.lo0
  · simp only [if_neg (show ¬ k + 1 ≤ k by omega)]; simp
  · by_cases e : i = k
    · subst e
      have hlk := h.lok
      have hbs := hb.size
      simp only [Nat.le_refl, if_true, if_neg (show ¬ i + 1 ≤ i by omega)]; omega
    · simp only [if_pos (show i ≤ k by omega), if_pos (show i + 1 ≤ k by omega)]
      exact h.mono i (by omega)
theorem keepS {W : World} {b o g i0 i1 i2 i3 : Nat} {u v0 v1 v2 v3 : Value} (h : W.cell? ⟨b, o, none⟩ = some u) (hb : b ≠ g) : ((((W.setCell ⟨g, i0, none⟩ v0).setCell ⟨g, i1, none⟩ v1).setCell ⟨g, i2, none⟩ v2).setCell ⟨g, i3, none⟩ v3).cell? ⟨b, o, none⟩ = some u := by
  simp only [World.cell?] at h ⊢
  rw [heap_setCell_other _ _ b _ (by exact hb), heap_setCell_other _ _ b _ (by exact hb), heap_setCell_other _ _ b _ (by exact hb), heap_setCell_other _ _ b _ (by exact hb)]; exact h
def LentB (w : World) (ao : Option Addr) (n : Nat) (Bs : List Bx) (e : Ending) (w' : World) : Prop :=
  (ao = none ∧ Bs = [] ∧ e = .returned (.slice none 0 0) ∧ w' = w) ∨ (ao ≠ none ∧ ∃ Qs lo, e = .returned (.slice (some ⟨w.heap.size, 0, none⟩) n (n + 3)) ∧ LtS w w' n n Bs Qs lo)

set_option maxRecDepth 100000 in
set_option maxHeartbeats 4000000 in
theorem lent_b (w : World) (ao : Option Addr) (n cap : Nat) (Bs : List Bx) (h : BatAt w ao Bs) (hn : n = Bs.length) (hm : n ≤ 100000) (hx : ∀ x ∈ Bs, x.t.args.length ≤ 100000 ∧ x.t.reads.length ≤ 100000 ∧ x.t.writes.length ≤ 100000) :
    Calls Tryz.prog 10 #[.slice ao n cap] w fun e w' => LentB w ao n Bs e w' := by
  have H : Hid (BatAt w ao Bs) := h
  have HN : Hid (n = Bs.length) := hn
  have HM : Hid (∀ x ∈ Bs, x.t.args.length ≤ 100000 ∧ x.t.reads.length ≤ 100000 ∧ x.t.writes.length ≤ 100000) := hx
  clear h hn hx
  cases ao with
  | none =>
    have HP : Hid (LentB w none n Bs (.returned (.slice none 0 0)) w) := .inl ⟨rfl, bxcs_nil (CellsAt.nil H.out.at_), rfl, rfl⟩
    have hnil := eqNilT none n cap
    go_enter Tryz.func10, Tryz.ntmps10
    go_wp2
    go_ret
    exact HP.out
  | some a =>
  have hnil := eqNilT (some a) n cap
  have hmk := make_txs (n + 3) ((n : Int) + 3) (by omega) (by omega)
  go_enter Tryz.func10, Tryz.ntmps10
  go_upto_region 4 with fail
  have HR0 : Hid (Lt1 w (w.alloc (.cells (bxcs (List.replicate (n + 3) bxD)).toArray 46)) n 0 (List.replicate (n + 3) bxD)) := ⟨heap_alloc_new _ _ rfl, by simp, (Below.refl _ _).alloc (Nat.le_refl _) _, fun i hi => by omega⟩
  generalize w.alloc (.cells (bxcs (List.replicate (n + 3) bxD)).toArray 46) = W0 at *
  clear hmk hnil
  go_wp2_with fail
  go_loopw [4] (fun x wr => ∃ k : Nat, k ≤ n + 3 ∧ x = .int .i64 (k : Int) ∧ ∃ Qs, Hid (Lt1 w wr n k Qs)) (fun x _ => n + 3 - (intOf x).toNat)
  case atStart => exact ⟨0, Nat.zero_le _, rfl, _, HR0⟩
  case round =>
    clear HR0
    obtain ⟨k, hk, rfl, Qs, HQ⟩ := hrel
    by_cases hlt : k < n + 3
    · have hlti : (k : Int) < (n : Int) + 3 := by omega
      obtain ⟨s0, s1, s2, s3⟩ := HQ.out.row.cell k (by have := HQ.out.len; omega)
      have f0 := HQ.out.row.frozen (k * 4)
      have f1 := HQ.out.row.frozen (k * 4 + 1)
      have f2 := HQ.out.row.frozen (k * 4 + 2)
      have f3 := HQ.out.row.frozen (k * 4 + 3)
      have HP : Hid (Lt1 w _ n (k + 1) _) := HQ.out.put hlt
      go_wp2_with fail
      exact ⟨⟨k + 1, by omega, by go_num, _, HP⟩, by simp [intOf]; omega⟩
    · have HT0 : Hid (LtS w wr n 0 Bs Qs (fun _ => w.heap.size + 1)) := by
        have e : k = n + 3 := by omega
        have := HQ.out
        rw [e] at this
        exact this.fin
      have hlti : ¬ (k : Int) < (n : Int) + 3 := by omega
      generalize k = kk at *
      clear HQ
      go_wp2_with fail
      generalize wr = wx at *
      go_loopw [5] (fun x wr => ∃ k : Nat, k ≤ n ∧ x = .int .i64 (k : Int) ∧ ∃ Qs lo, Hid (LtS w wr n k Bs Qs lo)) (fun x _ => n - (intOf x).toNat)
      case atStart => exact ⟨0, Nat.zero_le _, rfl, _, _, HT0⟩
      case round =>
        clear HT0 Qs hlti hlt hk
        obtain ⟨k, hk, rfl, Qs, lo, HQ⟩ := hrel
        by_cases hlt : k < n
        · have hlt' : k < Bs.length := by have := HN.out; omega
          have hxs := HM.out _ (bd_mem hlt')
          have HXe : Hid (BxOK w (bd Bs k)) := H.out.lst k hlt'
          obtain ⟨b, off, e, c0, c1, c2, c3⟩ := TxsAt.get (H.out.at_.kept HQ.out.bel) k hlt'
          cases e
          have HA : Hid (∀ W', Below w.heap.size w W' → W'.cell? ⟨b, off + k * 4, none⟩ = some (.int .i64 (bd Bs k).t.proc) ∧ W'.cell? ⟨b, off + k * 4 + 1, none⟩ = some (.slice (bd Bs k).aA (bd Bs k).t.args.length (bd Bs k).cA) ∧ W'.cell? ⟨b, off + k * 4 + 2, none⟩ = some (.slice (bd Bs k).aR (bd Bs k).t.reads.length (bd Bs k).cR) ∧ W'.cell? ⟨b, off + k * 4 + 3, none⟩ = some (.slice (bd Bs k).aW (bd Bs k).t.writes.length (bd Bs k).cW)) := fun W' hb => by
            obtain ⟨b', off', e', d⟩ := TxsAt.get (H.out.at_.kept hb) k hlt'
            cases e'
            exact d
          have HNe : Hid (b ≠ w.heap.size) := fun e => by
            obtain ⟨b', off', e', d0, _⟩ := TxsAt.get H.out.at_ k hlt'
            cases e'
            have := cell_lt d0
            simp only at this; omega
          have hk3 : (k : Int) < (n : Int) + 3 := by omega
          have hk0 : (0 : Int) ≤ (k : Int) := by omega
          have HBk : Hid (∃ x, bd Bs k = x) := ⟨_, rfl⟩
          obtain ⟨x, hx⟩ := HBk.out
          rw [hx] at c0 c1 c2 c3 hxs HXe HA
          have HX : Hid (bd Bs k = x) := hx
          clear hx HBk
          have HCi : Hid (∀ W, Below w.heap.size w W → Calls Tryz.prog 31 #[.slice x.aA x.t.args.length x.cA] W fun e w' => ∃ a c, e = .returned (.slice a x.t.args.length c) ∧ LnI w' W.heap.size w'.heap.size x.aA a c x.t.args ∧ Below W.heap.size W w') := fun W hW => ints_any W x.aA _ x.cA x.t.args ((HXe.out.kept hW).args) rfl (by omega)
          have HCr : Hid (∀ W, Below w.heap.size w W → Calls Tryz.prog 32 #[.slice x.aR x.t.reads.length x.cR] W fun e w' => ∃ a c, e = .returned (.slice a x.t.reads.length c) ∧ LnK w' W.heap.size w'.heap.size x.aR a c x.t.reads ∧ Below W.heap.size W w') := fun W hW => keyList_any W x.aR _ x.cR x.t.reads ((HXe.out.kept hW).reads) rfl (by omega)
          have HCw : Hid (∀ W, Below w.heap.size w W → Calls Tryz.prog 32 #[.slice x.aW x.t.writes.length x.cW] W fun e w' => ∃ a c, e = .returned (.slice a x.t.writes.length c) ∧ LnK w' W.heap.size w'.heap.size x.aW a c x.t.writes ∧ Below W.heap.size W w') := fun W hW => keyList_any W x.aW _ x.cW x.t.writes ((HXe.out.kept hW).writes) rfl (by omega)
          have HPut : Hid (∀ (W3 : World) (_ : Below wr.heap.size wr W3) (aA aR aW : Option Addr) (cA cR cW m1 m2 : Nat) (_ : wr.heap.size ≤ m1) (_ : m1 ≤ m2) (_ : m2 ≤ W3.heap.size) (_ : LnI W3 wr.heap.size m1 x.aA aA cA x.t.args) (_ : LnK W3 m1 m2 x.aR aR cR x.t.reads) (_ : LnK W3 m2 W3.heap.size x.aW aW cW x.t.writes),
              ∃ Qs' lo', LtS w ((((W3.setCell ⟨w.heap.size, k * 4, none⟩ (.int .i64 x.t.proc)).setCell ⟨w.heap.size, k * 4 + 1, none⟩ (.slice aA x.t.args.length cA)).setCell ⟨w.heap.size, k * 4 + 2, none⟩ (.slice aR x.t.reads.length cR)).setCell ⟨w.heap.size, k * 4 + 3, none⟩ (.slice aW x.t.writes.length cW)) n (k + 1) Bs Qs' lo') := fun W3 hb aA aR aW cA cR cW m1 m2 h1 h2 h3 hA hR hW => HQ.out.put hlt hb x HX.out aA aR aW cA cR cW m1 m2 h1 h2 h3 hA hR hW
          have HRow : Hid (∀ W3, Below wr.heap.size wr W3 → RT W3 w.heap.size Qs) := fun W3 hb => (HQ.out.kept hb).row
          have HLn : Hid (k < Qs.length) := by have := HQ.out.len; simp only [Hid]; omega
          have HBw : Hid (Below w.heap.size w wr) := HQ.out.bel
          have HD : Hid (Below wr.heap.size wr wr.drew) := ((Grew.refl wr).drewN 1).below
          clear HXe HQ
          obtain ⟨⟨proc, args, reads, writes⟩, xA, kA, xR, kR, xW, kW⟩ := x
          simp only at c0 c1 c2 c3 hxs HA HCi HCr HCw HPut
          go_upto_region 11 with fail
          go_region_held3 (fun w' => w'.cell? ⟨b, off + k * 4, none⟩ = some (.int .i64 proc) ∧ w'.cell? ⟨b, off + k * 4 + 1, none⟩ = some (.slice xA args.length kA) ∧ w'.cell? ⟨b, off + k * 4 + 2, none⟩ = some (.slice xR reads.length kR) ∧ w'.cell? ⟨b, off + k * 4 + 3, none⟩ = some (.slice xW writes.length kW)) (first | with_reducible exact y3 | with_reducible exact ⟨keepS y3.1 HNe.out, keepS y3.2.1 HNe.out, keepS y3.2.2.1 HNe.out, keepS y3.2.2.2 HNe.out⟩ | with_reducible exact y2 | with_reducible exact y1 | go_keep) (first
            | (go_at_call 32; refine (HCw.out _ (HBw.out.trans (HB2.out.mono HBw.out.size))).mono ?_; rintro e w3 ⟨a3, k3, rfl, hl3, hb3⟩; have HB3 : Hid (Below wr.heap.size wr w3) := HB2.out.trans (hb3.mono HB2.out.size); have HL3 : Hid (LnI w3 wr.heap.size w1.heap.size xA a1 k1 args ∧ LnK w3 w1.heap.size w2.heap.size xR a2 k2 reads ∧ LnK w3 w2.heap.size w3.heap.size xW a3 k3 writes ∧ w1.heap.size ≤ w2.heap.size ∧ wr.heap.size ≤ w1.heap.size ∧ w2.heap.size ≤ w3.heap.size) := ⟨HL2.out.1.same (fun G _ _ hG => hb3.block G hG), HL2.out.2.1.same (fun G _ _ hG => hb3.block G hG), hl3, HL2.out.2.2.1, HL2.out.2.2.2, hb3.size⟩; have y3 := HA.out w3 (HBw.out.trans (HB3.out.mono HBw.out.size)); obtain ⟨s0, s1, s2, s3⟩ := (HRow.out w3 HB3.out).cell k HLn.out; have f0 := (HRow.out w3 HB3.out).frozen (k * 4); have f1 := (HRow.out w3 HB3.out).frozen (k * 4 + 1); have f2 := (HRow.out w3 HB3.out).frozen (k * 4 + 2); have f3 := (HRow.out w3 HB3.out).frozen (k * 4 + 3); clear hl3 hb3)
            | (go_at_call 32; refine (HCr.out _ (HBw.out.trans (HB1.out.mono HBw.out.size))).mono ?_; rintro e w2 ⟨a2, k2, rfl, hl2, hb2⟩; have HB2 : Hid (Below wr.heap.size wr w2) := HB1.out.trans (hb2.mono HB1.out.size); have HL2 : Hid (LnI w2 wr.heap.size w1.heap.size xA a1 k1 args ∧ LnK w2 w1.heap.size w2.heap.size xR a2 k2 reads ∧ w1.heap.size ≤ w2.heap.size ∧ wr.heap.size ≤ w1.heap.size) := ⟨HL1.out.1.same (fun G _ _ hG => hb2.block G hG), hl2, hb2.size, HL1.out.2⟩; have y2 := HA.out w2 (HBw.out.trans (HB2.out.mono HBw.out.size)); clear hl2 hb2)
            | (go_at_call 31; refine (HCi.out _ (HBw.out.trans (HD.out.mono HBw.out.size))).mono ?_; rintro e w1 ⟨a1, k1, rfl, hl1, hb1⟩; have HB1 : Hid (Below wr.heap.size wr w1) := HD.out.trans hb1; have HL1 : Hid (LnI w1 wr.heap.size w1.heap.size xA a1 k1 args ∧ wr.heap.size ≤ w1.heap.size) := ⟨hl1, hb1.size⟩; have y1 := HA.out w1 (HBw.out.trans (HB1.out.mono HBw.out.size)); clear hl1 hb1))
          all_goals (
            obtain ⟨Qs', lo', hq⟩ := HPut.out w3 HB3.out a1 a2 a3 k1 k2 k3 w1.heap.size w2.heap.size HL3.out.2.2.2.2.1 HL3.out.2.2.2.1 HL3.out.2.2.2.2.2 HL3.out.1 HL3.out.2.1 HL3.out.2.2.1
            have HQ2 : Hid (LtS w _ n (k + 1) Bs Qs' lo') := hq
            clear hq HCi HCr HCw HPut HRow c0 c1 c2 c3
            go_wp2
            go_roundw
            case rel => exact ⟨k + 1, by omega, by go_num, _, _, HQ2⟩
            case measure => simp [intOf]; omega)
        · obtain rfl : k = n := by omega
          have HPp : Hid (LentB w (some a) k Bs (.returned (.slice (some ⟨w.heap.size, 0, none⟩) k (k + 3))) wr) := .inr ⟨by simp, Qs, lo, rfl, HQ.out⟩
          clear HQ
          go_wp2
          go_ret
          exact HPp.out
end Go.Proofs.YtcaibgbhebldmaaGreat.Kk
/-
  THE WALKS OF layer 6's tail, wipe.
-/
namespace Go.Proofs.YtcaibgbhebldmaaGreat.Kk
open Go.RowKit Go.Sort

theorem kd_pad (L : List K) (j : Nat) (hj : j < 3) : kd (L ++ padK3 3) (L.length + j) = (-31, 0) := by
  rw [kd_right _ _ _ (by rw [padK3_len]; exact hj)]
  revert hj; revert j; decide
theorem ad_pad (L : List Int) (j : Nat) (hj : j < 3) : ad (L ++ pad3 3) (L.length + j) = -31 := by
  have : ad (L ++ pad3 3) (L.length + j) = ad (pad3 3) j := by simp [ad, List.getD_eq_getElem?_getD, List.getElem?_append_right]
  rw [this]
  clear this
  revert hj; revert j; decide


/-- rows that may be written over -/
def WI (W : World) (lo hi : Nat) (a : Option Addr) (n : Nat) : Prop := n = 0 ∨ ∃ G M, a = some ⟨G, 0, none⟩ ∧ lo ≤ G ∧ G < hi ∧ R64 W G M ∧ n ≤ M.length
def WK (W : World) (lo hi : Nat) (a : Option Addr) (n : Nat) : Prop := n = 0 ∨ ∃ G M, a = some ⟨G, 0, none⟩ ∧ lo ≤ G ∧ G < hi ∧ RK W G M ∧ n ≤ M.length
theorem LnI.wi {W : World} {lo hi : Nat} {ao a : Option Addr} {c : Nat} {A : List Int} (h : LnI W lo hi ao a c A) : WI W lo hi a A.length := by
  rcases h with ⟨_, _, _, rfl⟩ | ⟨_, G, e, _, h1, h2, h3⟩
  · exact .inl rfl
  · exact .inr ⟨G, _, e, h1, h2, h3, by simp⟩
theorem LnK.wk {W : World} {lo hi : Nat} {ao a : Option Addr} {c : Nat} {A : List K} (h : LnK W lo hi ao a c A) : WK W lo hi a A.length := by
  rcases h with ⟨_, _, _, rfl⟩ | ⟨_, G, e, _, h1, h2, h3⟩
  · exact .inl rfl
  · exact .inr ⟨G, _, e, h1, h2, h3, by simp⟩
theorem WK.same {W W' : World} {lo hi : Nat} {a : Option Addr} {n : Nat} (h : WK W lo hi a n) (hs : ∀ G, lo ≤ G → G < hi → G < W.heap.size → W'.heap[G]? = W.heap[G]?) : WK W' lo hi a n := by
  rcases h with h | ⟨G, M, e, h1, h2, h3, h4⟩
  · exact .inl h
  · exact .inr ⟨G, M, e, h1, h2, h3.same (hs G h1 h2 h3.lt), h4⟩
theorem WI.same {W W' : World} {lo hi : Nat} {a : Option Addr} {n : Nat} (h : WI W lo hi a n) (hs : ∀ G, lo ≤ G → G < hi → G < W.heap.size → W'.heap[G]? = W.heap[G]?) : WI W' lo hi a n := by
  rcases h with h | ⟨G, M, e, h1, h2, h3, h4⟩
  · exact .inl h
  · exact .inr ⟨G, M, e, h1, h2, h3.same (hs G h1 h2 h3.lt), h4⟩
theorem Mid.cell {g h : Nat} {W W' : World} (m : Mid g h W W') {b i : Nat} {v : Value} (hc : W.cell? ⟨b, i, none⟩ = some v) (hb : b < g ∨ h ≤ b) : W'.cell? ⟨b, i, none⟩ = some v := by
  have := cell_lt hc
  simp only [World.cell?] at hc ⊢
  rw [m.block b this hb]; exact hc

end Go.Proofs.YtcaibgbhebldmaaGreat.Kk
/-
  THE WALK OF layer 6's back.
-/
namespace Go.Proofs.YtcaibgbhebldmaaGreat.Kk
open Go.RowKit Go.Sort

theorem LnI.nums {W : World} {lo hi : Nat} {ao a : Option Addr} {c : Nat} {A : List Int} (h : LnI W lo hi ao a c A) : NumsAt W a A ∧ (a = none → c = 0) ∧ A.length ≤ c := by
  rcases h with ⟨_, rfl, rfl, rfl⟩ | ⟨_, G, rfl, rfl, _, _, hr⟩
  · exact ⟨.inl rfl, fun _ => rfl, Nat.le_refl _⟩
  · exact ⟨hr.nums, by simp, by omega⟩
theorem LnK.keys {W : World} {lo hi : Nat} {ao a : Option Addr} {c : Nat} {A : List K} (h : LnK W lo hi ao a c A) : KeysAt W a A ∧ (a = none → c = 0) ∧ A.length ≤ c := by
  rcases h with ⟨_, rfl, rfl, rfl⟩ | ⟨_, G, rfl, rfl, _, _, hr⟩
  · exact ⟨.inl rfl, fun _ => rfl, Nat.le_refl _⟩
  · exact ⟨hr.keys, by simp, by omega⟩
/-- a transaction that was lent is as it was -/
theorem LnT.ok {W : World} {lo hi : Nat} {x y : Bx} (h : LnT W lo hi x y) (hx : BxOK W x) : BxOK W y := by
  obtain ⟨h0, m1, m2, _, _, _, h4, h5, h6⟩ := h
  obtain ⟨a1, a2, a3⟩ := h4.nums
  obtain ⟨b1, b2, b3⟩ := h5.keys
  obtain ⟨c1, c2, c3⟩ := h6.keys
  obtain ⟨t, aA, cA, aR, cR, aW, cW⟩ := y
  simp only at *
  subst h0
  exact ⟨a1, b1, c1, hx.pin, hx.ain, hx.rin, hx.win, a2, b2, c2, a3, b3, c3, hx.bigA, hx.bigR, hx.bigW⟩
theorem LtS.bat {w W : World} {n : Nat} {Bs Qs : List Bx} {lo : Nat → Nat} {ao : Option Addr} (h : LtS w W n n Bs Qs lo) (hn : n = Bs.length) (hb : BatAt W ao Bs) : BatAt W (some ⟨w.heap.size, 0, none⟩) (Qs.take n) ∧ (Qs.take n).map Bx.t = Bs.map Bx.t := by
  have hl : (Qs.take n).length = n := by rw [List.length_take, h.len]; omega
  refine ⟨⟨?_, fun x hx => ?_⟩, ?_⟩
  · have : RT W w.heap.size (Qs.take n ++ Qs.drop n) := by rw [List.take_append_drop]; exact h.row
    exact this.txs
  · obtain ⟨i, hi, rfl⟩ := List.mem_iff_getElem.1 hx
    have hi' : i < n := by omega
    have h1 := (h.one i hi').ok (hb.lst i (by omega))
    have e : bd Qs i = (Qs.take n)[i] := by
      rw [← bd_tk hi']; simp [bd, List.getD_eq_getElem?_getD, List.getElem?_eq_getElem hi]
    rw [e] at h1; exact h1
  · apply List.ext_getElem
    · rw [List.length_map, List.length_map, hl, hn]
    · intro i h1 h2
      simp only [List.length_map] at h1 h2
      have hi' : i < n := by omega
      have e1 : bd (Qs.take n) i = (Qs.take n)[i] := by simp [bd, List.getD_eq_getElem?_getD, List.getElem?_eq_getElem h1]
      have e2 : bd Bs i = Bs[i] := by simp [bd, List.getD_eq_getElem?_getD, List.getElem?_eq_getElem h2]
      simp only [List.getElem_map]
      rw [← e1, ← e2, bd_tk hi', (h.one i hi').1]

theorem neNil64 (ao : Option Addr) (n c : Nat) (w : World) : (binOp .neq 43 (.slice ao n c) (.slice none 0 0)).run Tryz.prog w = .ok (.bool (!ao.isNone)) w := by
  have h := eqNil64 ao n c w
  simp only [binOp] at h ⊢
  simp [run_equal_slice_nil w 43 2 ao n c Tryz.underlying43]
/-- what stands while a batch is given back: k of it are looked at and written over -/
structure BkS (w W1 W : World) (n k : Nat) (Bs Qs Rs : List Bx) (lo : Nat → Nat) : Prop where
  row : RT W w.heap.size Rs
  len : Rs.length = n + 3
  one : ∀ i, k ≤ i → i < n → bd Rs i = bd Qs i ∧ LnT W (lo i) (lo (i + 1)) (bd Bs i) (bd Rs i)
  mid : Mid w.heap.size (lo n) W1 W
theorem BkS.start {w W1 W : World} {n : Nat} {Bs Qs : List Bx} {lo : Nat → Nat} (h : LtS w W1 n n Bs Qs lo) (hg : Grew W1 W) : BkS w W1 W n 0 Bs Qs Qs lo := by
  have h2 := h.kept hg.below
  exact ⟨h2.row, h2.len, fun i _ hi => ⟨rfl, h2.one i hi⟩, Mid.of_below hg.below⟩
theorem BkS.kept {w W1 W W' : World} {n k : Nat} {Bs Qs Rs : List Bx} {lo : Nat → Nat} (h : BkS w W1 W n k Bs Qs Rs lo) (hg : Grew W W') : BkS w W1 W' n k Bs Qs Rs lo :=
  ⟨h.row.same (hg.heap h.row.lt), h.len, fun i h1 h2 => ⟨(h.one i h1 h2).1, (h.one i h1 h2).2.same (fun _ _ _ hG => hg.heap hG)⟩, h.mid.trans (Mid.of_below hg.below)⟩
/-- behind wipe and the store -/
theorem BkS.next {w W1 W W' : World} {n k : Nat} {Bs Qs Rs : List Bx} {lo : Nat → Nat} (h0 : LtS w W1 n n Bs Qs lo) (h : BkS w W1 W n k Bs Qs Rs lo) (hk : k < n) (hm : Mid (lo k) (lo (k + 1)) W W') :
    RT W' w.heap.size Rs ∧ BkS w W1 ((((W'.setCell ⟨w.heap.size, k * 4, none⟩ (.int .i64 (-32))).setCell ⟨w.heap.size, k * 4 + 1, none⟩ (.slice none 0 0)).setCell ⟨w.heap.size, k * 4 + 2, none⟩ (.slice none 0 0)).setCell ⟨w.heap.size, k * 4 + 3, none⟩ (.slice none 0 0)) n (k + 1) Bs Qs (Rs.set k ⟨⟨-32, [], [], []⟩, none, 0, none, 0, none, 0⟩) lo := by
  have hge : ∀ i, i ≤ n → w.heap.size + 1 ≤ lo i := fun i hi => h0.ge i hi
  have hle : ∀ i, i ≤ n → lo i ≤ lo n := fun i hi => h0.le i hi
  have hrow : RT W' w.heap.size Rs := h.row.same (hm.block _ h.row.lt (.inl (by have := hge k (by omega); omega)))
  have hkl : k < Rs.length := by have := h.len; omega
  have hP := hrow.put hkl ⟨⟨-32, [], [], []⟩, none, 0, none, 0, none, 0⟩
  refine ⟨hrow, hP, by rw [List.length_set]; exact h.len, fun i h1 h2 => ?_, ?_⟩
  · rw [bd_set_ne _ _ _ _ (by omega)]
    refine ⟨(h.one i (by omega) h2).1, (h.one i (by omega) h2).2.same (fun G g1 _ hG => ?_)⟩
    have hg := hge i (by omega)
    have hmono : lo (k + 1) ≤ lo i := by
      obtain ⟨d, rfl⟩ : ∃ d, i = k + 1 + d := ⟨i - (k + 1), by omega⟩
      suffices ∀ e, e ≤ d → lo (k + 1) ≤ lo (k + 1 + e) from this d (Nat.le_refl _)
      intro e
      induction e with
      | zero => intro _; exact Nat.le_refl _
      | succ e ih => intro he; exact Nat.le_trans (ih (by omega)) (h0.mono (k + 1 + e) (by omega))
    rw [heap_setCell_other _ _ G _ (by show G ≠ w.heap.size; omega), heap_setCell_other _ _ G _ (by show G ≠ w.heap.size; omega), heap_setCell_other _ _ G _ (by show G ≠ w.heap.size; omega), heap_setCell_other _ _ G _ (by show G ≠ w.heap.size; omega)]
    exact hm.block G hG (.inr (by omega))
  · have h5 := hge n (Nat.le_refl _)
    have h6 := hge k (by omega)
    have h7 : Mid w.heap.size (lo n) W1 W' := h.mid.trans (hm.wide (by omega) (hle (k + 1) (by omega)))
    exact (((h7.set _ _ _ (Nat.le_refl _) (by omega)).set _ _ _ (Nat.le_refl _) (by omega)).set _ _ _ (Nat.le_refl _) (by omega)).set _ _ _ (Nat.le_refl _) (by omega)

end Go.Proofs.YtcaibgbhebldmaaGreat.Kk
