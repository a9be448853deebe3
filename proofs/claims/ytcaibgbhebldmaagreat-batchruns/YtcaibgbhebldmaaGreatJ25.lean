import Derived.Test.YtcaibgbhebldmaaGreatJ21
import Derived.Test.YtcaibgbhebldmaaGreatJ14
import Derived.Test.YtcaibgbhebldmaaGreatJ24
import Derived.Test.YtcaibgbhebldmaaGreatJ06
/-
  THE WALKS OF Weight (both), slices.Clone of keys, Writes (both).
-/
namespace Go.Proofs.YtcaibgbhebldmaaGreat.Kk
open Go.RowKit Go.Sort

def wtN : List Bx → Nat
  | [] => 0
  | x :: Bs => x.t.writes.length + wtN Bs
theorem wtN_append (A B : List Bx) : wtN (A ++ B) = wtN A + wtN B := by
  induction A with
  | nil => simp [wtN]
  | cons x A ih => simp [wtN, ih]; omega
theorem wtN_take (Bs : List Bx) (k : Nat) (h : k < Bs.length) : wtN (Bs.take (k + 1)) = wtN (Bs.take k) + (bd Bs k).t.writes.length := by
  rw [bd_take Bs k h, wtN_append]; simp [wtN]
theorem wtN_le {Bs : List Bx} (h : ∀ x ∈ Bs, x.t.writes.length ≤ 100000) : wtN Bs ≤ 100000 * Bs.length := by
  induction Bs with
  | nil => simp [wtN]
  | cons x B ih =>
    have h1 := h x (by simp)
    have h2 := ih (fun y hy => h y (by simp [hy]))
    simp only [wtN, List.length_cons]; omega
theorem wtN_map {Bs Cs : List Bx} (h : Bs.map Bx.t = Cs.map Bx.t) : wtN Bs = wtN Cs := by
  induction Bs generalizing Cs with
  | nil => cases Cs with
    | nil => rfl
    | cons y C => simp at h
  | cons x B ih => cases Cs with
    | nil => simp at h
    | cons y C =>
      simp only [List.map_cons, List.cons.injEq] at h
      simp only [wtN, h.1, ih h.2]
def Sm (n : Nat) (Bs : List Bx) : Prop := n ≤ 100000 ∧ ∀ x ∈ Bs, x.t.args.length ≤ 100000 ∧ x.t.reads.length ≤ 100000 ∧ x.t.writes.length ≤ 100000

set_option maxRecDepth 100000 in
set_option maxHeartbeats 1000000 in
theorem weight_any (w : World) (ao : Option Addr) (n cap : Nat) (Bs : List Bx) (h : BatAt w ao Bs) (hn : n = Bs.length) (hs : Sm n Bs) :
    Calls Tryz.prog 16 #[.slice ao n cap] w fun e w' => e = .returned (.int .i64 (wtN Bs : Int)) ∧ Grew w w' := by
  have H : Hid (BatAt w ao Bs) := h
  have HN : Hid (n = Bs.length) := hn
  have HS : Hid (Sm n Bs) := hs
  have hm := hs.1
  clear h hn hs
  go_enter Tryz.func16, Tryz.ntmps16
  go_wp2_with fail
  go_loopw [3, 8] (fun y x wr => ∃ k r : Nat, k ≤ n ∧ x = .int .i64 (k : Int) ∧ y = .int .i64 (r : Int) ∧ r ≤ 100000 * k ∧ Hid (r = wtN (Bs.take k)) ∧ Hid (Grew w wr)) (fun _ x _ => n - (intOf x).toNat)
  case atStart => exact ⟨0, 0, Nat.zero_le _, rfl, rfl, by omega, by simp [Hid, wtN], Grew.refl _⟩
  case round =>
    obtain ⟨k, r, hk, rfl, rfl, hr, HR, HG⟩ := hrel
    by_cases hlt : k < n
    · have hlt' : k < Bs.length := by have := HN.out; omega
      obtain ⟨b, off, rfl, c0, c1, c2, c3⟩ := TxsAt.get (H.out.at_.kept HG.out.below) k hlt'
      have hw : (bd Bs k).t.writes.length ≤ 100000 := (HS.out.2 _ (bd_mem hlt')).2.2
      have HR2 : Hid (r + (bd Bs k).t.writes.length = wtN (Bs.take (k + 1))) := by rw [wtN_take Bs k hlt', HR.out]; rfl
      generalize bd Bs k = x at *
      obtain ⟨⟨proc, args, reads, writes⟩, aA, cA, aR, cR, aW, cW⟩ := x
      simp only at c0 c1 c2 c3 hw HR2
      generalize args.length = na at *
      generalize reads.length = nr at *
      generalize writes.length = nw at *
      have HG1 : Hid (Grew w (wr.alloc (.cells #[.int .i64 proc, .slice aA na cA, .slice aR nr cR, .slice aW nw cW] 46))) := HG.out.alloc _
      have hwr : IntKind.i64.wrap ((r : Int) + (nw : Int)) = (r : Int) + (nw : Int) := by rw [IntKind.wrap_i64]; omega
      clear HR HG
      go_wp2_with fail
      go_roundw
      case rel => exact ⟨k + 1, r + nw, by omega, by go_num, by go_num, by omega, HR2, HG1⟩
      case measure => simp [intOf]; omega
    · obtain rfl : k = n := by omega
      have HF : Hid (r = wtN Bs) := by rw [HR.out, HN.out, List.take_length]; rfl
      go_wp2
      go_ret
      exact ⟨by rw [HF.out]; rfl, HG.out⟩

end Go.Proofs.YtcaibgbhebldmaaGreat.Kk
/-
  THE WALKS OF slices.Clone of keys AND OF Writes.
-/
namespace Go.Proofs.YtcaibgbhebldmaaGreat.Kk
open Go.RowKit Go.Sort

set_option maxRecDepth 100000 in
theorem clone_kq (w : World) (ao : Option Addr) (n cap : Nat) (L : List K) (hn : n = L.length) (h : KeysAt w ao L) (hnil : ao = none → cap = 0) (hm : n ≤ 1000000) :
    Calls Tryz.prog 33 #[.slice ao n cap] w fun e w' => ∃ v, e = .returned v ∧ OwnK w' w.heap.size v L ∧ Below w.heap.size w w' := by
  have q22 : ∀ (w : World) (a : Option Addr) (n c n' c' : Nat), (binOp .eql 44 (.slice a n c) (.slice none n' c')).run Tryz.prog w = .ok (.bool a.isNone) w := fun w a n c n' c' => Lib.run_eql_slice_nil w _ _ a n c n' c' Tryz.underlying44
  cases ao with
  | none =>
    have h0 : L = [] := by
      rcases h with h | ⟨b, off, e, _⟩
      · exact h
      · cases e
    subst h0
    clear h hnil
    go_enter Tryz.func33, Tryz.ntmps33
    go_wp2
    go_ret
    exact ⟨_, rfl, OwnK.nil _ _, Below.refl _ _⟩
  | some ad =>
    have HX : Hid (∀ j u, (cks L)[j]? = some u → (w.alloc (.cells #[] 89)).cell? (ad.add j) = some u) := fun j u hu => by
      rcases h with h0 | ⟨b, off, e, hc⟩
      · subst h0; simp [cks] at hu
      · cases e; rw [addr_add]; exact Lib.cell?_alloc_some _ (hc j u hu)
    have HL : Hid (n = L.length) := hn
    have HO : Hid ((w.alloc (.cells #[] 89)).ownsRow w.heap.size 89 2 (.slice (some ⟨w.heap.size, 0, none⟩) 0 0) 0 []) := World.ownsRow_made w #[] 0 (Nat.le_refl _) (Nat.zero_le _) (by simp)
    clear h hn hnil
    go_enter Tryz.func33, Tryz.ntmps33
    go_wp2_with (at_builtin; refine wpL_app rfl _ _ 44 rfl (.slice (some ⟨w.heap.size, 0, none⟩) 0 0) (.slice (some ad) n cap) rfl rfl (post := fun v' w' => w'.ownsRow w.heap.size 89 2 v' (0 + n) ([] ++ cks L) ∧ (w.alloc (.cells #[] 89)).grownBy w' (some w.heap.size)) (fun ty => by obtain ⟨v', w', hr, h2, h3, _⟩ := run_append_E elK ty w.heap.size _ 0 [] HO.out ad n cap (cks L) (by rw [cks_length, HL.out]) HX.out (cks_one L) (by omega) (by simp); exact ⟨v', w', hr, h2, h3⟩) ?_; rintro v' w1 ⟨hown, hgrow⟩)
    go_ret
    exact ⟨v', rfl, by rw [Nat.zero_add, List.nil_append, HL.out] at hown; exact hown, ((Below.refl _ w).alloc (Nat.le_refl _) _).grown hgrow (by simp) (by intro k hk; simp at hk; omega)⟩
theorem infoLs : (Tryz.prog.info? 44).map (fun i => (i.zero, i.size, i.bytes)) = some (some (.slice none 0 0), 1, 24) := by kernel_rfl
theorem make_ls (c : Nat) (hc : c ≤ 100000) (u : World) : (Instr.makeSlice 41 (.int .i64 (c : Int)) (.int .i64 (c : Int))).run Tryz.prog u =
    .ok (.slice (some ⟨u.heap.size, 0, none⟩) c c) (u.alloc (.cells ((List.range c).map fun _ => Value.slice none 0 0).toArray 44)) := by
  obtain ⟨i0, hi, hz0, hz1, hz2⟩ := info_parts infoLs
  have h := run_make (P := Tryz.prog) u 41 44 i0 (.slice none 0 0) Tryz.underlying41 hi hz0 .i64 .i64 (c : Int) (c : Int) (by omega) (Int.le_refl _) (by rw [hz2]; omega) (by omega)
  have e : madeCells #[.slice none 0 0] c = ((List.range c).map fun _ => Value.slice none 0 0).toArray := by
    apply Array.ext'
    apply List.ext_getElem?
    intro j
    by_cases hj : j < c
    · simp [madeCells, hj, Nat.mod_one]
    · simp [madeCells, hj]
  rw [← e]
  simpa [hz1, Value.cells] using h
/-- k of the n sets are laid -/
structure WsAt (w W : World) (n k : Nat) (Bs : List Bx) (vs : Nat → Value) (lo : Nat → Nat) : Prop where
  row : W.heap[w.heap.size]? = some (.cells ((List.range n).map fun i => if i < k then vs i else .slice none 0 0).toArray 44 (0, 0))
  own : ∀ i, i < k → OwnK W (lo i) (vs i) (bd Bs i).t.writes ∧ ∀ g, (vs i).ownBlock = some g → g < lo (i + 1)
  lo0 : w.heap.size + 1 ≤ lo 0
  mono : ∀ i, i < k → lo i ≤ lo (i + 1)
  lok : lo k ≤ W.heap.size
  bel : Below w.heap.size w W
theorem WsAt.lt {w W : World} {n k : Nat} {Bs : List Bx} {vs : Nat → Value} {lo : Nat → Nat} (h : WsAt w W n k Bs vs lo) : w.heap.size < W.heap.size := (Array.getElem?_eq_some_iff.1 h.row).1
theorem WsAt.ge {w W : World} {n k : Nat} {Bs : List Bx} {vs : Nat → Value} {lo : Nat → Nat} (h : WsAt w W n k Bs vs lo) : ∀ i, i ≤ k → w.heap.size + 1 ≤ lo i
  | 0, _ => h.lo0
  | i + 1, hi => Nat.le_trans (h.ge i (by omega)) (h.mono i (by omega))
theorem WsAt.kept {w W W' : World} {n k : Nat} {Bs : List Bx} {vs : Nat → Value} {lo : Nat → Nat} (h : WsAt w W n k Bs vs lo) (hb : Below W.heap.size W W') : WsAt w W' n k Bs vs lo :=
  ⟨(hb.block _ h.lt).trans h.row, fun i hi => ⟨(h.own i hi).1.kept hb, (h.own i hi).2⟩, h.lo0, h.mono, Nat.le_trans h.lok hb.size, h.bel.trans (hb.mono h.bel.size)⟩
theorem WsAt.put {w W : World} {n k : Nat} {Bs : List Bx} {vs : Nat → Value} {lo : Nat → Nat} (h : WsAt w W n k Bs vs lo) (hk : k < n) {v : Value} {base : Nat} (hb : lo k ≤ base) (ho : OwnK W base v (bd Bs k).t.writes) :
    WsAt w (W.setCell ⟨w.heap.size, k, none⟩ v) n (k + 1) Bs (fun i => if i = k then v else vs i) (fun i => if i ≤ k then lo i else W.heap.size) := by
  have hs : ∀ G, G ≠ w.heap.size → (W.setCell ⟨w.heap.size, k, none⟩ v).heap[G]? = W.heap[G]? := fun G hG => heap_setCell_other W ⟨w.heap.size, k, none⟩ G v hG
  refine ⟨?_, fun i hi => ?_, ?_, fun i hi => ?_, ?_, bset h.bel _ (Nat.le_refl _)⟩
  · have := heap_setCell_same W w.heap.size k _ _ v h.row
    rw [this]
    congr 2
    apply Array.ext'
    apply List.ext_getElem?
    intro j
    by_cases hj : j < n
    · by_cases hjk : j = k
      · subst hjk; simp [hj]
      · simp only [Array.toList_setIfInBounds, List.getElem?_set_ne (Ne.symm hjk), List.getElem?_map, List.getElem?_range hj, Option.map_some, if_neg hjk]
        by_cases h1 : j < k
        · rw [if_pos h1, if_pos (by omega)]
        · rw [if_neg h1, if_neg (by omega)]
    · simp [hj]
  · by_cases e : i = k
    · subst e
      simp only [if_true, Nat.le_refl, if_neg (show ¬ i + 1 ≤ i by omega)]
      have hlt := World.ownsRow.lt ho
      exact ⟨(ho.mono hb).same (fun g hg => hs g (by have := (hlt g hg).1; have := h.ge i (Nat.le_refl _); omega)), fun g hg => (hlt g hg).2⟩
    · have hi' : i < k := by omega
      simp only [if_neg e, if_pos (show i ≤ k by omega), if_pos (show i + 1 ≤ k by omega)]
      have hlt := (h.own i hi').1.lt
      exact ⟨(h.own i hi').1.same (fun g hg => hs g (by have := (hlt g hg).1; have := h.ge i (by omega); omega)), (h.own i hi').2⟩
  · simp only [Nat.zero_le, if_true]; exact h.lo0
  · by_cases e : i = k
    · subst e
      simp only [Nat.le_refl, if_true, if_neg (show ¬ i + 1 ≤ i by omega)]
      exact h.lok
    · simp only [if_pos (show i ≤ k by omega), if_pos (show i + 1 ≤ k by omega)]
      exact h.mono i (by omega)
  · simp only [if_neg (show ¬ k + 1 ≤ k by omega)]
    simp

set_option maxRecDepth 100000 in
set_option maxHeartbeats 2000000 in
theorem writes_any (w : World) (ao : Option Addr) (n cap : Nat) (Bs : List Bx) (h : BatAt w ao Bs) (hn : n = Bs.length) (hs : Sm n Bs) :
    Calls Tryz.prog 12 #[.slice ao n cap] w fun e w' => e = .returned (.slice (some ⟨w.heap.size, 0, none⟩) n n) ∧ ∃ vs lo, WsAt w w' n n Bs vs lo := by
  have H : Hid (∀ W, Below w.heap.size w W → BatAt W ao Bs) := fun W hW => h.kept hW
  have HN : Hid (n = Bs.length) := hn
  have HS : Hid (Sm n Bs) := hs
  have hm := hs.1
  clear h hn hs
  have hmk := make_ls n hm
  have HW0 : Hid (WsAt w (w.alloc (.cells ((List.range n).map fun _ => Value.slice none 0 0).toArray 44)) n 0 Bs (fun _ => .slice none 0 0) (fun _ => w.heap.size + 1)) :=
    ⟨(heap_alloc_new _ _ rfl).trans (by simp), fun i hi => by omega, Nat.le_refl _, fun i hi => by omega, by simp, (Below.refl _ _).alloc (Nat.le_refl _) _⟩
  go_enter Tryz.func12, Tryz.ntmps12
  go_wp2_with fail
  clear hmk
  go_loopw [11] (fun x wr => ∃ k : Nat, k ≤ n ∧ x = .int .i64 (k : Int) ∧ Hid (∃ vs lo, WsAt w wr n k Bs vs lo)) (fun x _ => n - (intOf x).toNat)
  case atStart => exact ⟨0, Nat.zero_le _, rfl, _, _, HW0.out⟩
  case round =>
    clear HW0
    obtain ⟨k, hk, rfl, HW⟩ := hrel
    by_cases hlt : k < n
    · have hlt' : k < Bs.length := by have := HN.out; omega
      obtain ⟨vs, lo, hws⟩ := HW.out
      have HWs : Hid (WsAt w wr n k Bs vs lo) := hws
      have hbt := H.out wr hws.bel
      obtain ⟨b, off, rfl, c0, c1, c2, c3⟩ := TxsAt.get hbt.at_ k hlt'
      have HO : Hid (BxOK wr (bd Bs k)) := hbt.lst k hlt'
      have hw : (bd Bs k).t.writes.length ≤ 100000 := (HS.out.2 _ (bd_mem hlt')).2.2
      have HP : Hid (∀ (W : World) base v, WsAt w W n k Bs vs lo → lo k ≤ base → OwnK W base v (bd Bs k).t.writes → ∃ vs lo, WsAt w (W.setCell ⟨w.heap.size, k, none⟩ v) n (k + 1) Bs vs lo) := fun W base v h1 h2 h3 => ⟨_, _, h1.put hlt h2 h3⟩
      clear hws hbt HW
      generalize bd Bs k = x at *
      obtain ⟨⟨proc, args, reads, writes⟩, aA, cA, aR, cR, aW, cW⟩ := x
      simp only at c0 c1 c2 c3 hw
      generalize args.length = na at *
      generalize reads.length = nr at *
      obtain ⟨nw, hnw⟩ : ∃ nw, nw = writes.length := ⟨_, rfl⟩
      rw [← hnw] at c3 hw
      have HNw : Hid (nw = writes.length) := hnw
      clear hnw
      have HB1 : Hid (Below wr.heap.size wr (wr.alloc (.cells #[.int .i64 proc, .slice aA na cA, .slice aR nr cR, .slice aW nw cW] 46))) := (Below.refl _ _).alloc (Nat.le_refl _) _
      have HW1 : Hid (WsAt w (wr.alloc (.cells #[.int .i64 proc, .slice aA na cA, .slice aR nr cR, .slice aW nw cW] 46)) n k Bs vs lo) := HWs.out.kept HB1.out
      have HK1 : Hid (KeysAt (wr.alloc (.cells #[.int .i64 proc, .slice aA na cA, .slice aR nr cR, .slice aW nw cW] 46)) aW writes ∧ (aW = none → cW = 0)) := ⟨(HO.out.kept HB1.out).writes, HO.out.nilW⟩
      have HLk : Hid (lo k ≤ (wr.alloc (.cells #[.int .i64 proc, .slice aA na cA, .slice aR nr cR, .slice aW nw cW] 46)).heap.size) := HW1.out.lok
      go_wp2_with fail
      refine (clone_kq _ aW nw cW writes HNw.out HK1.out.1 HK1.out.2 (by omega)).mono ?_
      rintro e w2 ⟨v, rfl, ho2, hb2⟩
      have HW2 : Hid (WsAt w w2 n k Bs vs lo) := HW1.out.kept hb2
      have HF : Hid (∃ vs lo, WsAt w (w2.setCell ⟨w.heap.size, k, none⟩ v) n (k + 1) Bs vs lo) := HP.out w2 _ v HW2.out HLk.out ho2
      have hfz := frozen_of_row w2 w.heap.size k _ _ HW2.out.row
      obtain ⟨av, cv, ev, _, _, _⟩ := ho2.slice
      rw [← HNw.out] at ev
      subst ev
      have hcl : ∃ u, w2.cell? ⟨w.heap.size, k, none⟩ = some u := by
        simp only [World.cell?, HW2.out.row]
        simp [hlt]
      obtain ⟨u, hcl⟩ := hcl
      clear ho2 hb2 HW1 HB1 HK1 HLk HP HWs c0 c1 c2 c3
      go_wp2_with fail
      go_roundw
      case rel => exact ⟨k + 1, by omega, by go_num, HF⟩
      case measure => simp [intOf]; omega
    · obtain rfl : k = n := by omega
      go_wp2
      go_ret
      exact ⟨rfl, HW.out⟩
end Go.Proofs.YtcaibgbhebldmaaGreat.Kk
/-
  THE WALKS OF isOp, takes, leaves, onward.
-/
namespace Go.Proofs.YtcaibgbhebldmaaGreat
open Go.RowKit Go.Sort

theorem isOp_any (w : World) (op : Int) :
    Calls Tryz.prog 82 #[.int .i64 op] w fun e w' => e = .returned (.bool (isOpB op)) ∧ w' = w := by
  have HE : Hid (∀ b : Bool, isOpB op = b → isOpB op = b) := fun b h => h
  go_enter Tryz.func82, Tryz.ntmps82
  by_cases h0 : 0 ≤ op
  · by_cases h1 : op < 37
    · go_wp2
      go_ret
      exact ⟨by rw [HE.out true (by simp [isOpB]; omega)]; rfl, rfl⟩
    · have h1' : decide (op < 37) = false := by simpa using h1
      go_wp2
      go_ret
      exact ⟨by rw [HE.out false (by simp [isOpB]; omega)]; rfl, rfl⟩
  · have h0' : decide (0 ≤ op) = false := by simpa using h0
    go_wp2
    go_ret
    exact ⟨by rw [HE.out false (by simp [isOpB]; omega)]; rfl, rfl⟩

set_option maxHeartbeats 2000000 in
theorem takes_any (w : World) (op : Int) (h : isOpB op = true) :
    Calls Tryz.prog 85 #[.int .i64 op] w fun e w' => e = .returned (.int .i64 (takesN op)) ∧ w' = w := by
  rcases op_cases h with rfl | rfl | rfl | rfl | rfl | rfl | rfl | rfl | rfl | rfl | rfl | rfl | rfl | rfl | rfl | rfl | rfl | rfl | rfl | rfl | rfl | rfl | rfl | rfl | rfl | rfl | rfl | rfl | rfl | rfl | rfl | rfl | rfl | rfl | rfl | rfl | rfl <;> clear h <;>
  (go_enter Tryz.func85, Tryz.ntmps85
   go_wp2
   go_ret
   exact ⟨rfl, rfl⟩)

set_option maxHeartbeats 2000000 in
theorem leaves_any (w : World) (op : Int) (h : isOpB op = true) :
    Calls Tryz.prog 86 #[.int .i64 op] w fun e w' => e = .returned (.int .i64 (leavesN op)) ∧ w' = w := by
  rcases op_cases h with rfl | rfl | rfl | rfl | rfl | rfl | rfl | rfl | rfl | rfl | rfl | rfl | rfl | rfl | rfl | rfl | rfl | rfl | rfl | rfl | rfl | rfl | rfl | rfl | rfl | rfl | rfl | rfl | rfl | rfl | rfl | rfl | rfl | rfl | rfl | rfl | rfl <;> clear h <;>
  (go_enter Tryz.func86, Tryz.ntmps86
   go_wp2
   go_ret
   exact ⟨rfl, rfl⟩)

end Go.Proofs.YtcaibgbhebldmaaGreat
