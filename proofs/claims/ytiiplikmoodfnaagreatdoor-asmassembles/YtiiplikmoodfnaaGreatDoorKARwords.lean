import Derived.Test.YtiiplikmoodfnaaGreatDoorKARd
import Derived.Test.YtiiplikmoodfnaaGreatDoorKASplit
/-
  THE WALK OF THE DOCUMENT's words.
-/
namespace Go.Proofs.YtiiplikmoodfnaaGreatDoor
open Go.RowKit Go.Sort

theorem info_rword : (Tryz.prog.info? 79).map (fun i => (i.zero, i.size, i.bytes)) = some (some (.agg #[.string ⟨#[]⟩, .int .i64 0]), 2, 24) := by kernel_rfl
theorem blank_any (w : World) (c : Int) : Calls Tryz.prog 33 #[.int .u8 c] w fun e w' => e = .returned (.bool (decide (c = 32) || decide (c = 9) || decide (c = 13))) ∧ w' = w := by
  go_enter Tryz.func33, Tryz.ntmps33
  by_cases h1 : c = 32
  · subst h1
    go_wp2
    go_ret
    exact ⟨rfl, rfl⟩
  by_cases h2 : c = 9
  · subst h2
    go_wp2
    go_ret
    exact ⟨rfl, rfl⟩
  by_cases h3 : c = 13
  · subst h3
    go_wp2
    go_ret
    exact ⟨rfl, rfl⟩
  have HE : Hid ((decide (c = 32) || decide (c = 9) || decide (c = 13)) = false) := by rw [Hid, decide_eq_false h1, decide_eq_false h2, decide_eq_false h3]; rfl
  have b1 : (c == 32) = false := by simp [h1]
  have b2 : (c == 9) = false := by simp [h2]
  have b3 : (c == 13) = false := by simp [h3]
  clear h1 h2 h3
  go_wp2
  go_ret
  exact ⟨by rw [HE.out]; rfl, rfl⟩
theorem rwE_len (l : List UInt8) (s : List Wd × Option Nat) (k : Nat) : (rwE l s k).length ≤ s.1.length + 1 := by
  unfold rwE
  split
  · omega
  · simp
theorem rwAt_len (l : List UInt8) : ∀ k, (rwAt l k).1.length ≤ k
  | 0 => Nat.le_refl _
  | k + 1 => by
    have ih := rwAt_len l k
    have h2 := rwE_len l (rwAt l k) k
    unfold rwAt
    split
    · show (rwE l (rwAt l k) k).length ≤ _
      omega
    · split
      · show (rwAt l k).1.length ≤ _; omega
      · show (rwAt l k).1.length ≤ _; omega
def frmV : Option Nat → Int
  | none => -1
  | some f => (f : Int)
/-- what stands in the loop -/
structure RW (w wr : World) (v : Value) (ws : List Wd) : Prop where
  own : wr.ownsRow w.heap.size 79 2 v ws.length (wcs ws)
  bel : Go.RowKit.Below w.heap.size w wr
def WordsPost (w : World) (l : List UInt8) (e : Ending) (w' : World) : Prop := ∃ v, e = .returned v ∧ RW w w' v (wordsN l)
set_option maxRecDepth 100000 in
set_option maxHeartbeats 2000000 in
theorem words_any (w : World) (l : List UInt8) (hl : l.length ≤ 65536) : Calls Tryz.prog 18 #[.string (S l)] w fun e w' => WordsPost w l e w' := by
  obtain ⟨i0, ii, iz0, iz1, iz2⟩ := info_parts info_rword
  have hsz : (S l).size = l.length := S_size l
  have HCh : Hid (∀ k, chs (S l) k = ((l.getD k 0).toNat : Int)) := fun k => by unfold chs; rw [S_data]
  have HPc : Hid (∀ f t, (S l).extract f t = S (pieceL l f t)) := fun f t => S_piece l f t
  have hhl := hashN_le l
  obtain ⟨hN, hhN⟩ : ∃ hN, hN = hashN l := ⟨_, rfl⟩
  have HH := hidA hhN
  rw [← hhN] at hhl
  clear hhN
  obtain ⟨s, hs⟩ : ∃ s, s = S l := ⟨_, rfl⟩
  rw [← hs] at hsz HCh HPc ⊢
  clear hs
  obtain ⟨n, hn⟩ : ∃ n, n = l.length := ⟨_, rfl⟩
  rw [← hn] at hl hsz hhl
  have HNn := hidA hn
  clear hn
  go_enter Tryz.func18, Tryz.ntmps18
  go_wp2_with fail
  go_loopw [3, 4, 5] (fun v x y wr => ∃ (k ln c : Nat) (a : Option Addr), k ≤ hN ∧ v = .slice a ln c ∧ x = .int .i64 (frmV (rwAt l k).2) ∧ y = .int .i64 (k : Int) ∧ Hid (RW w wr (.slice a ln c) (rwAt l k).1)) (fun _ _ y _ => n + 1 - (intOf y).toNat)
  case atStart => exact ⟨0, 0, 0, none, Nat.zero_le _, rfl, rfl, rfl, ⟨World.ownsRow_nil _ _ _ _, Go.RowKit.Below.refl _ _⟩⟩
  case round =>
    obtain ⟨k, ln, c, a, hk, rfl, rfl, rfl, HR⟩ := hrel
    have HLn : Hid (ln = (rwAt l k).1.length) := by
      obtain ⟨a', c', e, _⟩ := own_slice HR.out.own
      injection e
    have hwl := rwAt_len l k
    have hflt := rwAt_lt l k
    obtain ⟨ws, hws⟩ : ∃ ws, ws = (rwAt l k).1 := ⟨_, rfl⟩
    rw [← hws] at HR HLn hwl
    have HWs := hidA hws
    clear hws
    have hln : ln ≤ 65536 := by have := HLn.out; omega
    by_cases hlt : k < hN
    · have hkn : k < s.size := by omega
      have HC := chs_at s k hkn
      have n35 : chs s k ≠ 35 := by
        rw [HCh.out k]
        intro e
        have e2 : (l.getD k 0).toNat = 35 := by omega
        exact hashN_bef l k (by rw [← HH.out]; exact hlt) (UInt8.toNat_inj.1 e2)
      have HB : Hid (∀ W', Calls Tryz.prog 33 #[.int .u8 (chs s k)] W' fun e w' => e = .returned (.bool (isBlN (l.getD k 0).toNat)) ∧ w' = W') := fun W' => by
        have h := blank_any W' (chs s k)
        have e : (decide (chs s k = 32) || decide (chs s k = 9) || decide (chs s k = 13)) = isBlN (l.getD k 0).toNat := by
          rw [HCh.out k]
          unfold isBlN
          congr 1
          · congr 1
            · exact decide_eq_decide.2 (by omega)
            · exact decide_eq_decide.2 (by omega)
          · exact decide_eq_decide.2 (by omega)
        rw [e] at h
        exact h
      have HT : Hid (rwAt l (k + 1) = if isBlN (l.getD k 0).toNat = true then (rwE l (rwAt l k) k, none) else match (rwAt l k).2 with
          | none => ((rwAt l k).1, some k)
          | some f => ((rwAt l k).1, some f)) := by
        show rwAt l (k + 1) = _
        rfl
      have hkn' : ¬ k = n := by omega
      generalize chs s k = ci at *
      have b35 : (ci == 35) = false := by simp [n35]
      have hkb : ((k : Int) == (n : Int)) = false := by simp; omega
      clear n35
      generalize isBlN (l.getD k 0).toNat = bl at *
      cases hf : (rwAt l k).2 with
      | none =>
        have hfv : frmV none = -1 := rfl
        cases bl with
        | true =>
          have HN : Hid (rwAt l (k + 1) = (ws, none)) := by rw [Hid, HT.out, if_pos rfl]; unfold rwE; rw [hf, ← HWs.out]
          clear HT HWs hflt
          go_wp2_with (first | (go_at_call 33; refine (HB.out _).mono ?_; rintro e w9 ⟨rfl, hwq⟩; have hwq' := hwq.symm; subst hwq'; clear hwq) | fail)
          go_roundw
          case rel => exact ⟨k + 1, ln, c, a, by omega, rfl, by rw [HN.out]; rfl, by go_num, by rw [HN.out]; exact HR⟩
          case measure => simp [intOf]; omega
        | false =>
          have HN : Hid (rwAt l (k + 1) = (ws, some k)) := by rw [Hid, HT.out, if_neg (by simp), hf, ← HWs.out]
          clear HT HWs hflt
          go_wp2_with (first | (go_at_call 33; refine (HB.out _).mono ?_; rintro e w9 ⟨rfl, hwq⟩; have hwq' := hwq.symm; subst hwq'; clear hwq) | fail)
          go_roundw
          case rel => exact ⟨k + 1, ln, c, a, by omega, rfl, by rw [HN.out]; rfl, by go_num, by rw [HN.out]; exact HR⟩
          case measure => simp [intOf]; omega
      | some f =>
        have hfk : f < k := hflt f hf
        have hfv : frmV (some f) = (f : Int) := rfl
        have HOw : Hid (wr.ownsRow w.heap.size 79 2 (.slice a ln c) ln (wcs ws)) := by rw [Hid, HLn.out]; exact (by have := HR.out.own; rw [← HLn.out]; rw [← HLn.out] at this; exact this)
        cases bl with
        | true =>
          have HN : Hid (rwAt l (k + 1) = (ws ++ [(pieceL l f k, f + 1)], none)) := by rw [Hid, HT.out, if_pos rfl]; unfold rwE; rw [hf, ← HWs.out]
          have hsl := HPc.out f k
          clear HT HWs hflt
          go_wp2_with (first | (go_at_call 33; refine (HB.out _).mono ?_; rintro e w9 ⟨rfl, hwq⟩; have hwq' := hwq.symm; subst hwq'; clear hwq) | (at_builtin; refine wpList_append_gen rfl _ _ 47 79 i0 (.agg #[.string ⟨#[]⟩, .int .i64 0]) 2 24 Tryz.underlying47 ii iz0 iz1 iz2 rfl (by decide) rfl w.heap.size (.slice a ln c) ln (wcs ws) rfl (World.ownsRow.alloc HOw.out _) ⟨wr.heap.size, 0, none⟩ 1 1 [.string (S (pieceL l f k)), .int .i64 ((f : Int) + 1)] rfl rfl (src_at wr _ _) (by intro u hu; simp at hu; rcases hu with rfl | rfl <;> rfl) (by unfold maxLen; omega) (by omega) (Nat.le_trans HR.out.bel.size (bel_al _ _).size) ?_; intro v3 w3 h1 h2) | fail)
          have HR3 : RW w w3 v3 (ws ++ [(pieceL l f k, f + 1)]) := by
            refine ⟨?_, ?_⟩
            · rw [List.length_append, wcs_app, ← HLn.out]
              exact h1
            · exact (HR.out.bel.trans ((bel_al _ _).mono HR.out.bel.size)).trans (below_grown h2 (fun q hq => (HOw.out.lt q hq).1) (Nat.le_trans HR.out.bel.size (bel_al _ _).size))
          obtain ⟨a3, c3, hv3, _⟩ := own_slice HR3.own
          obtain ⟨l3, hl3⟩ : ∃ l3, l3 = (ws ++ [(pieceL l f k, f + 1)]).length := ⟨_, rfl⟩
          rw [← hl3] at hv3
          subst hv3
          have HR3' := hidA HR3
          clear HR3 hl3 h1 h2 hsl
          go_wp2_with fail
          go_roundw
          case rel => exact ⟨k + 1, l3, c3, a3, by omega, rfl, by rw [HN.out]; rfl, by go_num, by rw [HN.out]; exact HR3'⟩
          case measure => simp [intOf]; omega
        | false =>
          have HN : Hid (rwAt l (k + 1) = (ws, some f)) := by rw [Hid, HT.out, if_neg (by simp), hf, ← HWs.out]
          clear HT HWs hflt
          go_wp2_with (first | (go_at_call 33; refine (HB.out _).mono ?_; rintro e w9 ⟨rfl, hwq⟩; have hwq' := hwq.symm; subst hwq'; clear hwq) | fail)
          go_roundw
          case rel => exact ⟨k + 1, ln, c, a, by omega, rfl, by rw [HN.out]; rfl, by go_num, by rw [HN.out]; exact HR⟩
          case measure => simp [intOf]; omega
    · obtain rfl : k = hN := by omega
      have HWo : Hid (wordsN l = rwE l (rwAt l k) k) := by rw [Hid]; unfold wordsN; rw [← HH.out]
      have hend : k = n ∨ (k < n ∧ chs s k = 35) := by
        by_cases e : k = n
        · exact .inl e
        · refine .inr ⟨by omega, ?_⟩
          rw [HCh.out k]
          have := hashN_at l (by rw [← HH.out, ← HNn.out]; omega)
          rw [← HH.out] at this
          rw [this]
          rfl
      cases hf : (rwAt l k).2 with
      | none =>
        have hfv : frmV none = -1 := rfl
        have HX : Hid (WordsPost w l (.returned (.slice a ln c)) wr) := ⟨_, rfl, by rw [HWo.out]; unfold rwE; rw [hf, ← HWs.out]; exact HR.out⟩
        clear HWo HWs hflt HR
        rcases hend with hkn | ⟨hkn, h35⟩
        · have hkb : ((k : Int) == (n : Int)) = true := by simp; omega
          go_wp2_with fail
          go_ret
          exact HX.out
        · have hkb : ((k : Int) == (n : Int)) = false := by simp; omega
          have HC := chs_at s k (by omega)
          rw [h35] at HC
          go_wp2_with fail
          go_ret
          exact HX.out
      | some f =>
        have hfv : frmV (some f) = (f : Int) := rfl
        have hfk : f < k := hflt f hf
        have HOw : Hid (wr.ownsRow w.heap.size 79 2 (.slice a ln c) ln (wcs ws)) := by rw [Hid, HLn.out]; exact (by have := HR.out.own; rw [← HLn.out]; rw [← HLn.out] at this; exact this)
        have hsl := HPc.out f k
        have HWo2 : Hid (wordsN l = ws ++ [(pieceL l f k, f + 1)]) := by rw [Hid, HWo.out]; unfold rwE; rw [hf, ← HWs.out]
        clear HWo HWs hflt
        rcases hend with hkn | ⟨hkn, h35⟩
        · have hkb : ((k : Int) == (n : Int)) = true := by simp; omega
          have hkn2 : k ≤ n := by omega
          clear hkn
          go_wp2_with (first | (at_builtin; refine wpList_append_gen rfl _ _ 47 79 i0 (.agg #[.string ⟨#[]⟩, .int .i64 0]) 2 24 Tryz.underlying47 ii iz0 iz1 iz2 rfl (by decide) rfl w.heap.size (.slice a ln c) ln (wcs ws) rfl (World.ownsRow.alloc HOw.out _) ⟨wr.heap.size, 0, none⟩ 1 1 [.string (S (pieceL l f k)), .int .i64 ((f : Int) + 1)] rfl rfl (src_at wr _ _) (by intro u hu; simp at hu; rcases hu with rfl | rfl <;> rfl) (by unfold maxLen; omega) (by omega) (Nat.le_trans HR.out.bel.size (bel_al _ _).size) ?_; intro v3 w3 h1 h2) | fail)
          have HX : Hid (WordsPost w l (.returned v3) w3) := by
            refine ⟨v3, rfl, ?_⟩
            rw [HWo2.out]
            refine ⟨?_, ?_⟩
            · rw [List.length_append, wcs_app, ← HLn.out]
              exact h1
            · exact (HR.out.bel.trans ((bel_al _ _).mono HR.out.bel.size)).trans (below_grown h2 (fun q hq => (HOw.out.lt q hq).1) (Nat.le_trans HR.out.bel.size (bel_al _ _).size))
          clear h1 h2 hsl HOw HR
          go_wp2_with fail
          go_ret
          exact HX.out
        · have hkb : ((k : Int) == (n : Int)) = false := by simp; omega
          have HC := chs_at s k (by omega)
          rw [h35] at HC
          go_wp2_with (first | (at_builtin; refine wpList_append_gen rfl _ _ 47 79 i0 (.agg #[.string ⟨#[]⟩, .int .i64 0]) 2 24 Tryz.underlying47 ii iz0 iz1 iz2 rfl (by decide) rfl w.heap.size (.slice a ln c) ln (wcs ws) rfl (World.ownsRow.alloc HOw.out _) ⟨wr.heap.size, 0, none⟩ 1 1 [.string (S (pieceL l f k)), .int .i64 ((f : Int) + 1)] rfl rfl (src_at wr _ _) (by intro u hu; simp at hu; rcases hu with rfl | rfl <;> rfl) (by unfold maxLen; omega) (by omega) (Nat.le_trans HR.out.bel.size (bel_al _ _).size) ?_; intro v3 w3 h1 h2) | fail)
          have HX : Hid (WordsPost w l (.returned v3) w3) := by
            refine ⟨v3, rfl, ?_⟩
            rw [HWo2.out]
            refine ⟨?_, ?_⟩
            · rw [List.length_append, wcs_app, ← HLn.out]
              exact h1
            · exact (HR.out.bel.trans ((bel_al _ _).mono HR.out.bel.size)).trans (below_grown h2 (fun q hq => (HOw.out.lt q hq).1) (Nat.le_trans HR.out.bel.size (bel_al _ _).size))
          clear h1 h2 hsl HOw HR
          go_wp2_with fail
          go_ret
          exact HX.out
end Go.Proofs.YtiiplikmoodfnaaGreatDoor
/-
  THE WALK OF THE DOCUMENT's cut.
-/
namespace Go.Proofs.YtiiplikmoodfnaaGreatDoor
open Go.RowKit Go.Sort

theorem info_rwords : (Tryz.prog.info? 47).map (fun i => (i.zero, i.size, i.bytes)) = some (some (.slice none 0 0), 1, 24) := by kernel_rfl
/-- lines in memory: a row of rows -/
def CTv (w wr : World) (v : Value) (ls : List (List Wd)) (vals : List Value) : Prop := wr.ownsRow w.heap.size 47 1 v ls.length vals ∧ vals.length = ls.length ∧ (∀ u ∈ vals, u.oneCell' = true) ∧ ∀ (i : Nat) (u : Value) (ws : List Wd), vals[i]? = some u → ls[i]? = some ws → wr.ownsRow w.heap.size 79 2 u ws.length (wcs ws)
structure CT (w wr : World) (v : Value) (ls : List (List Wd)) : Prop where
  ex : ∃ vals, CTv w wr v ls vals
  bel : Go.RowKit.Below w.heap.size w wr
theorem CTv.kept {w wr wr' : World} {v : Value} {ls : List (List Wd)} {vals : List Value} (h : CTv w wr v ls vals) (hb : Go.RowKit.Below wr.heap.size wr wr') : CTv w wr' v ls vals :=
  ⟨ownsRow_same h.1 (fun g hg => hb.block g (World.ownsRow.lt h.1 g hg).2), h.2.1, h.2.2.1, fun i u ws h1 h2 => ownsRow_same (h.2.2.2 i u ws h1 h2) (fun g hg => hb.block g (World.ownsRow.lt (h.2.2.2 i u ws h1 h2) g hg).2)⟩
theorem CTv.app {w wr w' : World} {v v' vw : Value} {ls : List (List Wd)} {vals : List Value} {ws : List Wd} (h : CTv w wr v ls vals) (hv : vw.oneCell' = true) (hw : wr.ownsRow w.heap.size 79 2 vw ws.length (wcs ws)) (h1 : w'.ownsRow w.heap.size 47 1 v' (ls.length + 1) (vals ++ [vw])) (h2 : wr.grownBy w' v.ownBlock) : CTv w w' v' (ls ++ [ws]) (vals ++ [vw]) := by
  have hk : ∀ {u : Value} {xs : List Wd}, wr.ownsRow w.heap.size 79 2 u xs.length (wcs xs) → w'.ownsRow w.heap.size 79 2 u xs.length (wcs xs) := fun hl => ownsRow_same hl (fun g hg => h2.block g (World.ownsRow.lt hl g hg).2 (fun e => own_apart hl h.1 (by decide) hg e.symm))
  refine ⟨by rw [List.length_append]; exact h1, by rw [List.length_append, List.length_append, h.2.1]; rfl, fun u hu => ?_, fun i u xs hi hj => ?_⟩
  · rcases List.mem_append.1 hu with hu | hu
    · exact h.2.2.1 u hu
    · simp only [List.mem_singleton] at hu
      rw [hu]
      exact hv
  · by_cases hlt : i < ls.length
    · rw [List.getElem?_append_left (by rw [h.2.1]; exact hlt)] at hi
      rw [List.getElem?_append_left hlt] at hj
      exact hk (h.2.2.2 i u xs hi hj)
    · rw [List.getElem?_append_right (by omega)] at hj
      rw [List.getElem?_append_right (by rw [h.2.1]; omega), h.2.1] at hi
      have hi0 : i - ls.length = 0 := by
        rcases Nat.eq_zero_or_pos (i - ls.length) with h0 | h0
        · exact h0
        · rw [List.getElem?_eq_none (by simp; omega)] at hj; cases hj
      rw [hi0] at hi hj
      simp only [List.getElem?_cons_zero, Option.some.injEq] at hi hj
      subst hi hj
      exact hk hw
theorem ctAt_len (l : List UInt8) : ∀ k, (ctAt l k).1.length ≤ k
  | 0 => Nat.le_refl _
  | k + 1 => by
    have := ctAt_len l k
    unfold ctAt
    split
    · simp; omega
    · omega
def CutPost (w : World) (l : List UInt8) (e : Ending) (w' : World) : Prop := ∃ v, e = .returned v ∧ CT w w' v (cutN l)
set_option maxRecDepth 100000 in
set_option maxHeartbeats 2000000 in
theorem cut_any (w : World) (l : List UInt8) (hl : l.length ≤ 65536) : Calls Tryz.prog 9 #[.string (S l)] w fun e w' => CutPost w l e w' := by
  obtain ⟨i0, ii, iz0, iz1, iz2⟩ := info_parts info_rwords
  have hsz : (S l).size = l.length := S_size l
  have HCh : Hid (∀ k, chs (S l) k = ((l.getD k 0).toNat : Int)) := fun k => by unfold chs; rw [S_data]
  have HPc : Hid (∀ f t, (S l).extract f t = S (pieceL l f t)) := fun f t => S_piece l f t
  have HWd : Hid (∀ W' f k, Calls Tryz.prog 18 #[.string (S (pieceL l f k))] W' fun e w' => WordsPost W' (pieceL l f k) e w') := fun W' f k => words_any W' _ (by have := pieceL_le l f k; omega)
  obtain ⟨s, hs⟩ : ∃ s, s = S l := ⟨_, rfl⟩
  rw [← hs] at hsz HCh HPc ⊢
  clear hs
  obtain ⟨n, hn⟩ : ∃ n, n = l.length := ⟨_, rfl⟩
  rw [← hn] at hl hsz
  have HNn := hidA hn
  clear hn
  go_enter Tryz.func9, Tryz.ntmps9
  go_wp2_with fail
  go_loopw [3, 4, 5] (fun v x y wr => ∃ (k ln c f : Nat) (a : Option Addr), k ≤ n ∧ f ≤ k ∧ v = .slice a ln c ∧ x = .int .i64 (f : Int) ∧ y = .int .i64 (k : Int) ∧ Hid (f = (ctAt l k).2) ∧ Hid (CT w wr (.slice a ln c) (ctAt l k).1)) (fun _ _ y _ => n - (intOf y).toNat)
  case atStart => exact ⟨0, 0, 0, 0, none, Nat.zero_le _, Nat.le_refl _, rfl, rfl, rfl, rfl, ⟨⟨[], World.ownsRow_nil _ _ _ _, rfl, fun u hu => (by cases hu), fun i u ws h => (by simp at h)⟩, Go.RowKit.Below.refl _ _⟩⟩
  case round =>
    obtain ⟨k, ln, c, f, a, hk, hfk, rfl, rfl, rfl, HF, HT⟩ := hrel
    have hcl := ctAt_len l k
    by_cases hlt : k < n
    · have HC := chs_at s k (by omega)
      have HSt : Hid (ctAt l (k + 1) = if l.getD k 0 = 10 then ((ctAt l k).1 ++ [wordsN (pieceL l (ctAt l k).2 k)], k + 1) else ctAt l k) := by rw [Hid, ctAt]
      have HCk := HCh.out k
      have HCk' := hidA HCk
      clear HCk
      generalize chs s k = ci at *
      by_cases h10 : ci = 10
      · have HN : Hid (ctAt l (k + 1) = ((ctAt l k).1 ++ [wordsN (pieceL l f k)], k + 1)) := by
          have e : l.getD k 0 = 10 := UInt8.toNat_inj.1 (show (l.getD k 0).toNat = 10 by have := HCk'.out; omega)
          rw [Hid, HSt.out, if_pos e, HF.out]
        subst h10
        have hsl := HPc.out f k
        have HW1 := hidA (HWd.out wr f k)
        clear HSt HCk' HF
        go_wp2_with fail
        refine HW1.out.mono ?_
        rintro e w3 ⟨v3, rfl, hr3⟩
        obtain ⟨vals, hCv⟩ := HT.out.ex
        have HCv := hidA (hCv.kept hr3.bel)
        have HB3 : Hid (Go.RowKit.Below w.heap.size w w3) := HT.out.bel.trans (hr3.bel.mono HT.out.bel.size)
        have HR3 : Hid (w3.ownsRow w.heap.size 79 2 v3 (wordsN (pieceL l f k)).length (wcs (wordsN (pieceL l f k)))) := ownsRow_mono hr3.own HT.out.bel.size
        obtain ⟨a3, c3, hv3, _⟩ := own_slice hr3.own
        obtain ⟨l3, hl3⟩ : ∃ l3, l3 = (wordsN (pieceL l f k)).length := ⟨_, rfl⟩
        rw [← hl3] at hv3
        subst hv3
        obtain ⟨a1, c1, hv1, _⟩ := own_slice HCv.out.1
        have HLn : Hid (ln = (ctAt l k).1.length) := by injection hv1
        have HOw : Hid (w3.ownsRow w.heap.size 47 1 (.slice a ln c) ln vals) := by
          have := HCv.out.1
          rw [← HLn.out] at this
          exact this
        have hln : ln ≤ 65536 := by have := HLn.out; omega
        clear hl3 hr3 hCv hv1 HW1
        go_wp2_with (first
          | (at_builtin; refine wpList_append_gen rfl _ _ 36 47 i0 (.slice none 0 0) 1 24 Tryz.underlying36 ii iz0 iz1 iz2 rfl (by decide) rfl w.heap.size (.slice a ln c) ln vals rfl (World.ownsRow.alloc HOw.out _) ⟨w3.heap.size, 0, none⟩ 1 1 [.slice a3 l3 c3] rfl rfl (src_at w3 _ _) (by intro u hu; simp at hu; rw [hu]; rfl) (by unfold maxLen; omega) (by omega) (Nat.le_trans HB3.out.size (bel_al _ _).size) ?_; intro v5 w5 h1 h2)
          | fail)
        have HT5 : Hid (CT w w5 v5 ((ctAt l k).1 ++ [wordsN (pieceL l f k)])) := ⟨⟨_, (HCv.out.kept (bel_al _ _)).app rfl (World.ownsRow.alloc HR3.out _) (by rw [← HLn.out]; exact h1) h2⟩, (HB3.out.trans ((bel_al _ _).mono HB3.out.size)).trans (below_grown h2 (fun q hq => (World.ownsRow.lt HOw.out q hq).1) (Nat.le_trans HB3.out.size (bel_al _ _).size))⟩
        obtain ⟨vals5, hC5⟩ := HT5.out.ex
        obtain ⟨a5, c5, hv5, _⟩ := own_slice hC5.1
        obtain ⟨l5, hl5⟩ : ∃ l5, l5 = ((ctAt l k).1 ++ [wordsN (pieceL l f k)]).length := ⟨_, rfl⟩
        rw [← hl5] at hv5
        subst hv5
        clear hl5 hC5 h1 h2 HOw HCv HR3 HLn hln HB3
        go_wp2_with fail
        go_roundw
        case rel => exact ⟨k + 1, l5, c5, k + 1, a5, by omega, Nat.le_refl _, rfl, by go_num, by go_num, by rw [HN.out]; rfl, by rw [HN.out]; exact HT5⟩
        case measure => simp [intOf]; omega
      · have HN : Hid (ctAt l (k + 1) = ctAt l k) := by
          rw [Hid, HSt.out, if_neg (fun e => h10 (by rw [HCk'.out, e]; rfl))]
        have b10 : (ci == 10) = false := by simp [h10]
        clear HSt HCk' h10
        go_wp2_with fail
        go_roundw
        case rel => exact ⟨k + 1, ln, c, f, a, by omega, by omega, rfl, rfl, by go_num, by rw [HN.out]; exact HF, by rw [HN.out]; exact HT⟩
        case measure => simp [intOf]; omega
    · obtain rfl : k = n := by omega
      by_cases hf : f < k
      · have HCt : Hid (cutN l = (ctAt l k).1 ++ [wordsN (pieceL l f k)]) := by rw [Hid]; unfold cutN; rw [← HNn.out, ← HF.out, if_pos hf]
        have hsl := HPc.out f k
        have HW1 := hidA (HWd.out wr f k)
        clear HF
        go_wp2_with fail
        refine HW1.out.mono ?_
        rintro e w3 ⟨v3, rfl, hr3⟩
        obtain ⟨vals, hCv⟩ := HT.out.ex
        have HCv := hidA (hCv.kept hr3.bel)
        have HB3 : Hid (Go.RowKit.Below w.heap.size w w3) := HT.out.bel.trans (hr3.bel.mono HT.out.bel.size)
        have HR3 : Hid (w3.ownsRow w.heap.size 79 2 v3 (wordsN (pieceL l f k)).length (wcs (wordsN (pieceL l f k)))) := ownsRow_mono hr3.own HT.out.bel.size
        obtain ⟨a3, c3, hv3, _⟩ := own_slice hr3.own
        obtain ⟨l3, hl3⟩ : ∃ l3, l3 = (wordsN (pieceL l f k)).length := ⟨_, rfl⟩
        rw [← hl3] at hv3
        subst hv3
        obtain ⟨a1, c1, hv1, _⟩ := own_slice HCv.out.1
        have HLn : Hid (ln = (ctAt l k).1.length) := by injection hv1
        have HOw : Hid (w3.ownsRow w.heap.size 47 1 (.slice a ln c) ln vals) := by
          have := HCv.out.1
          rw [← HLn.out] at this
          exact this
        have hln : ln ≤ 65536 := by have := HLn.out; omega
        clear hl3 hr3 hCv hv1 HW1
        go_wp2_with (first
          | (at_builtin; refine wpList_append_gen rfl _ _ 36 47 i0 (.slice none 0 0) 1 24 Tryz.underlying36 ii iz0 iz1 iz2 rfl (by decide) rfl w.heap.size (.slice a ln c) ln vals rfl (World.ownsRow.alloc HOw.out _) ⟨w3.heap.size, 0, none⟩ 1 1 [.slice a3 l3 c3] rfl rfl (src_at w3 _ _) (by intro u hu; simp at hu; rw [hu]; rfl) (by unfold maxLen; omega) (by omega) (Nat.le_trans HB3.out.size (bel_al _ _).size) ?_; intro v5 w5 h1 h2)
          | fail)
        have HX : Hid (CutPost w l (.returned v5) w5) := ⟨v5, rfl, by rw [HCt.out]; exact ⟨⟨_, (HCv.out.kept (bel_al _ _)).app rfl (World.ownsRow.alloc HR3.out _) (by rw [← HLn.out]; exact h1) h2⟩, (HB3.out.trans ((bel_al _ _).mono HB3.out.size)).trans (below_grown h2 (fun q hq => (World.ownsRow.lt HOw.out q hq).1) (Nat.le_trans HB3.out.size (bel_al _ _).size))⟩⟩
        clear h1 h2 HOw HCv HR3 HLn hln HB3 HCt
        go_wp2_with fail
        go_ret
        exact HX.out
      · have HX : Hid (CutPost w l (.returned (.slice a ln c)) wr) := ⟨_, rfl, by unfold cutN; rw [← HNn.out, ← HF.out, if_neg hf]; exact HT.out⟩
        clear HF HT
        go_wp2_with fail
        go_ret
        exact HX.out
end Go.Proofs.YtiiplikmoodfnaaGreatDoor
