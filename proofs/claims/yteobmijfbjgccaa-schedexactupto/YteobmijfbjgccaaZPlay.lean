/-
  A LINE: Clone, Play.
-/
import Derived.Test.YteobmijfbjgccaaZDrain
namespace Go.Proofs.Yteobmijfbjgccaa
open Go.RowKit Go.Sort

section
variable {w : World} {n : Nat} {cb ls : Nat → Nat} {B : Nat → List Int} {X : Nat → Prop} {lb : Nat} {ao : Option Addr} {nt tc : Nat} {ts : Nat → Int} {k : Nat}
set_option maxHeartbeats 1000000 in
theorem cloneZ_any (w : World) (po : Option Addr) (m c : Nat) (ps : List Int) (hm : m = ps.length) (hp : WAt w po (i64s ps)) (h0 : po = none → c = 0) (hb : m * 8 ≤ 140737488355328) :
    Calls Try.prog 44 #[.slice po m c] w fun e w' => ∃ ro rc, e = .returned (.slice ro m rc) ∧ OwZ w.heap.size 3 w' ro m rc (i64s ps) ∧ RowKit.Below w.heap.size w w' := by
  have q22 : ∀ (w : World) (a : Option Addr) (n c n' c' : Nat), (binOp .eql 23 (.slice a n c) (.slice none n' c')).run Try.prog w = .ok (.bool a.isNone) w := fun w a n c n' c' => Lib.run_eql_slice_nil w _ _ a n c n' c' Try.underlying23
  cases po with
  | none =>
    have hp0 : ps = [] := by
      cases ps with
      | nil => rfl
      | cons x ps => obtain ⟨_, _, e, _⟩ := hp 0 (.int .i64 x) rfl; cases e
    subst hp0
    obtain rfl : m = 0 := hm
    obtain rfl := h0 rfl
    clear hp h0 hb
    go_enter Try.func44, Try.ntmps44
    go_wp2
    go_ret
    exact ⟨none, 0, rfl, OwZ.nil _ _ _, Below.refl _ _⟩
  | some ad =>
    have HA : Hid (∀ ty, ∃ v' w', (Builtin.append_ #[23, 23] ty #[.slice (some ⟨w.heap.size, 0, none⟩) 0 0, .slice (some ad) m c]).run Try.prog (w.alloc (.cells #[] 3)) = .ok v' w' ∧ ∃ ro rc, v' = .slice ro m rc ∧ Hid (OwZ w.heap.size 3 w' ro m rc (i64s ps) ∧ RowKit.Below w.heap.size w w')) := fun ty => by
      have hb0 : RowKit.Below w.heap.size w (w.alloc (.cells #[] 3)) := (Below.refl _ _).alloc (Nat.le_refl _) _
      have ho0 : (w.alloc (.cells #[] 3)).ownsRow w.heap.size 3 1 (.slice (some ⟨w.heap.size, 0, none⟩) 0 0) 0 [] := World.ownsRow_made w #[] 0 (Nat.le_refl _) (Nat.zero_le _) (by simp)
      obtain ⟨v', w', hr, h2, h3, h4, _⟩ := app_at (TS := 23) (TE := 3) Try.underlying23 infoZI rfl (by omega) (w := w.alloc (.cells #[] 3)) ty w.heap.size _ 0 [] ho0 (some ad) m c (i64s ps) (by simp [i64s, hm]) (hp.below hb0) (by simp) (i64s_one ps) (by unfold maxLen; omega) (by omega) hb0.size
      rw [Nat.zero_add, List.nil_append] at h2
      obtain ⟨ro, rc, e⟩ : ∃ ro rc, v' = .slice ro m rc := by
        obtain ⟨_, ⟨e, e2⟩ | ⟨g, cap, cur, e, _⟩⟩ := h2
        · exact ⟨none, 0, by rw [e, e2]⟩
        · exact ⟨_, _, e⟩
      subst e
      exact ⟨_, w', hr, ro, rc, rfl, h2, hb0.trans ⟨h3.os, h3.tape, h3.output, h3.size, fun k hk => h3.block k (Nat.lt_of_lt_of_le hk hb0.size) (by simp [Value.ownBlock]; omega)⟩⟩
    clear hp h0 hm hb
    go_enter Try.func44, Try.ntmps44
    go_wp2_with (at_builtin; refine wpL_appZ rfl _ _ 23 rfl (.slice (some ⟨w.heap.size, 0, none⟩) 0 0) (.slice (some ad) m c) rfl rfl HA.out ?_; rintro v1 w1 ⟨ro, rc, rfl, HP⟩)
    go_ret
    exact ⟨ro, rc, rfl, HP.out.1, HP.out.2⟩
set_option maxHeartbeats 2000000 in
theorem play_any (h : SL w n cb ls B X lb ao nt tc ts k) (po : Option Addr) (m c : Nat) (ps : List Int) (hm : m = ps.length) (hp : WAt w po (i64s ps)) (h0 : po = none → c = 0) (hb : m * 8 ≤ 140737488355328) :
    Calls Try.prog 31 #[ptZ lb, .slice po m c] w fun e w' => DrPost w n cb B X lb ao nt tc ts k (plK B nt ts ps ls) (plL B nt ts ps ls) e w' := by
  have HH := hidW h
  have HC := hidW (cloneZ_any w po m c ps hm hp h0 hb)
  have HM := hidW hm
  have hxx : ∀ k', X k' → k' < w.heap.size := fun k' hk => h.ci.lt hk
  have HX : Hid (∀ j, X j ∨ j = lb → j < w.heap.size) := fun j hj => by
    rcases hj with hj | rfl
    · exact hxx j hj
    · exact blk_ltZ h.ln.ln
  have hmb : m ≤ 20000000000000 := by omega
  clear h hm hp h0 hb hxx
  go_enter Try.func31, Try.ntmps31
  go_wp2_with fail
  refine HC.out.mono ?_
  rintro e w1 ⟨ro, rc, rfl, ho, hbl⟩
  have HO := hidW ho
  have HS0 := hidW (HH.out.kept hbl)
  have HF0 : Hid (FrZ (fun j => X j ∨ j = lb) w w1) := FrZ.ofBelow hbl
  clear ho hbl HC HH
  go_wp2_with fail
  go_loopw [5, 7, 11] (fun x _ y wr => ∃ (i t : Nat) (lr : Nat → Nat), y = .int .i64 (i : Int) ∧ x = .int .i64 (t : Int) ∧ i ≤ m ∧ t ≤ i ∧ Hid (SL wr n cb lr B X lb ao nt tc ts (k + t)) ∧ Hid (FrZ (fun j => X j ∨ j = lb) w wr) ∧ Hid (WAt wr ro (i64s ps)) ∧ Hid (∀ g, ro = some g → w.heap.size ≤ g.block ∧ g.block < wr.heap.size) ∧ Hid (plL B nt ts (ps.drop i) lr = plL B nt ts ps ls ∧ t + plK B nt ts (ps.drop i) lr = plK B nt ts ps ls)) (fun _ _ y _ => m - (intOf y).toNat)
  case atStart => exact ⟨0, 0, ls, rfl, rfl, Nat.zero_le _, Nat.zero_le _, HS0, HF0, HO.out.at_, fun g hg => HO.out.lt g hg, rfl, by rw [Nat.zero_add, List.drop_zero]⟩
  case round =>
    clear HS0 HF0 HO
    obtain ⟨i, t, lr, rfl, rfl, hi, hti, HS, HF, HR, HG, HE⟩ := hrel
    by_cases hlt : i < m
    · have hil : i < ps.length := by have := HM.out; omega
      obtain ⟨g, off, rfl, e1⟩ := HR.out.int i hil
      have HD : Hid (ps.drop i = ps[i] :: ps.drop (i + 1)) := List.drop_eq_getElem_cons hil
      generalize ps[i] = x at *
      have HT := hidW (take_any HS.out x)
      have HFin : Hid (∀ e w3, TkPost wr n cb lr B X lb ao nt tc ts (k + t) (tkP lr B nt ts x) e w3 → e = .returned (.int .i64 (tkA (tkP lr B nt ts x))) ∧ Hid (SL w3 n cb (tkL lr ts (tkP lr B nt ts x)) B X lb ao nt tc ts (k + (t + tkK (tkP lr B nt ts x)))) ∧ Hid (FrZ (fun j => X j ∨ j = lb) w w3) ∧ Hid (WAt w3 (some ⟨g, off, none⟩) (i64s ps)) ∧ Hid (∀ g' : Addr, (some ⟨g, off, none⟩ : Option Addr) = some g' → w.heap.size ≤ g'.block ∧ g'.block < w3.heap.size) ∧ Hid (plL B nt ts (ps.drop (i + 1)) (tkL lr ts (tkP lr B nt ts x)) = plL B nt ts ps ls ∧ (t + tkK (tkP lr B nt ts x)) + plK B nt ts (ps.drop (i + 1)) (tkL lr ts (tkP lr B nt ts x)) = plK B nt ts ps ls)) := fun e w3 hh => by
        obtain ⟨h1, h2, h3⟩ := hh
        obtain ⟨h4, h5⟩ := HE.out
        rw [HD.out] at h4 h5
        simp only [plL, plK] at h4 h5
        have hg := HG.out _ rfl
        have hgX : ¬ (X g ∨ g = lb) := fun hx => by have := HX.out g hx; simp at hg; omega
        refine ⟨h1, by rw [← Nat.add_assoc]; exact h2, HF.out.trans h3, HR.out.sameZ (fun g' hg' => ?_), fun g' hg' => ⟨(HG.out g' hg').1, Nat.lt_of_lt_of_le (HG.out g' hg').2 h3.size⟩, h4, by omega⟩
        cases hg'
        exact h3.block _ hg.2 hgX
      clear HS HF HR HG HE HD
      generalize tkL lr ts (tkP lr B nt ts x) = lr' at *
      cases hp : tkP lr B nt ts x with
      | none =>
        rw [hp] at HFin HT
        go_wp2_with fail
        refine HT.out.mono ?_
        intro e w3 hh
        obtain ⟨rfl, HA, HB, HR2, HG2, HC2⟩ := HFin.out e w3 hh
        simp only [tkA]
        clear hh HFin HT hp
        go_wp2
        go_roundw
        case rel => exact ⟨i + 1, t, lr', by go_num, rfl, by omega, by omega, HA, HB, HR2, HG2, HC2⟩
        case measure => simp [intOf]; omega
      | some p =>
        rw [hp] at HFin HT
        have hpn := (tkP_some hp).1
        have hp0 : (0 : Int) ≤ (p : Int) := by omega
        go_wp2_with fail
        refine HT.out.mono ?_
        intro e w3 hh
        obtain ⟨rfl, HA, HB, HR2, HG2, HC2⟩ := HFin.out e w3 hh
        simp only [tkA]
        clear hh HFin HT hp
        go_wp2
        go_roundw
        case rel => exact ⟨i + 1, t + 1, lr', by go_num, by go_num, by omega, by omega, HA, HB, HR2, HG2, HC2⟩
        case measure => simp [intOf]; omega
    · obtain rfl : i = m := by omega
      have HQ : Hid (DrPost w n cb B X lb ao nt tc ts k (plK B nt ts ps ls) (plL B nt ts ps ls) (.returned (.int .i64 (t : Int))) wr) := by
        obtain ⟨h3, h4⟩ := HE.out
        rw [HM.out, List.drop_length] at h3 h4
        simp only [plL, plK] at h3 h4
        show DrPost _ _ _ _ _ _ _ _ _ _ _ _ _ _ _
        rw [← h3, ← h4]
        exact ⟨rfl, HS.out, HF.out⟩
      clear HE HS HF HR HG
      go_wp2
      go_ret
      exact HQ.out
end
end Go.Proofs.Yteobmijfbjgccaa
