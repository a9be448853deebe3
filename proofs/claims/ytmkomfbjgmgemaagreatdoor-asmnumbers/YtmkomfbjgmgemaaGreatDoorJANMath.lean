import Derived.Test.YtmkomfbjgmgemaaGreatDoorJAWorks
import Derived.Test.YtmkomfbjgmgemaaGreatDoorJARd
/-
  ONE NUMBER's LINE: what a text around a word is assembled to.
-/
namespace Go.Proofs.YtmkomfbjgmgemaaGreatDoor
open Go.RowKit Go.Sort

def preL : List UInt8 := [112, 114, 111, 99, 32, 112, 32, 97, 114, 103, 115, 32, 48, 32, 114, 101, 97, 100, 115, 32, 48, 32, 119, 114, 105, 116, 101, 115, 32, 48, 32, 108, 111, 99, 97, 108, 115, 32, 48, 10, 112, 117, 115, 104, 32]
def sufL : List UInt8 := [10, 101, 110, 100]
def numT (wd : List UInt8) : List UInt8 := preL ++ (wd ++ sufL)
def pushL : List UInt8 := [112, 117, 115, 104]
def ln1 : List Wd := [([112, 114, 111, 99], 1), ([112], 6), ([97, 114, 103, 115], 8), ([48], 13), ([114, 101, 97, 100, 115], 15), ([48], 21), ([119, 114, 105, 116, 101, 115], 23), ([48], 30), ([108, 111, 99, 97, 108, 115], 32), ([48], 39)]
theorem pre_len : preL.length = 45 := by kernel_rfl
theorem pre_sc : scRun preL 45 = ⟨[ln1], [(pushL, 1)], 40, none, false⟩ := by kernel_rfl
theorem byte_in2 (t u : List UInt8) {k : Nat} (hk : k < t.length) : byteAt (t ++ u) k = (t.getD k 0).toNat := by
  rw [byteAt_in _ (by rw [List.length_append]; omega), List.getD_eq_getElem?_getD, List.getD_eq_getElem?_getD, List.getElem?_append_left hk]
theorem byte_right (t u : List UInt8) (k : Nat) : byteAt (t ++ u) (t.length + k) = byteAt u k := by
  unfold byteAt
  rw [List.append_assoc, List.getD_eq_getElem?_getD, List.getD_eq_getElem?_getD, List.getElem?_append_right (by omega)]
  congr 2
  congr 1
  omega
theorem run_pre2 (t u : List UInt8) : ∀ k, k ≤ t.length → scRun (t ++ u) k = scRun t k
  | 0, _ => rfl
  | k + 1, hk => by
    show scStep _ _ _ _ = scStep _ _ _ _
    rw [run_pre2 t u k (by omega), byte_in2 t u (by omega), byteAt_in t (by omega), step_pre t u _ k _ (by omega)]
theorem piece_mid (a b c : List UInt8) : pieceL (a ++ (b ++ c)) a.length (a.length + b.length) = b := by
  unfold pieceL
  rw [← List.append_assoc, show a.length + b.length = (a ++ b).length by simp, List.take_left, List.drop_left]
theorem endB_ne {c : Nat} (h : endB c = false) : c ≠ 10 ∧ c ≠ 35 := by
  constructor <;> (rintro rfl; revert h; decide)
/-- a word begins -/
theorem step_beg (l : List UInt8) (x : Sc) (k : Nat) {c : Nat} (h : endB c = false) (h1 : x.com = false) (h2 : x.wf = none) : scStep l x k c = { x with wf := some k } := by
  unfold scStep
  rw [if_neg (endB_ne h).1, if_neg (endB_ne h).2, if_pos ⟨h1, h, h2⟩]
/-- it goes on -/
theorem step_on (l : List UInt8) (x : Sc) (k f : Nat) {c : Nat} (h : endB c = false) (h2 : x.wf = some f) : scStep l x k c = x := by
  unfold scStep
  rw [if_neg (endB_ne h).1, if_neg (endB_ne h).2, if_neg (by rw [h2]; simp)]
  unfold scEnd
  rw [h2]
  simp only
  rw [h]
  rfl
/-- it ends with its line -/
theorem step_nl (l : List UInt8) (x : Sc) (k f : Nat) (h2 : x.wf = some f) : scStep l x k 10 = ⟨x.lines ++ [x.words ++ [(pieceL l f k, f - x.frm + 1)]], [], k + 1, none, false⟩ := by
  unfold scStep
  rw [if_pos rfl]
  have : scEnd l x k 10 = { x with words := x.words ++ [(pieceL l f k, f - x.frm + 1)], wf := none } := by
    unfold scEnd
    rw [h2]
    rfl
  rw [this]
/-- a run of letters: one word -/
theorem run_word (t wd u : List UInt8) (hw : ∀ b ∈ wd, endB b.toNat = false) (x : Sc) (h0 : scRun (t ++ (wd ++ u)) t.length = x) (h1 : x.com = false) (h2 : x.wf = none) : ∀ i, 1 ≤ i → i ≤ wd.length → scRun (t ++ (wd ++ u)) (t.length + i) = { x with wf := some t.length } := fun i => by
  have hb : ∀ i, i < wd.length → endB (byteAt (t ++ (wd ++ u)) (t.length + i)) = false := fun i hi => by
    rw [byte_right, byte_in2 wd u hi, List.getD_eq_getElem?_getD, List.getElem?_eq_getElem hi]
    exact hw _ (List.getElem_mem hi)
  induction i with
  | zero => intro h; omega
  | succ i ih =>
    intro _ hi
    show scStep _ (scRun (t ++ (wd ++ u)) (t.length + i)) (t.length + i) (byteAt (t ++ (wd ++ u)) (t.length + i)) = _
    by_cases hz : i = 0
    · subst hz
      rw [Nat.add_zero, h0]
      exact step_beg _ _ _ (hb 0 (by omega)) h1 h2
    · rw [ih (by omega) (by omega)]
      exact step_on _ _ _ t.length (hb i (by omega)) rfl
theorem num_split (wd : List UInt8) (hn : wd ≠ []) (hw : ∀ b ∈ wd, endB b.toNat = false) : splitN (numT wd) = [ln1, [(pushL, 1), (wd, 6)], [(endL, 1)]] := by
  have hl : 1 ≤ wd.length := List.length_pos_iff.2 hn
  have h0 : scRun (numT wd) preL.length = ⟨[ln1], [(pushL, 1)], 40, none, false⟩ := by
    unfold numT
    rw [run_pre2 preL _ _ (Nat.le_refl _), pre_len, pre_sc]
  have h1 := run_word preL wd sufL hw _ h0 rfl rfl wd.length hl (Nat.le_refl _)
  have h2 : scRun (numT wd) (preL.length + wd.length + 1) = ⟨[ln1, [(pushL, 1), (wd, 6)]], [], preL.length + wd.length + 1, none, false⟩ := by
    show scStep (numT wd) (scRun (numT wd) (preL.length + wd.length)) (preL.length + wd.length) (byteAt (numT wd) (preL.length + wd.length)) = _
    have hb : byteAt (numT wd) (preL.length + wd.length) = 10 := by
      unfold numT
      rw [byte_right]
      rw [show wd.length = wd.length + 0 from rfl, byte_right]
      rfl
    rw [hb]
    rw [show scRun (numT wd) (preL.length + wd.length) = _ from h1]
    rw [step_nl _ _ _ preL.length rfl]
    have hp : pieceL (numT wd) preL.length (preL.length + wd.length) = wd := piece_mid preL wd sufL
    rw [hp, pre_len]
    rfl
  obtain ⟨T, hT⟩ : ∃ T, T = preL ++ (wd ++ [10]) := ⟨_, rfl⟩
  have hTl : T.length = preL.length + wd.length + 1 := by rw [hT]; simp; omega
  have hN : numT wd = T ++ (endL ++ []) := by rw [hT]; unfold numT; simp [sufL, endL]
  have h3 := run_word T endL [] (by decide) ⟨[ln1, [(pushL, 1), (wd, 6)]], [], preL.length + wd.length + 1, none, false⟩ (by rw [← hN, hTl]; exact h2) rfl rfl 3 (by omega) (by decide)
  have hlen : (numT wd).length = T.length + 3 := by rw [hN]; simp [endL]
  unfold splitN
  rw [hlen]
  show (scStep (numT wd) (scRun (numT wd) (T.length + 3)) (T.length + 3) (byteAt (numT wd) (T.length + 3))).lines = _
  rw [show byteAt (numT wd) (T.length + 3) = 10 by rw [← hlen]; exact byteAt_last _]
  rw [← hN] at h3
  rw [h3]
  rw [step_nl _ _ _ T.length rfl]
  have hp : pieceL (numT wd) T.length (T.length + 3) = endL := by rw [hN]; exact piece_mid T endL []
  rw [hp, hTl]
  simp
/-- behind the first line -/
def na1 : As := ⟨[⟨[112], ⟨0, 0, 0, 0⟩, []⟩], [(1, 6)], true, (1, 1), [], []⟩
def na3 (n : Int) : As := ⟨[⟨[112], ⟨0, 0, 0, 0⟩, [(1, n)]⟩], [(1, 6)], false, (1, 1), [], []⟩
theorem num_l1 : lineA start0 1 ln1 = .ok na1 := by kernel_rfl
theorem push_op : opR (S pushL) = (1, true) := by kernel_rfl
theorem num_l2 (wd : List UInt8) : lineA na1 2 [(pushL, 1), (wd, 6)] = if (Dec.num1 wd).2 = true then .ok { na3 (Dec.num1 wd).1 with opn := true } else .error (2, 6, 41) := by
  have e1 : ¬ pushL = endL := by decide
  have e2 : ¬ pushL.getLast? = some 58 := by decide
  unfold lineA
  rw [if_neg (by simp), if_pos (show na1.opn = true from rfl)]
  simp only [insideA]
  rw [if_neg e1, if_neg e2, push_op]
  rw [if_neg (by simp)]
  have hA : argA na1 2 ((1 : Nat) : Int) ([(wd, 6)], 1 + pushL.length) = if (Dec.num1 wd).2 = true then .ok ((Dec.num1 wd).1, [], ([], 6 + wd.length)) else .error (6, 41) := by
    unfold argA
    rw [if_neg (by decide), if_pos (by decide)]
    simp only [rNum, rNext]
    by_cases h : (Dec.num1 wd).2 = true
    · rw [if_pos h, if_pos h]
    · rw [if_neg h, if_neg h]
  simp only
  rw [hA]
  by_cases h : (Dec.num1 wd).2 = true
  · rw [if_pos h, if_pos h]
    rfl
  · rw [if_neg h, if_neg h]
theorem num_l3 (n : Int) : lineA { na3 n with opn := true } 3 [(endL, 1)] = .ok (na3 n) := by kernel_rfl
theorem num_lines (wd : List UInt8) (hn : wd ≠ []) (hw : ∀ b ∈ wd, endB b.toNat = false) : linesA (splitN (numT wd)) (splitN (numT wd)).length = if (Dec.num1 wd).2 = true then .ok (na3 (Dec.num1 wd).1) else .error (2, 6, 41) := by
  rw [num_split wd hn hw]
  have e1 : linesA [ln1, [(pushL, 1), (wd, 6)], [(endL, 1)]] 1 = .ok na1 := num_l1
  have e2 : linesA [ln1, [(pushL, 1), (wd, 6)], [(endL, 1)]] 2 = if (Dec.num1 wd).2 = true then .ok { na3 (Dec.num1 wd).1 with opn := true } else .error (2, 6, 41) := by
    rw [linesA, e1]
    exact num_l2 wd
  show linesA [ln1, [(pushL, 1), (wd, 6)], [(endL, 1)]] 3 = _
  rw [linesA, e2]
  by_cases h : (Dec.num1 wd).2 = true
  · rw [if_pos h, if_pos h]
    exact num_l3 _
  · rw [if_neg h, if_neg h]
def numPs (n : Int) (ao : Option Addr) (m c : Nat) : List Pr := [⟨S [112], ⟨0, 0, 0, 0⟩, ao, m, c, [(1, n)]⟩]
theorem num_ps {n : Int} {Ps : List Pr} (h : (na3 n).lib = Ps.map ppOf) : ∃ ao m c, Ps = numPs n ao m c := by
  match Ps, h with
  | [⟨m1, p1, a1, n1, c1, L1⟩], h =>
    simp only [na3, ppOf, List.map_cons, List.map_nil, List.cons.injEq, PP.mk.injEq, and_true] at h
    obtain ⟨e1, rfl, rfl⟩ := h
    rw [name_of e1.symm]
    exact ⟨a1, n1, c1, rfl⟩
  | [], h => cases h
  | _ :: _ :: _, h => exact absurd (congrArg List.length h) (by simp [na3])
theorem num_check (n : Int) (ao : Option Addr) (m c : Nat) : checkN (numPs n ao m c) = (0, 0) := by kernel_rfl
end Go.Proofs.YtmkomfbjgmgemaaGreatDoor
/-
  AsmNumbers: THE LAW's WALK.
-/
namespace Go.Proofs.YtmkomfbjgmgemaaGreatDoor
open Go.RowKit Go.Sort

/-- what Assemble leaves of the text around a word -/
def NbPost (w : World) (wd : List UInt8) (e : Ending) (w' : World) : Prop :=
  Go.RowKit.Below w.heap.size w w' ∧ (((Dec.num1 wd).2 = false ∧ ∃ v, e = .returned (.tuple #[.slice none 0 0, v]) ∧ ErrAt w' v 2 6 41) ∨
  ((Dec.num1 wd).2 = true ∧ ∃ g cap cg cc, e = .returned (.tuple #[.slice (some ⟨g, 0, none⟩) 1 cap, .nilIface]) ∧ w'.cell? ⟨g, 5, none⟩ = some (.slice (some ⟨cg, 0, none⟩) 1 cc) ∧ w'.cell? ⟨cg, 0, none⟩ = some (.int .i64 1) ∧ w'.cell? ⟨cg, 1, none⟩ = some (.int .i64 (Dec.num1 wd).1) ∧ 1 ≤ cap ∧ 1 ≤ cc))
theorem nb_post {w w' : World} {wd : List UInt8} {e : Ending} (hn : wd ≠ []) (hw : ∀ b ∈ wd, endB b.toNat = false) (h : AsmPost w (numT wd) e w') : NbPost w wd e w' := by
  have hl := num_lines wd hn hw
  rcases h with ⟨v, E, h1, h2, h3, h4⟩ | ⟨M, B, line, a, Ps, vl, vn, vm, vj, W3, h1, h2, h3, h4, h5⟩
  · rw [hl] at h2
    split at h2
    · cases h2
    · rename_i hx
      simp only [Except.error.injEq] at h2
      subst h2
      exact ⟨h4, .inl ⟨by simpa using hx, v, h1, h3⟩⟩
  · rw [hl] at h1
    split at h1
    · rename_i hx
      simp only [Except.ok.injEq] at h1
      subst h1
      obtain ⟨ao, m, c, rfl⟩ := num_ps h2.eq
      rcases h5 with ⟨v, _, h6, _⟩ | ⟨v, _, _, h6, _⟩ | ⟨h6, _, _, h7⟩
      · cases h6
      · rw [num_check] at h6; exact absurd rfl h6
      · have hA := h2.below h7
        obtain ⟨g, cap, e1, hcap⟩ := own_some hA.lib (by show 0 < 1; omega)
        have e1' : vl = .slice (some ⟨g, 0, none⟩) 1 cap := e1
        subst e1'
        have hy := hA.code ⟨S [112], ⟨0, 0, 0, 0⟩, ao, m, c, [(1, (Dec.num1 wd).1)]⟩ (by simp [numPs])
        have hm : m = 1 := hy.1
        subst hm
        obtain ⟨cg, cc, e2, hcc⟩ := own_some hy.2 (by show 0 < 1; omega)
        unfold cdV at e2
        simp only [Value.slice.injEq, true_and] at e2
        obtain ⟨rfl, rfl⟩ := e2
        have hlr : w'.ownsRow M 38 6 (.slice (some ⟨g, 0, none⟩) 1 cap) 1 (prcs (numPs (Dec.num1 wd).1 (some ⟨cg, 0, none⟩) 1 c)) := hA.lib
        have hcr : w'.ownsRow M 40 2 (.slice (some ⟨cg, 0, none⟩) 1 c) 1 (cks [(1, (Dec.num1 wd).1)]) := hy.2
        refine ⟨h4, .inr ⟨hx, g, cap, cg, c, h6, ?_, ?_, ?_, hcap, hcc⟩⟩
        · rw [World.ownsRow.cellAt hlr 5 (by omega)]; rfl
        · rw [World.ownsRow.cellAt hcr 0 (by omega)]; rfl
        · rw [World.ownsRow.cellAt hcr 1 (by omega)]; rfl
    · cases h1
theorem okw_mem {l : List UInt8} (h : ∀ i, i < l.length → endB (l.getD i 0).toNat = false) : ∀ b ∈ l, endB b.toNat = false := fun b hb => by
  obtain ⟨i, hi, e⟩ := List.getElem_of_mem hb
  have := h i hi
  rw [List.getD_eq_getElem?_getD, List.getElem?_eq_getElem hi] at this
  rw [← e]
  exact this
theorem endB_int {c : Nat} (h1 : (c : Int) ≠ 32) (h2 : (c : Int) ≠ 9) (h3 : (c : Int) ≠ 13) (h4 : (c : Int) ≠ 10) (h5 : (c : Int) ≠ 35) : endB c = false := by
  unfold endB
  simp only [Bool.or_eq_false_iff, decide_eq_false_iff_not]
  omega
theorem fault_cells {W : World} {b : Nat} {x y z : Value} (h : FB W b x y z) : W.cell? ⟨b, 0, none⟩ = some x ∧ W.cell? ⟨b, 1, none⟩ = some y ∧ W.cell? ⟨b, 2, none⟩ = some z := by
  refine ⟨?_, ?_, ?_⟩ <;> simp [World.cell?, show W.heap[b]? = _ from h]
set_option maxRecDepth 100000 in
set_option maxHeartbeats 2000000 in
theorem lawNums (w : World) (l : List UInt8) (hl : l.length ≤ 140737488351232) (hv : NumVars w) (hs : Vs w) (he : ErrVar w) (hB : 8 ≤ w.heap.size) :
    Calls Tryz.prog 4 #[.string (S l)] w fun e w' => e = .returned (.bool true) ∧ Go.RowKit.Below w.heap.size w w' := by
  have hst : (S l).size = l.length := S_size l
  have HW := hidA (works_any w hv hs he hB)
  have HAs : Hid (l ≠ [] → (∀ b ∈ l, endB b.toNat = false) → l.length ≤ 60000 → ∀ W', Go.RowKit.Below w.heap.size w W' → Calls Tryz.prog 6 #[.string (S (numT l))] W' fun e w' => NbPost W' l e w') := fun hn hw hl W' hb => (assemble_any W' (numT l) (by unfold numT; simp [pre_len, sufL]; omega) (hv.kept hb) (hs.kept hb).nm (nw_kw (hs.kept hb).nw) (he.bel hb hB) (by have := hb.size; omega)).mono fun _ _ h => nb_post hn hw h
  have HNu : Hid (∀ W', Go.RowKit.Below w.heap.size w W' → Calls Tryz.prog 8 #[.string (S l)] W' fun e w' => e = .returned (.tuple #[.int .i64 (Dec.num1 l).1, .bool (Dec.num1 l).2]) ∧ Go.RowKit.Below W'.heap.size W' w') := fun W' hb => by
    have := number_any W' (S l) (by rw [S_size]; omega) (hv.kept hb)
    rw [S_data] at this
    exact this
  have HE : Hid (∀ W', Go.RowKit.Below w.heap.size w W' → ErrVar W' ∧ 8 ≤ W'.heap.size) := fun W' hb => ⟨he.bel hb hB, by have := hb.size; omega⟩
  clear hv hs he hB
  obtain ⟨s, hsd⟩ : ∃ s, s = S l := ⟨_, rfl⟩
  have HSl : Hid (s.toList = l) := by rw [hsd, Hid]; exact S_toList l
  have HCh : Hid (∀ k, chs s k = ((l.getD k 0).toNat : Int)) := fun k => by unfold chs; rw [hsd, S_data]
  have HNt : Hid ((⟨preL.toArray⟩ : ByteArray) ++ s ++ ⟨sufL.toArray⟩ = S (numT l)) := by rw [hsd]; show S preL ++ S l ++ S sufL = _; rw [S_app, S_app, List.append_assoc]; rfl
  rw [← hsd] at hst HNu ⊢
  clear hsd
  go_enter Tryz.func4, Tryz.ntmps4
  go_wp2_with fail
  refine HW.out.mono ?_
  rintro e w1 ⟨rfl, hb1⟩
  have HB1 := hidA hb1
  clear hb1 HW
  go_wp2_with fail
  go_loop [3] (fun x => ∃ k : Nat, k ≤ s.size ∧ x = .int .i64 (k : Int) ∧ Hid (∀ i, i < k → endB (l.getD i 0).toNat = false)) (fun x => s.size - (intOf x).toNat)
  case atStart => exact ⟨0, Nat.zero_le _, rfl, fun i hi => by omega⟩
  case round =>
    obtain ⟨k, hk, rfl, HA⟩ := hrel
    by_cases hlt : k < s.size
    · have HC := chs_at s k hlt
      have HN : Hid (chs s k ≠ 32 → chs s k ≠ 9 → chs s k ≠ 13 → chs s k ≠ 10 → chs s k ≠ 35 → ∀ i, i < k + 1 → endB (l.getD i 0).toNat = false) := fun h1 h2 h3 h4 h5 i hi => by
        rw [HCh.out k] at h1 h2 h3 h4 h5
        by_cases e : i = k
        · subst e; exact endB_int h1 h2 h3 h4 h5
        · exact HA.out i (by omega)
      generalize chs s k = c at *
      by_cases h1 : c = 32
      · subst h1
        go_wp2
        go_ret
        exact ⟨rfl, HB1.out⟩
      by_cases h2 : c = 9
      · subst h2
        go_wp2
        go_ret
        exact ⟨rfl, HB1.out⟩
      by_cases h3 : c = 13
      · subst h3
        go_wp2
        go_ret
        exact ⟨rfl, HB1.out⟩
      by_cases h4 : c = 10
      · subst h4
        go_wp2
        go_ret
        exact ⟨rfl, HB1.out⟩
      by_cases h5 : c = 35
      · subst h5
        go_wp2
        go_ret
        exact ⟨rfl, HB1.out⟩
      have HG := hidA (HN.out h1 h2 h3 h4 h5)
      have q1 : (c == 32) = false := by simp [h1]
      have q2 : (c == 9) = false := by simp [h2]
      have q3 : (c == 13) = false := by simp [h3]
      have q4 : (c == 10) = false := by simp [h4]
      have q5 : (c == 35) = false := by simp [h5]
      clear h1 h2 h3 h4 h5 HN
      go_wp2
      go_round
      case rel => exact ⟨k + 1, by omega, by go_num, HG⟩
      case measure => simp [intOf]; omega
    · have HOk : Hid (∀ b ∈ l, endB b.toNat = false) := okw_mem (fun i hi => HA.out i (by omega))
      clear HA HCh
      by_cases hz : l = []
      · have hz' : (s.toList == []) = true := by rw [HSl.out, hz]; rfl
        clear hz
        go_wp2
        go_ret
        exact ⟨rfl, HB1.out⟩
      have hz' : (s.toList == []) = false := by
        rw [HSl.out]
        cases l with
        | nil => exact absurd rfl hz
        | cons b l => rfl
      have HZ := hidA hz
      clear hz
      by_cases h6 : 60000 < l.length
      · have h6' : 60000 < s.size := by omega
        go_wp2_with omega
        go_ret
        exact ⟨rfl, HB1.out⟩
      have h6' : ¬ 60000 < s.size := by omega
      have HA0 := hidA (HAs.out HZ.out HOk.out (by omega) w1 HB1.out)
      rw [← HNt.out] at HA0
      have hsp : (⟨preL.toArray⟩ : ByteArray).size = 45 := rfl
      have hsf : (⟨sufL.toArray⟩ : ByteArray).size = 4 := rfl
      have hspw : ((⟨preL.toArray⟩ : ByteArray) ++ s).size = 45 + s.size := by simp [hsp]
      clear HAs
      go_wp2_with omega
      refine HA0.out.mono ?_
      rintro e w2 ⟨hb2, hc⟩
      have HB2 : Hid (Go.RowKit.Below w.heap.size w w2) := HB1.out.trans (hb2.mono HB1.out.size)
      have HN2 := hidA (HNu.out w2 HB2.out)
      clear hb2 HA0 HNu HB1 h6 h6' hsp hsf hspw HNt HZ HOk HSl hz'
      rcases hc with ⟨hok, v, rfl, herr⟩ | ⟨hok, g, cap, cg, cc, rfl, y5, y0, y1, hcap, hcc⟩
      · rw [hok] at HN2
        have HF : Hid (∀ W', Go.RowKit.Below w2.heap.size w2 W' → Calls Tryz.prog 7 #[v] W' fun e w' => e = .returned (.agg #[.int .i64 2, .int .i64 6, .int .i64 41]) ∧ Go.RowKit.Below W'.heap.size W' w') := fun W' hb => fault_any W' v 2 6 41 (herr.kept hb) (HE.out W' (HB2.out.trans (hb.mono HB2.out.size))).1 (HE.out W' (HB2.out.trans (hb.mono HB2.out.size))).2
        clear herr hok HE
        go_wp2_with fail
        refine HN2.out.mono ?_
        rintro e w3 ⟨rfl, hb3⟩
        have HB3 := hidA hb3
        clear hb3 HN2
        go_wp2_with fail
        refine (HF.out w3 HB3.out).mono ?_
        rintro e w4 ⟨rfl, hb4⟩
        have HB4 : Hid (Go.RowKit.Below w.heap.size w w4) := HB2.out.trans ((HB3.out.trans (hb4.mono HB3.out.size)).mono HB2.out.size)
        clear hb4 HB3 HB2 HF
        go_wp2
        go_ret
        exact ⟨rfl, HB4.out.trans ((bel_al _ _).mono HB4.out.size)⟩
      · rw [hok] at HN2
        generalize (Dec.num1 l).1 = n at *
        clear hok HE
        go_wp2_with fail
        refine HN2.out.mono ?_
        rintro e w3 ⟨rfl, hb3⟩
        have z5 := (hb3.cell (p := ⟨g, 5, none⟩) (cell_lt y5)).trans y5
        have z0 := (hb3.cell (p := ⟨cg, 0, none⟩) (cell_lt y0)).trans y0
        have z1 := (hb3.cell (p := ⟨cg, 1, none⟩) (cell_lt y1)).trans y1
        have HB4 : Hid (Go.RowKit.Below w.heap.size w w3) := HB2.out.trans (hb3.mono HB2.out.size)
        clear hb3 HB2 HN2 y5 y0 y1
        go_wp2
        go_ret
        exact ⟨rfl, HB4.out⟩
end Go.Proofs.YtmkomfbjgmgemaaGreatDoor
