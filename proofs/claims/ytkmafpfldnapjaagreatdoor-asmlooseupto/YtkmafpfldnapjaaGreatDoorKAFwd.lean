import Derived.Test.YtkmafpfldnapjaaGreatDoorKALLent
/-
  WHAT WAS READ TO ITS END: all jumps go forward, so that no check tells of one.
-/
namespace Go.Proofs.YtkmafpfldnapjaaGreatDoor
open Go.RowKit Go.Sort

def fwP (L : List K) : Prop := ∀ i, i < L.length → jumpB (cd L i).1 = true → (i : Int) < (cd L i).2 ∧ (cd L i).2 ≤ (L.length : Int)
theorem cd_set (L : List K) (i j : Nat) (k : K) (h : i < L.length) : cd (L.set i k) j = if i = j then k else cd L j := by
  unfold cd
  rw [List.getD_eq_getElem?_getD, List.getD_eq_getElem?_getD, List.getElem?_set]
  split
  · rename_i e
    subst e
    rfl
  · rfl
theorem cd_app (L : List K) (k : K) (i : Nat) : cd (L ++ [k]) i = if i < L.length then cd L i else if i = L.length then k else (0, 0) := by
  unfold cd
  rw [List.getD_eq_getElem?_getD, List.getD_eq_getElem?_getD]
  split
  · rename_i h; rw [List.getElem?_append_left h]
  · rename_i h
    rw [List.getElem?_append_right (by omega)]
    split
    · rename_i e; rw [e]; simp
    · rw [List.getElem?_eq_none (by simp; omega)]; rfl
theorem labN_mem {ls : List (List UInt8 × Nat)} {nm : List UInt8} {t : Nat} (h : labN ls nm = some t) : ∃ y ∈ ls, y.2 = t := by
  unfold labN at h
  obtain ⟨y, hy, e⟩ := Option.map_eq_some_iff.1 h
  exact ⟨y, List.mem_of_find?_eq_some hy, e⟩
theorem labN_app {ls : List (List UInt8 × Nat)} {nm l : List UInt8} {t t0 : Nat} (h : labN (ls ++ [(nm, t0)]) l = some t) : labN ls l = some t ∨ t = t0 := by
  unfold labN at h ⊢
  rw [List.find?_append] at h
  cases hf : ls.find? (fun x => x.1 == l) with
  | some y => rw [hf] at h; exact .inl h
  | none =>
    rw [hf] at h
    obtain ⟨y, hy, e⟩ := Option.map_eq_some_iff.1 h
    have := List.mem_of_find?_eq_some (show List.find? (fun x => x.1 == l) [(nm, t0)] = some y from by simpa using hy)
    simp only [List.mem_singleton] at this
    rw [this] at e
    exact .inr e.symm
theorem fixN_fw {ls : List (List UInt8 × Nat)} : ∀ {js : List Jp} {L L' : List K}, fixN ls js L = .ok L' → (∀ j ∈ js, j.frm < L.length ∧ ∀ t, labN ls j.label = some t → j.frm < t ∧ t ≤ L.length) → (∀ i, i < L.length → jumpB (cd L i).1 = true → (∃ j ∈ js, j.frm = i) ∨ ((i : Int) < (cd L i).2 ∧ (cd L i).2 ≤ (L.length : Int))) → fwP L'
  | [], L, L', h, _, hg => by
    simp only [fixN, Except.ok.injEq] at h
    subst h
    intro i hi hb
    rcases hg i hi hb with ⟨j, hj, _⟩ | h
    · cases hj
    · exact h
  | j :: js, L, L', h, hj, hg => by
    simp only [fixN] at h
    split at h
    · cases h
    · rename_i t ht
      obtain ⟨h1, h2⟩ := hj j List.mem_cons_self
      obtain ⟨h3, h4⟩ := h2 t ht
      refine fixN_fw h (fun i hi => ?_) (fun i hi hb => ?_)
      · rw [List.length_set]
        exact hj i (List.mem_cons_of_mem _ hi)
      · rw [List.length_set] at hi ⊢
        rw [cd_set _ _ _ _ h1] at hb ⊢
        split
        · rename_i e
          subst e
          right
          simp only
          omega
        · rename_i e
          rw [if_neg e] at hb
          rcases hg i hi hb with ⟨m, hm, rfl⟩ | h
          · rcases List.mem_cons.1 hm with rfl | hm
            · exact absurd rfl e
            · exact .inl ⟨m, hm, rfl⟩
          · exact .inr h
structure FwA (a : As) : Prop where
  old : ∀ x ∈ (if a.opn = true then a.lib.dropLast else a.lib), fwP x.L
  ne : a.opn = true → a.lib ≠ []
  lab : a.opn = true → ∀ y ∈ a.labels, y.2 ≤ (lastP a).L.length
  jmp : a.opn = true → ∀ j ∈ a.jumps, j.frm < (lastP a).L.length ∧ ∀ t, labN a.labels j.label = some t → j.frm < t
  all : a.opn = true → ∀ i, i < (lastP a).L.length → jumpB (cd (lastP a).L i).1 = true → ∃ j ∈ a.jumps, j.frm = i
inductive InFw (a : As) : As → Prop where
  | fin (L : List K) (h : fixN a.labels a.jumps (lastP a).L = .ok L) : InFw a { setL a L with opn := false }
  | lab (nm : List UInt8) : InFw a { a with labels := a.labels ++ [(nm, (lastP a).L.length)] }
  | ins (op n : Int) (js : List Jp) (h : (∃ lb line col, js = [⟨(lastP a).L.length, lb, line, col⟩] ∧ labN a.labels lb = none) ∨ (js = [] ∧ jumpB op = false)) : InFw a (setL { a with jumps := a.jumps ++ js } ((lastP a).L ++ [(op, n)]))
theorem argA_fw {a : As} {line : Nat} {op n : Int} {r : Rd} {js : List Jp} {r1 : Rd} (h : argA a line op r = .ok (n, js, r1)) : (∃ lb line col, js = [⟨(lastP a).L.length, lb, line, col⟩] ∧ labN a.labels lb = none) ∨ (js = [] ∧ jumpB op = false) := by
  unfold argA at h
  split at h
  · split at h
    · cases h
    · rename_i x r2 _
      split at h
      · cases h
      · split at h
        · cases h
        · rename_i hl
          simp only [Except.ok.injEq, Prod.mk.injEq] at h
          exact .inl ⟨_, _, _, h.2.1.symm, by simpa using hl⟩
  · rename_i hb
    have hb' : jumpB op = false := by simpa using hb
    split at h
    · split at h
      · cases h
      · simp only [Except.ok.injEq, Prod.mk.injEq] at h
        exact .inr ⟨h.2.1.symm, hb'⟩
    · simp only [Except.ok.injEq, Prod.mk.injEq] at h
      exact .inr ⟨h.2.1.symm, hb'⟩
theorem insideA_fw {a a' : As} {line : Nat} {x : Wd} {rest : List Wd} (h : insideA a line (x :: rest) = .ok a') : InFw a a' := by
  simp only [insideA] at h
  split at h
  · split at h
    · cases h
    · split at h
      · cases h
      · rename_i L hL
        simp only [Except.ok.injEq] at h
        rw [← h]
        exact .fin L hL
  · split at h
    · split at h
      · cases h
      · split at h
        · cases h
        · split at h
          · cases h
          · simp only [Except.ok.injEq] at h
            rw [← h]
            exact .lab _
    · split at h
      · cases h
      · split at h
        · cases h
        · rename_i n js r1 hA
          split at h
          · cases h
          · simp only [Except.ok.injEq] at h
            rw [← h]
            exact .ins _ _ js (argA_fw hA)
theorem setL_drop (a : As) (L : List K) : (setL a L).lib.dropLast = a.lib.dropLast := by simp [setL]
theorem inside_fw {a a' : As} (h : FwA a) (ho : a.opn = true) (hi : InFw a a') : FwA a' := by
  have hold : ∀ x ∈ a.lib.dropLast, fwP x.L := fun x hx => h.old x (by rw [if_pos ho]; exact hx)
  cases hi with
  | fin L hL =>
    have hf : fwP L := fixN_fw hL (fun j hj => ⟨(h.jmp ho j hj).1, fun t ht => ⟨(h.jmp ho j hj).2 t ht, by obtain ⟨y, hy, e⟩ := labN_mem ht; rw [← e]; exact h.lab ho y hy⟩⟩) (fun i hi hb => .inl (h.all ho i hi hb))
    refine ⟨fun x hx => ?_, fun e => (by cases e), fun e => (by cases e), fun e => (by cases e), fun e => (by cases e)⟩
    rw [if_neg (by simp)] at hx
    have hx' : x ∈ a.lib.dropLast ++ [{ lastP a with L := L }] := hx
    rcases List.mem_append.1 hx' with hx' | hx'
    · exact hold x hx'
    · simp only [List.mem_singleton] at hx'
      rw [hx']
      exact hf
  | lab nm =>
    refine ⟨h.old, h.ne, fun _ y hy => ?_, fun _ j hj => ⟨(h.jmp ho j hj).1, fun t ht => ?_⟩, h.all⟩
    · rcases List.mem_append.1 hy with hy | hy
      · exact h.lab ho y hy
      · simp only [List.mem_singleton] at hy
        rw [hy]
        exact Nat.le_refl _
    · rcases labN_app ht with h1 | h1
      · exact (h.jmp ho j hj).2 t h1
      · rw [h1]
        exact (h.jmp ho j hj).1
  | ins op n js hj =>
    have hlp : (lastP (setL { a with jumps := a.jumps ++ js } ((lastP a).L ++ [(op, n)]))).L = (lastP a).L ++ [(op, n)] := by rw [lastP_setL]
    have hjs : ∀ j ∈ js, j.frm < (lastP a).L.length + 1 ∧ ∀ t, labN a.labels j.label = some t → j.frm < t := fun j hm => by
      rcases hj with ⟨lb, line, col, rfl, hl⟩ | ⟨rfl, _⟩
      · simp only [List.mem_singleton] at hm
        rw [hm]
        exact ⟨by simp, fun t ht => by rw [show (labN a.labels lb) = some t from ht] at hl; cases hl⟩
      · cases hm
    refine ⟨fun x hx => ?_, fun _ => by simp [setL], fun _ y hy => ?_, fun _ j hm => ?_, fun _ i hi hb => ?_⟩
    · rw [if_pos (show (setL { a with jumps := a.jumps ++ js } ((lastP a).L ++ [(op, n)])).opn = true from ho), setL_drop] at hx
      exact hold x hx
    · rw [hlp, List.length_append]
      have := h.lab ho y hy
      omega
    · rw [hlp, List.length_append]
      rcases List.mem_append.1 (show j ∈ a.jumps ++ js from hm) with hm | hm
      · exact ⟨by have := (h.jmp ho j hm).1; omega, (h.jmp ho j hm).2⟩
      · exact ⟨(hjs j hm).1, (hjs j hm).2⟩
    · rw [hlp] at hi hb
      rw [cd_app] at hb
      rw [List.length_append, List.length_singleton] at hi
      by_cases hl : i < (lastP a).L.length
      · rw [if_pos hl] at hb
        obtain ⟨j, hm, e⟩ := h.all ho i hl hb
        exact ⟨j, List.mem_append_left _ hm, e⟩
      · rw [if_neg hl, if_pos (by omega)] at hb
        rcases hj with ⟨lb, line, col, rfl, _⟩ | ⟨_, e⟩
        · exact ⟨_, List.mem_append_right _ List.mem_cons_self, by show (lastP a).L.length = i; omega⟩
        · rw [e] at hb; cases hb
theorem line_fw {a a' : As} {line : Nat} {ws : List Wd} (h : FwA a) (e : lineA a line ws = .ok a') : FwA a' := by
  unfold lineA at e
  split at e
  · simp only [Except.ok.injEq] at e
    rw [← e]
    exact h
  · rename_i hne
    split at e
    · rename_i ho
      cases ws with
      | nil => exact absurd rfl hne
      | cons x rest => exact inside_fw h ho (insideA_fw e)
    · rename_i ho
      split at e
      · cases e
      · rename_i a1 h1
        simp only [Except.ok.injEq] at e
        subst e
        obtain ⟨nm, ns, _, rfl⟩ := firstA_ok h1
        refine ⟨fun x hx => ?_, fun _ => by simp, fun _ y hy => (by cases hy), fun _ j hj => (by cases hj), fun _ i hi => ?_⟩
        · rw [if_pos rfl] at hx
          have hx' : x ∈ a.lib := by simpa using hx
          exact h.old x (by rw [if_neg ho]; exact hx')
        · simp [lastP] at hi
theorem lines_fw {ls : List (List Wd)} : ∀ k {a : As}, linesA ls k = .ok a → FwA a
  | 0, a, h => by
    simp only [linesA, Except.ok.injEq] at h
    subst h
    exact ⟨fun x hx => (by cases hx), fun e => (by cases e), fun e => (by cases e), fun e => (by cases e), fun e => (by cases e)⟩
  | k + 1, a, h => by
    simp only [linesA] at h
    cases hE : linesA ls k with
    | error e => rw [hE] at h; cases h
    | ok a0 => rw [hE] at h; exact line_fw (lines_fw k hE) h
/-- what a check may answer -/
def CkR (x : Int) : Prop := x = 0 ∨ x = 30 ∨ x = 31 ∨ x = 32 ∨ x = 34 ∨ x = 35 ∨ x = 36
theorem firstE_in (f : Nat → Int) (P : Int → Prop) (h0 : P 0) : ∀ k, (∀ i, i < k → P (f i)) → P (firstE f k)
  | 0, _ => h0
  | k + 1, h => by
    unfold firstE
    split
    · exact firstE_in f P h0 k (fun i hi => h i (by omega))
    · exact h k (by omega)
theorem firstP_in (f : Nat → Int) (P : Int → Prop) (h0 : P 0) : ∀ k, (∀ i, i < k → P (f i)) → P (firstP f k).2
  | 0, _ => h0
  | k + 1, h => by
    unfold firstP
    split
    · exact firstP_in f P h0 k (fun i hi => h i (by omega))
    · split
      · exact h k (by omega)
      · exact h0
theorem verify_r {p : Nums} {L : List K} (h : fwP L) : CkR (verifyN p L) := by
  unfold verifyN depthsN
  split
  · exact .inr (.inl rfl)
  · split
    · show CkR (lookAll p L L.length)
      unfold lookAll
      refine firstE_in _ CkR (.inl rfl) _ (fun i hi => ?_)
      unfold lookN
      split
      · exact .inr (.inr (.inl rfl))
      · split
        · rename_i h1
          have := h i hi h1.1
          omega
        · split
          · exact .inr (.inr (.inr (.inl rfl)))
          · exact .inl rfl
    · split
      · exact .inr (.inr (.inr (.inr (.inl rfl))))
      · exact .inl rfl
theorem check_r {Ps : List Pr} (h : ∀ x ∈ Ps, fwP x.L) : CkR (checkN Ps).2 := by
  unfold checkN
  split
  · exact .inr (.inr (.inr (.inr (.inr (.inr rfl)))))
  · refine firstP_in _ CkR (.inl rfl) _ (fun i hi => ?_)
    unfold chkOne
    split
    · exact .inr (.inr (.inr (.inr (.inr (.inl rfl)))))
    · exact verify_r (h _ (pd_mem hi))
/-- the check of what was read to its end -/
theorem read_r {ls : List (List Wd)} {k : Nat} {a : As} {Ps : List Pr} (h : linesA ls k = .ok a) (ho : a.opn = false) (e : a.lib = Ps.map ppOf) : CkR (checkN Ps).2 := by
  have h1 := (lines_fw k h).old
  rw [if_neg (by rw [ho]; simp), e] at h1
  exact check_r (fun x hx => h1 (ppOf x) (List.mem_map_of_mem hx))
end Go.Proofs.YtkmafpfldnapjaaGreatDoor
/-
  A PROCEDURE's LINES: their words, and what they do.
-/
namespace Go.Proofs.YtkmafpfldnapjaaGreatDoor
open Go.RowKit Go.Sort Go.Shelf

def wl1 (nm : List UInt8) (p : Nums) : List (List UInt8) := [procL, nm, nwL 0, dg p.args, nwL 1, dg p.reads, nwL 2, dg p.writes, nwL 3, dg p.locals]
def wlI (k : K) : List (List UInt8) := if jumpB k.1 = true then [sp k.1, labelL k.2] else if wantsB k.1 = true then [sp k.1, dg k.2] else [sp k.1]
def wlL (j : Nat) : List (List UInt8) := [labelL (j : Int) ++ [58]]
def wbody (L : List K) : Nat → List (List (List UInt8))
  | 0 => []
  | k + 1 => wbody L k ++ (if lndB L k = true then [wlL k] else []) ++ [wlI (cd L k)]
def wproc (nm : List UInt8) (p : Nums) (L : List K) : List (List (List UInt8)) := [wl1 nm p] ++ wbody L L.length ++ (if lndB L L.length = true then [wlL L.length] else []) ++ [[endlL]]

theorem endB_dig {b : UInt8} (h : 48 ≤ b.toNat ∧ b.toNat ≤ 57) : endB b.toNat = false := by
  unfold endB
  simp only [Bool.or_eq_false_iff, decide_eq_false_iff_not]
  omega
theorem dg_ok (n : Int) : okW (dg n) := by
  unfold dg Lib.itoa
  split
  · refine ⟨by simp, fun b hb => ?_⟩
    rcases List.mem_cons.1 hb with rfl | hb
    · decide
    · exact endB_dig (Dec.decDigits_digit _ b hb)
  · exact ⟨Dec.decDigits_ne _, fun b hb => endB_dig (Dec.decDigits_digit _ b hb)⟩
theorem dg_num {n : Int} (h : In64 n) : Dec.num1 (dg n) = (n, true) := Dec.num1_itoa n h.1 h.2
theorem dg_inj {a b : Int} (ha : In64 a) (hb : In64 b) (h : dg a = dg b) : a = b := by
  have h1 := dg_num ha
  rw [h, dg_num hb] at h1
  exact (Prod.mk.inj h1).1.symm
theorem lb_ok (n : Int) : okW (labelL n) := ⟨by simp [labelL], fun b hb => by
  rcases List.mem_cons.1 hb with rfl | hb
  · decide
  · exact (dg_ok n).2 b hb⟩
theorem lb2_ok (n : Int) : okW (labelL n ++ [58]) := ⟨by simp [labelL], fun b hb => by
  rcases List.mem_append.1 hb with hb | hb
  · exact (lb_ok n).2 b hb
  · simp only [List.mem_singleton] at hb
    rw [hb]
    decide⟩
theorem goodN_all {s : ByteArray} : ∀ {n : Nat}, goodN s n = true → ∀ i, i < n → chB i (chs s i) = true
  | 0, _, i, hi => by omega
  | n + 1, h, i, hi => by
    simp only [goodN, Bool.and_eq_true] at h
    by_cases e : i = n
    · subst e; exact h.2
    · exact goodN_all h.1 i (by omega)
theorem chB_end {i c : Nat} (h : chB i (c : Int) = true) : endB c = false := by
  simp only [chB, letB, digB, Bool.or_eq_true, Bool.and_eq_true, decide_eq_true_eq] at h
  unfold endB
  simp only [Bool.or_eq_false_iff, decide_eq_false_iff_not]
  omega
theorem name_okW {nm : List UInt8} (h : nameB (S nm) = true) : okW nm := by
  simp only [nameB, Bool.and_eq_true, decide_eq_true_eq] at h
  obtain ⟨⟨h1, _⟩, h2⟩ := h
  rw [S_size] at h1 h2
  refine ⟨fun e => by rw [e] at h1; simp at h1, fun b hb => ?_⟩
  obtain ⟨i, hi, e⟩ := List.getElem_of_mem hb
  have := goodN_all h2 i hi
  unfold chs at this
  rw [show (S nm).data.toList = nm by simp [S], List.getD_eq_getElem?_getD, List.getElem?_eq_getElem hi] at this
  rw [← e]
  exact chB_end this
/-- what is needed of the 37 names -/
def spFacts (j : Nat) : Bool := decide (sp (j : Int) ≠ []) && (sp (j : Int)).all (fun b => !endB b.toNat) && decide (sp (j : Int) ≠ endL) && decide ((sp (j : Int)).getLast? ≠ some 58) && decide (opR (S (sp (j : Int))) = (j, true))
theorem sp_all : ∀ j : Nat, j < 37 → spFacts j = true := by decide +kernel
theorem sp_facts {op : Int} (h : isOpB op = true) : okW (sp op) ∧ sp op ≠ endL ∧ (sp op).getLast? ≠ some 58 ∧ opR (S (sp op)) = (op.toNat, true) ∧ ((op.toNat : Nat) : Int) = op := by
  simp only [isOpB, Bool.and_eq_true, decide_eq_true_eq] at h
  obtain ⟨j, rfl⟩ := Int.eq_ofNat_of_zero_le h.1
  have h2 := sp_all j (by omega)
  simp only [spFacts, Bool.and_eq_true, decide_eq_true_eq, List.all_eq_true, Bool.not_eq_true'] at h2
  obtain ⟨⟨⟨⟨a1, a2⟩, a3⟩, a4⟩, a5⟩ := h2
  exact ⟨⟨a1, a2⟩, a3, a4, by rw [a5]; rfl, by simp⟩
theorem line1 {nm : List UInt8} {p : Nums} (h : nameB (S nm) = true) : LineOf (flL nm p 4) (wl1 nm p) := by
  refine ⟨.inl ?_, fun w hw => ?_, by simp [wl1]⟩
  · simp [flL, wl1, joinS, procL, numP]
  · simp only [wl1, List.mem_cons, List.not_mem_nil, or_false] at hw
    rcases hw with rfl | rfl | rfl | rfl | rfl | rfl | rfl | rfl | rfl | rfl
    · exact ⟨by decide, by decide⟩
    · exact name_okW h
    · exact ⟨by decide, by decide⟩
    · exact dg_ok _
    · exact ⟨by decide, by decide⟩
    · exact dg_ok _
    · exact ⟨by decide, by decide⟩
    · exact dg_ok _
    · exact ⟨by decide, by decide⟩
    · exact dg_ok _
theorem lineI {k : K} (h : isOpB k.1 = true) : LineOf ([32, 32] ++ instrL k) (wlI k) := by
  have hs := (sp_facts h).1
  unfold instrL wlI
  split
  · refine ⟨.inr rfl, fun w hw => ?_, by simp⟩
    simp only [List.mem_cons, List.not_mem_nil, or_false] at hw
    rcases hw with rfl | rfl
    · exact hs
    · exact lb_ok _
  · split
    · refine ⟨.inr rfl, fun w hw => ?_, by simp⟩
      simp only [List.mem_cons, List.not_mem_nil, or_false] at hw
      rcases hw with rfl | rfl
      · exact hs
      · exact dg_ok _
    · refine ⟨.inr rfl, fun w hw => ?_, by simp⟩
      simp only [List.mem_singleton] at hw
      rw [hw]
      exact hs
theorem lineL (j : Nat) : LineOf (labelL (j : Int) ++ [58]) (wlL j) := ⟨.inl rfl, fun w hw => by
  simp only [wlL, List.mem_singleton] at hw
  rw [hw]
  exact lb2_ok _, by simp [wlL]⟩
theorem lineE : LineOf endlL [endlL] := ⟨.inl rfl, fun w hw => by
  simp only [List.mem_singleton] at hw
  rw [hw]
  exact ⟨by decide, by decide⟩, by simp⟩
theorem lbl_of (L : List K) (k : Nat) : LOf (if lndB L k = true then [labelL (k : Int) ++ [58]] else []) (if lndB L k = true then [wlL k] else []) := by
  split
  · exact .one (lineL k)
  · exact .nil
theorem body_of {L : List K} (h : ∀ i, i < L.length → isOpB (cd L i).1 = true) : ∀ k, k ≤ L.length → LOf (bodyL L k) (wbody L k)
  | 0, _ => .nil
  | k + 1, hk => ((body_of h k (by omega)).app (lbl_of L k)).app (.one (lineI (h k (by omega))))
theorem proc_of {nm : List UInt8} {p : Nums} {L : List K} (hn : nameB (S nm) = true) (h : ∀ i, i < L.length → isOpB (cd L i).1 = true) : LOf (linesP nm p L) (wproc nm p L) :=
  (((LOf.one (line1 hn)).app (body_of h L.length (Nat.le_refl _))).app (lbl_of L L.length)).app (.one lineE)

/-- outside of procedures -/
def Out (D : List PP) (a : As) : Prop := a.opn = false ∧ a.lib = D
def unj (k : K) : K := if jumpB k.1 = true then (k.1, 0) else k
def labs (L : List K) (m : Nat) : List (List UInt8 × Nat) := ((List.range m).filter (lndB L)).map (fun j : Nat => (labelL (j : Int), j))
def jmpI (L : List K) (i : Nat) : List Nat := (List.range i).filter (fun j => jumpB (cd L j).1)
/-- inside of one: i instructions have been read, and m places' labels -/
structure In (D : List PP) (nm : List UInt8) (p : Nums) (L : List K) (i m : Nat) (a : As) : Prop where
  opn : a.opn = true
  lib : a.lib = D ++ [⟨nm, p, (L.take i).map unj⟩]
  lab : a.labels = labs L m
  jmp : a.jumps.map (fun j => (j.frm, j.label)) = (jmpI L i).map (fun j => (j, labelL (cd L j).2))
theorem In.last {D : List PP} {nm : List UInt8} {p : Nums} {L : List K} {i m : Nat} {a : As} (h : In D nm p L i m a) : lastP a = ⟨nm, p, (L.take i).map unj⟩ := by
  unfold lastP
  rw [h.lib]
  simp
theorem In.setL {D : List PP} {nm : List UInt8} {p : Nums} {L : List K} {i m : Nat} {a : As} (h : In D nm p L i m a) (js : List Jp) (M : List K) : (setL { a with jumps := js } M).lib = D ++ [⟨nm, p, M⟩] := by
  have e : lastP { a with jumps := js } = lastP a := rfl
  unfold Go.Proofs.YtkmafpfldnapjaaGreatDoor.setL
  rw [e, h.last]
  show a.lib.dropLast ++ _ = _
  rw [h.lib]
  simp
theorem lineA_in {a : As} {n : Nat} {ws : List Wd} (h : a.opn = true) (hn : ws ≠ []) : lineA a n ws = insideA a n ws := by
  unfold lineA
  rw [if_neg hn, if_pos h]
theorem words1 {ws : List Wd} {t : List UInt8} {r : List (List UInt8)} (h : ws.map (·.1) = t :: r) : ∃ c ws', ws = (t, c) :: ws' ∧ ws'.map (·.1) = r := by
  cases ws with
  | nil => cases h
  | cons x ws =>
    simp only [List.map_cons, List.cons.injEq] at h
    exact ⟨x.2, ws, by rw [← h.1], h.2⟩
theorem words0 {ws : List Wd} (h : ws.map (·.1) = []) : ws = [] := List.map_eq_nil_iff.1 h
theorem run_first (D : List PP) (nm : List UInt8) (p : Nums) (L : List K) (hp : NIn p) : Runs [wl1 nm p] (Out D) (In D nm p L 0 0) := .one fun a n ws hO hw hne => by
  have d0 := dg_num hp.1
  have d1 := dg_num hp.2.1
  have d2 := dg_num hp.2.2.1
  have d3 := dg_num hp.2.2.2
  obtain ⟨c0, ws0, rfl, h0⟩ := words1 hw
  obtain ⟨c1, ws1, rfl, h1⟩ := words1 h0
  obtain ⟨c2, ws2, rfl, h2⟩ := words1 h1
  obtain ⟨c3, ws3, rfl, h3⟩ := words1 h2
  obtain ⟨c4, ws4, rfl, h4⟩ := words1 h3
  obtain ⟨c5, ws5, rfl, h5⟩ := words1 h4
  obtain ⟨c6, ws6, rfl, h6⟩ := words1 h5
  obtain ⟨c7, ws7, rfl, h7⟩ := words1 h6
  obtain ⟨c8, ws8, rfl, h8⟩ := words1 h7
  obtain ⟨c9, ws9, rfl, h9⟩ := words1 h8
  obtain rfl := words0 h9
  refine ⟨{ a with lib := a.lib ++ [⟨nm, p, []⟩], names := a.names ++ [(n + 1, c1)], opn := true, begun := (n + 1, c0), labels := [], jumps := [] }, ?_, rfl, ?_, rfl, rfl⟩
  · unfold lineA
    rw [if_neg hne, if_neg (by rw [hO.1]; simp)]
    simp [firstA, rMust, rNext, rFour, rNum, rEnd, kwN, nwL, d0, d1, d2, d3]
  · show a.lib ++ _ = _
    rw [hO.2]
    rfl
theorem labs_up {L : List K} {m : Nat} : labs L (m + 1) = labs L m ++ (if lndB L m = true then [(labelL (m : Int), m)] else []) := by
  unfold labs
  rw [List.range_succ, List.filter_append, List.map_append]
  congr 1
  by_cases h : lndB L m = true
  · rw [if_pos h]; simp [h]
  · rw [if_neg h]; simp [h]
theorem jmpI_up {L : List K} {i : Nat} : jmpI L (i + 1) = jmpI L i ++ (if jumpB (cd L i).1 = true then [i] else []) := by
  unfold jmpI
  rw [List.range_succ, List.filter_append]
  congr 1
  by_cases h : jumpB (cd L i).1 = true
  · rw [if_pos h]; simp [h]
  · rw [if_neg h]; simp [h]
theorem lb_inj {i j : Nat} (hi : i ≤ 256) (hj : j ≤ 256) (h : labelL (i : Int) = labelL (j : Int)) : i = j := by
  simp only [labelL, List.cons.injEq, true_and] at h
  have := dg_inj (by unfold In64; omega) (by unfold In64; omega) h
  omega
theorem labN_labs {L : List K} {t : Nat} (ht : t ≤ 256) : ∀ m, m ≤ 257 → labN (labs L m) (labelL (t : Int)) = if t < m ∧ lndB L t = true then some t else none
  | 0, _ => by simp [labs, labN]
  | m + 1, hm => by
    have ih := labN_labs (L := L) ht m (by omega)
    rw [labs_up]
    unfold labN at ih ⊢
    rw [List.find?_append]
    by_cases hl : lndB L m = true
    · rw [if_pos hl]
      by_cases hx : t < m ∧ lndB L t = true
      · rw [if_pos hx] at ih
        rw [if_pos ⟨by omega, hx.2⟩]
        cases hf : (labs L m).find? (fun x => x.1 == labelL (t : Int)) with
        | none => rw [hf] at ih; cases ih
        | some y => rw [hf] at ih; exact ih
      · rw [if_neg hx] at ih
        have hf : (labs L m).find? (fun x => x.1 == labelL (t : Int)) = none := by
          cases hf : (labs L m).find? (fun x => x.1 == labelL (t : Int)) with
          | none => rfl
          | some y => rw [hf] at ih; cases ih
        rw [hf]
        by_cases e : t = m
        · subst e
          rw [if_pos ⟨by omega, hl⟩]
          simp
        · rw [if_neg (fun h => hx ⟨by omega, h.2⟩)]
          have : ¬ labelL (m : Int) = labelL (t : Int) := fun h => e (lb_inj ht (by omega) h.symm)
          simp [this]
    · rw [if_neg hl, List.find?_nil, Option.or_none, ih]
      by_cases hx : t < m ∧ lndB L t = true
      · rw [if_pos hx, if_pos ⟨by omega, hx.2⟩]
      · rw [if_neg hx, if_neg (fun h => ?_)]
        by_cases e : t = m
        · subst e; exact hl h.2
        · exact hx ⟨by omega, h.2⟩
theorem labN_none {L : List K} {t m : Nat} (ht : t ≤ 256) (hm : m ≤ t) : labN (labs L m) (labelL (t : Int)) = none := by
  rw [labN_labs ht m (by omega), if_neg (fun h => by have := h.1; omega)]
theorem lb_name {t : Nat} (ht : t ≤ 256) : nameB (S (labelL (t : Int))) = true := by
  have : ∀ t : Nat, t < 257 → nameB (S (labelL (t : Int))) = true := by decide +kernel
  exact this t (by omega)
theorem run_label (D : List PP) (nm : List UInt8) (p : Nums) (L : List K) (i : Nat) (hi : i ≤ 256) (hl : i ≤ L.length) (h : lndB L i = true) : Runs [wlL i] (In D nm p L i i) (In D nm p L i (i + 1)) := .one fun a n ws hI hw hne => by
  obtain ⟨c0, ws0, rfl, h0⟩ := words1 hw
  obtain rfl := words0 h0
  refine ⟨{ a with labels := a.labels ++ [(labelL (i : Int), i)] }, ?_, hI.opn, hI.lib, ?_, hI.jmp⟩
  · rw [lineA_in hI.opn hne]
    simp only [insideA]
    have e1 : ¬ labelL (i : Int) ++ [58] = endL := fun e => by
      have := congrArg (fun x => x.head?) e
      simp [labelL, endL] at this
    have e2 : (labelL (i : Int) ++ [58]).getLast? = some 58 := by simp
    have e3 : (labelL (i : Int) ++ [58]).dropLast = labelL (i : Int) := by simp
    rw [if_neg e1, if_pos e2, e3, lb_name hi, if_neg (by simp)]
    rw [hI.lab, labN_none hi (Nat.le_refl _), if_neg (by simp)]
    simp only [rEnd]
    rw [hI.last]
    have : ((L.take i).map unj).length = i := by simp; omega
    simp only [this]
  · show a.labels ++ _ = _
    rw [hI.lab, labs_up, if_pos h]
/-- what a sound program's instruction is -/
structure KOK (L : List K) (i : Nat) : Prop where
  op : isOpB (cd L i).1 = true
  jmp : jumpB (cd L i).1 = true → (i : Int) < (cd L i).2 ∧ (cd L i).2 ≤ (L.length : Int)
  num : In64 (cd L i).2
  plain : jumpB (cd L i).1 = false → wantsB (cd L i).1 = false → (cd L i).2 = 0
theorem take_unj {L : List K} {i : Nat} (h : i < L.length) : (L.take (i + 1)).map unj = (L.take i).map unj ++ [unj (cd L i)] := by
  rw [List.take_add_one, List.getElem?_eq_getElem h, List.map_append]
  congr 1
  unfold cd
  rw [List.getD_eq_getElem?_getD, List.getElem?_eq_getElem h]
  rfl
theorem run_instr (D : List PP) (nm : List UInt8) (p : Nums) (L : List K) (i : Nat) (hL : L.length ≤ 256) (hi : i < L.length) (hk : KOK L i) : Runs [wlI (cd L i)] (In D nm p L i (i + 1)) (In D nm p L (i + 1) (i + 1)) := .one fun a n ws hI hw hne => by
  obtain ⟨_, s1, s2, s3, s4⟩ := sp_facts hk.op
  have hlen : ((L.take i).map unj).length = i := by simp; omega
  rw [lineA_in hI.opn hne]
  unfold wlI at hw
  cases hj : jumpB (cd L i).1 with
  | true =>
    rw [if_pos hj] at hw
    obtain ⟨c0, ws0, rfl, h0⟩ := words1 hw
    obtain ⟨c1, ws1, rfl, h1⟩ := words1 h0
    obtain rfl := words0 h1
    obtain ⟨g1, g2⟩ := hk.jmp hj
    obtain ⟨t, ht⟩ := Int.eq_ofNat_of_zero_le (show 0 ≤ (cd L i).2 by omega)
    have ht' : t ≤ 256 := by omega
    refine ⟨setL { a with jumps := a.jumps ++ [⟨i, labelL (cd L i).2, n + 1, c1⟩] } ((L.take i).map unj ++ [((cd L i).1, 0)]), ?_, hI.opn, ?_, hI.lab, ?_⟩
    · simp only [insideA]
      rw [if_neg s1, if_neg s2, s3, if_neg (by simp)]
      have hA : argA a (n + 1) (((cd L i).1.toNat : Nat) : Int) ([(labelL (cd L i).2, c1)], c0 + (sp (cd L i).1).length) = .ok (0, [⟨i, labelL (cd L i).2, n + 1, c1⟩], ([], c1 + (labelL (cd L i).2).length)) := by
        unfold argA
        rw [s4, if_pos hj]
        simp only [rNext]
        rw [ht, lb_name ht', if_neg (by simp), hI.lab, labN_none ht' (by omega), if_neg (by simp), hI.last, hlen]
      rw [hA]
      simp only [rEnd]
      rw [s4, hI.last]
    · rw [hI.setL, take_unj hi]
      unfold unj
      rw [if_pos hj]
    · show (a.jumps ++ _).map _ = _
      rw [List.map_append, hI.jmp, jmpI_up, if_pos hj, List.map_append]
      rfl
  | false =>
    rw [if_neg (by rw [hj]; simp)] at hw
    have hjI : jmpI L (i + 1) = jmpI L i := by rw [jmpI_up, if_neg (by rw [hj]; simp), List.append_nil]
    cases hwt : wantsB (cd L i).1 with
    | true =>
      rw [if_pos hwt] at hw
      obtain ⟨c0, ws0, rfl, h0⟩ := words1 hw
      obtain ⟨c1, ws1, rfl, h1⟩ := words1 h0
      obtain rfl := words0 h1
      refine ⟨setL { a with jumps := a.jumps ++ [] } ((L.take i).map unj ++ [cd L i]), ?_, hI.opn, ?_, hI.lab, ?_⟩
      · simp only [insideA]
        rw [if_neg s1, if_neg s2, s3, if_neg (by simp)]
        have hA : argA a (n + 1) (((cd L i).1.toNat : Nat) : Int) ([(dg (cd L i).2, c1)], c0 + (sp (cd L i).1).length) = .ok ((cd L i).2, [], ([], c1 + (dg (cd L i).2).length)) := by
          unfold argA
          rw [s4, if_neg (by rw [hj]; simp), if_pos hwt]
          simp only [rNum, rNext]
          rw [dg_num hk.num, if_pos rfl]
        rw [hA]
        simp only [rEnd]
        rw [s4, hI.last]
      · rw [hI.setL, take_unj hi]
        unfold unj
        rw [if_neg (by rw [hj]; simp)]
      · show (a.jumps ++ []).map _ = _
        rw [List.append_nil, hI.jmp, hjI]
    | false =>
      rw [if_neg (by rw [hwt]; simp)] at hw
      obtain ⟨c0, ws0, rfl, h0⟩ := words1 hw
      obtain rfl := words0 h0
      refine ⟨setL { a with jumps := a.jumps ++ [] } ((L.take i).map unj ++ [cd L i]), ?_, hI.opn, ?_, hI.lab, ?_⟩
      · simp only [insideA]
        rw [if_neg s1, if_neg s2, s3, if_neg (by simp)]
        have hA : argA a (n + 1) (((cd L i).1.toNat : Nat) : Int) ([], c0 + (sp (cd L i).1).length) = .ok ((cd L i).2, [], ([], c0 + (sp (cd L i).1).length)) := by
          unfold argA
          rw [s4, if_neg (by rw [hj]; simp), if_neg (by rw [hwt]; simp), hk.plain hj hwt]
        rw [hA]
        simp only [rEnd]
        rw [s4, hI.last]
      · rw [hI.setL, take_unj hi]
        unfold unj
        rw [if_neg (by rw [hj]; simp)]
      · show (a.jumps ++ []).map _ = _
        rw [List.append_nil, hI.jmp, hjI]
end Go.Proofs.YtkmafpfldnapjaaGreatDoor
/-
  A LISTING IS ASSEMBLED TO WHAT IT LISTS.
-/
namespace Go.Proofs.YtkmafpfldnapjaaGreatDoor
open Go.RowKit Go.Sort Go.Shelf

theorem cdmem {L : List K} {i : Nat} (h : i < L.length) : cd L i ∈ L := kd_mem h
theorem lnd_of {L : List K} {i t : Nat} (h : i < L.length) (hj : jumpB (cd L i).1 = true) (ht : (cd L i).2 = (t : Int)) : lndB L t = true := by
  unfold lndB
  rw [List.any_eq_true]
  exact ⟨cd L i, cdmem h, by rw [hj, ht]; simp⟩
theorem cd_ext {M L : List K} (hl : M.length = L.length) (h : ∀ i, i < L.length → cd M i = cd L i) : M = L := by
  apply List.ext_getElem?
  intro i
  by_cases hi : i < L.length
  · have e := h i hi
    unfold cd at e
    rw [List.getD_eq_getElem?_getD, List.getD_eq_getElem?_getD, List.getElem?_eq_getElem hi, List.getElem?_eq_getElem (by omega)] at e
    rw [List.getElem?_eq_getElem hi, List.getElem?_eq_getElem (by omega)]
    exact congrArg some e
  · rw [List.getElem?_eq_none (by omega), List.getElem?_eq_none (by omega)]
theorem fix_all {L : List K} (hL : L.length ≤ 256) (hk : ∀ i, i < L.length → KOK L i) : ∀ (is : List Nat) (js : List Jp) (M : List K), js.map (fun j => (j.frm, j.label)) = is.map (fun i => (i, labelL (cd L i).2)) → (∀ i ∈ is, i < L.length ∧ jumpB (cd L i).1 = true) → M.length = L.length → (∀ i, i < L.length → cd M i = cd L i ∨ (i ∈ is ∧ (cd M i).1 = (cd L i).1)) → fixN (labs L (L.length + 1)) js M = .ok L
  | [], js, M, h, _, hl, hm => by
    obtain rfl : js = [] := by simpa using h
    simp only [fixN, Except.ok.injEq]
    refine cd_ext hl (fun i hi => ?_)
    rcases hm i hi with e | ⟨h, _⟩
    · exact e
    · cases h
  | i :: is, [], M, h, _, _, _ => by simp at h
  | i :: is, j :: js, M, h, hi, hl, hm => by
    simp only [List.map_cons, List.cons.injEq, Prod.mk.injEq] at h
    obtain ⟨⟨h1, h2⟩, h3⟩ := h
    obtain ⟨g1, g2⟩ := hi i List.mem_cons_self
    obtain ⟨q1, q2⟩ := (hk i g1).jmp g2
    obtain ⟨t, ht⟩ := Int.eq_ofNat_of_zero_le (show 0 ≤ (cd L i).2 by omega)
    have hlab : labN (labs L (L.length + 1)) j.label = some t := by rw [h2, ht, labN_labs (by omega) _ (by omega), if_pos ⟨by omega, lnd_of g1 g2 ht⟩]
    rw [fixN, hlab]
    simp only
    rw [h1]
    refine fix_all hL hk is js _ h3 (fun m hm' => hi m (List.mem_cons_of_mem _ hm')) (by rw [List.length_set]; exact hl) (fun m hm' => ?_)
    rw [cd_set _ _ _ _ (by omega)]
    split
    · rename_i e
      subst e
      left
      have e1 : (kd M i).1 = (cd L i).1 := by
        rcases hm i hm' with e | ⟨_, e⟩
        · exact congrArg Prod.fst e
        · exact e
      rw [e1, ← ht]
    · rename_i e
      rcases hm m hm' with e2 | ⟨h, e2⟩
      · exact .inl e2
      · rcases List.mem_cons.1 h with rfl | h
        · exact absurd rfl e
        · exact .inr ⟨h, e2⟩
theorem cd_unj {L : List K} {i : Nat} (h : i < L.length) : cd (L.map unj) i = unj (cd L i) := by
  unfold cd
  rw [List.getD_eq_getElem?_getD, List.getD_eq_getElem?_getD, List.getElem?_map, List.getElem?_eq_getElem h]
  rfl
theorem mem_jmpI {L : List K} {n i : Nat} : i ∈ jmpI L n ↔ i < n ∧ jumpB (cd L i).1 = true := by
  unfold jmpI
  rw [List.mem_filter, List.mem_range]
theorem run_end (D : List PP) (nm : List UInt8) (p : Nums) (L : List K) (hL : L.length ≤ 256) (hk : ∀ i, i < L.length → KOK L i) : Runs [[endlL]] (In D nm p L L.length (L.length + 1)) (Out (D ++ [⟨nm, p, L⟩])) := .one fun a n ws hI hw hne => by
  obtain ⟨c0, ws0, rfl, h0⟩ := words1 hw
  obtain rfl := words0 h0
  refine ⟨{ setL a L with opn := false }, ?_, rfl, ?_⟩
  · rw [lineA_in hI.opn hne]
    simp only [insideA]
    rw [if_pos (show endlL = endL from rfl)]
    simp only [rEnd]
    rw [hI.last, List.take_length, hI.lab]
    rw [fix_all hL hk (jmpI L L.length) a.jumps (L.map unj) hI.jmp (fun i hi => mem_jmpI.1 hi) (by simp) (fun i hi => ?_)]
    rw [cd_unj hi]
    unfold unj
    split
    · rename_i hj
      exact .inr ⟨mem_jmpI.2 ⟨hi, hj⟩, rfl⟩
    · exact .inl rfl
  · have := hI.setL a.jumps L
    exact this
theorem run_lbl (D : List PP) (nm : List UInt8) (p : Nums) (L : List K) (i : Nat) (hi : i ≤ 256) (hl : i ≤ L.length) : Runs (if lndB L i = true then [wlL i] else []) (In D nm p L i i) (In D nm p L i (i + 1)) := by
  by_cases h : lndB L i = true
  · rw [if_pos h]
    exact run_label D nm p L i hi hl h
  · rw [if_neg h]
    refine (Runs.nil (In D nm p L i i)).mono (fun _ h => h) (fun a ha => ⟨ha.opn, ha.lib, ?_, ha.jmp⟩)
    rw [ha.lab, labs_up, if_neg h, List.append_nil]
theorem run_body (D : List PP) (nm : List UInt8) (p : Nums) (L : List K) (hL : L.length ≤ 256) (hk : ∀ i, i < L.length → KOK L i) : ∀ i, i ≤ L.length → Runs (wbody L i) (In D nm p L 0 0) (In D nm p L i i)
  | 0, _ => Runs.nil _
  | i + 1, hi => ((run_body D nm p L hL hk i (by omega)).seq (run_lbl D nm p L i (by omega) (by omega))).seq (run_instr D nm p L i hL (by omega) (hk i (by omega)))
/-- a procedure that is sound -/
structure GoodX (x : PP) : Prop where
  name : nameB (S x.name) = true
  nums : NIn x.p
  few : x.L.length ≤ 256
  ins : ∀ i, i < x.L.length → KOK x.L i
def wX (x : PP) : List (List (List UInt8)) := wproc x.name x.p x.L
theorem run_proc (D : List PP) {x : PP} (h : GoodX x) : Runs (wX x) (Out D) (Out (D ++ [x])) :=
  (((run_first D x.name x.p x.L h.nums).seq (run_body D x.name x.p x.L h.few h.ins x.L.length (Nat.le_refl _))).seq (run_lbl D x.name x.p x.L x.L.length h.few (Nat.le_refl _))).seq (run_end D x.name x.p x.L h.few h.ins)
theorem run_lib : ∀ (Ps D : List PP), (∀ x ∈ Ps, GoodX x) → Runs (Ps.flatMap wX) (Out D) (Out (D ++ Ps))
  | [], D, _ => by rw [List.append_nil]; exact Runs.nil _
  | x :: Ps, D, h => by
    have h1 := (run_proc D (h x List.mem_cons_self)).seq (run_lib Ps (D ++ [x]) (fun y hy => h y (List.mem_cons_of_mem _ hy)))
    rw [List.append_assoc] at h1
    exact h1
theorem firstP_all {f : Nat → Int} : ∀ {n : Nat}, (firstP f n).2 = 0 → ∀ i, i < n → f i = 0
  | 0, _, i, hi => by omega
  | n + 1, h, i, hi => by
    unfold firstP at h
    split at h
    · rename_i h1; exact absurd h h1
    · rename_i h1
      split at h
      · rename_i h2; exact absurd h h2
      · rename_i h2
        by_cases e : i = n
        · subst e; simpa using h2
        · exact firstP_all (by simpa using h1) i (by omega)
theorem kok_of {p : Nums} {L : List K} (h : verifyN p L = 0) (hk : ∀ k ∈ L, KIn k) : L.length ≤ 256 ∧ ∀ i, i < L.length → KOK L i := by
  obtain ⟨h1, h2, _⟩ := verify_ok h
  refine ⟨((limB_iff p L.length).1 h1).2.2.2.2, fun i hi => ?_⟩
  have h3 := firstE_zero h2 i hi
  unfold lookN at h3
  split at h3
  · cases h3
  · rename_i ho
    split at h3
    · cases h3
    · rename_i hj
      split at h3
      · cases h3
      · rename_i hf
        refine ⟨by simpa using ho, fun h => ?_, (hk _ (cdmem hi)).2, fun hj' hw => ?_⟩
        · by_cases hx : (cd L i).2 ≤ (i : Int) ∨ (L.length : Int) < (cd L i).2
          · exact absurd ⟨h, hx⟩ hj
          · omega
        · simp only [wantsB, Bool.or_eq_false_iff, decide_eq_false_iff_not] at hw
          have hf' : fitsB p (cd L i).1 (cd L i).2 = true := by simpa using hf
          unfold fitsB at hf'
          rw [decide_eq_false (by omega), Bool.false_or, Bool.and_eq_true, decide_eq_true_eq, decide_eq_true_eq] at hf'
          unfold roomN at hf'
          rw [if_neg (by omega), if_neg (by omega), if_neg (by omega), if_neg (by omega), if_neg (by omega)] at hf'
          omega
/-- what a check that finds nothing says -/
theorem good_of {Ps : List Pr} (hc : (checkN Ps).2 = 0) (hk : ∀ x ∈ Ps, NIn x.p ∧ ∀ k ∈ x.L, KIn k) : ∀ x ∈ Ps.map ppOf, GoodX x := fun y hy => by
  obtain ⟨x, hx, rfl⟩ := List.mem_map.1 hy
  unfold checkN at hc
  split at hc
  · cases hc
  · obtain ⟨i, hi, e⟩ := List.getElem_of_mem hx
    have h1 := firstP_all hc i hi
    have e2 : pd Ps i = x := by
      unfold pd
      rw [List.getD_eq_getElem?_getD, List.getElem?_eq_getElem hi, e]
      rfl
    unfold chkOne at h1
    rw [e2] at h1
    split at h1
    · cases h1
    · rename_i hn
      obtain ⟨g1, g2⟩ := kok_of h1 (hk x hx).2
      refine ⟨?_, (hk x hx).1, g1, g2⟩
      show nameB (S x.name.data.toList) = true
      rw [S_of]
      by_cases h : nameB x.name = true
      · exact h
      · exact absurd (.inl (by simpa using h)) hn
theorem list_of : ∀ (Ps : List Pr), (∀ x ∈ Ps.map ppOf, GoodX x) → LOf (Ps.flatMap linesX) ((Ps.map ppOf).flatMap wX)
  | [], _ => .nil
  | x :: Ps, h => by
    rw [List.flatMap_cons, List.map_cons, List.flatMap_cons]
    have hx := h (ppOf x) List.mem_cons_self
    exact (proc_of hx.name (fun i hi => (hx.ins i hi).op)).app (list_of Ps (fun y hy => h y (List.mem_cons_of_mem _ hy)))
theorem listT_join : ∀ (Ps : List Pr), listT Ps = joinL (Ps.flatMap linesX)
  | [] => rfl
  | x :: Ps => by rw [listT, listT_join Ps, List.flatMap_cons, joinL_append]; rfl
/-- a text that has a sound library's words -/
theorem back_text {Ps : List Pr} (hc : (checkN Ps).2 = 0) (hk : ∀ x ∈ Ps, NIn x.p ∧ ∀ k ∈ x.L, KIn k) {l : List UInt8} (hl : neW (tokN l) = neW (tokN (listT Ps))) : ∃ a, linesA (splitN l) (splitN l).length = .ok a ∧ a.opn = false ∧ a.lib = Ps.map ppOf := by
  have hg := good_of hc hk
  have h1 : neW (tokN l) = (Ps.map ppOf).flatMap wX := by rw [hl, listT_join]; exact tok_lines (list_of Ps hg)
  obtain ⟨a, h2, h3, h4⟩ := (run_lib (Ps.map ppOf) [] hg).text ⟨rfl, rfl⟩ h1
  exact ⟨a, h2, h3, h4⟩
end Go.Proofs.YtkmafpfldnapjaaGreatDoor
