import Derived.Test.YtmkomfbjgmgemaaGreatDoorJAWorks
/-
  AN ERROR WITHIN THE LINES: where it stands, and which it is.
-/
namespace Go.Proofs.YtmkomfbjgmgemaaGreatDoor
open Go.RowKit Go.Sort

def ScC (x : Sc) : Prop := (∀ y ∈ x.words, 1 ≤ y.2) ∧ ∀ ws ∈ x.lines, ∀ y ∈ ws, 1 ≤ y.2
theorem scEnd_col {l : List UInt8} {x : Sc} {k c : Nat} (h : ScC x) : ScC (scEnd l x k c) := by
  unfold scEnd
  cases x.wf with
  | none => exact h
  | some f =>
    simp only
    split
    · refine ⟨fun y hy => ?_, h.2⟩
      rcases List.mem_append.1 hy with hy | hy
      · exact h.1 y hy
      · simp only [List.mem_singleton] at hy
        rw [hy]
        show 1 ≤ f - x.frm + 1
        omega
    · exact h
theorem sc_col (l : List UInt8) : ∀ k, ScC (scRun l k)
  | 0 => ⟨fun y hy => (by cases hy), fun ws hw => (by cases hw)⟩
  | k + 1 => by
    have h1 := sc_col l k
    show ScC (scStep l (scRun l k) k (byteAt l k))
    generalize scRun l k = x at *
    have e1 := scEnd_col (l := l) (k := k) (c := byteAt l k) h1
    unfold scStep
    split
    · refine ⟨fun y hy => (by cases hy), fun ws hw => ?_⟩
      rcases List.mem_append.1 hw with hw | hw
      · exact e1.2 ws hw
      · simp only [List.mem_singleton] at hw
        rw [hw]
        exact e1.1
    · split
      · exact ⟨e1.1, e1.2⟩
      · split
        · exact ⟨h1.1, h1.2⟩
        · exact e1
theorem split_col (l : List UInt8) : ∀ ws ∈ splitN l, ∀ y ∈ ws, 1 ≤ y.2 := (sc_col l _).2

/-- a reader whose columns are from 1 on -/
def RdC (r : Rd) : Prop := (∀ y ∈ r.1, 1 ≤ y.2) ∧ (r.1 = [] → 1 ≤ r.2)
def ErC (e : Er) : Prop := 1 ≤ e.1 ∧ (e.2 = 33 ∨ e.2 = 40 ∨ e.2 = 41 ∨ e.2 = 42 ∨ e.2 = 43)
def XC {α : Type} (P : α → Prop) : Except Er α → Prop
  | .error e => ErC e
  | .ok a => P a
def E3 (E : Nat × Nat × Int) : Prop := 1 ≤ E.1 ∧ ErC E.2
def XC3 {α : Type} (P : α → Prop) : Except (Nat × Nat × Int) α → Prop
  | .error e => E3 e
  | .ok a => P a
theorem rNext_c {r : Rd} (h : RdC r) : XC (fun p => 1 ≤ p.1.2 ∧ RdC p.2) (rNext r) := by
  obtain ⟨ws, b⟩ := r
  cases ws with
  | nil => exact ⟨h.2 rfl, .inr (.inl rfl)⟩
  | cons x ws =>
    have hx : 1 ≤ x.2 := h.1 x List.mem_cons_self
    exact ⟨hx, fun y hy => h.1 y (List.mem_cons_of_mem _ hy), fun _ => by show 1 ≤ x.2 + x.1.length; omega⟩
theorem rMust_c (t : List UInt8) {r : Rd} (h : RdC r) : XC RdC (rMust t r) := by
  have h1 := rNext_c h
  unfold rMust
  cases hE : rNext r with
  | error e => rw [hE] at h1; exact h1
  | ok p =>
    obtain ⟨x, r'⟩ := p
    rw [hE] at h1
    simp only
    split
    · exact h1.2
    · exact ⟨h1.1, .inr (.inl rfl)⟩
theorem rNum_c {r : Rd} (h : RdC r) : XC (fun p => RdC p.2) (rNum r) := by
  have h1 := rNext_c h
  unfold rNum
  cases hE : rNext r with
  | error e => rw [hE] at h1; exact h1
  | ok p =>
    obtain ⟨x, r'⟩ := p
    rw [hE] at h1
    simp only
    split
    · exact h1.2
    · exact ⟨h1.1, .inr (.inr (.inl rfl))⟩
theorem rEnd_c {r : Rd} (h : RdC r) {e : Er} (he : rEnd r = some e) : ErC e := by
  obtain ⟨ws, b⟩ := r
  cases ws with
  | nil => cases he
  | cons x ws =>
    simp only [rEnd, Option.some.injEq] at he
    rw [← he]
    exact ⟨h.1 x List.mem_cons_self, .inr (.inl rfl)⟩
theorem rFour_c {r : Rd} (h : RdC r) : ∀ k, XC (fun p => RdC p.2) (rFour r k)
  | 0 => h
  | k + 1 => by
    have h1 := rFour_c h k
    unfold rFour
    cases hE : rFour r k with
    | error e => rw [hE] at h1; exact h1
    | ok p =>
      obtain ⟨ns, r1⟩ := p
      rw [hE] at h1
      simp only
      have h2 := rMust_c (kwN k) (show RdC r1 from h1)
      cases hE2 : rMust (kwN k) r1 with
      | error e => rw [hE2] at h2; exact h2
      | ok r2 =>
        rw [hE2] at h2
        simp only
        have h3 := rNum_c (show RdC r2 from h2)
        cases hE3 : rNum r2 with
        | error e => rw [hE3] at h3; exact h3
        | ok p =>
          obtain ⟨n, r3⟩ := p
          rw [hE3] at h3
          exact h3
theorem firstA_c {a : As} {line : Nat} {ws : List Wd} (hn : ws ≠ []) (hw : ∀ y ∈ ws, 1 ≤ y.2) : XC (fun a' => a'.jumps = []) (firstA a line ws) := by
  have h0 : RdC (ws, 0) := ⟨hw, fun h => absurd h hn⟩
  unfold firstA
  have h1 := rMust_c procL h0
  cases hE : rMust procL (ws, 0) with
  | error e => rw [hE] at h1; exact h1
  | ok r1 =>
    rw [hE] at h1
    simp only
    have h2 := rNext_c (show RdC r1 from h1)
    cases hE2 : rNext r1 with
    | error e => rw [hE2] at h2; exact h2
    | ok p =>
      obtain ⟨nm, r2⟩ := p
      rw [hE2] at h2
      simp only
      have h3 := rFour_c (show RdC r2 from h2.2) 4
      cases hE3 : rFour r2 4 with
      | error e => rw [hE3] at h3; exact h3
      | ok p =>
        obtain ⟨ns, r3⟩ := p
        rw [hE3] at h3
        simp only
        cases hE4 : rEnd r3 with
        | some e => exact rEnd_c h3 hE4
        | none => exact rfl
def JsC (a : As) : Prop := ∀ j ∈ a.jumps, 1 ≤ j.line ∧ 1 ≤ j.col
theorem fixN_c {ls : List (List UInt8 × Nat)} : ∀ {js : List Jp} {L : List K}, (∀ j ∈ js, 1 ≤ j.line ∧ 1 ≤ j.col) → XC3 (fun _ => True) (fixN ls js L)
  | [], L, _ => trivial
  | j :: js, L, h => by
    unfold fixN
    split
    · exact ⟨(h j List.mem_cons_self).1, (h j List.mem_cons_self).2, .inr (.inr (.inr (.inl rfl)))⟩
    · exact fixN_c (fun i hi => h i (List.mem_cons_of_mem _ hi))
theorem argA_c {a : As} {line : Nat} {op : Int} {r : Rd} (hl : 1 ≤ line) (h : RdC r) : XC (fun p => (∀ j ∈ p.2.1, 1 ≤ j.line ∧ 1 ≤ j.col) ∧ RdC p.2.2) (argA a line op r) := by
  unfold argA
  split
  · have h1 := rNext_c h
    cases hE : rNext r with
    | error e => rw [hE] at h1; exact h1
    | ok p =>
      obtain ⟨x, r1⟩ := p
      rw [hE] at h1
      simp only
      split
      · exact ⟨h1.1, .inr (.inl rfl)⟩
      · split
        · exact ⟨h1.1, .inl rfl⟩
        · refine ⟨fun j hj => ?_, h1.2⟩
          simp only [List.mem_singleton] at hj
          rw [hj]
          exact ⟨hl, h1.1⟩
  · split
    · have h1 := rNum_c h
      cases hE : rNum r with
      | error e => rw [hE] at h1; exact h1
      | ok p =>
        obtain ⟨n, r1⟩ := p
        rw [hE] at h1
        exact ⟨fun j hj => (by cases hj), h1⟩
    · exact ⟨fun j hj => (by cases hj), h⟩
theorem insideA_c {a : As} {line : Nat} {ws : List Wd} (hl : 1 ≤ line) (hw : ∀ y ∈ ws, 1 ≤ y.2) (hj : JsC a) : XC3 JsC (insideA a line ws) := by
  unfold insideA
  cases ws with
  | nil => exact hj
  | cons x rest =>
    have hx : 1 ≤ x.2 := hw x List.mem_cons_self
    have hr : RdC (rest, x.2 + x.1.length) := ⟨fun y hy => hw y (List.mem_cons_of_mem _ hy), fun _ => by show 1 ≤ x.2 + x.1.length; omega⟩
    simp only
    split
    · cases hE : rEnd (rest, x.2 + x.1.length) with
      | some e => exact ⟨hl, rEnd_c hr hE⟩
      | none =>
        simp only
        have h1 := fixN_c (ls := a.labels) (L := (lastP a).L) hj
        cases hF : fixN a.labels a.jumps (lastP a).L with
        | error e => rw [hF] at h1; exact h1
        | ok L => exact hj
    · split
      · split
        · exact ⟨hl, hx, .inr (.inl rfl)⟩
        · split
          · exact ⟨hl, hx, .inr (.inr (.inr (.inr rfl)))⟩
          · cases hE : rEnd (rest, x.2 + x.1.length) with
            | some e => exact ⟨hl, rEnd_c hr hE⟩
            | none => exact hj
      · split
        · exact ⟨hl, hx, .inr (.inl rfl)⟩
        · have h1 := argA_c (a := a) (op := ((opR (S x.1)).1 : Int)) hl hr
          cases hE : argA a line ((opR (S x.1)).1 : Int) (rest, x.2 + x.1.length) with
          | error e => rw [hE] at h1; exact ⟨hl, h1⟩
          | ok p =>
            obtain ⟨n, js, r1⟩ := p
            rw [hE] at h1
            simp only
            cases hE2 : rEnd r1 with
            | some e => exact ⟨hl, rEnd_c h1.2 hE2⟩
            | none =>
              intro j hj'
              rcases List.mem_append.1 (show j ∈ a.jumps ++ js from hj') with h | h
              · exact hj j h
              · exact h1.1 j h
theorem lineA_c {a : As} {line : Nat} {ws : List Wd} (hl : 1 ≤ line) (hw : ∀ y ∈ ws, 1 ≤ y.2) (hj : JsC a) : XC3 JsC (lineA a line ws) := by
  unfold lineA
  split
  · exact hj
  · rename_i hn
    split
    · exact insideA_c hl hw hj
    · have h1 := firstA_c (a := a) (line := line) hn hw
      cases hE : firstA a line ws with
      | error e => rw [hE] at h1; exact ⟨hl, h1⟩
      | ok a' =>
        rw [hE] at h1
        intro j hj'
        rw [show a'.jumps = [] from h1] at hj'
        cases hj'
theorem linesA_c {ls : List (List Wd)} (hw : ∀ ws ∈ ls, ∀ y ∈ ws, 1 ≤ y.2) : ∀ k, XC3 JsC (linesA ls k)
  | 0 => fun j hj => (by cases hj)
  | k + 1 => by
    have h1 := linesA_c hw k
    unfold linesA
    cases hE : linesA ls k with
    | error e => rw [hE] at h1; exact h1
    | ok a =>
      rw [hE] at h1
      simp only
      refine lineA_c (by omega) (fun y hy => ?_) h1
      rw [List.getD_eq_getElem?_getD] at hy
      cases hk : ls[k]? with
      | none => rw [hk] at hy; cases hy
      | some ws => rw [hk] at hy; exact hw ws (List.mem_of_getElem? hk) y hy
/-- an error within the lines: its place and its number -/
theorem lines_err {l : List UInt8} {E : Nat × Nat × Int} (h : linesA (splitN l) (splitN l).length = .error E) : 1 ≤ E.1 ∧ 1 ≤ E.2.1 ∧ (E.2.2 = 33 ∨ E.2.2 = 40 ∨ E.2.2 = 41 ∨ E.2.2 = 42 ∨ E.2.2 = 43) := by
  have h1 := linesA_c (split_col l) (splitN l).length
  rw [h] at h1
  exact h1
end Go.Proofs.YtmkomfbjgmgemaaGreatDoor
/-
  WHAT WAS READ TO ITS END: all jumps go forward, so that no check tells of one.
-/
namespace Go.Proofs.YtmkomfbjgmgemaaGreatDoor
open Go.RowKit Go.Sort

def fwP (L : List K) : Prop := ∀ i, i < L.length → jumpB (cd L i).1 = true → (i : Int) < (cd L i).2 ∧ (cd L i).2 ≤ (L.length : Int)
theorem cd_set (L : List K) (i j : Nat) (k : K) (h : i < L.length) : cd (L.set i k) j = if i = j then k else cd L j := by
  unfold cd
  rw [List.getD_eq_getElem?_getD, List.getD_eq_getElem?_getD, List.getElem?_set]
  split
  · rename_i e
    subst e
    rfl
  · rfl
theorem cd_app (L : List K) (k : K) (i : Nat) : cd (L ++ [k]) i = if i < L.length then cd L i else if i = L.length then k else (0, 0) := by
  unfold cd
  rw [List.getD_eq_getElem?_getD, List.getD_eq_getElem?_getD]
  split
  · rename_i h; rw [List.getElem?_append_left h]
  · rename_i h
    rw [List.getElem?_append_right (by omega)]
    split
    · rename_i e; rw [e]; simp
    · rw [List.getElem?_eq_none (by simp; omega)]; rfl
theorem labN_mem {ls : List (List UInt8 × Nat)} {nm : List UInt8} {t : Nat} (h : labN ls nm = some t) : ∃ y ∈ ls, y.2 = t := by
  unfold labN at h
  obtain ⟨y, hy, e⟩ := Option.map_eq_some_iff.1 h
  exact ⟨y, List.mem_of_find?_eq_some hy, e⟩
theorem labN_app {ls : List (List UInt8 × Nat)} {nm l : List UInt8} {t t0 : Nat} (h : labN (ls ++ [(nm, t0)]) l = some t) : labN ls l = some t ∨ t = t0 := by
  unfold labN at h ⊢
  rw [List.find?_append] at h
  cases hf : ls.find? (fun x => x.1 == l) with
  | some y => rw [hf] at h; exact .inl h
  | none =>
    rw [hf] at h
    obtain ⟨y, hy, e⟩ := Option.map_eq_some_iff.1 h
    have := List.mem_of_find?_eq_some (show List.find? (fun x => x.1 == l) [(nm, t0)] = some y from by simpa using hy)
    simp only [List.mem_singleton] at this
    rw [this] at e
    exact .inr e.symm
theorem fixN_fw {ls : List (List UInt8 × Nat)} : ∀ {js : List Jp} {L L' : List K}, fixN ls js L = .ok L' → (∀ j ∈ js, j.frm < L.length ∧ ∀ t, labN ls j.label = some t → j.frm < t ∧ t ≤ L.length) → (∀ i, i < L.length → jumpB (cd L i).1 = true → (∃ j ∈ js, j.frm = i) ∨ ((i : Int) < (cd L i).2 ∧ (cd L i).2 ≤ (L.length : Int))) → fwP L'
  | [], L, L', h, _, hg => by
    simp only [fixN, Except.ok.injEq] at h
    subst h
    intro i hi hb
    rcases hg i hi hb with ⟨j, hj, _⟩ | h
    · cases hj
    · exact h
  | j :: js, L, L', h, hj, hg => by
    simp only [fixN] at h
    split at h
    · cases h
    · rename_i t ht
      obtain ⟨h1, h2⟩ := hj j List.mem_cons_self
      obtain ⟨h3, h4⟩ := h2 t ht
      refine fixN_fw h (fun i hi => ?_) (fun i hi hb => ?_)
      · rw [List.length_set]
        exact hj i (List.mem_cons_of_mem _ hi)
      · rw [List.length_set] at hi ⊢
        rw [cd_set _ _ _ _ h1] at hb ⊢
        split
        · rename_i e
          subst e
          right
          simp only
          omega
        · rename_i e
          rw [if_neg e] at hb
          rcases hg i hi hb with ⟨m, hm, rfl⟩ | h
          · rcases List.mem_cons.1 hm with rfl | hm
            · exact absurd rfl e
            · exact .inl ⟨m, hm, rfl⟩
          · exact .inr h
structure FwA (a : As) : Prop where
  old : ∀ x ∈ (if a.opn = true then a.lib.dropLast else a.lib), fwP x.L
  ne : a.opn = true → a.lib ≠ []
  lab : a.opn = true → ∀ y ∈ a.labels, y.2 ≤ (lastP a).L.length
  jmp : a.opn = true → ∀ j ∈ a.jumps, j.frm < (lastP a).L.length ∧ ∀ t, labN a.labels j.label = some t → j.frm < t
  all : a.opn = true → ∀ i, i < (lastP a).L.length → jumpB (cd (lastP a).L i).1 = true → ∃ j ∈ a.jumps, j.frm = i
inductive InFw (a : As) : As → Prop where
  | fin (L : List K) (h : fixN a.labels a.jumps (lastP a).L = .ok L) : InFw a { setL a L with opn := false }
  | lab (nm : List UInt8) : InFw a { a with labels := a.labels ++ [(nm, (lastP a).L.length)] }
  | ins (op n : Int) (js : List Jp) (h : (∃ lb line col, js = [⟨(lastP a).L.length, lb, line, col⟩] ∧ labN a.labels lb = none) ∨ (js = [] ∧ jumpB op = false)) : InFw a (setL { a with jumps := a.jumps ++ js } ((lastP a).L ++ [(op, n)]))
theorem argA_fw {a : As} {line : Nat} {op n : Int} {r : Rd} {js : List Jp} {r1 : Rd} (h : argA a line op r = .ok (n, js, r1)) : (∃ lb line col, js = [⟨(lastP a).L.length, lb, line, col⟩] ∧ labN a.labels lb = none) ∨ (js = [] ∧ jumpB op = false) := by
  unfold argA at h
  split at h
  · split at h
    · cases h
    · rename_i x r2 _
      split at h
      · cases h
      · split at h
        · cases h
        · rename_i hl
          simp only [Except.ok.injEq, Prod.mk.injEq] at h
          exact .inl ⟨_, _, _, h.2.1.symm, by simpa using hl⟩
  · rename_i hb
    have hb' : jumpB op = false := by simpa using hb
    split at h
    · split at h
      · cases h
      · simp only [Except.ok.injEq, Prod.mk.injEq] at h
        exact .inr ⟨h.2.1.symm, hb'⟩
    · simp only [Except.ok.injEq, Prod.mk.injEq] at h
      exact .inr ⟨h.2.1.symm, hb'⟩
theorem insideA_fw {a a' : As} {line : Nat} {x : Wd} {rest : List Wd} (h : insideA a line (x :: rest) = .ok a') : InFw a a' := by
  simp only [insideA] at h
  split at h
  · split at h
    · cases h
    · split at h
      · cases h
      · rename_i L hL
        simp only [Except.ok.injEq] at h
        rw [← h]
        exact .fin L hL
  · split at h
    · split at h
      · cases h
      · split at h
        · cases h
        · split at h
          · cases h
          · simp only [Except.ok.injEq] at h
            rw [← h]
            exact .lab _
    · split at h
      · cases h
      · split at h
        · cases h
        · rename_i n js r1 hA
          split at h
          · cases h
          · simp only [Except.ok.injEq] at h
            rw [← h]
            exact .ins _ _ js (argA_fw hA)
theorem setL_drop (a : As) (L : List K) : (setL a L).lib.dropLast = a.lib.dropLast := by simp [setL]
theorem inside_fw {a a' : As} (h : FwA a) (ho : a.opn = true) (hi : InFw a a') : FwA a' := by
  have hold : ∀ x ∈ a.lib.dropLast, fwP x.L := fun x hx => h.old x (by rw [if_pos ho]; exact hx)
  cases hi with
  | fin L hL =>
    have hf : fwP L := fixN_fw hL (fun j hj => ⟨(h.jmp ho j hj).1, fun t ht => ⟨(h.jmp ho j hj).2 t ht, by obtain ⟨y, hy, e⟩ := labN_mem ht; rw [← e]; exact h.lab ho y hy⟩⟩) (fun i hi hb => .inl (h.all ho i hi hb))
    refine ⟨fun x hx => ?_, fun e => (by cases e), fun e => (by cases e), fun e => (by cases e), fun e => (by cases e)⟩
    rw [if_neg (by simp)] at hx
    have hx' : x ∈ a.lib.dropLast ++ [{ lastP a with L := L }] := hx
    rcases List.mem_append.1 hx' with hx' | hx'
    · exact hold x hx'
    · simp only [List.mem_singleton] at hx'
      rw [hx']
      exact hf
  | lab nm =>
    refine ⟨h.old, h.ne, fun _ y hy => ?_, fun _ j hj => ⟨(h.jmp ho j hj).1, fun t ht => ?_⟩, h.all⟩
    · rcases List.mem_append.1 hy with hy | hy
      · exact h.lab ho y hy
      · simp only [List.mem_singleton] at hy
        rw [hy]
        exact Nat.le_refl _
    · rcases labN_app ht with h1 | h1
      · exact (h.jmp ho j hj).2 t h1
      · rw [h1]
        exact (h.jmp ho j hj).1
  | ins op n js hj =>
    have hlp : (lastP (setL { a with jumps := a.jumps ++ js } ((lastP a).L ++ [(op, n)]))).L = (lastP a).L ++ [(op, n)] := by rw [lastP_setL]
    have hjs : ∀ j ∈ js, j.frm < (lastP a).L.length + 1 ∧ ∀ t, labN a.labels j.label = some t → j.frm < t := fun j hm => by
      rcases hj with ⟨lb, line, col, rfl, hl⟩ | ⟨rfl, _⟩
      · simp only [List.mem_singleton] at hm
        rw [hm]
        exact ⟨by simp, fun t ht => by rw [show (labN a.labels lb) = some t from ht] at hl; cases hl⟩
      · cases hm
    refine ⟨fun x hx => ?_, fun _ => by simp [setL], fun _ y hy => ?_, fun _ j hm => ?_, fun _ i hi hb => ?_⟩
    · rw [if_pos (show (setL { a with jumps := a.jumps ++ js } ((lastP a).L ++ [(op, n)])).opn = true from ho), setL_drop] at hx
      exact hold x hx
    · rw [hlp, List.length_append]
      have := h.lab ho y hy
      omega
    · rw [hlp, List.length_append]
      rcases List.mem_append.1 (show j ∈ a.jumps ++ js from hm) with hm | hm
      · exact ⟨by have := (h.jmp ho j hm).1; omega, (h.jmp ho j hm).2⟩
      · exact ⟨(hjs j hm).1, (hjs j hm).2⟩
    · rw [hlp] at hi hb
      rw [cd_app] at hb
      rw [List.length_append, List.length_singleton] at hi
      by_cases hl : i < (lastP a).L.length
      · rw [if_pos hl] at hb
        obtain ⟨j, hm, e⟩ := h.all ho i hl hb
        exact ⟨j, List.mem_append_left _ hm, e⟩
      · rw [if_neg hl, if_pos (by omega)] at hb
        rcases hj with ⟨lb, line, col, rfl, _⟩ | ⟨_, e⟩
        · exact ⟨_, List.mem_append_right _ List.mem_cons_self, by show (lastP a).L.length = i; omega⟩
        · rw [e] at hb; cases hb
theorem line_fw {a a' : As} {line : Nat} {ws : List Wd} (h : FwA a) (e : lineA a line ws = .ok a') : FwA a' := by
  unfold lineA at e
  split at e
  · simp only [Except.ok.injEq] at e
    rw [← e]
    exact h
  · rename_i hne
    split at e
    · rename_i ho
      cases ws with
      | nil => exact absurd rfl hne
      | cons x rest => exact inside_fw h ho (insideA_fw e)
    · rename_i ho
      split at e
      · cases e
      · rename_i a1 h1
        simp only [Except.ok.injEq] at e
        subst e
        obtain ⟨nm, ns, _, rfl⟩ := firstA_ok h1
        refine ⟨fun x hx => ?_, fun _ => by simp, fun _ y hy => (by cases hy), fun _ j hj => (by cases hj), fun _ i hi => ?_⟩
        · rw [if_pos rfl] at hx
          have hx' : x ∈ a.lib := by simpa using hx
          exact h.old x (by rw [if_neg ho]; exact hx')
        · simp [lastP] at hi
theorem lines_fw {ls : List (List Wd)} : ∀ k {a : As}, linesA ls k = .ok a → FwA a
  | 0, a, h => by
    simp only [linesA, Except.ok.injEq] at h
    subst h
    exact ⟨fun x hx => (by cases hx), fun e => (by cases e), fun e => (by cases e), fun e => (by cases e), fun e => (by cases e)⟩
  | k + 1, a, h => by
    simp only [linesA] at h
    cases hE : linesA ls k with
    | error e => rw [hE] at h; cases h
    | ok a0 => rw [hE] at h; exact line_fw (lines_fw k hE) h
/-- what a check may answer -/
def CkR (x : Int) : Prop := x = 0 ∨ x = 30 ∨ x = 31 ∨ x = 32 ∨ x = 34 ∨ x = 35 ∨ x = 36
theorem firstE_in (f : Nat → Int) (P : Int → Prop) (h0 : P 0) : ∀ k, (∀ i, i < k → P (f i)) → P (firstE f k)
  | 0, _ => h0
  | k + 1, h => by
    unfold firstE
    split
    · exact firstE_in f P h0 k (fun i hi => h i (by omega))
    · exact h k (by omega)
theorem firstP_in (f : Nat → Int) (P : Int → Prop) (h0 : P 0) : ∀ k, (∀ i, i < k → P (f i)) → P (firstP f k).2
  | 0, _ => h0
  | k + 1, h => by
    unfold firstP
    split
    · exact firstP_in f P h0 k (fun i hi => h i (by omega))
    · split
      · exact h k (by omega)
      · exact h0
theorem verify_r {p : Nums} {L : List K} (h : fwP L) : CkR (verifyN p L) := by
  unfold verifyN depthsN
  split
  · exact .inr (.inl rfl)
  · split
    · show CkR (lookAll p L L.length)
      unfold lookAll
      refine firstE_in _ CkR (.inl rfl) _ (fun i hi => ?_)
      unfold lookN
      split
      · exact .inr (.inr (.inl rfl))
      · split
        · rename_i h1
          have := h i hi h1.1
          omega
        · split
          · exact .inr (.inr (.inr (.inl rfl)))
          · exact .inl rfl
    · split
      · exact .inr (.inr (.inr (.inr (.inl rfl))))
      · exact .inl rfl
theorem check_r {Ps : List Pr} (h : ∀ x ∈ Ps, fwP x.L) : CkR (checkN Ps).2 := by
  unfold checkN
  split
  · exact .inr (.inr (.inr (.inr (.inr (.inr rfl)))))
  · refine firstP_in _ CkR (.inl rfl) _ (fun i hi => ?_)
    unfold chkOne
    split
    · exact .inr (.inr (.inr (.inr (.inr (.inl rfl)))))
    · exact verify_r (h _ (pd_mem hi))
/-- the check of what was read to its end -/
theorem read_r {ls : List (List Wd)} {k : Nat} {a : As} {Ps : List Pr} (h : linesA ls k = .ok a) (ho : a.opn = false) (e : a.lib = Ps.map ppOf) : CkR (checkN Ps).2 := by
  have h1 := (lines_fw k h).old
  rw [if_neg (by rw [ho]; simp), e] at h1
  exact check_r (fun x hx => h1 (ppOf x) (List.mem_map_of_mem hx))
end Go.Proofs.YtmkomfbjgmgemaaGreatDoor
