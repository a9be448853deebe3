/-
  Pin, Unpin.
-/
import Derived.Test.YtbmohlkcmhhpgaaGreatBkAdmit
namespace Go.Proofs.YtbmohlkcmhhpgaaGreat
open Go.RowKit Go.Sort

/-- a batch's count of pins -/
def fpn (pins : List (Int × Int)) (n : Int) : Option Int := (pins.find? (fun p => decide (p.1 = n))).map Prod.snd
theorem fpn_none {pins : List (Int × Int)} {n : Int} (h : fpn pins n = none) : ∀ p ∈ pins, p.1 ≠ n := by
  intro p hp
  have := List.find?_eq_none.1 (Option.map_eq_none_iff.1 h) p hp
  simpa using this
theorem fpn_some {pins : List (Int × Int)} {n c : Int} (h : fpn pins n = some c) : ∃ A C, pins = A ++ (n, c) :: C := by
  obtain ⟨e, h1, h2⟩ := Option.map_eq_some_iff.1 h
  obtain ⟨A, C, h3⟩ := List.append_of_mem (List.mem_of_find?_eq_some h1)
  have h4 := List.find?_some h1
  simp at h4
  exact ⟨A, C, by rw [h3, ← h4, ← h2]⟩
theorem fm_pins (pins : List (Int × Int)) (n : Int) : fm (pins.map (fun p => (p.1, ei p.2))) n = (fpn pins n).map ei := by
  induction pins with
  | nil => rfl
  | cons p l ih =>
    unfold fm fpn at *
    by_cases h : p.1 = n
    · simp [h]
    · rw [List.map_cons, List.find?_cons_of_neg (by simpa using h), List.find?_cons_of_neg (by simpa using h)]
      exact ih
/-- what Pin answers -/
def pinE (latest floor : Int) (pins : List (Int × Int)) (n : Int) : Int :=
  if n < 0 ∨ latest < n then 80 else match fpn pins n with
    | none => if n < floor then 103 else if pins.length = 32 then 104 else 0
    | some c => if c = 1099511627776 then 104 else 0
/-- one pin more -/
def Pinned (pins pins' : List (Int × Int)) (n : Int) : Prop := (fpn pins n = none ∧ pins' = pins ++ [(n, 1)]) ∨ ∃ A c C, pins = A ++ (n, c) :: C ∧ pins' = A ++ (n, c + 1) :: C
def PinPost (w : World) (B Mp Mc Mn : Nat) (cap latest floor : Int) (pins : List (Int × Int)) (all : List V4) (nw : List K) (n : Int) (e : Ending) (w' : World) : Prop :=
  (pinE latest floor pins n ≠ 0 ∧ e = .returned (.int .i64 (pinE latest floor pins n)) ∧ w' = w) ∨
  (pinE latest floor pins n = 0 ∧ e = .returned (.int .i64 0) ∧ ∃ pins', Pinned pins pins' n ∧ BA w' B Mp Mc Mn cap latest floor pins' all nw ∧ Fr (SB B Mp Mc Mn) w w')
theorem BA.pinsNew {w W : World} {B Mp Mc Mn : Nat} {cap latest floor : Int} {pins pins' : List (Int × Int)} {all : List V4} {nw : List K} (h : BA w B Mp Mc Mn cap latest floor pins all nw) (hm : MAt ei In64 W Mp (pins'.map (fun p => (p.1, ei p.2)))) (hg : w.grownBy W (some Mp)) (hl : pins'.length ≤ 32) (hp : ∀ p ∈ pins', 0 ≤ p.1 ∧ p.1 ≤ latest ∧ 1 ≤ p.2 ∧ p.2 ≤ 1099511627776) :
    BA W B Mp Mc Mn cap latest floor pins' all nw ∧ Fr (SB B Mp Mc Mn) w W := by
  have hne := h.Bne
  have hs : ∀ k, k < w.heap.size → k ≠ Mp → W.heap[k]? = w.heap[k]? := fun k hk hn => hg.block k hk (fun e => by cases e; exact hn rfl)
  exact ⟨⟨(hs B (blk_lt h.bk) hne.1).trans h.bk, hm, h.mc.same (hs _ h.mc.lt h.ne.1.symm), h.mn.same (hs _ h.mn.lt h.ne.2.1.symm), h.nwa, h.ne, h.cp, h.la, h.ln, h.pl, ⟨hl, hp⟩, h.rs, h.ik⟩, Fr.ofGrown hg (.inr (.inl rfl))⟩
set_option maxRecDepth 100000 in
set_option maxHeartbeats 2000000 in
theorem pin_any (w : World) (B Mp Mc Mn : Nat) (cap latest floor : Int) (pins : List (Int × Int)) (all : List V4) (nw : List K) (h : BA w B Mp Mc Mn cap latest floor pins all nw) (n : Int) (hn : In64 n) :
    Calls Tryz.prog 20 #[ptr B, .int .i64 n] w fun e w' => PinPost w B Mp Mc Mn cap latest floor pins all nw n e w' := by
  obtain ⟨_, c1, c2, c3, _, _⟩ := h.cells
  have hlk := kdP.look2 h.mp hn
  have hlen := fun ty => kdP.len h.mp ty
  rw [fm_pins] at hlk
  simp only [List.length_map] at hlen
  have HA := hidC h
  have hps := h.ps
  clear h
  by_cases h1 : n < 0
  · have h1b : decide (n < 0) = true := decide_eq_true h1
    have HX : Hid (pinE latest floor pins n = 80) := by show _ = _; unfold pinE; rw [if_pos (.inl h1)]
    go_enter Tryz.func20, Tryz.ntmps20
    go_wp2
    go_ret
    exact .inl ⟨by rw [HX.out]; decide, by rw [HX.out]; rfl, rfl⟩
  have h1b : decide (n < 0) = false := decide_eq_false h1
  by_cases h2 : latest < n
  · have h2b : decide (latest < n) = true := decide_eq_true h2
    have HX : Hid (pinE latest floor pins n = 80) := by show _ = _; unfold pinE; rw [if_pos (.inr h2)]
    go_enter Tryz.func20, Tryz.ntmps20
    go_wp2
    go_ret
    exact .inl ⟨by rw [HX.out]; decide, by rw [HX.out]; rfl, rfl⟩
  have h2b : decide (latest < n) = false := decide_eq_false h2
  cases hf : fpn pins n with
  | none =>
    rw [hf] at hlk
    simp only [Option.map_none, Option.getD_none, Option.isSome_none] at hlk
    by_cases h3 : n < floor
    · have h3b : decide (n < floor) = true := decide_eq_true h3
      have HX : Hid (pinE latest floor pins n = 103) := by show _ = _; unfold pinE; rw [if_neg (by omega), hf]; simp only; rw [if_pos h3]
      clear hf
      go_enter Tryz.func20, Tryz.ntmps20
      go_wp2
      go_ret
      exact .inl ⟨by rw [HX.out]; decide, by rw [HX.out]; rfl, rfl⟩
    have h3b : decide (n < floor) = false := decide_eq_false h3
    by_cases h4 : pins.length = 32
    · have HX : Hid (pinE latest floor pins n = 104) := by show _ = _; unfold pinE; rw [if_neg (by omega), hf]; simp only; rw [if_neg h3, if_pos h4]
      rw [h4] at hlen
      clear hf
      go_enter Tryz.func20, Tryz.ntmps20
      go_wp2
      go_ret
      exact .inl ⟨by rw [HX.out]; decide, by rw [HX.out]; rfl, rfl⟩
    have HX : Hid (pinE latest floor pins n = 0) := by show _ = _; unfold pinE; rw [if_neg (by omega), hf]; simp only; rw [if_neg h3, if_neg h4]
    obtain ⟨W, hp, hm, hg⟩ := kdP.putNew HA.out.mp hn (fun e he e' => by
      obtain ⟨p, hp, rfl⟩ := List.mem_map.1 he
      exact fpn_none hf p hp e') (ei 1)
    have HF : Hid (∃ pins', Pinned pins pins' n ∧ BA W B Mp Mc Mn cap latest floor pins' all nw ∧ Fr (SB B Mp Mc Mn) w W) := by
      refine ⟨pins ++ [(n, 1)], .inl ⟨hf, rfl⟩, HA.out.pinsNew (by simpa using hm) hg (by simp; omega) (fun p hp => ?_)⟩
      rcases List.mem_append.1 hp with hp | hp
      · exact hps.2 p hp
      · simp at hp; subst hp; simp only; omega
    have h4b : ¬ (pins.length : Int) = 32 := by omega
    generalize pins.length = np at *
    clear hf hm hg
    simp only [ei] at hp hlk
    go_enter Tryz.func20, Tryz.ntmps20
    go_wp2
    go_ret
    exact .inr ⟨HX.out, rfl, HF.out⟩
  | some c =>
    rw [hf] at hlk
    simp only [Option.map_some, Option.getD_some, Option.isSome_some, ei] at hlk
    obtain ⟨A, C, hA⟩ := fpn_some hf
    have hc := hps.2 (n, c) (by rw [hA]; simp)
    simp only at hc
    have hflb : decide (n < floor) = true ∨ decide (n < floor) = false := by cases decide (n < floor) <;> simp
    by_cases h3 : c = 1099511627776
    · have HX : Hid (pinE latest floor pins n = 104) := by show _ = _; unfold pinE; rw [if_neg (by omega), hf]; simp only; rw [if_pos h3]
      subst h3
      clear hf hA
      rcases hflb with hflb | hflb
      all_goals
        go_enter Tryz.func20, Tryz.ntmps20
        go_wp2
        go_ret
        exact .inl ⟨by rw [HX.out]; decide, by rw [HX.out]; rfl, rfl⟩
    have HX : Hid (pinE latest floor pins n = 0) := by show _ = _; unfold pinE; rw [if_neg (by omega), hf]; simp only; rw [if_neg h3]
    have hmp := HA.out.mp
    rw [hA, List.map_append, List.map_cons] at hmp
    obtain ⟨W, hp, hm, hg⟩ := kdP.putOld hmp (ei (c + 1))
    have HF : Hid (∃ pins', Pinned pins pins' n ∧ BA W B Mp Mc Mn cap latest floor pins' all nw ∧ Fr (SB B Mp Mc Mn) w W) := by
      refine ⟨A ++ (n, c + 1) :: C, .inr ⟨A, c, C, hA, rfl⟩, HA.out.pinsNew (by simpa using hm) hg (by have := hps.1; rw [hA] at this; simpa using this) (fun p hp => ?_)⟩
      rcases List.mem_append.1 hp with hp | hp
      · exact hps.2 p (by rw [hA]; simp [hp])
      · rcases List.mem_cons.1 hp with rfl | hp
        · simp only; omega
        · exact hps.2 p (by rw [hA]; simp [hp])
    have h3b : (c == 1099511627776) = false := by simpa using h3
    have hcw : wrap64 (c + 1) = c + 1 := by unfold wrap64; omega
    clear hf hm hg hmp hA
    simp only [ei] at hp
    rcases hflb with hflb | hflb
    all_goals
      go_enter Tryz.func20, Tryz.ntmps20
      go_wp2
      go_ret
      exact .inr ⟨HX.out, rfl, HF.out⟩
/-- one pin less -/
def Unpinned (pins pins' : List (Int × Int)) (n : Int) : Prop := ∃ A c C, pins = A ++ (n, c) :: C ∧ ((c = 1 ∧ pins' = A ++ C) ∨ (c ≠ 1 ∧ pins' = A ++ (n, c - 1) :: C))
def UnpPost (w : World) (B Mp Mc Mn : Nat) (cap latest floor : Int) (pins : List (Int × Int)) (all : List V4) (nw : List K) (n : Int) (e : Ending) (w' : World) : Prop :=
  (fpn pins n = none ∧ e = .returned (.int .i64 102) ∧ w' = w) ∨
  ((fpn pins n).isSome = true ∧ e = .returned (.int .i64 0) ∧ ∃ pins', Unpinned pins pins' n ∧ BA w' B Mp Mc Mn cap latest floor pins' all nw ∧ Fr (SB B Mp Mc Mn) w w')
set_option maxRecDepth 100000 in
set_option maxHeartbeats 2000000 in
theorem unpin_any (w : World) (B Mp Mc Mn : Nat) (cap latest floor : Int) (pins : List (Int × Int)) (all : List V4) (nw : List K) (h : BA w B Mp Mc Mn cap latest floor pins all nw) (n : Int) (hn : In64 n) :
    Calls Tryz.prog 22 #[ptr B, .int .i64 n] w fun e w' => UnpPost w B Mp Mc Mn cap latest floor pins all nw n e w' := by
  obtain ⟨_, _, _, c3, _, _⟩ := h.cells
  have hlk := kdP.look2 h.mp hn
  rw [fm_pins] at hlk
  have HA := hidC h
  have hps := h.ps
  clear h
  cases hf : fpn pins n with
  | none =>
    rw [hf] at hlk
    simp only [Option.map_none, Option.getD_none, Option.isSome_none] at hlk
    have HF := hidC hf
    clear hf
    go_enter Tryz.func22, Tryz.ntmps22
    go_wp2
    go_ret
    exact .inl ⟨HF.out, rfl, rfl⟩
  | some c =>
    rw [hf] at hlk
    simp only [Option.map_some, Option.getD_some, Option.isSome_some, ei] at hlk
    obtain ⟨A, C, hA⟩ := fpn_some hf
    have hc := hps.2 (n, c) (by rw [hA]; simp)
    simp only at hc
    have hmp := HA.out.mp
    rw [hA, List.map_append, List.map_cons] at hmp
    by_cases h3 : c = 1
    · subst h3
      obtain ⟨W, hp, hm, hg⟩ := kdP.del hmp
      have HF : Hid ((fpn pins n).isSome = true ∧ ∃ pins', Unpinned pins pins' n ∧ BA W B Mp Mc Mn cap latest floor pins' all nw ∧ Fr (SB B Mp Mc Mn) w W) := by
        refine ⟨by rw [hf]; rfl, A ++ C, ⟨A, 1, C, hA, .inl ⟨rfl, rfl⟩⟩, HA.out.pinsNew (by simpa using hm) hg (by have := hps.1; rw [hA] at this; simp at this ⊢; omega) (fun p hp => hps.2 p (by rw [hA]; rcases List.mem_append.1 hp with h | h <;> simp [h]))⟩
      clear hf hm hg hmp hA
      simp only [ei] at hp
      go_enter Tryz.func22, Tryz.ntmps22
      go_wp2
      go_ret
      exact .inr ⟨HF.out.1, rfl, HF.out.2⟩
    · obtain ⟨W, hp, hm, hg⟩ := kdP.putOld hmp (ei (c - 1))
      have HF : Hid ((fpn pins n).isSome = true ∧ ∃ pins', Unpinned pins pins' n ∧ BA W B Mp Mc Mn cap latest floor pins' all nw ∧ Fr (SB B Mp Mc Mn) w W) := by
        refine ⟨by rw [hf]; rfl, A ++ (n, c - 1) :: C, ⟨A, c, C, hA, .inr ⟨h3, rfl⟩⟩, HA.out.pinsNew (by simpa using hm) hg (by have := hps.1; rw [hA] at this; simpa using this) (fun p hp => ?_)⟩
        rcases List.mem_append.1 hp with hp | hp
        · exact hps.2 p (by rw [hA]; simp [hp])
        · rcases List.mem_cons.1 hp with rfl | hp
          · simp only; omega
          · exact hps.2 p (by rw [hA]; simp [hp])
      have h3b : (c == 1) = false := by simpa using h3
      have hcw : wrap64 (c - 1) = c - 1 := by unfold wrap64; omega
      clear hf hm hg hmp hA
      simp only [ei] at hp
      go_enter Tryz.func22, Tryz.ntmps22
      go_wp2
      go_ret
      exact .inr ⟨HF.out.1, rfl, HF.out.2⟩
end Go.Proofs.YtbmohlkcmhhpgaaGreat
