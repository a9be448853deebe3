/-
  works: A BOOK OF ROOM FOR THREE.
-/
import Derived.Test.YtgejibjmmfklcabBkDo
namespace Go.Proofs.Ytgejibjmmfklcab
open Go.RowKit Go.Sort

def wL : List (List K) := [[(0, 1)], [(0, 1)]]
def a1L : List V4 := [((0, 1), (1, 0)), ((0, 1), (1, 1))]
theorem rise_one : Rise [((0 : Int), (1 : Int))] := ⟨fun k hk => by simp at hk; subst hk; rfl, List.pairwise_singleton _ _⟩
theorem wL_form : formN wL = 0 := by
  unfold formN wL
  rw [if_neg (by decide)]
  show formL [[(0, 1)], [(0, 1)]] = 0
  simp only [formL]
  rw [if_neg (by decide), if_pos rise_one, if_neg (by decide), if_pos rise_one]
theorem works_adm1 : admE 3 0 [] wL = 0 := by unfold admE; rw [wL_form]; decide
theorem works_new1 : [] ++ newFrom (0 + 1) 0 wL = a1L := by decide
theorem works_adm2 : admE 3 1 a1L wL = 100 := by unfold admE; rw [wL_form]; decide
theorem works_coll {d : List Int} {all' : List V4} (hd : d.Perm (([] : List (Int × Int)).map Prod.fst)) (h : CollN d a1L all') : all'.length = 1 := by
  have hd0 : d = [] := List.Perm.eq_nil hd
  subst hd0
  have h1 := h.2 (0, 1)
  have h2 : ofV (0, 1) all' = all' := by
    unfold ofV
    rw [List.filter_eq_self]
    intro v hv
    have := h.1.subset hv
    simp [a1L] at this
    rcases this with rfl | rfl <;> simp
  rw [h2] at h1
  rw [h1]
  decide
theorem works_adm3 {all' : List V4} (h : all'.length = 1) : admE 3 1 all' wL = 0 := by unfold admE; rw [wL_form, h]; decide
theorem works_pin0 : pinE 2 1 [] 0 = 103 := by decide
theorem works_pin1 : pinE 2 1 [] 1 = 0 := by decide
theorem wL_in : ∀ s ∈ wL, ∀ k ∈ s, KIn k := by
  intro s hs k hk
  simp [wL] at hs
  subst hs
  simp at hk
  subst hk
  exact ⟨⟨by decide, by decide⟩, ⟨by decide, by decide⟩⟩
theorem wL_big : ∀ s ∈ wL, s.length ≤ 8796093022208 := by
  intro s hs
  simp [wL] at hs
  subst hs
  decide
section
variable {w : World} {B Mp Mc Mn : Nat} {nw : List K} {ao : Option Addr}
theorem wk1 (h : BA w B Mp Mc Mn 3 0 0 [] [] nw) (hw : RWs (SB B Mp Mc Mn) w ao wL) : Calls Try.prog 13 #[ptr B, .slice ao 2 2] w fun e w' => e = .returned (.tuple #[.int .i64 1, .int .i64 0]) ∧ (∃ nw', BA w' B Mp Mc Mn 3 1 0 [] a1L nw') ∧ Fr (SB B Mp Mc Mn) w w' := by
  refine (admit_any w B Mp Mc Mn 3 0 0 [] [] nw h ao 2 2 wL rfl hw wL_in wL_big (by omega)).mono ?_
  rintro e w' (⟨hne, _⟩ | ⟨_, he, ⟨nw', hba⟩, hf⟩)
  · exact absurd works_adm1 hne
  · rw [works_new1] at hba
    exact ⟨he, ⟨nw', hba⟩, hf⟩
theorem wk2 (h : BA w B Mp Mc Mn 3 1 0 [] a1L nw) (hw : RWs (SB B Mp Mc Mn) w ao wL) : Calls Try.prog 13 #[ptr B, .slice ao 2 2] w fun e w' => e = .returned (.tuple #[.int .i64 0, .int .i64 100]) ∧ Below w.heap.size w w' := by
  refine (admit_any w B Mp Mc Mn 3 1 0 [] a1L nw h ao 2 2 wL rfl hw wL_in wL_big (by omega)).mono ?_
  rintro e w' (⟨_, he, hb⟩ | ⟨hne, _⟩)
  · rw [works_adm2] at he
    exact ⟨he, hb⟩
  · rw [works_adm2] at hne
    cases hne
theorem wk3 (h : BA w B Mp Mc Mn 3 1 0 [] a1L nw) : Calls Try.prog 15 #[ptr B] w fun e w' => e = .returned (.int .i64 1) ∧ (∃ all' nw', all'.length = 1 ∧ BA w' B Mp Mc Mn 3 1 1 [] all' nw') ∧ Fr (SB B Mp Mc Mn) w w' := by
  refine (collect_any w B Mp Mc Mn 3 1 0 [] a1L nw h).mono ?_
  rintro e w' ⟨d, all', _, hd, hc, he, hba, hf⟩
  have h1 := works_coll hd hc
  rw [h1] at he
  exact ⟨he, ⟨all', nw, h1, hba⟩, hf⟩
theorem wk4 {all' : List V4} (h1 : all'.length = 1) (h : BA w B Mp Mc Mn 3 1 1 [] all' nw) (hw : RWs (SB B Mp Mc Mn) w ao wL) : Calls Try.prog 13 #[ptr B, .slice ao 2 2] w fun e w' => e = .returned (.tuple #[.int .i64 2, .int .i64 0]) ∧ (∃ all'' nw', all''.length = 3 ∧ BA w' B Mp Mc Mn 3 2 1 [] all'' nw') ∧ Fr (SB B Mp Mc Mn) w w' := by
  refine (admit_any w B Mp Mc Mn 3 1 1 [] all' nw h ao 2 2 wL rfl hw wL_in wL_big (by omega)).mono ?_
  rintro e w' (⟨hne, _⟩ | ⟨_, he, ⟨nw', hba⟩, hf⟩)
  · exact absurd (works_adm3 h1) hne
  · exact ⟨he, ⟨_, nw', by rw [List.length_append, newFrom_len, h1]; rfl, hba⟩, hf⟩
theorem wk5 {all' : List V4} (h : BA w B Mp Mc Mn 3 2 1 [] all' nw) : Calls Try.prog 31 #[ptr B, .int .i64 0] w fun e w' => e = .returned (.int .i64 103) ∧ w' = w := by
  refine (pin_any w B Mp Mc Mn 3 2 1 [] all' nw h 0 ⟨by decide, by decide⟩).mono ?_
  rintro e w' (⟨_, he, hb⟩ | ⟨hne, _⟩)
  · rw [works_pin0] at he
    exact ⟨he, hb⟩
  · rw [works_pin0] at hne
    cases hne
theorem wk6 {all' : List V4} (h : BA w B Mp Mc Mn 3 2 1 [] all' nw) : Calls Try.prog 31 #[ptr B, .int .i64 1] w fun e w' => e = .returned (.int .i64 0) ∧ Fr (SB B Mp Mc Mn) w w' := by
  refine (pin_any w B Mp Mc Mn 3 2 1 [] all' nw h 1 ⟨by decide, by decide⟩).mono ?_
  rintro e w' (⟨hne, _⟩ | ⟨_, he, _, _, _, hf⟩)
  · exact absurd works_pin1 hne
  · exact ⟨he, hf⟩
end
/-- the two sets, laid -/
def wW (u : World) : World := ((u.alloc (.cells #[.int .i64 0, .int .i64 1] 38)).alloc (.cells #[.int .i64 0, .int .i64 1] 38)).alloc (.cells #[.slice (some ⟨u.heap.size, 0, none⟩) 1 1, .slice (some ⟨u.heap.size + 1, 0, none⟩) 1 1] 60)
theorem wW_below (u : World) : Below u.heap.size u (wW u) := (((Below.refl _ _).alloc (Nat.le_refl _) _).alloc (by simp) _).alloc (by simp; omega) _
theorem wW_at (u : World) (G : Nat → Prop) (hG : ∀ k, G k → k < u.heap.size) : RWs G (wW u) (some ⟨u.heap.size + 1 + 1, 0, none⟩) wL := by
  have z : (wW u).heap.size = u.heap.size + 1 + 1 + 1 := by simp [wW]
  have k2 : (wW u).heap[u.heap.size + 1 + 1]? = some (.cells #[.slice (some ⟨u.heap.size, 0, none⟩) 1 1, .slice (some ⟨u.heap.size + 1, 0, none⟩) 1 1] 60 (0, 0)) := by
    unfold wW
    rw [show u.heap.size + 1 + 1 = ((u.alloc (.cells #[.int .i64 0, .int .i64 1] 38)).alloc (.cells #[.int .i64 0, .int .i64 1] 38)).heap.size by simp]
    exact heap_alloc_new _ _ rfl
  have k1 : (wW u).heap[u.heap.size + 1]? = some (.cells #[.int .i64 0, .int .i64 1] 38 (0, 0)) := by
    unfold wW
    rw [heap_alloc_old _ _ (by simp), show u.heap.size + 1 = (u.alloc (.cells #[.int .i64 0, .int .i64 1] 38)).heap.size by simp]
    exact heap_alloc_new _ _ rfl
  have k0 : (wW u).heap[u.heap.size]? = some (.cells #[.int .i64 0, .int .i64 1] 38 (0, 0)) := by
    unfold wW
    rw [heap_alloc_old _ _ (by simp; omega), heap_alloc_old _ _ (by simp)]
    exact heap_alloc_new _ _ rfl
  have ka : ∀ b, (wW u).heap[b]? = some (.cells #[.int .i64 0, .int .i64 1] 38 (0, 0)) → KeysAt (wW u) (some ⟨b, 0, none⟩) [(0, 1)] := fun b hb => .inr ⟨b, 0, rfl, fun j x hx => by
    rcases j with _ | _ | j
    · simp [cks] at hx; subst hx; simp [World.cell?, hb]
    · simp [cks] at hx; subst hx; simp [World.cell?, hb]
    · simp [cks] at hx⟩
  intro i hi
  have hg : ∀ b, u.heap.size ≤ b → ¬ G b := fun b hb h => by have := hG b h; omega
  rcases i with _ | _ | i
  · exact ⟨_, 0, some ⟨u.heap.size, 0, none⟩, 1, rfl, hg _ (by omega), by omega, by simp [World.cell?, k2, wL], ka _ k0, fun a _ e => by cases e; exact ⟨hg _ (by simp), by simp only; omega⟩⟩
  · exact ⟨_, 0, some ⟨u.heap.size + 1, 0, none⟩, 1, rfl, hg _ (by omega), by omega, by simp [World.cell?, k2, wL], ka _ k1, fun a _ e => by cases e; exact ⟨hg _ (by simp), by simp only; omega⟩⟩
  · simp [wL] at hi; omega
set_option maxHeartbeats 2000000 in
set_option maxRecDepth 100000 in
theorem works_any (w : World) : Calls Try.prog 9 #[] w fun e w' => e = .returned (.bool true) ∧ Below w.heap.size w w' := by
  go_enter Try.func9, Try.ntmps9
  go_wp2_with fail
  refine (new_any w 3).mono ?_
  rintro e W1 (⟨h, _⟩ | ⟨_, B, Mp, Mc, Mn, rfl, hba, hsb, hb1⟩)
  · omega
  have HA1 := hidC hba
  have HS := hidC hsb
  have HB1 := hidC hb1
  clear hba hsb hb1
  go_wp2_with fail
  refine (numB_any W1 0).mono ?_
  rintro e W4 ⟨rfl, hw4⟩
  subst hw4
  go_wp2_with fail
  have HB5 := hidC (wW_below W4)
  have HR5 := hidC (wW_at W4 (SB B Mp Mc Mn) (fun k hk => HA1.out.lt hk))
  have HA5 := hidC (HA1.out.kept HB5.out)
  have hW5 : wW W4 = ((W4.alloc (.cells #[.int .i64 0, .int .i64 1] 38)).alloc (.cells #[.int .i64 0, .int .i64 1] 38)).alloc (.cells #[.slice (some ⟨W4.heap.size, 0, none⟩) 1 1, .slice (some ⟨W4.heap.size + 1, 0, none⟩) 1 1] 60) := rfl
  rw [← hW5]
  have HF5 : Hid (Below w.heap.size w (wW W4)) := HB1.out.trans (HB5.out.mono HB1.out.size)
  clear hW5
  generalize wW W4 = W5 at *
  generalize (some (⟨W4.heap.size + 1 + 1, 0, none⟩ : Addr)) = ao at *
  clear HB5 HA1 HB1
  refine (wk1 HA5.out HR5.out).mono ?_
  rintro e W6 ⟨rfl, ⟨nw6, hba6⟩, hf6⟩
  have HA6 := hidC hba6
  have HR6 := hidC (HR5.out.fr hf6)
  have HF6 : Hid (Below w.heap.size w W6) := HF5.out.trans (hf6.below HF5.out.size HS.out)
  clear hba6 hf6
  go_wp2_with fail
  refine (numB_any W6 0).mono ?_
  rintro e W7 ⟨rfl, hw7⟩
  subst hw7
  go_wp2_with fail
  refine (charge_any _ B Mp Mc Mn 3 1 0 [] a1L nw6 HA6.out).mono ?_
  rintro e W8 ⟨rfl, hw8⟩
  subst hw8
  go_wp2_with fail
  refine (wk2 HA6.out HR6.out).mono ?_
  rintro e W9 ⟨rfl, hb9⟩
  have HA9 := hidC (HA6.out.kept hb9)
  have HR9 := hidC (HR6.out.fr (Fr.ofBelow hb9))
  have HF9 : Hid (Below w.heap.size w W9) := HF6.out.trans (hb9.mono HF6.out.size)
  clear hb9
  go_wp2_with fail
  refine (numB_any W9 100).mono ?_
  rintro e W10 ⟨rfl, hw10⟩
  subst hw10
  go_wp2_with fail
  refine (wk3 HA9.out).mono ?_
  rintro e W11 ⟨rfl, ⟨all', nw11, hl11, hba11⟩, hf11⟩
  have HA11 := hidC (And.intro hl11 hba11)
  have HR11 := hidC (HR9.out.fr hf11)
  have HF11 : Hid (Below w.heap.size w W11) := HF9.out.trans (hf11.below HF9.out.size HS.out)
  clear hba11 hf11 hl11
  go_wp2_with fail
  refine (wk4 HA11.out.1 HA11.out.2 HR11.out).mono ?_
  rintro e W12 ⟨rfl, ⟨all'', nw12, hl12, hba12⟩, hf12⟩
  have HA12 := hidC hba12
  have HF12 : Hid (Below w.heap.size w W12) := HF11.out.trans (hf12.below HF11.out.size HS.out)
  have HC12 := hidC (charge_any W12 B Mp Mc Mn 3 2 1 [] all'' nw12 hba12)
  rw [hl12] at HC12
  clear hba12 hf12 hl12
  go_wp2_with fail
  refine (numB_any W12 0).mono ?_
  rintro e W13 ⟨rfl, hw13⟩
  subst hw13
  go_wp2_with fail
  refine HC12.out.mono ?_
  rintro e W14 ⟨rfl, hw14⟩
  subst hw14
  go_wp2_with fail
  refine (wk5 HA12.out).mono ?_
  rintro e W15 ⟨rfl, hw15⟩
  subst hw15
  go_wp2_with fail
  refine (numB_any _ 103).mono ?_
  rintro e W16 ⟨rfl, hw16⟩
  subst hw16
  go_wp2_with fail
  refine (wk6 HA12.out).mono ?_
  rintro e W17 ⟨rfl, hf17⟩
  have HF17 : Hid (Below w.heap.size w W17) := HF12.out.trans (hf17.below HF12.out.size HS.out)
  clear hf17
  go_wp2_with fail
  refine (numB_any _ 0).mono ?_
  rintro e W18 ⟨rfl, hw18⟩
  subst hw18
  go_wp2
  go_ret
  exact ⟨rfl, HF17.out⟩
end Go.Proofs.Ytgejibjmmfklcab
