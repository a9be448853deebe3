/-
  weight, THE LAW's OWN; num.
-/
import Derived.Test.YtgejibjmmfklcabBkForm
namespace Go.Proofs.Ytgejibjmmfklcab
open Go.RowKit Go.Sort

/-- the weight of a batch whose form is right; else -1 -/
def wgtE (L : List (List K)) : Int := if formN L = 0 then (wgt L : Int) else -1
theorem wgtE_bad {L : List (List K)} {x : Int} (h : formN L = x) (hx : x ≠ 0) : wgtE L = -1 := by
  unfold wgtE
  rw [if_neg (by rw [h]; exact hx)]
theorem wgtE_ok {L : List (List K)} (h : formN L = 0) : wgtE L = (wgt L : Int) := by
  unfold wgtE
  rw [if_pos h]
theorem formL_take : ∀ {L : List (List K)} {i : Nat}, (∀ s ∈ L.take i, s.length ≤ 16 ∧ Rise s) → formL L = formL (L.drop i)
  | [], i, _ => by simp
  | s :: l, 0, _ => rfl
  | s :: l, i + 1, h => by
    have h1 := h s (by simp)
    show formL (s :: l) = formL (l.drop i)
    rw [show formL (s :: l) = if 16 < s.length then 64 else if Rise s then formL l else 65 from rfl, if_neg (by omega), if_pos h1.2]
    exact formL_take (fun t ht => h t (by rw [List.take_succ_cons]; exact List.mem_cons_of_mem _ ht))
set_option maxRecDepth 100000 in
set_option maxHeartbeats 2000000 in
theorem weightL_any (G : Nat → Prop) (w : World) (ao : Option Addr) (n c : Nat) (L : List (List K)) (hn : n = L.length) (h : RWs G w ao L) (hb : ∀ s ∈ L, s.length ≤ 8796093022208) (hnb : n ≤ 1000000000000) :
    Calls Try.prog 12 #[.slice ao n c] w fun e w' => e = .returned (.int .i64 (wgtE L)) ∧ Below w.heap.size w w' := by
  have HN : Hid (n = L.length ∧ ∀ s ∈ L, s.length ≤ 8796093022208) := ⟨hn, hb⟩
  have HR : Hid (∀ W, Below w.heap.size w W → RWs G W ao L) := fun W hW => h.fr (Fr.ofBelow hW)
  clear hn h hb
  by_cases h64 : 64 < n
  · have h64b : (64 : Int) < (n : Int) := by omega
    have HE : Hid (wgtE L = -1) := wgtE_bad (x := 60) (by unfold formN; rw [if_pos (by have := HN.out.1; omega)]) (by decide)
    go_enter Try.func12, Try.ntmps12
    go_wp2
    go_ret
    exact ⟨by rw [HE.out]; rfl, Below.refl _ _⟩
  · have h64b : ¬ (64 : Int) < (n : Int) := by omega
    have HE : Hid (formN L = formL L) := by show _ = _; unfold formN; rw [if_neg (by have := HN.out.1; omega)]
    go_enter Try.func12, Try.ntmps12
    go_wp2_with fail
    go_loopw [3, 4] (fun xs x wr => ∃ i s : Nat, i ≤ n ∧ x = .int .i64 (i : Int) ∧ xs = .int .i64 (s : Int) ∧ s ≤ 16 * i ∧ Hid (s = wgt (L.take i) ∧ (∀ t ∈ L.take i, t.length ≤ 16 ∧ Rise t) ∧ Below w.heap.size w wr)) (fun _ x _ => n - (intOf x).toNat)
    case atStart => exact ⟨0, 0, Nat.zero_le _, rfl, rfl, by omega, rfl, by simp, Below.refl _ _⟩
    case round =>
      obtain ⟨i, s, hi, rfl, rfl, hs16, HI⟩ := hrel
      by_cases hlt : i < n
      · have hil : i < L.length := by have := HN.out.1; omega
        obtain ⟨b, off, sa, sc, rfl, _, hrow⟩ := (HR.out wr HI.out.2.2).at hil
        have c1 := (hrow wr (Fr.refl _ _)).1
        have hk := (hrow wr (Fr.refl _ _)).2
        have HD : Hid (formL L = if 16 < L[i].length then 64 else if Rise L[i] then formL (L.drop (i + 1)) else 65) := by
          show _ = _
          rw [formL_take HI.out.2.1, List.drop_eq_getElem_cons hil]
          rfl
        have HRow : Hid (∀ W, Below wr.heap.size wr W → W.cell? ⟨b, off + i, none⟩ = some (.slice sa L[i].length sc)) := fun W hW => (hrow W (Fr.ofBelow hW)).1
        have HW : Hid (wgt (L.take (i + 1)) = s + L[i].length) := by show _ = _; rw [wgt_take hil, ← HI.out.1]
        have HT : Hid (∀ t ∈ L.take (i + 1), t ∈ L.take i ∨ t = L[i]) := fun t ht => by
          rw [List.take_succ_eq_append_getElem hil] at ht
          rcases List.mem_append.1 ht with h | h
          · exact .inl h
          · simp at h; exact .inr h
        have HRi := hidC (rises_any wr sa sc L[i].length L[i] rfl hk (HN.out.2 _ (List.getElem_mem hil)))
        have hsb : L[i].length ≤ 8796093022208 := HN.out.2 _ (List.getElem_mem hil)
        clear hk hrow
        generalize hs : L[i] = t at *
        obtain ⟨m, hm⟩ : ∃ m, m = t.length := ⟨_, rfl⟩
        have HM := hidC hm
        rw [← hm] at c1 HRi hsb HRow HW
        clear hs hm hil
        have hii : (i : Int) < (n : Int) := by omega
        by_cases h16 : 16 < m
        · have h16b : decide ((16 : Int) < (m : Int)) = true := decide_eq_true (by omega)
          have HX : Hid (wgtE L = -1) := wgtE_bad (x := 64) (by rw [HE.out, HD.out, if_pos (by have := HM.out; omega)]) (by decide)
          have HB := hidC HI.out.2.2
          clear HRi HI
          go_wp2
          go_ret
          exact ⟨by rw [HX.out]; rfl, HB.out⟩
        · have h16b : decide ((16 : Int) < (m : Int)) = false := decide_eq_false (by omega)
          go_wp2_with fail
          refine HRi.out.mono ?_
          rintro e W2 ⟨rfl, q, os, hW2⟩
          have HB0 : Hid (Below wr.heap.size wr W2) := by rw [hW2]; exact Grew.below ⟨q, os, rfl⟩
          have HB2 : Hid (Below w.heap.size w W2) := HI.out.2.2.trans (HB0.out.mono HI.out.2.2.size)
          have c2 := HRow.out W2 HB0.out
          clear hW2 HRi c1
          by_cases hr : Rise t
          · rw [decide_eq_true hr]
            have HX : Hid (s + m = wgt (L.take (i + 1)) ∧ (∀ x ∈ L.take (i + 1), x.length ≤ 16 ∧ Rise x)) := by
              refine ⟨HW.out.symm, fun x hx => ?_⟩
              rcases HT.out x hx with h | h
              · exact HI.out.2.1 x h
              · subst h; exact ⟨by have := HM.out; omega, hr⟩
            clear HI HD hr HRow HW HT
            have hsw : wrap64 ((s : Int) + (m : Int)) = (s : Int) + (m : Int) := by unfold wrap64; omega
            go_wp2
            refine ⟨⟨i + 1, s + m, by omega, by rw [show ((i + 1 : Nat) : Int) = (i : Int) + 1 by omega], ?_, by omega, HX.out.1, HX.out.2, HB2.out⟩, by simp [intOf]; omega⟩
            first | rw [hsw, show ((s + m : Nat) : Int) = (s : Int) + (m : Int) by omega] | rw [show ((s + m : Nat) : Int) = (s : Int) + (m : Int) by omega]
          · rw [decide_eq_false hr]
            have HX : Hid (wgtE L = -1) := wgtE_bad (x := 65) (by rw [HE.out, HD.out, if_neg (by have := HM.out; omega), if_neg hr]) (by decide)
            clear HI HD hr
            go_wp2
            go_ret
            exact ⟨by rw [HX.out]; rfl, HB2.out⟩
      · have HX : Hid (wgtE L = (s : Int)) := by
          have h1 := HI.out.1
          rw [List.take_of_length_le (by have := HN.out.1; omega)] at h1
          show _ = _
          rw [h1]
          exact wgtE_ok (by rw [HE.out, formL_take HI.out.2.1, List.drop_eq_nil_of_le (by have := HN.out.1; omega)]; rfl)
        have HB := hidC HI.out.2.2
        clear HI
        go_wp2
        go_ret
        exact ⟨by rw [HX.out]; rfl, HB.out⟩
theorem numB_any (w : World) (x : Int) : Calls Try.prog 11 #[.int .i64 x] w fun e w' => e = .returned (.int .i64 x) ∧ w' = w := by
  go_enter Try.func11, Try.ntmps11
  go_wp2
  go_ret
  exact ⟨rfl, rfl⟩
end Go.Proofs.Ytgejibjmmfklcab
