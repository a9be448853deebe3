/-
  A BATCH's SETS OF WRITES; checkForm, weight.
-/
import Derived.Test.YtbmohlkcmhhpgaaGreatBkCount
import Derived.Test.YtbmohlkcmhhpgaaGreatKRises
namespace Go.Proofs.YtbmohlkcmhhpgaaGreat
open Go.RowKit Go.Sort

/-- lists of keys, none of their blocks in G -/
def RWs (G : Nat → Prop) (w : World) (ao : Option Addr) (L : List (List K)) : Prop :=
  ∀ i (hi : i < L.length), ∃ b off sa sc, ao = some ⟨b, off, none⟩ ∧ ¬ G b ∧ b < w.heap.size ∧ w.cell? ⟨b, off + i, none⟩ = some (.slice sa L[i].length sc) ∧ KeysAt w sa L[i] ∧ (∀ a, L[i] ≠ [] → sa = some a → ¬ G a.block ∧ a.block < w.heap.size)
theorem RWs.fr {G : Nat → Prop} {w w' : World} {ao : Option Addr} {L : List (List K)} (h : RWs G w ao L) (hf : Fr G w w') : RWs G w' ao L := fun i hi => by
  obtain ⟨b, off, sa, sc, h1, h2, h3, h4, h5, h6⟩ := h i hi
  refine ⟨b, off, sa, sc, h1, h2, Nat.lt_of_lt_of_le h3 hf.size, ?_, ?_, fun a ha hs => ⟨(h6 a ha hs).1, Nat.lt_of_lt_of_le (h6 a ha hs).2 hf.size⟩⟩
  · have : w'.heap[b]? = w.heap[b]? := hf.block b h3 h2
    unfold World.cell? at h4 ⊢
    simp only at h4 ⊢
    rw [this]
    exact h4
  · rcases h5 with h0 | ⟨b', off', e, hc⟩
    · exact .inl h0
    · by_cases hne : L[i] = []
      · exact .inl hne
      · refine .inr ⟨b', off', e, fun j u hu => ?_⟩
        have hb := h6 _ hne e
        have : w'.heap[b']? = w.heap[b']? := hf.block b' hb.2 hb.1
        have h7 := hc j u hu
        unfold World.cell? at h7 ⊢
        simp only at h7 ⊢
        rw [this]
        exact h7
/-- a list, wherever other blocks turn -/
theorem RWs.at {G : Nat → Prop} {w : World} {ao : Option Addr} {L : List (List K)} (h : RWs G w ao L) {i : Nat} (hi : i < L.length) : ∃ b off sa sc, ao = some ⟨b, off, none⟩ ∧ (∀ j, j < L[i].length → ∃ kb ko, sa = some ⟨kb, ko, none⟩) ∧ ∀ W, Fr G w W → W.cell? ⟨b, off + i, none⟩ = some (.slice sa L[i].length sc) ∧ KeysAt W sa L[i] := by
  obtain ⟨b, off, sa, sc, h1, h2, h3, h4, h5, h6⟩ := h i hi
  refine ⟨b, off, sa, sc, h1, fun j hj => ?_, fun W hf => ⟨?_, ?_⟩⟩
  · rcases h5 with h0 | ⟨b', off', e, _⟩
    · rw [h0] at hj; simp at hj
    · exact ⟨b', off', e⟩
  · have : W.heap[b]? = w.heap[b]? := hf.block b h3 h2
    unfold World.cell? at h4 ⊢
    simp only at h4 ⊢
    rw [this]
    exact h4
  · rcases h5 with h0 | ⟨b', off', e, hc⟩
    · exact .inl h0
    · by_cases hne : L[i] = []
      · exact .inl hne
      · refine .inr ⟨b', off', e, fun j u hu => ?_⟩
        have hb := h6 _ hne e
        have : W.heap[b']? = w.heap[b']? := hf.block b' hb.2 hb.1
        have h7 := hc j u hu
        unfold World.cell? at h7 ⊢
        simp only at h7 ⊢
        rw [this]
        exact h7
theorem keyCells {W : World} {kb ko : Nat} {s : List K} (h : KeysAt W (some ⟨kb, ko, none⟩) s) {j : Nat} {k : K} (hj : ∃ hj : j < s.length, s[j] = k) : W.cell? ⟨kb, ko + j * 2, none⟩ = some (.int .i64 k.1) ∧ W.cell? ⟨kb, ko + j * 2 + 1, none⟩ = some (.int .i64 k.2) := by
  obtain ⟨hj, rfl⟩ := hj
  rcases h with h0 | ⟨b, off, e, hc⟩
  · subst h0; simp at hj
  · cases e
    have h1 := KeysAt.at hc j hj
    have e1 : kd s j = s[j] := by unfold kd; rw [List.getD_eq_getElem?_getD, List.getElem?_eq_getElem hj]; rfl
    rw [e1] at h1
    exact h1
/-- what is wrong with sets -/
def formL : List (List K) → Int
  | [] => 0
  | s :: l => if 16 < s.length then 64 else if Rise s then formL l else 65
def formN (L : List (List K)) : Int := if 64 < L.length then 60 else formL L
theorem formL_ok : ∀ {L : List (List K)}, formL L = 0 → ∀ s ∈ L, s.length ≤ 16 ∧ Rise s
  | [], _, s, hs => by cases hs
  | t :: l, h, s, hs => by
    unfold formL at h
    split at h
    · cases h
    · rename_i h1
      split at h
      · rename_i h2
        rcases List.mem_cons.1 hs with rfl | hs
        · exact ⟨by omega, h2⟩
        · exact formL_ok h s hs
      · cases h
theorem formN_ok {L : List (List K)} (h : formN L = 0) : L.length ≤ 64 ∧ ∀ s ∈ L, s.length ≤ 16 ∧ Rise s := by
  unfold formN at h
  split at h
  · cases h
  · rename_i h1
    exact ⟨by omega, formL_ok h⟩
/-- how many -/
def wgt (L : List (List K)) : Nat := (L.map List.length).sum
theorem wgt_append (A B : List (List K)) : wgt (A ++ B) = wgt A + wgt B := by unfold wgt; rw [List.map_append, List.sum_append_nat]
theorem wgt_take {L : List (List K)} {i : Nat} (hi : i < L.length) : wgt (L.take (i + 1)) = wgt (L.take i) + L[i].length := by
  rw [List.take_succ_eq_append_getElem hi, wgt_append]
  simp [wgt]
theorem wgt_le {L : List (List K)} (h : L.length ≤ 64) (hs : ∀ s ∈ L, s.length ≤ 16) : wgt L ≤ 1024 := by
  have h1 : ∀ l : List (List K), (∀ s ∈ l, s.length ≤ 16) → wgt l ≤ 16 * l.length := by
    intro l
    induction l with
    | nil => intro _; simp [wgt]
    | cons s l ih =>
      intro hh
      have h2 := ih (fun t ht => hh t (by simp [ht]))
      have h3 := hh s (by simp)
      simp only [wgt, List.map_cons, List.sum_cons, List.length_cons] at *
      omega
  have := h1 L hs
  omega
theorem wgt_take_le (L : List (List K)) (i : Nat) : wgt (L.take i) ≤ wgt L := by
  have h : wgt L = wgt (L.take i) + wgt (L.drop i) := by rw [← wgt_append, List.take_append_drop]
  omega
set_option maxRecDepth 100000 in
set_option maxHeartbeats 2000000 in
theorem checkForm_any (G : Nat → Prop) (w : World) (ao : Option Addr) (n c : Nat) (L : List (List K)) (hn : n = L.length) (h : RWs G w ao L) (hb : ∀ s ∈ L, s.length ≤ 8796093022208) (hnb : n ≤ 1000000000000) :
    Calls Tryz.prog 40 #[.slice ao n c] w fun e w' => e = .returned (.int .i64 (formN L)) ∧ Below w.heap.size w w' := by
  have HN : Hid (n = L.length ∧ ∀ s ∈ L, s.length ≤ 8796093022208) := ⟨hn, hb⟩
  have HR : Hid (∀ W, Below w.heap.size w W → RWs G W ao L) := fun W hW => h.fr (Fr.ofBelow hW)
  clear hn h hb
  by_cases h64 : 64 < n
  · have h64b : (64 : Int) < (n : Int) := by omega
    have HE : Hid (formN L = 60) := by show _ = _; unfold formN; rw [if_pos (by have := HN.out.1; omega)]
    go_enter Tryz.func40, Tryz.ntmps40
    go_wp2
    go_ret
    exact ⟨by rw [HE.out]; rfl, Below.refl _ _⟩
  · have h64b : ¬ (64 : Int) < (n : Int) := by omega
    have HE : Hid (formN L = formL L) := by show _ = _; unfold formN; rw [if_neg (by have := HN.out.1; omega)]
    go_enter Tryz.func40, Tryz.ntmps40
    go_wp2_with fail
    go_loopw [4, 10] (fun _ x wr => ∃ i : Nat, i ≤ n ∧ x = .int .i64 (i : Int) ∧ Hid (formL (L.drop i) = formL L ∧ Below w.heap.size w wr)) (fun _ x _ => n - (intOf x).toNat)
    case atStart => exact ⟨0, Nat.zero_le _, rfl, rfl, Below.refl _ _⟩
    case round =>
      obtain ⟨i, hi, rfl, HI⟩ := hrel
      by_cases hlt : i < n
      · have hil : i < L.length := by have := HN.out.1; omega
        obtain ⟨b, off, sa, sc, rfl, _, _, c1, hk, _⟩ := HR.out wr HI.out.2 i hil
        have HD : Hid (formL (L.drop i) = if 16 < L[i].length then 64 else if Rise L[i] then formL (L.drop (i + 1)) else 65) := by
          show _ = _
          rw [List.drop_eq_getElem_cons hil]
          rfl
        have HRi := hidC (rises_any wr sa sc L[i].length L[i] rfl hk (HN.out.2 _ (List.getElem_mem hil)))
        have hsb : L[i].length ≤ 8796093022208 := HN.out.2 _ (List.getElem_mem hil)
        clear hk
        generalize hs : L[i] = s at *
        obtain ⟨m, hm⟩ : ∃ m, m = s.length := ⟨_, rfl⟩
        have HM := hidC hm
        rw [← hm] at c1 HRi hsb
        clear hs hm hil
        have hii : (i : Int) < (n : Int) := by omega
        by_cases h16 : 16 < m
        · have h16b : (16 : Int) < (m : Int) := by omega
          have HX : Hid (formN L = 64) := by show _ = _; rw [HE.out, ← HI.out.1, HD.out, if_pos (by have := HM.out; omega)]
          have HB := hidC HI.out.2
          clear HRi HI
          go_wp2
          go_ret
          exact ⟨by rw [HX.out]; rfl, HB.out⟩
        · have h16b : ¬ (16 : Int) < (m : Int) := by omega
          go_wp2_with fail
          refine HRi.out.mono ?_
          rintro e W2 ⟨rfl, q, os, hW2⟩
          have HB2 : Hid (Below w.heap.size w W2) := by rw [hW2]; exact HI.out.2.trans ((Grew.below ⟨q, os, rfl⟩).mono HI.out.2.size)
          clear hW2 HRi
          by_cases hr : Rise s
          · rw [decide_eq_true hr]
            have HX : Hid (formL (L.drop (i + 1)) = formL L) := by show _ = _; rw [← HI.out.1, HD.out, if_neg (by have := HM.out; omega), if_pos hr]
            clear HI HD hr
            go_wp2
            exact ⟨⟨i + 1, by omega, by rw [show ((i + 1 : Nat) : Int) = (i : Int) + 1 by omega], HX.out, HB2.out⟩, by simp [intOf]; omega⟩
          · rw [decide_eq_false hr]
            have HX : Hid (formN L = 65) := by show _ = _; rw [HE.out, ← HI.out.1, HD.out, if_neg (by have := HM.out; omega), if_neg hr]
            clear HI HD hr
            go_wp2
            go_ret
            exact ⟨by rw [HX.out]; rfl, HB2.out⟩
      · have HX : Hid (formN L = 0) := by
          show _ = _
          rw [HE.out, ← HI.out.1, List.drop_eq_nil_of_le (by have := HN.out.1; omega)]
          rfl
        have HB := hidC HI.out.2
        clear HI
        go_wp2
        go_ret
        exact ⟨by rw [HX.out]; rfl, HB.out⟩
set_option maxRecDepth 100000 in
set_option maxHeartbeats 2000000 in
theorem weight_any (G : Nat → Prop) (w : World) (ao : Option Addr) (n c : Nat) (L : List (List K)) (hn : n = L.length) (h : RWs G w ao L) (hb : ∀ s ∈ L, s.length ≤ 16) (hnb : n ≤ 64) :
    Calls Tryz.prog 42 #[.slice ao n c] w fun e w' => e = .returned (.int .i64 (wgt L : Int)) ∧ w' = w := by
  have HN : Hid (n = L.length ∧ wgt L ≤ 1024) := ⟨hn, wgt_le (by omega) hb⟩
  have HR : Hid (RWs G w ao L) := h
  clear hn h
  go_enter Tryz.func42, Tryz.ntmps42
  go_wp2_with fail
  go_loopw [3, 5, 8] (fun xs _ x wr => ∃ (i s : Nat), i ≤ n ∧ x = .int .i64 (i : Int) ∧ xs = .int .i64 (s : Int) ∧ Hid (s = wgt (L.take i)) ∧ wr = w) (fun _ _ x _ => n - (intOf x).toNat)
  case atStart => exact ⟨0, 0, Nat.zero_le _, rfl, rfl, rfl, rfl⟩
  case round =>
    obtain ⟨i, s, hi, rfl, rfl, HS, hw⟩ := hrel
    subst hw
    by_cases hlt : i < n
    · have hil : i < L.length := by have := HN.out.1; omega
      obtain ⟨b, off, sa, sc, rfl, _, _, c1, _, _⟩ := HR.out i hil
      have HX : Hid (s + L[i].length = wgt (L.take (i + 1)) ∧ s + L[i].length ≤ 1024) := by
        have h1 := wgt_take hil
        have h2 := wgt_take_le L (i + 1)
        have h3 := HS.out
        have h4 := HN.out.2
        exact ⟨by omega, by omega⟩
      have hx := HX.out.2
      generalize L[i].length = m at *
      have hii : (i : Int) < (n : Int) := by omega
      have hw : wrap64 ((s : Int) + (m : Int)) = (s : Int) + (m : Int) := by unfold wrap64; omega
      go_wp2
      exact ⟨⟨i + 1, s + m, by omega, by rw [show ((i + 1 : Nat) : Int) = (i : Int) + 1 by omega], by first | rw [hw, show ((s + m : Nat) : Int) = (s : Int) + (m : Int) by omega] | rw [show ((s + m : Nat) : Int) = (s : Int) + (m : Int) by omega], HX.out.1, trivial⟩, by simp [intOf]; omega⟩
    · have HX : Hid (s = wgt L) := by
        have h3 := HS.out
        rw [List.take_of_length_le (by have := HN.out.1; omega)] at h3
        exact h3
      go_wp2
      go_ret
      exact ⟨by rw [← HX.out]; rfl, rfl⟩
end Go.Proofs.YtbmohlkcmhhpgaaGreat
