/-
  notEnded, NewChore.
-/
import Derived.Test.YteobmijfbjgccaaZApp
namespace Go.Proofs.Yteobmijfbjgccaa
open Go.RowKit Go.Sort

theorem pvZ_ptr (cb : Nat → Nat) (z : Int) : ∃ p : Option Addr, pvZ cb z = .pointer p := by unfold pvZ; split <;> exact ⟨_, rfl⟩
section
variable {w : World} {n : Nat} {cb ls : Nat → Nat} {B : Nat → List Int} {X : Nat → Prop}
/-- what notEnded hands out -/
def NEP (w : World) (cb ls : Nat → Nat) (zs : List Int) (e : Ending) (w' : World) : Prop :=
  ∃ ao c, e = .returned (.slice ao (zs.filter (fun z => !edZ ls z)).length c) ∧ OwZ w.heap.size 44 w' ao (zs.filter (fun z => !edZ ls z)).length c ((zs.filter (fun z => !edZ ls z)).map (pvZ cb)) ∧ Below w.heap.size w w'
set_option maxHeartbeats 1000000 in
theorem notEnded_any (h : CI w n cb ls B X) (ao : Option Addr) (m c : Nat) (zs : List Int) (hm : m = zs.length) (ha : WAt w ao (zs.map (pvZ cb))) (hz : ∀ z ∈ zs, z < (n : Int)) (hb : m ≤ 1000000) :
    Calls Try.prog 43 #[.slice ao m c] w fun e w' => NEP w cb ls zs e w' := by
  have HE := fun (wr : World) (hbl : Below w.heap.size w wr) (z : Int) (hz : z < (n : Int)) => hidW (ended_any (h.kept hbl) z hz)
  have HW := hidW ha
  have HZ := hidW hz
  have HM := hidW hm
  clear h ha hz hm
  go_enter Try.func43, Try.ntmps43
  go_wp2_with fail
  go_loopw [3, 8] (fun x y wr => ∃ (k t : Nat) (ro : Option Addr) (rc : Nat), k ≤ m ∧ y = .int .i64 (k : Int) ∧ x = .slice ro t rc ∧ Hid (t = ((zs.take k).filter (fun z => !edZ ls z)).length) ∧ Hid (OwZ w.heap.size 44 wr ro t rc (((zs.take k).filter (fun z => !edZ ls z)).map (pvZ cb))) ∧ Hid (Below w.heap.size w wr)) (fun _ y _ => m - (intOf y).toNat)
  case atStart => exact ⟨0, 0, none, 0, Nat.zero_le _, rfl, rfl, rfl, OwZ.nil _ _ _, Below.refl _ _⟩
  case round =>
    obtain ⟨k, t, ro, rc, hk, rfl, rfl, HT, HO, HB⟩ := hrel
    by_cases hlt : k < m
    · have hkl : k < zs.length := by have := HM.out; omega
      obtain ⟨g, off, rfl, e1⟩ := (HW.out.below HB.out).getZ k hkl
      have HS : Hid ((zs.take (k + 1)).filter (fun z => !edZ ls z) = (zs.take k).filter (fun z => !edZ ls z) ++ [zs[k]].filter (fun z => !edZ ls z)) := by
        show _ = _
        rw [List.take_add_one, List.getElem?_eq_getElem hkl]
        simp only [Option.toList_some, List.filter_append]
      have HTb : Hid (t ≤ k) := by
        have h1 := HT.out
        have h2 := List.length_filter_le (fun z => !edZ ls z) (zs.take k)
        have h3 : (zs.take k).length ≤ k := by simp; omega
        show _ ≤ _
        omega
      have HE1 := HE wr HB.out zs[k] (HZ.out _ (List.getElem_mem hkl))
      have HP1 : Hid ((pvZ cb zs[k]).oneCell' = true) := by show _ = _; unfold pvZ; split <;> rfl
      generalize zs[k] = z at *
      have HA := hidW (appZ (TS := 35) (TE := 44) Try.underlying35 infoZP rfl HO.out HB.out.size (pvZ cb z) HP1.out (by have := HTb.out; unfold maxLen; omega) (by have := HTb.out; omega))
      obtain ⟨pz, hpz⟩ : ∃ pz : Option Addr, pvZ cb z = .pointer pz := pvZ_ptr cb z
      rw [hpz] at e1 HE1 HA
      have HPz := hidW hpz
      clear hpz HP1
      cases hez : edZ ls z with
      | true =>
        have HSf : Hid ((zs.take (k + 1)).filter (fun z => !edZ ls z) = (zs.take k).filter (fun z => !edZ ls z)) := by show _ = _; rw [HS.out]; simp [hez]
        have HT2 : Hid (t = ((zs.take (k + 1)).filter (fun z => !edZ ls z)).length) := by show _ = _; rw [HSf.out]; exact HT.out
        have HO2 : Hid (OwZ w.heap.size 44 wr ro t rc (((zs.take (k + 1)).filter (fun z => !edZ ls z)).map (pvZ cb))) := by show OwZ _ _ _ _ _ _ _; rw [HSf.out]; exact HO.out
        rw [hez] at HE1
        clear hez HSf HS HA
        go_wp2_with fail
        refine HE1.out.mono ?_
        rintro e w2 ⟨rfl, hw2⟩
        have hw2' := hw2.symm
        subst hw2'
        clear hw2
        go_wp2
        go_roundw
        case rel => exact ⟨k + 1, t, ro, rc, by omega, by go_num, rfl, HT2, HO2, HB⟩
        case measure => simp [intOf]; omega
      | false =>
        have HSt : Hid ((zs.take (k + 1)).filter (fun z => !edZ ls z) = (zs.take k).filter (fun z => !edZ ls z) ++ [z]) := by show _ = _; rw [HS.out]; simp [hez]
        rw [hez] at HE1
        clear hez HS
        go_wp2_with fail
        refine HE1.out.mono ?_
        rintro e w2 ⟨rfl, hw2⟩
        have hw2' := hw2.symm
        subst hw2'
        clear hw2
        go_wp2_with (at_builtin; refine wpL_appZ rfl _ _ 35 rfl (.slice ro t rc) (.slice (some ⟨wr.heap.size, 0, none⟩) 1 1) rfl rfl HA.out ?_; rintro v1 w1 ⟨ro1, rc1, rfl, ho1, hf1, _⟩; have HO1 := hidW ho1; have HF1 := hidW hf1; clear ho1 hf1)
        have HT2 : Hid (t + 1 = ((zs.take (k + 1)).filter (fun z => !edZ ls z)).length) := by show _ = _; rw [HSt.out, List.length_append, ← HT.out]; rfl
        have HO2 : Hid (OwZ w.heap.size 44 w1 ro1 (t + 1) rc1 (((zs.take (k + 1)).filter (fun z => !edZ ls z)).map (pvZ cb))) := by show OwZ _ _ _ _ _ _ _; rw [HSt.out, List.map_append]; have := HO1.out; rw [← HPz.out] at this; exact this
        have HB2 : Hid (RowKit.Below w.heap.size w w1) := HB.out.trans (HF1.out.below HB.out.size (fun k hk => by obtain ⟨g, hg, rfl⟩ := hk; exact (HO.out.lt g hg).1))
        go_roundw
        case rel => exact ⟨k + 1, t + 1, ro1, rc1, by omega, by go_num, rfl, HT2, HO2, HB2⟩
        case measure => simp [intOf]; omega
    · obtain rfl : k = m := by omega
      have HTk : Hid (zs.take k = zs) := by show _ = _; rw [HM.out, List.take_length]
      have HP : Hid (NEP w cb ls zs (.returned (.slice ro t rc)) wr) := by
        have h1 := HT.out
        have h2 := HO.out
        rw [HTk.out] at h1 h2
        subst h1
        exact ⟨ro, rc, rfl, h2, HB.out⟩
      go_wp2
      go_ret
      exact HP.out
theorem pvZ_upd {cb : Nat → Nat} {n b : Nat} {z : Int} (h : z < (n : Int)) : pvZ (updZ cb n b) z = pvZ cb z := by
  unfold pvZ
  split
  · rfl
  · rw [updZ_lt (by omega)]
theorem edZ_upd {ls : Nat → Nat} {n l : Nat} {z : Int} (h : z < (n : Int)) : edZ (updZ ls n l) z = edZ ls z := by
  unfold edZ
  by_cases h0 : z < 0
  · simp [h0]
  · rw [updZ_lt (by omega)]
theorem pvZ_upds {cb : Nat → Nat} {n b : Nat} {R : List Int} (h : ∀ z ∈ R, z < (n : Int)) : R.map (pvZ (updZ cb n b)) = R.map (pvZ cb) := List.map_congr_left (fun z hz => pvZ_upd (h z hz))
/-- one chore more -/
theorem CI.push (h : CI w n cb ls B X) {w' : World} {b0 l c : Nat} {a : Option Addr} {R zs : List Int} (hs : ∀ k, X k → w'.heap[k]? = w.heap[k]?) (hb : w'.heap[b0]? = some (chZ l a R.length c)) (hnew : w.heap.size ≤ b0) (hR : WAt w' a (R.map (pvZ cb)))
    (hg : ∀ g, a = some g → w.heap.size ≤ g.block ∧ ∃ C, w'.heap[g.block]? = some (.cells C 44 (0, 0))) (h1 : ∀ z ∈ R, z ∈ zs) (h2 : l ≠ 0 → ∀ z ∈ zs, edZ ls z = false → z ∈ R) (h3 : ∀ z ∈ zs, z < (n : Int)) (h4 : l ≤ 65536) (h5 : R.length ≤ 1000000) :
    CI w' (n + 1) (updZ cb n b0) (updZ ls n l) (updZ B n zs) (fun k => X k ∨ k = b0 ∨ ∃ g, a = some g ∧ g.block = k) := by
  have hk := h.same hs
  have hcb : ∀ i, i < n → cb i ≠ b0 := fun i hi e => by have := h.lt (h.xc i hi); omega
  refine ⟨fun i hi => ?_, fun i hi => ?_, fun i j hi hj e => ?_, fun i hi z hz => ?_, fun k hX => ?_, fun i hi => ?_⟩
  · by_cases e : i = n
    · subst e
      refine ⟨a, c, R, ?_, ?_, fun g hg' => ⟨.inr (.inr ⟨g, hg', rfl⟩), (hg g hg').2⟩, ?_, ?_, h5⟩
      · rw [updZ_same, updZ_same]; exact hb
      · rw [pvZ_upds (fun z hz => h3 z (h1 z hz))]; exact hR
      · rw [updZ_same]; exact h1
      · rw [updZ_same, updZ_same]
        intro hl z hz he
        rw [edZ_upd (h3 z hz)] at he
        exact h2 hl z hz he
    · have hi' : i < n := by omega
      obtain ⟨a1, c1, R1, g1, g2, g3, g4, g5, g6⟩ := hk.ch i hi'
      have hz1 : ∀ z ∈ B i, z < (n : Int) := fun z hz => by have := h.bi i hi' z hz; omega
      refine ⟨a1, c1, R1, ?_, ?_, fun g hg' => ⟨.inl (g3 g hg').1, (g3 g hg').2⟩, ?_, ?_, g6⟩
      · rw [updZ_ne e, updZ_ne e]; exact g1
      · rw [pvZ_upds (fun z hz => hz1 z (g4 z hz))]; exact g2
      · rw [updZ_ne e]; exact g4
      · rw [updZ_ne e, updZ_ne e]
        intro hl z hz he
        rw [edZ_upd (hz1 z hz)] at he
        exact g5 hl z hz he
  · by_cases e : i = n
    · subst e; rw [updZ_same]; exact .inr (.inl rfl)
    · rw [updZ_ne e]; exact .inl (h.xc i (by omega))
  · by_cases ei : i = n
    · by_cases ej : j = n
      · omega
      · subst ei
        rw [updZ_same, updZ_ne ej] at e
        exact absurd e.symm (hcb j (by omega))
    · by_cases ej : j = n
      · subst ej
        rw [updZ_same, updZ_ne ei] at e
        exact absurd e (hcb i (by omega))
      · rw [updZ_ne ei, updZ_ne ej] at e
        exact h.nd i j (by omega) (by omega) e
  · by_cases e : i = n
    · subst e; rw [updZ_same] at hz; exact h3 z hz
    · rw [updZ_ne e] at hz; exact h.bi i (by omega) z hz
  · rcases hX with hX | rfl | ⟨g, hg1, rfl⟩
    · exact hk.xt k hX
    · exact ⟨_, _, hb, .inl rfl⟩
    · obtain ⟨C, hC⟩ := (hg g hg1).2
      exact ⟨C, _, hC, .inr rfl⟩
  · by_cases e : i = n
    · subst e; rw [updZ_same]; exact h4
    · rw [updZ_ne e]; exact h.le i (by omega)
/-- what NewChore hands out -/
def NCP (w : World) (n : Nat) (cb ls : Nat → Nat) (B : Nat → List Int) (X : Nat → Prop) (s : Int) (zs : List Int) (e : Ending) (w' : World) : Prop :=
  ∃ (b0 : Nat) (X' : Nat → Prop), e = .returned (ptZ b0) ∧ CI w' (n + 1) (updZ cb n b0) (updZ ls n (limZ s)) (updZ B n zs) X' ∧ (∀ k, X k → X' k) ∧ (∀ k, X' k → X k ∨ w.heap.size ≤ k) ∧ w.heap.size ≤ b0 ∧ RowKit.Below w.heap.size w w'
set_option maxHeartbeats 1000000 in
theorem newChore_any (h : CI w n cb ls B X) (s : Int) (ao : Option Addr) (m c : Nat) (zs : List Int) (hm : m = zs.length) (ha : WAt w ao (zs.map (pvZ cb))) (hz : ∀ z ∈ zs, z < (n : Int)) (hb : m ≤ 1000000) :
    Calls Try.prog 25 #[.int .i64 s, .slice ao m c] w fun e w' => NCP w n cb ls B X s zs e w' := by
  obtain ⟨W, hW⟩ : ∃ W, W = w.alloc (chZ (limZ s) none 0 0) := ⟨_, rfl⟩
  have hB0 : RowKit.Below w.heap.size w W := by rw [hW]; exact (Below.refl _ _).alloc (Nat.le_refl _) _
  have hN : W.heap[w.heap.size]? = some (chZ (limZ s) none 0 0) := by rw [hW]; exact heap_alloc_new _ _ rfl
  have hlm := limZ_le s
  have hli := limZ_int s
  have HE := hidW (ended_some W w.heap.size (limZ s) (by simp [World.cell?, hN]))
  have f1 : W.frozen? ⟨w.heap.size, 1, none⟩ = false := frozen_of_row W _ _ _ _ hN
  have c1 : W.cell? ⟨w.heap.size, 1, none⟩ = some (.slice none 0 0) := by simp [World.cell?, hN]
  have HI := hidW (notEnded_any (h.kept hB0) ao m c zs hm (ha.below hB0) hz hb)
  have hmx : (if s < 0 then (0 : Int) else s) = max s 0 := by omega
  by_cases h0 : limZ s = 0
  · have HP : Hid (NCP w n cb ls B X s zs (.returned (ptZ w.heap.size)) W) := by
      refine ⟨w.heap.size, _, rfl, h.push (R := []) (fun k hk => hB0.block k (h.lt hk)) hN (Nat.le_refl _) (fun j u hu => by simp at hu) (fun g hg => by cases hg) (by simp) (fun hl => absurd h0 hl) hz hlm (by simp), fun k hk => .inl hk, fun k hk => ?_, Nat.le_refl _, hB0⟩
      rcases hk with hk | rfl | ⟨g, hg, _⟩
      · exact .inl hk
      · exact .inr (Nat.le_refl _)
      · cases hg
    rw [h0] at HE hW hli
    clear h hB0 hN HI ha hz hm f1 c1 h0
    go_enter Try.func25, Try.ntmps25
    go_wp2_with fail
    rw [show (w.alloc (Obj.cells #[Value.int IntKind.i64 0, Value.slice none 0 0] 77)) = W from hW.symm]
    refine HE.out.mono ?_
    rintro e w1 ⟨rfl, hw1⟩
    have hw1' := hw1.symm
    subst hw1'
    clear hw1 hW
    go_wp2
    go_ret
    exact HP.out
  · have HP : Hid (∀ e w1, NEP W cb ls zs e w1 → ∃ ro t rc, e = .returned (.slice ro t rc) ∧ Hid (w1.cell? ⟨w.heap.size, 1, none⟩ = some (.slice none 0 0) ∧ w1.frozen? ⟨w.heap.size, 1, none⟩ = false ∧ NCP w n cb ls B X s zs (.returned (ptZ w.heap.size)) (w1.setCell ⟨w.heap.size, 1, none⟩ (.slice ro t rc)))) := by
      rintro e w1 ⟨ro, rc, rfl, ho, hbl⟩
      have hN1 : w1.heap[w.heap.size]? = some (chZ (limZ s) none 0 0) := (hbl.block _ (blk_ltZ hN)).trans hN
      refine ⟨ro, _, rc, rfl, by simp [World.cell?, hN1], frozen_of_row w1 _ _ _ _ hN1, ?_⟩
      have e2 := heap_setCell_same w1 w.heap.size 1 _ _ (.slice ro (zs.filter (fun z => !edZ ls z)).length rc) hN1
      have hoth : ∀ k, k ≠ w.heap.size → (w1.setCell ⟨w.heap.size, 1, none⟩ (.slice ro (zs.filter (fun z => !edZ ls z)).length rc)).heap[k]? = w1.heap[k]? := fun k hk => setW_block w1 ⟨w.heap.size, 1, none⟩ _ k hk
      have hro : ∀ g, ro = some g → W.heap.size ≤ g.block := fun g hg => (ho.lt g hg).1
      have hWs : W.heap.size = w.heap.size + 1 := by rw [hW]; simp
      have hbw : RowKit.Below w.heap.size w w1 := hB0.trans (hbl.mono hB0.size)
      refine ⟨w.heap.size, _, rfl, h.push (R := zs.filter (fun z => !edZ ls z)) (a := ro) (c := rc) (l := limZ s) (fun k hk => ?_) ?_ (Nat.le_refl _) ?_ (fun g hg => ⟨?_, ?_⟩) (fun z hz => (List.mem_filter.1 hz).1) (fun _ z hz he => List.mem_filter.2 ⟨hz, by simp [he]⟩) hz hlm ?_, fun k hk => .inl hk, fun k hk => ?_, Nat.le_refl _, ?_⟩
      · rw [hoth k (by have := h.lt hk; omega)]; exact hbw.block k (h.lt hk)
      · exact e2
      · exact ho.at_.sameZ (fun g hg => hoth _ (by have := hro g hg; omega))
      · have := hro g hg; omega
      · obtain ⟨C, hC⟩ := ho.ty g hg
        exact ⟨C, (hoth _ (by have := hro g hg; omega)).trans hC⟩
      · have := List.length_filter_le (fun z => !edZ ls z) zs; omega
      · rcases hk with hk | rfl | ⟨g, hg, rfl⟩
        · exact .inl hk
        · exact .inr (Nat.le_refl _)
        · have := hro g hg; exact .inr (by omega)
      · exact ⟨hbw.os, hbw.tape, hbw.output, by simpa using hbw.size, fun k hk => (hoth k (by omega)).trans (hbw.block k hk)⟩
    have hd : decide (limZ s = 0) = false := decide_eq_false h0
    rw [hd] at HE
    clear h hB0 hN ha hz hm f1 c1 h0 hd
    generalize limZ s = l at *
    go_enter Try.func25, Try.ntmps25
    go_wp2_with fail
    rw [show (w.alloc (Obj.cells #[Value.int IntKind.i64 (l : Int), Value.slice none 0 0] 77)) = W from hW.symm]
    refine HE.out.mono ?_
    rintro e w1 ⟨rfl, hw1⟩
    have hw1' := hw1.symm
    subst hw1'
    clear hw1 hW
    go_wp2_with fail
    refine HI.out.mono ?_
    intro e w2 hne
    obtain ⟨ro, t, rc, rfl, HQ⟩ := HP.out e w2 hne
    have c1 := HQ.out.1
    have f1 := HQ.out.2.1
    clear hne
    go_wp2
    go_ret
    exact HQ.out.2.2
end
end Go.Proofs.Yteobmijfbjgccaa
