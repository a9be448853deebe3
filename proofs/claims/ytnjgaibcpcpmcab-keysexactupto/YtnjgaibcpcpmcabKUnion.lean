/-
  THE WALKS OF choose, Union, Meet, Minus.
-/
import Derived.Test.YtnjgaibcpcpmcabKChoose
namespace Go.Proofs.Ytnjgaibcpcpmcab
open Go.RowKit Go.Sort

theorem grown_alloc3 {w : World} {o : Obj} {row : Option Nat} (w1 : World) (h : (w.alloc o).grownBy w1 row) : w.grownBy w1 row :=
  ⟨h.os, h.tape, h.output, Nat.le_trans (by simp) h.size, fun k hk hne => (h.block k (by simp; omega) hne).trans (Below.heap_alloc w o k hk)⟩
def lenV : Value → Nat
  | .slice _ n _ => n
  | _ => 0
theorem choose_fuel (f : Bool → Bool → Bool) (n m : Nat) (A B : List K) (hn : A.length + B.length ≤ n) (hm : A.length + B.length ≤ m) : choose f n A B = choose f m A B := by
  induction n generalizing m A B with
  | zero =>
    have hA : A = [] := List.eq_nil_of_length_eq_zero (by omega)
    have hB : B = [] := List.eq_nil_of_length_eq_zero (by omega)
    subst hA hB
    rw [choose_nil, choose_nil]
  | succ n ih =>
    by_cases hne : A ≠ [] ∨ B ≠ []
    · obtain ⟨m, rfl⟩ : ∃ k, m = k + 1 := ⟨m - 1, by
        rcases hne with h | h
        · have := List.length_pos_iff.2 h; omega
        · have := List.length_pos_iff.2 h; omega⟩
      rw [choose_low f n A B hne, choose_low f m A B hne]
      obtain ⟨h1, h2, h3⟩ := low_some A B hne
      have hl : ∀ (X : List K) (c : Bool), (after X c).length ≤ X.length ∧ (c = true → X ≠ [] → (after X c).length + 1 = X.length) := fun X c => by
        unfold after
        cases c with
        | false => simp
        | true => cases X <;> simp
      have e : (after A (low A B).2.1).length + (after B (low A B).2.2).length + 1 ≤ A.length + B.length := by
        have a1 := hl A (low A B).2.1
        have b1 := hl B (low A B).2.2
        rcases h3 with h | h
        · have := a1.2 h (h1 h); omega
        · have := b1.2 h (h2 h); omega
      rw [ih m _ _ (by omega) (by omega)]
    · simp only [not_or, ne_eq, Decidable.not_not] at hne
      obtain ⟨rfl, rfl⟩ := hne
      rw [choose_nil, choose_nil]

set_option maxHeartbeats 8000000 in
set_option maxRecDepth 100000 in
theorem choose_any (g : Nat) (f : Bool → Bool → Bool) (eg : ∀ args w, (callFunc g args).run Try.prog w = .ok (.enter g args) w) (hf : ∀ (w : World) (x y : Bool), Calls Try.prog g #[.bool x, .bool y] w fun e w' => e = .returned (.bool (f x y)) ∧ w' = w)
    (w : World) (ao bo : Option Addr) (na nb ca cb : Nat) (A B : List K) (hna : na = A.length) (hnb : nb = B.length) (hA : KeysAt w ao A) (hB : KeysAt w bo B) (hca : na ≤ ca) (hcb : nb ≤ cb) (hm : (na + nb) * 16 ≤ 140737488355328) :
    Calls Try.prog 48 #[.slice ao na ca, .slice bo nb cb, .func (.func g) #[] #[]] w fun e w' => ((Rise A ∧ Rise B ∧ ∃ v, e = .returned (.tuple #[v, .int .i64 0]) ∧ OwnK w' w.heap.size v (choose f (A.length + B.length) A B)) ∨ (¬ (Rise A ∧ Rise B) ∧ e = .returned (.tuple #[.slice none 0 0, .int .i64 22]))) ∧ Below w.heap.size w w' := by
  have mx := mixed
  have HNA : Hid (na = A.length) := hna
  have HNB : Hid (nb = B.length) := hnb
  have HKA0 : Hid (KeysAt w ao A) := hA
  have HKB0 : Hid (KeysAt w bo B) := hB
  have HFn : Hid (∀ (w : World) (x y : Bool), Calls Try.prog g #[.bool x, .bool y] w fun e w' => e = .returned (.bool (f x y)) ∧ w' = w) := hf
  have HRA : Hid (∀ w1, Below w.heap.size w w1 → Calls Try.prog 25 #[.slice ao na ca] w1 fun e w' => e = .returned (.bool (decide (Rise A))) ∧ ∃ q os, w' = grow (w1.drewN q) os) := fun w1 hb => rises_any w1 ao ca na A hna (hA.kept hb) (by omega)
  have HRB : Hid (∀ w1, Below w.heap.size w w1 → Calls Try.prog 25 #[.slice bo nb cb] w1 fun e w' => e = .returned (.bool (decide (Rise B))) ∧ ∃ q os, w' = grow (w1.drewN q) os) := fun w1 hb => rises_any w1 bo cb nb B hnb (hB.kept hb) (by omega)
  clear hna hnb hA hB hf
  go_enter Try.func48, Try.ntmps48
  go_wp2_with fail
  refine (HRA.out w ⟨rfl, rfl, rfl, Nat.le_refl _, fun _ _ => rfl⟩).mono ?_
  rintro e w1 ⟨rfl, g1⟩
  have HB1 : Hid (Below w.heap.size w w1) := Grew.below g1
  clear g1 HRA
  by_cases hra : Rise A
  case neg =>
    rw [decide_eq_false hra]
    have HR : Hid (¬ (Rise A ∧ Rise B)) := fun h => hra h.1
    clear hra
    go_wp2
    go_ret2
    exact ⟨.inr ⟨HR.out, rfl⟩, HB1.out⟩
  rw [decide_eq_true hra]
  have HRa : Hid (Rise A) := hra
  clear hra
  go_wp2_with fail
  refine (HRB.out w1 HB1.out).mono ?_
  rintro e w2 ⟨rfl, g2⟩
  have HB2 : Hid (Below w.heap.size w w2) := HB1.out.trans ((Grew.below g2).mono HB1.out.size)
  clear g2 HRB HB1
  by_cases hrb : Rise B
  case neg =>
    rw [decide_eq_false hrb]
    have HR : Hid (¬ (Rise A ∧ Rise B)) := fun h => hrb h.2
    clear hrb
    go_wp2
    go_ret2
    exact ⟨.inr ⟨HR.out, rfl⟩, HB2.out⟩
  rw [decide_eq_true hrb]
  have HRb : Hid (Rise B) := hrb
  clear hrb
  obtain ⟨C, hC⟩ : ∃ C, choose f (A.length + B.length) A B = C := ⟨_, rfl⟩
  have HCE : Hid (choose f (A.length + B.length) A B = C) := hC
  clear hC
  go_wp2_with fail
  go_loopw [0, 1, 8, 9, 10, 11] (fun s0 s1 s8 _ _ _ wr => ∃ (ra rb : List K) (xa : Option Addr) (la ka : Nat) (xb : Option Addr) (lb kb : Nat) (M : List K) (v : Value), s0 = .slice xa la ka ∧ s1 = .slice xb lb kb ∧ s8 = v ∧ la ≤ ka ∧ lb ≤ kb ∧ Hid (la = ra.length) ∧ Hid (lb = rb.length) ∧ Hid (KeysAt w xa ra) ∧ Hid (KeysAt w xb rb) ∧ Hid (M ++ choose f (ra.length + rb.length) ra rb = C ∧ M.length + ra.length + rb.length ≤ na + nb) ∧ Hid (OwnK wr w.heap.size v M) ∧ Hid (Below w.heap.size w wr)) (fun s0 s1 _ _ _ _ _ => lenV s0 + lenV s1)
  case atStart => exact ⟨A, B, ao, na, ca, bo, nb, cb, [], _, rfl, rfl, rfl, hca, hcb, HNA, HNB, HKA0, HKB0, ⟨by rw [List.nil_append]; exact HCE.out, by have := HNA.out; have := HNB.out; simp; omega⟩, OwnK.nil _ _, HB2⟩
  case round =>
    clear hca hcb HB2
    obtain ⟨ra, rb, xa, la, ka, xb, lb, kb, M, v, rfl, rfl, hv, hca, hcb, HLA, HLB, HKA, HKB, HCH, HO, HB⟩ := hrel
    have hv' := hv.symm
    subst hv'
    by_cases hne : 0 < la ∨ 0 < lb
    · have hd1 : decide ((0 : Int) < (la : Int)) = decide (0 < la) := by simp
      have HLo : Hid (∀ w1, Below w.heap.size w w1 → Calls Try.prog 67 #[.slice xa la ka, .slice xb lb kb] w1 fun e w' => e = .returned (.tuple #[.agg #[.int .i64 (low ra rb).1.1, .int .i64 (low ra rb).1.2], .bool (low ra rb).2.1, .bool (low ra rb).2.2]) ∧ Below w1.heap.size w1 w') := fun w1 hb => lowest_any w1 xa xb la lb ka kb ra rb (HKA.out.kept hb) HLA.out (HKB.out.kept hb) HLB.out (by
        rcases hne with h | h
        · exact .inl (fun e => by have := HLA.out; rw [e] at this; simp at this; omega)
        · exact .inr (fun e => by have := HLB.out; rw [e] at this; simp at this; omega))
      have hne2 : ra ≠ [] ∨ rb ≠ [] := by
        rcases hne with h | h
        · exact .inl (fun e => by have := HLA.out; rw [e] at this; simp at this; omega)
        · exact .inr (fun e => by have := HLB.out; rw [e] at this; simp at this; omega)
      have HCL : Hid (choose f (ra.length + rb.length) ra rb = (if f (low ra rb).2.1 (low ra rb).2.2 then [(low ra rb).1] else []) ++ choose f (ra.length + rb.length - 1) (after ra (low ra rb).2.1) (after rb (low ra rb).2.2)) := by
        obtain ⟨m, hm'⟩ : ∃ m, ra.length + rb.length = m + 1 := ⟨ra.length + rb.length - 1, by
          rcases hne2 with h | h
          · have := List.length_pos_iff.2 h; omega
          · have := List.length_pos_iff.2 h; omega⟩
        rw [Hid, hm', choose_low f m ra rb hne2, Nat.add_sub_cancel]
      have HNE : Hid (((low ra rb).2.1 = true → ra ≠ []) ∧ ((low ra rb).2.2 = true → rb ≠ []) ∧ ((low ra rb).2.1 = true ∨ (low ra rb).2.2 = true)) := low_some ra rb hne2
      generalize low ra rb = lw at *
      obtain ⟨⟨t, r⟩, x, y⟩ := lw
      simp only at HLo HCL HNE
      clear hne2 hd1
      have hgd : (decide ((0 : Int) < (la : Int)) || decide ((0 : Int) < (lb : Int))) = true := by simp; exact hne
      match x, y, HLo, HCL, HNE with
      | false, false, _, _, HNE => exact absurd HNE.out.2.2 (by simp)
      | true, true, HLo, HCL, HNE =>
        have hla : 0 < la := Nat.pos_of_ne_zero fun e => HNE.out.1 rfl (List.eq_nil_of_length_eq_zero (by have := HLA.out; omega))
        have hd1 : decide (0 < la) = true := by simpa using hla
        have hd2 : decide ((0 : Int) < (la : Int)) = true := by simpa using hla
        clear hne
        cases hfv : f true true with
        | true =>
          obtain ⟨a0, ra', rfl⟩ : ∃ a0 r', ra = a0 :: r' := by cases ra with | nil => exact absurd rfl (HNE.out.1 rfl) | cons a0 r' => exact ⟨a0, r', rfl⟩
          obtain ⟨ba, oa, rfl, _, _, hta⟩ := HKA.out.head
          have hla1 : 1 ≤ la := by have := HLA.out; simp at this; omega
          have HTA : Hid (KeysAt w (if ka = 1 then some ⟨ba, oa, none⟩ else some ⟨ba, oa + 2, none⟩) ra') := by by_cases h1 : ka = 1; (exact .inl (List.eq_nil_of_length_eq_zero (by have := HLA.out; simp at this; omega))); (rw [Hid, if_neg h1]; exact hta)
          have HLA' : Hid (la - 1 = ra'.length) := by have := HLA.out; rw [Hid]; simp at this; omega
          clear hta
          obtain ⟨b0, rb', rfl⟩ : ∃ b0 r', rb = b0 :: r' := by cases rb with | nil => exact absurd rfl (HNE.out.2.1 rfl) | cons b0 r' => exact ⟨b0, r', rfl⟩
          obtain ⟨bb, ob, rfl, _, _, htb⟩ := HKB.out.head
          have hlb1 : 1 ≤ lb := by have := HLB.out; simp at this; omega
          have HTB : Hid (KeysAt w (if kb = 1 then some ⟨bb, ob, none⟩ else some ⟨bb, ob + 2, none⟩) rb') := by by_cases h1 : kb = 1; (exact .inl (List.eq_nil_of_length_eq_zero (by have := HLB.out; simp at this; omega))); (rw [Hid, if_neg h1]; exact htb)
          have HLB' : Hid (lb - 1 = rb'.length) := by have := HLB.out; rw [Hid]; simp at this; omega
          clear htb
          have HC2 : Hid ((M ++ [(t, r)]) ++ choose f (ra'.length + rb'.length) ra' rb' = C ∧ (M ++ [(t, r)]).length + ra'.length + rb'.length ≤ na + nb) := by
            obtain ⟨h1, h2⟩ := HCH.out
            have h3 := HCL.out
            rw [hfv] at h3
            simp only [after, if_true, List.tail_cons] at h3
            have h4 : choose f (ra'.length + rb'.length) ra' rb' = choose f ((a0 :: ra').length + (b0 :: rb').length - 1) ra' rb' := choose_fuel f _ _ _ _ (by simp; try omega) (by simp; try omega)
            refine ⟨?_, by simp at h2 ⊢; omega⟩
            rw [← h1, h3, h4]; simp
          have HF : Hid (∀ w, Calls Try.prog g #[.bool true, .bool true] w fun e w' => e = .returned (.bool true) ∧ w = w') := fun w => by have h := HFn.out w true true; rw [hfv] at h; exact h.mono fun _ _ h => ⟨h.1, h.2.symm⟩
          clear HCH HCL HNE hfv HFn
          go_wp2_with fail
          refine (HLo.out wr HB.out).mono ?_
          rintro e w1 ⟨rfl, hb1⟩
          have HBk : Hid (Box (w1.alloc (.cells #[.int .i64 t, .int .i64 r] 28)) w1.heap.size t r) := Box.new rfl
          have HGw : Hid (Grew w1 (w1.alloc (.cells #[.int .i64 t, .int .i64 r] 28))) := (Grew.refl _).alloc _
          have HB1 : Hid (Below w.heap.size w w1) := HB.out.trans (hb1.mono HB.out.size)
          have HO3 : Hid (OwnK (w1.alloc (.cells #[.int .i64 t, .int .i64 r] 28)) w.heap.size v M) := (HO.out.kept hb1).kept HGw.out.below
          have HB3 : Hid (Below w.heap.size w (w1.alloc (.cells #[.int .i64 t, .int .i64 r] 28))) := HB1.out.trans (HGw.out.below.mono HB1.out.size)
          obtain ⟨k1, k2⟩ := HBk.out
          clear hb1 HLo HGw HBk HB1
          have hMb : (M.length + 1) * 16 ≤ 140737488355328 := by have := HC2.out.2; simp at this; omega
          go_wp2_with (first | (go_at_fn g; refine (HF.out _).mono ?_; rintro e w2 ⟨rfl, rfl⟩) | (at_builtin; go_loud (refine wpList_append_keys rfl _ _ rfl w.heap.size v M rfl (OwnK.alloc (w := (w1.alloc (.cells #[.int .i64 t, .int .i64 r] 28))) HO3.out _) _ _ _ [(t, r)] rfl rfl (key_src (w1.alloc (.cells #[.int .i64 t, .int .i64 r] 28)) _ t r (by simp)) (by simp) (by simpa using hMb) (by have := HB3.out.size; simp at this ⊢; omega) ?_; intro v' w3 hown3 hgrow3 hat3; have HO4 : Hid (OwnK w3 w.heap.size v' (M ++ [(t, r)])) := hown3; have HB4 : Hid (Below w.heap.size w w3) := HB3.out.trans (grown_below (grown_alloc3 (w := (w1.alloc (.cells #[.int .i64 t, .int .i64 r] 28))) w3 hgrow3) (fun k hk => (HO3.out.lt k hk).1) HB3.out.size); clear hown3 hgrow3 hat3 k1 k2)))
          go_roundw
          case rel => exact ⟨ra', rb', _, _, _, _, _, _, M ++ [(t, r)], v', rfl, rfl, rfl, by omega, by omega, HLA', HLB', HTA, HTB, HC2, HO4, HB4⟩
          case measure => simp [lenV]; omega
        | false =>
          obtain ⟨a0, ra', rfl⟩ : ∃ a0 r', ra = a0 :: r' := by cases ra with | nil => exact absurd rfl (HNE.out.1 rfl) | cons a0 r' => exact ⟨a0, r', rfl⟩
          obtain ⟨ba, oa, rfl, _, _, hta⟩ := HKA.out.head
          have hla1 : 1 ≤ la := by have := HLA.out; simp at this; omega
          have HTA : Hid (KeysAt w (if ka = 1 then some ⟨ba, oa, none⟩ else some ⟨ba, oa + 2, none⟩) ra') := by by_cases h1 : ka = 1; (exact .inl (List.eq_nil_of_length_eq_zero (by have := HLA.out; simp at this; omega))); (rw [Hid, if_neg h1]; exact hta)
          have HLA' : Hid (la - 1 = ra'.length) := by have := HLA.out; rw [Hid]; simp at this; omega
          clear hta
          obtain ⟨b0, rb', rfl⟩ : ∃ b0 r', rb = b0 :: r' := by cases rb with | nil => exact absurd rfl (HNE.out.2.1 rfl) | cons b0 r' => exact ⟨b0, r', rfl⟩
          obtain ⟨bb, ob, rfl, _, _, htb⟩ := HKB.out.head
          have hlb1 : 1 ≤ lb := by have := HLB.out; simp at this; omega
          have HTB : Hid (KeysAt w (if kb = 1 then some ⟨bb, ob, none⟩ else some ⟨bb, ob + 2, none⟩) rb') := by by_cases h1 : kb = 1; (exact .inl (List.eq_nil_of_length_eq_zero (by have := HLB.out; simp at this; omega))); (rw [Hid, if_neg h1]; exact htb)
          have HLB' : Hid (lb - 1 = rb'.length) := by have := HLB.out; rw [Hid]; simp at this; omega
          clear htb
          have HC2 : Hid ((M) ++ choose f (ra'.length + rb'.length) ra' rb' = C ∧ (M).length + ra'.length + rb'.length ≤ na + nb) := by
            obtain ⟨h1, h2⟩ := HCH.out
            have h3 := HCL.out
            rw [hfv] at h3
            simp only [after, if_true, if_false, List.tail_cons, Bool.false_eq_true] at h3
            have h4 : choose f (ra'.length + rb'.length) ra' rb' = choose f ((a0 :: ra').length + (b0 :: rb').length - 1) ra' rb' := choose_fuel f _ _ _ _ (by simp; try omega) (by simp; try omega)
            refine ⟨?_, by simp at h2 ⊢; omega⟩
            rw [← h1, h3, h4]; simp
          have HF : Hid (∀ w, Calls Try.prog g #[.bool true, .bool true] w fun e w' => e = .returned (.bool false) ∧ w = w') := fun w => by have h := HFn.out w true true; rw [hfv] at h; exact h.mono fun _ _ h => ⟨h.1, h.2.symm⟩
          clear HCH HCL HNE hfv HFn
          go_wp2_with fail
          refine (HLo.out wr HB.out).mono ?_
          rintro e w1 ⟨rfl, hb1⟩
          have HBk : Hid (Box (w1.alloc (.cells #[.int .i64 t, .int .i64 r] 28)) w1.heap.size t r) := Box.new rfl
          have HGw : Hid (Grew w1 (w1.alloc (.cells #[.int .i64 t, .int .i64 r] 28))) := (Grew.refl _).alloc _
          have HB1 : Hid (Below w.heap.size w w1) := HB.out.trans (hb1.mono HB.out.size)
          have HO3 : Hid (OwnK (w1.alloc (.cells #[.int .i64 t, .int .i64 r] 28)) w.heap.size v M) := (HO.out.kept hb1).kept HGw.out.below
          have HB3 : Hid (Below w.heap.size w (w1.alloc (.cells #[.int .i64 t, .int .i64 r] 28))) := HB1.out.trans (HGw.out.below.mono HB1.out.size)
          obtain ⟨k1, k2⟩ := HBk.out
          clear hb1 HLo HGw HBk HB1
          go_wp2_with (go_at_fn g; refine (HF.out _).mono ?_; rintro e w2 ⟨rfl, rfl⟩)
          go_roundw
          case rel => exact ⟨ra', rb', _, _, _, _, _, _, M, v, rfl, rfl, rfl, by omega, by omega, HLA', HLB', HTA, HTB, HC2, HO3, HB3⟩
          case measure => simp [lenV]; omega
      | true, false, HLo, HCL, HNE =>
        have hla : 0 < la := Nat.pos_of_ne_zero fun e => HNE.out.1 rfl (List.eq_nil_of_length_eq_zero (by have := HLA.out; omega))
        have hd1 : decide (0 < la) = true := by simpa using hla
        have hd2 : decide ((0 : Int) < (la : Int)) = true := by simpa using hla
        clear hne
        cases hfv : f true false with
        | true =>
          obtain ⟨a0, ra', rfl⟩ : ∃ a0 r', ra = a0 :: r' := by cases ra with | nil => exact absurd rfl (HNE.out.1 rfl) | cons a0 r' => exact ⟨a0, r', rfl⟩
          obtain ⟨ba, oa, rfl, _, _, hta⟩ := HKA.out.head
          have hla1 : 1 ≤ la := by have := HLA.out; simp at this; omega
          have HTA : Hid (KeysAt w (if ka = 1 then some ⟨ba, oa, none⟩ else some ⟨ba, oa + 2, none⟩) ra') := by by_cases h1 : ka = 1; (exact .inl (List.eq_nil_of_length_eq_zero (by have := HLA.out; simp at this; omega))); (rw [Hid, if_neg h1]; exact hta)
          have HLA' : Hid (la - 1 = ra'.length) := by have := HLA.out; rw [Hid]; simp at this; omega
          clear hta
          have HC2 : Hid ((M ++ [(t, r)]) ++ choose f (ra'.length + rb.length) ra' rb = C ∧ (M ++ [(t, r)]).length + ra'.length + rb.length ≤ na + nb) := by
            obtain ⟨h1, h2⟩ := HCH.out
            have h3 := HCL.out
            rw [hfv] at h3
            simp only [after, if_true, if_false, List.tail_cons, Bool.false_eq_true] at h3
            have h4 : choose f (ra'.length + rb.length) ra' rb = choose f ((a0 :: ra').length + rb.length - 1) ra' rb := choose_fuel f _ _ _ _ (by simp; try omega) (by simp; try omega)
            refine ⟨?_, by simp at h2 ⊢; omega⟩
            rw [← h1, h3, h4]; simp
          have HF : Hid (∀ w, Calls Try.prog g #[.bool true, .bool false] w fun e w' => e = .returned (.bool true) ∧ w = w') := fun w => by have h := HFn.out w true false; rw [hfv] at h; exact h.mono fun _ _ h => ⟨h.1, h.2.symm⟩
          clear HCH HCL HNE hfv HFn
          go_wp2_with fail
          refine (HLo.out wr HB.out).mono ?_
          rintro e w1 ⟨rfl, hb1⟩
          have HBk : Hid (Box (w1.alloc (.cells #[.int .i64 t, .int .i64 r] 28)) w1.heap.size t r) := Box.new rfl
          have HGw : Hid (Grew w1 (w1.alloc (.cells #[.int .i64 t, .int .i64 r] 28))) := (Grew.refl _).alloc _
          have HB1 : Hid (Below w.heap.size w w1) := HB.out.trans (hb1.mono HB.out.size)
          have HO3 : Hid (OwnK (w1.alloc (.cells #[.int .i64 t, .int .i64 r] 28)) w.heap.size v M) := (HO.out.kept hb1).kept HGw.out.below
          have HB3 : Hid (Below w.heap.size w (w1.alloc (.cells #[.int .i64 t, .int .i64 r] 28))) := HB1.out.trans (HGw.out.below.mono HB1.out.size)
          obtain ⟨k1, k2⟩ := HBk.out
          clear hb1 HLo HGw HBk HB1
          have hMb : (M.length + 1) * 16 ≤ 140737488355328 := by have := HC2.out.2; simp at this; omega
          go_wp2_with (first | (go_at_fn g; refine (HF.out _).mono ?_; rintro e w2 ⟨rfl, rfl⟩) | (at_builtin; go_loud (refine wpList_append_keys rfl _ _ rfl w.heap.size v M rfl (OwnK.alloc (w := (w1.alloc (.cells #[.int .i64 t, .int .i64 r] 28))) HO3.out _) _ _ _ [(t, r)] rfl rfl (key_src (w1.alloc (.cells #[.int .i64 t, .int .i64 r] 28)) _ t r (by simp)) (by simp) (by simpa using hMb) (by have := HB3.out.size; simp at this ⊢; omega) ?_; intro v' w3 hown3 hgrow3 hat3; have HO4 : Hid (OwnK w3 w.heap.size v' (M ++ [(t, r)])) := hown3; have HB4 : Hid (Below w.heap.size w w3) := HB3.out.trans (grown_below (grown_alloc3 (w := (w1.alloc (.cells #[.int .i64 t, .int .i64 r] 28))) w3 hgrow3) (fun k hk => (HO3.out.lt k hk).1) HB3.out.size); clear hown3 hgrow3 hat3 k1 k2)))
          go_roundw
          case rel => exact ⟨ra', rb, _, _, _, _, _, _, M ++ [(t, r)], v', rfl, rfl, rfl, by omega, hcb, HLA', HLB, HTA, HKB, HC2, HO4, HB4⟩
          case measure => simp [lenV]; omega
        | false =>
          obtain ⟨a0, ra', rfl⟩ : ∃ a0 r', ra = a0 :: r' := by cases ra with | nil => exact absurd rfl (HNE.out.1 rfl) | cons a0 r' => exact ⟨a0, r', rfl⟩
          obtain ⟨ba, oa, rfl, _, _, hta⟩ := HKA.out.head
          have hla1 : 1 ≤ la := by have := HLA.out; simp at this; omega
          have HTA : Hid (KeysAt w (if ka = 1 then some ⟨ba, oa, none⟩ else some ⟨ba, oa + 2, none⟩) ra') := by by_cases h1 : ka = 1; (exact .inl (List.eq_nil_of_length_eq_zero (by have := HLA.out; simp at this; omega))); (rw [Hid, if_neg h1]; exact hta)
          have HLA' : Hid (la - 1 = ra'.length) := by have := HLA.out; rw [Hid]; simp at this; omega
          clear hta
          have HC2 : Hid ((M) ++ choose f (ra'.length + rb.length) ra' rb = C ∧ (M).length + ra'.length + rb.length ≤ na + nb) := by
            obtain ⟨h1, h2⟩ := HCH.out
            have h3 := HCL.out
            rw [hfv] at h3
            simp only [after, if_true, if_false, List.tail_cons, Bool.false_eq_true] at h3
            have h4 : choose f (ra'.length + rb.length) ra' rb = choose f ((a0 :: ra').length + rb.length - 1) ra' rb := choose_fuel f _ _ _ _ (by simp; try omega) (by simp; try omega)
            refine ⟨?_, by simp at h2 ⊢; omega⟩
            rw [← h1, h3, h4]; simp
          have HF : Hid (∀ w, Calls Try.prog g #[.bool true, .bool false] w fun e w' => e = .returned (.bool false) ∧ w = w') := fun w => by have h := HFn.out w true false; rw [hfv] at h; exact h.mono fun _ _ h => ⟨h.1, h.2.symm⟩
          clear HCH HCL HNE hfv HFn
          go_wp2_with fail
          refine (HLo.out wr HB.out).mono ?_
          rintro e w1 ⟨rfl, hb1⟩
          have HBk : Hid (Box (w1.alloc (.cells #[.int .i64 t, .int .i64 r] 28)) w1.heap.size t r) := Box.new rfl
          have HGw : Hid (Grew w1 (w1.alloc (.cells #[.int .i64 t, .int .i64 r] 28))) := (Grew.refl _).alloc _
          have HB1 : Hid (Below w.heap.size w w1) := HB.out.trans (hb1.mono HB.out.size)
          have HO3 : Hid (OwnK (w1.alloc (.cells #[.int .i64 t, .int .i64 r] 28)) w.heap.size v M) := (HO.out.kept hb1).kept HGw.out.below
          have HB3 : Hid (Below w.heap.size w (w1.alloc (.cells #[.int .i64 t, .int .i64 r] 28))) := HB1.out.trans (HGw.out.below.mono HB1.out.size)
          obtain ⟨k1, k2⟩ := HBk.out
          clear hb1 HLo HGw HBk HB1
          go_wp2_with (go_at_fn g; refine (HF.out _).mono ?_; rintro e w2 ⟨rfl, rfl⟩)
          go_roundw
          case rel => exact ⟨ra', rb, _, _, _, _, _, _, M, v, rfl, rfl, rfl, by omega, hcb, HLA', HLB, HTA, HKB, HC2, HO3, HB3⟩
          case measure => simp [lenV]; omega
      | false, true, HLo, HCL, HNE =>
        have hlb : 0 < lb := Nat.pos_of_ne_zero fun e => HNE.out.2.1 rfl (List.eq_nil_of_length_eq_zero (by have := HLB.out; omega))
        have hd3 : decide (0 < lb) = true := by simpa using hlb
        have hd4 : decide ((0 : Int) < (lb : Int)) = true := by simpa using hlb
        clear hne
        by_cases hla : 0 < la
        · have hd1 : decide (0 < la) = true := by simpa using hla
          have hd2 : decide ((0 : Int) < (la : Int)) = true := by simpa using hla
          cases hfv : f false true with
          | true =>
            obtain ⟨b0, rb', rfl⟩ : ∃ b0 r', rb = b0 :: r' := by cases rb with | nil => exact absurd rfl (HNE.out.2.1 rfl) | cons b0 r' => exact ⟨b0, r', rfl⟩
            obtain ⟨bb, ob, rfl, _, _, htb⟩ := HKB.out.head
            have hlb1 : 1 ≤ lb := by have := HLB.out; simp at this; omega
            have HTB : Hid (KeysAt w (if kb = 1 then some ⟨bb, ob, none⟩ else some ⟨bb, ob + 2, none⟩) rb') := by by_cases h1 : kb = 1; (exact .inl (List.eq_nil_of_length_eq_zero (by have := HLB.out; simp at this; omega))); (rw [Hid, if_neg h1]; exact htb)
            have HLB' : Hid (lb - 1 = rb'.length) := by have := HLB.out; rw [Hid]; simp at this; omega
            clear htb
            have HC2 : Hid ((M ++ [(t, r)]) ++ choose f (ra.length + rb'.length) ra rb' = C ∧ (M ++ [(t, r)]).length + ra.length + rb'.length ≤ na + nb) := by
              obtain ⟨h1, h2⟩ := HCH.out
              have h3 := HCL.out
              rw [hfv] at h3
              simp only [after, if_true, if_false, List.tail_cons, Bool.false_eq_true] at h3
              have h4 : choose f (ra.length + rb'.length) ra rb' = choose f (ra.length + (b0 :: rb').length - 1) ra rb' := choose_fuel f _ _ _ _ (by simp; try omega) (by simp; try omega)
              refine ⟨?_, by simp at h2 ⊢; omega⟩
              rw [← h1, h3, h4]; simp
            have HF : Hid (∀ w, Calls Try.prog g #[.bool false, .bool true] w fun e w' => e = .returned (.bool true) ∧ w = w') := fun w => by have h := HFn.out w false true; rw [hfv] at h; exact h.mono fun _ _ h => ⟨h.1, h.2.symm⟩
            clear HCH HCL HNE hfv HFn
            go_wp2_with fail
            refine (HLo.out wr HB.out).mono ?_
            rintro e w1 ⟨rfl, hb1⟩
            have HBk : Hid (Box (w1.alloc (.cells #[.int .i64 t, .int .i64 r] 28)) w1.heap.size t r) := Box.new rfl
            have HGw : Hid (Grew w1 (w1.alloc (.cells #[.int .i64 t, .int .i64 r] 28))) := (Grew.refl _).alloc _
            have HB1 : Hid (Below w.heap.size w w1) := HB.out.trans (hb1.mono HB.out.size)
            have HO3 : Hid (OwnK (w1.alloc (.cells #[.int .i64 t, .int .i64 r] 28)) w.heap.size v M) := (HO.out.kept hb1).kept HGw.out.below
            have HB3 : Hid (Below w.heap.size w (w1.alloc (.cells #[.int .i64 t, .int .i64 r] 28))) := HB1.out.trans (HGw.out.below.mono HB1.out.size)
            obtain ⟨k1, k2⟩ := HBk.out
            clear hb1 HLo HGw HBk HB1
            have hMb : (M.length + 1) * 16 ≤ 140737488355328 := by have := HC2.out.2; simp at this; omega
            go_wp2_with (first | (go_at_fn g; refine (HF.out _).mono ?_; rintro e w2 ⟨rfl, rfl⟩) | (at_builtin; go_loud (refine wpList_append_keys rfl _ _ rfl w.heap.size v M rfl (OwnK.alloc (w := (w1.alloc (.cells #[.int .i64 t, .int .i64 r] 28))) HO3.out _) _ _ _ [(t, r)] rfl rfl (key_src (w1.alloc (.cells #[.int .i64 t, .int .i64 r] 28)) _ t r (by simp)) (by simp) (by simpa using hMb) (by have := HB3.out.size; simp at this ⊢; omega) ?_; intro v' w3 hown3 hgrow3 hat3; have HO4 : Hid (OwnK w3 w.heap.size v' (M ++ [(t, r)])) := hown3; have HB4 : Hid (Below w.heap.size w w3) := HB3.out.trans (grown_below (grown_alloc3 (w := (w1.alloc (.cells #[.int .i64 t, .int .i64 r] 28))) w3 hgrow3) (fun k hk => (HO3.out.lt k hk).1) HB3.out.size); clear hown3 hgrow3 hat3 k1 k2)))
            go_roundw
            case rel => exact ⟨ra, rb', _, _, _, _, _, _, M ++ [(t, r)], v', rfl, rfl, rfl, hca, by omega, HLA, HLB', HKA, HTB, HC2, HO4, HB4⟩
            case measure => simp [lenV]; omega
          | false =>
            obtain ⟨b0, rb', rfl⟩ : ∃ b0 r', rb = b0 :: r' := by cases rb with | nil => exact absurd rfl (HNE.out.2.1 rfl) | cons b0 r' => exact ⟨b0, r', rfl⟩
            obtain ⟨bb, ob, rfl, _, _, htb⟩ := HKB.out.head
            have hlb1 : 1 ≤ lb := by have := HLB.out; simp at this; omega
            have HTB : Hid (KeysAt w (if kb = 1 then some ⟨bb, ob, none⟩ else some ⟨bb, ob + 2, none⟩) rb') := by by_cases h1 : kb = 1; (exact .inl (List.eq_nil_of_length_eq_zero (by have := HLB.out; simp at this; omega))); (rw [Hid, if_neg h1]; exact htb)
            have HLB' : Hid (lb - 1 = rb'.length) := by have := HLB.out; rw [Hid]; simp at this; omega
            clear htb
            have HC2 : Hid ((M) ++ choose f (ra.length + rb'.length) ra rb' = C ∧ (M).length + ra.length + rb'.length ≤ na + nb) := by
              obtain ⟨h1, h2⟩ := HCH.out
              have h3 := HCL.out
              rw [hfv] at h3
              simp only [after, if_true, if_false, List.tail_cons, Bool.false_eq_true] at h3
              have h4 : choose f (ra.length + rb'.length) ra rb' = choose f (ra.length + (b0 :: rb').length - 1) ra rb' := choose_fuel f _ _ _ _ (by simp; try omega) (by simp; try omega)
              refine ⟨?_, by simp at h2 ⊢; omega⟩
              rw [← h1, h3, h4]; simp
            have HF : Hid (∀ w, Calls Try.prog g #[.bool false, .bool true] w fun e w' => e = .returned (.bool false) ∧ w = w') := fun w => by have h := HFn.out w false true; rw [hfv] at h; exact h.mono fun _ _ h => ⟨h.1, h.2.symm⟩
            clear HCH HCL HNE hfv HFn
            go_wp2_with fail
            refine (HLo.out wr HB.out).mono ?_
            rintro e w1 ⟨rfl, hb1⟩
            have HBk : Hid (Box (w1.alloc (.cells #[.int .i64 t, .int .i64 r] 28)) w1.heap.size t r) := Box.new rfl
            have HGw : Hid (Grew w1 (w1.alloc (.cells #[.int .i64 t, .int .i64 r] 28))) := (Grew.refl _).alloc _
            have HB1 : Hid (Below w.heap.size w w1) := HB.out.trans (hb1.mono HB.out.size)
            have HO3 : Hid (OwnK (w1.alloc (.cells #[.int .i64 t, .int .i64 r] 28)) w.heap.size v M) := (HO.out.kept hb1).kept HGw.out.below
            have HB3 : Hid (Below w.heap.size w (w1.alloc (.cells #[.int .i64 t, .int .i64 r] 28))) := HB1.out.trans (HGw.out.below.mono HB1.out.size)
            obtain ⟨k1, k2⟩ := HBk.out
            clear hb1 HLo HGw HBk HB1
            go_wp2_with (go_at_fn g; refine (HF.out _).mono ?_; rintro e w2 ⟨rfl, rfl⟩)
            go_roundw
            case rel => exact ⟨ra, rb', _, _, _, _, _, _, M, v, rfl, rfl, rfl, hca, by omega, HLA, HLB', HKA, HTB, HC2, HO3, HB3⟩
            case measure => simp [lenV]; omega
        · have hd1 : decide (0 < la) = false := by simpa using hla
          have hd2 : decide ((0 : Int) < (la : Int)) = false := by simpa using hla
          cases hfv : f false true with
          | true =>
            obtain ⟨b0, rb', rfl⟩ : ∃ b0 r', rb = b0 :: r' := by cases rb with | nil => exact absurd rfl (HNE.out.2.1 rfl) | cons b0 r' => exact ⟨b0, r', rfl⟩
            obtain ⟨bb, ob, rfl, _, _, htb⟩ := HKB.out.head
            have hlb1 : 1 ≤ lb := by have := HLB.out; simp at this; omega
            have HTB : Hid (KeysAt w (if kb = 1 then some ⟨bb, ob, none⟩ else some ⟨bb, ob + 2, none⟩) rb') := by by_cases h1 : kb = 1; (exact .inl (List.eq_nil_of_length_eq_zero (by have := HLB.out; simp at this; omega))); (rw [Hid, if_neg h1]; exact htb)
            have HLB' : Hid (lb - 1 = rb'.length) := by have := HLB.out; rw [Hid]; simp at this; omega
            clear htb
            have HC2 : Hid ((M ++ [(t, r)]) ++ choose f (ra.length + rb'.length) ra rb' = C ∧ (M ++ [(t, r)]).length + ra.length + rb'.length ≤ na + nb) := by
              obtain ⟨h1, h2⟩ := HCH.out
              have h3 := HCL.out
              rw [hfv] at h3
              simp only [after, if_true, if_false, List.tail_cons, Bool.false_eq_true] at h3
              have h4 : choose f (ra.length + rb'.length) ra rb' = choose f (ra.length + (b0 :: rb').length - 1) ra rb' := choose_fuel f _ _ _ _ (by simp; try omega) (by simp; try omega)
              refine ⟨?_, by simp at h2 ⊢; omega⟩
              rw [← h1, h3, h4]; simp
            have HF : Hid (∀ w, Calls Try.prog g #[.bool false, .bool true] w fun e w' => e = .returned (.bool true) ∧ w = w') := fun w => by have h := HFn.out w false true; rw [hfv] at h; exact h.mono fun _ _ h => ⟨h.1, h.2.symm⟩
            clear HCH HCL HNE hfv HFn
            go_wp2_with fail
            refine (HLo.out wr HB.out).mono ?_
            rintro e w1 ⟨rfl, hb1⟩
            have HBk : Hid (Box (w1.alloc (.cells #[.int .i64 t, .int .i64 r] 28)) w1.heap.size t r) := Box.new rfl
            have HGw : Hid (Grew w1 (w1.alloc (.cells #[.int .i64 t, .int .i64 r] 28))) := (Grew.refl _).alloc _
            have HB1 : Hid (Below w.heap.size w w1) := HB.out.trans (hb1.mono HB.out.size)
            have HO3 : Hid (OwnK (w1.alloc (.cells #[.int .i64 t, .int .i64 r] 28)) w.heap.size v M) := (HO.out.kept hb1).kept HGw.out.below
            have HB3 : Hid (Below w.heap.size w (w1.alloc (.cells #[.int .i64 t, .int .i64 r] 28))) := HB1.out.trans (HGw.out.below.mono HB1.out.size)
            obtain ⟨k1, k2⟩ := HBk.out
            clear hb1 HLo HGw HBk HB1
            have hMb : (M.length + 1) * 16 ≤ 140737488355328 := by have := HC2.out.2; simp at this; omega
            go_wp2_with (first | (go_at_fn g; refine (HF.out _).mono ?_; rintro e w2 ⟨rfl, rfl⟩) | (at_builtin; go_loud (refine wpList_append_keys rfl _ _ rfl w.heap.size v M rfl (OwnK.alloc (w := (w1.alloc (.cells #[.int .i64 t, .int .i64 r] 28))) HO3.out _) _ _ _ [(t, r)] rfl rfl (key_src (w1.alloc (.cells #[.int .i64 t, .int .i64 r] 28)) _ t r (by simp)) (by simp) (by simpa using hMb) (by have := HB3.out.size; simp at this ⊢; omega) ?_; intro v' w3 hown3 hgrow3 hat3; have HO4 : Hid (OwnK w3 w.heap.size v' (M ++ [(t, r)])) := hown3; have HB4 : Hid (Below w.heap.size w w3) := HB3.out.trans (grown_below (grown_alloc3 (w := (w1.alloc (.cells #[.int .i64 t, .int .i64 r] 28))) w3 hgrow3) (fun k hk => (HO3.out.lt k hk).1) HB3.out.size); clear hown3 hgrow3 hat3 k1 k2)))
            go_roundw
            case rel => exact ⟨ra, rb', _, _, _, _, _, _, M ++ [(t, r)], v', rfl, rfl, rfl, hca, by omega, HLA, HLB', HKA, HTB, HC2, HO4, HB4⟩
            case measure => simp [lenV]; omega
          | false =>
            obtain ⟨b0, rb', rfl⟩ : ∃ b0 r', rb = b0 :: r' := by cases rb with | nil => exact absurd rfl (HNE.out.2.1 rfl) | cons b0 r' => exact ⟨b0, r', rfl⟩
            obtain ⟨bb, ob, rfl, _, _, htb⟩ := HKB.out.head
            have hlb1 : 1 ≤ lb := by have := HLB.out; simp at this; omega
            have HTB : Hid (KeysAt w (if kb = 1 then some ⟨bb, ob, none⟩ else some ⟨bb, ob + 2, none⟩) rb') := by by_cases h1 : kb = 1; (exact .inl (List.eq_nil_of_length_eq_zero (by have := HLB.out; simp at this; omega))); (rw [Hid, if_neg h1]; exact htb)
            have HLB' : Hid (lb - 1 = rb'.length) := by have := HLB.out; rw [Hid]; simp at this; omega
            clear htb
            have HC2 : Hid ((M) ++ choose f (ra.length + rb'.length) ra rb' = C ∧ (M).length + ra.length + rb'.length ≤ na + nb) := by
              obtain ⟨h1, h2⟩ := HCH.out
              have h3 := HCL.out
              rw [hfv] at h3
              simp only [after, if_true, if_false, List.tail_cons, Bool.false_eq_true] at h3
              have h4 : choose f (ra.length + rb'.length) ra rb' = choose f (ra.length + (b0 :: rb').length - 1) ra rb' := choose_fuel f _ _ _ _ (by simp; try omega) (by simp; try omega)
              refine ⟨?_, by simp at h2 ⊢; omega⟩
              rw [← h1, h3, h4]; simp
            have HF : Hid (∀ w, Calls Try.prog g #[.bool false, .bool true] w fun e w' => e = .returned (.bool false) ∧ w = w') := fun w => by have h := HFn.out w false true; rw [hfv] at h; exact h.mono fun _ _ h => ⟨h.1, h.2.symm⟩
            clear HCH HCL HNE hfv HFn
            go_wp2_with fail
            refine (HLo.out wr HB.out).mono ?_
            rintro e w1 ⟨rfl, hb1⟩
            have HBk : Hid (Box (w1.alloc (.cells #[.int .i64 t, .int .i64 r] 28)) w1.heap.size t r) := Box.new rfl
            have HGw : Hid (Grew w1 (w1.alloc (.cells #[.int .i64 t, .int .i64 r] 28))) := (Grew.refl _).alloc _
            have HB1 : Hid (Below w.heap.size w w1) := HB.out.trans (hb1.mono HB.out.size)
            have HO3 : Hid (OwnK (w1.alloc (.cells #[.int .i64 t, .int .i64 r] 28)) w.heap.size v M) := (HO.out.kept hb1).kept HGw.out.below
            have HB3 : Hid (Below w.heap.size w (w1.alloc (.cells #[.int .i64 t, .int .i64 r] 28))) := HB1.out.trans (HGw.out.below.mono HB1.out.size)
            obtain ⟨k1, k2⟩ := HBk.out
            clear hb1 HLo HGw HBk HB1
            go_wp2_with (go_at_fn g; refine (HF.out _).mono ?_; rintro e w2 ⟨rfl, rfl⟩)
            go_roundw
            case rel => exact ⟨ra, rb', _, _, _, _, _, _, M, v, rfl, rfl, rfl, hca, by omega, HLA, HLB', HKA, HTB, HC2, HO3, HB3⟩
            case measure => simp [lenV]; omega
    · obtain ⟨hl0, hl1⟩ : la = 0 ∧ lb = 0 := by omega
      subst hl0 hl1
      have HE : Hid (OwnK wr w.heap.size v (choose f (A.length + B.length) A B)) := by
        have hra : ra = [] := List.eq_nil_of_length_eq_zero HLA.out.symm
        have hrb : rb = [] := List.eq_nil_of_length_eq_zero HLB.out.symm
        have := HCH.out.1
        rw [hra, hrb, choose_nil, List.append_nil] at this
        rw [HCE.out, ← this]; exact HO.out
      clear hne
      go_wp2
      go_ret2
      exact ⟨.inl ⟨HRa.out, HRb.out, _, rfl, HE.out⟩, HB.out⟩
theorem choose_ext (f h : Bool → Bool → Bool) (hfh : ∀ x y, (x = true ∨ y = true) → f x y = h x y) (n : Nat) (A B : List K) : choose f n A B = choose h n A B := by
  induction n generalizing A B with
  | zero => rfl
  | succ n ih =>
    by_cases hne : A ≠ [] ∨ B ≠ []
    · rw [choose_low f n A B hne, choose_low h n A B hne, ih, hfh _ _ (low_some A B hne).2.2]
    · simp only [not_or, ne_eq, Decidable.not_not] at hne
      obtain ⟨rfl, rfl⟩ := hne
      rw [choose_nil, choose_nil]
theorem choose_all {A B : List K} (n : Nat) (hn : A.length + B.length ≤ n) (ha : Rise A) (hb : Rise B) : choose (fun _ _ => true) n A B = sortK (A ++ B) := by
  rw [choose_ext _ (fun x y => x || y) (fun x y h => by rcases h with h | h <;> simp [h]), choose_union n hn ha hb]
theorem choose_less {A B : List K} (n : Nat) (hn : A.length + B.length ≤ n) (ha : Rise A) (hb : Rise B) : choose (fun _ y => !y) n A B = A.filter (fun k => !decide (k ∈ B)) := by
  rw [choose_ext _ (fun x y => x && !y) (fun x y h => by cases x <;> cases y <;> simp at h ⊢), choose_minus n hn ha hb]

theorem union_fn (w : World) (x y : Bool) : Calls Try.prog 49 #[.bool x, .bool y] w fun e w' => e = .returned (.bool ((fun _ _ => true) x y)) ∧ w' = w := by
  cases x <;> cases y
  all_goals go_enter Try.func49, Try.ntmps49
  all_goals go_wp2
  all_goals go_ret
  all_goals exact ⟨rfl, rfl⟩
set_option maxHeartbeats 1000000 in
theorem union_any (w : World) (ao bo : Option Addr) (na nb ca cb : Nat) (A B : List K) (hna : na = A.length) (hnb : nb = B.length) (hA : KeysAt w ao A) (hB : KeysAt w bo B) (hca : na ≤ ca) (hcb : nb ≤ cb) (hm : (na + nb) * 16 ≤ 140737488355328) :
    Calls Try.prog 30 #[.slice ao na ca, .slice bo nb cb] w fun e w' => ((Rise A ∧ Rise B ∧ ∃ v, e = .returned (.tuple #[v, .int .i64 0]) ∧ OwnK w' w.heap.size v (sortK (A ++ B))) ∨ (¬ (Rise A ∧ Rise B) ∧ e = .returned (.tuple #[.slice none 0 0, .int .i64 22]))) ∧ Below w.heap.size w w' := by
  have HC : Hid _ := choose_any 49 (fun _ _ => true) (enters_of Try.func49 (by kernel_rfl) rfl) union_fn w ao bo na nb ca cb A B hna hnb hA hB hca hcb hm
  have HE : Hid (Rise A → Rise B → choose (fun _ _ => true) (A.length + B.length) A B = sortK (A ++ B)) := fun h1 h2 => choose_all _ (Nat.le_refl _) h1 h2
  clear hna hnb hA hB hca hcb hm
  go_enter Try.func30, Try.ntmps30
  go_wp2_with fail
  refine Calls.mono HC.out ?_
  rintro e w1 ⟨h1, hb⟩
  have HB : Hid (Below w.heap.size w w1) := hb
  clear hb HC
  rcases h1 with ⟨ha, hb, v, rfl, ho⟩ | ⟨hn, rfl⟩
  · have HO : Hid (Rise A ∧ Rise B ∧ OwnK w1 w.heap.size v (sortK (A ++ B))) := ⟨ha, hb, by rw [← HE.out ha hb]; exact ho⟩
    clear ha hb ho HE
    go_wp2
    go_ret2
    exact ⟨.inl ⟨HO.out.1, HO.out.2.1, v, rfl, HO.out.2.2⟩, HB.out⟩
  · have HN : Hid (¬ (Rise A ∧ Rise B)) := hn
    clear hn HE
    go_wp2
    go_ret2
    exact ⟨.inr ⟨HN.out, rfl⟩, HB.out⟩

theorem meet_fn (w : World) (x y : Bool) : Calls Try.prog 51 #[.bool x, .bool y] w fun e w' => e = .returned (.bool ((fun x y => x && y) x y)) ∧ w' = w := by
  cases x <;> cases y
  all_goals go_enter Try.func51, Try.ntmps51
  all_goals go_wp2
  all_goals go_ret
  all_goals exact ⟨rfl, rfl⟩
set_option maxHeartbeats 1000000 in
theorem meet_any (w : World) (ao bo : Option Addr) (na nb ca cb : Nat) (A B : List K) (hna : na = A.length) (hnb : nb = B.length) (hA : KeysAt w ao A) (hB : KeysAt w bo B) (hca : na ≤ ca) (hcb : nb ≤ cb) (hm : (na + nb) * 16 ≤ 140737488355328) :
    Calls Try.prog 32 #[.slice ao na ca, .slice bo nb cb] w fun e w' => ((Rise A ∧ Rise B ∧ ∃ v, e = .returned (.tuple #[v, .int .i64 0]) ∧ OwnK w' w.heap.size v (A.filter (fun k => decide (k ∈ B)))) ∨ (¬ (Rise A ∧ Rise B) ∧ e = .returned (.tuple #[.slice none 0 0, .int .i64 22]))) ∧ Below w.heap.size w w' := by
  have HC : Hid _ := choose_any 51 (fun x y => x && y) (enters_of Try.func51 (by kernel_rfl) rfl) meet_fn w ao bo na nb ca cb A B hna hnb hA hB hca hcb hm
  have HE : Hid (Rise A → Rise B → choose (fun x y => x && y) (A.length + B.length) A B = A.filter (fun k => decide (k ∈ B))) := fun h1 h2 => choose_meet _ (Nat.le_refl _) h1 h2
  clear hna hnb hA hB hca hcb hm
  go_enter Try.func32, Try.ntmps32
  go_wp2_with fail
  refine Calls.mono HC.out ?_
  rintro e w1 ⟨h1, hb⟩
  have HB : Hid (Below w.heap.size w w1) := hb
  clear hb HC
  rcases h1 with ⟨ha, hb, v, rfl, ho⟩ | ⟨hn, rfl⟩
  · have HO : Hid (Rise A ∧ Rise B ∧ OwnK w1 w.heap.size v (A.filter (fun k => decide (k ∈ B)))) := ⟨ha, hb, by rw [← HE.out ha hb]; exact ho⟩
    clear ha hb ho HE
    go_wp2
    go_ret2
    exact ⟨.inl ⟨HO.out.1, HO.out.2.1, v, rfl, HO.out.2.2⟩, HB.out⟩
  · have HN : Hid (¬ (Rise A ∧ Rise B)) := hn
    clear hn HE
    go_wp2
    go_ret2
    exact ⟨.inr ⟨HN.out, rfl⟩, HB.out⟩

theorem minus_fn (w : World) (x y : Bool) : Calls Try.prog 53 #[.bool x, .bool y] w fun e w' => e = .returned (.bool ((fun _ y => !y) x y)) ∧ w' = w := by
  cases x <;> cases y
  all_goals go_enter Try.func53, Try.ntmps53
  all_goals go_wp2
  all_goals go_ret
  all_goals exact ⟨rfl, rfl⟩
set_option maxHeartbeats 1000000 in
theorem minus_any (w : World) (ao bo : Option Addr) (na nb ca cb : Nat) (A B : List K) (hna : na = A.length) (hnb : nb = B.length) (hA : KeysAt w ao A) (hB : KeysAt w bo B) (hca : na ≤ ca) (hcb : nb ≤ cb) (hm : (na + nb) * 16 ≤ 140737488355328) :
    Calls Try.prog 34 #[.slice ao na ca, .slice bo nb cb] w fun e w' => ((Rise A ∧ Rise B ∧ ∃ v, e = .returned (.tuple #[v, .int .i64 0]) ∧ OwnK w' w.heap.size v (A.filter (fun k => !decide (k ∈ B)))) ∨ (¬ (Rise A ∧ Rise B) ∧ e = .returned (.tuple #[.slice none 0 0, .int .i64 22]))) ∧ Below w.heap.size w w' := by
  have HC : Hid _ := choose_any 53 (fun _ y => !y) (enters_of Try.func53 (by kernel_rfl) rfl) minus_fn w ao bo na nb ca cb A B hna hnb hA hB hca hcb hm
  have HE : Hid (Rise A → Rise B → choose (fun _ y => !y) (A.length + B.length) A B = A.filter (fun k => !decide (k ∈ B))) := fun h1 h2 => choose_less _ (Nat.le_refl _) h1 h2
  clear hna hnb hA hB hca hcb hm
  go_enter Try.func34, Try.ntmps34
  go_wp2_with fail
  refine Calls.mono HC.out ?_
  rintro e w1 ⟨h1, hb⟩
  have HB : Hid (Below w.heap.size w w1) := hb
  clear hb HC
  rcases h1 with ⟨ha, hb, v, rfl, ho⟩ | ⟨hn, rfl⟩
  · have HO : Hid (Rise A ∧ Rise B ∧ OwnK w1 w.heap.size v (A.filter (fun k => !decide (k ∈ B)))) := ⟨ha, hb, by rw [← HE.out ha hb]; exact ho⟩
    clear ha hb ho HE
    go_wp2
    go_ret2
    exact ⟨.inl ⟨HO.out.1, HO.out.2.1, v, rfl, HO.out.2.2⟩, HB.out⟩
  · have HN : Hid (¬ (Rise A ∧ Rise B)) := hn
    clear hn HE
    go_wp2
    go_ret2
    exact ⟨.inr ⟨HN.out, rfl⟩, HB.out⟩

end Go.Proofs.Ytnjgaibcpcpmcab
