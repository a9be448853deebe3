/-
  do: ONE CALL THAT CHANGES A BOOK.
-/
import Derived.Test.YtgejibjmmfklcabBkColl
import Derived.Test.YtgejibjmmfklcabBkPin
import Derived.Test.YtgejibjmmfklcabBkAdmit
import Derived.Test.YtgejibjmmfklcabBkLent
namespace Go.Proofs.Ytgejibjmmfklcab
open Go.RowKit Go.Sort

/-- what a book holds -/
structure Bs where
  la : Int
  fl : Int
  pins : List (Int × Int)
  all : List V4
/-- one call: what it leaves, and whether it was refused -/
inductive DoR (cap : Int) (o : Oc) (s : Bs) : Bs → Bool → Prop
  | admNo : o.kind = 0 → admE cap s.la s.all o.L ≠ 0 → DoR cap o s s true
  | admYes : o.kind = 0 → admE cap s.la s.all o.L = 0 → DoR cap o s ⟨s.la + 1, s.fl, s.pins, s.all ++ newFrom (s.la + 1) 0 o.L⟩ false
  | pinNo : o.kind = 1 → pinE s.la s.fl s.pins o.m ≠ 0 → DoR cap o s s true
  | pinYes (p' : List (Int × Int)) : o.kind = 1 → pinE s.la s.fl s.pins o.m = 0 → Pinned s.pins p' o.m → DoR cap o s ⟨s.la, s.fl, p', s.all⟩ false
  | unpNo : o.kind = 2 → fpn s.pins o.m = none → DoR cap o s s true
  | unpYes (p' : List (Int × Int)) : o.kind = 2 → (fpn s.pins o.m).isSome = true → Unpinned s.pins p' o.m → DoR cap o s ⟨s.la, s.fl, p', s.all⟩ false
  | coll (d : List Int) (all' : List V4) : o.kind = 3 → d.Pairwise (· < ·) → d.Perm (s.pins.map Prod.fst) → CollN d s.all all' → DoR cap o s ⟨s.la, s.la, s.pins, all'⟩ false
  | oth : o.kind ≠ 0 → o.kind ≠ 1 → o.kind ≠ 2 → o.kind ≠ 3 → DoR cap o s s false
theorem RWs.weak {G G' : Nat → Prop} {w : World} {ao : Option Addr} {L : List (List K)} (h : RWs G w ao L) (hg : ∀ k, G' k → G k) : RWs G' w ao L := fun i hi => by
  obtain ⟨b, off, sa, sc, h1, h2, h3, h4, h5, h6⟩ := h i hi
  exact ⟨b, off, sa, sc, h1, fun h => h2 (hg _ h), h3, h4, h5, fun a ha hs => ⟨fun h => (h6 a ha hs).1 (hg _ h), (h6 a ha hs).2⟩⟩
/-- a call that is sound: its sets hold ints, and no more than parts lets through -/
structure OcOK (o : Oc) : Prop where
  len : o.L.length ≤ 100000
  each : ∀ s ∈ o.L, s.length ≤ 100000
  ik : ∀ s ∈ o.L, ∀ k ∈ s, KIn k
  im : In64 o.m
def opv (o : Oc) : Value := .agg #[.int .i64 o.kind, .slice o.a o.L.length o.c, .int .i64 o.m, .int .i64 o.k.1, .int .i64 o.k.2]
def DoPost (w : World) (B Mp Mc Mn : Nat) (cap : Int) (o : Oc) (s : Bs) (e : Ending) (w' : World) : Prop :=
  ∃ r s' nw', e = .returned (.bool r) ∧ DoR cap o s s' r ∧ BA w' B Mp Mc Mn cap s'.la s'.fl s'.pins s'.all nw' ∧ Fr (SB B Mp Mc Mn) w w'
set_option maxHeartbeats 2000000 in
set_option maxRecDepth 100000 in
theorem do_any (G : Nat → Prop) (w : World) (B Mp Mc Mn : Nat) (cap : Int) (s : Bs) (nw : List K) (h : BA w B Mp Mc Mn cap s.la s.fl s.pins s.all nw) (o : Oc) (ho : OcOK o) (hw : RWs G w o.a o.L) :
    Calls Try.prog 16 #[ptr B, opv o] w fun e w' => DoPost w B Mp Mc Mn cap o s e w' := by
  obtain ⟨kind, oa, oc, L, m, k1, k2⟩ := o
  unfold opv
  simp only
  simp only at hw
  obtain ⟨ln, hln⟩ : ∃ ln, ln = L.length := ⟨_, rfl⟩
  have HLn := hidC hln
  rw [← hln]
  have HO := hidC ho
  obtain ⟨W1, hW1⟩ : ∃ W1, W1 = w.alloc (.cells #[.int .i64 kind, .slice oa ln oc, .int .i64 m, .int .i64 k1, .int .i64 k2] 40) := ⟨_, rfl⟩
  obtain ⟨Kb, hKb⟩ : ∃ Kb, Kb = w.heap.size := ⟨_, rfl⟩
  have HB1 : Hid (Below w.heap.size w W1 ∧ W1.heap[Kb]? = some (.cells #[.int .i64 kind, .slice oa ln oc, .int .i64 m, .int .i64 k1, .int .i64 k2] 40 (0, 0))) := by
    rw [hW1, hKb]
    exact ⟨(Below.refl _ _).alloc (Nat.le_refl _) _, heap_alloc_new _ _ rfl⟩
  have HR1 : Hid (RWs G W1 oa L) := hw.fr (Fr.ofBelow HB1.out.1)
  have HA1 : Hid (BA W1 B Mp Mc Mn cap s.la s.fl s.pins s.all nw) := h.kept HB1.out.1
  have HF1 : Hid (Fr (SB B Mp Mc Mn) w W1) := Fr.ofBelow HB1.out.1
  have q0 : W1.cell? ⟨Kb, 0, none⟩ = some (.int .i64 kind) := by have h1 := HB1.out.2; simp [World.cell?, h1]
  have q1 : W1.cell? ⟨Kb, 1, none⟩ = some (.slice oa ln oc) := by have h1 := HB1.out.2; simp [World.cell?, h1]
  have q2 : W1.cell? ⟨Kb, 2, none⟩ = some (.int .i64 m) := by have h1 := HB1.out.2; simp [World.cell?, h1]
  clear ho hw h hln
  go_enter Try.func16, Try.ntmps16
  by_cases h0 : kind = 0
  · subst h0
    go_wp2_with fail
    rw [← hW1, ← hKb]
    clear hW1 hKb q0 q1 q2
    refine (lentW_any G W1 oa ln oc L HLn.out HR1.out (by rw [HLn.out]; exact HO.out.len) HO.out.each).mono ?_
    rintro e W2 ⟨a, c', rfl, hr2, hb2⟩
    have HA2 : Hid (BA W2 B Mp Mc Mn cap s.la s.fl s.pins s.all nw) := HA1.out.kept hb2
    have HR2 : Hid (RWs (SB B Mp Mc Mn) W2 a L) := hr2.weak (fun k hk => HA1.out.lt hk)
    have HF2 : Hid (Fr (SB B Mp Mc Mn) w W2) := HF1.out.trans (Fr.ofBelow hb2)
    clear hr2 hb2
    go_wp2_with fail
    refine (admit_any W2 B Mp Mc Mn cap s.la s.fl s.pins s.all nw HA2.out a ln c' L HLn.out HR2.out HO.out.ik (fun s hs => Nat.le_trans (HO.out.each s hs) (by omega)) (by have h1 := HO.out.len; simp only at h1; have := HLn.out; omega)).mono ?_
    rintro e W3 (⟨hne, rfl, hb3⟩ | ⟨heq, rfl, ⟨nw', hba⟩, hf3⟩)
    · have HX : Hid (DoPost w B Mp Mc Mn cap ⟨0, oa, oc, L, m, (k1, k2)⟩ s (.returned (.bool true)) W3) := ⟨true, s, nw, rfl, .admNo rfl hne, HA2.out.kept hb3, HF2.out.trans (Fr.ofBelow hb3)⟩
      generalize admE cap s.la s.all L = E at *
      clear hb3
      go_wp2_with fail
      refine (numB_any W3 E).mono ?_
      rintro e W4 ⟨rfl, hw4⟩
      subst hw4
      go_wp2
      go_ret
      have hb : (E != 0) = true := by simpa using hne
      first | exact HX.out | (rw [hb]; exact HX.out)
    · have HX : Hid (DoPost w B Mp Mc Mn cap ⟨0, oa, oc, L, m, (k1, k2)⟩ s (.returned (.bool false)) W3) := ⟨false, _, nw', rfl, .admYes rfl heq, hba, HF2.out.trans hf3⟩
      clear hba hf3 heq
      go_wp2_with fail
      refine (numB_any W3 0).mono ?_
      rintro e W4 ⟨rfl, hw4⟩
      subst hw4
      go_wp2
      go_ret
      exact HX.out
  · have h0b : (kind == 0) = false := by simpa using h0
    by_cases h1 : kind = 1
    · subst h1
      go_wp2_with fail
      rw [← hW1, ← hKb]
      clear hW1 hKb q0 q1 q2
      refine (pin_any W1 B Mp Mc Mn cap s.la s.fl s.pins s.all nw HA1.out m HO.out.im).mono ?_
      rintro e W3 (⟨hne, rfl, hb3⟩ | ⟨heq, rfl, p', hp, hba, hf3⟩)
      · subst hb3
        have HX : Hid (DoPost w B Mp Mc Mn cap ⟨1, oa, oc, L, m, (k1, k2)⟩ s (.returned (.bool true)) W3) := ⟨true, s, nw, rfl, .pinNo rfl hne, HA1.out, HF1.out⟩
        generalize pinE s.la s.fl s.pins m = E at *
        go_wp2_with fail
        refine (numB_any W3 E).mono ?_
        rintro e W4 ⟨rfl, hw4⟩
        subst hw4
        go_wp2
        go_ret
        have hb : (E != 0) = true := by simpa using hne
        first | exact HX.out | (rw [hb]; exact HX.out)
      · have HX : Hid (DoPost w B Mp Mc Mn cap ⟨1, oa, oc, L, m, (k1, k2)⟩ s (.returned (.bool false)) W3) := ⟨false, _, nw, rfl, .pinYes p' rfl heq hp, hba, HF1.out.trans hf3⟩
        clear hba hf3 heq hp
        go_wp2_with fail
        refine (numB_any W3 0).mono ?_
        rintro e W4 ⟨rfl, hw4⟩
        subst hw4
        go_wp2
        go_ret
        exact HX.out
    · have h1b : (kind == 1) = false := by simpa using h1
      by_cases h2 : kind = 2
      · subst h2
        go_wp2_with fail
        rw [← hW1, ← hKb]
        clear hW1 hKb q0 q1 q2
        refine (unpin_any W1 B Mp Mc Mn cap s.la s.fl s.pins s.all nw HA1.out m HO.out.im).mono ?_
        rintro e W3 (⟨hne, rfl, hb3⟩ | ⟨heq, rfl, p', hp, hba, hf3⟩)
        · subst hb3
          have HX : Hid (DoPost w B Mp Mc Mn cap ⟨2, oa, oc, L, m, (k1, k2)⟩ s (.returned (.bool true)) W3) := ⟨true, s, nw, rfl, .unpNo rfl hne, HA1.out, HF1.out⟩
          clear hne
          go_wp2_with fail
          refine (numB_any W3 102).mono ?_
          rintro e W4 ⟨rfl, hw4⟩
          subst hw4
          go_wp2
          go_ret
          exact HX.out
        · have HX : Hid (DoPost w B Mp Mc Mn cap ⟨2, oa, oc, L, m, (k1, k2)⟩ s (.returned (.bool false)) W3) := ⟨false, _, nw, rfl, .unpYes p' rfl heq hp, hba, HF1.out.trans hf3⟩
          clear hba hf3 heq hp
          go_wp2_with fail
          refine (numB_any W3 0).mono ?_
          rintro e W4 ⟨rfl, hw4⟩
          subst hw4
          go_wp2
          go_ret
          exact HX.out
      · have h2b : (kind == 2) = false := by simpa using h2
        by_cases h3 : kind = 3
        · subst h3
          go_wp2_with fail
          rw [← hW1, ← hKb]
          clear hW1 hKb q0 q1 q2
          refine (collect_any W1 B Mp Mc Mn cap s.la s.fl s.pins s.all nw HA1.out).mono ?_
          rintro e W3 ⟨d, all', hd1, hd2, hcn, rfl, hba, hf3⟩
          have HX : Hid (DoPost w B Mp Mc Mn cap ⟨3, oa, oc, L, m, (k1, k2)⟩ s (.returned (.bool false)) W3) := ⟨false, _, nw, rfl, .coll d all' rfl hd1 hd2 hcn, hba, HF1.out.trans hf3⟩
          clear hba hf3 hd1 hd2 hcn
          go_wp2
          go_ret
          exact HX.out
        · have h3b : (kind == 3) = false := by simpa using h3
          have HX : Hid (DoPost w B Mp Mc Mn cap ⟨kind, oa, oc, L, m, (k1, k2)⟩ s (.returned (.bool false)) W1) := ⟨false, s, nw, rfl, .oth h0 h1 h2 h3, HA1.out, HF1.out⟩
          rw [hW1] at HX
          go_wp2
          go_ret
          exact HX.out
end Go.Proofs.Ytgejibjmmfklcab
