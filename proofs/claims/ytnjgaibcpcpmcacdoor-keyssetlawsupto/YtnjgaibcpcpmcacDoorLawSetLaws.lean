/-
  KeysSetLaws: THE WALK OF THE LAW.
-/
import Derived.Test.YtnjgaibcpcpmcacDoorKSets
import Derived.Test.YtnjgaibcpcpmcacDoorPlain
import Derived.Test.YtnjgaibcpcpmcacDoorKSound
import Derived.Deep.RegionLaw
import Derived.Deep.DeepCutAuto
namespace Go.Proofs.YtnjgaibcpcpmcacDoor
open Go.RowKit Go.Sort

theorem key_kept {w w1 : World} {row : Option Nat} {g : Nat} {t r : Int} (h : KeysAt w (some ⟨g, 0, none⟩) [(t, r)]) (hg : w.grownBy w1 row) (hne : row ≠ some g) : KeysAt w1 (some ⟨g, 0, none⟩) [(t, r)] := by
  rcases h with h | ⟨b, off, e, hc⟩
  · cases h
  · cases e
    refine .inr ⟨g, 0, rfl, fun j u hu => ?_⟩
    exact hg.cell (hc j u hu) (fun e => hne e.symm)

def IsIn (b : Bool) (z : K) (L : List K) : Prop := b = true ↔ z ∈ L
theorem isIn_ex (z : K) (L : List K) : ∃ p : Bool, IsIn p z L := ⟨decide (z ∈ L), decide_eq_true_iff⟩
theorem IsIn.of {p : Bool} {z : K} {L M : List K} (h : IsIn p z L) (hm : ∀ k, k ∈ M ↔ k ∈ L) : IsIn p z M := h.trans (hm z).symm
theorem IsIn.or {p q : Bool} {z : K} {A B M : List K} (h : IsIn p z A) (h' : IsIn q z B) (hm : ∀ k, k ∈ M ↔ (k ∈ A ∨ k ∈ B)) : IsIn (p || q) z M := by
  unfold IsIn at *; rw [hm, ← h, ← h', Bool.or_eq_true]
theorem IsIn.and {p q : Bool} {z : K} {A B M : List K} (h : IsIn p z A) (h' : IsIn q z B) (hm : ∀ k, k ∈ M ↔ (k ∈ A ∧ k ∈ B)) : IsIn (p && q) z M := by
  unfold IsIn at *; rw [hm, ← h, ← h', Bool.and_eq_true]
theorem IsIn.but {p q : Bool} {z : K} {A B M : List K} (h : IsIn p z A) (h' : IsIn q z B) (hm : ∀ k, k ∈ M ↔ (k ∈ A ∧ k ∉ B)) : IsIn (p && !q) z M := by
  unfold IsIn at *; rw [hm, ← h, ← h', Bool.and_eq_true]; simp

set_option maxHeartbeats 20000000 in
set_option maxRecDepth 100000 in
theorem setLaws_any (w : World) (ao bo : Option Addr) (na ca nb cb : Nat) (A B : List K) (t r : Int) (hv : DigVars w) (hA : Lst w ao na ca A) (hB : Lst w bo nb cb B) (hna : na ≤ 1048576) (hnb : nb ≤ 1048576) :
    Calls Tryd.prog 3 #[.slice ao na ca, .slice bo nb cb, .agg #[.int .i64 t, .int .i64 r]] w fun e w' => e = .returned (.bool true) ∧ Below w.heap.size w w' := by
  have HV : Hid (DigVars w) := hv
  have LA : Hid (Lst w ao na ca A) := hA
  have LB : Hid (Lst w bo nb cb B) := hB
  clear hv hA hB
  go_enter Tryd.func3, Tryd.ntmps3
  go_wp2_with fail
  have HBx : Hid (Box (w.alloc (.cells #[.int .i64 t, .int .i64 r] 24)) w.heap.size t r) := Box.new rfl
  have HG0 : Hid (Grew w (w.alloc (.cells #[.int .i64 t, .int .i64 r] 24))) := (Grew.refl _).alloc _
  generalize (w.alloc (.cells #[.int .i64 t, .int .i64 r] 24)) = W0 at *
  replace LA : Hid (Lst W0 ao na ca A) := LA.out.kept HG0.out.below
  replace LB : Hid (Lst W0 bo nb cb B) := LB.out.kept HG0.out.below
  have HT : Hid (Below w.heap.size w W0) := HG0.out.below
  have HV0 : Hid (DigVars W0) := HV.out.kept HG0.out.below
  obtain ⟨KB, hKB⟩ : ∃ b, b = w.heap.size := ⟨_, rfl⟩
  rw [← hKB] at HBx
  have HKB : Hid (w.heap.size = KB) := hKB.symm
  rw [← hKB]
  clear hKB HV
  refine (plain_any W0 HV0.out).mono ?_
  rintro e w1 ⟨rfl, g1⟩
  have hb := Grew.below g1
  replace LA : Hid (Lst w1 ao na ca A) := LA.out.kept hb
  replace LB : Hid (Lst w1 bo nb cb B) := LB.out.kept hb
  replace HBx : Hid (Box w1 KB t r) := HBx.out.kept hb
  replace HT : Hid (Below w.heap.size w w1) := HT.out.trans (hb.mono HT.out.size)
  clear g1 hb HV0 HG0
  go_wp2_with fail
  refine (copied_l w1 ao na ca A LA.out (by omega)).mono ?_
  rintro e w2 ⟨a_C1, c_C1, rfl, hl, hfl, hb⟩
  replace LA : Hid (Lst w2 ao na ca A) := LA.out.kept hb
  replace LB : Hid (Lst w2 bo nb cb B) := LB.out.kept hb
  replace HBx : Hid (Box w2 KB t r) := HBx.out.kept hb
  replace HT : Hid (Below w.heap.size w w2) := HT.out.trans (hb.mono HT.out.size)
  have C1 : Hid (Lst w2 a_C1 na c_C1 A) := hl
  have C1f : Hid (Flat a_C1) := hfl
  clear hl hfl hb
  go_wp2_with fail
  refine (sort_l w2 a_C1 na c_C1 A C1.out C1f.out (by omega)).mono ?_
  rintro e w3 ⟨hs, hb⟩
  replace LA : Hid (Lst w3 ao na ca A) := LA.out.kept hb
  replace LB : Hid (Lst w3 bo nb cb B) := LB.out.kept hb
  replace HBx : Hid (Box w3 KB t r) := HBx.out.kept hb
  replace HT : Hid (Below w.heap.size w w3) := HT.out.trans (hb.mono HT.out.size)
  clear hb C1 C1f
  rcases hs with ⟨hsa, a_X, nx, c_X, rfl, hX, hXf⟩ | ⟨hsa, rfl⟩
  case inr =>
    go_wp2_with fail
    refine (copied_l w3 bo nb cb B LB.out (by omega)).mono ?_
    rintro e w4 ⟨a_C2, c_C2, rfl, hl, hfl, hb⟩
    replace LA : Hid (Lst w4 ao na ca A) := LA.out.kept hb
    replace LB : Hid (Lst w4 bo nb cb B) := LB.out.kept hb
    replace HBx : Hid (Box w4 KB t r) := HBx.out.kept hb
    replace HT : Hid (Below w.heap.size w w4) := HT.out.trans (hb.mono HT.out.size)
    have C2 : Hid (Lst w4 a_C2 nb c_C2 B) := hl
    have C2f : Hid (Flat a_C2) := hfl
    clear hl hfl hb
    go_wp2_with fail
    refine (sort_l w4 a_C2 nb c_C2 B C2.out C2f.out (by omega)).mono ?_
    rintro e w5 ⟨hs, hb⟩
    replace LA : Hid (Lst w5 ao na ca A) := LA.out.kept hb
    replace LB : Hid (Lst w5 bo nb cb B) := LB.out.kept hb
    replace HBx : Hid (Box w5 KB t r) := HBx.out.kept hb
    replace HT : Hid (Below w.heap.size w w5) := HT.out.trans (hb.mono HT.out.size)
    clear hb C2 C2f
    have HEa : Hid (A.all isKey = false) := hsa
    clear hsa
    rcases hs with ⟨hsb, a_Y, ny, c_Y, rfl, hY, hYf⟩ | ⟨hsb, rfl⟩
    · have HEb : Hid (B.all isKey = true) := hsb
      clear hsb hY hYf
      go_wp2_with fail
      refine (sound_l w5 ao na ca A LA.out (by omega)).mono ?_
      rintro e w6 ⟨rfl, rfl⟩
      rw [HEa.out]
      go_wp2_with fail
      refine (sound_l w5 bo nb cb B LB.out (by omega)).mono ?_
      rintro e w6 ⟨rfl, rfl⟩
      rw [HEb.out]
      go_wp2_with (go_at_call 9; refine (num_any' _ _).mono ?_; rintro e w' ⟨rfl, rfl⟩)
      go_ret
      exact ⟨rfl, HT.out⟩
    · have HEb : Hid (B.all isKey = false) := hsb
      clear hsb
      go_wp2_with fail
      refine (sound_l w5 ao na ca A LA.out (by omega)).mono ?_
      rintro e w6 ⟨rfl, rfl⟩
      rw [HEa.out]
      go_wp2_with fail
      refine (sound_l w5 bo nb cb B LB.out (by omega)).mono ?_
      rintro e w6 ⟨rfl, rfl⟩
      rw [HEb.out]
      go_wp2_with (go_at_call 9; refine (num_any' _ _).mono ?_; rintro e w' ⟨rfl, rfl⟩)
      go_ret
      exact ⟨rfl, HT.out⟩
  have LX : Hid (Lst w3 a_X nx c_X (sortK A)) := hX
  have LXf : Hid (Flat a_X) := hXf
  have HRX : Hid (Rise (sortK A)) := sortK_rise ((all_iff A).1 hsa)
  have HMX : Hid (∀ k, k ∈ sortK A ↔ k ∈ A) := sortK_mem A
  have hnx : nx ≤ 1048576 := by have h1 := hX.len; have h2 := sortK_length A; have h3 := LA.out.len; omega
  have HEa : Hid (A.all isKey = true) := hsa
  clear hX hXf hsa
  generalize sortK A = X at *
  go_wp2_with fail
  refine (copied_l w3 bo nb cb B LB.out (by omega)).mono ?_
  rintro e w4 ⟨a_C2, c_C2, rfl, hl, hfl, hb⟩
  replace LA : Hid (Lst w4 ao na ca A) := LA.out.kept hb
  replace LB : Hid (Lst w4 bo nb cb B) := LB.out.kept hb
  replace LX : Hid (Lst w4 a_X nx c_X X) := LX.out.kept hb
  replace HBx : Hid (Box w4 KB t r) := HBx.out.kept hb
  replace HT : Hid (Below w.heap.size w w4) := HT.out.trans (hb.mono HT.out.size)
  have C2 : Hid (Lst w4 a_C2 nb c_C2 B) := hl
  have C2f : Hid (Flat a_C2) := hfl
  clear hl hfl hb
  go_wp2_with fail
  refine (sort_l w4 a_C2 nb c_C2 B C2.out C2f.out (by omega)).mono ?_
  rintro e w5 ⟨hs, hb⟩
  replace LA : Hid (Lst w5 ao na ca A) := LA.out.kept hb
  replace LB : Hid (Lst w5 bo nb cb B) := LB.out.kept hb
  replace LX : Hid (Lst w5 a_X nx c_X X) := LX.out.kept hb
  replace HBx : Hid (Box w5 KB t r) := HBx.out.kept hb
  replace HT : Hid (Below w.heap.size w w5) := HT.out.trans (hb.mono HT.out.size)
  clear hb C2 C2f
  rcases hs with ⟨hsb, a_Y, ny, c_Y, rfl, hY, hYf⟩ | ⟨hsb, rfl⟩
  case inr =>
    have HEb : Hid (B.all isKey = false) := hsb
    clear hsb
    go_wp2_with fail
    refine (sound_l w5 ao na ca A LA.out (by omega)).mono ?_
    rintro e w6 ⟨rfl, rfl⟩
    rw [HEa.out]
    go_wp2_with fail
    refine (sound_l w5 bo nb cb B LB.out (by omega)).mono ?_
    rintro e w6 ⟨rfl, rfl⟩
    rw [HEb.out]
    go_wp2_with (go_at_call 9; refine (num_any' _ _).mono ?_; rintro e w' ⟨rfl, rfl⟩)
    go_ret
    exact ⟨rfl, HT.out⟩
  have LY : Hid (Lst w5 a_Y ny c_Y (sortK B)) := hY
  have LYf : Hid (Flat a_Y) := hYf
  have HRY : Hid (Rise (sortK B)) := sortK_rise ((all_iff B).1 hsb)
  have HMY : Hid (∀ k, k ∈ sortK B ↔ k ∈ B) := sortK_mem B
  have hny : ny ≤ 1048576 := by have h1 := hY.len; have h2 := sortK_length B; have h3 := LB.out.len; omega
  have HEb : Hid (B.all isKey = true) := hsb
  clear hY hYf hsb
  generalize sortK B = Y at *
  go_wp2_with fail
  refine (sound_l w5 ao na ca A LA.out (by omega)).mono ?_
  rintro e w6 ⟨rfl, rfl⟩
  rw [HEa.out]
  go_wp2_with fail
  refine (sound_l w5 bo nb cb B LB.out (by omega)).mono ?_
  rintro e w6 ⟨rfl, rfl⟩
  rw [HEb.out]
  clear HEa HEb
  go_wp2_with fail
  refine (num_any' _ _).mono ?_
  rintro e w' ⟨rfl, rfl⟩
  go_wp2_with fail
  refine (num_any' _ _).mono ?_
  rintro e w' ⟨rfl, rfl⟩
  go_wp2_with fail
  refine (copied_l w5 a_X nx c_X X LX.out (by omega)).mono ?_
  rintro e w7 ⟨a_C3, c_C3, rfl, hl, hfl, hb⟩
  replace LA : Hid (Lst w7 ao na ca A) := LA.out.kept hb
  replace LB : Hid (Lst w7 bo nb cb B) := LB.out.kept hb
  replace LX : Hid (Lst w7 a_X nx c_X X) := LX.out.kept hb
  replace LY : Hid (Lst w7 a_Y ny c_Y Y) := LY.out.kept hb
  replace HBx : Hid (Box w7 KB t r) := HBx.out.kept hb
  replace HT : Hid (Below w.heap.size w w7) := HT.out.trans (hb.mono HT.out.size)
  have C3 : Hid (Lst w7 a_C3 nx c_C3 X) := hl
  have C3f : Hid (Flat a_C3) := hfl
  clear hl hfl hb
  go_wp2_with fail
  refine (sort_l w7 a_C3 nx c_C3 X C3.out C3f.out (by omega)).mono ?_
  rintro e w8 ⟨hs, hb⟩
  replace LA : Hid (Lst w8 ao na ca A) := LA.out.kept hb
  replace LB : Hid (Lst w8 bo nb cb B) := LB.out.kept hb
  replace LX : Hid (Lst w8 a_X nx c_X X) := LX.out.kept hb
  replace LY : Hid (Lst w8 a_Y ny c_Y Y) := LY.out.kept hb
  replace HBx : Hid (Box w8 KB t r) := HBx.out.kept hb
  replace HT : Hid (Below w.heap.size w w8) := HT.out.trans (hb.mono HT.out.size)
  clear hb C3 C3f
  rcases hs with ⟨_, a_Z, nz, c_Z, rfl, hZ, _⟩ | ⟨hsz, _⟩
  case inr => exact absurd ((all_iff X).2 HRX.out.1) (by rw [hsz]; decide)
  rw [sortK_self HRX.out] at hZ
  have LZ : Hid (Lst w8 a_Z nz c_Z X) := hZ
  have hnz : nz = nx := hZ.len.trans LX.out.len.symm
  subst hnz
  clear hZ
  go_wp2_with fail
  refine (rises_l w8 a_X nz c_X X LX.out HRX.out (by omega)).mono ?_
  rintro e w9 ⟨rfl, hb⟩
  replace LA : Hid (Lst w9 ao na ca A) := LA.out.kept hb
  replace LB : Hid (Lst w9 bo nb cb B) := LB.out.kept hb
  replace LX : Hid (Lst w9 a_X nz c_X X) := LX.out.kept hb
  replace LY : Hid (Lst w9 a_Y ny c_Y Y) := LY.out.kept hb
  replace LZ : Hid (Lst w9 a_Z nz c_Z X) := LZ.out.kept hb
  replace HBx : Hid (Box w9 KB t r) := HBx.out.kept hb
  replace HT : Hid (Below w.heap.size w w9) := HT.out.trans (hb.mono HT.out.size)
  clear hb
  go_wp2_with fail
  refine (rises_l w9 a_Y ny c_Y Y LY.out HRY.out (by omega)).mono ?_
  rintro e w10 ⟨rfl, hb⟩
  replace LA : Hid (Lst w10 ao na ca A) := LA.out.kept hb
  replace LB : Hid (Lst w10 bo nb cb B) := LB.out.kept hb
  replace LX : Hid (Lst w10 a_X nz c_X X) := LX.out.kept hb
  replace LY : Hid (Lst w10 a_Y ny c_Y Y) := LY.out.kept hb
  replace LZ : Hid (Lst w10 a_Z nz c_Z X) := LZ.out.kept hb
  replace HBx : Hid (Box w10 KB t r) := HBx.out.kept hb
  replace HT : Hid (Below w.heap.size w w10) := HT.out.trans (hb.mono HT.out.size)
  clear hb
  go_wp2_with fail
  refine (num_any' _ _).mono ?_
  rintro e w' ⟨rfl, rfl⟩
  go_wp2_with fail
  refine (same_l w10 a_Z a_X nz c_Z nz c_X X LZ.out LX.out (by omega)).mono ?_
  rintro e w11 ⟨rfl, hb⟩
  replace LA : Hid (Lst w11 ao na ca A) := LA.out.kept hb
  replace LB : Hid (Lst w11 bo nb cb B) := LB.out.kept hb
  replace LX : Hid (Lst w11 a_X nz c_X X) := LX.out.kept hb
  replace LY : Hid (Lst w11 a_Y ny c_Y Y) := LY.out.kept hb
  replace LZ : Hid (Lst w11 a_Z nz c_Z X) := LZ.out.kept hb
  replace HBx : Hid (Box w11 KB t r) := HBx.out.kept hb
  replace HT : Hid (Below w.heap.size w w11) := HT.out.trans (hb.mono HT.out.size)
  clear hb
  clear LZ
  go_wp2_with fail
  refine (copied_l w11 a_X nz c_X X LX.out (by omega)).mono ?_
  rintro e w12 ⟨a_CX, c_CX, rfl, hl, hfl, hb⟩
  replace LA : Hid (Lst w12 ao na ca A) := LA.out.kept hb
  replace LB : Hid (Lst w12 bo nb cb B) := LB.out.kept hb
  replace LX : Hid (Lst w12 a_X nz c_X X) := LX.out.kept hb
  replace LY : Hid (Lst w12 a_Y ny c_Y Y) := LY.out.kept hb
  replace HBx : Hid (Box w12 KB t r) := HBx.out.kept hb
  replace HT : Hid (Below w.heap.size w w12) := HT.out.trans (hb.mono HT.out.size)
  have CX : Hid (Lst w12 a_CX nz c_CX X) := hl
  have CXf : Hid (Flat a_CX) := hfl
  clear hl hfl hb
  go_wp2_with fail
  refine (copied_l w12 a_Y ny c_Y Y LY.out (by omega)).mono ?_
  rintro e w13 ⟨a_CY, c_CY, rfl, hl, hfl, hb⟩
  replace LA : Hid (Lst w13 ao na ca A) := LA.out.kept hb
  replace LB : Hid (Lst w13 bo nb cb B) := LB.out.kept hb
  replace LX : Hid (Lst w13 a_X nz c_X X) := LX.out.kept hb
  replace LY : Hid (Lst w13 a_Y ny c_Y Y) := LY.out.kept hb
  replace CX : Hid (Lst w13 a_CX nz c_CX X) := CX.out.kept hb
  replace HBx : Hid (Box w13 KB t r) := HBx.out.kept hb
  replace HT : Hid (Below w.heap.size w w13) := HT.out.trans (hb.mono HT.out.size)
  have CY : Hid (Lst w13 a_CY ny c_CY Y) := hl
  have CYf : Hid (Flat a_CY) := hfl
  clear hl hfl hb
  go_wp2_with fail
  refine (union_l w13 a_CX a_CY nz ny c_CX c_CY X Y CX.out CY.out HRX.out HRY.out (by omega)).mono ?_
  rintro e w14 ⟨a_U, nU, c_U, rfl, hl, _, hb⟩
  replace LA : Hid (Lst w14 ao na ca A) := LA.out.kept hb
  replace LB : Hid (Lst w14 bo nb cb B) := LB.out.kept hb
  replace LX : Hid (Lst w14 a_X nz c_X X) := LX.out.kept hb
  replace LY : Hid (Lst w14 a_Y ny c_Y Y) := LY.out.kept hb
  replace HBx : Hid (Box w14 KB t r) := HBx.out.kept hb
  replace HT : Hid (Below w.heap.size w w14) := HT.out.trans (hb.mono HT.out.size)
  have LU : Hid (Lst w14 a_U nU c_U (sortK (X ++ Y))) := hl
  have HRU : Hid (Rise (sortK (X ++ Y))) := union_rise HRX.out HRY.out
  clear hl hb CX CY CXf CYf
  go_wp2_with fail
  refine (copied_l w14 a_X nz c_X X LX.out (by omega)).mono ?_
  rintro e w15 ⟨a_CX, c_CX, rfl, hl, hfl, hb⟩
  replace LA : Hid (Lst w15 ao na ca A) := LA.out.kept hb
  replace LB : Hid (Lst w15 bo nb cb B) := LB.out.kept hb
  replace LX : Hid (Lst w15 a_X nz c_X X) := LX.out.kept hb
  replace LY : Hid (Lst w15 a_Y ny c_Y Y) := LY.out.kept hb
  replace LU : Hid (Lst w15 a_U nU c_U (sortK (X ++ Y))) := LU.out.kept hb
  replace HBx : Hid (Box w15 KB t r) := HBx.out.kept hb
  replace HT : Hid (Below w.heap.size w w15) := HT.out.trans (hb.mono HT.out.size)
  have CX : Hid (Lst w15 a_CX nz c_CX X) := hl
  have CXf : Hid (Flat a_CX) := hfl
  clear hl hfl hb
  go_wp2_with fail
  refine (copied_l w15 a_Y ny c_Y Y LY.out (by omega)).mono ?_
  rintro e w16 ⟨a_CY, c_CY, rfl, hl, hfl, hb⟩
  replace LA : Hid (Lst w16 ao na ca A) := LA.out.kept hb
  replace LB : Hid (Lst w16 bo nb cb B) := LB.out.kept hb
  replace LX : Hid (Lst w16 a_X nz c_X X) := LX.out.kept hb
  replace LY : Hid (Lst w16 a_Y ny c_Y Y) := LY.out.kept hb
  replace LU : Hid (Lst w16 a_U nU c_U (sortK (X ++ Y))) := LU.out.kept hb
  replace CX : Hid (Lst w16 a_CX nz c_CX X) := CX.out.kept hb
  replace HBx : Hid (Box w16 KB t r) := HBx.out.kept hb
  replace HT : Hid (Below w.heap.size w w16) := HT.out.trans (hb.mono HT.out.size)
  have CY : Hid (Lst w16 a_CY ny c_CY Y) := hl
  have CYf : Hid (Flat a_CY) := hfl
  clear hl hfl hb
  go_wp2_with fail
  refine (meet_l w16 a_CX a_CY nz ny c_CX c_CY X Y CX.out CY.out HRX.out HRY.out (by omega)).mono ?_
  rintro e w17 ⟨a_N, nN, c_N, rfl, hl, _, hb⟩
  replace LA : Hid (Lst w17 ao na ca A) := LA.out.kept hb
  replace LB : Hid (Lst w17 bo nb cb B) := LB.out.kept hb
  replace LX : Hid (Lst w17 a_X nz c_X X) := LX.out.kept hb
  replace LY : Hid (Lst w17 a_Y ny c_Y Y) := LY.out.kept hb
  replace LU : Hid (Lst w17 a_U nU c_U (sortK (X ++ Y))) := LU.out.kept hb
  replace HBx : Hid (Box w17 KB t r) := HBx.out.kept hb
  replace HT : Hid (Below w.heap.size w w17) := HT.out.trans (hb.mono HT.out.size)
  have LN : Hid (Lst w17 a_N nN c_N (X.filter (fun k => decide (k ∈ Y)))) := hl
  have HRN : Hid (Rise (X.filter (fun k => decide (k ∈ Y)))) := meet_rise Y HRX.out
  clear hl hb CX CY CXf CYf
  go_wp2_with fail
  refine (copied_l w17 a_X nz c_X X LX.out (by omega)).mono ?_
  rintro e w18 ⟨a_CX, c_CX, rfl, hl, hfl, hb⟩
  replace LA : Hid (Lst w18 ao na ca A) := LA.out.kept hb
  replace LB : Hid (Lst w18 bo nb cb B) := LB.out.kept hb
  replace LX : Hid (Lst w18 a_X nz c_X X) := LX.out.kept hb
  replace LY : Hid (Lst w18 a_Y ny c_Y Y) := LY.out.kept hb
  replace LU : Hid (Lst w18 a_U nU c_U (sortK (X ++ Y))) := LU.out.kept hb
  replace LN : Hid (Lst w18 a_N nN c_N (X.filter (fun k => decide (k ∈ Y)))) := LN.out.kept hb
  replace HBx : Hid (Box w18 KB t r) := HBx.out.kept hb
  replace HT : Hid (Below w.heap.size w w18) := HT.out.trans (hb.mono HT.out.size)
  have CX : Hid (Lst w18 a_CX nz c_CX X) := hl
  have CXf : Hid (Flat a_CX) := hfl
  clear hl hfl hb
  go_wp2_with fail
  refine (copied_l w18 a_Y ny c_Y Y LY.out (by omega)).mono ?_
  rintro e w19 ⟨a_CY, c_CY, rfl, hl, hfl, hb⟩
  replace LA : Hid (Lst w19 ao na ca A) := LA.out.kept hb
  replace LB : Hid (Lst w19 bo nb cb B) := LB.out.kept hb
  replace LX : Hid (Lst w19 a_X nz c_X X) := LX.out.kept hb
  replace LY : Hid (Lst w19 a_Y ny c_Y Y) := LY.out.kept hb
  replace LU : Hid (Lst w19 a_U nU c_U (sortK (X ++ Y))) := LU.out.kept hb
  replace LN : Hid (Lst w19 a_N nN c_N (X.filter (fun k => decide (k ∈ Y)))) := LN.out.kept hb
  replace CX : Hid (Lst w19 a_CX nz c_CX X) := CX.out.kept hb
  replace HBx : Hid (Box w19 KB t r) := HBx.out.kept hb
  replace HT : Hid (Below w.heap.size w w19) := HT.out.trans (hb.mono HT.out.size)
  have CY : Hid (Lst w19 a_CY ny c_CY Y) := hl
  have CYf : Hid (Flat a_CY) := hfl
  clear hl hfl hb
  go_wp2_with fail
  refine (minus_l w19 a_CX a_CY nz ny c_CX c_CY X Y CX.out CY.out HRX.out HRY.out (by omega)).mono ?_
  rintro e w20 ⟨a_D, nD, c_D, rfl, hl, _, hb⟩
  replace LA : Hid (Lst w20 ao na ca A) := LA.out.kept hb
  replace LB : Hid (Lst w20 bo nb cb B) := LB.out.kept hb
  replace LX : Hid (Lst w20 a_X nz c_X X) := LX.out.kept hb
  replace LY : Hid (Lst w20 a_Y ny c_Y Y) := LY.out.kept hb
  replace LU : Hid (Lst w20 a_U nU c_U (sortK (X ++ Y))) := LU.out.kept hb
  replace LN : Hid (Lst w20 a_N nN c_N (X.filter (fun k => decide (k ∈ Y)))) := LN.out.kept hb
  replace HBx : Hid (Box w20 KB t r) := HBx.out.kept hb
  replace HT : Hid (Below w.heap.size w w20) := HT.out.trans (hb.mono HT.out.size)
  have LD : Hid (Lst w20 a_D nD c_D (X.filter (fun k => !decide (k ∈ Y)))) := hl
  have HRD : Hid (Rise (X.filter (fun k => !decide (k ∈ Y)))) := minus_rise Y HRX.out
  clear hl hb CX CY CXf CYf
  have HLen : Hid (nU + nN = nz + ny ∧ nD + nN = nz) := ⟨by rw [LU.out.len, LN.out.len, LX.out.len, LY.out.len]; exact union_len HRX.out HRY.out, by rw [LD.out.len, LN.out.len, LX.out.len]; exact parts_len X Y⟩
  have hnU : nU ≤ 2097152 := by have := HLen.out.1; omega
  have hnN : nN ≤ 1048576 := by have := HLen.out.2; omega
  have hnD : nD ≤ 1048576 := by have := HLen.out.2; omega
  have HMU : Hid (∀ k, k ∈ sortK (X ++ Y) ↔ (k ∈ A ∨ k ∈ B)) := fun k => by rw [sortK_mem, List.mem_append, HMX.out, HMY.out]
  have HMN : Hid (∀ k, k ∈ X.filter (fun k => decide (k ∈ Y)) ↔ (k ∈ A ∧ k ∈ B)) := fun k => by rw [List.mem_filter, decide_eq_true_iff, HMX.out, HMY.out]
  have HMD : Hid (∀ k, k ∈ X.filter (fun k => !decide (k ∈ Y)) ↔ (k ∈ A ∧ k ∉ B)) := fun k => by rw [List.mem_filter, Bool.not_eq_true', decide_eq_false_iff_not, HMX.out, HMY.out]
  generalize sortK (X ++ Y) = U at *
  generalize X.filter (fun k => decide (k ∈ Y)) = N at *
  generalize X.filter (fun k => !decide (k ∈ Y)) = D at *
  go_wp2_with fail
  refine (num_any' _ _).mono ?_
  rintro e w' ⟨rfl, rfl⟩
  go_wp2_with fail
  refine (num_any' _ _).mono ?_
  rintro e w' ⟨rfl, rfl⟩
  go_wp2_with fail
  refine (num_any' _ _).mono ?_
  rintro e w' ⟨rfl, rfl⟩
  go_wp2_with fail
  refine (rises_l w20 a_U nU c_U U LU.out HRU.out (by omega)).mono ?_
  rintro e w21 ⟨rfl, hb⟩
  replace LA : Hid (Lst w21 ao na ca A) := LA.out.kept hb
  replace LB : Hid (Lst w21 bo nb cb B) := LB.out.kept hb
  replace LX : Hid (Lst w21 a_X nz c_X X) := LX.out.kept hb
  replace LY : Hid (Lst w21 a_Y ny c_Y Y) := LY.out.kept hb
  replace LU : Hid (Lst w21 a_U nU c_U U) := LU.out.kept hb
  replace LN : Hid (Lst w21 a_N nN c_N N) := LN.out.kept hb
  replace LD : Hid (Lst w21 a_D nD c_D D) := LD.out.kept hb
  replace HBx : Hid (Box w21 KB t r) := HBx.out.kept hb
  replace HT : Hid (Below w.heap.size w w21) := HT.out.trans (hb.mono HT.out.size)
  clear hb
  go_wp2_with fail
  refine (rises_l w21 a_N nN c_N N LN.out HRN.out (by omega)).mono ?_
  rintro e w22 ⟨rfl, hb⟩
  replace LA : Hid (Lst w22 ao na ca A) := LA.out.kept hb
  replace LB : Hid (Lst w22 bo nb cb B) := LB.out.kept hb
  replace LX : Hid (Lst w22 a_X nz c_X X) := LX.out.kept hb
  replace LY : Hid (Lst w22 a_Y ny c_Y Y) := LY.out.kept hb
  replace LU : Hid (Lst w22 a_U nU c_U U) := LU.out.kept hb
  replace LN : Hid (Lst w22 a_N nN c_N N) := LN.out.kept hb
  replace LD : Hid (Lst w22 a_D nD c_D D) := LD.out.kept hb
  replace HBx : Hid (Box w22 KB t r) := HBx.out.kept hb
  replace HT : Hid (Below w.heap.size w w22) := HT.out.trans (hb.mono HT.out.size)
  clear hb
  go_wp2_with fail
  refine (rises_l w22 a_D nD c_D D LD.out HRD.out (by omega)).mono ?_
  rintro e w23 ⟨rfl, hb⟩
  replace LA : Hid (Lst w23 ao na ca A) := LA.out.kept hb
  replace LB : Hid (Lst w23 bo nb cb B) := LB.out.kept hb
  replace LX : Hid (Lst w23 a_X nz c_X X) := LX.out.kept hb
  replace LY : Hid (Lst w23 a_Y ny c_Y Y) := LY.out.kept hb
  replace LU : Hid (Lst w23 a_U nU c_U U) := LU.out.kept hb
  replace LN : Hid (Lst w23 a_N nN c_N N) := LN.out.kept hb
  replace LD : Hid (Lst w23 a_D nD c_D D) := LD.out.kept hb
  replace HBx : Hid (Box w23 KB t r) := HBx.out.kept hb
  replace HT : Hid (Below w.heap.size w w23) := HT.out.trans (hb.mono HT.out.size)
  clear hb
  clear HRU HRN HRD HRY HMY
  obtain ⟨k1, k2⟩ := HBx.out
  have kq1 : (w23.alloc (.cells #[.int .i64 t, .int .i64 r] 24)).cell? ⟨KB, 0, none⟩ = some (.int .i64 t) := Grew.cell ((Grew.refl _).alloc _) k1
  have kq2 : (w23.alloc (.cells #[.int .i64 t, .int .i64 r] 24)).cell? ⟨KB, 1, none⟩ = some (.int .i64 r) := Grew.cell ((Grew.refl _).alloc _) k2
  have HKa : Hid (∀ W, Below w23.heap.size w23 W → KeysAt W ao A) := fun W hb => LA.out.at_.kept hb
  have HKb : Hid (∀ W, Below w23.heap.size w23 W → KeysAt W bo B) := fun W hb => LB.out.at_.kept hb
  have HKx : Hid (∀ W, Below w23.heap.size w23 W → Box W KB t r) := fun W hb => HBx.out.kept hb
  have HDr : Hid (Below w23.heap.size w23 w23.drew) := below_drewN w23 1
  have HDa : Hid (Below w23.heap.size w23 (w23.drew.alloc (.cells #[.int .i64 t, .int .i64 r] 24))) := HDr.out.trans (((Grew.refl w23.drew).alloc _).below)
  have HLa : Hid (A.length = na ∧ (ao = none → ca = 0) ∧ B.length = nb ∧ (bo = none → cb = 0)) := ⟨LA.out.len.symm, LA.out.nil, LB.out.len.symm, LB.out.nil⟩
  go_wp2_with fail
  go_cut [18] (fun x wx => ∃ a c, x = .slice a (na + nb + 1) c ∧ Hid (Lst wx a (na + nb + 1) c (A ++ B ++ [(t, r)])) ∧ Hid (Below w23.heap.size w23 wx))
  case first =>
    as_aux_lemma =>
    go_region_law (first | (refine step_append_keys rfl _ _ rfl w23.heap.size v A rfl (by first | exact HQ2.out.1 | exact HQ2.out.1.alloc _) bo nb cb B rfl HLa.out.2.2.1.symm (HKb.out _ (by first | exact HQ2.out.2 | exact HQ2.out.2.trans ((((Grew.refl w2).alloc _).below).mono HQ2.out.2.size))) HLa.out.2.2.2 (by rw [HLa.out.1, HLa.out.2.2.1]; omega) (by have := HQ2.out.2.size; first | exact this | (simp; omega)) ?_; intro v3 w3 hown3 hgrow3 hat3; have HQ3 : Hid (OwnK w3 w23.heap.size v3 (A ++ B) ∧ Below w23.heap.size w23 w3) := ⟨hown3, (by first | exact HQ2.out.2.trans (grown_below hgrow3 (fun k hk => (HQ2.out.1.lt k hk).1) HQ2.out.2.size) | exact HQ2.out.2.trans (grown_below (grown_alloc3 (w := w2) w3 hgrow3) (fun k hk => (HQ2.out.1.lt k hk).1) HQ2.out.2.size))⟩; have HKs : Hid (∀ g, KeysAt _ (some ⟨g, 0, none⟩) [(t, r)] → v.ownBlock ≠ some g → KeysAt w3 (some ⟨g, 0, none⟩) [(t, r)]) := (fun g h hne => key_kept h hgrow3 hne); have ky1 := (HKx.out w3 HQ3.out.2).1; have ky2 := (HKx.out w3 HQ3.out.2).2; clear hown3 hgrow3 hat3) | (refine step_append_keys rfl _ _ rfl w23.heap.size v3 (A ++ B) rfl (by first | exact HQ3.out.1 | exact HQ3.out.1.alloc _) _ _ _ [(t, r)] rfl rfl (by first | exact key_src w3 _ t r rfl | exact HKs.out _ (key_src w2 _ t r rfl) (fun e => by have := HV2.out _ e; omega) | exact HKs.out _ ((key_src w23.drew _ t r rfl).kept HBk.out) (fun e => by have := (HVk.out _ e).1; simp at this; omega)) (by simp) (by rw [List.length_append, HLa.out.1, HLa.out.2.2.1]; simp; omega) (by have := HQ3.out.2.size; first | exact this | (simp; omega)) ?_; intro v4 w4 hown4 hgrow4 hat4; have HQ4 : Hid (OwnK w4 w23.heap.size v4 (A ++ B ++ [(t, r)]) ∧ Below w23.heap.size w23 w4) := ⟨hown4, (by first | exact HQ3.out.2.trans (grown_below hgrow4 (fun k hk => (HQ3.out.1.lt k hk).1) HQ3.out.2.size) | exact HQ3.out.2.trans (grown_below (grown_alloc3 (w := w3) w4 hgrow4) (fun k hk => (HQ3.out.1.lt k hk).1) HQ3.out.2.size))⟩; clear hown4 hgrow4 hat4) | (go_simp; (go_at_call 7; go_loud (refine (copiedK_any _ ao ca na A HLa.out.1.symm (HKa.out _ (by first | exact HDr.out | exact HDa.out)) HLa.out.2.1 (by omega)).mono ?_; rintro e w2 ⟨v, rfl, hown2, hbel2⟩; have HQ2 : Hid (OwnK w2 w23.heap.size v A ∧ Below w23.heap.size w23 w2) := (by first | exact ⟨hown2, HDr.out.trans hbel2⟩ | exact ⟨hown2.mono (by simp), HDa.out.trans (hbel2.mono (by simp))⟩); have HV2 : Hid (∀ k, v.ownBlock = some k → k < w2.heap.size) := (fun k hk => (hown2.lt k hk).2); have HV3 : Hid (∀ k, v.ownBlock = some k → k ≠ w23.heap.size ∨ w23.heap.size ≤ k) := (fun k hk => .inr (HQ2.out.1.lt k hk).1); have HVk : Hid _ := hown2.lt; have HBk : Hid _ := hbel2; have kw1 := (HKx.out w2 HQ2.out.2).1; have kw2 := (HKx.out w2 HQ2.out.2).2; have kx1 : (w2.alloc (.cells #[.int .i64 t, .int .i64 r] 24)).cell? ⟨KB, 0, none⟩ = some (.int .i64 t) := Grew.cell ((Grew.refl _).alloc _) kw1; have kx2 : (w2.alloc (.cells #[.int .i64 t, .int .i64 r] 24)).cell? ⟨KB, 1, none⟩ = some (.int .i64 r) := Grew.cell ((Grew.refl _).alloc _) kw2; clear hown2 hbel2))))
    all_goals go_wp2_with fail
    all_goals go_meet
    all_goals
      obtain ⟨a, m, c, hv4, hl4, _⟩ := HQ4.out.1.lst
      have hm4 : m = na + nb + 1 := by have := hl4.len; rw [List.length_append, List.length_append, HLa.out.1, HLa.out.2.2.1] at this; simpa using this
      subst hm4
      exact ⟨a, c, hv4, hl4, HQ4.out.2⟩
  case rest =>
    obtain ⟨a_L, c_L, hx18, LL, HBc⟩ := hcut
    subst hx18
    replace LA : Hid (Lst wc ao na ca A) := LA.out.kept HBc.out
    replace LB : Hid (Lst wc bo nb cb B) := LB.out.kept HBc.out
    replace LX : Hid (Lst wc a_X nz c_X X) := LX.out.kept HBc.out
    replace LU : Hid (Lst wc a_U nU c_U U) := LU.out.kept HBc.out
    replace LN : Hid (Lst wc a_N nN c_N N) := LN.out.kept HBc.out
    replace LD : Hid (Lst wc a_D nD c_D D) := LD.out.kept HBc.out
    replace HT : Hid (Below w.heap.size w wc) := HT.out.trans (HBc.out.mono HT.out.size)
    clear HKa HKb HKx HDr HDa HBx HBc kq1 kq2 k1 k2
    obtain ⟨nl, hnl⟩ : ∃ n, n = na + nb + 1 := ⟨_, rfl⟩
    rw [← hnl] at LL
    rw [← hnl]
    have hnlb : nl ≤ 2097153 := by omega
    clear hnl HLa
    obtain ⟨LS, hLS⟩ : ∃ l, l = A ++ B ++ [(t, r)] := ⟨_, rfl⟩
    rw [← hLS] at LL
    clear hLS
    obtain ⟨S, hS⟩ : ∃ S : World → Prop, ∀ W, S W ↔ (Lst W ao na ca A ∧ Lst W bo nb cb B ∧ Lst W a_X nz c_X X ∧ Lst W a_U nU c_U U ∧ Lst W a_N nN c_N N ∧ Lst W a_D nD c_D D ∧ Lst W a_L nl c_L LS) := ⟨_, fun _ => Iff.rfl⟩
    have HS : Hid (S wc) := (hS wc).2 ⟨LA.out, LB.out, LX.out, LU.out, LN.out, LD.out, LL.out⟩
    have HSk : Hid (∀ W W', Below W.heap.size W W' → S W → S W') := fun W W' hb h => by
      obtain ⟨h0, h1, h2, h3, h4, h5, h6⟩ := (hS W).1 h
      exact (hS W').2 ⟨h0.kept hb, h1.kept hb, h2.kept hb, h3.kept hb, h4.kept hb, h5.kept hb, h6.kept hb⟩
    have HS7 : Hid (∀ W, S W → (Lst W ao na ca A ∧ Lst W bo nb cb B ∧ Lst W a_X nz c_X X ∧ Lst W a_U nU c_U U ∧ Lst W a_N nN c_N N ∧ Lst W a_D nD c_D D ∧ Lst W a_L nl c_L LS)) := fun W => (hS W).1
    clear hS LA LB LX LU LN LD LL
    go_wp2_with fail
    go_loopw [19, 20, 21, 22, 23] (fun x _ _ _ _ wr => ∃ k : Nat, k ≤ nl ∧ x = .int .i64 (k : Int) ∧ Hid (S wr) ∧ Hid (Below w.heap.size w wr)) (fun x _ _ _ _ _ => nl - (intOf x).toNat)
    case atStart => exact ⟨0, Nat.zero_le _, rfl, HS, HT⟩
    case round =>
      clear HS HT
      obtain ⟨k, hk, rfl, HS, HT⟩ := hrel
      by_cases hlt : k < nl
      · obtain ⟨b, off, rfl, c1, c2⟩ := (HS7.out _ HS.out).2.2.2.2.2.2.at k hlt
        have HCe : Hid (∀ W, S W → W.cell? ⟨b, off + k * 2, none⟩ = some (.int .i64 (kd LS k).1) ∧ W.cell? ⟨b, off + k * 2 + 1, none⟩ = some (.int .i64 (kd LS k).2)) := fun W hW => by
          obtain ⟨b', off', e, h1, h2⟩ := (HS7.out _ hW).2.2.2.2.2.2.at k hlt
          cases e; exact ⟨h1, h2⟩
        generalize kd LS k = z at *
        obtain ⟨zt, zr⟩ := z
        simp only at c1 c2 HCe
        obtain ⟨pa, hpa⟩ := isIn_ex (zt, zr) A
        obtain ⟨pb, hpb⟩ := isIn_ex (zt, zr) B
        have HPA : Hid (IsIn pa (zt, zr) A) := hpa
        have HPB : Hid (IsIn pb (zt, zr) B) := hpb
        clear hpa hpb
        go_wp2_with fail
        refine (stands_l wr ao na ca A zt zr pa (HPA.out) (HS7.out _ HS.out).1 (by omega)).mono ?_
        rintro e v1 ⟨rfl, hb⟩
        replace HS : Hid (S v1) := HSk.out _ _ hb HS.out
        replace HT : Hid (Below w.heap.size w v1) := HT.out.trans (hb.mono HT.out.size)
        clear hb c1 c2
        obtain ⟨c1, c2⟩ := HCe.out _ HS.out
        go_wp2_with fail
        refine (stands_l v1 bo nb cb B zt zr pb (HPB.out) (HS7.out _ HS.out).2.1 (by omega)).mono ?_
        rintro e v2 ⟨rfl, hb⟩
        replace HS : Hid (S v2) := HSk.out _ _ hb HS.out
        replace HT : Hid (Below w.heap.size w v2) := HT.out.trans (hb.mono HT.out.size)
        clear hb c1 c2
        obtain ⟨c1, c2⟩ := HCe.out _ HS.out
        go_upto_region 25 with fail
        go_cut [217] (fun x wx => x = .bool false ∧ Hid (S wx) ∧ Hid (Below w.heap.size w wx))
        case first =>
          cases pa <;> cases pb
          · as_aux_lemma =>
            go_wp2_with fail
            refine (stands_l v2 a_X nz c_X X zt zr false (HPA.out.of HMX.out) (HS7.out _ HS.out).2.2.1 (by omega)).mono ?_
            rintro e v3 ⟨rfl, hb⟩
            replace HS : Hid (S v3) := HSk.out _ _ hb HS.out
            replace HT : Hid (Below w.heap.size w v3) := HT.out.trans (hb.mono HT.out.size)
            clear hb c1 c2
            obtain ⟨c1, c2⟩ := HCe.out _ HS.out
            go_wp2_with fail
            refine (stands_l v3 a_U nU c_U U zt zr false (HPA.out.or HPB.out HMU.out) (HS7.out _ HS.out).2.2.2.1 (by omega)).mono ?_
            rintro e v4 ⟨rfl, hb⟩
            replace HS : Hid (S v4) := HSk.out _ _ hb HS.out
            replace HT : Hid (Below w.heap.size w v4) := HT.out.trans (hb.mono HT.out.size)
            clear hb c1 c2
            obtain ⟨c1, c2⟩ := HCe.out _ HS.out
            go_wp2_with fail
            refine (stands_l v4 a_N nN c_N N zt zr false (HPA.out.and HPB.out HMN.out) (HS7.out _ HS.out).2.2.2.2.1 (by omega)).mono ?_
            rintro e v5 ⟨rfl, hb⟩
            replace HS : Hid (S v5) := HSk.out _ _ hb HS.out
            replace HT : Hid (Below w.heap.size w v5) := HT.out.trans (hb.mono HT.out.size)
            clear hb c1 c2
            obtain ⟨c1, c2⟩ := HCe.out _ HS.out
            go_wp2_with fail
            refine (stands_l v5 a_D nD c_D D zt zr false (HPA.out.but HPB.out HMD.out) (HS7.out _ HS.out).2.2.2.2.2.1 (by omega)).mono ?_
            rintro e v6 ⟨rfl, hb⟩
            replace HS : Hid (S v6) := HSk.out _ _ hb HS.out
            replace HT : Hid (Below w.heap.size w v6) := HT.out.trans (hb.mono HT.out.size)
            clear hb c1 c2
            obtain ⟨c1, c2⟩ := HCe.out _ HS.out
            go_wp2_with fail
            go_meet
            exact ⟨rfl, HS, HT⟩
          · as_aux_lemma =>
            go_wp2_with fail
            refine (stands_l v2 a_X nz c_X X zt zr false (HPA.out.of HMX.out) (HS7.out _ HS.out).2.2.1 (by omega)).mono ?_
            rintro e v3 ⟨rfl, hb⟩
            replace HS : Hid (S v3) := HSk.out _ _ hb HS.out
            replace HT : Hid (Below w.heap.size w v3) := HT.out.trans (hb.mono HT.out.size)
            clear hb c1 c2
            obtain ⟨c1, c2⟩ := HCe.out _ HS.out
            go_wp2_with fail
            refine (stands_l v3 a_U nU c_U U zt zr true (HPA.out.or HPB.out HMU.out) (HS7.out _ HS.out).2.2.2.1 (by omega)).mono ?_
            rintro e v4 ⟨rfl, hb⟩
            replace HS : Hid (S v4) := HSk.out _ _ hb HS.out
            replace HT : Hid (Below w.heap.size w v4) := HT.out.trans (hb.mono HT.out.size)
            clear hb c1 c2
            obtain ⟨c1, c2⟩ := HCe.out _ HS.out
            go_wp2_with fail
            refine (stands_l v4 a_N nN c_N N zt zr false (HPA.out.and HPB.out HMN.out) (HS7.out _ HS.out).2.2.2.2.1 (by omega)).mono ?_
            rintro e v5 ⟨rfl, hb⟩
            replace HS : Hid (S v5) := HSk.out _ _ hb HS.out
            replace HT : Hid (Below w.heap.size w v5) := HT.out.trans (hb.mono HT.out.size)
            clear hb c1 c2
            obtain ⟨c1, c2⟩ := HCe.out _ HS.out
            go_wp2_with fail
            refine (stands_l v5 a_D nD c_D D zt zr false (HPA.out.but HPB.out HMD.out) (HS7.out _ HS.out).2.2.2.2.2.1 (by omega)).mono ?_
            rintro e v6 ⟨rfl, hb⟩
            replace HS : Hid (S v6) := HSk.out _ _ hb HS.out
            replace HT : Hid (Below w.heap.size w v6) := HT.out.trans (hb.mono HT.out.size)
            clear hb c1 c2
            obtain ⟨c1, c2⟩ := HCe.out _ HS.out
            go_wp2_with fail
            go_meet
            exact ⟨rfl, HS, HT⟩
          · as_aux_lemma =>
            go_wp2_with fail
            refine (stands_l v2 a_X nz c_X X zt zr true (HPA.out.of HMX.out) (HS7.out _ HS.out).2.2.1 (by omega)).mono ?_
            rintro e v3 ⟨rfl, hb⟩
            replace HS : Hid (S v3) := HSk.out _ _ hb HS.out
            replace HT : Hid (Below w.heap.size w v3) := HT.out.trans (hb.mono HT.out.size)
            clear hb c1 c2
            obtain ⟨c1, c2⟩ := HCe.out _ HS.out
            go_wp2_with fail
            refine (stands_l v3 a_U nU c_U U zt zr true (HPA.out.or HPB.out HMU.out) (HS7.out _ HS.out).2.2.2.1 (by omega)).mono ?_
            rintro e v4 ⟨rfl, hb⟩
            replace HS : Hid (S v4) := HSk.out _ _ hb HS.out
            replace HT : Hid (Below w.heap.size w v4) := HT.out.trans (hb.mono HT.out.size)
            clear hb c1 c2
            obtain ⟨c1, c2⟩ := HCe.out _ HS.out
            go_wp2_with fail
            refine (stands_l v4 a_N nN c_N N zt zr false (HPA.out.and HPB.out HMN.out) (HS7.out _ HS.out).2.2.2.2.1 (by omega)).mono ?_
            rintro e v5 ⟨rfl, hb⟩
            replace HS : Hid (S v5) := HSk.out _ _ hb HS.out
            replace HT : Hid (Below w.heap.size w v5) := HT.out.trans (hb.mono HT.out.size)
            clear hb c1 c2
            obtain ⟨c1, c2⟩ := HCe.out _ HS.out
            go_wp2_with fail
            refine (stands_l v5 a_D nD c_D D zt zr true (HPA.out.but HPB.out HMD.out) (HS7.out _ HS.out).2.2.2.2.2.1 (by omega)).mono ?_
            rintro e v6 ⟨rfl, hb⟩
            replace HS : Hid (S v6) := HSk.out _ _ hb HS.out
            replace HT : Hid (Below w.heap.size w v6) := HT.out.trans (hb.mono HT.out.size)
            clear hb c1 c2
            obtain ⟨c1, c2⟩ := HCe.out _ HS.out
            go_wp2_with fail
            go_meet
            exact ⟨rfl, HS, HT⟩
          · as_aux_lemma =>
            go_wp2_with fail
            refine (stands_l v2 a_X nz c_X X zt zr true (HPA.out.of HMX.out) (HS7.out _ HS.out).2.2.1 (by omega)).mono ?_
            rintro e v3 ⟨rfl, hb⟩
            replace HS : Hid (S v3) := HSk.out _ _ hb HS.out
            replace HT : Hid (Below w.heap.size w v3) := HT.out.trans (hb.mono HT.out.size)
            clear hb c1 c2
            obtain ⟨c1, c2⟩ := HCe.out _ HS.out
            go_wp2_with fail
            refine (stands_l v3 a_U nU c_U U zt zr true (HPA.out.or HPB.out HMU.out) (HS7.out _ HS.out).2.2.2.1 (by omega)).mono ?_
            rintro e v4 ⟨rfl, hb⟩
            replace HS : Hid (S v4) := HSk.out _ _ hb HS.out
            replace HT : Hid (Below w.heap.size w v4) := HT.out.trans (hb.mono HT.out.size)
            clear hb c1 c2
            obtain ⟨c1, c2⟩ := HCe.out _ HS.out
            go_wp2_with fail
            refine (stands_l v4 a_N nN c_N N zt zr true (HPA.out.and HPB.out HMN.out) (HS7.out _ HS.out).2.2.2.2.1 (by omega)).mono ?_
            rintro e v5 ⟨rfl, hb⟩
            replace HS : Hid (S v5) := HSk.out _ _ hb HS.out
            replace HT : Hid (Below w.heap.size w v5) := HT.out.trans (hb.mono HT.out.size)
            clear hb c1 c2
            obtain ⟨c1, c2⟩ := HCe.out _ HS.out
            go_wp2_with fail
            refine (stands_l v5 a_D nD c_D D zt zr false (HPA.out.but HPB.out HMD.out) (HS7.out _ HS.out).2.2.2.2.2.1 (by omega)).mono ?_
            rintro e v6 ⟨rfl, hb⟩
            replace HS : Hid (S v6) := HSk.out _ _ hb HS.out
            replace HT : Hid (Below w.heap.size w v6) := HT.out.trans (hb.mono HT.out.size)
            clear hb c1 c2
            obtain ⟨c1, c2⟩ := HCe.out _ HS.out
            go_wp2_with fail
            go_meet
            exact ⟨rfl, HS, HT⟩
        case rest =>
          as_aux_lemma =>
          clear c1 c2 HS HT HMU HMN HMD HPB
          obtain ⟨h217, HS, HT⟩ := hcut
          subst h217
          obtain ⟨v6, hv6⟩ : ∃ v, v = wc := ⟨_, rfl⟩
          subst hv6
          obtain ⟨c1, c2⟩ := HCe.out _ HS.out
          go_wp2_with fail
          have HCe' : Hid (∀ W, Below v6.heap.size v6 W → W.cell? ⟨b, off + k * 2, none⟩ = some (.int .i64 zt) ∧ W.cell? ⟨b, off + k * 2 + 1, none⟩ = some (.int .i64 zr)) := fun W hW => HCe.out W (HSk.out _ _ hW HS.out)
          have HLx : Hid (Lst v6.drew a_X nz c_X X) := (HS7.out _ HS.out).2.2.1.kept (below_drewN v6 1)
          have HDr : Hid (Below v6.heap.size v6 v6.drew) := below_drewN v6 1
          have HMz : Hid (IsIn pa (zt, zr) X) := HPA.out.of HMX.out
          go_cut [22, 23] (fun x y wx => x = .int .i64 (cnt X (zt, zr) : Int) ∧ y = .bool pa ∧ Hid (S wx) ∧ Hid (Below w.heap.size w wx))
          case first =>
            go_region_with (first | (go_at_call 7; go_loud (refine (copied_l _ a_X nz c_X X HLx.out (by omega)).mono ?_; rintro e w2 ⟨a_F, c_F, rfl, hl, hfl, hb⟩; have HLf : Hid (Lst w2 a_F nz c_F X) := hl; have HBf : Hid (Below v6.heap.size v6 w2) := HDr.out.trans hb; have g1 := (HCe'.out _ HBf.out).1; have g2 := (HCe'.out _ HBf.out).2; clear hl hfl hb)) | (go_at_call 16; go_loud (refine (find_l _ a_F nz c_F X zt zr pa HMz.out HLf.out HRX.out (by omega)).mono ?_; rintro e w3 ⟨rfl, hb⟩; have HBg : Hid (Below v6.heap.size v6 w3) := HBf.out.trans (hb.mono HBf.out.size); clear hb)))
            all_goals go_wp2_with fail
            all_goals go_meet
            all_goals exact ⟨rfl, rfl, HSk.out _ _ HBg.out HS.out, HT.out.trans (HBg.out.mono HT.out.size)⟩
          case rest =>
            clear HCe' HLx HDr c1 c2 HS HT
            obtain ⟨h22, h23, HS, HT⟩ := hcut
            subst h22 h23
            obtain ⟨c1, c2⟩ := HCe.out _ HS.out
            have HCn : Hid (cnt X (zt, zr) ≤ nz) := by have := cnt_le X (zt, zr); have := (HS7.out _ HS.out).2.2.1.len; rw [Hid]; omega
            cases pa
            · skip
              have hcn : cnt X (zt, zr) ≤ nz := HCn.out
              generalize cnt X (zt, zr) = cn at *
              have e1 : decide ((cn : Int) < 0) = false := by simp
              have e2 : decide ((nz : Int) < (cn : Int)) = false := by simp; omega
              have e2' : decide (nz < cn) = false := by simp; omega
              clear HMz HCn
              go_wp2_with fail
              go_quiet (fail)
              have HS9 : Hid (S (wc.drewN nq)) := HSk.out _ _ (below_drewN _ _) HS.out
              have HT9 : Hid (Below w.heap.size w (wc.drewN nq)) := HT.out.trans ((below_drewN _ _).mono HT.out.size)
              go_wp2_with fail
              go_roundw
              case rel => exact ⟨k + 1, by omega, by go_num, HS9, HT9⟩
              case measure => simp [intOf]; omega
            · skip
              have HCx : Hid (cnt X (zt, zr) < nz ∧ kd X (cnt X (zt, zr)) = (zt, zr)) := by
                have h1 := cnt_at HRX.out (Iff.mp HMz.out rfl)
                have := (HS7.out _ HS.out).2.2.1.len
                exact ⟨by omega, h1.2⟩
              obtain ⟨bx, ox, hax, x1, x2⟩ := (HS7.out _ HS.out).2.2.1.at _ HCx.out.1
              rw [HCx.out.2] at x1 x2
              subst hax
              simp only at x1 x2
              have hne := run_neKey zt zr zt zr
              simp only [decide_true, Bool.not_true] at hne
              have hgd := fun op x y => run_eqGuard op x y zt zr zt zr
              have hcx : cnt X (zt, zr) < nz := HCx.out.1
              have hcn : cnt X (zt, zr) ≤ nz := HCn.out
              generalize cnt X (zt, zr) = cn at *
              have e1 : decide ((cn : Int) < 0) = false := by simp
              have e2 : decide ((nz : Int) < (cn : Int)) = false := by simp; omega
              have e2' : decide (nz < cn) = false := by simp; omega
              have e3 : ((cn : Int) == (nz : Int)) = false := by simp; omega
              have e3' : (cn == nz) = false := by simp; omega
              clear HMz HCn HCx
              go_wp2_with fail
              go_quiet (fail)
              have HS9 : Hid (S (wc.drewN nq)) := HSk.out _ _ (below_drewN _ _) HS.out
              have HT9 : Hid (Below w.heap.size w (wc.drewN nq)) := HT.out.trans ((below_drewN _ _).mono HT.out.size)
              go_wp2_with fail
              go_roundw
              case rel => exact ⟨k + 1, by omega, by go_num, HS9, HT9⟩
              case measure => simp [intOf]; omega
      · obtain rfl : k = nl := by omega
        have hl1 : (nU : Int) + (nN : Int) = (nz : Int) + (ny : Int) := by have := HLen.out.1; omega
        have hl2 : (nD : Int) + (nN : Int) = (nz : Int) := by have := HLen.out.2; omega
        go_wp2
        go_ret
        exact ⟨rfl, HT.out⟩

end Go.Proofs.YtnjgaibcpcpmcacDoor
