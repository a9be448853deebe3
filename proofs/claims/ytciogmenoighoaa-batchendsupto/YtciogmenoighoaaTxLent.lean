/-
  THE WALKS OF layer 6's ints, keyList.
-/
import Derived.Test.YtciogmenoighoaaTxRow
import Derived.Test.YtciogmenoighoaaTxForm
namespace Go.Proofs.Ytciogmenoighoaa.Kk
open Go.RowKit Go.Sort

def pad3 (k : Nat) : List Int := (List.range 3).map fun j => if j < k then -31 else 0
theorem pad3_set : ∀ k, k < 3 → (pad3 k).set k (-31) = pad3 (k + 1) := by decide
theorem pad3_len (k : Nat) : (pad3 k).length = 3 := by simp [pad3]
theorem pad3_zero : List.replicate 3 (0 : Int) = pad3 0 := by decide
def padK3 (k : Nat) : List K := (List.range 3).map fun j => if j < k then (-31, 0) else (0, 0)
theorem padK3_set : ∀ k, k < 3 → (padK3 k).set k (-31, 0) = padK3 (k + 1) := by decide
theorem padK3_len (k : Nat) : (padK3 k).length = 3 := by simp [padK3]
theorem padK3_zero : List.replicate 3 ((0, 0) : K) = padK3 0 := by decide
theorem lentI_set (L : List Int) (k : Nat) (hk : k < 3) : (L ++ pad3 k).set (L.length + k) (-31) = L ++ pad3 (k + 1) := by
  rw [List.set_append_right _ _ (by omega), show L.length + k - L.length = k by omega, pad3_set k hk]
theorem lentK_set (L : List K) (k : Nat) (hk : k < 3) : (L ++ padK3 k).set (L.length + k) (-31, 0) = L ++ padK3 (k + 1) := by
  rw [List.set_append_right _ _ (by omega), show L.length + k - L.length = k by omega, padK3_set k hk]
/-- a list that was lent: nil for nil, or a row of its own between lo and hi, with three more behind -/
def LnI (W : World) (lo hi : Nat) (ao a : Option Addr) (c : Nat) (A : List Int) : Prop :=
  (ao = none ∧ a = none ∧ c = 0 ∧ A = []) ∨ (ao ≠ none ∧ ∃ G, a = some ⟨G, 0, none⟩ ∧ c = A.length + 3 ∧ lo ≤ G ∧ G < hi ∧ R64 W G (A ++ pad3 3))
def LnK (W : World) (lo hi : Nat) (ao a : Option Addr) (c : Nat) (L : List K) : Prop :=
  (ao = none ∧ a = none ∧ c = 0 ∧ L = []) ∨ (ao ≠ none ∧ ∃ G, a = some ⟨G, 0, none⟩ ∧ c = L.length + 3 ∧ lo ≤ G ∧ G < hi ∧ RK W G (L ++ padK3 3))
theorem LnI.same {W W' : World} {lo hi : Nat} {ao a : Option Addr} {c : Nat} {A : List Int} (h : LnI W lo hi ao a c A) (hs : ∀ G, lo ≤ G → G < hi → G < W.heap.size → W'.heap[G]? = W.heap[G]?) : LnI W' lo hi ao a c A := by
  rcases h with h | ⟨h0, G, h1, h2, h3, h4, h5⟩
  · exact .inl h
  · exact .inr ⟨h0, G, h1, h2, h3, h4, h5.same (hs G h3 h4 h5.lt)⟩
theorem LnK.same {W W' : World} {lo hi : Nat} {ao a : Option Addr} {c : Nat} {A : List K} (h : LnK W lo hi ao a c A) (hs : ∀ G, lo ≤ G → G < hi → G < W.heap.size → W'.heap[G]? = W.heap[G]?) : LnK W' lo hi ao a c A := by
  rcases h with h | ⟨h0, G, h1, h2, h3, h4, h5⟩
  · exact .inl h
  · exact .inr ⟨h0, G, h1, h2, h3, h4, h5.same (hs G h3 h4 h5.lt)⟩
theorem LnI.wide {W : World} {lo hi lo' hi' : Nat} {ao a : Option Addr} {c : Nat} {A : List Int} (h : LnI W lo hi ao a c A) (h1 : lo' ≤ lo) (h2 : hi ≤ hi') : LnI W lo' hi' ao a c A := by
  rcases h with h | ⟨h0, G, e1, e2, e3, e4, e5⟩
  · exact .inl h
  · exact .inr ⟨h0, G, e1, e2, by omega, by omega, e5⟩
theorem LnK.wide {W : World} {lo hi lo' hi' : Nat} {ao a : Option Addr} {c : Nat} {A : List K} (h : LnK W lo hi ao a c A) (h1 : lo' ≤ lo) (h2 : hi ≤ hi') : LnK W lo' hi' ao a c A := by
  rcases h with h | ⟨h0, G, e1, e2, e3, e4, e5⟩
  · exact .inl h
  · exact .inr ⟨h0, G, e1, e2, by omega, by omega, e5⟩
theorem setRow_grown {w : World} {G : Nat} {o : Array Value} {t : TypeId} {c : Array Value} (hG : G = w.heap.size) : Below w.heap.size w ((w.alloc (.cells c t)).setRow G o) := by
  have h1 : Below w.heap.size w (w.alloc (.cells c t)) := (Below.refl _ w).alloc (Nat.le_refl _) _
  have h2 : Below w.heap.size (w.alloc (.cells c t)) ((w.alloc (.cells c t)).setRow G o) := ⟨rfl, rfl, rfl, by simp [World.setRow], fun k hk => by simp [World.setRow, Array.getElem?_modify, show G ≠ k by omega]⟩
  exact h1.trans h2
theorem bset {B G i : Nat} {w wr : World} (hb : Below B w wr) (v : Value) (h : B ≤ G) : Below B w (wr.setCell ⟨G, i, none⟩ v) := by
  have h2 : Below B wr (wr.setCell ⟨G, i, none⟩ v) := ⟨rfl, rfl, rfl, by simp, fun k hk => heap_setCell_other wr ⟨G, i, none⟩ k v (by simp; omega)⟩
  exact hb.trans h2

set_option maxHeartbeats 2000000 in
set_option maxRecDepth 100000 in
theorem ints_any (w : World) (ao : Option Addr) (n cap : Nat) (L : List Int) (h : NumsAt w ao L) (hn : n = L.length) (hm : n ≤ 1000000) :
    Calls Try.prog 26 #[.slice ao n cap] w fun e w' => ∃ a c, e = .returned (.slice a n c) ∧ LnI w' w.heap.size w'.heap.size ao a c L ∧ Below w.heap.size w w' := by
  have HL : Hid (NumsAt w ao L) := h
  have HN : Hid (n = L.length) := hn
  clear h hn
  cases ao with
  | none =>
    have hnil := eqNil64 none n cap
    have HE : Hid (L = [] ∧ n = 0) := by
      have e := CellsAt.nil HL.out
      simp at e
      exact ⟨e, by rw [HN.out, e]; rfl⟩
    obtain ⟨rfl, rfl⟩ := HE.out
    go_enter Try.func26, Try.ntmps26
    go_wp2
    go_ret
    exact ⟨none, 0, rfl, .inl ⟨rfl, rfl, rfl, rfl⟩, Below.refl _ _⟩
  | some a =>
    have hnil := eqNil64 (some a) n cap
    simp only [Option.isNone_some] at hnil
    have hmk := make_nums (n + 3) ((n : Int) + 3) (by omega) (by omega)
    go_enter Try.func26, Try.ntmps26
    have HG0 : Hid (Grew w (w.alloc (.cells (cellsI (List.replicate (n + 3) 0)) 2))) := (Grew.refl _).alloc _
    have HR0 : Hid (R64 (w.alloc (.cells (cellsI (List.replicate (n + 3) 0)) 2)) w.heap.size (List.replicate (n + 3) 0)) := heap_alloc_new _ _ rfl
    have hcp := fun ty => run_copy_nums (w.alloc (.cells (cellsI (List.replicate (n + 3) 0)) 2)) ty w.heap.size (n + 3) (n + 3) a n cap L (List.replicate (n + 3) 0) HN.out (by simp) (by omega) HR0.out (HL.out.kept HG0.out.below) (L ++ pad3 0) (by rw [List.drop_replicate, show n + 3 - n = 3 by omega, pad3_zero])
    go_wp2_with fail
    have HB : Hid (Below w.heap.size w ((w.alloc (.cells (cellsI (List.replicate (n + 3) 0)) 2)).setRow w.heap.size (cellsI (L ++ pad3 0)))) := setRow_grown rfl
    have HO : Hid (R64 ((w.alloc (.cells (cellsI (List.replicate (n + 3) 0)) 2)).setRow w.heap.size (cellsI (L ++ pad3 0))) w.heap.size (L ++ pad3 0)) := HR0.out.setRow _
    generalize ((w.alloc (.cells (cellsI (List.replicate (n + 3) 0)) 2)).setRow w.heap.size (cellsI (L ++ pad3 0))) = W1 at *
    obtain ⟨G, hG⟩ : ∃ G, G = w.heap.size := ⟨_, rfl⟩
    rw [← hG] at HO ⊢
    have HG : Hid (G = w.heap.size) := hG
    clear hG hcp hmk HR0 HG0
    go_loopw [4] (fun x wr => ∃ m : Nat, n ≤ m ∧ m ≤ n + 3 ∧ x = .int .i64 (m : Int) ∧ Hid (R64 wr G (L ++ pad3 (m - n))) ∧ Hid (Below w.heap.size w wr)) (fun x _ => n + 3 - (intOf x).toNat)
    case atStart => exact ⟨n, Nat.le_refl _, by omega, rfl, by rw [Nat.sub_self]; exact HO, HB⟩
    case round =>
      clear HO HB
      obtain ⟨m, hm1, hm2, rfl, HO, HB⟩ := hrel
      by_cases hlt : m < n + 3
      · have hltm : (m : Int) < (n : Int) + 3 := by omega
        have e1 := HO.out.cell m (by have := HN.out; rw [List.length_append, pad3_len]; omega)
        have f1 := HO.out.frozen m
        have HO2 : Hid (R64 (wr.setCell ⟨G, m, none⟩ (.int .i64 (-31))) G (L ++ pad3 (m + 1 - n)) ∧ Below w.heap.size w (wr.setCell ⟨G, m, none⟩ (.int .i64 (-31)))) := by
          have h1 := HO.out.set m (-31)
          have e : (L ++ pad3 (m - n)).set m (-31) = L ++ pad3 (m + 1 - n) := by
            have := lentI_set L (m - n) (by omega)
            rw [← HN.out, show n + (m - n) = m by omega, show m - n + 1 = m + 1 - n by omega] at this; exact this
          rw [e] at h1
          exact ⟨h1, bset HB.out _ (Nat.le_of_eq HG.out.symm)⟩
        clear HO HB
        go_wp2_with fail
        exact ⟨⟨m + 1, by omega, by omega, by go_num, HO2.out.1, HO2.out.2⟩, by simp [intOf]; omega⟩
      · obtain rfl : m = n + 3 := by omega
        rw [show n + 3 - n = 3 by omega] at HO
        have HF : Hid (LnI wr w.heap.size wr.heap.size (some a) (some ⟨G, 0, none⟩) (n + 3) L) := by
          have := HG.out
          exact .inr ⟨by simp, G, rfl, by rw [← HN.out], by omega, HO.out.lt, HO.out⟩
        clear HO
        go_wp2
        go_ret
        exact ⟨_, _, rfl, HF.out, HB.out⟩

set_option maxHeartbeats 2000000 in
set_option maxRecDepth 100000 in
theorem keyList_any (w : World) (ao : Option Addr) (n cap : Nat) (L : List K) (h : KeysAt w ao L) (hn : n = L.length) (hm : n ≤ 1000000) :
    Calls Try.prog 27 #[.slice ao n cap] w fun e w' => ∃ a c, e = .returned (.slice a n c) ∧ LnK w' w.heap.size w'.heap.size ao a c L ∧ Below w.heap.size w w' := by
  have HL : Hid (KeysAt w ao L) := h
  have HN : Hid (n = L.length) := hn
  clear h hn
  cases ao with
  | none =>
    have hnil := eqNilK none n cap
    have HE : Hid (L = [] ∧ n = 0) := by
      have e := KeysAt.nil HL.out
      exact ⟨e, by rw [HN.out, e]; rfl⟩
    obtain ⟨rfl, rfl⟩ := HE.out
    go_enter Try.func27, Try.ntmps27
    go_wp2
    go_ret
    exact ⟨none, 0, rfl, .inl ⟨rfl, rfl, rfl, rfl⟩, Below.refl _ _⟩
  | some a =>
    have hnil := eqNilK (some a) n cap
    simp only [Option.isNone_some] at hnil
    have hmk := make_keys (n + 3) ((n : Int) + 3) (by omega) (by omega)
    go_enter Try.func27, Try.ntmps27
    have HG0 : Hid (Grew w (w.alloc (.cells (cks (List.replicate (n + 3) (0, 0))).toArray 78))) := (Grew.refl _).alloc _
    have HR0 : Hid (RK (w.alloc (.cells (cks (List.replicate (n + 3) (0, 0))).toArray 78)) w.heap.size (List.replicate (n + 3) (0, 0))) := heap_alloc_new _ _ rfl
    have hcp := fun ty => run_copy_keys (w.alloc (.cells (cks (List.replicate (n + 3) (0, 0))).toArray 78)) ty w.heap.size (n + 3) (n + 3) a n cap L (List.replicate (n + 3) (0, 0)) HN.out (by simp) (by omega) HR0.out (HL.out.kept HG0.out.below) (L ++ padK3 0) (by rw [List.drop_replicate, show n + 3 - n = 3 by omega, padK3_zero])
    go_wp2_with fail
    have HB : Hid (Below w.heap.size w ((w.alloc (.cells (cks (List.replicate (n + 3) (0, 0))).toArray 78)).setRow w.heap.size (cks (L ++ padK3 0)).toArray)) := setRow_grown rfl
    have HO : Hid (RK ((w.alloc (.cells (cks (List.replicate (n + 3) (0, 0))).toArray 78)).setRow w.heap.size (cks (L ++ padK3 0)).toArray) w.heap.size (L ++ padK3 0)) := HR0.out.setRow _
    generalize ((w.alloc (.cells (cks (List.replicate (n + 3) (0, 0))).toArray 78)).setRow w.heap.size (cks (L ++ padK3 0)).toArray) = W1 at *
    obtain ⟨G, hG⟩ : ∃ G, G = w.heap.size := ⟨_, rfl⟩
    rw [← hG] at HO ⊢
    have HG : Hid (G = w.heap.size) := hG
    clear hG hcp hmk HR0 HG0
    go_loopw [4] (fun x wr => ∃ m : Nat, n ≤ m ∧ m ≤ n + 3 ∧ x = .int .i64 (m : Int) ∧ Hid (RK wr G (L ++ padK3 (m - n))) ∧ Hid (Below w.heap.size w wr)) (fun x _ => n + 3 - (intOf x).toNat)
    case atStart => exact ⟨n, Nat.le_refl _, by omega, rfl, by rw [Nat.sub_self]; exact HO, HB⟩
    case round =>
      clear HO HB
      obtain ⟨m, hm1, hm2, rfl, HO, HB⟩ := hrel
      by_cases hlt : m < n + 3
      · have hltm : (m : Int) < (n : Int) + 3 := by omega
        have hml : m < (L ++ padK3 (m - n)).length := by have := HN.out; rw [List.length_append, padK3_len]; omega
        obtain ⟨e1, e2⟩ := HO.out.cell m hml
        have f1 := HO.out.frozen (m * 2)
        have f2 := HO.out.frozen (m * 2 + 1)
        have HO2 : Hid (RK ((wr.setCell ⟨G, m * 2, none⟩ (.int .i64 (-31))).setCell ⟨G, m * 2 + 1, none⟩ (.int .i64 0)) G (L ++ padK3 (m + 1 - n)) ∧ Below w.heap.size w ((wr.setCell ⟨G, m * 2, none⟩ (.int .i64 (-31))).setCell ⟨G, m * 2 + 1, none⟩ (.int .i64 0))) := by
          have h1 := HO.out.set m (-31) 0 hml
          have e : (L ++ padK3 (m - n)).set m (-31, 0) = L ++ padK3 (m + 1 - n) := by
            have := lentK_set L (m - n) (by omega)
            rw [← HN.out, show n + (m - n) = m by omega, show m - n + 1 = m + 1 - n by omega] at this; exact this
          rw [e] at h1
          exact ⟨h1, bset (bset HB.out _ (Nat.le_of_eq HG.out.symm)) _ (Nat.le_of_eq HG.out.symm)⟩
        clear HO HB hml
        go_wp2_with fail
        exact ⟨⟨m + 1, by omega, by omega, by go_num, HO2.out.1, HO2.out.2⟩, by simp [intOf]; omega⟩
      · obtain rfl : m = n + 3 := by omega
        rw [show n + 3 - n = 3 by omega] at HO
        have HF : Hid (LnK wr w.heap.size wr.heap.size (some a) (some ⟨G, 0, none⟩) (n + 3) L) := by
          have := HG.out
          exact .inr ⟨by simp, G, rfl, by rw [← HN.out], by omega, HO.out.lt, HO.out⟩
        clear HO
        go_wp2
        go_ret
        exact ⟨_, _, rfl, HF.out, HB.out⟩
end Go.Proofs.Ytciogmenoighoaa.Kk
