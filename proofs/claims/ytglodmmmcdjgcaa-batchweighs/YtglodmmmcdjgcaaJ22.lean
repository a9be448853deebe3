import Derived.Test.YtglodmmmcdjgcaaJ18
import Derived.Test.YtglodmmmcdjgcaaJ12
import Derived.Test.YtglodmmmcdjgcaaJ21
/-
  THE WALKS OF layer 6's ints, keyList.
-/
namespace Go.Proofs.Ytglodmmmcdjgcaa.Kk
open Go.RowKit Go.Sort

def pad3 (k : Nat) : List Int := (List.range 3).map fun j => if j < k then -31 else 0
theorem pad3_set : ∀ k, k < 3 → (pad3 k).set k (-31) = pad3 (k + 1) := by decide
theorem pad3_len (k : Nat) : (pad3 k).length = 3 := by simp [pad3]
theorem pad3_zero : List.replicate 3 (0 : Int) = pad3 0 := by decide
def padK3 (k : Nat) : List K := (List.range 3).map fun j => if j < k then (-31, 0) else (0, 0)
theorem padK3_set : ∀ k, k < 3 → (padK3 k).set k (-31, 0) = padK3 (k + 1) := by decide
theorem padK3_len (k : Nat) : (padK3 k).length = 3 := by simp [padK3]
theorem padK3_zero : List.replicate 3 ((0, 0) : K) = padK3 0 := by decide
theorem lentI_set (L : List Int) (k : Nat) (hk : k < 3) : (L ++ pad3 k).set (L.length + k) (-31) = L ++ pad3 (k + 1) := by
  rw [List.set_append_right _ _ (by omega), show L.length + k - L.length = k by omega, pad3_set k hk]
theorem lentK_set (L : List K) (k : Nat) (hk : k < 3) : (L ++ padK3 k).set (L.length + k) (-31, 0) = L ++ padK3 (k + 1) := by
  rw [List.set_append_right _ _ (by omega), show L.length + k - L.length = k by omega, padK3_set k hk]
/-- a list that was lent: nil for nil, or a row of its own between lo and hi, with three more behind -/
def LnI (W : World) (lo hi : Nat) (ao a : Option Addr) (c : Nat) (A : List Int) : Prop :=
  (ao = none ∧ a = none ∧ c = 0 ∧ A = []) ∨ (ao ≠ none ∧ ∃ G, a = some ⟨G, 0, none⟩ ∧ c = A.length + 3 ∧ lo ≤ G ∧ G < hi ∧ R64 W G (A ++ pad3 3))
def LnK (W : World) (lo hi : Nat) (ao a : Option Addr) (c : Nat) (L : List K) : Prop :=
  (ao = none ∧ a = none ∧ c = 0 ∧ L = []) ∨ (ao ≠ none ∧ ∃ G, a = some ⟨G, 0, none⟩ ∧ c = L.length + 3 ∧ lo ≤ G ∧ G < hi ∧ RK W G (L ++ padK3 3))
theorem LnI.same {W W' : World} {lo hi : Nat} {ao a : Option Addr} {c : Nat} {A : List Int} (h : LnI W lo hi ao a c A) (hs : ∀ G, lo ≤ G → G < hi → G < W.heap.size → W'.heap[G]? = W.heap[G]?) : LnI W' lo hi ao a c A := by
  rcases h with h | ⟨h0, G, h1, h2, h3, h4, h5⟩
  · exact .inl h
  · exact .inr ⟨h0, G, h1, h2, h3, h4, h5.same (hs G h3 h4 h5.lt)⟩
theorem LnK.same {W W' : World} {lo hi : Nat} {ao a : Option Addr} {c : Nat} {A : List K} (h : LnK W lo hi ao a c A) (hs : ∀ G, lo ≤ G → G < hi → G < W.heap.size → W'.heap[G]? = W.heap[G]?) : LnK W' lo hi ao a c A := by
  rcases h with h | ⟨h0, G, h1, h2, h3, h4, h5⟩
  · exact .inl h
  · exact .inr ⟨h0, G, h1, h2, h3, h4, h5.same (hs G h3 h4 h5.lt)⟩
theorem LnI.wide {W : World} {lo hi lo' hi' : Nat} {ao a : Option Addr} {c : Nat} {A : List Int} (h : LnI W lo hi ao a c A) (h1 : lo' ≤ lo) (h2 : hi ≤ hi') : LnI W lo' hi' ao a c A := by
  rcases h with h | ⟨h0, G, e1, e2, e3, e4, e5⟩
  · exact .inl h
  · exact .inr ⟨h0, G, e1, e2, by omega, by omega, e5⟩
theorem LnK.wide {W : World} {lo hi lo' hi' : Nat} {ao a : Option Addr} {c : Nat} {A : List K} (h : LnK W lo hi ao a c A) (h1 : lo' ≤ lo) (h2 : hi ≤ hi') : LnK W lo' hi' ao a c A := by
  rcases h with h | ⟨h0, G, e1, e2, e3, e4, e5⟩
  · exact .inl h
  · exact .inr ⟨h0, G, e1, e2, by omega, by omega, e5⟩
theorem setRow_grown {w : World} {G : Nat} {o : Array Value} {t : TypeId} {c : Array Value} (hG : G = w.heap.size) : Below w.heap.size w ((w.alloc (.cells c t)).setRow G o) := by
  have h1 : Below w.heap.size w (w.alloc (.cells c t)) := (Below.refl _ w).alloc (Nat.le_refl _) _
  have h2 : Below w.heap.size (w.alloc (.cells c t)) ((w.alloc (.cells c t)).setRow G o) := ⟨rfl, rfl, rfl, by simp [World.setRow], fun k hk => by simp [World.setRow, Array.getElem?_modify, show G ≠ k by omega]⟩
  exact h1.trans h2
theorem bset {B G i : Nat} {w wr : World} (hb : Below B w wr) (v : Value) (h : B ≤ G) : Below B w (wr.setCell ⟨G, i, none⟩ v) := by
  have h2 : Below B wr (wr.setCell ⟨G, i, none⟩ v) := ⟨rfl, rfl, rfl, by simp, fun k hk => heap_setCell_other wr ⟨G, i, none⟩ k v (by simp; omega)⟩
  exact hb.trans h2

set_option maxHeartbeats 2000000 in
set_option maxRecDepth 100000 in
theorem ints_any (w : World) (ao : Option Addr) (n cap : Nat) (L : List Int) (h : NumsAt w ao L) (hn : n = L.length) (hm : n ≤ 1000000) :
    Calls Try.prog 14 #[.slice ao n cap] w fun e w' => ∃ a c, e = .returned (.slice a n c) ∧ LnI w' w.heap.size w'.heap.size ao a c L ∧ Below w.heap.size w w' := by
  have HL : Hid (NumsAt w ao L) := h
  have HN : Hid (n = L.length) := hn
  clear h hn
  cases ao with
  | none =>
    have hnil := eqNil64 none n cap
    have HE : Hid (L = [] ∧ n = 0) := by
      have e := CellsAt.nil HL.out
      simp at e
      exact ⟨e, by rw [HN.out, e]; rfl⟩
    obtain ⟨rfl, rfl⟩ := HE.out
    go_enter Try.func14, Try.ntmps14
    go_wp2
    go_ret
    exact ⟨none, 0, rfl, .inl ⟨rfl, rfl, rfl, rfl⟩, Below.refl _ _⟩
  | some a =>
    have hnil := eqNil64 (some a) n cap
    simp only [Option.isNone_some] at hnil
    have hmk := make_nums (n + 3) ((n : Int) + 3) (by omega) (by omega)
    go_enter Try.func14, Try.ntmps14
    have HG0 : Hid (Grew w (w.alloc (.cells (cellsI (List.replicate (n + 3) 0)) 2))) := (Grew.refl _).alloc _
    have HR0 : Hid (R64 (w.alloc (.cells (cellsI (List.replicate (n + 3) 0)) 2)) w.heap.size (List.replicate (n + 3) 0)) := heap_alloc_new _ _ rfl
    have hcp := fun ty => run_copy_nums (w.alloc (.cells (cellsI (List.replicate (n + 3) 0)) 2)) ty w.heap.size (n + 3) (n + 3) a n cap L (List.replicate (n + 3) 0) HN.out (by simp) (by omega) HR0.out (HL.out.kept HG0.out.below) (L ++ pad3 0) (by rw [List.drop_replicate, show n + 3 - n = 3 by omega, pad3_zero])
    go_wp2_with fail
    have HB : Hid (Below w.heap.size w ((w.alloc (.cells (cellsI (List.replicate (n + 3) 0)) 2)).setRow w.heap.size (cellsI (L ++ pad3 0)))) := setRow_grown rfl
    have HO : Hid (R64 ((w.alloc (.cells (cellsI (List.replicate (n + 3) 0)) 2)).setRow w.heap.size (cellsI (L ++ pad3 0))) w.heap.size (L ++ pad3 0)) := HR0.out.setRow _
    generalize ((w.alloc (.cells (cellsI (List.replicate (n + 3) 0)) 2)).setRow w.heap.size (cellsI (L ++ pad3 0))) = W1 at *
    obtain ⟨G, hG⟩ : ∃ G, G = w.heap.size := ⟨_, rfl⟩
    rw [← hG] at HO ⊢
    have HG : Hid (G = w.heap.size) := hG
    clear hG hcp hmk HR0 HG0
    go_loopw [4] (fun x wr => ∃ m : Nat, n ≤ m ∧ m ≤ n + 3 ∧ x = .int .i64 (m : Int) ∧ Hid (R64 wr G (L ++ pad3 (m - n))) ∧ Hid (Below w.heap.size w wr)) (fun x _ => n + 3 - (intOf x).toNat)
    case atStart => exact ⟨n, Nat.le_refl _, by omega, rfl, by rw [Nat.sub_self]; exact HO, HB⟩
    case round =>
      clear HO HB
      obtain ⟨m, hm1, hm2, rfl, HO, HB⟩ := hrel
      by_cases hlt : m < n + 3
      · have hltm : (m : Int) < (n : Int) + 3 := by omega
        have e1 := HO.out.cell m (by have := HN.out; rw [List.length_append, pad3_len]; omega)
        have f1 := HO.out.frozen m
        have HO2 : Hid (R64 (wr.setCell ⟨G, m, none⟩ (.int .i64 (-31))) G (L ++ pad3 (m + 1 - n)) ∧ Below w.heap.size w (wr.setCell ⟨G, m, none⟩ (.int .i64 (-31)))) := by
          have h1 := HO.out.set m (-31)
          have e : (L ++ pad3 (m - n)).set m (-31) = L ++ pad3 (m + 1 - n) := by
            have := lentI_set L (m - n) (by omega)
            rw [← HN.out, show n + (m - n) = m by omega, show m - n + 1 = m + 1 - n by omega] at this; exact this
          rw [e] at h1
          exact ⟨h1, bset HB.out _ (Nat.le_of_eq HG.out.symm)⟩
        clear HO HB
        go_wp2_with fail
        exact ⟨⟨m + 1, by omega, by omega, by go_num, HO2.out.1, HO2.out.2⟩, by simp [intOf]; omega⟩
      · obtain rfl : m = n + 3 := by omega
        rw [show n + 3 - n = 3 by omega] at HO
        have HF : Hid (LnI wr w.heap.size wr.heap.size (some a) (some ⟨G, 0, none⟩) (n + 3) L) := by
          have := HG.out
          exact .inr ⟨by simp, G, rfl, by rw [← HN.out], by omega, HO.out.lt, HO.out⟩
        clear HO
        go_wp2
        go_ret
        exact ⟨_, _, rfl, HF.out, HB.out⟩

set_option maxHeartbeats 2000000 in
set_option maxRecDepth 100000 in
theorem keyList_any (w : World) (ao : Option Addr) (n cap : Nat) (L : List K) (h : KeysAt w ao L) (hn : n = L.length) (hm : n ≤ 1000000) :
    Calls Try.prog 15 #[.slice ao n cap] w fun e w' => ∃ a c, e = .returned (.slice a n c) ∧ LnK w' w.heap.size w'.heap.size ao a c L ∧ Below w.heap.size w w' := by
  have HL : Hid (KeysAt w ao L) := h
  have HN : Hid (n = L.length) := hn
  clear h hn
  cases ao with
  | none =>
    have hnil := eqNilK none n cap
    have HE : Hid (L = [] ∧ n = 0) := by
      have e := KeysAt.nil HL.out
      exact ⟨e, by rw [HN.out, e]; rfl⟩
    obtain ⟨rfl, rfl⟩ := HE.out
    go_enter Try.func15, Try.ntmps15
    go_wp2
    go_ret
    exact ⟨none, 0, rfl, .inl ⟨rfl, rfl, rfl, rfl⟩, Below.refl _ _⟩
  | some a =>
    have hnil := eqNilK (some a) n cap
    simp only [Option.isNone_some] at hnil
    have hmk := make_keys (n + 3) ((n : Int) + 3) (by omega) (by omega)
    go_enter Try.func15, Try.ntmps15
    have HG0 : Hid (Grew w (w.alloc (.cells (cks (List.replicate (n + 3) (0, 0))).toArray 47))) := (Grew.refl _).alloc _
    have HR0 : Hid (RK (w.alloc (.cells (cks (List.replicate (n + 3) (0, 0))).toArray 47)) w.heap.size (List.replicate (n + 3) (0, 0))) := heap_alloc_new _ _ rfl
    have hcp := fun ty => run_copy_keys (w.alloc (.cells (cks (List.replicate (n + 3) (0, 0))).toArray 47)) ty w.heap.size (n + 3) (n + 3) a n cap L (List.replicate (n + 3) (0, 0)) HN.out (by simp) (by omega) HR0.out (HL.out.kept HG0.out.below) (L ++ padK3 0) (by rw [List.drop_replicate, show n + 3 - n = 3 by omega, padK3_zero])
    go_wp2_with fail
    have HB : Hid (Below w.heap.size w ((w.alloc (.cells (cks (List.replicate (n + 3) (0, 0))).toArray 47)).setRow w.heap.size (cks (L ++ padK3 0)).toArray)) := setRow_grown rfl
    have HO : Hid (RK ((w.alloc (.cells (cks (List.replicate (n + 3) (0, 0))).toArray 47)).setRow w.heap.size (cks (L ++ padK3 0)).toArray) w.heap.size (L ++ padK3 0)) := HR0.out.setRow _
    generalize ((w.alloc (.cells (cks (List.replicate (n + 3) (0, 0))).toArray 47)).setRow w.heap.size (cks (L ++ padK3 0)).toArray) = W1 at *
    obtain ⟨G, hG⟩ : ∃ G, G = w.heap.size := ⟨_, rfl⟩
    rw [← hG] at HO ⊢
    have HG : Hid (G = w.heap.size) := hG
    clear hG hcp hmk HR0 HG0
    go_loopw [4] (fun x wr => ∃ m : Nat, n ≤ m ∧ m ≤ n + 3 ∧ x = .int .i64 (m : Int) ∧ Hid (RK wr G (L ++ padK3 (m - n))) ∧ Hid (Below w.heap.size w wr)) (fun x _ => n + 3 - (intOf x).toNat)
    case atStart => exact ⟨n, Nat.le_refl _, by omega, rfl, by rw [Nat.sub_self]; exact HO, HB⟩
    case round =>
      clear HO HB
      obtain ⟨m, hm1, hm2, rfl, HO, HB⟩ := hrel
      by_cases hlt : m < n + 3
      · have hltm : (m : Int) < (n : Int) + 3 := by omega
        have hml : m < (L ++ padK3 (m - n)).length := by have := HN.out; rw [List.length_append, padK3_len]; omega
        obtain ⟨e1, e2⟩ := HO.out.cell m hml
        have f1 := HO.out.frozen (m * 2)
        have f2 := HO.out.frozen (m * 2 + 1)
        have HO2 : Hid (RK ((wr.setCell ⟨G, m * 2, none⟩ (.int .i64 (-31))).setCell ⟨G, m * 2 + 1, none⟩ (.int .i64 0)) G (L ++ padK3 (m + 1 - n)) ∧ Below w.heap.size w ((wr.setCell ⟨G, m * 2, none⟩ (.int .i64 (-31))).setCell ⟨G, m * 2 + 1, none⟩ (.int .i64 0))) := by
          have h1 := HO.out.set m (-31) 0 hml
          have e : (L ++ padK3 (m - n)).set m (-31, 0) = L ++ padK3 (m + 1 - n) := by
            have := lentK_set L (m - n) (by omega)
            rw [← HN.out, show n + (m - n) = m by omega, show m - n + 1 = m + 1 - n by omega] at this; exact this
          rw [e] at h1
          exact ⟨h1, bset (bset HB.out _ (Nat.le_of_eq HG.out.symm)) _ (Nat.le_of_eq HG.out.symm)⟩
        clear HO HB hml
        go_wp2_with fail
        exact ⟨⟨m + 1, by omega, by omega, by go_num, HO2.out.1, HO2.out.2⟩, by simp [intOf]; omega⟩
      · obtain rfl : m = n + 3 := by omega
        rw [show n + 3 - n = 3 by omega] at HO
        have HF : Hid (LnK wr w.heap.size wr.heap.size (some a) (some ⟨G, 0, none⟩) (n + 3) L) := by
          have := HG.out
          exact .inr ⟨by simp, G, rfl, by rw [← HN.out], by omega, HO.out.lt, HO.out⟩
        clear HO
        go_wp2
        go_ret
        exact ⟨_, _, rfl, HF.out, HB.out⟩
end Go.Proofs.Ytglodmmmcdjgcaa.Kk
/-
  THE SHELF OF LISTS THAT WERE HANDED OUT (layer 6): what lies where.
-/
namespace Go.Proofs.Ytglodmmmcdjgcaa.Kk
open Go.RowKit Go.Sort

/-- a list that was handed out: its block, its length; it is full -/
abbrev It := Option Nat × Nat
def itv (x : It) : Value := .slice (x.1.map fun g => ⟨g, 0, none⟩) x.2 x.2
/-- its row -/
def Rw (W : World) (T : TypeId) (sz lo hi : Nat) (x : It) : Prop := match x.1 with
  | none => x.2 = 0
  | some g => lo ≤ g ∧ g < hi ∧ ∃ cur, W.heap[g]? = some (.cells cur T (0, 0)) ∧ cur.size = x.2 * sz
theorem Rw.at {W : World} {T : TypeId} {sz lo hi g n : Nat} (h : Rw W T sz lo hi (some g, n)) : lo ≤ g ∧ g < hi ∧ ∃ cur, W.heap[g]? = some (.cells cur T (0, 0)) ∧ cur.size = n * sz := h
theorem Rw.below {W W' : World} {T : TypeId} {sz lo hi B : Nat} {x : It} (h : Rw W T sz lo hi x) (hb : Below B W W') (hB : hi ≤ B) : Rw W' T sz lo hi x := by
  obtain ⟨o, n⟩ := x
  cases o with
  | none => exact h
  | some g =>
    obtain ⟨h1, h2, cur, h3, h4⟩ := h.at
    exact ⟨h1, h2, cur, (hb.block g (by omega)).trans h3, h4⟩
theorem Rw.wide {W : World} {T : TypeId} {sz lo hi hi' : Nat} {x : It} (h : Rw W T sz lo hi x) (hh : hi ≤ hi') : Rw W T sz lo hi' x := by
  obtain ⟨o, n⟩ := x
  cases o with
  | none => exact h
  | some g =>
    obtain ⟨h1, h2, h3⟩ := h.at
    exact ⟨h1, by omega, h3⟩
theorem Rw.set {W : World} {T : TypeId} {sz lo hi : Nat} {x : It} (h : Rw W T sz lo hi x) (a : Nat) (j : Nat) (v : Value) : Rw (W.setCell ⟨a, j, none⟩ v) T sz lo hi x := by
  obtain ⟨o, n⟩ := x
  cases o with
  | none => exact h
  | some g =>
    obtain ⟨h1, h2, cur, h3, h4⟩ := h.at
    by_cases e : g = a
    · subst e
      exact ⟨h1, h2, _, heap_setCell_same W g j _ _ v h3, by simpa using h4⟩
    · exact ⟨h1, h2, cur, (heap_setCell_other W ⟨a, j, none⟩ g v e).trans h3, h4⟩
/-- their blocks rise -/
def Rs (L : List It) : Prop := L.Pairwise fun x y => ∀ g h, x.1 = some g → y.1 = some h → g < h
/-- a row of lists -/
def OwnS (T : TypeId) (w : World) (base : Nat) (v : Value) (L : List It) : Prop := w.ownsRow base T 1 v L.length (L.map itv)
theorem OwnS.nil (T : TypeId) (w : World) (base : Nat) : OwnS T w base (.slice none 0 0) [] := World.ownsRow_nil _ _ _ _
theorem OwnS.lt {T : TypeId} {w : World} {base : Nat} {v : Value} {L : List It} (h : OwnS T w base v L) : ∀ k, v.ownBlock = some k → base ≤ k ∧ k < w.heap.size := World.ownsRow.lt h
theorem OwnS.same {T : TypeId} {w w1 : World} {base : Nat} {v : Value} {L : List It} (h : OwnS T w base v L) (hs : ∀ g, v.ownBlock = some g → w1.heap[g]? = w.heap[g]?) : OwnS T w1 base v L := by
  obtain ⟨hl, h⟩ := h
  refine ⟨hl, ?_⟩
  rcases h with h | ⟨g, cap, cur, rfl, hg, hh, r⟩
  · exact .inl h
  · exact .inr ⟨g, cap, cur, rfl, hg, (hs g rfl).trans hh, r⟩
theorem OwnS.kept {T : TypeId} {w w1 : World} {base : Nat} {v : Value} {L : List It} (h : OwnS T w base v L) (hb : Below w.heap.size w w1) : OwnS T w1 base v L := h.same fun g hg => hb.block g (h.lt g hg).2
theorem OwnS.typed {T : TypeId} {w : World} {base : Nat} {v : Value} {L : List It} (h : OwnS T w base v L) {g : Nat} (hg : v.ownBlock = some g) : ∃ cur, w.heap[g]? = some (.cells cur T (0, 0)) := by
  obtain ⟨hl, h⟩ := h
  rcases h with ⟨rfl, _⟩ | ⟨g', cap, cur, rfl, _, hh, _⟩
  · cases hg
  · cases hg; exact ⟨cur, hh⟩
theorem OwnS.el {T : TypeId} {w : World} {base n c : Nat} {ao : Option Addr} {L : List It} (h : OwnS T w base (.slice ao n c) L) (i : Nat) (hi : i < L.length) : ∃ hg, ao = some ⟨hg, 0, none⟩ ∧ w.cell? ⟨hg, i, none⟩ = some (itv L[i]) := by
  obtain ⟨hl, h⟩ := h
  rcases h with ⟨h1, h2⟩ | ⟨g, cap, cur, e, hb, hg, hn, hm, hs, ht⟩
  · omega
  · simp only [Value.slice.injEq] at e
    obtain ⟨rfl, _, _⟩ := e
    refine ⟨g, rfl, ?_⟩
    have e2 := World.ownsRow.cellAt (w := w) (base := base) (e := T) (size := 1) (g := g) (cap := cap) (n := L.length) (xs := L.map itv) ⟨hl, .inr ⟨g, cap, cur, rfl, hb, hg, hn, hm, hs, ht⟩⟩ i (by omega)
    rw [e2]
    simp [hi]
theorem OwnS.slice {T : TypeId} {w : World} {base : Nat} {v : Value} {L : List It} (h : OwnS T w base v L) : ∃ ao cap, v = .slice ao L.length cap := by
  obtain ⟨hl, h⟩ := h
  rcases h with ⟨rfl, h2⟩ | ⟨g, cap, cur, e, _⟩
  · exact ⟨none, 0, by rw [h2]⟩
  · exact ⟨_, cap, e⟩
/-- a kind of elements -/
structure El (TS TE : TypeId) (z : Value) (sz by_ : Nat) : Prop where
  u : Try.prog.underlying TS = some (.slice TE)
  i : (Try.prog.info? TE).map (fun i => (i.zero, i.size, i.bytes)) = some (some z, sz, by_)
  c : z.cells.size = sz
  p : 0 < sz
  b : by_ ≤ 80
theorem elK : El 30 47 (.agg #[.int .i64 0, .int .i64 0]) 2 16 := ⟨Try.underlying30, infoK, rfl, by decide, by decide⟩
theorem elN : El 41 2 (.int .i64 0) 1 8 := ⟨Try.underlying41, info64, rfl, by decide, by decide⟩
theorem elT : El 22 43 (.agg #[.int .i64 0, .slice none 0 0, .slice none 0 0, .slice none 0 0]) 4 80 := ⟨Try.underlying22, infoT, rfl, by decide, by decide⟩
theorem elSK : El 26 30 (.slice none 0 0) 1 24 := ⟨Try.underlying26, by kernel_rfl, rfl, by decide, by decide⟩
theorem elSN : El 33 41 (.slice none 0 0) 1 24 := ⟨Try.underlying33, by kernel_rfl, rfl, by decide, by decide⟩
theorem elST : El 32 22 (.slice none 0 0) 1 24 := ⟨Try.underlying32, by kernel_rfl, rfl, by decide, by decide⟩
/-- append to a row of the call's own -/
theorem run_append_E {TS TE : TypeId} {z : Value} {sz by_ : Nat} (E : El TS TE z sz by_) {w : World} (ty : TypeId) (base : Nat) (v : Value) (n : Nat) (xs : List Value) (hown : w.ownsRow base TE sz v n xs) (a : Addr) (m c : Nat) (news : List Value) (hl : news.length = m * sz) (hnews : ∀ j u, news[j]? = some u → w.cell? (a.add j) = some u) (h1 : ∀ u ∈ news, u.oneCell' = true) (hn : n + m ≤ 1000000000) (hbase : base ≤ w.heap.size) :
    ∃ v' w', (Builtin.append_ #[TS, TS] ty #[v, .slice (some a) m c]).run Try.prog w = .ok v' w' ∧ w'.ownsRow base TE sz v' (n + m) (xs ++ news) ∧ w.grownBy w' v.ownBlock ∧ (v'.ownBlock = v.ownBlock ∨ v'.ownBlock = some w.heap.size) := by
  obtain ⟨i0, hi, hz0, hz1, hz2⟩ := info_parts E.i
  have hb := E.b
  have hm : (n + m) * by_ ≤ 1000000000 * 80 := Nat.mul_le_mul hn hb
  obtain ⟨v', w', hr, h2, h3, _, h5⟩ := run_append_own_at (P := Try.prog) (w := w) base TS ty TE i0 z sz by_ E.u hi hz0 hz1 hz2 E.c E.p v n xs hown a m c news hl hnews h1 (by unfold maxLen; omega) (by omega) hbase
  exact ⟨v', w', hr, h2, h3, h5⟩
/-- append to a list that is full: a new row -/
theorem run_append_F {TS TE : TypeId} {z : Value} {sz by_ : Nat} (E : El TS TE z sz by_) {w : World} (ty : TypeId) (lo hi : Nat) (x : It) (hx : Rw w TE sz lo hi x) (a : Addr) (m c : Nat) (news : List Value) (hl : news.length = m * sz) (hnews : ∀ j u, news[j]? = some u → w.cell? (a.add j) = some u) (h1 : ∀ u ∈ news, u.oneCell' = true) (hm0 : 0 < m) (hn : x.2 + m ≤ 1000000000) :
    ∃ v' w' xs, (Builtin.append_ #[TS, TS] ty #[itv x, .slice (some a) m c]).run Try.prog w = .ok v' w' ∧ w'.ownsRow w.heap.size TE sz v' (x.2 + m) xs ∧ w.grownBy w' none := by
  obtain ⟨o, n⟩ := x
  cases o with
  | none =>
    have h0 : n = 0 := hx
    subst h0
    obtain ⟨v', w', hr, h2, h3, _⟩ := run_append_E E (w := w) ty w.heap.size (.slice none 0 0) 0 [] (World.ownsRow_nil _ _ _ _) a m c news hl hnews h1 hn (Nat.le_refl _)
    exact ⟨v', w', _, hr, h2, h3⟩
  | some g =>
    obtain ⟨h2, h3, cur, h4, h5⟩ := hx.at
    obtain ⟨i0, hi', hz0, hz1, hz2⟩ := info_parts E.i
    have hb := E.b
    have hn' : n + m ≤ 1000000000 := hn
    have hm : (n + m) * by_ ≤ 1000000000 * 80 := Nat.mul_le_mul hn' hb
    have hfit : Builtin.nextslicecap (n + m) n * i0.bytes ≤ 281474976710656 := growslice_fits (by omega) (by rw [hz2]; omega)
    have hr := run_append_grow (P := Try.prog) w TS ty TE i0 z E.u hi' hz0 ⟨g, 0, none⟩ n n cur.toList (by rw [hz1]; simpa using h5)
      (by intro j u hu; rw [addr_add, World.cell?, h4, Nat.zero_add]; simpa using hu) a m c news (by rw [hz1]; exact hl) hnews (by omega) (by omega) hfit
    have hlen : (cur.toList ++ news).length = (n + m) * sz := by rw [List.length_append, hl, Nat.add_mul]; simp [h5]
    refine ⟨_, _, cur.toList ++ news, hr, ⟨hlen, .inr ⟨w.heap.size, _, _, rfl, Nat.le_refl _, Go.heap_alloc_new w.drew _, grownCap_ge w (n + m) n TE, grownCap_le_maxLen w (n + m) n TE (by unfold maxLen; omega), ?_, ?_⟩⟩, ⟨rfl, rfl, rfl, by simp, fun k hk _ => Go.heap_alloc_old w.drew _ hk⟩⟩
    · have hge := grownCap_ge w (n + m) n TE
      simp only [Array.size_append, List.size_toArray, size_zeroCells, E.c, hl]
      rw [show cur.toList.length = n * sz by simpa using h5]
      generalize grownCap w (n + m) n TE = G at *
      rw [← Nat.add_mul, ← Nat.add_mul, show n + m + (G - (n + m)) = G by omega]
    · simp only [Array.toList_append, List.append_assoc]
      rw [← List.append_assoc, ← hlen]
      exact List.take_left
/-- the operation, whatever the kind -/
theorem wpL_app {w : World} {ops : Array Oper} {rest : List Oper} {o : Oper} {a : Act} {Q : Exit → Act → World → Prop} (hgd : o.guard = none) (s x : Operand) (TS : TypeId)
    (ho : o.op = .call { callee := .builtin .append, args := #[s, x], argTypes := #[TS, TS] }) (v u : Value) (hs : a.eval s = v) (hx : a.eval x = u) {post : Value → World → Prop}
    (hr : ∀ ty, ∃ v' w', (Builtin.append_ #[TS, TS] ty #[v, u]).run Try.prog w = .ok v' w' ∧ post v' w') (h : ∀ v' w', post v' w' → wpList Try.prog ops Q rest (a.put o.dst v') w') : wpList Try.prog ops Q (o :: rest) a w := by
  obtain ⟨v', w', hr, h2⟩ := hr o.type
  refine wpList_plain hgd fun K hK' => ?_
  unfold Oper.wp
  simp [execOp, ho, resolve, invoke, builtin, hs, hx, hr, Result.andThen]
  exact hK' _ _ (h v' w' h2)
theorem step_app {w : World} {ops : Array Oper} {o : Oper} {a : Act} {K' : Act → World → Prop} {Q : Exit → Act → World → Prop} {E : Prop} (hgd : o.guard = none) (s x : Operand) (TS : TypeId)
    (ho : o.op = .call { callee := .builtin .append, args := #[s, x], argTypes := #[TS, TS] }) (v u : Value) (hs : a.eval s = v) (hx : a.eval x = u) {post : Value → World → Prop}
    (hr : ∀ ty, ∃ v' w', (Builtin.append_ #[TS, TS] ty #[v, u]).run Try.prog w = .ok v' w' ∧ post v' w') (h : ∀ v' w', post v' w' → K' (a.put o.dst v') w') :
    if Region.wanted o (yielded ops a.tmps) = true then Oper.wp Try.prog o a w K' Q else E := by
  have hw : Region.wanted o (yielded ops a.tmps) = true := by simp [Region.wanted, hgd]
  rw [if_pos hw]
  obtain ⟨v', w', hr, h2⟩ := hr o.type
  unfold Oper.wp execOp
  simp only [ho, resolve, invoke, builtin, Sem.run_bind, Sem.run_pure, Result.andThen_ok, List.map_toArray, List.map_cons, List.map_nil, hs, hx, hr]
  exact h v' w' h2
/-- THE SHELF -/
structure SH (w0 W : World) (B : Nat) (aB : Option Addr) (cB : Nat) (aK : Option Addr) (cK : Nat) (aI : Option Addr) (cI : Nat) (Bs Ks Is : List It) : Prop where
  bx : W.heap[B]? = some (.cells #[.slice aB Bs.length cB, .slice aK Ks.length cK, .slice aI Is.length cI, .slice none 0 0, .slice none 0 0] 37 (0, 0))
  oB : OwnS 22 W (B + 1) (.slice aB Bs.length cB) Bs
  oK : OwnS 30 W (B + 1) (.slice aK Ks.length cK) Ks
  oI : OwnS 41 W (B + 1) (.slice aI Is.length cI) Is
  rB : ∀ x ∈ Bs, Rw W 43 4 w0.heap.size B x
  rK : ∀ x ∈ Ks, Rw W 47 2 w0.heap.size B x
  rI : ∀ x ∈ Is, Rw W 2 1 w0.heap.size B x
  sB : Rs Bs
  sK : Rs Ks
  sI : Rs Is
  lB : ∀ x ∈ Bs, x.2 ≤ 64
  lK : ∀ x ∈ Ks, x.2 ≤ 64
  lI : ∀ x ∈ Is, x.2 ≤ 64
  n : Bs.length ≤ 64 ∧ Ks.length ≤ 1000 ∧ Is.length ≤ 1000
  bel : Below w0.heap.size w0 W
  ge : w0.heap.size ≤ B
section
variable {w0 W W' : World} {B : Nat} {aB : Option Addr} {cB : Nat} {aK : Option Addr} {cK : Nat} {aI : Option Addr} {cI : Nat} {Bs Ks Is : List It}
theorem SH.lt (h : SH w0 W B aB cB aK cK aI cI Bs Ks Is) : B < W.heap.size := (Array.getElem?_eq_some_iff.1 h.bx).1
theorem SH.kept (h : SH w0 W B aB cB aK cK aI cI Bs Ks Is) (hb : Below W.heap.size W W') : SH w0 W' B aB cB aK cK aI cI Bs Ks Is :=
  have hB := Nat.le_of_lt h.lt
  ⟨(hb.block _ h.lt).trans h.bx, h.oB.kept hb, h.oK.kept hb, h.oI.kept hb, fun x hx => (h.rB x hx).below hb hB, fun x hx => (h.rK x hx).below hb hB, fun x hx => (h.rI x hx).below hb hB, h.sB, h.sK, h.sI, h.lB, h.lK, h.lI, h.n, h.bel.trans (hb.mono h.bel.size), h.ge⟩
theorem SH.cells (h : SH w0 W B aB cB aK cK aI cI Bs Ks Is) : W.cell? ⟨B, 0, none⟩ = some (.slice aB Bs.length cB) ∧ W.cell? ⟨B, 1, none⟩ = some (.slice aK Ks.length cK) ∧ W.cell? ⟨B, 2, none⟩ = some (.slice aI Is.length cI) ∧ W.cell? ⟨B, 3, none⟩ = some (.slice none 0 0) ∧ W.cell? ⟨B, 4, none⟩ = some (.slice none 0 0) := by
  refine ⟨?_, ?_, ?_, ?_, ?_⟩ <;> simp [World.cell?, h.bx]
/-- a store into a list's row -/
theorem SH.set (h : SH w0 W B aB cB aK cK aI cI Bs Ks Is) (g j : Nat) (v : Value) (h1 : w0.heap.size ≤ g) (h2 : g < B) : SH w0 (W.setCell ⟨g, j, none⟩ v) B aB cB aK cK aI cI Bs Ks Is := by
  have hs : ∀ k, B ≤ k → (W.setCell ⟨g, j, none⟩ v).heap[k]? = W.heap[k]? := fun k hk => heap_setCell_other W ⟨g, j, none⟩ k v (by show k ≠ g; omega)
  exact ⟨(hs B (Nat.le_refl _)).trans h.bx, h.oB.same fun k hk => hs k (by have := (h.oB.lt k hk).1; omega), h.oK.same fun k hk => hs k (by have := (h.oK.lt k hk).1; omega), h.oI.same fun k hk => hs k (by have := (h.oI.lt k hk).1; omega), fun x hx => (h.rB x hx).set _ _ _, fun x hx => (h.rK x hx).set _ _ _, fun x hx => (h.rI x hx).set _ _ _, h.sB, h.sK, h.sI, h.lB, h.lK, h.lI, h.n, bset h.bel _ h1, h.ge⟩
end
theorem Rs.ne {L : List It} (h : Rs L) {i j : Nat} (hi : i < L.length) (hj : j < L.length) (hij : i ≠ j) {g k : Nat} (e1 : L[i].1 = some g) (e2 : L[j].1 = some k) : g ≠ k := by
  rcases Nat.lt_or_ge i j with h1 | h1
  · have := (List.pairwise_iff_getElem.1 h) i j hi hj h1 g k e1 e2; omega
  · have := (List.pairwise_iff_getElem.1 h) j i hj hi (by omega) k g e2 e1; omega
theorem Rs.snoc {L : List It} {x : It} (h : Rs L) (hx : ∀ y ∈ L, ∀ g k, y.1 = some g → x.1 = some k → g < k) : Rs (L ++ [x]) := by
  unfold Rs at *
  rw [List.pairwise_append]
  exact ⟨h, List.pairwise_singleton _ _, fun y hy z hz => by simp at hz; subst hz; exact hx y hy⟩
theorem ne_of_type {W : World} {g k : Nat} {c d : Array Value} {T U : TypeId} (h1 : W.heap[g]? = some (.cells c T (0, 0))) (h2 : W.heap[k]? = some (.cells d U (0, 0))) (hne : T ≠ U) : g ≠ k := fun e => by
  subst e; rw [h1] at h2; simp at h2; exact hne h2.2
end Go.Proofs.Ytglodmmmcdjgcaa.Kk
