/-
  lent, back: lists that are lent.
-/
import Derived.Test.YtibdogniiglcjaaGreatKCompact
import Derived.Test.YtibdogniiglcjaaGreatKLst
import Derived.Laws.CopyRow
import Derived.Laws.Cover3
namespace Go.Proofs.YtibdogniiglcjaaGreat
open Go.RowKit Go.Sort

theorem cks_zero : ∀ c : Nat, cks (List.replicate c (0, 0)) = List.replicate (c * 2) (.int .i64 0)
  | 0 => rfl
  | c + 1 => by
    rw [List.replicate_succ, show (c + 1) * 2 = c * 2 + 1 + 1 by omega, List.replicate_succ, List.replicate_succ]
    simp only [cks, cks_zero c]
theorem toList_madeCells_two (z : Value) (n : Nat) : (madeCells #[z, z] n).toList = List.replicate n z := by
  apply List.ext_getElem?
  intro j
  by_cases hj : j < n
  · rcases Nat.mod_two_eq_zero_or_one j with h | h <;> simp [madeCells, hj, h]
  · simp [madeCells, hj]
theorem make_keys (c : Nat) (C : Int) (hC : C = c) (hc : c * 16 ≤ 281474976710656) (u : World) : (Instr.makeSlice 54 (.int .i64 C) (.int .i64 C)).run Tryz.prog u =
    .ok (.slice (some ⟨u.heap.size, 0, none⟩) c c) (u.alloc (.cells (cks (List.replicate c (0, 0))).toArray 47)) := by
  subst hC
  obtain ⟨i0, hi, hz0, hz1, hz2⟩ := info_parts infoK
  have h := run_make (P := Tryz.prog) u 54 47 i0 (.agg #[.int .i64 0, .int .i64 0]) Tryz.underlying54 hi hz0 .i64 .i64 (c : Int) (c : Int) (by omega) (Int.le_refl _) (by rw [hz2]; omega) (by omega)
  have e : madeCells (Value.agg #[.int .i64 0, .int .i64 0]).cells (c * 2) = (cks (List.replicate c (0, 0))).toArray := by
    apply Array.ext'
    rw [cks_zero]
    exact toList_madeCells_two _ _
  rw [hz1, Int.toNat_natCast, e] at h
  exact h
/-- a row that is known whole -/
theorem OwnK.of_row {w : World} {base g : Nat} {Z : List K} (hb : base ≤ g) (hg : w.heap[g]? = some (.cells (cks Z).toArray 47 (0, 0))) (hc : Z.length ≤ maxLen) : OwnK w base (own g Z.length Z.length) Z :=
  ⟨cks_length Z, .inr ⟨g, Z.length, _, rfl, hb, hg, Nat.le_refl _, hc, by simp [cks_length], by simp [cks_length, List.take_of_length_le]⟩⟩
theorem cks_drop : ∀ (n : Nat) (Z : List K), (cks Z).drop (n * 2) = cks (Z.drop n)
  | 0, Z => by simp
  | n + 1, [] => by simp [cks]
  | n + 1, z :: Z => by
    rw [show (n + 1) * 2 = n * 2 + 1 + 1 by omega]
    simp only [cks, List.drop_succ_cons, cks_drop n Z]
theorem run_copy_keys (w : World) (ty : TypeId) (g dLen dCap : Nat) (a : Addr) (n c : Nat) (L Z : List K) (hn : n = L.length) (hz : dLen = Z.length) (hle : n ≤ dLen)
    (hg : w.heap[g]? = some (.cells (cks Z).toArray 47 (0, 0))) (hsrc : KeysAt w (some a) L) (M : List K) (hM : L ++ Z.drop n = M) :
    (Builtin.copy_ #[54, 54] ty #[.slice (some ⟨g, 0, none⟩) dLen dCap, .slice (some a) n c]).run Tryz.prog w = .ok (goInt n) (w.setRow g (cks M).toArray) := by
  subst hM
  have hl := run_loadCells_list (P := Tryz.prog) w a (cks L) (by
    intro j u hu
    rcases hsrc with h0 | ⟨b, off, e, hc⟩
    · subst h0; simp [cks] at hu
    · cases e; rw [addr_add]; exact hc j u hu)
  have hst := run_storeCells_at Tryz.prog g 0 47 (cks L) 0 (cks Z).toArray w hg (by simp [cks_length]; omega) (cks_one L)
  obtain ⟨i0, hi, hz0, hz1, hz2⟩ := info_parts infoK
  have e1 : (cks L).length = n * 2 := by rw [cks_length, hn]
  have e2 : Nat.min n dLen = n := Nat.min_eq_left hle
  rw [e1] at hl hst
  simp only [Nat.add_zero, Nat.zero_add, List.take_zero, List.nil_append, cks_drop, ← cks_append] at hst
  simp [Builtin.copy_, run_underlying Tryz.underlying54, Builtin.lenOf, Builtin.firstCells, sizeOf, typeInfo, hi, hz1, e2, hl, hst]

theorem run_eqNil (ao : Option Addr) (n c : Nat) (w : World) : (binOp .eql 54 (.slice ao n c) (.slice none 0 0)).run Tryz.prog w = .ok (.bool ao.isNone) w := by
  simp only [binOp]
  simp [run_equal_slice_nil w 54 47 ao n c Tryz.underlying54]
/-- the keys behind a lent list's end, k of them laid -/
def padK (k : Nat) : List K := (List.range 5).map fun j => if j < k then (-9, (j : Int)) else (0, 0)
theorem padK_set : ∀ k, k < 5 → (padK k).set k (-9, (k : Int)) = padK (k + 1) := by decide
theorem padK_len (k : Nat) : (padK k).length = 5 := by simp [padK]
theorem padK_zero : List.replicate 5 ((0, 0) : K) = padK 0 := by decide
theorem padK_at : ∀ k, k < 5 → kd (padK 5) k = (-9, (k : Int)) := by decide
theorem lent_set (L : List K) (k : Nat) (hk : k < 5) : (L ++ padK k).set (L.length + k) (-9, (k : Int)) = L ++ padK (k + 1) := by
  rw [List.set_append_right _ _ (by omega), show L.length + k - L.length = k by omega, padK_set k hk]
theorem setRow_below {w : World} {g B : Nat} {o : Array Value} {t : TypeId} {c : Array Value} (hB : B ≤ w.heap.size) (hg : B ≤ g) : Below B w ((w.alloc (.cells c t)).setRow g o) :=
  ((Below.refl B w).alloc hB _).trans ⟨rfl, rfl, rfl, by simp [World.setRow], fun k hk => setRow_other _ g k o (by omega)⟩

theorem OwnK.lst_at {w : World} {base g n cap : Nat} {L : List K} (h : OwnK w base (own g n cap) L) : KeysAt w (some ⟨g, 0, none⟩) L := by
  rcases h.shape with ⟨e, _⟩ | ⟨g', c', e, _, _, _, _, hk⟩
  · cases e
  · cases e; exact hk
theorem lent_part {w : World} {base g n : Nat} {L : List K} (hn : n = L.length) (h : OwnK w base (own g (n + 5) (n + 5)) (L ++ padK 5)) : OwnK w base (own g n (n + 5)) L := by
  have := h.prefix n (by omega)
  rwa [hn, List.take_left, ← hn] at this

theorem grown_trans {a b c : World} {g : Option Nat} (h : a.grownBy b g) (h' : b.grownBy c g) : a.grownBy c g :=
  ⟨h'.os.trans h.os, h'.tape.trans h.tape, h'.output.trans h.output, Nat.le_trans h.size h'.size, fun k hk hne => (h'.block k (Nat.lt_of_lt_of_le hk h.size) hne).trans (h.block k hk hne)⟩
theorem lent_at {w : World} {base g n : Nat} {L : List K} (hn : n = L.length) (h : OwnK w base (own g (n + 5) (n + 5)) (L ++ padK 5)) (k : Nat) (hk : k < 5) :
    w.cell? ⟨g, (n + k) * 2, none⟩ = some (.int .i64 (-9)) ∧ w.cell? ⟨g, (n + k) * 2 + 1, none⟩ = some (.int .i64 (k : Int)) := by
  have h1 := h.at (n + k) (by omega)
  have e : kd (L ++ padK 5) (n + k) = (-9, (k : Int)) := by rw [hn, kd_right L (padK 5) k (by rw [padK_len]; exact hk), padK_at k hk]
  rwa [e] at h1

/-- A LIST THAT IS LENT -/
def Lent (w : World) (base : Nat) (a : Option Addr) (n c : Nat) (ao : Option Addr) (L : List K) : Prop :=
  (a = none ∧ n = 0 ∧ c = 0 ∧ ao = none ∧ L = []) ∨ ∃ g, a = some ⟨g, 0, none⟩ ∧ c = n + 5 ∧ ao ≠ none ∧ n = L.length ∧ OwnK w base (own g (n + 5) (n + 5)) (L ++ padK 5)
theorem Lent.lst {w : World} {base n c : Nat} {a ao : Option Addr} {L : List K} (h : Lent w base a n c ao L) : Lst w a n c L := by
  rcases h with ⟨rfl, rfl, rfl, _, rfl⟩ | ⟨g, rfl, rfl, _, hn, h⟩
  · exact ⟨rfl, .inl rfl, fun _ => rfl, Nat.le_refl _⟩
  · exact ⟨hn, (lent_part hn h).lst_at, by simp, by omega⟩
theorem Lent.flat {w : World} {base n c : Nat} {a ao : Option Addr} {L : List K} (h : Lent w base a n c ao L) : Flat a := by
  rcases h with ⟨rfl, _⟩ | ⟨g, rfl, _⟩
  · intro a e; cases e
  · intro a e; cases e; rfl
theorem Lent.lt {w : World} {base n c : Nat} {a ao : Option Addr} {L : List K} (h : Lent w base a n c ao L) : ∀ x, a = some x → base ≤ x.block ∧ x.block < w.heap.size := by
  intro x e
  rcases h with ⟨rfl, _⟩ | ⟨g, rfl, _, _, _, h⟩
  · cases e
  · cases e; exact h.lt _ rfl
theorem Lent.kept {w w1 : World} {base n c : Nat} {a ao : Option Addr} {L : List K} (h : Lent w base a n c ao L) (hb : Below w.heap.size w w1) : Lent w1 base a n c ao L := by
  rcases h with h | ⟨g, h1, h2, h3, h4, h⟩
  · exact .inl h
  · exact .inr ⟨g, h1, h2, h3, h4, h.kept hb⟩
end Go.Proofs.YtibdogniiglcjaaGreat
