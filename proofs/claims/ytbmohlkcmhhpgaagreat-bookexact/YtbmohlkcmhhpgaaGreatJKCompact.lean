import Derived.Test.YtbmohlkcmhhpgaaGreatKRises
import Derived.Test.YtbmohlkcmhhpgaaGreatKNe
import Derived.Shelf.GgSortFunc.RowK
import Derived.Laws.IdiomCopy
import Derived.Laws.OwnMore
import Derived.Laws.CopyRow
import Derived.Laws.Cover3
/-
  A ROW OF KEYS OF THE CALL's OWN, WRITTEN INTO; slices.Compact AT []api.Key.
-/
namespace Go.Proofs.YtbmohlkcmhhpgaaGreat
open Go.RowKit Go.Sort

theorem cks_set (M : List K) (i : Nat) (k : K) (h : i < M.length) : cks (M.set i k) = ((cks M).set (i * 2) (.int .i64 k.1)).set (i * 2 + 1) (.int .i64 k.2) := by
  induction M generalizing i with
  | nil => simp at h
  | cons m M ih =>
    cases i with
    | zero => simp [cks]
    | succ i =>
      have := ih i (by simp at h; omega)
      rw [List.set_cons_succ, show (i + 1) * 2 = i * 2 + 1 + 1 by omega]
      simp only [cks, List.set_cons_succ]
      rw [this]
theorem cks_take (M : List K) (m : Nat) : cks (M.take m) = (cks M).take (m * 2) := by
  induction M generalizing m with
  | nil => simp [cks]
  | cons k M ih =>
    cases m with
    | zero => simp [cks]
    | succ m =>
      rw [show (m + 1) * 2 = m * 2 + 1 + 1 by omega]
      simp only [cks, List.take_succ_cons, ih]
theorem kd_set (M : List K) (i j : Nat) (k : K) (h : i < M.length) : kd (M.set i k) j = if i = j then k else kd M j := by
  unfold kd
  rw [List.getD_eq_getElem?_getD, List.getD_eq_getElem?_getD, List.getElem?_set]
  by_cases hij : i = j
  · subst hij; rw [if_pos rfl, if_pos h, if_pos rfl]; rfl
  · rw [if_neg hij, if_neg hij]

abbrev own (g n cap : Nat) : Value := .slice (some ⟨g, 0, none⟩) n cap
theorem OwnK.len {w : World} {base g n cap : Nat} {M : List K} (h : OwnK w base (own g n cap) M) : n = M.length ∧ n ≤ cap ∧ cap ≤ maxLen := by
  rcases h.shape with ⟨e, _⟩ | ⟨g', c', e, _, _, h1, h2, _⟩
  · cases e
  · cases e; exact ⟨rfl, h1, h2⟩
theorem OwnK.at {w : World} {base g n cap : Nat} {M : List K} (h : OwnK w base (own g n cap) M) (i : Nat) (hi : i < n) :
    w.cell? ⟨g, i * 2, none⟩ = some (.int .i64 (kd M i).1) ∧ w.cell? ⟨g, i * 2 + 1, none⟩ = some (.int .i64 (kd M i).2) := by
  obtain ⟨hn, _⟩ := h.len
  rcases h.shape with ⟨e, _⟩ | ⟨g', c', e, _, _, _, _, hk⟩
  · cases e
  · cases e
    rcases hk with h0 | ⟨b, off, e, hc⟩
    · rw [h0] at hi; simp at hi
    · cases e
      have := KeysAt.at hc i hi
      simpa using this
theorem OwnK.frozen {w : World} {base g n cap : Nat} {M : List K} (h : OwnK w base (own g n cap) M) (j : Nat) : w.frozen? ⟨g, j, none⟩ = false := by
  obtain ⟨rfl, _⟩ := h.len
  exact World.ownsRow.frozenAt h j
theorem OwnK.set {w : World} {base g n cap : Nat} {M : List K} (h : OwnK w base (own g n cap) M) (i : Nat) (hi : i < n) (x y : Int) :
    OwnK ((w.setCell ⟨g, i * 2, none⟩ (.int .i64 x)).setCell ⟨g, i * 2 + 1, none⟩ (.int .i64 y)) base (own g n cap) (M.set i (x, y)) ∧ w.grownBy ((w.setCell ⟨g, i * 2, none⟩ (.int .i64 x)).setCell ⟨g, i * 2 + 1, none⟩ (.int .i64 y)) (some g) := by
  obtain ⟨rfl, _⟩ := h.len
  obtain ⟨h1, h2⟩ := World.ownsRow.stored h (i * 2) (.int .i64 x)
  obtain ⟨h3, h4⟩ := World.ownsRow.stored h1 (i * 2 + 1) (.int .i64 y)
  refine ⟨?_, ⟨h4.os.trans h2.os, h4.tape.trans h2.tape, h4.output.trans h2.output, Nat.le_trans h2.size h4.size, fun k hk hne => (h4.block k (Nat.lt_of_lt_of_le hk h2.size) hne).trans (h2.block k hk hne)⟩⟩
  unfold OwnK
  rw [List.length_set, cks_set M i (x, y) hi]
  exact h3
theorem OwnK.prefix {w : World} {base g n cap : Nat} {M : List K} (h : OwnK w base (own g n cap) M) (m : Nat) (hm : m ≤ n) : OwnK w base (own g m cap) (M.take m) := by
  obtain ⟨rfl, _⟩ := h.len
  obtain ⟨hl, h⟩ := h
  rcases h with ⟨e, _⟩ | ⟨g', c', cur, e, hb, hg, hnc, hcm, hs, ht⟩
  · cases e
  · cases e
    have hlen : (M.take m).length = m := by simp; omega
    unfold OwnK
    rw [hlen]
    refine ⟨by rw [cks_length, hlen], .inr ⟨g, cap, cur, rfl, hb, hg, by omega, hcm, hs, ?_⟩⟩
    rw [cks_take, ← ht, List.take_take]
    congr 1
    omega
/-- cells written behind the m-th -/
theorem ownsRow_setCells {base : Nat} {e : TypeId} {size g n cap : Nat} : ∀ (vs : List Value) (o : Nat) (w : World) (xs : List Value), w.ownsRow base e size (.slice (some ⟨g, 0, none⟩) n cap) n xs →
    ∃ xs', (w.setCells g o vs).ownsRow base e size (.slice (some ⟨g, 0, none⟩) n cap) n xs' ∧ xs'.take o = xs.take o ∧ w.grownBy (w.setCells g o vs) (some g)
  | [], o, w, xs, h => ⟨xs, h, rfl, World.grownBy.refl _ _⟩
  | v :: vs, o, w, xs, h => by
    obtain ⟨h1, h2⟩ := World.ownsRow.stored h o v
    obtain ⟨xs', h3, h4, h5⟩ := ownsRow_setCells vs (o + 1) (w.setCell ⟨g, o, none⟩ v) _ h1
    refine ⟨xs', h3, ?_, ⟨h5.os.trans h2.os, h5.tape.trans h2.tape, h5.output.trans h2.output, Nat.le_trans h2.size h5.size, fun k hk hne => (h5.block k (Nat.lt_of_lt_of_le hk h2.size) hne).trans (h2.block k hk hne)⟩⟩
    have := congrArg (List.take o) h4
    rw [List.take_take, List.take_take, Nat.min_eq_left (by omega), List.take_set_of_le (by omega)] at this
    exact this
theorem OwnK.cleared {w : World} {base g n cap : Nat} {M : List K} (h : OwnK w base (own g n cap) M) (m : Nat) (hm : m ≤ n) (vs : List Value) :
    OwnK (w.setCells g (m * 2) vs) base (own g m cap) (M.take m) ∧ w.grownBy (w.setCells g (m * 2) vs) (some g) := by
  obtain ⟨rfl, _⟩ := h.len
  obtain ⟨xs', h1, h2, h3⟩ := ownsRow_setCells vs (m * 2) w _ h
  refine ⟨?_, h3⟩
  obtain ⟨hl, h⟩ := h1
  rcases h with ⟨e, _⟩ | ⟨g', c', cur, e, hb, hg, hnc, hcm, hs, ht⟩
  · cases e
  · cases e
    have hlen : (M.take m).length = m := by simp; omega
    unfold OwnK
    rw [hlen]
    refine ⟨by rw [cks_length, hlen], .inr ⟨g, cap, cur, rfl, hb, hg, by omega, hcm, hs, ?_⟩⟩
    rw [cks_take, ← h2, ← ht, List.take_take]
    congr 1
    omega
/-- clear -/
theorem run_clear_keys (w : World) (ty : TypeId) (b o n c : Nat) (hn : 0 < n) (hc : ∀ j, j < n * 2 → (w.cell? ⟨b, o + j, none⟩).isSome = true) (hf : ∀ j, j < n * 2 → w.frozen? ⟨b, o + j, none⟩ = false) :
    ∃ vs, (Builtin.clear_ #[51] ty #[.slice (some ⟨b, o, none⟩) n c]).run Tryz.prog w = .ok (.tuple #[]) (w.setCells b o vs) := by
  have hz : ∀ w, (zeroValue 43).run Tryz.prog w = .ok (.agg #[.int .i64 0, .int .i64 0]) w := Tryz.zeroValue43
  have hst := run_storeCells_cells (P := Tryz.prog) b o (Builtin.zeroCells #[.int .i64 0, .int .i64 0] n).toList 0 w (by simpa [Builtin.zeroCells] using hc) (by simpa [Builtin.zeroCells] using hf) (by
    intro v hv
    simp only [Builtin.zeroCells, Array.toList_map, List.mem_map] at hv
    obtain ⟨i, _, rfl⟩ := hv
    have : i % 2 = 0 ∨ i % 2 = 1 := by omega
    rcases this with h | h <;> simp [h] <;> rfl)
  simp only [Nat.add_zero] at hst
  obtain ⟨m, rfl⟩ : ∃ m, n = m + 1 := ⟨n - 1, by omega⟩
  exact ⟨_, by simp [Builtin.clear_, run_underlying Tryz.underlying51, hz, Value.cells, hst]; rfl⟩

/-- the same members -/
def SameMem (A B : List K) : Prop := ∀ x, x ∈ A ↔ x ∈ B
/-- a list that does not fall -/
def Asc (S : List K) : Prop := ∀ i j, i < j → j < S.length → lt (kd S j) (kd S i) = false
/-- what is kept of the first j -/
structure Comp (S : List K) (j : Nat) (C : List K) : Prop where
  rise : Rise C
  mem : ∀ x, x ∈ C ↔ x ∈ S.take j
  last : ∀ i, i + 1 = C.length → kd C i = kd S (j - 1)
theorem Comp.same {S C : List K} {j : Nat} (h : Comp S j C) (hj : 1 ≤ j) (hl : j < S.length) (he : kd S j = kd S (j - 1)) : Comp S (j + 1) C := by
  refine ⟨h.rise, fun x => ?_, fun i hi => by rw [h.last i hi, ← he]; rfl⟩
  rw [h.mem, take_kd S j hl, List.mem_append, List.mem_singleton]
  constructor
  · exact .inl
  · rintro (h1 | h1)
    · exact h1
    · rw [h1, he]
      have h2 : (S.take j)[j - 1]? = some (kd S (j - 1)) := by rw [List.getElem?_take, if_pos (by omega)]; exact kd_get (by omega)
      exact List.mem_of_getElem? h2
theorem Comp.more {S C : List K} {j : Nat} (h : Comp S j C) (hj : 1 ≤ j) (hl : j < S.length) (hs : Asc S) (hk : ∀ x ∈ S, isKey x = true) (he : kd S j ≠ kd S (j - 1)) : Comp S (j + 1) (C ++ [kd S j]) := by
  refine ⟨rise_snoc h.rise (hk _ (kd_mem hl)) fun i y hi hy => ?_, fun x => ?_, fun i hi => ?_⟩
  · have e1 : kd C i = y := by have := kd_get (L := C) (j := i) (by omega); rw [this] at hy; exact Option.some.inj hy
    rw [← e1, h.last i hi]
    have := hs (j - 1) j (by omega) hl
    cases h1 : lt (kd S (j - 1)) (kd S j) with
    | true => rfl
    | false => exact absurd (eq_of_not_lt this h1) he
  · rw [take_kd S j hl, List.mem_append, List.mem_append, h.mem]
  · have hi' : i = C.length := by simp at hi; omega
    subst hi'
    have := kd_right C [kd S j] 0 (by simp)
    rw [Nat.add_zero] at this
    rw [this]; simp [kd]
theorem Comp.start {S : List K} (h : 1 ≤ S.length) (hk : ∀ x ∈ S, isKey x = true) : Comp S 1 (S.take 1) := by
  obtain ⟨a, S, rfl⟩ : ∃ a T, S = a :: T := by cases S with | nil => simp at h | cons a T => exact ⟨a, T, rfl⟩
  refine ⟨⟨by simpa using (hk a (by simp)), by simp⟩, fun x => Iff.rfl, fun i hi => ?_⟩
  simp at hi; subst hi; simp [kd]
theorem Comp.ne {S C : List K} {j : Nat} (h : Comp S j C) (hj : 1 ≤ j) (hl : j ≤ S.length) : 1 ≤ C.length := by
  have h2 : (S.take j)[0]? = some (kd S 0) := by rw [List.getElem?_take, if_pos (by omega)]; exact kd_get (by omega)
  have := (h.mem _).2 (List.mem_of_getElem? h2)
  cases C with | nil => simp at this | cons => simp

end Go.Proofs.YtbmohlkcmhhpgaaGreat
/-
  LISTS OF KEYS AS ARGUMENTS; stands, sameKeys.
-/
namespace Go.Proofs.YtbmohlkcmhhpgaaGreat
open Go.RowKit Go.Sort

/-- A LIST OF KEYS: a slice, its length, its cells -/
structure Lst (w : World) (ao : Option Addr) (n cap : Nat) (L : List K) : Prop where
  len : n = L.length
  at_ : KeysAt w ao L
  nil : ao = none → cap = 0
  cap : n ≤ cap
theorem Lst.kept {w w1 : World} {ao : Option Addr} {n cap : Nat} {L : List K} (h : Lst w ao n cap L) (hb : Below w.heap.size w w1) : Lst w1 ao n cap L := ⟨h.len, h.at_.kept hb, h.nil, h.cap⟩
theorem Lst.far {w w1 : World} {ao : Option Addr} {n cap B : Nat} {L : List K} (h : Lst w ao n cap L) (hb : Below B w w1) (hB : ∀ a, L ≠ [] → ao = some a → a.block < B) : Lst w1 ao n cap L := ⟨h.len, h.at_.below hb hB, h.nil, h.cap⟩
def Flat (ao : Option Addr) : Prop := ∀ a, ao = some a → a.spot = none
theorem OwnK.lst {w : World} {base : Nat} {v : Value} {L : List K} (h : OwnK w base v L) : ∃ ao n cap, v = .slice ao n cap ∧ Lst w ao n cap L ∧ Flat ao := by
  rcases h.shape with ⟨rfl, rfl⟩ | ⟨g, cap, rfl, _, _, hc, _, hk⟩
  · exact ⟨none, 0, 0, rfl, ⟨rfl, .inl rfl, fun _ => rfl, Nat.le_refl _⟩, fun _ e => by cases e⟩
  · exact ⟨_, _, cap, rfl, ⟨rfl, hk, by simp, hc⟩, fun a e => by cases e; rfl⟩
theorem Lst.at {w : World} {ao : Option Addr} {n cap : Nat} {L : List K} (h : Lst w ao n cap L) (k : Nat) (hk : k < n) : ∃ b off, ao = some ⟨b, off, none⟩ ∧ w.cell? ⟨b, off + k * 2, none⟩ = some (.int .i64 (kd L k).1) ∧ w.cell? ⟨b, off + k * 2 + 1, none⟩ = some (.int .i64 (kd L k).2) := by
  have hl : k < L.length := by have := h.len; omega
  rcases h.at_ with h0 | ⟨b, off, rfl, hc⟩
  · rw [h0] at hl; simp at hl
  · exact ⟨b, off, rfl, KeysAt.at hc k hl⟩

theorem eq_of_takes {A B : List K} (hl : A.length = B.length) (k : Nat) (hk : k < A.length) : (A.take (k + 1) = B.take (k + 1)) ↔ (A.take k = B.take k ∧ kd A k = kd B k) := by
  rw [take_kd A k hk, take_kd B k (by omega)]
  constructor
  · intro h
    have := List.append_inj h (by simp; omega)
    exact ⟨this.1, by simpa using this.2⟩
  · rintro ⟨h1, h2⟩; rw [h1, h2]

end Go.Proofs.YtbmohlkcmhhpgaaGreat
/-
  lent, back: lists that are lent.
-/
namespace Go.Proofs.YtbmohlkcmhhpgaaGreat
open Go.RowKit Go.Sort

theorem cks_zero : ∀ c : Nat, cks (List.replicate c (0, 0)) = List.replicate (c * 2) (.int .i64 0)
  | 0 => rfl
  | c + 1 => by
    rw [List.replicate_succ, show (c + 1) * 2 = c * 2 + 1 + 1 by omega, List.replicate_succ, List.replicate_succ]
    simp only [cks, cks_zero c]
theorem toList_madeCells_two (z : Value) (n : Nat) : (madeCells #[z, z] n).toList = List.replicate n z := by
  apply List.ext_getElem?
  intro j
  by_cases hj : j < n
  · rcases Nat.mod_two_eq_zero_or_one j with h | h <;> simp [madeCells, hj, h]
  · simp [madeCells, hj]
theorem make_keys (c : Nat) (C : Int) (hC : C = c) (hc : c * 16 ≤ 281474976710656) (u : World) : (Instr.makeSlice 51 (.int .i64 C) (.int .i64 C)).run Tryz.prog u =
    .ok (.slice (some ⟨u.heap.size, 0, none⟩) c c) (u.alloc (.cells (cks (List.replicate c (0, 0))).toArray 43)) := by
  subst hC
  obtain ⟨i0, hi, hz0, hz1, hz2⟩ := info_parts infoK
  have h := run_make (P := Tryz.prog) u 51 43 i0 (.agg #[.int .i64 0, .int .i64 0]) Tryz.underlying51 hi hz0 .i64 .i64 (c : Int) (c : Int) (by omega) (Int.le_refl _) (by rw [hz2]; omega) (by omega)
  have e : madeCells (Value.agg #[.int .i64 0, .int .i64 0]).cells (c * 2) = (cks (List.replicate c (0, 0))).toArray := by
    apply Array.ext'
    rw [cks_zero]
    exact toList_madeCells_two _ _
  rw [hz1, Int.toNat_natCast, e] at h
  exact h
/-- a row that is known whole -/
theorem OwnK.of_row {w : World} {base g : Nat} {Z : List K} (hb : base ≤ g) (hg : w.heap[g]? = some (.cells (cks Z).toArray 43 (0, 0))) (hc : Z.length ≤ maxLen) : OwnK w base (own g Z.length Z.length) Z :=
  ⟨cks_length Z, .inr ⟨g, Z.length, _, rfl, hb, hg, Nat.le_refl _, hc, by simp [cks_length], by simp [cks_length, List.take_of_length_le]⟩⟩
theorem cks_drop : ∀ (n : Nat) (Z : List K), (cks Z).drop (n * 2) = cks (Z.drop n)
  | 0, Z => by simp
  | n + 1, [] => by simp [cks]
  | n + 1, z :: Z => by
    rw [show (n + 1) * 2 = n * 2 + 1 + 1 by omega]
    simp only [cks, List.drop_succ_cons, cks_drop n Z]
theorem run_copy_keys (w : World) (ty : TypeId) (g dLen dCap : Nat) (a : Addr) (n c : Nat) (L Z : List K) (hn : n = L.length) (hz : dLen = Z.length) (hle : n ≤ dLen)
    (hg : w.heap[g]? = some (.cells (cks Z).toArray 43 (0, 0))) (hsrc : KeysAt w (some a) L) (M : List K) (hM : L ++ Z.drop n = M) :
    (Builtin.copy_ #[51, 51] ty #[.slice (some ⟨g, 0, none⟩) dLen dCap, .slice (some a) n c]).run Tryz.prog w = .ok (goInt n) (w.setRow g (cks M).toArray) := by
  subst hM
  have hl := run_loadCells_list (P := Tryz.prog) w a (cks L) (by
    intro j u hu
    rcases hsrc with h0 | ⟨b, off, e, hc⟩
    · subst h0; simp [cks] at hu
    · cases e; rw [addr_add]; exact hc j u hu)
  have hst := run_storeCells_at Tryz.prog g 0 43 (cks L) 0 (cks Z).toArray w hg (by simp [cks_length]; omega) (cks_one L)
  obtain ⟨i0, hi, hz0, hz1, hz2⟩ := info_parts infoK
  have e1 : (cks L).length = n * 2 := by rw [cks_length, hn]
  have e2 : Nat.min n dLen = n := Nat.min_eq_left hle
  rw [e1] at hl hst
  simp only [Nat.add_zero, Nat.zero_add, List.take_zero, List.nil_append, cks_drop, ← cks_append] at hst
  simp [Builtin.copy_, run_underlying Tryz.underlying51, Builtin.lenOf, Builtin.firstCells, sizeOf, typeInfo, hi, hz1, e2, hl, hst]

theorem run_eqNil (ao : Option Addr) (n c : Nat) (w : World) : (binOp .eql 51 (.slice ao n c) (.slice none 0 0)).run Tryz.prog w = .ok (.bool ao.isNone) w := by
  simp only [binOp]
  simp [run_equal_slice_nil w 51 43 ao n c Tryz.underlying51]
/-- the keys behind a lent list's end, k of them laid -/
def padK (k : Nat) : List K := (List.range 5).map fun j => if j < k then (-9, (j : Int)) else (0, 0)
theorem padK_set : ∀ k, k < 5 → (padK k).set k (-9, (k : Int)) = padK (k + 1) := by decide
theorem padK_len (k : Nat) : (padK k).length = 5 := by simp [padK]
theorem padK_zero : List.replicate 5 ((0, 0) : K) = padK 0 := by decide
theorem padK_at : ∀ k, k < 5 → kd (padK 5) k = (-9, (k : Int)) := by decide
theorem lent_set (L : List K) (k : Nat) (hk : k < 5) : (L ++ padK k).set (L.length + k) (-9, (k : Int)) = L ++ padK (k + 1) := by
  rw [List.set_append_right _ _ (by omega), show L.length + k - L.length = k by omega, padK_set k hk]
theorem setRow_below {w : World} {g B : Nat} {o : Array Value} {t : TypeId} {c : Array Value} (hB : B ≤ w.heap.size) (hg : B ≤ g) : Below B w ((w.alloc (.cells c t)).setRow g o) :=
  ((Below.refl B w).alloc hB _).trans ⟨rfl, rfl, rfl, by simp [World.setRow], fun k hk => setRow_other _ g k o (by omega)⟩

theorem OwnK.lst_at {w : World} {base g n cap : Nat} {L : List K} (h : OwnK w base (own g n cap) L) : KeysAt w (some ⟨g, 0, none⟩) L := by
  rcases h.shape with ⟨e, _⟩ | ⟨g', c', e, _, _, _, _, hk⟩
  · cases e
  · cases e; exact hk
theorem lent_part {w : World} {base g n : Nat} {L : List K} (hn : n = L.length) (h : OwnK w base (own g (n + 5) (n + 5)) (L ++ padK 5)) : OwnK w base (own g n (n + 5)) L := by
  have := h.prefix n (by omega)
  rwa [hn, List.take_left, ← hn] at this

theorem grown_trans {a b c : World} {g : Option Nat} (h : a.grownBy b g) (h' : b.grownBy c g) : a.grownBy c g :=
  ⟨h'.os.trans h.os, h'.tape.trans h.tape, h'.output.trans h.output, Nat.le_trans h.size h'.size, fun k hk hne => (h'.block k (Nat.lt_of_lt_of_le hk h.size) hne).trans (h.block k hk hne)⟩
theorem lent_at {w : World} {base g n : Nat} {L : List K} (hn : n = L.length) (h : OwnK w base (own g (n + 5) (n + 5)) (L ++ padK 5)) (k : Nat) (hk : k < 5) :
    w.cell? ⟨g, (n + k) * 2, none⟩ = some (.int .i64 (-9)) ∧ w.cell? ⟨g, (n + k) * 2 + 1, none⟩ = some (.int .i64 (k : Int)) := by
  have h1 := h.at (n + k) (by omega)
  have e : kd (L ++ padK 5) (n + k) = (-9, (k : Int)) := by rw [hn, kd_right L (padK 5) k (by rw [padK_len]; exact hk), padK_at k hk]
  rwa [e] at h1

/-- A LIST THAT IS LENT -/
def Lent (w : World) (base : Nat) (a : Option Addr) (n c : Nat) (ao : Option Addr) (L : List K) : Prop :=
  (a = none ∧ n = 0 ∧ c = 0 ∧ ao = none ∧ L = []) ∨ ∃ g, a = some ⟨g, 0, none⟩ ∧ c = n + 5 ∧ ao ≠ none ∧ n = L.length ∧ OwnK w base (own g (n + 5) (n + 5)) (L ++ padK 5)
theorem Lent.lst {w : World} {base n c : Nat} {a ao : Option Addr} {L : List K} (h : Lent w base a n c ao L) : Lst w a n c L := by
  rcases h with ⟨rfl, rfl, rfl, _, rfl⟩ | ⟨g, rfl, rfl, _, hn, h⟩
  · exact ⟨rfl, .inl rfl, fun _ => rfl, Nat.le_refl _⟩
  · exact ⟨hn, (lent_part hn h).lst_at, by simp, by omega⟩
theorem Lent.flat {w : World} {base n c : Nat} {a ao : Option Addr} {L : List K} (h : Lent w base a n c ao L) : Flat a := by
  rcases h with ⟨rfl, _⟩ | ⟨g, rfl, _⟩
  · intro a e; cases e
  · intro a e; cases e; rfl
theorem Lent.lt {w : World} {base n c : Nat} {a ao : Option Addr} {L : List K} (h : Lent w base a n c ao L) : ∀ x, a = some x → base ≤ x.block ∧ x.block < w.heap.size := by
  intro x e
  rcases h with ⟨rfl, _⟩ | ⟨g, rfl, _, _, _, h⟩
  · cases e
  · cases e; exact h.lt _ rfl
theorem Lent.kept {w w1 : World} {base n c : Nat} {a ao : Option Addr} {L : List K} (h : Lent w base a n c ao L) (hb : Below w.heap.size w w1) : Lent w1 base a n c ao L := by
  rcases h with h | ⟨g, h1, h2, h3, h4, h⟩
  · exact .inl h
  · exact .inr ⟨g, h1, h2, h3, h4, h.kept hb⟩
end Go.Proofs.YtbmohlkcmhhpgaaGreat
