/-
  lent, back: lists that are lent.
-/
import Derived.Test.YtnjgaibcpcpmcabKCompact
import Derived.Test.YtnjgaibcpcpmcabKLst
import Derived.Laws.CopyRow
import Derived.Laws.Cover3
namespace Go.Proofs.Ytnjgaibcpcpmcab
open Go.RowKit Go.Sort

theorem cks_zero : ∀ c : Nat, cks (List.replicate c (0, 0)) = List.replicate (c * 2) (.int .i64 0)
  | 0 => rfl
  | c + 1 => by
    rw [List.replicate_succ, show (c + 1) * 2 = c * 2 + 1 + 1 by omega, List.replicate_succ, List.replicate_succ]
    simp only [cks, cks_zero c]
theorem toList_madeCells_two (z : Value) (n : Nat) : (madeCells #[z, z] n).toList = List.replicate n z := by
  apply List.ext_getElem?
  intro j
  by_cases hj : j < n
  · rcases Nat.mod_two_eq_zero_or_one j with h | h <;> simp [madeCells, hj, h]
  · simp [madeCells, hj]
theorem make_keys (c : Nat) (C : Int) (hC : C = c) (hc : c * 16 ≤ 281474976710656) (u : World) : (Instr.makeSlice 29 (.int .i64 C) (.int .i64 C)).run Try.prog u =
    .ok (.slice (some ⟨u.heap.size, 0, none⟩) c c) (u.alloc (.cells (cks (List.replicate c (0, 0))).toArray 28)) := by
  subst hC
  obtain ⟨i0, hi, hz0, hz1, hz2⟩ := info_parts infoK
  have h := run_make (P := Try.prog) u 29 28 i0 (.agg #[.int .i64 0, .int .i64 0]) Try.underlying29 hi hz0 .i64 .i64 (c : Int) (c : Int) (by omega) (Int.le_refl _) (by rw [hz2]; omega) (by omega)
  have e : madeCells (Value.agg #[.int .i64 0, .int .i64 0]).cells (c * 2) = (cks (List.replicate c (0, 0))).toArray := by
    apply Array.ext'
    rw [cks_zero]
    exact toList_madeCells_two _ _
  rw [hz1, Int.toNat_natCast, e] at h
  exact h
/-- a row that is known whole -/
theorem OwnK.of_row {w : World} {base g : Nat} {Z : List K} (hb : base ≤ g) (hg : w.heap[g]? = some (.cells (cks Z).toArray 28 (0, 0))) (hc : Z.length ≤ maxLen) : OwnK w base (own g Z.length Z.length) Z :=
  ⟨cks_length Z, .inr ⟨g, Z.length, _, rfl, hb, hg, Nat.le_refl _, hc, by simp [cks_length], by simp [cks_length, List.take_of_length_le]⟩⟩
theorem cks_drop : ∀ (n : Nat) (Z : List K), (cks Z).drop (n * 2) = cks (Z.drop n)
  | 0, Z => by simp
  | n + 1, [] => by simp [cks]
  | n + 1, z :: Z => by
    rw [show (n + 1) * 2 = n * 2 + 1 + 1 by omega]
    simp only [cks, List.drop_succ_cons, cks_drop n Z]
theorem run_copy_keys (w : World) (ty : TypeId) (g dLen dCap : Nat) (a : Addr) (n c : Nat) (L Z : List K) (hn : n = L.length) (hz : dLen = Z.length) (hle : n ≤ dLen)
    (hg : w.heap[g]? = some (.cells (cks Z).toArray 28 (0, 0))) (hsrc : KeysAt w (some a) L) (M : List K) (hM : L ++ Z.drop n = M) :
    (Builtin.copy_ #[29, 29] ty #[.slice (some ⟨g, 0, none⟩) dLen dCap, .slice (some a) n c]).run Try.prog w = .ok (goInt n) (w.setRow g (cks M).toArray) := by
  subst hM
  have hl := run_loadCells_list (P := Try.prog) w a (cks L) (by
    intro j u hu
    rcases hsrc with h0 | ⟨b, off, e, hc⟩
    · subst h0; simp [cks] at hu
    · cases e; rw [addr_add]; exact hc j u hu)
  have hst := run_storeCells_at Try.prog g 0 28 (cks L) 0 (cks Z).toArray w hg (by simp [cks_length]; omega) (cks_one L)
  obtain ⟨i0, hi, hz0, hz1, hz2⟩ := info_parts infoK
  have e1 : (cks L).length = n * 2 := by rw [cks_length, hn]
  have e2 : Nat.min n dLen = n := Nat.min_eq_left hle
  rw [e1] at hl hst
  simp only [Nat.add_zero, Nat.zero_add, List.take_zero, List.nil_append, cks_drop, ← cks_append] at hst
  simp [Builtin.copy_, run_underlying Try.underlying29, Builtin.lenOf, Builtin.firstCells, sizeOf, typeInfo, hi, hz1, e2, hl, hst]

theorem run_eqNil (ao : Option Addr) (n c : Nat) (w : World) : (binOp .eql 29 (.slice ao n c) (.slice none 0 0)).run Try.prog w = .ok (.bool ao.isNone) w := by
  simp only [binOp]
  simp [run_equal_slice_nil w 29 28 ao n c Try.underlying29]
/-- the keys behind a lent list's end, k of them laid -/
def padK (k : Nat) : List K := (List.range 5).map fun j => if j < k then (-9, (j : Int)) else (0, 0)
theorem padK_set : ∀ k, k < 5 → (padK k).set k (-9, (k : Int)) = padK (k + 1) := by decide
theorem padK_len (k : Nat) : (padK k).length = 5 := by simp [padK]
theorem padK_zero : List.replicate 5 ((0, 0) : K) = padK 0 := by decide
theorem padK_at : ∀ k, k < 5 → kd (padK 5) k = (-9, (k : Int)) := by decide
theorem lent_set (L : List K) (k : Nat) (hk : k < 5) : (L ++ padK k).set (L.length + k) (-9, (k : Int)) = L ++ padK (k + 1) := by
  rw [List.set_append_right _ _ (by omega), show L.length + k - L.length = k by omega, padK_set k hk]
theorem setRow_below {w : World} {g B : Nat} {o : Array Value} {t : TypeId} {c : Array Value} (hB : B ≤ w.heap.size) (hg : B ≤ g) : Below B w ((w.alloc (.cells c t)).setRow g o) :=
  ((Below.refl B w).alloc hB _).trans ⟨rfl, rfl, rfl, by simp [World.setRow], fun k hk => setRow_other _ g k o (by omega)⟩

set_option maxHeartbeats 2000000 in
set_option maxRecDepth 100000 in
theorem lent_any (w : World) (ao : Option Addr) (n cap : Nat) (L : List K) (h : Lst w ao n cap L) (hm : n * 16 ≤ 140737488351232) :
    Calls Try.prog 10 #[.slice ao n cap] w fun e w' => (ao = none ∧ e = .returned (.slice none 0 0) ∧ w = w') ∨
      (ao ≠ none ∧ e = .returned (.slice (some ⟨w.heap.size, 0, none⟩) n (n + 5)) ∧ OwnK w' w.heap.size (own w.heap.size (n + 5) (n + 5)) (L ++ padK 5) ∧ Below w.heap.size w w') := by
  have HL : Hid (Lst w ao n cap L) := h
  clear h
  cases ao with
  | none =>
    have hnil := run_eqNil none n cap
    go_enter Try.func10, Try.ntmps10
    go_wp2
    go_ret
    first | exact .inl ⟨rfl, rfl, rfl⟩ | exact .inl ⟨trivial, rfl, rfl⟩
  | some a =>
    have hnil := run_eqNil (some a) n cap
    simp only [Option.isNone_some] at hnil
    have hmk := make_keys (n + 5) ((n : Int) + 5) (by omega) (by omega)
    go_enter Try.func10, Try.ntmps10
    have hcp := fun ty => run_copy_keys (w.alloc (.cells (cks (List.replicate (n + 5) (0, 0))).toArray 28)) ty w.heap.size (n + 5) (n + 5) a n cap L (List.replicate (n + 5) (0, 0)) HL.out.len (by simp) (by omega) (heap_alloc_new _ _ rfl) (HL.out.at_.grew ((Grew.refl _).alloc _)) (L ++ padK 0) (by rw [List.drop_replicate, show n + 5 - n = 5 by omega, padK_zero])
    go_wp2_with fail
    have HB : Hid (Below w.heap.size w ((w.alloc (.cells (cks (List.replicate (n + 5) (0, 0))).toArray 28)).setRow w.heap.size (cks (L ++ padK 0)).toArray)) := setRow_below (Nat.le_refl _) (Nat.le_refl _)
    have HO : Hid (OwnK ((w.alloc (.cells (cks (List.replicate (n + 5) (0, 0))).toArray 28)).setRow w.heap.size (cks (L ++ padK 0)).toArray) w.heap.size (own w.heap.size (n + 5) (n + 5)) (L ++ padK 0)) := by
      have h1 := OwnK.of_row (w := (w.alloc (.cells (cks (List.replicate (n + 5) (0, 0))).toArray 28)).setRow w.heap.size (cks (L ++ padK 0)).toArray) (base := w.heap.size) (Nat.le_refl _) (setRow_heap _ w.heap.size _ _ _ _ (heap_alloc_new _ _ rfl)) (Z := L ++ padK 0) (by rw [List.length_append, padK_len, ← HL.out.len]; unfold maxLen; omega)
      rw [List.length_append, padK_len, ← HL.out.len] at h1
      exact h1
    generalize ((w.alloc (.cells (cks (List.replicate (n + 5) (0, 0))).toArray 28)).setRow w.heap.size (cks (L ++ padK 0)).toArray) = W1 at *
    obtain ⟨G, hG⟩ : ∃ G, G = w.heap.size := ⟨_, rfl⟩
    rw [← hG] at HO ⊢
    have HG : Hid (G = w.heap.size) := hG
    clear hG hcp hmk
    go_loopw [4] (fun x wr => ∃ k : Nat, k ≤ 5 ∧ x = .int .i64 (k : Int) ∧ Hid (OwnK wr G (own G (n + 5) (n + 5)) (L ++ padK k)) ∧ Hid (Below w.heap.size w wr)) (fun x _ => 5 - (intOf x).toNat)
    case atStart => exact ⟨0, by omega, rfl, HO, HB⟩
    case round =>
      clear HO HB
      obtain ⟨k, hk, rfl, HO, HB⟩ := hrel
      by_cases hlt : k < 5
      · obtain ⟨e1, e2⟩ := HO.out.at (n + k) (by omega)
        have f1 := HO.out.frozen ((n + k) * 2)
        have f2 := HO.out.frozen ((n + k) * 2 + 1)
        generalize kd (L ++ padK k) (n + k) = ok at *
        obtain ⟨o1, o2⟩ := ok
        simp only at e1 e2
        have HO2 : Hid (OwnK ((wr.setCell ⟨G, (n + k) * 2, none⟩ (.int .i64 (-9))).setCell ⟨G, (n + k) * 2 + 1, none⟩ (.int .i64 (k : Int))) G (own G (n + 5) (n + 5)) (L ++ padK (k + 1)) ∧ Below w.heap.size w ((wr.setCell ⟨G, (n + k) * 2, none⟩ (.int .i64 (-9))).setCell ⟨G, (n + k) * 2 + 1, none⟩ (.int .i64 (k : Int)))) := by
          obtain ⟨h1, h2⟩ := HO.out.set (n + k) (by omega) (-9) (k : Int)
          rw [HL.out.len, lent_set L k hlt, ← HL.out.len] at h1
          exact ⟨h1, HB.out.trans (grown_below h2 (fun b e => by cases e; exact Nat.le_of_eq HG.out.symm) HB.out.size)⟩
        go_wp2_with fail
        go_roundw
        case rel => exact ⟨k + 1, by omega, by go_num, HO2.out.1, HO2.out.2⟩
        case measure => simp [intOf]; omega
      · obtain rfl : k = 5 := by omega
        go_wp2
        go_ret
        obtain rfl := HG.out
        exact .inr ⟨by simp, rfl, HO.out, HB.out⟩

theorem OwnK.lst_at {w : World} {base g n cap : Nat} {L : List K} (h : OwnK w base (own g n cap) L) : KeysAt w (some ⟨g, 0, none⟩) L := by
  rcases h.shape with ⟨e, _⟩ | ⟨g', c', e, _, _, _, _, hk⟩
  · cases e
  · cases e; exact hk
theorem lent_part {w : World} {base g n : Nat} {L : List K} (hn : n = L.length) (h : OwnK w base (own g (n + 5) (n + 5)) (L ++ padK 5)) : OwnK w base (own g n (n + 5)) L := by
  have := h.prefix n (by omega)
  rwa [hn, List.take_left, ← hn] at this

set_option maxHeartbeats 2000000 in
set_option maxRecDepth 100000 in
theorem back_nil (w : World) (ca cb : Nat) (hca : ca = 0) (hcb : cb = 0) : Calls Try.prog 12 #[.slice none 0 ca, .slice none 0 cb] w fun e w' => e = .returned (.bool true) ∧ Below w.heap.size w w' := by
  have HC : Hid (ca = 0 ∧ cb = 0) := ⟨hca, hcb⟩
  clear hca hcb
  have hnil := run_eqNil none 0 cb
  simp only [Option.isNone_none] at hnil
  go_enter Try.func12, Try.ntmps12
  go_wp2_with fail
  refine (sameKeys_any w none none 0 ca 0 cb [] [] ⟨rfl, .inl rfl, fun _ => HC.out.1, by omega⟩ ⟨rfl, .inl rfl, fun _ => HC.out.2, by omega⟩ (by omega) (by omega)).mono ?_
  rintro e w1 ⟨rfl, q, rfl⟩
  go_wp2
  go_ret
  exact ⟨rfl, ⟨rfl, rfl, rfl, Nat.le_refl _, fun _ _ => rfl⟩⟩

theorem grown_trans {a b c : World} {g : Option Nat} (h : a.grownBy b g) (h' : b.grownBy c g) : a.grownBy c g :=
  ⟨h'.os.trans h.os, h'.tape.trans h.tape, h'.output.trans h.output, Nat.le_trans h.size h'.size, fun k hk hne => (h'.block k (Nat.lt_of_lt_of_le hk h.size) hne).trans (h.block k hk hne)⟩
theorem lent_at {w : World} {base g n : Nat} {L : List K} (hn : n = L.length) (h : OwnK w base (own g (n + 5) (n + 5)) (L ++ padK 5)) (k : Nat) (hk : k < 5) :
    w.cell? ⟨g, (n + k) * 2, none⟩ = some (.int .i64 (-9)) ∧ w.cell? ⟨g, (n + k) * 2 + 1, none⟩ = some (.int .i64 (k : Int)) := by
  have h1 := h.at (n + k) (by omega)
  have e : kd (L ++ padK 5) (n + k) = (-9, (k : Int)) := by rw [hn, kd_right L (padK 5) k (by rw [padK_len]; exact hk), padK_at k hk]
  rwa [e] at h1

set_option maxHeartbeats 2000000 in
set_option maxRecDepth 100000 in
theorem back_any (w : World) (base g n cap : Nat) (a : Addr) (L : List K) (ho : OwnK w base (own g (n + 5) (n + 5)) (L ++ padK 5)) (hl : Lst w (some a) n cap L) (hm : n * 16 ≤ 140737488351232) :
    Calls Try.prog 12 #[.slice (some ⟨g, 0, none⟩) n (n + 5), .slice (some a) n cap] w fun e w' => e = .returned (.bool true) ∧ w.grownBy w' (some g) := by
  have HO : Hid (OwnK w base (own g (n + 5) (n + 5)) (L ++ padK 5)) := ho
  have HL : Hid (Lst w (some a) n cap L) := hl
  have hcm : n + 5 ≤ 9223372036854775807 := by omega
  clear ho hl
  have hnil := run_eqNil (some a) n cap
  simp only [Option.isNone_some] at hnil
  go_enter Try.func12, Try.ntmps12
  go_wp2_with fail
  refine (sameKeys_any w (some ⟨g, 0, none⟩) (some a) n (n + 5) n cap L L ⟨HL.out.len, ((lent_part HL.out.len HO.out).lst_at), by simp, by omega⟩ HL.out (by omega) (by omega)).mono ?_
  rintro e w1 ⟨he, q, rfl⟩
  rw [decide_eq_true rfl] at he
  subst he
  replace HO : Hid (OwnK (w.drewN q) base (own g (n + 5) (n + 5)) (L ++ padK 5)) := HO.out
  have HN : Hid (n = L.length) := HL.out.len
  have HW : Hid (w.grownBy (w.drewN q) (some g)) := ⟨rfl, rfl, rfl, Nat.le_refl _, fun _ _ _ => rfl⟩
  clear HL
  generalize w.drewN q = W1 at *
  go_wp2_with fail
  go_loopw [7, 5] (fun x y wr => ∃ k : Nat, k ≤ 5 ∧ x = .int .i64 (k : Int) ∧ y = .bool true ∧ wr = W1) (fun x _ _ => 5 - (intOf x).toNat)
  case atStart => exact ⟨0, by omega, rfl, rfl, rfl⟩
  case round =>
    obtain ⟨k, hk, rfl, rfl, rfl⟩ := hrel
    by_cases hlt : k < 5
    · obtain ⟨e1, e2⟩ := lent_at HN.out HO.out k hlt
      have hq := run_eqKey (-9) (k : Int) (-9) (k : Int)
      rw [decide_eq_true rfl] at hq
      have hgd := fun op x y => run_eqGuard op x y (-9) (k : Int) (-9) (k : Int)
      go_wp2_with fail
      go_roundw
      case rel => exact ⟨k + 1, by omega, by go_num, by simp⟩
      case measure => simp [intOf]; omega
    · obtain rfl : k = 5 := by omega
      go_wp2_with fail
      go_loopw [8] (fun x w2 => ∃ k : Nat, k ≤ n + 5 ∧ x = .int .i64 (k : Int) ∧ Hid (∃ M, OwnK w2 base (own g (n + 5) (n + 5)) M) ∧ Hid (w.grownBy w2 (some g))) (fun x _ => n + 5 - (intOf x).toNat)
      case atStart => exact ⟨0, by omega, rfl, ⟨_, HO.out⟩, HW⟩
      case round =>
        clear HO HW
        obtain ⟨k, hk, rfl, HO, HW⟩ := hrel
        by_cases hlt : k < n + 5
        · obtain ⟨M, hM⟩ := HO.out
          obtain ⟨e1, e2⟩ := hM.at k (by omega)
          have f1 := hM.frozen (k * 2)
          have f2 := hM.frozen (k * 2 + 1)
          have HM : Hid (OwnK wr base (own g (n + 5) (n + 5)) M) := hM
          clear hM
          generalize kd M k = ok at *
          obtain ⟨o1, o2⟩ := ok
          simp only at e1 e2
          have HO2 : Hid (∀ x y, (∃ M, OwnK ((wr.setCell ⟨g, k * 2, none⟩ (.int .i64 x)).setCell ⟨g, k * 2 + 1, none⟩ (.int .i64 y)) base (own g (n + 5) (n + 5)) M) ∧ w.grownBy ((wr.setCell ⟨g, k * 2, none⟩ (.int .i64 x)).setCell ⟨g, k * 2 + 1, none⟩ (.int .i64 y)) (some g)) := fun x y => by
            obtain ⟨h1, h2⟩ := HM.out.set k hlt x y
            exact ⟨⟨_, h1⟩, grown_trans HW.out h2⟩
          go_wp2_with fail
          go_roundw
          case rel => exact ⟨k + 1, by omega, by go_num, (HO2.out _ _).1, (HO2.out _ _).2⟩
          case measure => simp [intOf]; omega
        · obtain rfl : k = n + 5 := by omega
          go_wp2
          go_ret
          exact ⟨rfl, HW.out⟩

/-- A LIST THAT IS LENT -/
def Lent (w : World) (base : Nat) (a : Option Addr) (n c : Nat) (ao : Option Addr) (L : List K) : Prop :=
  (a = none ∧ n = 0 ∧ c = 0 ∧ ao = none ∧ L = []) ∨ ∃ g, a = some ⟨g, 0, none⟩ ∧ c = n + 5 ∧ ao ≠ none ∧ n = L.length ∧ OwnK w base (own g (n + 5) (n + 5)) (L ++ padK 5)
theorem Lent.lst {w : World} {base n c : Nat} {a ao : Option Addr} {L : List K} (h : Lent w base a n c ao L) : Lst w a n c L := by
  rcases h with ⟨rfl, rfl, rfl, _, rfl⟩ | ⟨g, rfl, rfl, _, hn, h⟩
  · exact ⟨rfl, .inl rfl, fun _ => rfl, Nat.le_refl _⟩
  · exact ⟨hn, (lent_part hn h).lst_at, by simp, by omega⟩
theorem Lent.flat {w : World} {base n c : Nat} {a ao : Option Addr} {L : List K} (h : Lent w base a n c ao L) : Flat a := by
  rcases h with ⟨rfl, _⟩ | ⟨g, rfl, _⟩
  · intro a e; cases e
  · intro a e; cases e; rfl
theorem Lent.lt {w : World} {base n c : Nat} {a ao : Option Addr} {L : List K} (h : Lent w base a n c ao L) : ∀ x, a = some x → base ≤ x.block ∧ x.block < w.heap.size := by
  intro x e
  rcases h with ⟨rfl, _⟩ | ⟨g, rfl, _, _, _, h⟩
  · cases e
  · cases e; exact h.lt _ rfl
theorem Lent.kept {w w1 : World} {base n c : Nat} {a ao : Option Addr} {L : List K} (h : Lent w base a n c ao L) (hb : Below w.heap.size w w1) : Lent w1 base a n c ao L := by
  rcases h with h | ⟨g, h1, h2, h3, h4, h⟩
  · exact .inl h
  · exact .inr ⟨g, h1, h2, h3, h4, h.kept hb⟩
theorem lent_l (w : World) (ao : Option Addr) (n cap : Nat) (L : List K) (h : Lst w ao n cap L) (hm : n * 16 ≤ 140737488351232) :
    Calls Try.prog 10 #[.slice ao n cap] w fun e w' => ∃ a c, e = .returned (.slice a n c) ∧ Lent w' w.heap.size a n c ao L ∧ Below w.heap.size w w' := by
  refine (lent_any w ao n cap L h hm).mono ?_
  rintro e w' (⟨rfl, rfl, rfl⟩ | ⟨h1, rfl, h2, h3⟩)
  · have h0 : L = [] := by
      rcases h.at_ with h1 | ⟨b, off, h1, _⟩
      · exact h1
      · cases h1
    have hn : n = 0 := by rw [h.len, h0]; rfl
    subst hn
    exact ⟨none, 0, rfl, .inl ⟨rfl, rfl, rfl, rfl, h0⟩, Below.refl _ _⟩
  · exact ⟨_, _, rfl, .inr ⟨_, rfl, rfl, h1, h.len, h2⟩, h3⟩
theorem back_l (w : World) (base n c cap : Nat) (a ao : Option Addr) (L : List K) (h : Lent w base a n c ao L) (hl : Lst w ao n cap L) (hm : n * 16 ≤ 140737488351232) :
    Calls Try.prog 12 #[.slice a n c, .slice ao n cap] w fun e w' => e = .returned (.bool true) ∧ w.grownBy w' (a.map (·.block)) := by
  rcases h with ⟨rfl, rfl, rfl, rfl, rfl⟩ | ⟨g, rfl, rfl, h3, hn, h⟩
  · exact (back_nil w 0 cap rfl (hl.nil rfl)).mono fun e w' ⟨h1, h2⟩ => ⟨h1, ⟨h2.os, h2.tape, h2.output, h2.size, fun k hk _ => h2.block k hk⟩⟩
  · obtain ⟨x, rfl⟩ : ∃ x, ao = some x := Option.ne_none_iff_exists'.1 h3
    exact back_any w base g n cap x L h hl hm

end Go.Proofs.Ytnjgaibcpcpmcab
