import Derived.Test.YtciogmenoighoaaRows
import Derived.Test.YtciogmenoighoaaQKList
import Derived.SizedLaws
import Derived.Lib.SmallJoins
import Derived.Deep.Slices
import Derived.Test.YtciogmenoighoaaTxMem
/-
  WHAT THE BOUND ON THE BULK GIVES.
-/
namespace Go.Proofs.Ytciogmenoighoaa

theorem bulk_one {H : Type} (d : DataW H) : 1 ≤ Rows.uptoBulk d := by
  cases d with
  | lit l => cases l <;> simp [Rows.uptoBulk]
  | _ => simp [Rows.uptoBulk]
theorem bulk_length {H : Type} (l : List (DataW H)) : l.length ≤ Rows.uptoBulkAll l := by
  induction l with
  | nil => simp [Rows.uptoBulkAll]
  | cons x r ih => have := bulk_one x; simp only [Rows.uptoBulkAll, List.length_cons]; omega
theorem bulk_slice {H : Type} (elems spare : List (DataW H)) : elems.length + spare.length + 1 ≤ Rows.uptoBulk (.slice elems spare) := by
  have h1 := bulk_length elems
  have h2 := bulk_length spare
  simp only [Rows.uptoBulk]
  omega
theorem bulk_bytes {H : Type} {d : DataW H} {len : Nat} (h : len = 0 ∨ ∃ elems spare, d = .slice elems spare ∧ len ≤ elems.length + spare.length) : len + 1 ≤ Rows.uptoBulk d := by
  rcases h with h | ⟨elems, spare, rfl, hl⟩
  · have := bulk_one d; omega
  · have := bulk_slice elems spare; omega
theorem bulk_of_small {H : Type} {l : List (DataW H)} (h : Rows.uptoSmall H l = true) : Rows.uptoBulkAll l ≤ 1048576 := of_decide_eq_true h

end Go.Proofs.Ytciogmenoighoaa
/-
  WHAT IS OF SMALL BULK IS WITHIN REACH.
-/
namespace Go.Proofs.Ytciogmenoighoaa

theorem mul_mono_r {a b c : Nat} (h : a ≤ b) : a * c ≤ b * c := Nat.mul_le_mul_right c h
structure Shut (P : Program) (S : TypeId → Prop) (C : Nat) : Prop where
  one : 1 ≤ C
  bytes : ∀ t, S t → P.bytesOf t ≤ C
  ptr : ∀ t e, S t → P.underlying t = some (.pointer e) → S e
  slice : ∀ t e, S t → P.underlying t = some (.slice e) → S e
  array : ∀ t n e, S t → P.underlying t = some (.array n e) → S e
  struct : ∀ t fs, S t → P.underlying t = some (.struct fs) → ∀ x ∈ fs.toList.map (·.type), S x
  map : ∀ t k e, S t → P.underlying t = some (.map k e) → S k ∧ S e
theorem wtp_le {H : Type} : (x : Lit × DataW H) → 1 ≤ Rows.uptoBulkEntry x
  | (l, d) => by cases l <;> simp [Rows.uptoBulkEntry]
theorem wtl_le {H : Type} : (es : List (Lit × DataW H)) → es.length ≤ Rows.uptoBulkEntries es
  | [] => by simp
  | x :: r => by
    have := wtl_le r
    have h2 := wtp_le x
    simp only [Rows.uptoBulkEntries, List.length_cons]
    omega
mutual
theorem wt_le {H : Type} {P : Program} {S : TypeId → Prop} {C : Nat} (hS : Shut P S C) : (d : DataW H) → (t : TypeId) → S t → ∀ z ∈ d.weights P t, z ≤ Rows.uptoBulk d * (C + C)
  | .lit l, t, _ => by
    intro z hz
    have := hS.one
    cases l <;> simp [DataW.weights] at hz
    subst hz
    simp only [Rows.uptoBulk]
    exact Nat.le_trans (Nat.le_succ _) (Nat.le_mul_of_pos_right _ (by omega))
  | .nil, t, _ => by simp [DataW.weights]
  | .ptr d, t, ht => by
    intro z hz
    simp only [DataW.weights] at hz
    split at hz
    · rename_i e hu
      exact Nat.le_trans (wt_le hS d e (hS.ptr t e ht hu) z hz) (mul_mono_r (by simp only [Rows.uptoBulk]; omega))
    · simp at hz
  | .slice elems spare, t, ht => by
    intro z hz
    simp only [DataW.weights] at hz
    split at hz
    · rename_i e hu
      have he := hS.slice t e ht hu
      simp only [List.mem_cons, List.mem_append] at hz
      simp only [Rows.uptoBulk]
      rcases hz with rfl | hz | hz
      · have b1 := bulk_length elems
        have b2 := bulk_length spare
        have b3 := hS.bytes e he
        exact Nat.mul_le_mul (by omega) (by omega)
      · exact Nat.le_trans (wts_le hS elems e he z hz) (mul_mono_r (by omega))
      · exact Nat.le_trans (wts_le hS spare e he z hz) (mul_mono_r (by omega))
    · simp at hz
  | .agg parts, t, ht => by
    intro z hz
    simp only [DataW.weights] at hz
    simp only [Rows.uptoBulk]
    split at hz
    · rename_i fs hu
      exact Nat.le_trans (wte_le hS parts _ (hS.struct t fs ht hu) z hz) (mul_mono_r (by omega))
    · rename_i n e hu
      exact Nat.le_trans (wts_le hS parts _ (hS.array t n e ht hu) z hz) (mul_mono_r (by omega))
    · simp at hz
  | .iface _ _, t, _ => by simp [DataW.weights]
  | .map entries, t, ht => by
    intro z hz
    simp only [DataW.weights] at hz
    simp only [Rows.uptoBulk]
    split at hz
    · rename_i k e hu
      obtain ⟨hk, he⟩ := hS.map t k e ht hu
      simp only [List.mem_cons] at hz
      rcases hz with rfl | hz
      · have b1 := wtl_le entries
        have := hS.bytes k hk
        have := hS.bytes e he
        exact Nat.mul_le_mul (by omega) (by omega)
      · exact Nat.le_trans (wtm_le hS entries e he z hz) (mul_mono_r (by omega))
    · simp at hz
  | .held _, t, _ => by simp [DataW.weights]
theorem wts_le {H : Type} {P : Program} {S : TypeId → Prop} {C : Nat} (hS : Shut P S C) : (ds : List (DataW H)) → (e : TypeId) → S e → ∀ z ∈ DataW.weightsAll P e ds, z ≤ Rows.uptoBulkAll ds * (C + C)
  | [], e, _ => by simp [DataW.weightsAll]
  | d :: r, e, he => by
    intro z hz
    simp only [DataW.weightsAll, List.mem_append] at hz
    simp only [Rows.uptoBulkAll]
    rcases hz with hz | hz
    · exact Nat.le_trans (wt_le hS d e he z hz) (mul_mono_r (by omega))
    · exact Nat.le_trans (wts_le hS r e he z hz) (mul_mono_r (by omega))
theorem wte_le {H : Type} {P : Program} {S : TypeId → Prop} {C : Nat} (hS : Shut P S C) : (ds : List (DataW H)) → (ts : List TypeId) → (∀ x ∈ ts, S x) → ∀ z ∈ DataW.weightsEach P ts ds, z ≤ Rows.uptoBulkAll ds * (C + C)
  | [], ts, _ => by cases ts <;> simp [DataW.weightsEach]
  | d :: r, [], _ => by simp [DataW.weightsEach]
  | d :: r, t :: ts, hts => by
    intro z hz
    simp only [DataW.weightsEach, List.mem_append] at hz
    simp only [Rows.uptoBulkAll]
    rcases hz with hz | hz
    · exact Nat.le_trans (wt_le hS d t (hts t (by simp)) z hz) (mul_mono_r (by omega))
    · exact Nat.le_trans (wte_le hS r ts (fun x hx => hts x (by simp [hx])) z hz) (mul_mono_r (by omega))
theorem wtm_le {H : Type} {P : Program} {S : TypeId → Prop} {C : Nat} (hS : Shut P S C) : (es : List (Lit × DataW H)) → (e : TypeId) → S e → ∀ z ∈ DataW.weightsEntries P e es, z ≤ Rows.uptoBulkEntries es * (C + C)
  | [], e, _ => by simp [DataW.weightsEntries]
  | x :: r, e, he => by
    intro z hz
    simp only [DataW.weightsEntries, List.mem_append] at hz
    simp only [Rows.uptoBulkEntries]
    rcases hz with hz | hz
    · exact Nat.le_trans (wtn_le hS x e he z hz) (mul_mono_r (by omega))
    · exact Nat.le_trans (wtm_le hS r e he z hz) (mul_mono_r (by omega))
theorem wtn_le {H : Type} {P : Program} {S : TypeId → Prop} {C : Nat} (hS : Shut P S C) : (x : Lit × DataW H) → (e : TypeId) → S e → ∀ z ∈ DataW.weightsEntry P e x, z ≤ Rows.uptoBulkEntry x * (C + C)
  | (l, d), e, he => by
    intro z hz
    have hd := wt_le hS d e he
    have := hS.one
    cases l <;> simp only [DataW.weightsEntry, Rows.uptoBulkEntry, List.mem_cons] at hz ⊢
    case string bytes =>
      rcases hz with rfl | hz
      · exact Nat.le_trans (by omega : bytes.length ≤ bytes.length + Rows.uptoBulk d + 1) (Nat.le_mul_of_pos_right _ (by omega))
      · exact Nat.le_trans (hd z hz) (mul_mono_r (by omega))
    all_goals exact Nat.le_trans (hd z hz) (mul_mono_r (by omega))
end
/-- of small bulk: within reach -/
theorem reach_of {H : Type} {P : Program} {S : TypeId → Prop} {C : Nat} (hS : Shut P S C) (hC : C ≤ 1000) {d : DataW H} {t : TypeId} (ht : S t) (hb : Rows.uptoBulk d ≤ 1048576) : ∀ z ∈ d.weights P t, z ≤ reachBytes := by
  intro z hz
  have h1 := wt_le hS d t ht z hz
  have h2 : Rows.uptoBulk d * (C + C) ≤ 1048576 * 2000 := Nat.mul_le_mul hb (by omega)
  simp only [reachBytes]
  omega
end Go.Proofs.Ytciogmenoighoaa
/-
  FROM THE READING OF A []api.Key ARGUMENT (OR FIELD) TO ITS KEYS.
-/
namespace Go.Proofs.Ytciogmenoighoaa.Kk
open Go.ChangeShapes Go.WideShapes Go.ChangeAt Go.RowKit

theorem cellsKey : Try.prog.cellsOf 78 = 2 := by kernel_rfl
theorem cellsInt' : Try.prog.cellsOf 3 = 1 := by kernel_rfl
theorem cellsInt64' : Try.prog.cellsOf 2 = 1 := by kernel_rfl
theorem bytesKey : Try.prog.bytesOf 78 = 16 := by kernel_rfl
set_option maxRecDepth 100000 in
/-- one element -/
theorem key_of_trod {H : Type} {enc : TypeId × Value → H} {W : World} {fuel : Nat} {a : Addr} {i : Nat} {cs : List Value} {y : DataW H × List MemPlace} (hc : W.cells? 0 (a.add (i * 2)) 2 = some cs)
    (hf : DataW.trod enc Try.prog W 0 (fun _ => true) true fuel 78 cs = some y) :
    ∃ (b off : Nat) (k : K), a.add (i * 2) = ⟨b, off, none⟩ ∧ W.cell? ⟨b, off, none⟩ = some (.int .i64 k.1) ∧ W.cell? ⟨b, off + 1, none⟩ = some (.int .i64 k.2) ∧ In64 k.1 ∧ In64 k.2 := by
  obtain ⟨_, hlen, hcell⟩ := World.cells?_some hc
  obtain ⟨xs, k, hk, hxy, _, hxl, hf⟩ := DataW.trod_struct Try.underlying78 hf
  match xs, hxl, cs, hlen with
  | [y0, y1], _, [v0, v1], _ =>
    have g0 := hf 0 _ rfl
    have g1 := hf 1 _ rfl
    simp [cellsInt', cellsInt64'] at g0 g1
    have e0 := hcell 0 (by omega)
    have e1 := hcell 1 (by omega)
    generalize a.add (i * 2) = ad at *
    obtain ⟨b, off, spot⟩ := ad
    have hspot : spot = none := by
      have h1 : (⟨b, off, spot⟩ : Addr).add 0 = ⟨b, off, spot⟩ := by simp [Addr.add]
      rw [h1] at e0
      exact World.cell?_spot e0
    subst hspot
    rw [Go.WideShapes.add_plain] at e0 e1
    obtain ⟨x0, h0, _, wx0⟩ := DataW.trod_int Try.underlying3 g0
    obtain ⟨x1, h1, _, wx1⟩ := DataW.trod_int Try.underlying2 g1
    simp only [List.cons.injEq, and_true] at h0 h1
    subst h0 h1
    exact ⟨b, off, (x0, x1), rfl, by simpa using e0, by simpa using e1, bounds_i64 wx0, bounds_i64 wx1⟩
theorem cks_of {w : World} {b off : Nat} : ∀ (L : List K) (d : Nat), (∀ i, i < L.length → w.cell? ⟨b, off + (d + i) * 2, none⟩ = some (.int .i64 (kd L i).1) ∧ w.cell? ⟨b, off + (d + i) * 2 + 1, none⟩ = some (.int .i64 (kd L i).2)) →
    ∀ j u, (cks L)[j]? = some u → w.cell? ⟨b, off + d * 2 + j, none⟩ = some u
  | [], _, _, j, u, hu => by simp [cks] at hu
  | k :: L, d, h, 0, u, hu => by
    have := (h 0 (by simp)).1
    simp [cks] at hu
    simpa [kd, hu] using this
  | k :: L, d, h, 1, u, hu => by
    have := (h 0 (by simp)).2
    simp [cks] at hu
    simpa [kd, hu] using this
  | k :: L, d, h, j + 2, u, hu => by
    have ih := cks_of (w := w) (b := b) (off := off) L (d + 1) (fun i hi => by
      have := h (i + 1) (by simp; omega)
      rw [kd_cons_succ, show d + (i + 1) = d + 1 + i by omega] at this
      exact this) j u (by simpa [cks] using hu)
    rw [show off + (d + 1) * 2 + j = off + d * 2 + (j + 2) by omega] at ih
    exact ih
set_option maxRecDepth 100000 in
/-- what the reading of a slice of keys gives -/
theorem keys_of_trod {H : Type} {enc : TypeId × Value → H} {W : World} {fuel : Nat} {cs : List Value} {y : DataW H × List MemPlace}
    (hf : DataW.trod enc Try.prog W 0 (fun _ => true) true fuel 53 cs = some y) :
    ∃ (a : Option Addr) (len cap : Nat) (ks : List K), cs = [.slice a len cap] ∧ (len = ks.length ∧ KeysAt W a ks ∧ (a = none → cap = 0) ∧ len ≤ cap ∧ cap ≤ maxLen ∧ ∀ k ∈ ks, In64 k.1 ∧ In64 k.2) ∧
      (len = 0 ∨ ∃ elems spare, y.1 = .slice elems spare ∧ len ≤ elems.length + spare.length) := by
  rcases Deep.open_slice Try.underlying53 hf with ⟨rfl, rfl⟩ | ⟨a, len, cap, m, n, D, Pl, rfl, hb, hl, hm, hmm, rfl, hx⟩
  · exact ⟨none, 0, 0, [], rfl, ⟨rfl, .inl rfl, fun _ => rfl, Nat.le_refl _, Nat.zero_le _, by simp⟩, .inl rfl⟩
  · have hle : len ≤ m := by rw [hmm]; simpa using hl
    rw [cellsKey] at hx
    obtain ⟨Z, hZ⟩ := Deep.choose_lt (α := K) (n := len) (p := fun i k => ∃ b off, a.add (i * 2) = ⟨b, off, none⟩ ∧ W.cell? ⟨b, off, none⟩ = some (.int .i64 k.1) ∧ W.cell? ⟨b, off + 1, none⟩ = some (.int .i64 k.2) ∧ In64 k.1 ∧ In64 k.2) (fun i hi => by
      obtain ⟨cs', h1, h2⟩ := hx i (by omega)
      obtain ⟨b, off, k, h3⟩ := key_of_trod h1 h2
      exact ⟨k, b, off, h3⟩)
    refine ⟨some a, len, cap, (List.range len).map Z, rfl, ⟨by simp, ?_, by simp, by simpa using hl, hm, ?_⟩, .inr ⟨_, _, rfl, ?_⟩⟩
    · by_cases h0 : len = 0
      · left; subst h0; rfl
      · right
        obtain ⟨b, off, h1, _⟩ := hZ 0 (by omega)
        have h1' : a = ⟨b, off, none⟩ := by simpa [Addr.add] using h1
        subst h1'
        refine ⟨b, off, rfl, fun j u hu => ?_⟩
        have := cks_of (w := W) (b := b) (off := off) ((List.range len).map Z) 0 (fun i hi => by
          have hi' : i < len := by simpa using hi
          obtain ⟨b', off', h2, h3, h4, _⟩ := hZ i hi'
          rw [Go.WideShapes.add_plain] at h2
          simp only [Addr.mk.injEq, and_true] at h2
          obtain ⟨rfl, rfl⟩ := h2
          have e : kd ((List.range len).map Z) i = Z i := by simp [kd, List.getD_eq_getElem?_getD, hi']
          rw [e, Nat.zero_add]
          exact ⟨h3, h4⟩) j u hu
        simpa using this
    · intro k hk
      obtain ⟨i, hi, rfl⟩ := List.mem_map.1 hk
      obtain ⟨_, _, _, _, _, h5⟩ := hZ i (by simpa using hi)
      exact h5
    · simp
theorem keys_of_sized {H : Type} {ts : List TypeId} {ds : List (DataW H)} {j len : Nat} {d : DataW H} (h : (DataW.weightsEach Try.prog ts ds).all (· ≤ reachBytes) = true) (ht : ts[j]? = some 53) (hd : ds[j]? = some d)
    (hx : len = 0 ∨ ∃ elems spare, d = .slice elems spare ∧ len ≤ elems.length + spare.length) : len * 16 ≤ 140737488351232 := by
  rcases hx with h0 | ⟨elems, spare, rfl, hl⟩
  · omega
  · have h1 := sized_slice h ht hd Try.underlying53
    rw [bytesKey] at h1
    simp only [reachBytes] at h1
    omega

end Go.Proofs.Ytciogmenoighoaa.Kk
/-
  FROM THE READING OF A []api.Tx ARGUMENT TO ITS TRANSACTIONS.
-/
namespace Go.Proofs.Ytciogmenoighoaa.Kk
open Go.ChangeShapes Go.WideShapes Go.ChangeAt Go.RowKit

theorem cells64 : Try.prog.cellsOf 2 = 1 := by kernel_rfl
theorem cellsTx : Try.prog.cellsOf 58 = 4 := by kernel_rfl
theorem cellsS64 : Try.prog.cellsOf 56 = 1 := by kernel_rfl
theorem cellsSK : Try.prog.cellsOf 53 = 1 := by kernel_rfl
theorem bytes64 : Try.prog.bytesOf 2 = 8 := by kernel_rfl
theorem bytesTx : Try.prog.bytesOf 58 = 80 := by kernel_rfl
set_option maxRecDepth 100000 in
theorem nums_of_trod {H : Type} {enc : TypeId × Value → H} {W : World} {fuel : Nat} {cs : List Value} {y : DataW H × List MemPlace}
    (hf : DataW.trod enc Try.prog W 0 (fun _ => true) true fuel 56 cs = some y) :
    ∃ (a : Option Addr) (len cap : Nat) (S : List Int), cs = [.slice a len cap] ∧ (len = S.length ∧ NumsAt W a S ∧ (a = none → cap = 0) ∧ len ≤ cap ∧ (∀ x ∈ S, In64 x)) ∧
      (len = 0 ∨ ∃ elems spare, y.1 = .slice elems spare ∧ len ≤ elems.length + spare.length) := by
  rcases Deep.open_slice Try.underlying56 hf with ⟨rfl, rfl⟩ | ⟨a, len, cap, m, n, D, Pl, rfl, hb, hl, hm, hmm, rfl, hx⟩
  · exact ⟨none, 0, 0, [], rfl, ⟨rfl, .inl rfl, fun _ => rfl, Nat.le_refl _, by simp⟩, .inl rfl⟩
  · have hle : len ≤ m := by rw [hmm]; simpa using hl
    rw [cells64] at hx
    obtain ⟨Z, hZ⟩ := Deep.choose_lt (α := Int) (n := len) (p := fun i k => ∃ b off, a.add (i * 1) = ⟨b, off, none⟩ ∧ W.cell? ⟨b, off, none⟩ = some (.int .i64 k) ∧ In64 k) (fun i hi => by
      obtain ⟨cs', h1, h2⟩ := hx i (by omega)
      obtain ⟨_, hlen, hcell⟩ := World.cells?_some h1
      obtain ⟨x, e, _, wx⟩ := DataW.trod_int Try.underlying2 h2
      subst e
      have e0 := hcell 0 (by omega)
      generalize a.add (i * 1) = ad at *
      obtain ⟨b, off, spot⟩ := ad
      have hspot : spot = none := by
        have h1 : (⟨b, off, spot⟩ : Addr).add 0 = ⟨b, off, spot⟩ := by simp [Addr.add]
        rw [h1] at e0
        exact World.cell?_spot e0
      subst hspot
      rw [Go.WideShapes.add_plain] at e0
      exact ⟨x, b, off, rfl, by simpa using e0, bounds_i64 wx⟩)
    refine ⟨some a, len, cap, (List.range len).map Z, rfl, ⟨by simp, ?_, by simp, by simpa using hl, ?_⟩, .inr ⟨_, _, rfl, by simp⟩⟩
    · by_cases h0 : len = 0
      · left; subst h0; rfl
      · right
        obtain ⟨b, off, h1, _⟩ := hZ 0 (by omega)
        have h1' : a = ⟨b, off, none⟩ := by simpa [Addr.add] using h1
        subst h1'
        refine ⟨b, off, rfl, fun j u hu => ?_⟩
        have hj : j < len := by have := (List.getElem?_eq_some_iff.1 hu).1; simpa using this
        obtain ⟨b', off', h2, h3, _⟩ := hZ j hj
        rw [Go.WideShapes.add_plain, Nat.mul_one] at h2
        simp only [Addr.mk.injEq, and_true] at h2
        obtain ⟨rfl, rfl⟩ := h2
        simp [hj] at hu
        rw [h3, ← hu]
    · intro x hx
      obtain ⟨i, hi, rfl⟩ := List.mem_map.1 hx
      obtain ⟨_, _, _, _, h5⟩ := hZ i (by simpa using hi)
      exact h5
/-- its parts are within reach -/
def SizedT {H : Type} (d : DataW H) : Prop := ∀ z ∈ d.weights Try.prog 58, z ≤ reachBytes
set_option maxRecDepth 100000 in
theorem tx_of_trod {H : Type} {enc : TypeId × Value → H} {W : World} {fuel : Nat} {a : Addr} {i : Nat} {cs : List Value} {y : DataW H × List MemPlace} (hc : W.cells? 0 (a.add (i * 4)) 4 = some cs)
    (hf : DataW.trod enc Try.prog W 0 (fun _ => true) true fuel 58 cs = some y) :
    ∃ (b off : Nat) (x : Bx), a.add (i * 4) = ⟨b, off, none⟩ ∧ (∀ j u, (bxc x)[j]? = some u → W.cell? ⟨b, off + j, none⟩ = some u) ∧ (SizedT y.1 → BxOK W x) := by
  obtain ⟨_, hlen, hcell⟩ := World.cells?_some hc
  obtain ⟨xs, k, hk, rfl, _, hxl, hf⟩ := DataW.trod_struct Try.underlying58 hf
  match xs, hxl, cs, hlen with
  | [y0, y1, y2, y3], _, [v0, v1, v2, v3], _ =>
    have g0 := hf 0 _ rfl
    have g1 := hf 1 _ rfl
    have g2 := hf 2 _ rfl
    have g3 := hf 3 _ rfl
    simp [cellsInt', cellsS64, cellsSK] at g0 g1 g2 g3
    generalize a.add (i * 4) = ad at *
    obtain ⟨b, off, spot⟩ := ad
    have hspot : spot = none := by
      have e0 := hcell 0 (by omega)
      have h1 : (⟨b, off, spot⟩ : Addr).add 0 = ⟨b, off, spot⟩ := by simp [Addr.add]
      rw [h1] at e0
      exact World.cell?_spot e0
    subst hspot
    obtain ⟨x0, h0, _, wx0⟩ := DataW.trod_int Try.underlying3 g0
    obtain ⟨aA, nA, cA, A, hA, ⟨lA, atA, nilA, capA, inA⟩, zA⟩ := nums_of_trod g1
    obtain ⟨aR, nR, cR, R, hR, ⟨lR, atR, nilR, capR, _, inR⟩, zR⟩ := keys_of_trod g2
    obtain ⟨aW, nW, cW, V, hV, ⟨lW, atW, nilW, capW, _, inW⟩, zW⟩ := keys_of_trod g3
    simp only [List.cons.injEq, and_true] at h0 hA hR hV
    subst h0 hA hR hV lA lR lW
    refine ⟨b, off, ⟨⟨x0, A, R, V⟩, aA, cA, aR, cR, aW, cW⟩, rfl, fun j u hu => ?_, fun hz => ?_⟩
    · have hj : j < 4 := (List.getElem?_eq_some_iff.1 hu).1
      have := hcell j hj
      rw [Go.WideShapes.add_plain] at this
      rw [this]; exact hu
    · simp only [SizedT, List.map_cons, List.map_nil, DataW.weights, Try.underlying58] at hz
      have bA : A.length * 8 ≤ reachBytes := by
        rcases zA with h0 | ⟨elems, spare, e, hle⟩
        · omega
        · have z2 := hz ((elems.length + spare.length) * 8) (by
            refine DataW.weights_mem_each (j := 1) (t := 56) (d := .slice elems spare) rfl (by rw [← e]; rfl) _ ?_
            simp [DataW.weights, Try.underlying56, bytes64])
          omega
      have bR : R.length * 16 ≤ reachBytes := by
        rcases zR with h0 | ⟨elems, spare, e, hle⟩
        · omega
        · have z2 := hz ((elems.length + spare.length) * 16) (by
            refine DataW.weights_mem_each (j := 2) (t := 53) (d := .slice elems spare) rfl (by rw [← e]; rfl) _ ?_
            simp [DataW.weights, Try.underlying53, bytesKey])
          omega
      have bW : V.length * 16 ≤ reachBytes := by
        rcases zW with h0 | ⟨elems, spare, e, hle⟩
        · omega
        · have z2 := hz ((elems.length + spare.length) * 16) (by
            refine DataW.weights_mem_each (j := 3) (t := 53) (d := .slice elems spare) rfl (by rw [← e]; rfl) _ ?_
            simp [DataW.weights, Try.underlying53, bytesKey])
          omega
      simp only [reachBytes] at bA bR bW
      exact ⟨atA, atR, atW, bounds_i64 wx0, inA, fun k hk => inR k hk, fun k hk => inW k hk, nilA, nilR, nilW, capA, capR, capW, by show A.length * 8 ≤ _; omega, by show R.length * 16 ≤ _; omega, by show V.length * 16 ≤ _; omega⟩
theorem weightsAll_mem {H : Type} {P : Program} {e : TypeId} : ∀ {ds : List (DataW H)} {d : DataW H}, d ∈ ds → ∀ z ∈ d.weights P e, z ∈ DataW.weightsAll P e ds
  | d0 :: ds, d, hd, z, hz => by
    simp only [DataW.weightsAll, List.mem_append]
    rcases List.mem_cons.1 hd with rfl | h
    · exact .inl hz
    · exact .inr (weightsAll_mem h z hz)
theorem bxcs_of {w : World} {b off : Nat} : ∀ (Ps : List Bx), (∀ i, i < Ps.length → ∀ j u, (bxc (bd Ps i))[j]? = some u → w.cell? ⟨b, off + i * 4 + j, none⟩ = some u) → ∀ j u, (bxcs Ps)[j]? = some u → w.cell? ⟨b, off + j, none⟩ = some u := by
  intro Ps h j u hu
  have hj : j < Ps.length * 4 := by rw [← bxcs_length]; exact (List.getElem?_eq_some_iff.1 hu).1
  obtain ⟨q, i, rfl, hi⟩ : ∃ q i, j = q * 4 + i ∧ i < 4 := ⟨j / 4, j % 4, by omega, Nat.mod_lt _ (by omega)⟩
  have hq : q < Ps.length := by omega
  rw [bxcs_at Ps q i hq hi] at hu
  have := h q hq i u hu
  rw [show off + q * 4 + i = off + (q * 4 + i) by omega] at this
  exact this
set_option maxRecDepth 100000 in
/-- what the reading of a slice of transactions gives -/
theorem bat_of_trod {H : Type} {enc : TypeId × Value → H} {W : World} {fuel : Nat} {cs : List Value} {y : DataW H × List MemPlace}
    (hf : DataW.trod enc Try.prog W 0 (fun _ => true) true fuel 22 cs = some y) :
    ∃ (a : Option Addr) (len cap : Nat) (Ps : List Bx), cs = [.slice a len cap] ∧ len = Ps.length ∧ len ≤ cap ∧ cap ≤ maxLen ∧ (a = none → cap = 0) ∧
      ((∀ z ∈ y.1.weights Try.prog 22, z ≤ reachBytes) → BatAt W a Ps ∧ len * 80 ≤ reachBytes) := by
  rcases Deep.open_slice Try.underlying22 hf with ⟨rfl, rfl⟩ | ⟨a, len, cap, m, n, D, Pl, rfl, hb, hl, hm, hmm, rfl, hx⟩
  · exact ⟨none, 0, 0, [], rfl, rfl, Nat.le_refl _, Nat.zero_le _, fun _ => rfl, fun _ => ⟨⟨.inl rfl, fun x hx => by cases hx⟩, by simp⟩⟩
  · have hle : len ≤ m := by rw [hmm]; simpa using hl
    have hI : Inhabited Bx := ⟨bxD⟩
    rw [cellsTx] at hx
    obtain ⟨Z, hZ⟩ := Deep.choose_lt (α := Bx) (n := len) (p := fun i x => ∃ b off, a.add (i * 4) = ⟨b, off, none⟩ ∧ (∀ j u, (bxc x)[j]? = some u → W.cell? ⟨b, off + j, none⟩ = some u) ∧ (SizedT (D i) → BxOK W x)) (fun i hi => by
      obtain ⟨cs', h1, h2⟩ := hx i (by omega)
      obtain ⟨b, off, x, h3⟩ := tx_of_trod h1 h2
      exact ⟨x, b, off, h3⟩)
    have hpd : ∀ i, i < len → bd ((List.range len).map Z) i = Z i := fun i hi => by simp [bd, List.getD_eq_getElem?_getD, hi]
    refine ⟨some a, len, cap, (List.range len).map Z, rfl, by simp, hl, hm, by simp, fun hz => ?_⟩
    simp only [DataW.weights, Try.underlying22, bytesTx, List.mem_cons, List.mem_append] at hz
    refine ⟨⟨?_, fun x hx' => ?_⟩, ?_⟩
    · by_cases h0 : len = 0
      · left; subst h0; rfl
      · right
        obtain ⟨b, off, h1, _⟩ := hZ 0 (by omega)
        have h1' : a = ⟨b, off, none⟩ := by simpa [Addr.add] using h1
        subst h1'
        refine ⟨b, off, rfl, bxcs_of ((List.range len).map Z) (fun i hi j u hu => ?_)⟩
        have hi' : i < len := by simpa using hi
        obtain ⟨b', off', h2, h3, _⟩ := hZ i hi'
        rw [Go.WideShapes.add_plain] at h2
        simp only [Addr.mk.injEq, and_true] at h2
        obtain ⟨rfl, rfl⟩ := h2
        rw [hpd i hi'] at hu
        exact h3 j u hu
    · obtain ⟨i, hi, rfl⟩ := List.mem_map.1 hx'
      have hi' : i < len := by simpa using hi
      obtain ⟨_, _, _, _, h4⟩ := hZ i hi'
      refine h4 (fun z hzz => hz z (.inr (.inl (weightsAll_mem (ds := (List.range len).map D) (List.mem_map.2 ⟨i, by simpa using hi', rfl⟩) z hzz))))
    · have := hz _ (.inl rfl)
      simp at this
      omega
end Go.Proofs.Ytciogmenoighoaa.Kk
/-
  A BATCH OF SMALL BULK IS WITHIN REACH.
-/
namespace Go.Proofs.Ytciogmenoighoaa.Kk

def STx (t : TypeId) : Prop := t = 22 ∨ t = 58 ∨ t = 3 ∨ t = 56 ∨ t = 2 ∨ t = 53 ∨ t = 78
theorem shutTx : Shut Try.prog STx 100 := by
  refine ⟨by omega, ?_, ?_, ?_, ?_, ?_, ?_⟩
  · rintro t (rfl | rfl | rfl | rfl | rfl | rfl | rfl) <;> exact of_decide_eq_true (by kernel_rfl)
  · rintro t e (rfl | rfl | rfl | rfl | rfl | rfl | rfl) h
    · rw [Try.underlying22] at h; simp at h
    · rw [Try.underlying58] at h; simp at h
    · rw [Try.underlying3] at h; simp at h
    · rw [Try.underlying56] at h; simp at h
    · rw [Try.underlying2] at h; simp at h
    · rw [Try.underlying53] at h; simp at h
    · rw [Try.underlying78] at h; simp at h
  · rintro t e (rfl | rfl | rfl | rfl | rfl | rfl | rfl) h
    · rw [Try.underlying22] at h; simp at h; subst h; simp [STx]
    · rw [Try.underlying58] at h; simp at h
    · rw [Try.underlying3] at h; simp at h
    · rw [Try.underlying56] at h; simp at h; subst h; simp [STx]
    · rw [Try.underlying2] at h; simp at h
    · rw [Try.underlying53] at h; simp at h; subst h; simp [STx]
    · rw [Try.underlying78] at h; simp at h
  · rintro t n e (rfl | rfl | rfl | rfl | rfl | rfl | rfl) h
    · rw [Try.underlying22] at h; simp at h
    · rw [Try.underlying58] at h; simp at h
    · rw [Try.underlying3] at h; simp at h
    · rw [Try.underlying56] at h; simp at h
    · rw [Try.underlying2] at h; simp at h
    · rw [Try.underlying53] at h; simp at h
    · rw [Try.underlying78] at h; simp at h
  · rintro t fs (rfl | rfl | rfl | rfl | rfl | rfl | rfl) h
    · rw [Try.underlying22] at h; simp at h
    · rw [Try.underlying58] at h; simp at h; subst h; intro x hx; simp at hx; (first | (rcases hx with rfl | rfl | rfl | rfl) | (rcases hx with rfl | rfl | rfl) | (rcases hx with rfl | rfl)) <;> simp [STx]
    · rw [Try.underlying3] at h; simp at h
    · rw [Try.underlying56] at h; simp at h
    · rw [Try.underlying2] at h; simp at h
    · rw [Try.underlying53] at h; simp at h
    · rw [Try.underlying78] at h; simp at h; subst h; intro x hx; simp at hx; (first | (rcases hx with rfl | rfl | rfl | rfl) | (rcases hx with rfl | rfl | rfl) | (rcases hx with rfl | rfl)) <;> simp [STx]
  · rintro t k e (rfl | rfl | rfl | rfl | rfl | rfl | rfl) h
    · rw [Try.underlying22] at h; simp at h
    · rw [Try.underlying58] at h; simp at h
    · rw [Try.underlying3] at h; simp at h
    · rw [Try.underlying56] at h; simp at h
    · rw [Try.underlying2] at h; simp at h
    · rw [Try.underlying53] at h; simp at h
    · rw [Try.underlying78] at h; simp at h
theorem bat_reach {H : Type} {d : DataW H} (hb : Rows.uptoBulk d ≤ 1048576) : ∀ z ∈ d.weights Try.prog 22, z ≤ reachBytes := reach_of shutTx (by omega) (.inl rfl) hb
end Go.Proofs.Ytciogmenoighoaa.Kk
