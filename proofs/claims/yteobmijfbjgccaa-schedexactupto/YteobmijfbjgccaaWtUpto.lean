/-
  WHAT IS OF SMALL BULK IS WITHIN REACH.
-/
import Derived.Test.YteobmijfbjgccaaBulk
namespace Go.Proofs.Yteobmijfbjgccaa

theorem mul_mono_r {a b c : Nat} (h : a ≤ b) : a * c ≤ b * c := Nat.mul_le_mul_right c h
structure Shut (P : Program) (S : TypeId → Prop) (C : Nat) : Prop where
  one : 1 ≤ C
  bytes : ∀ t, S t → P.bytesOf t ≤ C
  ptr : ∀ t e, S t → P.underlying t = some (.pointer e) → S e
  slice : ∀ t e, S t → P.underlying t = some (.slice e) → S e
  array : ∀ t n e, S t → P.underlying t = some (.array n e) → S e
  struct : ∀ t fs, S t → P.underlying t = some (.struct fs) → ∀ x ∈ fs.toList.map (·.type), S x
  map : ∀ t k e, S t → P.underlying t = some (.map k e) → S k ∧ S e
theorem wtp_le {H : Type} : (x : Lit × DataW H) → 1 ≤ Rows.uptoBulkEntry x
  | (l, d) => by cases l <;> simp [Rows.uptoBulkEntry]
theorem wtl_le {H : Type} : (es : List (Lit × DataW H)) → es.length ≤ Rows.uptoBulkEntries es
  | [] => by simp
  | x :: r => by
    have := wtl_le r
    have h2 := wtp_le x
    simp only [Rows.uptoBulkEntries, List.length_cons]
    omega
mutual
theorem wt_le {H : Type} {P : Program} {S : TypeId → Prop} {C : Nat} (hS : Shut P S C) : (d : DataW H) → (t : TypeId) → S t → ∀ z ∈ d.weights P t, z ≤ Rows.uptoBulk d * (C + C)
  | .lit l, t, _ => by
    intro z hz
    have := hS.one
    cases l <;> simp [DataW.weights] at hz
    subst hz
    simp only [Rows.uptoBulk]
    exact Nat.le_trans (Nat.le_succ _) (Nat.le_mul_of_pos_right _ (by omega))
  | .nil, t, _ => by simp [DataW.weights]
  | .ptr d, t, ht => by
    intro z hz
    simp only [DataW.weights] at hz
    split at hz
    · rename_i e hu
      exact Nat.le_trans (wt_le hS d e (hS.ptr t e ht hu) z hz) (mul_mono_r (by simp only [Rows.uptoBulk]; omega))
    · simp at hz
  | .slice elems spare, t, ht => by
    intro z hz
    simp only [DataW.weights] at hz
    split at hz
    · rename_i e hu
      have he := hS.slice t e ht hu
      simp only [List.mem_cons, List.mem_append] at hz
      simp only [Rows.uptoBulk]
      rcases hz with rfl | hz | hz
      · have b1 := bulk_length elems
        have b2 := bulk_length spare
        have b3 := hS.bytes e he
        exact Nat.mul_le_mul (by omega) (by omega)
      · exact Nat.le_trans (wts_le hS elems e he z hz) (mul_mono_r (by omega))
      · exact Nat.le_trans (wts_le hS spare e he z hz) (mul_mono_r (by omega))
    · simp at hz
  | .agg parts, t, ht => by
    intro z hz
    simp only [DataW.weights] at hz
    simp only [Rows.uptoBulk]
    split at hz
    · rename_i fs hu
      exact Nat.le_trans (wte_le hS parts _ (hS.struct t fs ht hu) z hz) (mul_mono_r (by omega))
    · rename_i n e hu
      exact Nat.le_trans (wts_le hS parts _ (hS.array t n e ht hu) z hz) (mul_mono_r (by omega))
    · simp at hz
  | .iface _ _, t, _ => by simp [DataW.weights]
  | .map entries, t, ht => by
    intro z hz
    simp only [DataW.weights] at hz
    simp only [Rows.uptoBulk]
    split at hz
    · rename_i k e hu
      obtain ⟨hk, he⟩ := hS.map t k e ht hu
      simp only [List.mem_cons] at hz
      rcases hz with rfl | hz
      · have b1 := wtl_le entries
        have := hS.bytes k hk
        have := hS.bytes e he
        exact Nat.mul_le_mul (by omega) (by omega)
      · exact Nat.le_trans (wtm_le hS entries e he z hz) (mul_mono_r (by omega))
    · simp at hz
  | .held _, t, _ => by simp [DataW.weights]
theorem wts_le {H : Type} {P : Program} {S : TypeId → Prop} {C : Nat} (hS : Shut P S C) : (ds : List (DataW H)) → (e : TypeId) → S e → ∀ z ∈ DataW.weightsAll P e ds, z ≤ Rows.uptoBulkAll ds * (C + C)
  | [], e, _ => by simp [DataW.weightsAll]
  | d :: r, e, he => by
    intro z hz
    simp only [DataW.weightsAll, List.mem_append] at hz
    simp only [Rows.uptoBulkAll]
    rcases hz with hz | hz
    · exact Nat.le_trans (wt_le hS d e he z hz) (mul_mono_r (by omega))
    · exact Nat.le_trans (wts_le hS r e he z hz) (mul_mono_r (by omega))
theorem wte_le {H : Type} {P : Program} {S : TypeId → Prop} {C : Nat} (hS : Shut P S C) : (ds : List (DataW H)) → (ts : List TypeId) → (∀ x ∈ ts, S x) → ∀ z ∈ DataW.weightsEach P ts ds, z ≤ Rows.uptoBulkAll ds * (C + C)
  | [], ts, _ => by cases ts <;> simp [DataW.weightsEach]
  | d :: r, [], _ => by simp [DataW.weightsEach]
  | d :: r, t :: ts, hts => by
    intro z hz
    simp only [DataW.weightsEach, List.mem_append] at hz
    simp only [Rows.uptoBulkAll]
    rcases hz with hz | hz
    · exact Nat.le_trans (wt_le hS d t (hts t (by simp)) z hz) (mul_mono_r (by omega))
    · exact Nat.le_trans (wte_le hS r ts (fun x hx => hts x (by simp [hx])) z hz) (mul_mono_r (by omega))
theorem wtm_le {H : Type} {P : Program} {S : TypeId → Prop} {C : Nat} (hS : Shut P S C) : (es : List (Lit × DataW H)) → (e : TypeId) → S e → ∀ z ∈ DataW.weightsEntries P e es, z ≤ Rows.uptoBulkEntries es * (C + C)
  | [], e, _ => by simp [DataW.weightsEntries]
  | x :: r, e, he => by
    intro z hz
    simp only [DataW.weightsEntries, List.mem_append] at hz
    simp only [Rows.uptoBulkEntries]
    rcases hz with hz | hz
    · exact Nat.le_trans (wtn_le hS x e he z hz) (mul_mono_r (by omega))
    · exact Nat.le_trans (wtm_le hS r e he z hz) (mul_mono_r (by omega))
theorem wtn_le {H : Type} {P : Program} {S : TypeId → Prop} {C : Nat} (hS : Shut P S C) : (x : Lit × DataW H) → (e : TypeId) → S e → ∀ z ∈ DataW.weightsEntry P e x, z ≤ Rows.uptoBulkEntry x * (C + C)
  | (l, d), e, he => by
    intro z hz
    have hd := wt_le hS d e he
    have := hS.one
    cases l <;> simp only [DataW.weightsEntry, Rows.uptoBulkEntry, List.mem_cons] at hz ⊢
    case string bytes =>
      rcases hz with rfl | hz
      · exact Nat.le_trans (by omega : bytes.length ≤ bytes.length + Rows.uptoBulk d + 1) (Nat.le_mul_of_pos_right _ (by omega))
      · exact Nat.le_trans (hd z hz) (mul_mono_r (by omega))
    all_goals exact Nat.le_trans (hd z hz) (mul_mono_r (by omega))
end
/-- of small bulk: within reach -/
theorem reach_of {H : Type} {P : Program} {S : TypeId → Prop} {C : Nat} (hS : Shut P S C) (hC : C ≤ 1000) {d : DataW H} {t : TypeId} (ht : S t) (hb : Rows.uptoBulk d ≤ 1048576) : ∀ z ∈ d.weights P t, z ≤ reachBytes := by
  intro z hz
  have h1 := wt_le hS d t ht z hz
  have h2 : Rows.uptoBulk d * (C + C) ≤ 1048576 * 2000 := Nat.mul_le_mul hb (by omega)
  simp only [reachBytes]
  omega
end Go.Proofs.Yteobmijfbjgccaa
