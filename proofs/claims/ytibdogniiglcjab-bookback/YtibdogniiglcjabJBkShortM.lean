import Derived.Test.YtibdogniiglcjabJBkLent
import Derived.Test.YtibdogniiglcjabJBkShortH
/-
  BookShort: MORE MATHEMATICS.
-/
namespace Go.Proofs.Ytibdogniiglcjab
open Go.RowKit Go.Sort

theorem seenN_same {d d2 : List Int} (h : ∀ x, x ∈ d ↔ x ∈ d2) (b nx : Int) : seenN d b nx = seenN d2 b nx := by
  unfold seenN
  rw [Bool.eq_iff_iff, List.any_eq_true, List.any_eq_true]
  exact ⟨fun ⟨x, hx, h1⟩ => ⟨x, (h x).1 hx, h1⟩, fun ⟨x, hx, h1⟩ => ⟨x, (h x).2 hx, h1⟩⟩
theorem keepR_d {d d2 : List Int} (h : ∀ x, x ∈ d ↔ x ∈ d2) {k : K} : ∀ (l : List V4) (nb : Int), keepR d k l nb = keepR d2 k l nb
  | [], _ => rfl
  | v :: l, nb => by simp only [keepR, seenN_same h, keepR_d h l]
theorem kpt_d {d d2 : List Int} (h : ∀ x, x ∈ d ↔ x ∈ d2) (l : List V4) : kpt d l = kpt d2 l := by
  unfold kpt
  split
  · rfl
  · rw [keepR_d h]
theorem CollN.d {d d2 : List Int} {all all' : List V4} (h : ∀ x, x ∈ d ↔ x ∈ d2) (hc : CollN d all all') : CollN d2 all all' := ⟨hc.1, fun k => by rw [← kpt_d h]; exact hc.2 k⟩
theorem sum_le {S : List K} {f : K → Nat} {m : Nat} (h : ∀ k ∈ S, f k ≤ m) : (S.map f).sum ≤ S.length * m := by
  induction S with
  | nil => simp
  | cons k S ih =>
    have h1 := ih (fun x hx => h x (by simp [hx]))
    have h2 := h k (by simp)
    rw [List.map_cons, List.sum_cons, List.length_cons, Nat.add_mul]
    omega
theorem sum_take {S : List K} {f : K → Nat} {i : Nat} (h : i < S.length) : ((S.take (i + 1)).map f).sum = ((S.take i).map f).sum + f S[i] := by
  rw [List.take_succ_eq_append_getElem h, List.map_append, List.sum_append_nat]
  simp
/-- what is behind a collect -/
structure Shrt (d : List Int) (p : Nat) (nw : List K) (all : List V4) : Prop where
  nd : (sortK nw).Nodup
  len : (sortK nw).length = nw.length
  mem : ∀ v ∈ all, v.1 ∈ sortK nw
  one : ∀ k ∈ sortK nw, 1 ≤ (ofV k all).length ∧ (ofV k all).length ≤ p + 1
  kin : ∀ k ∈ sortK nw, KIn k
theorem Shrt.total {d : List Int} {p : Nat} {nw : List K} {all : List V4} (h : Shrt d p nw all) : ((sortK nw).map (fun k => (ofV k all).length)).sum = all.length := sum_ofV h.nd all h.mem
theorem Shrt.room {d : List Int} {p : Nat} {nw : List K} {all : List V4} (h : Shrt d p nw all) : all.length ≤ nw.length * (p + 1) := by
  rw [← h.total, ← h.len]
  exact sum_le (fun k hk => (h.one k hk).2)
theorem shrt_of {w : World} {B Mp Mc Mn : Nat} {cap la fl : Int} {pins : List (Int × Int)} {all all' : List V4} {nw : List K} {d : List Int} (h : BA w B Mp Mc Mn cap la fl pins all' nw) (hc : CollN d all all') (hd : d.Perm (pins.map Prod.fst)) : Shrt d pins.length nw all' := by
  have hnd : nw.Nodup := by have := h.mn.kn; simpa [List.map_map, Function.comp_def] using this
  have hik : ∀ k ∈ nw, isKey k = true := fun k hk => by
    obtain ⟨v, hv, rfl⟩ := (h.nwa k).1 hk
    exact h.ik v hv
  have hr := sortK_rise hik
  have hnS : (sortK nw).Nodup := hr.2.imp (fun {a b} hab e => by subst e; rw [lt_irrefl] at hab; cases hab)
  have hl : (sortK nw).length = nw.length := by
    have h1 := nodup_len (sortK nw) nw hnS (fun x hx => (sortK_mem nw x).1 hx)
    have h2 := nodup_len nw (sortK nw) hnd (fun x hx => (sortK_mem nw x).2 hx)
    omega
  refine ⟨hnS, hl, fun v hv => (sortK_mem nw _).2 ((h.nwa _).2 ⟨v, hv, rfl⟩), fun k hk => ?_, fun k hk => ?_⟩
  · have hk' := (sortK_mem nw k).1 hk
    obtain ⟨v, hv, rfl⟩ := (h.nwa k).1 hk'
    constructor
    · have : v ∈ ofV v.1 all' := by simp [ofV, hv]
      exact List.length_pos_of_mem this
    · rw [hc.2]
      have h1 := kpt_len (d := d) (k := v.1) (l := ofV v.1 all) (fun u hu => by simpa [ofV] using (List.mem_filter.1 hu).2)
      have h2 := hd.length_eq
      simp at h2
      omega
  · exact h.mn.dm (k, pv (nf f0 all' k)) (List.mem_map.2 ⟨k, (sortK_mem nw k).1 hk, rfl⟩)
theorem adm_fits {cap la : Int} {all : List V4} {L : List (List K)} {m p : Nat} (hw : 0 ≤ wgtE L) (hr : (all.length : Int) ≤ (m : Int) * ((p : Int) + 1)) (hf : (m : Int) * ((p : Int) + 1) + wgtE L ≤ cap) (hl : la ≠ 1099511627776) : admE cap la all L = 0 := by
  by_cases hF : formN L = 0
  · have e := wgtE_ok hF
    unfold admE
    rw [if_neg (by simp [hF]), if_neg hl, if_neg (by omega)]
  · have := wgtE_bad rfl hF
    omega
end Go.Proofs.Ytibdogniiglcjab
