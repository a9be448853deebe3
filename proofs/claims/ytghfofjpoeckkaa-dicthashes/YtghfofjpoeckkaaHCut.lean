/-
  A LIST WITHOUT ONE OF ITS ELEMENTS: append(append([]T{}, l[:at]...), l[at+1:]...).
-/
import Derived.Test.YtghfofjpoeckkaaHDo
namespace Go.Proofs.Ytghfofjpoeckkaa
open Go.RowKit Go.Sort

/-- pairs as cells -/
def prs : List (Int × Int) → List Value
  | [] => []
  | v :: l => .int .i64 v.1 :: .int .i64 v.2 :: prs l
theorem prs_len (l : List (Int × Int)) : (prs l).length = l.length * 2 := by
  induction l with
  | nil => rfl
  | cons v l ih => simp [prs, ih]; omega
theorem prs_append (A B : List (Int × Int)) : prs (A ++ B) = prs A ++ prs B := by
  induction A with
  | nil => rfl
  | cons v l ih => simp [prs, ih]
theorem prs_at (l : List (Int × Int)) (i : Nat) (hi : i < l.length) : (prs l)[i * 2]? = some (.int .i64 l[i].1) ∧ (prs l)[i * 2 + 1]? = some (.int .i64 l[i].2) := by
  induction l generalizing i with
  | nil => simp at hi
  | cons v l ih =>
    cases i with
    | zero => simp [prs]
    | succ i =>
      have := ih i (by simpa using hi)
      rw [show (i + 1) * 2 = i * 2 + 1 + 1 by omega]
      simpa [prs] using this
theorem prs_one (l : List (Int × Int)) : ∀ v ∈ prs l, v.oneCell' = true := by
  induction l with
  | nil => simp [prs]
  | cons v l ih =>
    intro u hu
    simp only [prs, List.mem_cons] at hu
    rcases hu with rfl | rfl | hu
    · rfl
    · rfl
    · exact ih u hu
theorem sks_one (l : List K) : ∀ v ∈ sks l, v.oneCell' = true := by
  intro v hv
  obtain ⟨k, _, rfl⟩ := List.mem_map.1 hv
  rfl
theorem sks_len (l : List K) : (sks l).length = l.length := by simp [sks]
theorem infoPr : (Try.prog.info? 28).map (fun i => (i.zero, i.size, i.bytes)) = some (some (.agg #[.int .i64 0, .int .i64 0]), 2, 16) := by kernel_rfl
/-- a kind of elements -/
structure AK (S T : TypeId) (sz : Nat) (z : Value) : Prop where
  ht : Try.prog.underlying S = some (.slice T)
  info : (Try.prog.info? T).map (fun i => (i.zero, i.size, i.bytes)) = some (some z, sz, 16)
  zs : z.cells.size = sz
  s0 : 0 < sz
theorem akS : AK 31 9 1 (.string ⟨#[]⟩) := ⟨Try.underlying31, infoS, rfl, by omega⟩
theorem akP : AK 32 28 2 (.agg #[.int .i64 0, .int .i64 0]) := ⟨Try.underlying32, infoPr, rfl, by omega⟩
theorem AK.app {S T : TypeId} {sz : Nat} {z : Value} (h : AK S T sz z) (w : World) (ty : TypeId) (base : Nat) (v : Value) (n : Nat) (xs : List Value) (hown : w.ownsRow base T sz v n xs) (a : Addr) (m c : Nat) (news : List Value) (hl : news.length = m * sz) (hnews : ∀ j u, news[j]? = some u → w.cell? (a.add j) = some u) (h1 : ∀ u ∈ news, u.oneCell' = true) (hm : n + m ≤ 8000000000000) (hb : base ≤ w.heap.size) :
    ∃ v' w', (Builtin.append_ #[S, S] ty #[v, .slice (some a) m c]).run Try.prog w = .ok v' w' ∧ w'.ownsRow base T sz v' (n + m) (xs ++ news) ∧ w.grownBy w' v.ownBlock ∧ (v'.ownBlock = v.ownBlock ∨ v'.ownBlock = some w.heap.size) ∧ (v' = .slice none 0 0 ↔ v = .slice none 0 0 ∧ m = 0) := by
  obtain ⟨i0, hi, hz0, hz1, hz2⟩ := info_parts h.info
  obtain ⟨v', w', a1, a2, a3, a4, a5⟩ := run_append_own_at (P := Try.prog) w base S ty T i0 z sz 16 h.ht hi hz0 hz1 hz2 h.zs h.s0 v n xs hown a m c news hl hnews h1 (by unfold maxLen; omega) (by omega) hb
  exact ⟨v', w', a1, a2, a3, a5, a4⟩
theorem own_open {w : World} {base T sz n : Nat} {v : Value} {xs : List Value} (h : w.ownsRow base T sz v n xs) (hne : v ≠ .slice none 0 0) : ∃ g c, v = .slice (some ⟨g, 0, none⟩) n c ∧ base ≤ g ∧ g < w.heap.size ∧ n ≤ c := by
  obtain ⟨_, ⟨e, _⟩ | ⟨g, cap, cur, e, hg, hh, hn, _⟩⟩ := h
  · exact absurd e hne
  · exact ⟨g, cap, e, hg, blk_lt hh, hn⟩
/-- the two appends, as the region runs them -/
theorem AK.cut {S T : TypeId} {sz : Nat} {z : Value} (h : AK S T sz z) (W : World) (ty : TypeId) (g at_ cap m2 c2 : Nat) (a2 : Addr) (A C : List Value) (hg : g < W.heap.size) (hA : A.length = at_ * sz) (hC : C.length = m2 * sz) (cA : ∀ j u, A[j]? = some u → W.cell? ((⟨g, 0, none⟩ : Addr).add j) = some u) (cC : ∀ j u, C[j]? = some u → W.cell? (a2.add j) = some u) (hn2 : ∀ j, (a2.add j).block = g) (oA : ∀ u ∈ A, u.oneCell' = true) (oC : ∀ u ∈ C, u.oneCell' = true) (hm : at_ + m2 ≤ 8000000000000) :
    ∃ g1 c1 w1 v2 w2, (Builtin.append_ #[S, S] ty #[.slice (some ⟨W.heap.size, 0, none⟩) 0 0, .slice (some ⟨g, 0, none⟩) at_ cap]).run Try.prog (W.alloc (.cells #[] T)).drew = .ok (.slice (some ⟨g1, 0, none⟩) at_ c1) w1 ∧
      (Builtin.append_ #[S, S] ty #[.slice (some ⟨g1, 0, none⟩) at_ c1, .slice (some a2) m2 c2]).run Try.prog w1 = .ok v2 w2 ∧ w2.ownsRow W.heap.size T sz v2 (at_ + m2) (A ++ C) ∧ Below W.heap.size W w2 ∧ ∃ g2 c3, v2 = .slice (some ⟨g2, 0, none⟩) (at_ + m2) c3 := by
  have hb0 : Below W.heap.size W (W.alloc (.cells #[] T)).drew := by
    have := (Below.refl W.heap.size W).alloc (Nat.le_refl _) (.cells #[] T)
    exact ⟨this.os, this.tape, this.output, this.size, this.block⟩
  have own0 : (W.alloc (.cells #[] T)).drew.ownsRow W.heap.size T sz (.slice (some ⟨W.heap.size, 0, none⟩) 0 0) 0 [] := World.ownsRow_made W #[] 0 (Nat.le_refl _) (Nat.zero_le _) (by simp)
  have keep : ∀ {w' : World}, Below W.heap.size W w' → ∀ {p : Addr} {u : Value}, p.block = g → W.cell? p = some u → w'.cell? p = some u := fun {w'} hb {p u} hp hc => (hb.cell (p := p) (by omega)).trans hc
  have hadd : ∀ j, ((⟨g, 0, none⟩ : Addr).add j).block = g := fun j => by rw [addr_add]
  obtain ⟨v1, w1, r1, o1, g1, b1, i1⟩ := h.app _ ty W.heap.size _ 0 [] own0 ⟨g, 0, none⟩ at_ cap A hA (fun j u hu => keep hb0 (hadd j) (cA j u hu)) oA (by omega) hb0.size
  have hbw1 : Below W.heap.size W w1 := hb0.trans (grown_below g1 (fun k hk => by simp [Value.ownBlock] at hk; omega) hb0.size)
  have hne1 : v1 ≠ .slice none 0 0 := fun e => by have := (i1.1 e).1; simp at this
  rw [Nat.zero_add, List.nil_append] at o1
  obtain ⟨gg, cc, rfl, hge, _, _⟩ := own_open o1 hne1
  obtain ⟨v2, w2, r2, o2, g2, b2, i2⟩ := h.app w1 ty W.heap.size _ at_ A o1 a2 m2 c2 C hC (fun j u hu => keep hbw1 (hn2 j) (cC j u hu)) oC hm hbw1.size
  have hbw2 : Below W.heap.size W w2 := hbw1.trans (grown_below g2 (fun k hk => by simp [Value.ownBlock] at hk; omega) hbw1.size)
  have hne2 : v2 ≠ .slice none 0 0 := fun e => by have := (i2.1 e).1; simp at this
  obtain ⟨g3, c3, e3, _⟩ := own_open o2 hne2
  exact ⟨gg, cc, w1, v2, w2, r1, r2, o2, hbw2, g3, c3, e3⟩
end Go.Proofs.Ytghfofjpoeckkaa
