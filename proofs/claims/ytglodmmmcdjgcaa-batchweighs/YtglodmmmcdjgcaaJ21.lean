import Derived.Test.YtglodmmmcdjgcaaJ20
import Derived.Test.YtglodmmmcdjgcaaJ10
/-
  THE WALK OF set.
-/
namespace Go.Proofs.Ytglodmmmcdjgcaa.Kk
open Go.RowKit Go.Sort

/-- a row of keys that a call has made -/
def OwnKs (w0 : World) (L : List K) (v : Value) (w' : World) : Prop := ∃ g, v = .slice (some ⟨g, 0, none⟩) L.length L.length ∧ RK w' g L ∧ w0.heap.size ≤ g
theorem setK {A : List K} {n k : Nat} {z : K} (hk : A.length = k) (hn : k < n) : (A ++ List.replicate (n - A.length) (0, 0)).set k z = (A ++ [z]) ++ List.replicate (n - (A ++ [z]).length) (0, 0) := by
  rw [List.set_append_right _ _ (by omega), hk, Nat.sub_self, show n - k = (n - (k + 1)) + 1 by omega, List.replicate_succ, List.set_cons_zero]
  simp [hk]
end Go.Proofs.Ytglodmmmcdjgcaa.Kk
/-
  THE WALK OF tx.
-/
namespace Go.Proofs.Ytglodmmmcdjgcaa.Kk
open Go.RowKit Go.Sort

/-- a transaction's lists, in rows that a call has made -/
def OwnTx (w0 : World) (t : Tp) (v : Value) (w' : World) : Prop := ∃ ga gr gw, v = .agg #[.int .i64 t.proc, .slice (some ⟨ga, 0, none⟩) t.args.length t.args.length, .slice (some ⟨gr, 0, none⟩) t.reads.length t.reads.length, .slice (some ⟨gw, 0, none⟩) t.writes.length t.writes.length] ∧
  R64 w' ga t.args ∧ RK w' gr t.reads ∧ RK w' gw t.writes ∧ w0.heap.size ≤ ga ∧ ga < gr ∧ gr < gw
abbrev zTx : Array Value := #[.int .i64 0, .slice none 0 0, .slice none 0 0, .slice none 0 0]
section
variable {w W W1 : World} {r : Nat} {a : Option Addr} {c : Nat} {b : List Nat} {q q1 : Nat} {x0 x1 x2 x3 : Value}
end
theorem ldTx (W : World) (G : Nat) (h : W.heap[G]? = some (.cells zTx 43 (0, 0))) (x0 x1 x2 x3 : Value) (h0 : ∃ z, x0 = .int .i64 z) (h1 : ∃ s n c, x1 = .slice s n c) (h2 : ∃ s n c, x2 = .slice s n c) (h3 : ∃ s n c, x3 = .slice s n c) :
    (loadVar 43 ⟨G, 0, none⟩).run Try.prog ((((W.setCell ⟨G, 0, none⟩ x0).setCell ⟨G, 1, none⟩ x1).setCell ⟨G, 2, none⟩ x2).setCell ⟨G, 3, none⟩ x3) = .ok (.agg #[x0, x1, x2, x3]) ((((W.setCell ⟨G, 0, none⟩ x0).setCell ⟨G, 1, none⟩ x1).setCell ⟨G, 2, none⟩ x2).setCell ⟨G, 3, none⟩ x3) := by
  obtain ⟨z, rfl⟩ := h0
  obtain ⟨s1, n1, c1, rfl⟩ := h1
  obtain ⟨s2, n2, c2, rfl⟩ := h2
  obtain ⟨s3, n3, c3, rfl⟩ := h3
  have g1 := heap_setCell_same W G 0 _ _ (.int .i64 z) h
  have g2 := heap_setCell_same _ G 1 _ _ (.slice s1 n1 c1) g1
  have g3 := heap_setCell_same _ G 2 _ _ (.slice s2 n2 c2) g2
  have g4 := heap_setCell_same _ G 3 _ _ (.slice s3 n3 c3) g3
  refine run_loadVar_mid (P := Try.prog) _ G 0 43 [.int .i64 z, .slice s1 n1 c1, .slice s2 n2 c2, .slice s3 n3 c3] _ ?_ Try.underlying43 rfl (by kernel_rfl)
  intro j v hv
  simp only [World.cell?, g4, Nat.zero_add]
  simpa using hv

end Go.Proofs.Ytglodmmmcdjgcaa.Kk
/-
  THE WALK OF batch.
-/
namespace Go.Proofs.Ytglodmmmcdjgcaa.Kk
open Go.RowKit Go.Sort

/-- a transaction that was read: its lists lie in rows of their own, between lo and hi -/
def DcT (W : World) (lo hi : Nat) (y : Bx) : Prop := ∃ ga gr gw, y = ⟨y.t, some ⟨ga, 0, none⟩, y.t.args.length, some ⟨gr, 0, none⟩, y.t.reads.length, some ⟨gw, 0, none⟩, y.t.writes.length⟩ ∧
  R64 W ga y.t.args ∧ RK W gr y.t.reads ∧ RK W gw y.t.writes ∧ lo ≤ ga ∧ ga < gr ∧ gr < gw ∧ gw < hi
theorem DcT.same {W W' : World} {lo hi : Nat} {y : Bx} (h : DcT W lo hi y) (hs : ∀ G, lo ≤ G → G < hi → G < W.heap.size → W'.heap[G]? = W.heap[G]?) : DcT W' lo hi y := by
  obtain ⟨ga, gr, gw, e, h1, h2, h3, h4, h5, h6, h7⟩ := h
  exact ⟨ga, gr, gw, e, h1.same (hs ga h4 (by omega) h1.lt), h2.same (hs gr (by omega) (by omega) h2.lt), h3.same (hs gw (by omega) h7 h3.lt), h4, h5, h6, h7⟩
/-- a batch that was read -/
structure Dcd (W : World) (base g n k : Nat) (Ts : List Tp) (Qs : List Bx) (lo : Nat → Nat) : Prop where
  row : RT W g Qs
  len : Qs.length = n
  ts : (Qs.take k).map Bx.t = Ts
  ge : base ≤ g
  one : ∀ i, i < k → DcT W (lo i) (lo (i + 1)) (bd Qs i)
  lo0 : g < lo 0
  lok : lo k ≤ W.heap.size
  mono : ∀ i, i < k → lo i ≤ lo (i + 1)
theorem Dcd.gt {W : World} {base g n k : Nat} {Ts : List Tp} {Qs : List Bx} {lo : Nat → Nat} (h : Dcd W base g n k Ts Qs lo) : ∀ i, i ≤ k → g < lo i
  | 0, _ => h.lo0
  | i + 1, hi => Nat.lt_of_lt_of_le (h.gt i (by omega)) (h.mono i (by omega))
theorem Dcd.same {W W' : World} {base g n k : Nat} {Ts : List Tp} {Qs : List Bx} {lo : Nat → Nat} (h : Dcd W base g n k Ts Qs lo) (hs : ∀ G, g ≤ G → G < W.heap.size → W'.heap[G]? = W.heap[G]?) (hz : W.heap.size ≤ W'.heap.size) : Dcd W' base g n k Ts Qs lo :=
  ⟨h.row.same (hs g (Nat.le_refl _) h.row.lt), h.len, h.ts, h.ge, fun i hi => (h.one i hi).same (fun G g1 _ g3 => hs G (by have := h.gt i (by omega); omega) g3), h.lo0, Nat.le_trans h.lok hz, h.mono⟩
theorem take_set_map (Qs : List Bx) (k : Nat) (y : Bx) (h : k < Qs.length) : ((Qs.set k y).take (k + 1)).map Bx.t = (Qs.take k).map Bx.t ++ [y.t] := by
  have hl : k < (Qs.set k y).length := by rw [List.length_set]; exact h
  rw [bd_take (Qs.set k y) k hl, bd_set_eq _ _ _ h, List.take_set_of_le (Nat.le_refl _)]
  simp
/-- one more is read and stored -/
theorem Dcd.put {W W3 : World} {base g n k : Nat} {Ts : List Tp} {Qs : List Bx} {lo : Nat → Nat} (h : Dcd W base g n k Ts Qs lo) (hk : k < n) (hs : ∀ G, g ≤ G → G < W.heap.size → W3.heap[G]? = W.heap[G]?) (hz : W.heap.size ≤ W3.heap.size) (t : Tp) (ga gr gw : Nat)
    (hA : R64 W3 ga t.args) (hR : RK W3 gr t.reads) (hW : RK W3 gw t.writes) (h1 : W.heap.size ≤ ga) (h2 : ga < gr) (h3 : gr < gw) :
    RT W3 g Qs ∧ ∃ lo', Dcd ((((W3.setCell ⟨g, k * 4, none⟩ (.int .i64 t.proc)).setCell ⟨g, k * 4 + 1, none⟩ (.slice (some ⟨ga, 0, none⟩) t.args.length t.args.length)).setCell ⟨g, k * 4 + 2, none⟩ (.slice (some ⟨gr, 0, none⟩) t.reads.length t.reads.length)).setCell ⟨g, k * 4 + 3, none⟩ (.slice (some ⟨gw, 0, none⟩) t.writes.length t.writes.length)) base g n (k + 1) (Ts ++ [t])
      (Qs.set k ⟨t, some ⟨ga, 0, none⟩, t.args.length, some ⟨gr, 0, none⟩, t.reads.length, some ⟨gw, 0, none⟩, t.writes.length⟩) lo' := by
  have hS := h.same hs hz
  have hkl : k < Qs.length := by rw [h.len]; exact hk
  have hP := hS.row.put hkl ⟨t, some ⟨ga, 0, none⟩, t.args.length, some ⟨gr, 0, none⟩, t.reads.length, some ⟨gw, 0, none⟩, t.writes.length⟩
  have hg := h.row.lt
  have hoth : ∀ G, G ≠ g → ((((W3.setCell ⟨g, k * 4, none⟩ (.int .i64 t.proc)).setCell ⟨g, k * 4 + 1, none⟩ (.slice (some ⟨ga, 0, none⟩) t.args.length t.args.length)).setCell ⟨g, k * 4 + 2, none⟩ (.slice (some ⟨gr, 0, none⟩) t.reads.length t.reads.length)).setCell ⟨g, k * 4 + 3, none⟩ (.slice (some ⟨gw, 0, none⟩) t.writes.length t.writes.length)).heap[G]? = W3.heap[G]? := fun G hG => by
    rw [heap_setCell_other _ _ G _ (by exact hG), heap_setCell_other _ _ G _ (by exact hG), heap_setCell_other _ _ G _ (by exact hG), heap_setCell_other _ _ G _ (by exact hG)]
  have hgw := hW.lt
  refine ⟨hS.row, fun i => if i ≤ k then lo i else W3.heap.size, hP, by rw [List.length_set]; exact h.len, by rw [take_set_map Qs k _ hkl, h.ts], h.ge, fun i hi => ?_, by simp only [Nat.zero_le, if_true]; exact h.lo0, by simp only [if_neg (show ¬ k + 1 ≤ k by omega)]; simp, fun i hi => ?_⟩
  · by_cases e : i = k
    · subst e
      rw [bd_set_eq _ _ _ hkl]
      have hlk := h.lok
      simp only [Nat.le_refl, if_true, if_neg (show ¬ i + 1 ≤ i by omega)]
      exact ⟨ga, gr, gw, rfl, hA.same (hoth ga (by omega)), hR.same (hoth gr (by omega)), hW.same (hoth gw (by omega)), by omega, h2, h3, hgw⟩
    · rw [bd_set_ne _ _ _ _ e]
      have hgt := h.gt i (by omega)
      simp only [if_pos (show i ≤ k by omega), if_pos (show i + 1 ≤ k by omega)]
      exact (hS.one i (by omega)).same (fun G g1 _ _ => hoth G (by omega))
  · by_cases e : i = k
    · subst e
      have hlk := h.lok
      simp only [Nat.le_refl, if_true, if_neg (show ¬ i + 1 ≤ i by omega)]; omega
    · simp only [if_pos (show i ≤ k by omega), if_pos (show i + 1 ≤ k by omega)]
      exact h.mono i (by omega)
def OwnBat (w0 : World) (Ts : List Tp) (v : Value) (w' : World) : Prop := ∃ g Qs lo, v = .slice (some ⟨g, 0, none⟩) Ts.length Ts.length ∧ Dcd w' w0.heap.size g Ts.length Ts.length Ts Qs lo
end Go.Proofs.Ytglodmmmcdjgcaa.Kk
