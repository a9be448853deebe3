import Derived.Test.YtbmohlkcmhhpgaaGreatJBkGrowW
/-
  APART: each list of the shelf is marked by its number; how far the marks have come.
-/
namespace Go.Proofs.YtbmohlkcmhhpgaaGreat
open Go.RowKit Go.Sort

def LkS (ls cl : Nat → List (Value × List K)) : Prop := ∀ u : Nat, (cl u).map Prod.fst = (ls u).map Prod.fst ∧ (cl u).map (fun e => e.2.length) = (ls u).map (fun e => e.2.length)
/-- marked, as far as place k of list i of row t -/
def ASd (cl : Nat → List (Value × List K)) (t i k : Nat) : Prop := ∀ u j m, u < 3 → (u < t ∨ u = t ∧ (j < i ∨ j = i ∧ m < k)) → ∀ hj : j < (cl u).length, m < (cl u)[j].2.length → (kd (cl u)[j].2 m).1 = -60 - (j : Int)
structure AQ (w W : World) (n0 Sb : Nat) (vs : Nat → Value) (ls : Nat → List (Value × List K)) (t i k : Nat) : Prop where
  ex : ∃ cl, SHF W n0 Sb vs cl ∧ LkS ls cl ∧ ASd cl t i k
  be : Below n0 w W
  lf : LFr ls w W
section
variable {w W W' : World} {n0 Sb : Nat} {vs : Nat → Value} {ls cl : Nat → List (Value × List K)} {t i k : Nat}
theorem LkS.len (h : LkS ls cl) (u : Nat) : (cl u).length = (ls u).length := by simpa using congrArg List.length (h u).1
theorem LkS.fst (h : LkS ls cl) {u j : Nat} (hj : j < (ls u).length) : ((cl u)[j]'(by rw [h.len]; exact hj)).1 = (ls u)[j].1 := by
  have h1 := congrArg (fun l => l[j]?) (h u).1
  simpa [hj, h.len u] using h1
theorem LkS.sz (h : LkS ls cl) {u j : Nat} (hj : j < (ls u).length) : ((cl u)[j]'(by rw [h.len]; exact hj)).2.length = (ls u)[j].2.length := by
  have h1 := congrArg (fun l => l[j]?) (h u).2
  simpa [hj, h.len u] using h1
theorem LkS.set (h : LkS ls cl) (t i k : Nat) (x : K) : LkS ls (setL cl t i k x) := fun u => by
  refine ⟨(setL_fst cl t i k x u).trans (h u).1, Eq.trans ?_ (h u).2⟩
  unfold setL
  by_cases hu : u = t
  · subst hu
    rw [if_pos rfl]
    apply List.ext_getElem
    · simp
    · intro j h1 h2
      simp only [List.getElem_map, List.getElem_modify]
      split <;> simp
  · rw [if_neg hu]
theorem ASd.set (h : ASd cl t i k) (hi : i < (cl t).length) (hk : k < (cl t)[i].2.length) : ASd (setL cl t i k (-60 - (i : Int), 0)) t i (k + 1) := by
  intro u j m hu hb hj hm
  have hjl : j < (cl u).length := by rw [setL_len] at hj; exact hj
  by_cases hut : u = t
  · subst hut
    have hget : (setL cl u i k (-60 - (i : Int), 0) u)[j] = if i = j then ((cl u)[j].1, (cl u)[j].2.set k (-60 - (i : Int), 0)) else (cl u)[j] := by
      simp only [setL, if_true, List.getElem_modify]
    rw [hget] at hm ⊢
    by_cases hij : i = j
    · subst hij
      rw [if_pos rfl] at hm ⊢
      simp only [List.length_set] at hm ⊢
      rw [kd_set _ _ _ _ hk]
      by_cases hmk : k = m
      · rw [if_pos hmk]
      · rw [if_neg hmk]
        exact h u i m hu (.inr ⟨rfl, by omega⟩) hjl hm
    · rw [if_neg hij] at hm ⊢
      exact h u j m hu (by omega) hjl hm
  · have hget : (setL cl t i k (-60 - (i : Int), 0) u)[j] = (cl u)[j] := by
      simp only [setL, if_neg hut]
    rw [hget] at hm ⊢
    exact h u j m hu (by omega) hjl hm
theorem AQ.start (P : GP w n0 Sb vs ls) : AQ w w n0 Sb vs ls 0 0 0 := ⟨⟨ls, P.sh, fun _ => ⟨rfl, rfl⟩, fun u j m _ hb => by omega⟩, Below.refl _ _, fun _ _ _ => rfl⟩
theorem AQ.cells (h : AQ w W n0 Sb vs ls t i k) : W.cell? ⟨Sb, 0, none⟩ = some (vs 0) ∧ W.cell? ⟨Sb, 1, none⟩ = some (vs 1) ∧ W.cell? ⟨Sb, 2, none⟩ = some (vs 2) := by
  obtain ⟨cl, h1, _⟩ := h.ex
  exact h1.cells
theorem AQ.row (h : AQ w W n0 Sb vs ls t i k) (hi : i < (ls t).length) (hk : (ls t)[i].2.length ≤ k) : AQ w W n0 Sb vs ls t (i + 1) 0 := by
  obtain ⟨cl, h1, h2, h3⟩ := h.ex
  refine ⟨⟨cl, h1, h2, fun u j m hu hb hj hm => h3 u j m hu ?_ hj hm⟩, h.be, h.lf⟩
  rcases hb with hb | ⟨hb, hb2⟩
  · exact .inl hb
  · subst hb
    by_cases hji : j = i
    · subst hji
      have := h2.sz hi
      exact .inr ⟨rfl, .inr ⟨rfl, by omega⟩⟩
    · exact .inr ⟨rfl, .inl (by omega)⟩
theorem AQ.nxt (h : AQ w W n0 Sb vs ls t i 0) (hi : (ls t).length ≤ i) : AQ w W n0 Sb vs ls (t + 1) 0 0 := by
  obtain ⟨cl, h1, h2, h3⟩ := h.ex
  refine ⟨⟨cl, h1, h2, fun u j m hu hb hj hm => h3 u j m hu ?_ hj hm⟩, h.be, h.lf⟩
  have := h2.len u
  by_cases hut : u = t
  · subst hut
    exact .inr ⟨rfl, .inl (by omega)⟩
  · exact .inl (by omega)
/-- a list of the shelf, wherever the world goes -/
theorem AQ.at2 (h : AQ w W n0 Sb vs ls t i k) {u j : Nat} (ht : u < 3) (hj : j < (ls u).length) {a : Option Addr} {n c : Nat} (hv : vs u = .slice a n c) :
    ∃ rb ga gn gc, a = some ⟨rb, 0, none⟩ ∧ (ls u)[j].1 = .slice ga gn gc ∧ gn = (ls u)[j].2.length ∧ ∀ W' t' i' k', AQ w W' n0 Sb vs ls t' i' k' → W'.cell? ⟨rb, j, none⟩ = some (.slice ga gn gc) := by
  obtain ⟨cl, h1, h2, _⟩ := h.ex
  have hjc : j < (cl u).length := by rw [h2.len]; exact hj
  obtain ⟨rb, rc, e, _⟩ := h1.at ht hjc
  obtain ⟨ga, gc, e2, _⟩ := h1.lst ht hjc
  rw [h2.fst hj] at e2
  rw [h2.sz hj] at e2
  rw [hv] at e
  simp only [Value.slice.injEq] at e
  refine ⟨rb, ga, _, gc, e.1, e2, rfl, fun W' t' i' k' h' => ?_⟩
  obtain ⟨cl', h1', h2', _⟩ := h'.ex
  obtain ⟨rb', rc', e3, h3⟩ := h1'.at ht (i := j) (by rw [h2'.len]; exact hj)
  rw [hv] at e3
  simp only [Value.slice.injEq] at e3
  have e4 := e.1.symm.trans e3.1
  simp only [Option.some.injEq, Addr.mk.injEq, and_true] at e4
  rw [← e2, e4, ← h2'.fst hj]
  exact h3
theorem AQ.mark (h : AQ w W n0 Sb vs ls t i k) (ht : t < 3) (hi : i < (ls t).length) {ga : Option Addr} {gn gc : Nat} (e : (ls t)[i].1 = .slice ga gn gc) (hgn : gn = (ls t)[i].2.length) (hk : k < gn) :
    ∃ g x y, ga = some ⟨g, 0, none⟩ ∧ W.cell? ⟨g, k * 2, none⟩ = some (.int .i64 x) ∧ W.cell? ⟨g, k * 2 + 1, none⟩ = some (.int .i64 y) ∧ W.frozen? ⟨g, k * 2, none⟩ = false ∧ W.frozen? ⟨g, k * 2 + 1, none⟩ = false ∧ AQ w ((W.setCell ⟨g, k * 2, none⟩ (.int .i64 (-60 - (i : Int)))).setCell ⟨g, k * 2 + 1, none⟩ (.int .i64 0)) n0 Sb vs ls t i (k + 1) := by
  obtain ⟨cl, h1, h2, h3⟩ := h.ex
  have hic : i < (cl t).length := by rw [h2.len]; exact hi
  have hkc : k < (cl t)[i].2.length := by rw [h2.sz hi]; omega
  obtain ⟨g, c, y1, y2, y3, y4, y5, y6, y7, y8, y9⟩ := h1.mark ht hic hkc (-60 - (i : Int)) 0
  rw [h2.fst hi, e] at y1
  simp only [Value.slice.injEq] at y1
  exact ⟨g, _, _, y1.1, y3, y4, y5, y6, ⟨_, y7, h2.set t i k _, h3.set hic hkc⟩, h.be.trans y8, fun G hG hn => (y9 G (fun e9 => hn ⟨t, ht, _, List.getElem_mem hi, by rw [e, y1.1, e9]; rfl⟩)).trans (h.lf G hG hn)⟩
theorem AQ.chk (h : AQ w W n0 Sb vs ls 3 0 0) (ht : t < 3) (hi : i < (ls t).length) {ga : Option Addr} {gn gc : Nat} (e : (ls t)[i].1 = .slice ga gn gc) (hgn : gn = (ls t)[i].2.length) (hk : k < gn) :
    ∃ g y, ga = some ⟨g, 0, none⟩ ∧ W.cell? ⟨g, k * 2, none⟩ = some (.int .i64 (-60 - (i : Int))) ∧ W.cell? ⟨g, k * 2 + 1, none⟩ = some (.int .i64 y) := by
  obtain ⟨cl, h1, h2, h3⟩ := h.ex
  have hic : i < (cl t).length := by rw [h2.len]; exact hi
  have hkc : k < (cl t)[i].2.length := by rw [h2.sz hi]; omega
  obtain ⟨g, c, y1, y2, y3, y4, _⟩ := h1.mark ht hic hkc (-60 - (i : Int)) 0
  rw [h2.fst hi, e] at y1
  simp only [Value.slice.injEq] at y1
  rw [h3 t i k ht (.inl ht) hic hkc] at y3
  exact ⟨g, _, y1.1, y3, y4⟩
theorem AQ.grow (P : GP w n0 Sb vs ls) (h : AQ w W n0 Sb vs ls 3 0 0) : Calls Tryz.prog 56 #[.pointer (some ⟨Sb, 0, none⟩)] W fun e w' => e = .returned (.tuple #[]) ∧ AQ w w' n0 Sb vs ls 3 0 0 := by
  obtain ⟨cl, h1, h2, h3⟩ := h.ex
  have hP : GP W n0 Sb vs cl := ⟨h1, Nat.le_trans P.le h.be.size, fun u hu => ⟨by rw [h2.len]; exact (P.len u hu).1, fun e he => by
    obtain ⟨j, hj, rfl⟩ := List.getElem_of_mem he
    have hj' : j < (ls u).length := by rw [← h2.len]; exact hj
    rw [h2.sz hj']
    exact (P.len u hu).2 _ (List.getElem_mem hj')⟩⟩
  exact (growS_any W n0 Sb vs cl hP).mono (fun e w' ⟨g1, g2, g3, g4⟩ => ⟨g1, ⟨cl, g2, h2, h3⟩, h.be.trans g3, fun k hk hn => (g4 k (Nat.lt_of_lt_of_le hk h.be.size) (fun ⟨u, hu, e, he, hg⟩ => hn (by
    obtain ⟨j, hj, rfl⟩ := List.getElem_of_mem he
    have hj' : j < (ls u).length := by rw [← h2.len]; exact hj
    rw [h2.fst hj'] at hg
    exact ⟨u, hu, _, List.getElem_mem hj', hg⟩))).trans (h.lf k hk hn)⟩)
end
end Go.Proofs.YtbmohlkcmhhpgaaGreat
/-
  APART: lists that were handed out are apart: the walk.
-/
namespace Go.Proofs.YtbmohlkcmhhpgaaGreat
open Go.RowKit Go.Sort

set_option maxRecDepth 100000 in
set_option maxHeartbeats 8000000 in
theorem apartS_any (w : World) (n0 Sb : Nat) (vs : Nat → Value) (ls : Nat → List (Value × List K)) (P : GP w n0 Sb vs ls) :
    Calls Tryz.prog 35 #[.pointer (some ⟨Sb, 0, none⟩)] w fun e w' => e = .returned (.bool true) ∧ AQ w w' n0 Sb vs ls 3 0 0 := by
  have HP : Hid (GP w n0 Sb vs ls) := P
  obtain ⟨a0, m0, q0, e0, l0⟩ := P.sh.opn (t := 0) (by omega)
  obtain ⟨a1, m1, q1, e1, l1⟩ := P.sh.opn (t := 1) (by omega)
  obtain ⟨a2, m2, q2, e2, l2⟩ := P.sh.opn (t := 2) (by omega)
  have hn : m0 ≤ 1000000 ∧ m1 ≤ 1000000 ∧ m2 ≤ 1000000 := by
    rw [l0, l1, l2]
    exact ⟨(P.len 0 (by omega)).1, (P.len 1 (by omega)).1, (P.len 2 (by omega)).1⟩
  have HC : Hid (∀ W t i k, AQ w W n0 Sb vs ls t i k → W.cell? ⟨Sb, 0, none⟩ = some (.slice a0 m0 q0) ∧ W.cell? ⟨Sb, 1, none⟩ = some (.slice a1 m1 q1) ∧ W.cell? ⟨Sb, 2, none⟩ = some (.slice a2 m2 q2)) := fun W t i k hW => by
    rw [← e0, ← e1, ← e2]
    exact hW.cells
  have HE0 : Hid (vs 0 = .slice a0 m0 q0 ∧ m0 = (ls 0).length) := ⟨e0, l0⟩
  have HE1 : Hid (vs 1 = .slice a1 m1 q1 ∧ m1 = (ls 1).length) := ⟨e1, l1⟩
  have HE2 : Hid (vs 2 = .slice a2 m2 q2 ∧ m2 = (ls 2).length) := ⟨e2, l2⟩
  have HS : Hid (AQ w w n0 Sb vs ls 0 0 0) := AQ.start P
  clear P e0 e1 e2 l0 l1 l2
  go_enter Tryz.func35, Tryz.ntmps35
  go_wp2_with fail
  go_loopw [3] (fun x wr => ∃ i : Nat, i ≤ m0 ∧ x = .int .i64 (i : Int) ∧ Hid (AQ w wr n0 Sb vs ls 0 i 0)) (fun x _ => m0 - (intOf x).toNat)
  case atStart => exact ⟨0, Nat.zero_le _, rfl, HS⟩
  case round =>
    clear HS
    obtain ⟨i, hi, rfl, HI⟩ := hrel
    obtain ⟨c0, c1, c2⟩ := HC.out wr _ _ _ HI.out
    by_cases hlt : i < m0
    · have hil : i < (ls 0).length := by have := HE0.out.2; omega
      obtain ⟨rb, ga, gn, gc, hra, hgv, hgn, hce⟩ := HI.out.at2 (u := 0) (j := i) (by omega) hil HE0.out.1
      have hgl : gn ≤ 1000000 := by rw [hgn]; exact (HP.out.len 0 (by omega)).2 _ (List.getElem_mem hil)
      have HGv : Hid (∃ hi : i < (ls 0).length, (ls 0)[i].1 = .slice ga gn gc ∧ gn = (ls 0)[i].2.length) := ⟨hil, hgv, hgn⟩
      have HCe := hidC hce
      clear hce hgv hil hgn
      subst hra
      have hlt' : (i : Int) < (m0 : Int) := by omega
      go_wp2_with fail
      clear c0 c1 c2
      go_loopw [4] (fun x wi => ∃ k : Nat, k ≤ gn ∧ x = .int .i64 (k : Int) ∧ Hid (AQ w wi n0 Sb vs ls 0 i k)) (fun x _ => gn - (intOf x).toNat)
      case atStart => exact ⟨0, Nat.zero_le _, rfl, HI⟩
      case round =>
        clear HI
        generalize wr = wi at *
        obtain ⟨k, hk, rfl, HJ⟩ := hrel
        obtain ⟨c0, c1, c2⟩ := HC.out wi _ _ _ HJ.out
        have ce := HCe.out wi _ _ _ HJ.out
        by_cases hlt2 : k < gn
        · obtain ⟨hil, hgv, hgn⟩ := HGv.out
          obtain ⟨g, x, y, hga, d0, d1, f0, f1, hz⟩ := HJ.out.mark (by omega) hil hgv hgn hlt2
          have HZ := hidC hz
          clear hz hgv hil hgn HJ HGv
          subst hga
          have hlt3 : (k : Int) < (gn : Int) := by omega
          go_wp2_with fail
          exact ⟨⟨k + 1, by omega, by go_num, HZ⟩, by simp [intOf]; omega⟩
        · obtain rfl : k = gn := by omega
          have HZ : Hid (AQ w wi n0 Sb vs ls 0 (i + 1) 0) := by
            obtain ⟨hil, hgv, hgn⟩ := HGv.out
            exact HJ.out.row hil (by omega)
          clear HJ
          go_wp2_with fail
          exact ⟨⟨i + 1, by omega, by go_num, HZ⟩, by simp [intOf]; omega⟩
    · obtain rfl : m0 = i := by omega
      clear hlt
      have HS : Hid (AQ w wr n0 Sb vs ls 1 0 0) := HI.out.nxt (by have := HE0.out.2; omega)
      clear HI
      go_wp2_with fail
      clear c0 c1 c2
      generalize wr = wx at *
      go_loopw [5] (fun x wr => ∃ i : Nat, i ≤ m1 ∧ x = .int .i64 (i : Int) ∧ Hid (AQ w wr n0 Sb vs ls 1 i 0)) (fun x _ => m1 - (intOf x).toNat)
      case atStart => exact ⟨0, Nat.zero_le _, rfl, HS⟩
      case round =>
        clear HS
        obtain ⟨i, hi, rfl, HI⟩ := hrel
        obtain ⟨c0, c1, c2⟩ := HC.out wr _ _ _ HI.out
        by_cases hlt : i < m1
        · have hil : i < (ls 1).length := by have := HE1.out.2; omega
          obtain ⟨rb, ga, gn, gc, hra, hgv, hgn, hce⟩ := HI.out.at2 (u := 1) (j := i) (by omega) hil HE1.out.1
          have hgl : gn ≤ 1000000 := by rw [hgn]; exact (HP.out.len 1 (by omega)).2 _ (List.getElem_mem hil)
          have HGv : Hid (∃ hi : i < (ls 1).length, (ls 1)[i].1 = .slice ga gn gc ∧ gn = (ls 1)[i].2.length) := ⟨hil, hgv, hgn⟩
          have HCe := hidC hce
          clear hce hgv hil hgn
          subst hra
          have hlt' : (i : Int) < (m1 : Int) := by omega
          go_wp2_with fail
          clear c0 c1 c2
          go_loopw [6] (fun x wi => ∃ k : Nat, k ≤ gn ∧ x = .int .i64 (k : Int) ∧ Hid (AQ w wi n0 Sb vs ls 1 i k)) (fun x _ => gn - (intOf x).toNat)
          case atStart => exact ⟨0, Nat.zero_le _, rfl, HI⟩
          case round =>
            clear HI
            generalize wr = wi at *
            obtain ⟨k, hk, rfl, HJ⟩ := hrel
            obtain ⟨c0, c1, c2⟩ := HC.out wi _ _ _ HJ.out
            have ce := HCe.out wi _ _ _ HJ.out
            by_cases hlt2 : k < gn
            · obtain ⟨hil, hgv, hgn⟩ := HGv.out
              obtain ⟨g, x, y, hga, d0, d1, f0, f1, hz⟩ := HJ.out.mark (by omega) hil hgv hgn hlt2
              have HZ := hidC hz
              clear hz hgv hil hgn HJ HGv
              subst hga
              have hlt3 : (k : Int) < (gn : Int) := by omega
              go_wp2_with fail
              exact ⟨⟨k + 1, by omega, by go_num, HZ⟩, by simp [intOf]; omega⟩
            · obtain rfl : k = gn := by omega
              have HZ : Hid (AQ w wi n0 Sb vs ls 1 (i + 1) 0) := by
                obtain ⟨hil, hgv, hgn⟩ := HGv.out
                exact HJ.out.row hil (by omega)
              clear HJ
              go_wp2_with fail
              exact ⟨⟨i + 1, by omega, by go_num, HZ⟩, by simp [intOf]; omega⟩
        · obtain rfl : m1 = i := by omega
          clear hlt
          have HS : Hid (AQ w wr n0 Sb vs ls 2 0 0) := HI.out.nxt (by have := HE1.out.2; omega)
          clear HI
          go_wp2_with fail
          clear c0 c1 c2
          generalize wr = wx at *
          go_loopw [7] (fun x wr => ∃ i : Nat, i ≤ m2 ∧ x = .int .i64 (i : Int) ∧ Hid (AQ w wr n0 Sb vs ls 2 i 0)) (fun x _ => m2 - (intOf x).toNat)
          case atStart => exact ⟨0, Nat.zero_le _, rfl, HS⟩
          case round =>
            clear HS
            obtain ⟨i, hi, rfl, HI⟩ := hrel
            obtain ⟨c0, c1, c2⟩ := HC.out wr _ _ _ HI.out
            by_cases hlt : i < m2
            · have hil : i < (ls 2).length := by have := HE2.out.2; omega
              obtain ⟨rb, ga, gn, gc, hra, hgv, hgn, hce⟩ := HI.out.at2 (u := 2) (j := i) (by omega) hil HE2.out.1
              have hgl : gn ≤ 1000000 := by rw [hgn]; exact (HP.out.len 2 (by omega)).2 _ (List.getElem_mem hil)
              have HGv : Hid (∃ hi : i < (ls 2).length, (ls 2)[i].1 = .slice ga gn gc ∧ gn = (ls 2)[i].2.length) := ⟨hil, hgv, hgn⟩
              have HCe := hidC hce
              clear hce hgv hil hgn
              subst hra
              have hlt' : (i : Int) < (m2 : Int) := by omega
              go_wp2_with fail
              clear c0 c1 c2
              go_loopw [8] (fun x wi => ∃ k : Nat, k ≤ gn ∧ x = .int .i64 (k : Int) ∧ Hid (AQ w wi n0 Sb vs ls 2 i k)) (fun x _ => gn - (intOf x).toNat)
              case atStart => exact ⟨0, Nat.zero_le _, rfl, HI⟩
              case round =>
                clear HI
                generalize wr = wi at *
                obtain ⟨k, hk, rfl, HJ⟩ := hrel
                obtain ⟨c0, c1, c2⟩ := HC.out wi _ _ _ HJ.out
                have ce := HCe.out wi _ _ _ HJ.out
                by_cases hlt2 : k < gn
                · obtain ⟨hil, hgv, hgn⟩ := HGv.out
                  obtain ⟨g, x, y, hga, d0, d1, f0, f1, hz⟩ := HJ.out.mark (by omega) hil hgv hgn hlt2
                  have HZ := hidC hz
                  clear hz hgv hil hgn HJ HGv
                  subst hga
                  have hlt3 : (k : Int) < (gn : Int) := by omega
                  go_wp2_with fail
                  exact ⟨⟨k + 1, by omega, by go_num, HZ⟩, by simp [intOf]; omega⟩
                · obtain rfl : k = gn := by omega
                  have HZ : Hid (AQ w wi n0 Sb vs ls 2 (i + 1) 0) := by
                    obtain ⟨hil, hgv, hgn⟩ := HGv.out
                    exact HJ.out.row hil (by omega)
                  clear HJ
                  go_wp2_with fail
                  exact ⟨⟨i + 1, by omega, by go_num, HZ⟩, by simp [intOf]; omega⟩
            · obtain rfl : m2 = i := by omega
              clear hlt
              have HS : Hid (AQ w wr n0 Sb vs ls 3 0 0) := HI.out.nxt (by have := HE2.out.2; omega)
              clear HI
              go_wp2_with fail
              clear c0 c1 c2
              generalize wr = wx at *
              refine (AQ.grow HP.out HS.out).mono ?_
              rintro e wg ⟨rfl, hg⟩
              clear HS
              have HS := hidC hg
              clear hg
              go_wp2_with fail
              go_loopw [9] (fun x wr => ∃ i : Nat, i ≤ m0 ∧ x = .int .i64 (i : Int) ∧ Hid (AQ w wr n0 Sb vs ls 3 0 0)) (fun x _ => m0 - (intOf x).toNat)
              case atStart => exact ⟨0, Nat.zero_le _, rfl, HS⟩
              case round =>
                clear HS
                obtain ⟨i, hi, rfl, HI⟩ := hrel
                obtain ⟨c0, c1, c2⟩ := HC.out wr _ _ _ HI.out
                by_cases hlt : i < m0
                · have hil : i < (ls 0).length := by have := HE0.out.2; omega
                  obtain ⟨rb, ga, gn, gc, hra, hgv, hgn, hce⟩ := HI.out.at2 (u := 0) (j := i) (by omega) hil HE0.out.1
                  have hgl : gn ≤ 1000000 := by rw [hgn]; exact (HP.out.len 0 (by omega)).2 _ (List.getElem_mem hil)
                  have HGv : Hid (∃ hi : i < (ls 0).length, (ls 0)[i].1 = .slice ga gn gc ∧ gn = (ls 0)[i].2.length) := ⟨hil, hgv, hgn⟩
                  have HCe := hidC hce
                  clear hce hgv hil hgn
                  subst hra
                  have hlt' : (i : Int) < (m0 : Int) := by omega
                  go_wp2_with fail
                  clear c0 c1 c2
                  go_loopw [10] (fun x wi => ∃ k : Nat, k ≤ gn ∧ x = .int .i64 (k : Int) ∧ Hid (AQ w wi n0 Sb vs ls 3 0 0)) (fun x _ => gn - (intOf x).toNat)
                  case atStart => exact ⟨0, Nat.zero_le _, rfl, HI⟩
                  case round =>
                    clear HI
                    generalize wr = wi at *
                    obtain ⟨k, hk, rfl, HJ⟩ := hrel
                    obtain ⟨c0, c1, c2⟩ := HC.out wi _ _ _ HJ.out
                    have ce := HCe.out wi _ _ _ HJ.out
                    by_cases hlt2 : k < gn
                    · obtain ⟨hil, hgv, hgn⟩ := HGv.out
                      obtain ⟨g, y, hga, d0, d1⟩ := HJ.out.chk (t := 0) (by omega) hil hgv hgn hlt2
                      clear hgv hil hgn HGv
                      subst hga
                      have hlt3 : (k : Int) < (gn : Int) := by omega
                      go_wp2_with fail
                      exact ⟨⟨k + 1, by omega, by go_num, HJ⟩, by simp [intOf]; omega⟩
                    · obtain rfl : k = gn := by omega
                      go_wp2_with fail
                      exact ⟨⟨i + 1, by omega, by go_num, HJ⟩, by simp [intOf]; omega⟩
                · obtain rfl : m0 = i := by omega
                  clear hlt
                  have HS := hidC HI.out
                  clear HI
                  go_wp2_with fail
                  clear c0 c1 c2
                  generalize wr = wx at *
                  go_loopw [11] (fun x wr => ∃ i : Nat, i ≤ m1 ∧ x = .int .i64 (i : Int) ∧ Hid (AQ w wr n0 Sb vs ls 3 0 0)) (fun x _ => m1 - (intOf x).toNat)
                  case atStart => exact ⟨0, Nat.zero_le _, rfl, HS⟩
                  case round =>
                    clear HS
                    obtain ⟨i, hi, rfl, HI⟩ := hrel
                    obtain ⟨c0, c1, c2⟩ := HC.out wr _ _ _ HI.out
                    by_cases hlt : i < m1
                    · have hil : i < (ls 1).length := by have := HE1.out.2; omega
                      obtain ⟨rb, ga, gn, gc, hra, hgv, hgn, hce⟩ := HI.out.at2 (u := 1) (j := i) (by omega) hil HE1.out.1
                      have hgl : gn ≤ 1000000 := by rw [hgn]; exact (HP.out.len 1 (by omega)).2 _ (List.getElem_mem hil)
                      have HGv : Hid (∃ hi : i < (ls 1).length, (ls 1)[i].1 = .slice ga gn gc ∧ gn = (ls 1)[i].2.length) := ⟨hil, hgv, hgn⟩
                      have HCe := hidC hce
                      clear hce hgv hil hgn
                      subst hra
                      have hlt' : (i : Int) < (m1 : Int) := by omega
                      go_wp2_with fail
                      clear c0 c1 c2
                      go_loopw [12] (fun x wi => ∃ k : Nat, k ≤ gn ∧ x = .int .i64 (k : Int) ∧ Hid (AQ w wi n0 Sb vs ls 3 0 0)) (fun x _ => gn - (intOf x).toNat)
                      case atStart => exact ⟨0, Nat.zero_le _, rfl, HI⟩
                      case round =>
                        clear HI
                        generalize wr = wi at *
                        obtain ⟨k, hk, rfl, HJ⟩ := hrel
                        obtain ⟨c0, c1, c2⟩ := HC.out wi _ _ _ HJ.out
                        have ce := HCe.out wi _ _ _ HJ.out
                        by_cases hlt2 : k < gn
                        · obtain ⟨hil, hgv, hgn⟩ := HGv.out
                          obtain ⟨g, y, hga, d0, d1⟩ := HJ.out.chk (t := 1) (by omega) hil hgv hgn hlt2
                          clear hgv hil hgn HGv
                          subst hga
                          have hlt3 : (k : Int) < (gn : Int) := by omega
                          go_wp2_with fail
                          exact ⟨⟨k + 1, by omega, by go_num, HJ⟩, by simp [intOf]; omega⟩
                        · obtain rfl : k = gn := by omega
                          go_wp2_with fail
                          exact ⟨⟨i + 1, by omega, by go_num, HJ⟩, by simp [intOf]; omega⟩
                    · obtain rfl : m1 = i := by omega
                      clear hlt
                      have HS := hidC HI.out
                      clear HI
                      go_wp2_with fail
                      clear c0 c1 c2
                      generalize wr = wx at *
                      go_loopw [13] (fun x wr => ∃ i : Nat, i ≤ m2 ∧ x = .int .i64 (i : Int) ∧ Hid (AQ w wr n0 Sb vs ls 3 0 0)) (fun x _ => m2 - (intOf x).toNat)
                      case atStart => exact ⟨0, Nat.zero_le _, rfl, HS⟩
                      case round =>
                        clear HS
                        obtain ⟨i, hi, rfl, HI⟩ := hrel
                        obtain ⟨c0, c1, c2⟩ := HC.out wr _ _ _ HI.out
                        by_cases hlt : i < m2
                        · have hil : i < (ls 2).length := by have := HE2.out.2; omega
                          obtain ⟨rb, ga, gn, gc, hra, hgv, hgn, hce⟩ := HI.out.at2 (u := 2) (j := i) (by omega) hil HE2.out.1
                          have hgl : gn ≤ 1000000 := by rw [hgn]; exact (HP.out.len 2 (by omega)).2 _ (List.getElem_mem hil)
                          have HGv : Hid (∃ hi : i < (ls 2).length, (ls 2)[i].1 = .slice ga gn gc ∧ gn = (ls 2)[i].2.length) := ⟨hil, hgv, hgn⟩
                          have HCe := hidC hce
                          clear hce hgv hil hgn
                          subst hra
                          have hlt' : (i : Int) < (m2 : Int) := by omega
                          go_wp2_with fail
                          clear c0 c1 c2
                          go_loopw [14] (fun x wi => ∃ k : Nat, k ≤ gn ∧ x = .int .i64 (k : Int) ∧ Hid (AQ w wi n0 Sb vs ls 3 0 0)) (fun x _ => gn - (intOf x).toNat)
                          case atStart => exact ⟨0, Nat.zero_le _, rfl, HI⟩
                          case round =>
                            clear HI
                            generalize wr = wi at *
                            obtain ⟨k, hk, rfl, HJ⟩ := hrel
                            obtain ⟨c0, c1, c2⟩ := HC.out wi _ _ _ HJ.out
                            have ce := HCe.out wi _ _ _ HJ.out
                            by_cases hlt2 : k < gn
                            · obtain ⟨hil, hgv, hgn⟩ := HGv.out
                              obtain ⟨g, y, hga, d0, d1⟩ := HJ.out.chk (t := 2) (by omega) hil hgv hgn hlt2
                              clear hgv hil hgn HGv
                              subst hga
                              have hlt3 : (k : Int) < (gn : Int) := by omega
                              go_wp2_with fail
                              exact ⟨⟨k + 1, by omega, by go_num, HJ⟩, by simp [intOf]; omega⟩
                            · obtain rfl : k = gn := by omega
                              go_wp2_with fail
                              exact ⟨⟨i + 1, by omega, by go_num, HJ⟩, by simp [intOf]; omega⟩
                        · obtain rfl : m2 = i := by omega
                          clear hlt
                          go_wp2
                          go_ret
                          exact ⟨rfl, HI.out⟩
end Go.Proofs.YtbmohlkcmhhpgaaGreat
