/-
  WHAT drop LEAVES.
-/
import Derived.Test.YtenmkigoohpfmaaDKeys
namespace Go.Proofs.Ytenmkigoohpfmaa
open Go.RowKit Go.Sort

theorem ptr_inj {a b : Nat} (h : ptr a = ptr b) : a = b := by injection h with h8; injection h8 with h9; injection h9
theorem pt_erase_other {p : Nat} {A C : List En} {e : En} (h : e.p ≠ p) : pt p (A ++ e :: C) = pt p (A ++ C) := by rw [pt_append, pt_cons_other h, pt_append]
theorem pt_erase_same (A C : List En) (e : En) : pt e.p (A ++ e :: C) = pt e.p A ++ e :: pt e.p C := by rw [pt_append, pt_cons_same rfl]
theorem set5 (a : En) (x y z : Value) : (cellsE a x y).setIfInBounds 5 z = cellsE a x z := by simp [cellsE]
theorem set4 (a : En) (x y z : Value) : (cellsE a x y).setIfInBounds 4 z = cellsE a z y := by simp [cellsE]
theorem DA.taken_one {w W : World} {D M L P : Nat} {hf : Value} {A C : List En} {e : En} (h : DA w D M L hf P (A ++ e :: C)) (hA0 : pt e.p A = []) (hC0 : pt e.p C = [])
    (hM : ∃ ms c, W.heap[M]? = some (.map ms c) ∧ ms.toList.map (fun x => (x.key, x.val)) = (A ++ C).map (fun e => (kv e.k, ptr e.b))) (hW : ∀ k, k ≠ M → W.heap[k]? = w.heap[k]?) (q : Nat) (nsz : Int) (hsz : nsz = ((pt e.p (A ++ C)).length : Int)) :
    DA ((((W.setCell ⟨L, e.p * 3, none⟩ (.pointer none)).setCell ⟨L, e.p * 3 + 1, none⟩ (.pointer none)).setCell ⟨L, e.p * 3 + 2, none⟩ (.int .i64 nsz)).drewN q) D M L hf P (A ++ C) := by
  obtain ⟨Z, hZ, hZs, hZl⟩ := h.ln
  obtain ⟨ms0, c0, hM0, _⟩ := h.mp
  obtain ⟨ms, cl, hM1, hM2⟩ := hM
  have dL : D ≠ L := fun e' => by have := h.dc; rw [e', hZ] at this; cases this
  have mD : D ≠ M := fun e' => by have := h.dc; rw [e', hM0] at this; cases this
  have mL : L ≠ M := fun e' => by have := hZ; rw [e', hM0] at this; cases this
  have mX : ∀ x ∈ A ++ e :: C, x.b ≠ M ∧ x.b ≠ L ∧ x.b ≠ D := fun x hx => by
    obtain ⟨u, v, hx'⟩ := h.entry hx
    exact ⟨fun e' => by (rw [e', hM0] at hx'; cases hx'), fun e' => by (rw [e', hZ] at hx'; cases hx'), fun e' => by (rw [e', h.dc] at hx'; cases hx')⟩
  have hbn := h.bn
  have hpa : lp (pt e.p A) = .pointer none := by rw [hA0]; rfl
  have hsc : hp (pt e.p C) = .pointer none := by rw [hC0]; rfl
  have apart : ∀ x ∈ A, ∀ y ∈ C, x.b ≠ y.b := fun x hx y hy => by
    rw [List.map_append, List.map_cons, List.nodup_append] at hbn
    exact hbn.2.2 _ (List.mem_map.2 ⟨x, hx, rfl⟩) _ (by simp; exact .inr ⟨y, hy, rfl⟩)
  have keep : ∀ k, k ≠ M → k ≠ L → ((((W.setCell ⟨L, e.p * 3, none⟩ (.pointer none)).setCell ⟨L, e.p * 3 + 1, none⟩ (.pointer none)).setCell ⟨L, e.p * 3 + 2, none⟩ (.int .i64 nsz)).drewN q).heap[k]? = w.heap[k]? := fun k kM kL =>
    blk_oth _ (blk_oth _ (blk_oth _ (hW k kM) kL) kL) kL
  obtain ⟨l0, l1, l2⟩ := hZl e.p (h.pp e (by simp)).1
  rw [Nat.mul_comm, pt_erase_same] at l0 l1 l2
  refine h.erase (keep D mD dL) ⟨ms, cl, blk_oth _ (blk_oth _ (blk_oth _ hM1 (Ne.symm mL)) (Ne.symm mL)) (Ne.symm mL), hM2⟩ ⟨_, (blk_set _ (blk_set _ (blk_set _ ((hW L mL).trans hZ)))), by simpa using hZs, fun p hp' => ?_⟩ (fun A0' a' A2' hs h1 h2 => ?_) (fun C1' c' C2' hs h1 h2 => ?_) (fun A0' x A2' hs hn => ?_) (fun C1' x C2' hs hn => ?_)
  · by_cases hpe : p = e.p
    · subst hpe
      rw [hA0, hC0] at l0 l1 l2
      rw [pt_append, hA0, hC0] at hsz
      have hsz' := hsz
      rw [Nat.mul_comm 3, pt_append, hA0, hC0]
      exact ⟨set_get (set_get (set_same l0) (by omega)) (by omega), set_get (set_same (set_get (l1) (by omega))) (by omega), by rw [← hsz']; exact set_same (set_get (set_get (l2) (by omega)) (by omega))⟩
    · rw [← pt_erase_other (Ne.symm hpe)]
      obtain ⟨g0, g1, g2⟩ := hZl p hp'
      exact ⟨set_get (set_get (set_get (g0) (by omega)) (by omega)) (by omega), set_get (set_get (set_get (g1) (by omega)) (by omega)) (by omega), set_get (set_get (set_get (g2) (by omega)) (by omega)) (by omega)⟩
  · exact absurd h1 (pt_nil_mem hA0 a' (by rw [hs]; simp))
  · exact absurd h1 (pt_nil_mem hC0 c' (by rw [hs]; simp))
  · have hxA : x ∈ A := by rw [hs]; simp
    have hx : x ∈ A ++ e :: C := by simp [hxA]
    exact keep x.b (mX x hx).1 (mX x hx).2.1
  · have hxC : x ∈ C := by rw [hs]; simp
    have hx : x ∈ A ++ e :: C := by simp [hxC]
    exact keep x.b (mX x hx).1 (mX x hx).2.1
theorem DA.taken_first {w W : World} {D M L P : Nat} {hf : Value} {A C : List En} {e : En} (h : DA w D M L hf P (A ++ e :: C)) (hA0 : pt e.p A = []) {C1 C2 : List En} {c : En} (hC : C = C1 ++ c :: C2) (hcp : c.p = e.p) (hC1 : pt e.p C1 = [])
    (hM : ∃ ms c, W.heap[M]? = some (.map ms c) ∧ ms.toList.map (fun x => (x.key, x.val)) = (A ++ C).map (fun e => (kv e.k, ptr e.b))) (hW : ∀ k, k ≠ M → W.heap[k]? = w.heap[k]?) (q : Nat) (nsz : Int) (hsz : nsz = ((pt e.p (A ++ C)).length : Int)) :
    DA ((((W.setCell ⟨L, e.p * 3, none⟩ (ptr c.b)).setCell ⟨c.b, 4, none⟩ (.pointer none)).setCell ⟨L, e.p * 3 + 2, none⟩ (.int .i64 nsz)).drewN q) D M L hf P (A ++ C) := by
  obtain ⟨Z, hZ, hZs, hZl⟩ := h.ln
  obtain ⟨ms0, c0, hM0, _⟩ := h.mp
  obtain ⟨ms, cl, hM1, hM2⟩ := hM
  have dL : D ≠ L := fun e' => by have := h.dc; rw [e', hZ] at this; cases this
  have mD : D ≠ M := fun e' => by have := h.dc; rw [e', hM0] at this; cases this
  have mL : L ≠ M := fun e' => by have := hZ; rw [e', hM0] at this; cases this
  have mX : ∀ x ∈ A ++ e :: C, x.b ≠ M ∧ x.b ≠ L ∧ x.b ≠ D := fun x hx => by
    obtain ⟨u, v, hx'⟩ := h.entry hx
    exact ⟨fun e' => by (rw [e', hM0] at hx'; cases hx'), fun e' => by (rw [e', hZ] at hx'; cases hx'), fun e' => by (rw [e', h.dc] at hx'; cases hx')⟩
  have hbn := h.bn
  have hpa : lp (pt e.p A) = .pointer none := by rw [hA0]; rfl
  have hc : c ∈ A ++ e :: C := by rw [hC]; simp
  have hcC : (C.map En.b).Nodup := by rw [List.map_append, List.map_cons, List.nodup_append, List.nodup_cons] at hbn; exact hbn.2.1.2
  have hsc : hp (pt e.p C) = ptr c.b := by rw [hC]; exact hp_first hcp hC1
  have hnc : pt e.p C ≠ [] := by rw [hC]; exact pt_ne hcp
  have apart : ∀ x ∈ A, ∀ y ∈ C, x.b ≠ y.b := fun x hx y hy => by
    rw [List.map_append, List.map_cons, List.nodup_append] at hbn
    exact hbn.2.2 _ (List.mem_map.2 ⟨x, hx, rfl⟩) _ (by simp; exact .inr ⟨y, hy, rfl⟩)
  have keep : ∀ k, k ≠ M → k ≠ L → k ≠ c.b → ((((W.setCell ⟨L, e.p * 3, none⟩ (ptr c.b)).setCell ⟨c.b, 4, none⟩ (.pointer none)).setCell ⟨L, e.p * 3 + 2, none⟩ (.int .i64 nsz)).drewN q).heap[k]? = w.heap[k]? := fun k kM kL kc =>
    blk_oth _ (blk_oth _ (blk_oth _ (hW k kM) kL) kc) kL
  obtain ⟨l0, l1, l2⟩ := hZl e.p (h.pp e (by simp)).1
  rw [Nat.mul_comm, pt_erase_same] at l0 l1 l2
  refine h.erase (keep D mD dL (Ne.symm (mX c hc).2.2)) ⟨ms, cl, blk_oth _ (blk_oth _ (blk_oth _ hM1 (Ne.symm mL)) (Ne.symm (mX c hc).1)) (Ne.symm mL), hM2⟩ ⟨_, (blk_set _ (blk_oth _ (blk_set _ ((hW L mL).trans hZ)) (Ne.symm (mX c hc).2.1))), by simpa using hZs, fun p hp' => ?_⟩ (fun A0' a' A2' hs h1 h2 => ?_) (fun C1' c' C2' hs h1 h2 => ?_) (fun A0' x A2' hs hn => ?_) (fun C1' x C2' hs hn => ?_)
  · by_cases hpe : p = e.p
    · subst hpe
      rw [hA0, List.nil_append] at l0 l1 l2
      rw [show e :: pt e.p C = [e] ++ pt e.p C from rfl, lp_append hnc] at l1
      rw [pt_append, hA0, List.nil_append] at hsz
      have hsz' := hsz
      rw [Nat.mul_comm 3, pt_append, hA0, List.nil_append, hsc]
      exact ⟨set_get (set_same l0) (by omega), set_get (set_get (l1) (by omega)) (by omega), by rw [← hsz']; exact set_same (set_get (l2) (by omega))⟩
    · rw [← pt_erase_other (Ne.symm hpe)]
      obtain ⟨g0, g1, g2⟩ := hZl p hp'
      exact ⟨set_get (set_get (g0) (by omega)) (by omega), set_get (set_get (g1) (by omega)) (by omega), set_get (set_get (g2) (by omega)) (by omega)⟩
  · exact absurd h1 (pt_nil_mem hA0 a' (by rw [hs]; simp))
  · have h6 : hp (pt e.p C) = ptr c'.b := by rw [hs]; exact hp_first h1 h2
    rw [hsc] at h6
    have hxt := ptr_inj h6
    rw [hC] at hcC hs
    obtain ⟨rfl, rfl, rfl⟩ := split_uniq hcC hs hxt
    rw [hpa]
    have hen := h.en (A ++ e :: C1) c C2 (by rw [hC]; simp)
    have h9 := blk_set (i := 4) (.pointer none) (blk_oth (b := L) (i := e.p * 3) (ptr c.b) ((hW c.b (mX c hc).1).trans hen) (mX c hc).2.1)
    rw [set4] at h9
    exact blk_oth _ h9 (mX c hc).2.1
  · have hxA : x ∈ A := by rw [hs]; simp
    have hx : x ∈ A ++ e :: C := by simp [hxA]
    exact keep x.b (mX x hx).1 (mX x hx).2.1 (apart x hxA c (by rw [hC]; simp))
  · have hxC : x ∈ C := by rw [hs]; simp
    have hx : x ∈ A ++ e :: C := by simp [hxC]
    exact keep x.b (mX x hx).1 (mX x hx).2.1 (fun hxt => by
      rw [hC] at hcC hs
      obtain ⟨rfl, rfl, rfl⟩ := split_uniq hcC hs hxt.symm
      exact hn ⟨hcp, hC1⟩)
theorem DA.taken_last {w W : World} {D M L P : Nat} {hf : Value} {A C : List En} {e : En} (h : DA w D M L hf P (A ++ e :: C)) {A0 A2 : List En} {a : En} (hA : A = A0 ++ a :: A2) (hap : a.p = e.p) (hA2 : pt e.p A2 = []) (hC0 : pt e.p C = [])
    (hM : ∃ ms c, W.heap[M]? = some (.map ms c) ∧ ms.toList.map (fun x => (x.key, x.val)) = (A ++ C).map (fun e => (kv e.k, ptr e.b))) (hW : ∀ k, k ≠ M → W.heap[k]? = w.heap[k]?) (q : Nat) (nsz : Int) (hsz : nsz = ((pt e.p (A ++ C)).length : Int)) :
    DA ((((W.setCell ⟨a.b, 5, none⟩ (.pointer none)).setCell ⟨L, e.p * 3 + 1, none⟩ (ptr a.b)).setCell ⟨L, e.p * 3 + 2, none⟩ (.int .i64 nsz)).drewN q) D M L hf P (A ++ C) := by
  obtain ⟨Z, hZ, hZs, hZl⟩ := h.ln
  obtain ⟨ms0, c0, hM0, _⟩ := h.mp
  obtain ⟨ms, cl, hM1, hM2⟩ := hM
  have dL : D ≠ L := fun e' => by have := h.dc; rw [e', hZ] at this; cases this
  have mD : D ≠ M := fun e' => by have := h.dc; rw [e', hM0] at this; cases this
  have mL : L ≠ M := fun e' => by have := hZ; rw [e', hM0] at this; cases this
  have mX : ∀ x ∈ A ++ e :: C, x.b ≠ M ∧ x.b ≠ L ∧ x.b ≠ D := fun x hx => by
    obtain ⟨u, v, hx'⟩ := h.entry hx
    exact ⟨fun e' => by (rw [e', hM0] at hx'; cases hx'), fun e' => by (rw [e', hZ] at hx'; cases hx'), fun e' => by (rw [e', h.dc] at hx'; cases hx')⟩
  have hbn := h.bn
  have ha : a ∈ A ++ e :: C := by rw [hA]; simp
  have haA : (A.map En.b).Nodup := by rw [List.map_append, List.nodup_append] at hbn; exact hbn.1
  have hpa : lp (pt e.p A) = ptr a.b := by rw [hA]; exact lp_last hap hA2
  have hne : pt e.p A ≠ [] := by rw [hA]; exact pt_ne hap
  have hsc : hp (pt e.p C) = .pointer none := by rw [hC0]; rfl
  have apart : ∀ x ∈ A, ∀ y ∈ C, x.b ≠ y.b := fun x hx y hy => by
    rw [List.map_append, List.map_cons, List.nodup_append] at hbn
    exact hbn.2.2 _ (List.mem_map.2 ⟨x, hx, rfl⟩) _ (by simp; exact .inr ⟨y, hy, rfl⟩)
  have keep : ∀ k, k ≠ M → k ≠ L → k ≠ a.b → ((((W.setCell ⟨a.b, 5, none⟩ (.pointer none)).setCell ⟨L, e.p * 3 + 1, none⟩ (ptr a.b)).setCell ⟨L, e.p * 3 + 2, none⟩ (.int .i64 nsz)).drewN q).heap[k]? = w.heap[k]? := fun k kM kL ka =>
    blk_oth _ (blk_oth _ (blk_oth _ (hW k kM) ka) kL) kL
  obtain ⟨l0, l1, l2⟩ := hZl e.p (h.pp e (by simp)).1
  rw [Nat.mul_comm, pt_erase_same] at l0 l1 l2
  refine h.erase (keep D mD dL (Ne.symm (mX a ha).2.2)) ⟨ms, cl, blk_oth _ (blk_oth _ (blk_oth _ hM1 (Ne.symm (mX a ha).1)) (Ne.symm mL)) (Ne.symm mL), hM2⟩ ⟨_, (blk_set _ (blk_set _ (blk_oth _ ((hW L mL).trans hZ) (Ne.symm (mX a ha).2.1)))), by simpa using hZs, fun p hp' => ?_⟩ (fun A0' a' A2' hs h1 h2 => ?_) (fun C1' c' C2' hs h1 h2 => ?_) (fun A0' x A2' hs hn => ?_) (fun C1' x C2' hs hn => ?_)
  · by_cases hpe : p = e.p
    · subst hpe
      rw [hC0] at l0 l1 l2
      rw [hp_append hne] at l0
      rw [pt_append, hC0, List.append_nil] at hsz
      have hsz' := hsz
      rw [Nat.mul_comm 3, pt_append, hC0, List.append_nil, hpa]
      exact ⟨set_get (set_get (l0) (by omega)) (by omega), set_get (set_same (l1)) (by omega), by rw [← hsz']; exact set_same (set_get (l2) (by omega))⟩
    · rw [← pt_erase_other (Ne.symm hpe)]
      obtain ⟨g0, g1, g2⟩ := hZl p hp'
      exact ⟨set_get (set_get (g0) (by omega)) (by omega), set_get (set_get (g1) (by omega)) (by omega), set_get (set_get (g2) (by omega)) (by omega)⟩
  · have h6 : lp (pt e.p A) = ptr a'.b := by rw [hs]; exact lp_last h1 h2
    rw [hpa] at h6
    have hxt := ptr_inj h6
    rw [hA] at haA hs
    obtain ⟨rfl, rfl, rfl⟩ := split_uniq haA hs hxt
    rw [hsc]
    have hen := h.en A0 a (A2 ++ e :: C) (by rw [hA]; simp)
    have h9 := blk_set (i := 5) (.pointer none) ((hW a.b (mX a ha).1).trans hen)
    rw [set5] at h9
    exact blk_oth _ (blk_oth _ h9 (mX a ha).2.1) (mX a ha).2.1
  · exact absurd h1 (pt_nil_mem hC0 c' (by rw [hs]; simp))
  · have hxA : x ∈ A := by rw [hs]; simp
    have hx : x ∈ A ++ e :: C := by simp [hxA]
    exact keep x.b (mX x hx).1 (mX x hx).2.1 (fun hxt => by
      rw [hA] at haA hs
      obtain ⟨rfl, rfl, rfl⟩ := split_uniq haA hs hxt.symm
      exact hn ⟨hap, hA2⟩)
  · have hxC : x ∈ C := by rw [hs]; simp
    have hx : x ∈ A ++ e :: C := by simp [hxC]
    exact keep x.b (mX x hx).1 (mX x hx).2.1 (Ne.symm (apart a (by rw [hA]; simp) x hxC))
theorem DA.taken_mid {w W : World} {D M L P : Nat} {hf : Value} {A C : List En} {e : En} (h : DA w D M L hf P (A ++ e :: C)) {A0 A2 : List En} {a : En} (hA : A = A0 ++ a :: A2) (hap : a.p = e.p) (hA2 : pt e.p A2 = []) {C1 C2 : List En} {c : En} (hC : C = C1 ++ c :: C2) (hcp : c.p = e.p) (hC1 : pt e.p C1 = [])
    (hM : ∃ ms c, W.heap[M]? = some (.map ms c) ∧ ms.toList.map (fun x => (x.key, x.val)) = (A ++ C).map (fun e => (kv e.k, ptr e.b))) (hW : ∀ k, k ≠ M → W.heap[k]? = w.heap[k]?) (q : Nat) (nsz : Int) (hsz : nsz = ((pt e.p (A ++ C)).length : Int)) :
    DA ((((W.setCell ⟨a.b, 5, none⟩ (ptr c.b)).setCell ⟨c.b, 4, none⟩ (ptr a.b)).setCell ⟨L, e.p * 3 + 2, none⟩ (.int .i64 nsz)).drewN q) D M L hf P (A ++ C) := by
  obtain ⟨Z, hZ, hZs, hZl⟩ := h.ln
  obtain ⟨ms0, c0, hM0, _⟩ := h.mp
  obtain ⟨ms, cl, hM1, hM2⟩ := hM
  have dL : D ≠ L := fun e' => by have := h.dc; rw [e', hZ] at this; cases this
  have mD : D ≠ M := fun e' => by have := h.dc; rw [e', hM0] at this; cases this
  have mL : L ≠ M := fun e' => by have := hZ; rw [e', hM0] at this; cases this
  have mX : ∀ x ∈ A ++ e :: C, x.b ≠ M ∧ x.b ≠ L ∧ x.b ≠ D := fun x hx => by
    obtain ⟨u, v, hx'⟩ := h.entry hx
    exact ⟨fun e' => by (rw [e', hM0] at hx'; cases hx'), fun e' => by (rw [e', hZ] at hx'; cases hx'), fun e' => by (rw [e', h.dc] at hx'; cases hx')⟩
  have hbn := h.bn
  have ha : a ∈ A ++ e :: C := by rw [hA]; simp
  have haA : (A.map En.b).Nodup := by rw [List.map_append, List.nodup_append] at hbn; exact hbn.1
  have hpa : lp (pt e.p A) = ptr a.b := by rw [hA]; exact lp_last hap hA2
  have hne : pt e.p A ≠ [] := by rw [hA]; exact pt_ne hap
  have hc : c ∈ A ++ e :: C := by rw [hC]; simp
  have hcC : (C.map En.b).Nodup := by rw [List.map_append, List.map_cons, List.nodup_append, List.nodup_cons] at hbn; exact hbn.2.1.2
  have hsc : hp (pt e.p C) = ptr c.b := by rw [hC]; exact hp_first hcp hC1
  have hnc : pt e.p C ≠ [] := by rw [hC]; exact pt_ne hcp
  have apart : ∀ x ∈ A, ∀ y ∈ C, x.b ≠ y.b := fun x hx y hy => by
    rw [List.map_append, List.map_cons, List.nodup_append] at hbn
    exact hbn.2.2 _ (List.mem_map.2 ⟨x, hx, rfl⟩) _ (by simp; exact .inr ⟨y, hy, rfl⟩)
  have keep : ∀ k, k ≠ M → k ≠ L → k ≠ a.b → k ≠ c.b → ((((W.setCell ⟨a.b, 5, none⟩ (ptr c.b)).setCell ⟨c.b, 4, none⟩ (ptr a.b)).setCell ⟨L, e.p * 3 + 2, none⟩ (.int .i64 nsz)).drewN q).heap[k]? = w.heap[k]? := fun k kM kL ka kc =>
    blk_oth _ (blk_oth _ (blk_oth _ (hW k kM) ka) kc) kL
  obtain ⟨l0, l1, l2⟩ := hZl e.p (h.pp e (by simp)).1
  rw [Nat.mul_comm, pt_erase_same] at l0 l1 l2
  refine h.erase (keep D mD dL (Ne.symm (mX a ha).2.2) (Ne.symm (mX c hc).2.2)) ⟨ms, cl, blk_oth _ (blk_oth _ (blk_oth _ hM1 (Ne.symm (mX a ha).1)) (Ne.symm (mX c hc).1)) (Ne.symm mL), hM2⟩ ⟨_, (blk_set _ (blk_oth _ (blk_oth _ ((hW L mL).trans hZ) (Ne.symm (mX a ha).2.1)) (Ne.symm (mX c hc).2.1))), by simpa using hZs, fun p hp' => ?_⟩ (fun A0' a' A2' hs h1 h2 => ?_) (fun C1' c' C2' hs h1 h2 => ?_) (fun A0' x A2' hs hn => ?_) (fun C1' x C2' hs hn => ?_)
  · by_cases hpe : p = e.p
    · subst hpe
      rw [hp_append hne] at l0
      rw [lp_append (by simp), show e :: pt e.p C = [e] ++ pt e.p C from rfl, lp_append hnc] at l1
      rw [pt_append] at hsz
      have hsz' := hsz
      rw [Nat.mul_comm 3, pt_append, hp_append hne, lp_append hnc]
      exact ⟨set_get (l0) (by omega), set_get (l1) (by omega), by rw [← hsz']; exact set_same (l2)⟩
    · rw [← pt_erase_other (Ne.symm hpe)]
      obtain ⟨g0, g1, g2⟩ := hZl p hp'
      exact ⟨set_get (g0) (by omega), set_get (g1) (by omega), set_get (g2) (by omega)⟩
  · have h6 : lp (pt e.p A) = ptr a'.b := by rw [hs]; exact lp_last h1 h2
    rw [hpa] at h6
    have hxt := ptr_inj h6
    rw [hA] at haA hs
    obtain ⟨rfl, rfl, rfl⟩ := split_uniq haA hs hxt
    rw [hsc]
    have hen := h.en A0 a (A2 ++ e :: C) (by rw [hA]; simp)
    have h9 := blk_set (i := 5) (ptr c.b) ((hW a.b (mX a ha).1).trans hen)
    rw [set5] at h9
    exact blk_oth _ (blk_oth _ h9 (apart a (by rw [hA]; simp) c (by rw [hC]; simp))) (mX a ha).2.1
  · have h6 : hp (pt e.p C) = ptr c'.b := by rw [hs]; exact hp_first h1 h2
    rw [hsc] at h6
    have hxt := ptr_inj h6
    rw [hC] at hcC hs
    obtain ⟨rfl, rfl, rfl⟩ := split_uniq hcC hs hxt
    rw [hpa]
    have hen := h.en (A ++ e :: C1) c C2 (by rw [hC]; simp)
    have h9 := blk_set (i := 4) (ptr a.b) (blk_oth (b := a.b) (i := 5) (ptr c.b) ((hW c.b (mX c hc).1).trans hen) (Ne.symm (apart a (by rw [hA]; simp) c (by rw [hC]; simp))))
    rw [set4] at h9
    exact blk_oth _ h9 (mX c hc).2.1
  · have hxA : x ∈ A := by rw [hs]; simp
    have hx : x ∈ A ++ e :: C := by simp [hxA]
    exact keep x.b (mX x hx).1 (mX x hx).2.1 (fun hxt => by
      rw [hA] at haA hs
      obtain ⟨rfl, rfl, rfl⟩ := split_uniq haA hs hxt.symm
      exact hn ⟨hap, hA2⟩) (apart x hxA c (by rw [hC]; simp))
  · have hxC : x ∈ C := by rw [hs]; simp
    have hx : x ∈ A ++ e :: C := by simp [hxC]
    exact keep x.b (mX x hx).1 (mX x hx).2.1 (Ne.symm (apart a (by rw [hA]; simp) x hxC)) (fun hxt => by
      rw [hC] at hcC hs
      obtain ⟨rfl, rfl, rfl⟩ := split_uniq hcC hs hxt.symm
      exact hn ⟨hcp, hC1⟩)
end Go.Proofs.Ytenmkigoohpfmaa
