/-
  WHAT Remove LEAVES.
-/
import Derived.Test.YtfkijdlggdgfhaaSDrop
namespace Go.Proofs.Ytfkijdlggdgfhaa
open Go.RowKit Go.Sort

theorem ofK_app (k : K) (A C : List Vr) : ofK k (A ++ C) = ofK k A ++ ofK k C := by simp [ofK]
theorem ofK_cons_same {k : K} {v : Vr} (h : v.k = k) (C : List Vr) : ofK k (v :: C) = v :: ofK k C := by simp [ofK, h]
theorem ofK_cons_other {k : K} {v : Vr} (h : v.k ≠ k) (C : List Vr) : ofK k (v :: C) = ofK k C := by simp [ofK, h]
theorem ofK_mid (A C : List Vr) (v : Vr) : ofK v.k (A ++ v :: C) = ofK v.k A ++ v :: ofK v.k C := by rw [ofK_app, ofK_cons_same rfl]
theorem ofK_mid_other {k : K} {A C : List Vr} {v : Vr} (h : k ≠ v.k) : ofK k (A ++ v :: C) = ofK k (A ++ C) := by rw [ofK_app, ofK_cons_other (fun e => h e.symm), ofK_app]
theorem len_of_sub {α : Type} [DecidableEq α] : ∀ (l m : List α), l.Nodup → (∀ x ∈ l, x ∈ m) → l.length ≤ m.length
  | [], _, _, _ => by simp
  | a :: l, m, hn, hs => by
    have ha : a ∈ m := hs a (by simp)
    have h1 := len_of_sub l (m.erase a) (List.nodup_cons.1 hn).2 (fun x hx => by
      have hne : x ≠ a := fun e => (List.nodup_cons.1 hn).1 (e ▸ hx)
      exact (List.mem_erase_of_ne hne).2 (hs x (by simp [hx])))
    rw [List.length_erase_of_mem ha] at h1
    have : 0 < m.length := List.length_pos_of_mem ha
    simp
    omega
theorem SA.rem {w W' : World} {S V D M L P : Nat} {hf : Value} {cap last : Int} {A C : List Vr} {v : Vr} {es es' : List En} {R : K → Nat × Nat × Nat} (h : SA w S V D M L P hf cap last (A ++ v :: C) es R) (off cc : Nat)
    (st' : W'.heap[S]? = w.heap[S]?)
    (vm' : ∃ ms clock, W'.heap[V]? = some (.map ms clock) ∧ ms.toList.map (fun x => (x.key, x.val)) = (A ++ C).map (fun v => (.int .i64 v.n, ptr v.b)))
    (vb' : ∀ x ∈ A ++ C, W'.heap[x.b]? = w.heap[x.b]?) (da' : DA W' D M L hf P es')
    (hsub : es'.Sublist es) (hoth : ∀ e ∈ es, e.k ≠ v.k → e ∈ es')
    (hown : ∀ e ∈ es', e.k = v.k → ofK v.k (A ++ C) ≠ [] ∧ W'.heap[e.v]? = some (.cells #[.slice (some ⟨(R v.k).1, off, none⟩) (ofK v.k (A ++ C)).length cc] 100 (0, 0)) ∧ RwV W' (R v.k).1 off cc ((ofK v.k (A ++ C)).map Vr.b))
    (hkeep : ofK v.k (A ++ C) ≠ [] → ∃ e ∈ es', e.k = v.k)
    (hold : ∀ e ∈ es', e.k ≠ v.k → W'.heap[e.v]? = w.heap[e.v]? ∧ W'.heap[(R e.k).1]? = w.heap[(R e.k).1]?) :
    SA W' S V D M L P hf cap last (A ++ C) es' (fun k => if k = v.k then ((R v.k).1, off, cc) else R k) := by
  have hsl : (A ++ C).Sublist (A ++ v :: C) := List.Sublist.append_left (List.sublist_cons_self v C) A
  have hm : ∀ x ∈ A ++ C, x ∈ A ++ v :: C := fun x hx => hsl.subset hx
  have hme : ∀ e ∈ es', e ∈ es := fun e he => hsub.subset he
  have hR1 : ∀ k, (if k = v.k then ((R v.k).1, off, cc) else R k).1 = (R k).1 := fun k => by split <;> simp_all
  have hne : ∀ e ∈ es', ofK e.k (A ++ C) ≠ [] := fun e he => by
    by_cases hk : e.k = v.k
    · rw [hk]; exact (hown e he hk).1
    · have := h.ne e (hme e he)
      rwa [ofK_mid_other hk] at this
  refine ⟨st'.trans h.st, vm', fun x hx => (vb' x hx).trans (h.vb x (hm x hx)), da', fun e he => ?_, fun e he => ?_, fun e he => ?_, hne, fun x hx => ?_, ?_, fun e he e' he' heq => ?_, h.nn.sublist hsl, fun x hx => h.nl x (hm x hx), ?_, fun k => ?_, fun x hx => h.inn x (hm x hx), h.VM, ?_, ?_, fun e he => ?_, fun e he => h.ph e (hme e he), fun x hx => h.ik x (hm x hx)⟩
  · by_cases hk : e.k = v.k
    · rw [hk, if_pos rfl]; exact (hown e he hk).2.1
    · rw [if_neg hk, (hold e he hk).1, h.ch e (hme e he), ofK_mid_other hk]
  · by_cases hk : e.k = v.k
    · rw [hk, if_pos rfl]
      obtain ⟨⟨cur, k1, k2, k3⟩, _⟩ := (hown e he hk).2.2
      refine ⟨cur, k1, k2, fun j hj => ?_⟩
      rw [k3 j (by rw [List.length_map]; exact hj), List.getElem_map]
    · rw [if_neg hk]
      obtain ⟨cur, k1, k2, k3⟩ := h.rw e (hme e he)
      simp only [ofK_mid_other hk] at k3
      exact ⟨cur, (hold e he hk).2.trans k1, k2, k3⟩
  · by_cases hk : e.k = v.k
    · rw [hk, if_pos rfl]
      have := (hown e he hk).2.2.le
      simpa using this
    · rw [if_neg hk, ← ofK_mid_other hk]
      exact h.rl e (hme e he)
  · by_cases hk : x.k = v.k
    · obtain ⟨e, he, hek⟩ := hkeep (List.ne_nil_of_mem (a := x) (by simp [ofK, hk]; simpa using hx))
      exact ⟨e, he, hek.trans hk.symm⟩
    · obtain ⟨e, he, hek⟩ := h.all x (hm x hx)
      exact ⟨e, hoth e he (by rw [hek]; exact hk), hek⟩
  · exact h.cb.sublist (hsub.map _)
  · rw [hR1, hR1] at heq
    exact h.rn e (hme e he) e' (hme e' he') heq
  · exact h.bn.sublist (hsl.map _)
  · exact (h.pl k).sublist (hsl.filter _)
  · have h1 := h.lt
    have := hsl.length_le
    omega
  · have h1 := len_of_sub (es'.map En.k) ((A ++ C).map Vr.k) (h.da.kn.sublist (hsub.map _)) (fun k hk => by
      obtain ⟨e, he, rfl⟩ := List.mem_map.1 hk
      obtain ⟨x, xs, hx⟩ := List.exists_cons_of_ne_nil (hne e he)
      have hxm : x ∈ ofK e.k (A ++ C) := by rw [hx]; simp
      have hxf := List.mem_filter.1 hxm
      exact List.mem_map.2 ⟨x, hxf.1, by simpa using hxf.2⟩)
    simpa using h1
  · by_cases hk : e.k = v.k
    · rw [if_pos hk]; exact (hown e he hk).2.2.cm
    · rw [if_neg hk]; exact h.cm e (hme e he)
end Go.Proofs.Ytfkijdlggdgfhaa
