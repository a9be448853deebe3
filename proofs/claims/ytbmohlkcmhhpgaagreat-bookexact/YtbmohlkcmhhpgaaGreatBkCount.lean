/-
  count.
-/
import Derived.Test.YtbmohlkcmhhpgaaGreatBkSt
import Derived.BigRegion
namespace Go.Proofs.YtbmohlkcmhhpgaaGreat
open Go.RowKit Go.Sort

/-- a key more -/
def nwP (nw : List K) (k : K) : List K := if k ∈ nw then nw else nw ++ [k]
/-- what count leaves of the newest -/
theorem BA.putN {w w' : World} {B Mp Mc Mn : Nat} {cap latest floor : Int} {pins : List (Int × Int)} {all : List V4} {nw : List K} (h : BA w B Mp Mc Mn cap latest floor pins all nw) (hs : w'.heap[Mn]? = w.heap[Mn]?) (v : V4) (hv : VIn v) :
    ∃ W, (Instr.mapUpdate 86 (.map (some Mn)) (kv v.1) (pv v.2)).run Tryz.prog w' = .ok () W ∧ MAt kv KIn W Mn ((nwP nw v.1).map (fun k => (k, pv (nf f0 (all ++ [v]) k)))) ∧ w'.grownBy W (some Mn) := by
  have hm := h.mn.same hs
  unfold nwP
  split
  · rename_i hk
    obtain ⟨A, C, rfl⟩ := List.append_of_mem hk
    have hn := hm.kn
    rw [List.map_append, List.map_cons] at hm
    obtain ⟨W, h1, h2, h3⟩ := kdN.putOld hm (pv v.2)
    refine ⟨W, h1, ?_, h3⟩
    have hne : (∀ x ∈ A, x ≠ v.1) ∧ (∀ x ∈ C, x ≠ v.1) := by
      have h4 : (A ++ v.1 :: C).Nodup := by simpa [List.map_map, Function.comp_def] using hn
      have := nodup_mid (f := id) (A := A) (C := C) (e := v.1) (by simpa using h4)
      exact this
    have e1 : ∀ l : List K, (∀ x ∈ l, x ≠ v.1) → l.map (fun k => (k, pv (nf f0 (all ++ [v]) k))) = l.map (fun k => (k, pv (nf f0 all k))) := fun l hl => List.map_congr_left (fun x hx => by
      rw [nf_snoc]
      unfold upd
      rw [if_neg (hl x hx)])
    rw [List.map_append, List.map_cons, e1 A hne.1, e1 C hne.2, nf_snoc]
    simpa [upd] using h2
  · rename_i hk
    obtain ⟨W, h1, h2, h3⟩ := kdN.putNew hm hv.1 (fun e he e' => by
      obtain ⟨k', hk', rfl⟩ := List.mem_map.1 he
      simp only at e'
      exact hk (e' ▸ hk')) (pv v.2)
    refine ⟨W, h1, ?_, h3⟩
    have e1 : nw.map (fun k => (k, pv (nf f0 (all ++ [v]) k))) = nw.map (fun k => (k, pv (nf f0 all k))) := List.map_congr_left (fun x hx => by
      rw [nf_snoc]
      unfold upd
      have hne : x ≠ v.1 := fun e => hk (by rw [← e]; exact hx)
      rw [if_neg hne])
    rw [List.map_append, e1, nf_snoc]
    simpa [upd] using h2
set_option maxRecDepth 100000 in
set_option maxHeartbeats 2000000 in
theorem count_any (w : World) (B Mp Mc Mn : Nat) (cap latest floor : Int) (pins : List (Int × Int)) (all : List V4) (nw : List K) (h : BA w B Mp Mc Mn cap latest floor pins all nw) (v : V4) (hv : VIn v) (hik : isKey v.1 = true) (hpl : PlOK latest v) (hlt : ∀ u ∈ all, u.1 = v.1 → later v u) (hln : (all.length : Int) + 1 ≤ cap) :
    Calls Tryz.prog 38 #[ptr B, kv v.1, pv v.2] w fun e w' => (∃ x, e = .returned x) ∧ BA w' B Mp Mc Mn cap latest floor pins (all ++ [v]) (nwP nw v.1) ∧ Fr (SB B Mp Mc Mn) w w' := by
  have hnv : ∀ u ∈ all, u ≠ v := fun u hu e => by
    have := hlt u hu (by rw [e])
    unfold later at this
    rw [e] at this
    omega
  obtain ⟨W2, hW2⟩ : ∃ W2, W2 = (w.alloc (.cells #[.int .i64 v.1.1, .int .i64 v.1.2] 43)).alloc (.cells #[.int .i64 v.2.1, .int .i64 v.2.2] 99) := ⟨_, rfl⟩
  have HB2 : Hid (Below w.heap.size w W2) := by
    show Below _ _ _
    rw [hW2]
    exact ((Below.refl _ _).alloc (Nat.le_refl _) _).alloc (by simp) _
  have q1 : W2.heap[w.heap.size]? = some (.cells #[.int .i64 v.1.1, .int .i64 v.1.2] 43 (0, 0)) := by rw [hW2, heap_alloc_old _ _ (by simp)]; exact heap_alloc_new _ _ rfl
  have q2 : W2.heap[w.heap.size + 1]? = some (.cells #[.int .i64 v.2.1, .int .i64 v.2.2] 99 (0, 0)) := by rw [hW2]; exact heap_alloc_new _ _ (by simp)
  have hA2 : BA W2.drew B Mp Mc Mn cap latest floor pins all nw := (h.kept HB2.out).same (fun _ _ => rfl)
  have hlk := kdN.look hA2.mn hv.1
  rw [hA2.newest] at hlk
  obtain ⟨W3, hp3, hm3, hg3⟩ := kdC.putNew hA2.mc hv (fun e he => by
    have h1 : e.1 ∈ (chg f0 all).map Prod.fst := List.mem_map.2 ⟨e, he, rfl⟩
    rw [chg_fst] at h1
    exact hnv _ h1) (pv (nf f0 all v.1))
  rw [← chg_snoc] at hm3
  have hb3 : ∀ k, k < W2.heap.size → k ≠ Mc → W3.heap[k]? = W2.heap[k]? := fun k hk hne => hg3.block k hk (fun e => by cases e; exact hne rfl)
  have hz := HB2.out.size
  have hz2 : W2.heap.size = w.heap.size + 2 := by rw [hW2]; simp
  have hMc := h.lt (.inr (.inr (.inl rfl)))
  obtain ⟨W4, hp4, hm4, hg4⟩ := h.putN (w' := W3.drew) ((hb3 Mn (by have := h.mn.lt; omega) h.ne.2.2.symm).trans (HB2.out.block _ h.mn.lt)) v hv
  have hb4 : ∀ k, k < W3.heap.size → k ≠ Mn → W4.heap[k]? = W3.heap[k]? := fun k hk hne => hg4.block k hk (fun e => by cases e; exact hne rfl)
  have hz3 := hg3.size
  have hz4 := hg4.size
  have HF : Hid (BA W4 B Mp Mc Mn cap latest floor pins (all ++ [v]) (nwP nw v.1) ∧ Fr (SB B Mp Mc Mn) w W4) := by
    have hall : ∀ k, k < w.heap.size → k ≠ Mc → k ≠ Mn → W4.heap[k]? = w.heap[k]? := fun k hk n1 n2 => ((hb4 k (by have : W2.heap.size ≤ W3.heap.size := hz3; omega) n2).trans (hb3 k (by omega) n1)).trans (HB2.out.block k hk)
    have hBn := h.Bne
    refine ⟨⟨(hall B (blk_lt h.bk) hBn.2.1 hBn.2.2).trans h.bk, h.mp.same (hall _ h.mp.lt h.ne.1 h.ne.2.1), hm3.same (hb4 Mc (by have : W2.heap.size ≤ W3.heap.size := hz3; omega) h.ne.2.2), hm4, fun k => ?_, h.ne, h.cp, h.la, by simpa using hln, fun u hu => ?_, h.ps, ?_, fun u hu => ?_⟩, ?_⟩
    · unfold nwP
      split
      · rename_i hk
        rw [h.nwa]
        constructor
        · rintro ⟨u, hu, e⟩; exact ⟨u, by simp [hu], e⟩
        · rintro ⟨u, hu, e⟩
          rcases List.mem_append.1 hu with hu | hu
          · exact ⟨u, hu, e⟩
          · simp at hu; subst hu; rw [← e]; exact (h.nwa _).1 hk
      · rw [List.mem_append, h.nwa]
        constructor
        · rintro (⟨u, hu, e⟩ | hk)
          · exact ⟨u, by simp [hu], e⟩
          · simp at hk; exact ⟨v, by simp, hk.symm⟩
        · rintro ⟨u, hu, e⟩
          rcases List.mem_append.1 hu with hu | hu
          · exact .inl ⟨u, hu, e⟩
          · simp at hu; subst hu; right; simp [e]
    · rcases List.mem_append.1 hu with hu | hu
      · exact h.pl u hu
      · simp at hu; subst hu; exact hpl
    · refine List.pairwise_append.2 ⟨h.rs, List.pairwise_singleton _ _, fun a ha b hb e => ?_⟩
      simp at hb
      subst hb
      exact hlt a ha e
    · rcases List.mem_append.1 hu with hu | hu
      · exact h.ik u hu
      · simp at hu; subst hu; exact hik
    · refine ⟨hg4.os.trans (hg3.os.trans HB2.out.os), hg4.tape.trans (hg3.tape.trans HB2.out.tape), hg4.output.trans (hg3.output.trans HB2.out.output), ?_, fun k hk hn => hall k hk (fun e => hn (.inr (.inr (.inl e)))) (fun e => hn (.inr (.inr (.inr e))))⟩
      have h1 : W2.heap.size ≤ W3.heap.size := hz3
      have h2 : W3.heap.size ≤ W4.heap.size := hz4
      omega
  obtain ⟨_, _, _, _, c4, c5⟩ := hA2.cells
  have r1 : W3.heap[w.heap.size]? = _ := (hb3 _ (by omega) (by omega)).trans q1
  have r2 : W3.heap[w.heap.size + 1]? = _ := (hb3 _ (by omega) (by omega)).trans q2
  have d5 : W3.drew.cell? ⟨B, 5, none⟩ = some (.map (some Mn)) := by
    have h1 : W3.drew.heap[B]? = _ := (hb3 B (by have := blk_lt h.bk; omega) h.Bne.2.1).trans ((HB2.out.block _ (blk_lt h.bk)).trans h.bk)
    simp [World.cell?, h1]
  have k1 : W2.drew.cell? ⟨w.heap.size, 0, none⟩ = some (.int .i64 v.1.1) := by have h1 : W2.drew.heap[w.heap.size]? = _ := q1; simp [World.cell?, h1]
  have k2 : W2.drew.cell? ⟨w.heap.size, 1, none⟩ = some (.int .i64 v.1.2) := by have h1 : W2.drew.heap[w.heap.size]? = _ := q1; simp [World.cell?, h1]
  have k3 : W2.drew.cell? ⟨w.heap.size + 1, 0, none⟩ = some (.int .i64 v.2.1) := by have h1 : W2.drew.heap[w.heap.size + 1]? = _ := q2; simp [World.cell?, h1]
  have k4 : W2.drew.cell? ⟨w.heap.size + 1, 1, none⟩ = some (.int .i64 v.2.2) := by have h1 : W2.drew.heap[w.heap.size + 1]? = _ := q2; simp [World.cell?, h1]
  have l1 : W3.drew.cell? ⟨w.heap.size, 0, none⟩ = some (.int .i64 v.1.1) := by have h1 : W3.drew.heap[w.heap.size]? = _ := r1; simp [World.cell?, h1]
  have l2 : W3.drew.cell? ⟨w.heap.size, 1, none⟩ = some (.int .i64 v.1.2) := by have h1 : W3.drew.heap[w.heap.size]? = _ := r1; simp [World.cell?, h1]
  have l3 : W3.drew.cell? ⟨w.heap.size + 1, 0, none⟩ = some (.int .i64 v.2.1) := by have h1 : W3.drew.heap[w.heap.size + 1]? = _ := r2; simp [World.cell?, h1]
  have l4 : W3.drew.cell? ⟨w.heap.size + 1, 1, none⟩ = some (.int .i64 v.2.2) := by have h1 : W3.drew.heap[w.heap.size + 1]? = _ := r2; simp [World.cell?, h1]
  clear h hA2 hm3 hg3 hm4 hg4 hb3 hb4 hz hz2 hz3 hz4 hMc q1 q2 r1 r2 hnv hlt hln hpl hik hv HB2
  obtain ⟨⟨a1, a2⟩, a3, a4⟩ := v
  simp only [ev] at *
  generalize nf f0 all (a1, a2) = pp at *
  obtain ⟨p1, p2⟩ := pp
  go_enter Tryz.func38, Tryz.ntmps38
  go_wp2_with fail
  rw [← hW2]
  clear hW2
  go_region
  go_wp2_with fail
  go_region
  go_wp2
  go_end0
  exact ⟨⟨_, rfl⟩, HF.out⟩
end Go.Proofs.YtbmohlkcmhhpgaaGreat
