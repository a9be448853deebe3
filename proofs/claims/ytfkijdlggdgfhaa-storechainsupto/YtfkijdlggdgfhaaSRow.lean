/-
  A CHAIN's LIST; newest, add.
-/
import Derived.Test.YtfkijdlggdgfhaaSFill
import Derived.Deep.AppendSrc
namespace Go.Proofs.Ytfkijdlggdgfhaa
open Go.RowKit Go.Sort

/-- a list of versions in block g, from off on, with room for c -/
structure RwV (w : World) (g off c : Nat) (xs : List Nat) : Prop where
  row : ∃ cur, w.heap[g]? = some (.cells cur 83 (0, 0)) ∧ cur.size = off + c ∧ ∀ j (h : j < xs.length), cur[off + j]? = some (ptr xs[j])
  le : xs.length ≤ c
  cm : c ≤ 9223372036854775807
theorem RwV.same {w w' : World} {g off c : Nat} {xs : List Nat} (h : RwV w g off c xs) (hs : w'.heap[g]? = w.heap[g]?) : RwV w' g off c xs := by
  obtain ⟨⟨cur, h1, h2⟩, h3, h4⟩ := h
  exact ⟨⟨cur, hs.trans h1, h2⟩, h3, h4⟩
theorem RwV.cell {w : World} {g off c : Nat} {xs : List Nat} (h : RwV w g off c xs) {j : Nat} (hj : j < xs.length) : w.cell? ⟨g, off + j, none⟩ = some (ptr xs[j]) := by
  obtain ⟨⟨cur, h1, _, h2⟩, _⟩ := h
  rw [World.cell?, h1]
  exact h2 j hj
theorem SA.rwv {w : World} {S V D M L P : Nat} {hf : Value} {cap last : Int} {vs : List Vr} {es : List En} {R : K → Nat × Nat × Nat} (h : SA w S V D M L P hf cap last vs es R) {e : En} (he : e ∈ es) : RwV w (R e.k).1 (R e.k).2.1 (R e.k).2.2 ((ofK e.k vs).map Vr.b) := by
  obtain ⟨cur, h1, h2, h3⟩ := h.rw e he
  refine ⟨⟨cur, h1, h2, fun j hj => ?_⟩, by rw [List.length_map]; exact h.rl e he, h.cm e he⟩
  rw [List.length_map] at hj
  rw [h3 j hj, List.getElem_map]
set_option maxRecDepth 100000 in
set_option maxHeartbeats 1000000 in
theorem newest_any (w : World) (c g off cc : Nat) (xs : List Nat) (b : Nat) (hc : w.heap[c]? = some (.cells #[.slice (some ⟨g, off, none⟩) (xs ++ [b]).length cc] 100 (0, 0))) (hr : RwV w g off cc (xs ++ [b])) (hm : xs.length ≤ 1000000000) :
    Calls Try.prog 29 #[ptr c] w fun e w' => e = .returned (ptr b) ∧ ∃ q, w' = w.drewN q := by
  have c0 : w.cell? ⟨c, 0, none⟩ = some (.slice (some ⟨g, off, none⟩) (xs.length + 1) cc) := by rw [World.cell?, hc]; simp
  have r0 : w.cell? ⟨g, off + xs.length, none⟩ = some (ptr b) := by
    have := hr.cell (j := xs.length) (by simp)
    simpa using this
  clear hc hr
  generalize xs.length = n at *
  have hn : (((n + 1 : Nat) : Int) - 1) = (n : Int) := by omega
  have hlt : n < n + 1 := by omega
  go_enter Try.func29, Try.ntmps29
  go_wp2_with fail
  go_quiet (fail)
  go_wp2
  go_ret
  exact ⟨rfl, nq, rfl⟩
theorem infoVp : (Try.prog.info? 83).map (fun i => (i.zero, i.size, i.bytes)) = some (some (.pointer none), 1, 8) := by kernel_rfl
/-- one more at a list's end: in its room, or in a new row -/
theorem append_P (w : World) (ty : TypeId) (v : Value) (xs : List Nat) (b : Nat) (ab : Nat) (hv : (v = .slice none 0 0 ∧ xs = []) ∨ ∃ g off c, v = .slice (some ⟨g, off, none⟩) xs.length c ∧ RwV w g off c xs) (ha : w.cell? ⟨ab, 0, none⟩ = some (ptr b)) (hm : xs.length + 1 ≤ 1000000000) :
    ∃ g off c w', (Builtin.append_ #[98, 98] ty #[v, .slice (some ⟨ab, 0, none⟩) 1 1]).run Try.prog w = .ok (.slice (some ⟨g, off, none⟩) (xs.length + 1) c) w' ∧ RwV w' g off c (xs ++ [b]) ∧
      (((∃ n c, v = .slice (some ⟨g, off, none⟩) n c) ∧ w.grownBy w' (some g)) ∨ (g = w.heap.size ∧ w.grownBy w' none)) := by
  obtain ⟨i0, hi, hz0, hz1, hz2⟩ := info_parts infoVp
  have hnews : ∀ j u, ([ptr b] : List Value)[j]? = some u → w.cell? ((⟨ab, 0, none⟩ : Addr).add j) = some u := by
    intro j u hu
    rw [addr_add]
    cases j with
    | zero => simp at hu; subst hu; exact ha
    | succ j => simp at hu
  rcases hv with ⟨rfl, rfl⟩ | ⟨g, off, c, rfl, ⟨cur, hg, hsz, hat⟩, hle, hcm⟩
  · have hr := run_append_nil (P := Try.prog) w 98 ty 83 i0 (.pointer none) Try.underlying98 hi hz0 ⟨ab, 0, none⟩ 1 1 [ptr b] (by rw [hz1]; rfl) hnews (by omega) (by omega) (by rw [hz2]; omega)
    refine ⟨w.heap.size, 0, grownCap w 1 0 83, _, hr, ⟨⟨_, heap_alloc_new (w := w.drew) _ _ rfl, ?_, fun j hj => ?_⟩, ?_, ?_⟩, .inr ⟨rfl, rfl, rfl, rfl, by simp, fun k hk _ => Go.heap_alloc_old w.drew _ hk⟩⟩
    · have hge := grownCap_ge w 1 0 83
      simp [size_zeroCells, Value.cells]
      omega
    · obtain rfl : j = 0 := by simp at hj; omega
      rw [Nat.zero_add, Array.getElem?_append_left (by simp)]
      simp
    · have hge := grownCap_ge w 1 0 83
      simpa using hge
    · exact grownCap_le_maxLen w 1 0 83 (by unfold maxLen; omega)
  · by_cases hroom : xs.length + 1 ≤ c
    · have hr := run_append_room_src (P := Try.prog) (w := w) 98 98 ty 83 i0 Try.underlying98 hi g off xs.length c (.slice (some ⟨ab, 0, none⟩) 1 1) 1 [ptr b] (Src.ofSlice w Try.underlying98 ⟨ab, 0, none⟩ 1 1 [ptr b] (by rw [hz1]; rfl) hnews (by simp [Value.oneCell'])) hroom (fun j hj => ?_) (fun j _ => frozen_of_row _ _ _ _ _ hg)
      · refine ⟨g, off, c, _, hr, ?_, .inl ⟨⟨_, _, rfl⟩, ?_⟩⟩
        · rw [hz1, Nat.mul_one]
          refine ⟨⟨cur.setIfInBounds (off + xs.length) (ptr b), blk_set (i := off + xs.length) (ptr b) hg, by simpa using hsz, fun j hj => ?_⟩, by simpa using hroom, hcm⟩
          by_cases hjx : j < xs.length
          · rw [Array.getElem?_setIfInBounds_ne (by omega), hat j hjx, List.getElem_append_left hjx]
          · obtain rfl : j = xs.length := by simp at hj; omega
            rw [Array.getElem?_setIfInBounds_self, if_pos (by omega)]
            simp
        · rw [hz1, Nat.mul_one]
          exact ⟨rfl, rfl, rfl, by simp [World.setCells], fun k _ hk => heap_setCell_other w ⟨g, off + xs.length, none⟩ k _ (fun e => hk (by rw [e]))⟩
      · simp at hj
        subst hj
        rw [hz1, Nat.mul_one, Nat.add_zero, World.cell?, hg]
        show (cur[off + xs.length]?).isSome = true
        rw [Array.getElem?_eq_getElem (by omega)]
        rfl
    · have hfit : Builtin.nextslicecap (xs.length + 1) c * i0.bytes ≤ 281474976710656 := growslice_fits (by omega) (by rw [hz2]; omega)
      have hr := run_append_grow (P := Try.prog) w 98 ty 83 i0 (.pointer none) Try.underlying98 hi hz0 ⟨g, off, none⟩ xs.length c (xs.map ptr) (by rw [hz1]; simp) (fun j u hu => ?_) ⟨ab, 0, none⟩ 1 1 [ptr b] (by rw [hz1]; rfl) hnews (by omega) (by omega) hfit
      · refine ⟨w.heap.size, 0, grownCap w (xs.length + 1) c 83, _, hr, ⟨⟨_, heap_alloc_new (w := w.drew) _ _ rfl, ?_, fun j hj => ?_⟩, ?_, ?_⟩, .inr ⟨rfl, rfl, rfl, rfl, by simp, fun k hk _ => Go.heap_alloc_old w.drew _ hk⟩⟩
        · have hge := grownCap_ge w (xs.length + 1) c 83
          simp [size_zeroCells, Value.cells]
          omega
        · rw [Nat.zero_add, Array.getElem?_append_left (by simpa using hj)]
          by_cases hjx : j < xs.length
          · rw [Array.getElem?_append_left (by simpa using hjx)]
            simp [hjx]
          · obtain rfl : j = xs.length := by simp at hj; omega
            rw [Array.getElem?_append_right (by simp)]
            simp
        · have hge := grownCap_ge w (xs.length + 1) c 83
          simpa using hge
        · exact grownCap_le_maxLen w (xs.length + 1) c 83 (by unfold maxLen; omega)
      · rw [addr_add]
        obtain ⟨hj, rfl⟩ := List.getElem?_eq_some_iff.1 hu
        rw [List.length_map] at hj
        rw [World.cell?, hg, List.getElem_map]
        exact hat j hj
end Go.Proofs.Ytfkijdlggdgfhaa
