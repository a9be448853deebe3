/-
  A LIST OF NUMBERS THAT GROWS.
-/
import Derived.Test.YtfkijdlggdgfhaaSNew
namespace Go.Proofs.Ytfkijdlggdgfhaa
open Go.RowKit Go.Sort

/-- a list of numbers in block g, from off on, with room for c -/
structure RwI (w : World) (g off c : Nat) (xs : List Int) : Prop where
  row : ∃ cur, w.heap[g]? = some (.cells cur 3 (0, 0)) ∧ cur.size = off + c ∧ ∀ j (h : j < xs.length), cur[off + j]? = some (.int .i64 xs[j])
  le : xs.length ≤ c
  cm : c ≤ 9223372036854775807
theorem RwI.same {w w' : World} {g off c : Nat} {xs : List Int} (h : RwI w g off c xs) (hs : w'.heap[g]? = w.heap[g]?) : RwI w' g off c xs := by
  obtain ⟨⟨cur, h1, h2⟩, h3, h4⟩ := h
  exact ⟨⟨cur, hs.trans h1, h2⟩, h3, h4⟩
theorem RwI.cell {w : World} {g off c : Nat} {xs : List Int} (h : RwI w g off c xs) {j : Nat} (hj : j < xs.length) : w.cell? ⟨g, off + j, none⟩ = some (.int .i64 xs[j]) := by
  obtain ⟨⟨cur, h1, _, h2⟩, _⟩ := h
  rw [World.cell?, h1]
  exact h2 j hj
theorem infoI : (Try.prog.info? 3).map (fun i => (i.zero, i.size, i.bytes)) = some (some (.int .i64 0), 1, 8) := by kernel_rfl
/-- one more at a list's end: in its room, or in a new row -/
theorem append_I (w : World) (ty : TypeId) (v : Value) (xs : List Int) (b : Int) (ab : Nat) (hv : (v = .slice none 0 0 ∧ xs = []) ∨ ∃ g off c, v = .slice (some ⟨g, off, none⟩) xs.length c ∧ RwI w g off c xs) (ha : w.cell? ⟨ab, 0, none⟩ = some (.int .i64 b)) (hm : xs.length + 1 ≤ 1000000000) :
    ∃ g off c w', (Builtin.append_ #[45, 45] ty #[v, .slice (some ⟨ab, 0, none⟩) 1 1]).run Try.prog w = .ok (.slice (some ⟨g, off, none⟩) (xs.length + 1) c) w' ∧ RwI w' g off c (xs ++ [b]) ∧
      (((∃ n c, v = .slice (some ⟨g, off, none⟩) n c) ∧ w.grownBy w' (some g)) ∨ (g = w.heap.size ∧ w.grownBy w' none)) := by
  obtain ⟨i0, hi, hz0, hz1, hz2⟩ := info_parts infoI
  have hnews : ∀ j u, ([.int .i64 b] : List Value)[j]? = some u → w.cell? ((⟨ab, 0, none⟩ : Addr).add j) = some u := by
    intro j u hu
    rw [addr_add]
    cases j with
    | zero => simp at hu; subst hu; exact ha
    | succ j => simp at hu
  rcases hv with ⟨rfl, rfl⟩ | ⟨g, off, c, rfl, ⟨cur, hg, hsz, hat⟩, hle, hcm⟩
  · have hr := run_append_nil (P := Try.prog) w 45 ty 3 i0 (.int .i64 0) Try.underlying45 hi hz0 ⟨ab, 0, none⟩ 1 1 [.int .i64 b] (by rw [hz1]; rfl) hnews (by omega) (by omega) (by rw [hz2]; omega)
    refine ⟨w.heap.size, 0, grownCap w 1 0 3, _, hr, ⟨⟨_, heap_alloc_new (w := w.drew) _ _ rfl, ?_, fun j hj => ?_⟩, ?_, ?_⟩, .inr ⟨rfl, rfl, rfl, rfl, by simp, fun k hk _ => Go.heap_alloc_old w.drew _ hk⟩⟩
    · have hge := grownCap_ge w 1 0 3
      simp [size_zeroCells, Value.cells]
      omega
    · obtain rfl : j = 0 := by simp at hj; omega
      rw [Nat.zero_add, Array.getElem?_append_left (by simp)]
      simp
    · have hge := grownCap_ge w 1 0 3
      simpa using hge
    · exact grownCap_le_maxLen w 1 0 3 (by unfold maxLen; omega)
  · by_cases hroom : xs.length + 1 ≤ c
    · have hr := run_append_room_src (P := Try.prog) (w := w) 45 45 ty 3 i0 Try.underlying45 hi g off xs.length c (.slice (some ⟨ab, 0, none⟩) 1 1) 1 [.int .i64 b] (Src.ofSlice w Try.underlying45 ⟨ab, 0, none⟩ 1 1 [.int .i64 b] (by rw [hz1]; rfl) hnews (by simp [Value.oneCell'])) hroom (fun j hj => ?_) (fun j _ => frozen_of_row _ _ _ _ _ hg)
      · refine ⟨g, off, c, _, hr, ?_, .inl ⟨⟨_, _, rfl⟩, ?_⟩⟩
        · rw [hz1, Nat.mul_one]
          refine ⟨⟨cur.setIfInBounds (off + xs.length) (.int .i64 b), blk_set (i := off + xs.length) (.int .i64 b) hg, by simpa using hsz, fun j hj => ?_⟩, by simpa using hroom, hcm⟩
          by_cases hjx : j < xs.length
          · rw [Array.getElem?_setIfInBounds_ne (by omega), hat j hjx, List.getElem_append_left hjx]
          · obtain rfl : j = xs.length := by simp at hj; omega
            rw [Array.getElem?_setIfInBounds_self, if_pos (by omega)]
            simp
        · rw [hz1, Nat.mul_one]
          exact ⟨rfl, rfl, rfl, by simp [World.setCells], fun k _ hk => heap_setCell_other w ⟨g, off + xs.length, none⟩ k _ (fun e => hk (by rw [e]))⟩
      · simp at hj
        subst hj
        rw [hz1, Nat.mul_one, Nat.add_zero, World.cell?, hg]
        show (cur[off + xs.length]?).isSome = true
        rw [Array.getElem?_eq_getElem (by omega)]
        rfl
    · have hfit : Builtin.nextslicecap (xs.length + 1) c * i0.bytes ≤ 281474976710656 := growslice_fits (by omega) (by rw [hz2]; omega)
      have hr := run_append_grow (P := Try.prog) w 45 ty 3 i0 (.int .i64 0) Try.underlying45 hi hz0 ⟨g, off, none⟩ xs.length c (xs.map (Value.int .i64)) (by rw [hz1]; simp) (fun j u hu => ?_) ⟨ab, 0, none⟩ 1 1 [.int .i64 b] (by rw [hz1]; rfl) hnews (by omega) (by omega) hfit
      · refine ⟨w.heap.size, 0, grownCap w (xs.length + 1) c 3, _, hr, ⟨⟨_, heap_alloc_new (w := w.drew) _ _ rfl, ?_, fun j hj => ?_⟩, ?_, ?_⟩, .inr ⟨rfl, rfl, rfl, rfl, by simp, fun k hk _ => Go.heap_alloc_old w.drew _ hk⟩⟩
        · have hge := grownCap_ge w (xs.length + 1) c 3
          simp [size_zeroCells, Value.cells]
          omega
        · rw [Nat.zero_add, Array.getElem?_append_left (by simpa using hj)]
          by_cases hjx : j < xs.length
          · rw [Array.getElem?_append_left (by simpa using hjx)]
            simp [hjx]
          · obtain rfl : j = xs.length := by simp at hj; omega
            rw [Array.getElem?_append_right (by simp)]
            simp
        · have hge := grownCap_ge w (xs.length + 1) c 3
          simpa using hge
        · exact grownCap_le_maxLen w (xs.length + 1) c 3 (by unfold maxLen; omega)
      · rw [addr_add]
        obtain ⟨hj, rfl⟩ := List.getElem?_eq_some_iff.1 hu
        rw [List.length_map] at hj
        rw [World.cell?, hg, List.getElem_map]
        exact hat j hj
end Go.Proofs.Ytfkijdlggdgfhaa
