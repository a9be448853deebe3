/-
  ONE LESS IN A CHAIN's LIST: the rows.
-/
import Derived.Test.YtfkijdlggdgfhaaSAt
import Derived.Laws.CopyRow
namespace Go.Proofs.Ytfkijdlggdgfhaa
open Go.RowKit Go.Sort

/-- what drop leaves -/
structure Drp (w w' : World) (c g off cc : Nat) (xs : List Nat) : Prop where
  ch : w'.heap[c]? = some (.cells #[.slice (some ⟨g, off, none⟩) xs.length cc] 100 (0, 0))
  rw : RwV w' g off cc xs
  fr : Fr (fun k => k = c ∨ k = g) w w'
/-- the front closes up -/
theorem shift_row {cur : Array Value} {off cc : Nat} {A C : List Nat} {b : Nat} (hs : cur.size = off + cc) (hl : (A ++ b :: C).length ≤ cc) (h : ∀ j (hj : j < (A ++ b :: C).length), cur[off + j]? = some (ptr (A ++ b :: C)[j])) :
    ∃ cur2, cur2 = ((cur.toList.take (off + 1) ++ A.map ptr ++ cur.toList.drop (off + 1 + (A.map ptr).length)).toArray).setIfInBounds off (.pointer none) ∧ cur2.size = (off + 1) + (cc - 1) ∧ ∀ j (hj : j < (A ++ C).length), cur2[off + 1 + j]? = some (ptr (A ++ C)[j]) := by
  have hl' : A.length + (C.length + 1) ≤ cc := by simpa using hl
  refine ⟨_, rfl, ?_, fun j hj => ?_⟩
  · simp; omega
  · rw [Array.getElem?_setIfInBounds_ne (by omega)]
    simp only [List.getElem?_toArray]
    have e1 : (cur.toList.take (off + 1)).length = off + 1 := by simp; omega
    rw [List.append_assoc, List.getElem?_append_right (by omega), e1, show off + 1 + j - (off + 1) = j by omega]
    by_cases hjA : j < A.length
    · rw [List.getElem?_append_left (by simpa using hjA), List.getElem?_map, List.getElem?_eq_getElem hjA, List.getElem_append_left hjA]; rfl
    · have hjC : j - A.length < C.length := by simp at hj; omega
      rw [List.getElem?_append_right (by simpa using hjA), List.length_map, List.getElem?_drop, Array.getElem?_toList, show off + 1 + A.length + (j - A.length) = off + (j + 1) by omega]
      rw [h (j + 1) (by simp; omega)]
      congr 2
      rw [List.getElem_append_right (by omega), List.getElem_append_right (by omega)]
      simp only [show j + 1 - A.length = (j - A.length) + 1 by omega, List.getElem_cons_succ]
/-- a list's elements as the library has them -/
def encP : Option Nat → Value
  | none => .pointer none
  | some b => ptr b
theorem encP_one : OneCell encP := fun x => by cases x <;> rfl
theorem blk_putRow {w : World} {g off q : Nat} {cur : Array Value} {t : TypeId} (d : Array (Option Nat)) (hg : w.heap[g]? = some (.cells cur t (0, 0))) :
    (putRow encP (Sort.ahead w q) g off d).heap[g]? = some (.cells (putCells encP off d cur) t (0, 0)) := by
  simp [putRow, mapBlock, Sort.ahead, Array.getElem?_modify, hg, onCells]
theorem oth_putRow {w : World} {g off q k : Nat} (d : Array (Option Nat)) (hk : k ≠ g) : (putRow encP (Sort.ahead w q) g off d).heap[k]? = w.heap[k]? := by
  have : ¬ g = k := fun e => hk e.symm
  simp [putRow, mapBlock, Sort.ahead, Array.getElem?_modify, this]
/-- slices.Delete of one -/
theorem delete_one (w : World) (g off cc : Nat) (A C : List Nat) (b : Nat) (h : RwV w g off cc (A ++ b :: C)) :
    Calls Try.prog 63 #[.slice (some ⟨g, off, none⟩) (A ++ b :: C).length cc, .int .i64 (A.length : Int), .int .i64 ((A.length + 1 : Nat) : Int)] w fun e w' => e = .returned (.slice (some ⟨g, off, none⟩) (A ++ C).length cc) ∧ RwV w' g off cc (A ++ C) ∧ Fr (fun k => k = g) w w' := by
  obtain ⟨⟨cur, hg, hsz, hat⟩, hle, hm⟩ := h
  obtain ⟨i0, hi, hz0, hz1, hz2⟩ := info_parts infoVp
  obtain ⟨d, hd⟩ : ∃ d, d = ((A ++ b :: C).map some).toArray := ⟨_, rfl⟩
  have hds : d.size = (A ++ b :: C).length := by rw [hd]; simp
  have hH : Holds encP w g off d := fun j hj => by
    refine ⟨?_, frozen_of_row _ _ _ _ _ hg⟩
    rw [World.cell?, hg]
    show cur[off + j]? = _
    rw [hds] at hj
    rw [hat j hj, getElem!_pos d j (by omega)]
    simp only [hd, List.getElem_toArray, List.getElem_map]
    rfl
  have hcall := AnyE.slices_Delete laysDelete encP encP_one none run_zeroV i0 hi hz1 g off cc A.length (A.length + 1) d w hH (by omega) hm (by omega) (by rw [hds]; simp)
  rw [hds] at hcall
  refine Calls.mono hcall ?_
  have eL : (d.toList.take A.length ++ d.toList.drop (A.length + 1) ++ List.replicate (A.length + 1 - A.length) none) = (A ++ C).map some ++ [none] := by
    rw [hd, show A.length + 1 - A.length = 1 by omega]
    have e3 : ((A ++ b :: C).map some).drop (A.length + 1) = C.map some := by
      rw [List.map_append, List.map_cons, show A.map some ++ some b :: C.map some = (A.map some ++ [some b]) ++ C.map some by simp]
      exact List.drop_left' (by simp)
    rw [show (((A ++ b :: C).map some).toArray).toList = (A ++ b :: C).map some from rfl, e3]
    simp
  rw [eL]
  rintro e w' ⟨rfl, q, rfl⟩
  refine ⟨?_, ⟨⟨_, blk_putRow _ hg, ?_, fun j hj => ?_⟩, ?_, ?_⟩, ⟨rfl, rfl, rfl, by simp [Sort.ahead], fun k _ hk => oth_putRow _ hk⟩⟩
  · have e4 : (A ++ b :: C).length - (A.length + 1 - A.length) = (A ++ C).length := by simp
    rw [e4]
  · simp [putCells, hsz]
  · have hj' : j < (A ++ b :: C).length := by simp at hj ⊢; omega
    have hsz2 : (((A ++ C).map some ++ [none]).toArray).size = (A ++ b :: C).length := by simp
    simp only [putCells, Array.getElem?_mapIdx, hat j hj', Option.map_some]
    rw [if_pos ⟨by omega, by rw [hsz2]; omega⟩, show off + j - off = j by omega, getElem!_pos _ j (by rw [hsz2]; exact hj')]
    simp only [List.getElem_toArray]
    rw [List.getElem_append_left (by simpa using hj), List.getElem_map]
    rfl
  · have : (A ++ C).length ≤ (A ++ b :: C).length := by simp
    omega
  · exact hm
end Go.Proofs.Ytfkijdlggdgfhaa
