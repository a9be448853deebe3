/-
  drop.
-/
import Derived.Test.YtfkijdlggdgfhaaSDropH
namespace Go.Proofs.Ytfkijdlggdgfhaa
open Go.RowKit Go.Sort

set_option maxRecDepth 100000 in
set_option maxHeartbeats 1000000 in
theorem drop_any (w : World) (c g off cc : Nat) (A C : List Vr) (v : Vr) (h : Line w c g off cc (A ++ v :: C)) :
    Calls Try.prog 40 #[ptr c, ptr v.b] w fun e w' => e = .returned (.tuple #[]) ∧ ∃ off' cc', Drp w w' c g off' cc' ((A ++ C).map Vr.b) := by
  have hAt := at_any w c g off cc A C v h
  have HL : Hid (Line w c g off cc (A ++ v :: C)) := h
  have hml : (A ++ v :: C).length = A.length + 1 + C.length := by simp; omega
  have HZ : Hid (A.length + 1 + C.length ≤ 65536 ∧ cc ≤ 9223372036854775807 ∧ A.length + 1 + C.length ≤ cc) := ⟨by have := h.sz; omega, h.rw.cm, by have := h.rw.le; rw [List.length_map] at this; omega⟩
  clear h
  go_enter Try.func40, Try.ntmps40
  go_wp2_with fail
  refine hAt.mono ?_
  rintro e w1 ⟨rfl, hb1⟩
  have HB1 : Hid (Below w.heap.size w w1) := hb1
  have HL1 : Hid (Line w1 c g off cc (A ++ v :: C)) := HL.out.kept hb1
  have c0 := HL1.out.chc
  rw [hml] at c0
  clear hb1 hAt
  obtain ⟨a, ha⟩ : ∃ a, a = A.length := ⟨_, rfl⟩
  obtain ⟨m, hm⟩ : ∃ m, m = A.length + 1 + C.length := ⟨_, rfl⟩
  rw [← hm] at c0 hml
  rw [← ha]
  have HA : Hid (a = A.length ∧ m = A.length + 1 + C.length) := ⟨ha, hm⟩
  have hsz : m ≤ 65536 ∧ m ≤ cc := by have := HZ.out; omega
  have HZ2 : Hid (m ≤ 65536 ∧ m ≤ cc ∧ a < m) := ⟨hsz.1, hsz.2, by omega⟩
  clear ha hm
  have hmb : m ≤ 65536 := hsz.1
  clear hsz
  have hcg : c ≠ g := fun e => by
    obtain ⟨⟨cur, h1, _⟩, _⟩ := HL1.out.rw
    have h2 := HL1.out.ch
    rw [e, h1] at h2
    exact ty_ne h2 (by decide)
  have HCG : Hid (c ≠ g) := hcg
  have ham : a < m := HZ2.out.2.2
  clear hcg
  by_cases hc : m / 2 ≤ a
  · have hc1 : (m : Int) / 2 ≤ (a : Int) := by omega
    have HDel : Hid (Calls Try.prog 63 #[.slice (some ⟨g, off, none⟩) m cc, .int .i64 (a : Int), .int .i64 ((a : Int) + 1)] w1 fun e w' => e = .returned (.slice (some ⟨g, off, none⟩) (m - 1) cc) ∧ RwV w' g off cc ((A ++ C).map Vr.b) ∧ Fr (fun k => k = g) w1 w') := by
      have h1 := HL1.out.rw
      rw [List.map_append, List.map_cons] at h1
      have h2 := delete_one w1 g off cc (A.map Vr.b) (C.map Vr.b) v.b h1
      rw [List.length_map, ← HA.out.1, show (A.map Vr.b ++ v.b :: C.map Vr.b).length = m by rw [HA.out.2, List.length_append, List.length_cons, List.length_map, List.length_map]; omega, show ((a + 1 : Nat) : Int) = (a : Int) + 1 by omega, show (A.map Vr.b ++ C.map Vr.b).length = m - 1 by rw [HA.out.2, List.length_append, List.length_map, List.length_map]; omega, ← List.map_append] at h2
      exact h2
    have HM : Hid (m - 1 = ((A ++ C).map Vr.b).length) := by show _ = _; rw [HA.out.2, List.length_map, List.length_append]; omega
    clear hml HZ HZ2 HA
    go_wp2_with fail
    refine HDel.out.mono ?_
    rintro e w2 ⟨rfl, hr2, hf2⟩
    have hc2 : w2.heap[c]? = some (.cells #[.slice (some ⟨g, off, none⟩) (A ++ v :: C).length cc] 100 (0, 0)) := (hf2.block c (blk_lt HL1.out.ch) HCG.out).trans HL1.out.ch
    have x0 : w2.cell? ⟨c, 0, none⟩ = some (.slice (some ⟨g, off, none⟩) (A ++ v :: C).length cc) := by rw [World.cell?, hc2]; rfl
    have f0 : w2.frozen? ⟨c, 0, none⟩ = false := frozen_of_row _ _ _ _ _ hc2
    have HD : Hid (Drp w (w2.setCell ⟨c, 0, none⟩ (.slice (some ⟨g, off, none⟩) (m - 1) cc)) c g off cc ((A ++ C).map Vr.b)) := by
      refine ⟨?_, hr2.same (heap_setCell_other _ _ _ _ (Ne.symm HCG.out)), ?_⟩
      · rw [← HM.out]; exact blk_set _ hc2
      · have hb1 := HB1.out
        refine Fr.set ⟨hf2.os.trans hb1.os, hf2.tape.trans hb1.tape, hf2.output.trans hb1.output, Nat.le_trans hb1.size hf2.size, fun k hk hn => (hf2.block k (Nat.lt_of_lt_of_le hk hb1.size) (fun e => hn (.inr e))).trans (hb1.block k hk)⟩ _ _ (.inr (.inl rfl))
    clear hr2 hf2 hc2 HDel HL HL1 HB1
    generalize (A ++ v :: C).length = mm at x0
    go_wp2
    refine bodyPost_ret (v := .tuple #[]) (by simp [results, Try.results40]) rfl ?_
    exact ⟨rfl, _, _, HD.out⟩
  · have hc1 : ¬ (m : Int) / 2 ≤ (a : Int) := by omega
    have hm2 : 2 ≤ m := by omega
    have hcc1 : ¬ cc = 1 := by have := HZ2.out; omega
    have hcc2 : m ≤ cc := HZ2.out.2.1
    obtain ⟨⟨cur, hg, hsz, hat⟩, hle, hcm⟩ := HL1.out.rw
    rw [List.map_append, List.map_cons] at hat hle
    obtain ⟨cur2, hcur2, hs2, hat2⟩ := shift_row hsz hle hat
    have hcp := fun ty => run_copy_row (P := Try.prog) w1.drew 98 98 ty 83 g (off + 1) a (cc - 1) ⟨g, off, none⟩ a cc cur 83 ((A.map Vr.b).map ptr) Try.underlying98 (by kernel_rfl) hg (by simp [HA.out.1]) (fun j u hu => by
      obtain ⟨hj, rfl⟩ := List.getElem?_eq_some_iff.1 hu
      simp at hj
      rw [addr_add, World.cell?]
      show (match w1.heap[g]? with | some (.cells cs _ _) => cs[off + j]? | _ => none) = _
      rw [hg]
      show cur[off + j]? = _
      rw [hat j (by simp; omega), List.getElem_append_left (by simpa using hj)]
      simp) (by rw [hsz]; simp; have := HA.out; omega) (fun u hu => by obtain ⟨x, _, rfl⟩ := List.mem_map.1 hu; rfl)
    obtain ⟨W2, hW2⟩ : ∃ W2, W2 = w1.drew.setRow g (cur.toList.take (off + 1) ++ (A.map Vr.b).map ptr ++ cur.toList.drop (off + 1 + ((A.map Vr.b).map ptr).length)).toArray := ⟨_, rfl⟩
    rw [← hW2] at hcp
    have hg2 : W2.heap[g]? = some (.cells (cur.toList.take (off + 1) ++ (A.map Vr.b).map ptr ++ cur.toList.drop (off + 1 + ((A.map Vr.b).map ptr).length)).toArray 83 (0, 0)) := by rw [hW2]; exact setRow_heap _ _ _ _ _ _ hg
    have HO2 : Hid (∀ k, k ≠ g → W2.heap[k]? = w1.heap[k]?) := fun k hk => by rw [hW2]; exact setRow_other _ _ _ _ hk
    have HF2 : Hid (W2.os = w1.os ∧ W2.tape = w1.tape ∧ W2.output = w1.output ∧ W2.heap.size = w1.heap.size) := by show _; rw [hW2]; exact ⟨rfl, rfl, rfl, by simp [World.setRow]⟩
    clear hW2
    have hc2 := (HO2.out c HCG.out).trans HL1.out.ch
    rw [hml] at hc2
    have y0 : W2.cell? ⟨c, 0, none⟩ = some (.slice (some ⟨g, off, none⟩) m cc) := by rw [World.cell?, hc2]; rfl
    have z0 : ∃ u, W2.cell? ⟨g, off, none⟩ = some u := by
      rw [World.cell?, hg2]
      show ∃ u, (cur.toList.take (off + 1) ++ (A.map Vr.b).map ptr ++ cur.toList.drop (off + 1 + ((A.map Vr.b).map ptr).length)).toArray[off]? = some u
      exact ⟨_, Array.getElem?_eq_getElem (by simp; omega)⟩
    obtain ⟨u0, z0⟩ := z0
    have f0 : W2.frozen? ⟨g, off, none⟩ = false := frozen_of_row _ _ _ _ _ hg2
    have hg3 : (W2.setCell ⟨g, off, none⟩ (.pointer none)).heap[g]? = some (.cells cur2 83 (0, 0)) := by rw [hcur2]; exact blk_set _ hg2
    have hc3 : (W2.setCell ⟨g, off, none⟩ (.pointer none)).heap[c]? = some (.cells #[.slice (some ⟨g, off, none⟩) m cc] 100 (0, 0)) := (heap_setCell_other _ _ _ _ HCG.out).trans hc2
    have y1 : (W2.setCell ⟨g, off, none⟩ (.pointer none)).cell? ⟨c, 0, none⟩ = some (.slice (some ⟨g, off, none⟩) m cc) := by rw [World.cell?, hc3]; rfl
    have f1 : (W2.setCell ⟨g, off, none⟩ (.pointer none)).frozen? ⟨c, 0, none⟩ = false := frozen_of_row _ _ _ _ _ hc3
    have HD : Hid (Drp w ((W2.setCell ⟨g, off, none⟩ (.pointer none)).setCell ⟨c, 0, none⟩ (.slice (some ⟨g, off + 1, none⟩) (m - 1) (cc - 1))) c g (off + 1) (cc - 1) ((A ++ C).map Vr.b)) := by
      have hml2 : m - 1 = ((A ++ C).map Vr.b).length := by rw [HA.out.2, List.length_map, List.length_append]; omega
      refine ⟨by rw [← hml2]; exact blk_set _ hc3, ⟨⟨cur2, (heap_setCell_other _ _ _ _ (Ne.symm HCG.out)).trans hg3, hs2, ?_⟩, by rw [← hml2]; omega, by omega⟩, ?_⟩
      · rw [List.map_append]; exact hat2
      · have hb1 := HB1.out
        obtain ⟨q1, q2, q3, q4⟩ := HF2.out
        refine Fr.set (Fr.set ⟨q1.trans hb1.os, q2.trans hb1.tape, q3.trans hb1.output, by rw [q4]; exact hb1.size, fun k hk hn => (HO2.out k (fun e => hn (.inr e))).trans (hb1.block k hk)⟩ _ _ (.inr (.inr rfl))) _ _ (.inr (.inl rfl))
    clear hml HZ HZ2 HA hg hsz hat hle hcur2 hs2 hat2 hg2 HO2 HF2 hc2 hg3 hc3 HL HL1 HB1
    go_upto_region 3 with fail
    go_region
    go_wp2
    go_end0
    exact ⟨rfl, _, _, HD.out⟩
end Go.Proofs.Ytfkijdlggdgfhaa
