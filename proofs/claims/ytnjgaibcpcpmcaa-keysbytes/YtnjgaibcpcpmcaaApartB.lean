/-
  THE WALK OF apartBytes, of two lists.
-/
import Derived.Test.YtnjgaibcpcpmcaaKRefBytes
import Derived.ArgAppend
namespace Go.Proofs.Ytnjgaibcpcpmcaa
open Go.RowKit Go.Sort

/-- a list that was answered: nil, or ten bytes of an array -/
def RowIs (w : World) (v : Value) (L : List Nat) : Prop :=
  (∀ z ∈ L, z < 256) ∧ ((v = .slice none 0 0 ∧ L = []) ∨ ∃ B, v = .slice (some ⟨B, 0, none⟩) L.length L.length ∧ w.heap[B]? = some (.cells (cellsU8 L) 50 (0, 0)) ∧ L.length = 10)
theorem RowIs.same {w w1 : World} {v : Value} {L : List Nat} (h : RowIs w v L) (hb : ∀ B, v.ownBlock = some B → w1.heap[B]? = w.heap[B]?) : RowIs w1 v L := by
  obtain ⟨hz, h | ⟨B, rfl, hr, hl⟩⟩ := h
  · exact ⟨hz, .inl h⟩
  · exact ⟨hz, .inr ⟨B, rfl, (hb B rfl).trans hr, hl⟩⟩
theorem RowIs.slice {w : World} {v : Value} {L : List Nat} (h : RowIs w v L) : ∃ ao, v = .slice ao L.length L.length ∧ BytesAt w ao L ∧ (ao = none → L.length = 0) ∧ L.length ≤ 10 := by
  obtain ⟨hz, ⟨rfl, rfl⟩ | ⟨B, rfl, hr, hl⟩⟩ := h
  · exact ⟨none, rfl, ⟨by simp, .inl rfl⟩, fun _ => rfl, by simp⟩
  · exact ⟨_, rfl, ⟨hz, .inr ⟨B, 0, rfl, fun j hj => by rw [Nat.zero_add]; exact row_cell hr j hj⟩⟩, by simp, by omega⟩
theorem RowIs.lt {w : World} {v : Value} {L : List Nat} (h : RowIs w v L) : ∀ B, v.ownBlock = some B → B < w.heap.size := by
  obtain ⟨hz, ⟨rfl, rfl⟩ | ⟨B, rfl, hr, hl⟩⟩ := h
  · intro B hB; cases hB
  · intro B' hB; cases hB; exact (Array.getElem?_eq_some_iff.1 hr).1

/-- append to such a list, or to one of the call's own -/
def Src (w : World) (base : Nat) (v : Value) (L : List Nat) : Prop := OwnB w base v L ∨ (L.length ≤ 10 ∧ ∃ ao, v = .slice ao L.length L.length ∧ BytesAt w ao L ∧ (ao = none → L.length = 0))
theorem Src.len {w : World} {base : Nat} {v : Value} {L : List Nat} (h : Src w base v L) : ∃ ao c, v = .slice ao L.length c := by
  rcases h with h | ⟨_, ao, rfl, _⟩
  · obtain ⟨ao, c, e, _⟩ := h.slice; exact ⟨ao, c, e⟩
  · exact ⟨ao, _, rfl⟩
theorem wpList_append_src {w : World} {ops : Array Oper} {rest : List Oper} {o : Oper} {a : Act} {Q : Exit → Act → World → Prop} (hgd : o.guard = none) (s x : Operand)
    (ho : o.op = .call { callee := .builtin .append, args := #[s, x], argTypes := #[29, 29] }) (base : Nat) (v : Value) (L : List Nat) (hs : a.eval s = v) (hsrc0 : Src w base v L)
    (ad : Addr) (m c : Nat) (zs : List Nat) (hx : a.eval x = .slice (some ad) m c) (hm : m = zs.length) (hsrc : BytesAt w (some ad) zs) (hne : zs ≠ []) (hlen : L.length + zs.length ≤ 1000) (hbase : base ≤ w.heap.size)
    (h : ∀ v' w', OwnB w' base v' (L ++ zs) → Below base w w' → wpList Try.prog ops Q rest (a.put o.dst v') w') : wpList Try.prog ops Q (o :: rest) a w := by
  rcases hsrc0 with hown | ⟨h10, ao, rfl, hb, hn⟩
  · refine wpList_append_bytes hgd s x ho base v L hs hown (some ad) m c zs hx hm hsrc (by simp) (by omega) hbase ?_
    intro v' w' h1 h2
    exact h v' w' h1 (below_grown' h2 (fun k hk => (hown.2.lt k hk).1) hbase)
  · obtain ⟨i0, hi, hz0, hz1, hz2⟩ := info_parts info8
    have hz : 0 < zs.length := List.length_pos_iff.2 hne
    obtain ⟨ad', e, hcs⟩ := bytes_src hsrc hne
    cases e
    refine wpList_append_grows w hgd s x 29 ho 5 i0 (.int .u8 0) 1 1 Try.underlying29 hi hz0 hz1 hz2 rfl (by decide) ao L.length L.length (L.map b8) hs (fun e => ⟨hn e, hn e⟩) (by simp) ?_ ad m c (zs.map b8) hx (by simp [hm]) hcs (oneCells zs) (by omega) (by unfold maxLen; omega) (by omega) ?_
    · intro b hbb j u hu
      by_cases hL : L = []
      · subst hL; simp at hu
      · obtain ⟨ad2, e2, hc2⟩ := bytes_src hb hL
        rw [hbb] at e2
        cases e2
        exact hc2 j u hu
    · intro v' w' h1 h2
      refine h v' w' ⟨?_, ?_⟩ (below_grown' h2 (by simp) hbase)
      · intro z hzz
        rcases List.mem_append.1 hzz with h3 | h3
        · exact hb.1 z h3
        · exact hsrc.1 z h3
      · have h3 : w'.ownsRow w.heap.size 5 1 v' (L ++ zs).length ((L ++ zs).map b8) := by
          rw [List.length_append, List.map_append, ← hm]; exact h1
        exact (OwnB.mono (w := w') (base := w.heap.size) (v := v') (L := L ++ zs) ⟨by
          intro z hzz
          rcases List.mem_append.1 hzz with h4 | h4
          · exact hb.1 z h4
          · exact hsrc.1 z h4, h3⟩ hbase).2

theorem Src.kept {w w1 : World} {base : Nat} {v : Value} {L : List Nat} (h : Src w base v L) (hb : Below w.heap.size w w1) : Src w1 base v L := by
  rcases h with h | ⟨h10, ao, e, hx, hn⟩
  · exact .inl (h.kept hb)
  · exact .inr ⟨h10, ao, e, hx.kept hb, hn⟩
theorem Src.alloc {w : World} {base : Nat} {v : Value} {L : List Nat} (h : Src w base v L) (o : Obj) : Src (w.alloc o) base v L := h.kept ((Grew.refl w).alloc o).below
theorem RowIs.src {w : World} {v : Value} {L : List Nat} (h : RowIs w v L) (base : Nat) : Src w base v L := by
  obtain ⟨ao, e, hb, hn, hl⟩ := h.slice
  exact .inr ⟨hl, ao, e, hb, hn⟩
/-- the two lists -/
structure St (w : World) (C : Nat) (vs : Nat → Value) (Ls : Nat → List Nat) : Prop where
  cell : ∀ j, j < 2 → w.cell? ⟨C, j, none⟩ = some (vs j)
  row : ∀ j, j < 2 → RowIs w (vs j) (Ls j)
def upd (Ls : Nat → List Nat) (i : Nat) (M : List Nat) : Nat → List Nat := fun j => if j = i then M else Ls j
theorem upd_same (Ls : Nat → List Nat) (i : Nat) (M : List Nat) : upd Ls i M i = M := if_pos rfl
theorem upd_other (Ls : Nat → List Nat) (i j : Nat) (M : List Nat) (h : j ≠ i) : upd Ls i M j = Ls j := if_neg h
theorem upd_self (Ls : Nat → List Nat) (i : Nat) : upd Ls i (Ls i) = Ls := by
  funext j; unfold upd; split
  · rename_i h; rw [h]
  · rfl
theorem St.below {w w1 : World} {C : Nat} {vs : Nat → Value} {Ls : Nat → List Nat} {B : Nat} (h : St w C vs Ls) (hb : Below B w w1) (hC : C < B) (hv : ∀ j, j < 2 → ∀ b, (vs j).ownBlock = some b → b < B) : St w1 C vs Ls :=
  ⟨fun j hj => (hb.cell (p := ⟨C, j, none⟩) hC).trans (h.cell j hj), fun j hj => (h.row j hj).same fun b hbb => hb.block b (hv j hj b hbb)⟩

theorem set_prefix (n z : Nat) (M : List Nat) (k : Nat) (hk : k < M.length) : (List.replicate k z ++ M.drop k).set k z = List.replicate (k + 1) z ++ M.drop (k + 1) := by
  have _ := n
  rw [List.set_append_right _ _ (by simp), List.length_replicate, Nat.sub_self, List.drop_eq_getElem_cons hk, List.set_cons_zero, List.replicate_succ', List.append_assoc]
  rfl

set_option maxHeartbeats 4000000 in
set_option maxRecDepth 100000 in
theorem apartBytes_two (w : World) (base C : Nat) (vs : Nat → Value) (Ls : Nat → List Nat) (hbase : base ≤ w.heap.size) (hCl : C < w.heap.size) (hst : St w C vs Ls)
    (hvb : ∀ j, j < 2 → ∀ b, (vs j).ownBlock = some b → base ≤ b ∧ b ≠ C) (hap : ∀ b, (vs 0).ownBlock = some b → (vs 1).ownBlock ≠ some b) :
    Calls Try.prog 18 #[.slice (some ⟨C, 0, none⟩) 2 2] w fun e w' => e = .returned (.bool true) ∧ Below base w w' := by
  have HS : Hid (St w C vs Ls) := hst
  have HVB : Hid (∀ j, j < 2 → ∀ b, (vs j).ownBlock = some b → base ≤ b ∧ b ≠ C) := hvb
  have HAP : Hid (∀ j i, j < 2 → i < 2 → j ≠ i → ∀ b, (vs i).ownBlock = some b → (vs j).ownBlock ≠ some b) := by
    intro j i hj hi hne b hb hb2
    have h1 : (i = 0 ∧ j = 1) ∨ (i = 1 ∧ j = 0) := by omega
    rcases h1 with ⟨rfl, rfl⟩ | ⟨rfl, rfl⟩
    · exact hap b hb hb2
    · exact hap b hb2 hb
  have HLT : Hid (∀ j, j < 2 → ∀ b, (vs j).ownBlock = some b → b < w.heap.size) := fun j hj => (hst.row j hj).lt
  have HL : Hid (∀ j, j < 2 → (Ls j).length ≤ 10) := fun j hj => by obtain ⟨_, _, _, _, h⟩ := (hst.row j hj).slice; exact h
  clear hst hvb hap
  go_enter Try.func18, Try.ntmps18
  go_wp2
  -- the marks
  go_loopw [3, 4] (fun x _ wr => ∃ (i : Nat) (Ms : Nat → List Nat), i ≤ 2 ∧ x = .int .i64 (i : Int) ∧ Hid (St wr C vs Ms) ∧ Hid (Below base w wr ∧ w.heap.size = wr.heap.size) ∧ Hid (∀ j, j < 2 → (Ms j).length = (Ls j).length ∧ (j < i → Ms j = List.replicate (Ls j).length (j + 1)))) (fun x _ _ => 2 - (intOf x).toNat)
  case atStart => exact ⟨0, Ls, by omega, rfl, HS.out, ⟨Below.refl _ _, rfl⟩, fun j hj => ⟨rfl, fun h => by omega⟩⟩
  case round =>
    obtain ⟨i, Ms, hi, rfl, HSt, HB, HM⟩ := hrel
    by_cases hi2 : i < 2
    · rename World => wo
      have hi01 : i = 0 ∨ i = 1 := by omega
      rcases hi01 with rfl | rfl
      · have hv0 := (HSt.out.row 0 (by omega)).slice
        obtain ⟨ao, hv, hbt, hno, hl10⟩ := hv0
        have hlen := (HM.out 0 (by omega)).1
        rw [hlen] at hv hno hl10
        have hcc := HSt.out.cell 0 (by omega)
        rw [hv] at hcc
        clear hbt hno
        go_wp2
        clear hcc
        go_loopw [4] (fun y wr => ∃ k : Nat, k ≤ (Ls 0).length ∧ y = .int .i64 (k : Int) ∧ Hid (St wr C vs (upd Ms 0 (List.replicate k 1 ++ (Ms 0).drop k))) ∧ Hid (Below base w wr ∧ w.heap.size = wr.heap.size)) (fun y _ => (Ls 0).length - (intOf y).toNat)
        case atStart => exact ⟨0, Nat.zero_le _, rfl, by rw [Hid, List.replicate_zero, List.nil_append, List.drop_zero, upd_self]; exact HSt.out, HB.out⟩
        case round =>
          obtain ⟨k, hk, rfl, HS2, HB2⟩ := hrel
          have hcc := HS2.out.cell 0 (by omega)
          rw [hv] at hcc
          by_cases hkl : k < (Ls 0).length
          · obtain ⟨_, ⟨e, _⟩ | ⟨B, e, hrw, hl⟩⟩ := HS2.out.row 0 (by omega)
            · rw [hv] at e
              simp only [Value.slice.injEq] at e
              omega
            · rw [upd_same] at e hrw hl
              have hlm : (List.replicate k 1 ++ (Ms 0).drop k).length = (Ls 0).length := by simp; omega
              rw [hlm] at e hl
              rw [hv] at e
              obtain rfl : ao = some ⟨B, 0, none⟩ := by cases e; rfl
              have hvb := HVB.out 0 (by omega) B (by rw [hv]; rfl)
              have hcell := row_cell hrw k (by omega)
              have hfro : wr.frozen? ⟨B, k, none⟩ = false := frozen_of_row wr _ _ _ _ hrw
              have HN : Hid (St (wr.setCell ⟨B, k, none⟩ (.int .u8 1)) C vs (upd Ms 0 (List.replicate (k + 1) 1 ++ (Ms 0).drop (k + 1)))) := by
                refine ⟨fun j hj => ?_, fun j hj => ?_⟩
                · have hh := heap_setCell_other wr ⟨B, k, none⟩ C (.int .u8 1) (Ne.symm hvb.2)
                  have := HS2.out.cell j hj
                  simp only [World.cell?, hh] at this ⊢
                  exact this
                · by_cases hj0 : j = 0
                  · subst hj0
                    rw [upd_same, hv]
                    have hs2 := heap_setCell_same wr B k _ _ (.int .u8 ((1 : Nat) : Int)) hrw
                    rw [set_cellsU8, set_prefix 0 1 (Ms 0) k (by omega)] at hs2
                    have hl2 : (List.replicate (k + 1) 1 ++ (Ms 0).drop (k + 1)).length = (Ls 0).length := by simp; omega
                    refine ⟨?_, .inr ⟨B, by rw [hl2], hs2, by rw [hl2]; exact hl⟩⟩
                    intro x hx
                    rcases List.mem_append.1 hx with h | h
                    · have := List.eq_of_mem_replicate h; omega
                    · exact (HSt.out.row 0 (by omega)).1 x (List.mem_of_mem_drop h)
                  · have := HS2.out.row j hj
                    rw [upd_other _ _ _ _ hj0] at this ⊢
                    refine this.same fun b hb => heap_setCell_other wr ⟨B, k, none⟩ b _ ?_
                    rintro rfl
                    exact HAP.out j 0 hj (by omega) hj0 _ (by rw [hv]; rfl) hb
              have HB3 : Hid (Below base w (wr.setCell ⟨B, k, none⟩ (.int .u8 1)) ∧ w.heap.size = (wr.setCell ⟨B, k, none⟩ (.int .u8 1)).heap.size) := ⟨HB2.out.1.setCell hvb.1 _, by rw [HB2.out.2]; simp⟩
              clear hrw hlm
              generalize (List.replicate k 1 ++ (Ms 0).drop k).getD k 0 = old at hcell
              go_wp2
              go_roundw
              case rel => exact ⟨k + 1, by omega, by go_num, HN, HB3⟩
              case measure => simp [intOf]; omega
          · obtain rfl : k = (Ls 0).length := by omega
            have HE : Hid (St wr C vs (upd Ms 0 (List.replicate (Ls 0).length 1))) := by
              have := HS2.out
              rwa [List.drop_of_length_le (by omega), List.append_nil] at this
            have HM2 : Hid (∀ j, j < 2 → (upd Ms 0 (List.replicate (Ls 0).length 1) j).length = (Ls j).length ∧ (j < 0 + 1 → upd Ms 0 (List.replicate (Ls 0).length 1) j = List.replicate (Ls j).length (j + 1))) := fun j hj => by
              by_cases hj0 : j = 0
              · subst hj0; rw [upd_same]; exact ⟨by simp, fun _ => rfl⟩
              · rw [upd_other _ _ _ _ hj0]; exact ⟨(HM.out j hj).1, fun h => (HM.out j hj).2 (by omega)⟩
            go_wp2
            go_roundw
            case rel => exact ⟨0 + 1, _, by omega, by go_num, HE, HB2, HM2⟩
            case measure => simp [intOf]
      · have hv0 := (HSt.out.row 1 (by omega)).slice
        obtain ⟨ao, hv, hbt, hno, hl10⟩ := hv0
        have hlen := (HM.out 1 (by omega)).1
        rw [hlen] at hv hno hl10
        have hcc := HSt.out.cell 1 (by omega)
        rw [hv] at hcc
        clear hbt hno
        go_wp2
        clear hcc
        go_loopw [4] (fun y wr => ∃ k : Nat, k ≤ (Ls 1).length ∧ y = .int .i64 (k : Int) ∧ Hid (St wr C vs (upd Ms 1 (List.replicate k 2 ++ (Ms 1).drop k))) ∧ Hid (Below base w wr ∧ w.heap.size = wr.heap.size)) (fun y _ => (Ls 1).length - (intOf y).toNat)
        case atStart => exact ⟨0, Nat.zero_le _, rfl, by rw [Hid, List.replicate_zero, List.nil_append, List.drop_zero, upd_self]; exact HSt.out, HB.out⟩
        case round =>
          obtain ⟨k, hk, rfl, HS2, HB2⟩ := hrel
          have hcc := HS2.out.cell 1 (by omega)
          rw [hv] at hcc
          by_cases hkl : k < (Ls 1).length
          · obtain ⟨_, ⟨e, _⟩ | ⟨B, e, hrw, hl⟩⟩ := HS2.out.row 1 (by omega)
            · rw [hv] at e
              simp only [Value.slice.injEq] at e
              omega
            · rw [upd_same] at e hrw hl
              have hlm : (List.replicate k 2 ++ (Ms 1).drop k).length = (Ls 1).length := by simp; omega
              rw [hlm] at e hl
              rw [hv] at e
              obtain rfl : ao = some ⟨B, 0, none⟩ := by cases e; rfl
              have hvb := HVB.out 1 (by omega) B (by rw [hv]; rfl)
              have hcell := row_cell hrw k (by omega)
              have hfro : wr.frozen? ⟨B, k, none⟩ = false := frozen_of_row wr _ _ _ _ hrw
              have HN : Hid (St (wr.setCell ⟨B, k, none⟩ (.int .u8 2)) C vs (upd Ms 1 (List.replicate (k + 1) 2 ++ (Ms 1).drop (k + 1)))) := by
                refine ⟨fun j hj => ?_, fun j hj => ?_⟩
                · have hh := heap_setCell_other wr ⟨B, k, none⟩ C (.int .u8 2) (Ne.symm hvb.2)
                  have := HS2.out.cell j hj
                  simp only [World.cell?, hh] at this ⊢
                  exact this
                · by_cases hj1 : j = 1
                  · subst hj1
                    rw [upd_same, hv]
                    have hs2 := heap_setCell_same wr B k _ _ (.int .u8 ((2 : Nat) : Int)) hrw
                    rw [set_cellsU8, set_prefix 0 2 (Ms 1) k (by omega)] at hs2
                    have hl2 : (List.replicate (k + 1) 2 ++ (Ms 1).drop (k + 1)).length = (Ls 1).length := by simp; omega
                    refine ⟨?_, .inr ⟨B, by rw [hl2], hs2, by rw [hl2]; exact hl⟩⟩
                    intro x hx
                    rcases List.mem_append.1 hx with h | h
                    · have := List.eq_of_mem_replicate h; omega
                    · exact (HSt.out.row 1 (by omega)).1 x (List.mem_of_mem_drop h)
                  · have := HS2.out.row j hj
                    rw [upd_other _ _ _ _ hj1] at this ⊢
                    refine this.same fun b hb => heap_setCell_other wr ⟨B, k, none⟩ b _ ?_
                    rintro rfl
                    exact HAP.out j 1 hj (by omega) hj1 _ (by rw [hv]; rfl) hb
              have HB3 : Hid (Below base w (wr.setCell ⟨B, k, none⟩ (.int .u8 2)) ∧ w.heap.size = (wr.setCell ⟨B, k, none⟩ (.int .u8 2)).heap.size) := ⟨HB2.out.1.setCell hvb.1 _, by rw [HB2.out.2]; simp⟩
              clear hrw hlm
              generalize (List.replicate k 2 ++ (Ms 1).drop k).getD k 0 = old at hcell
              go_wp2
              go_roundw
              case rel => exact ⟨k + 1, by omega, by go_num, HN, HB3⟩
              case measure => simp [intOf]; omega
          · obtain rfl : k = (Ls 1).length := by omega
            have HE : Hid (St wr C vs (upd Ms 1 (List.replicate (Ls 1).length 2))) := by
              have := HS2.out
              rwa [List.drop_of_length_le (by omega), List.append_nil] at this
            have HM2 : Hid (∀ j, j < 2 → (upd Ms 1 (List.replicate (Ls 1).length 2) j).length = (Ls j).length ∧ (j < 1 + 1 → upd Ms 1 (List.replicate (Ls 1).length 2) j = List.replicate (Ls j).length (j + 1))) := fun j hj => by
              by_cases hj1 : j = 1
              · subst hj1; rw [upd_same]; exact ⟨by simp, fun _ => rfl⟩
              · rw [upd_other _ _ _ _ hj1]; exact ⟨(HM.out j hj).1, fun h => (HM.out j hj).2 (by omega)⟩
            go_wp2
            go_roundw
            case rel => exact ⟨1 + 1, _, by omega, by go_num, HE, HB2, HM2⟩
            case measure => simp [intOf]
    · obtain rfl : i = 2 := by omega
      rename World => W1
      rw [show ((2 : Nat) : Int) = 2 from rfl]
      have HBW : Hid (Below base w W1 ∧ w.heap.size = W1.heap.size) := HB.out
      rw [HB.out.2] at hCl HLT
      have HSt1 : Hid (St W1 C vs Ms) := HSt.out
      go_wp2
      go_loopw [5, 6, 7, 8, 9] (fun x _ _ _ _ wr => ∃ i : Nat, i ≤ 2 ∧ x = .int .i64 (i : Int) ∧ Hid (St wr C vs Ms) ∧ Hid (Below W1.heap.size W1 wr)) (fun x _ _ _ _ _ => 2 - (intOf x).toNat)
      case atStart => exact ⟨0, by omega, rfl, HSt.out, Below.refl _ _⟩
      case round =>
        obtain ⟨i, hi, rfl, HSt2, HB2⟩ := hrel
        rename World => wo2
        have hi012 : i = 0 ∨ i = 1 ∨ i = 2 := by omega
        rcases hi012 with rfl | rfl | rfl
        · rw [show ((0 : Nat) : Int) = 0 from rfl]
          obtain ⟨ao, hv, hbt, hno, hl10⟩ := (HSt2.out.row 0 (by omega)).slice
          have hcc := HSt2.out.cell 0 (by omega)
          rw [hv] at hcc
          have HSrc : Hid (Src wo2 W1.heap.size (.slice ao (Ms 0).length (Ms 0).length) (Ms 0)) := by have := (HSt2.out.row 0 (by omega)).src W1.heap.size; rwa [hv] at this
          clear hbt hno
          go_wp2
          clear hcc
          go_loopw [6, 7] (fun g y wr => ∃ k : Nat, k ≤ 20 ∧ y = .int .i64 (k : Int) ∧ Hid (Src wr W1.heap.size g (Ms 0 ++ List.replicate k 1)) ∧ Hid (Below W1.heap.size W1 wr)) (fun _ y _ => 20 - (intOf y).toNat)
          case atStart => exact ⟨0, by omega, rfl, by rw [Hid, List.replicate_zero, List.append_nil]; exact HSrc.out, HB2.out⟩
          case round =>
            obtain ⟨k, hk, rfl, HS3, HB3⟩ := hrel
            by_cases hk20 : k < 20
            · have hk20' : (k : Int) < 20 := by omega
              go_wp2_with (at_builtin; refine wpList_append_src rfl _ _ rfl W1.heap.size _ (Ms 0 ++ List.replicate k 1) rfl (HS3.out.alloc _) _ _ _ [1] rfl rfl (byte_src _ _ 1 rfl (by omega)) (by simp) (by simp; omega) (by have := HB3.out.size; simp; omega) ?_; intro v' w4 hown1 hbel1)
              have HS4 : Hid (Src w4 W1.heap.size v' (Ms 0 ++ List.replicate (k + 1) 1)) := by
                rw [List.replicate_succ', ← List.append_assoc]; exact .inl hown1
              have HB4 : Hid (Below W1.heap.size W1 w4) := (HB3.out.alloc HB3.out.size _).trans hbel1
              clear hown1 hbel1
              go_roundw
              case rel => exact ⟨k + 1, by omega, by go_num, HS4, HB4⟩
              case measure => simp [intOf]; omega
            · obtain rfl : k = 20 := by omega
              rw [show ((20 : Nat) : Int) = 20 from rfl]
              rename World => wo3
              go_wp2
              go_loopw [8, 9] (fun g y wr => ∃ k : Nat, k ≤ 64 ∧ y = .int .i64 (k : Int) ∧ Hid (OwnB wr W1.heap.size g (List.replicate k 1)) ∧ Hid (Below W1.heap.size W1 wr)) (fun _ y _ => 64 - (intOf y).toNat)
              case atStart => exact ⟨0, by omega, rfl, OwnB.nil _ _, HB3.out⟩
              case round =>
                obtain ⟨k, hk, rfl, HO, HB4⟩ := hrel
                by_cases hk64 : k < 64
                · have hk64' : (k : Int) < 64 := by omega
                  go_wp2_with (at_builtin; refine wpList_append_bytes rfl _ _ rfl W1.heap.size _ (List.replicate k 1) rfl (HO.out.alloc _) _ _ _ [1] rfl rfl (byte_src _ _ 1 rfl (by omega)) (by simp) (by simp; omega) (by have := HB4.out.size; simp; omega) ?_; intro v' w5 hown1 hgrow1)
                  have HO2 : Hid (OwnB w5 W1.heap.size v' (List.replicate (k + 1) 1)) := by rw [List.replicate_succ']; exact hown1
                  have HB5 : Hid (Below W1.heap.size W1 w5) := HB4.out.trans (below_grown' (grown_alloc' w5 hgrow1) (fun k hk => (HO.out.2.lt k hk).1) HB4.out.size)
                  clear hown1 hgrow1
                  go_roundw
                  case rel => exact ⟨k + 1, by omega, by go_num, HO2, HB5⟩
                  case measure => simp [intOf]; omega
                · obtain rfl : k = 64 := by omega
                  rw [show ((64 : Nat) : Int) = 64 from rfl]
                  have HSt3 : Hid (St wr C vs Ms) := HSt1.out.below HB4.out hCl HLT.out
                  obtain ⟨ad, cm, hm, hmb⟩ : ∃ ad cm, u8 = .slice (some ad) 64 cm ∧ BytesAt wr (some ad) (List.replicate 64 1) := by
                    rcases HO.out.shape with ⟨_, h⟩ | ⟨g, cap, h1, _, _, _, _, h2⟩
                    · cases h
                    · exact ⟨_, cap, by rw [h1]; rfl, h2⟩
                  subst hm
                  have HMB : Hid _ := hmb
                  have hcc := HSt3.out.cell 0 (by omega)
                  rw [hv] at hcc
                  have HSrc2 : Hid (Src wr W1.heap.size (.slice ao (Ms 0).length (Ms 0).length) (Ms 0)) := by have := (HSt3.out.row 0 (by omega)).src W1.heap.size; rwa [hv] at this
                  clear hmb
                  go_wp2_with (at_builtin; refine wpList_append_src rfl _ _ rfl W1.heap.size _ (Ms 0) rfl HSrc2.out _ _ _ (List.replicate 64 1) rfl rfl HMB.out (by simp [List.replicate_succ]) (by simp; omega) (by have := HB4.out.size; omega) ?_; intro v' w6 hown1 hbel1; obtain ⟨ao6, c6, hv6, hb6, _, _⟩ := hown1.slice; subst hv6; have HB6 : Hid (Below W1.heap.size W1 w6) := HB4.out.trans hbel1; have HSt4 : Hid (St w6 C vs Ms) := HSt1.out.below HB6.out hCl HLT.out; have hcc6 := HSt4.out.cell 0 (by omega); rw [hv] at hcc6; have hle6 : (Ms 0 ++ List.replicate 64 1).length = (Ms 0).length + 64 := (by simp); rw [hle6]; clear hown1 hbel1 hb6 hcc)
                  go_roundw
                  case rel => exact ⟨0 + 1, by omega, by go_num, HSt4, HB6⟩
                  case measure => simp [intOf]
        · rw [show ((1 : Nat) : Int) = 1 from rfl]
          obtain ⟨ao, hv, hbt, hno, hl10⟩ := (HSt2.out.row 1 (by omega)).slice
          have hcc := HSt2.out.cell 1 (by omega)
          rw [hv] at hcc
          have HSrc : Hid (Src wo2 W1.heap.size (.slice ao (Ms 1).length (Ms 1).length) (Ms 1)) := by have := (HSt2.out.row 1 (by omega)).src W1.heap.size; rwa [hv] at this
          clear hbt hno
          go_wp2
          clear hcc
          go_loopw [6, 7] (fun g y wr => ∃ k : Nat, k ≤ 20 ∧ y = .int .i64 (k : Int) ∧ Hid (Src wr W1.heap.size g (Ms 1 ++ List.replicate k 2)) ∧ Hid (Below W1.heap.size W1 wr)) (fun _ y _ => 20 - (intOf y).toNat)
          case atStart => exact ⟨0, by omega, rfl, by rw [Hid, List.replicate_zero, List.append_nil]; exact HSrc.out, HB2.out⟩
          case round =>
            obtain ⟨k, hk, rfl, HS3, HB3⟩ := hrel
            by_cases hk20 : k < 20
            · have hk20' : (k : Int) < 20 := by omega
              go_wp2_with (at_builtin; refine wpList_append_src rfl _ _ rfl W1.heap.size _ (Ms 1 ++ List.replicate k 2) rfl (HS3.out.alloc _) _ _ _ [2] rfl rfl (byte_src _ _ 2 rfl (by omega)) (by simp) (by simp; omega) (by have := HB3.out.size; simp; omega) ?_; intro v' w4 hown1 hbel1)
              have HS4 : Hid (Src w4 W1.heap.size v' (Ms 1 ++ List.replicate (k + 1) 2)) := by
                rw [List.replicate_succ', ← List.append_assoc]; exact .inl hown1
              have HB4 : Hid (Below W1.heap.size W1 w4) := (HB3.out.alloc HB3.out.size _).trans hbel1
              clear hown1 hbel1
              go_roundw
              case rel => exact ⟨k + 1, by omega, by go_num, HS4, HB4⟩
              case measure => simp [intOf]; omega
            · obtain rfl : k = 20 := by omega
              rw [show ((20 : Nat) : Int) = 20 from rfl]
              rename World => wo3
              go_wp2
              go_loopw [8, 9] (fun g y wr => ∃ k : Nat, k ≤ 64 ∧ y = .int .i64 (k : Int) ∧ Hid (OwnB wr W1.heap.size g (List.replicate k 2)) ∧ Hid (Below W1.heap.size W1 wr)) (fun _ y _ => 64 - (intOf y).toNat)
              case atStart => exact ⟨0, by omega, rfl, OwnB.nil _ _, HB3.out⟩
              case round =>
                obtain ⟨k, hk, rfl, HO, HB4⟩ := hrel
                by_cases hk64 : k < 64
                · have hk64' : (k : Int) < 64 := by omega
                  go_wp2_with (at_builtin; refine wpList_append_bytes rfl _ _ rfl W1.heap.size _ (List.replicate k 2) rfl (HO.out.alloc _) _ _ _ [2] rfl rfl (byte_src _ _ 2 rfl (by omega)) (by simp) (by simp; omega) (by have := HB4.out.size; simp; omega) ?_; intro v' w5 hown1 hgrow1)
                  have HO2 : Hid (OwnB w5 W1.heap.size v' (List.replicate (k + 1) 2)) := by rw [List.replicate_succ']; exact hown1
                  have HB5 : Hid (Below W1.heap.size W1 w5) := HB4.out.trans (below_grown' (grown_alloc' w5 hgrow1) (fun k hk => (HO.out.2.lt k hk).1) HB4.out.size)
                  clear hown1 hgrow1
                  go_roundw
                  case rel => exact ⟨k + 1, by omega, by go_num, HO2, HB5⟩
                  case measure => simp [intOf]; omega
                · obtain rfl : k = 64 := by omega
                  rw [show ((64 : Nat) : Int) = 64 from rfl]
                  have HSt3 : Hid (St wr C vs Ms) := HSt1.out.below HB4.out hCl HLT.out
                  obtain ⟨ad, cm, hm, hmb⟩ : ∃ ad cm, u8 = .slice (some ad) 64 cm ∧ BytesAt wr (some ad) (List.replicate 64 2) := by
                    rcases HO.out.shape with ⟨_, h⟩ | ⟨g, cap, h1, _, _, _, _, h2⟩
                    · cases h
                    · exact ⟨_, cap, by rw [h1]; rfl, h2⟩
                  subst hm
                  have HMB : Hid _ := hmb
                  have hcc := HSt3.out.cell 1 (by omega)
                  rw [hv] at hcc
                  have HSrc2 : Hid (Src wr W1.heap.size (.slice ao (Ms 1).length (Ms 1).length) (Ms 1)) := by have := (HSt3.out.row 1 (by omega)).src W1.heap.size; rwa [hv] at this
                  clear hmb
                  go_wp2_with (at_builtin; refine wpList_append_src rfl _ _ rfl W1.heap.size _ (Ms 1) rfl HSrc2.out _ _ _ (List.replicate 64 2) rfl rfl HMB.out (by simp [List.replicate_succ]) (by simp; omega) (by have := HB4.out.size; omega) ?_; intro v' w6 hown1 hbel1; obtain ⟨ao6, c6, hv6, hb6, _, _⟩ := hown1.slice; subst hv6; have HB6 : Hid (Below W1.heap.size W1 w6) := HB4.out.trans hbel1; have HSt4 : Hid (St w6 C vs Ms) := HSt1.out.below HB6.out hCl HLT.out; have hcc6 := HSt4.out.cell 1 (by omega); rw [hv] at hcc6; have hle6 : (Ms 1 ++ List.replicate 64 2).length = (Ms 1).length + 64 := (by simp); rw [hle6]; clear hown1 hbel1 hb6 hcc)
                  go_roundw
                  case rel => exact ⟨1 + 1, by omega, by go_num, HSt4, HB6⟩
                  case measure => simp [intOf]
        · rename World => W2
          rw [show ((2 : Nat) : Int) = 2 from rfl]
          have HSt3 : Hid (St W2 C vs Ms) := HSt2.out
          go_wp2
          go_loop [10, 11] (fun x _ => ∃ i : Nat, i ≤ 2 ∧ x = .int .i64 (i : Int)) (fun x _ => 2 - (intOf x).toNat)
          case atStart => exact ⟨0, by omega, rfl⟩
          case round =>
            obtain ⟨i, hi, rfl⟩ := hrel
            have hi012 : i = 0 ∨ i = 1 ∨ i = 2 := by omega
            rcases hi012 with rfl | rfl | rfl
            · rw [show ((0 : Nat) : Int) = 0 from rfl]
              obtain ⟨ao, hv, hbt, hno, hl10⟩ := (HSt3.out.row 0 (by omega)).slice
              have hcc := HSt3.out.cell 0 (by omega)
              rw [hv] at hcc
              have HBy : Hid (BytesAt W2 ao (Ms 0)) := hbt
              have HME : Hid (Ms 0 = List.replicate (Ls 0).length 1) := (HM.out 0 (by omega)).2 (by omega)
              clear hbt hno
              go_wp2
              go_loop [11] (fun y => ∃ k : Nat, k ≤ (Ms 0).length ∧ y = .int .i64 (k : Int)) (fun y => (Ms 0).length - (intOf y).toNat)
              case atStart => exact ⟨0, Nat.zero_le _, rfl⟩
              case round =>
                obtain ⟨k, hk, rfl⟩ := hrel
                by_cases hkl : k < (Ms 0).length
                · obtain ⟨_, h | ⟨b, off, rfl, hc⟩⟩ := HBy.out
                  · rw [h] at hkl; simp at hkl
                  · have hck := hc k hkl
                    have hz : (Ms 0).getD k 0 = 1 := by
                      rw [HME.out]
                      have : k < (Ls 0).length := by have := hkl; rw [HME.out] at this; simpa using this
                      simp [List.getD_eq_getElem?_getD, this]
                    rw [hz] at hck
                    clear hz hc
                    go_wp2
                    go_round
                    case rel => exact ⟨k + 1, by omega, by go_num⟩
                    case measure => simp [intOf]; omega
                · obtain rfl : k = (Ms 0).length := by omega
                  go_wp2
                  go_round
                  case rel => exact ⟨0 + 1, by omega, by go_num⟩
                  case measure => simp [intOf]
            · rw [show ((1 : Nat) : Int) = 1 from rfl]
              obtain ⟨ao, hv, hbt, hno, hl10⟩ := (HSt3.out.row 1 (by omega)).slice
              have hcc := HSt3.out.cell 1 (by omega)
              rw [hv] at hcc
              have HBy : Hid (BytesAt W2 ao (Ms 1)) := hbt
              have HME : Hid (Ms 1 = List.replicate (Ls 1).length 2) := (HM.out 1 (by omega)).2 (by omega)
              clear hbt hno
              go_wp2
              go_loop [11] (fun y => ∃ k : Nat, k ≤ (Ms 1).length ∧ y = .int .i64 (k : Int)) (fun y => (Ms 1).length - (intOf y).toNat)
              case atStart => exact ⟨0, Nat.zero_le _, rfl⟩
              case round =>
                obtain ⟨k, hk, rfl⟩ := hrel
                by_cases hkl : k < (Ms 1).length
                · obtain ⟨_, h | ⟨b, off, rfl, hc⟩⟩ := HBy.out
                  · rw [h] at hkl; simp at hkl
                  · have hck := hc k hkl
                    have hz : (Ms 1).getD k 0 = 2 := by
                      rw [HME.out]
                      have : k < (Ls 1).length := by have := hkl; rw [HME.out] at this; simpa using this
                      simp [List.getD_eq_getElem?_getD, this]
                    rw [hz] at hck
                    clear hz hc
                    go_wp2
                    go_round
                    case rel => exact ⟨k + 1, by omega, by go_num⟩
                    case measure => simp [intOf]; omega
                · obtain rfl : k = (Ms 1).length := by omega
                  go_wp2
                  go_round
                  case rel => exact ⟨1 + 1, by omega, by go_num⟩
                  case measure => simp [intOf]
            · rw [show ((2 : Nat) : Int) = 2 from rfl]
              go_wp2
              go_ret
              exact ⟨rfl, HBW.out.1.trans (HB2.out.mono (by rw [← HBW.out.2]; exact hbase))⟩

end Go.Proofs.Ytnjgaibcpcpmcaa
