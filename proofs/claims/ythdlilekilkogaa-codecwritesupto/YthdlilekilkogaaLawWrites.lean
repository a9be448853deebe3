/-
  THE WALK OF preludelaw01.CodecWrites.
-/
import Derived.Test.YthdlilekilkogaaDuo
import Derived.Test.YthdlilekilkogaaForm
import Derived.Test.YthdlilekilkogaaLawBack
import Derived.Deep.DeepCutAuto
namespace Go.Proofs.Ythdlilekilkogaa
open Go.RowKit

theorem alloc_top (w : World) (o : Obj) (n : Nat) (h : n = w.heap.size) : (w.alloc o).heap[n]? = some o := by
  subst h
  show (w.heap.push _)[w.heap.size]? = _
  simp
theorem duo_book (w : World) (kb : Nat) (h : w.heap[kb]? = some (.cells #[.slice none 0 0, .slice none 0 0] 31 (0, 0))) : IsBook w kb (.slice none 0 0) (.slice none 0 0) [] [] [] [] :=
  ⟨h, ⟨World.ownsRow_nil _ _ _ _, rfl, fun i hi => absurd hi (by simp), fun i j hi => absurd hi (by simp)⟩, ⟨World.ownsRow_nil _ _ _ _, rfl, fun i hi => absurd hi (by simp), fun i j hi => absurd hi (by simp)⟩, fun k hk => by simp [Value.ownBlock] at hk, fun i j hi => absurd hi (by simp)⟩

/-- what is left at the end -/
structure Pair (w : World) (R0 R1 A3 A4 : Nat) (wr : World) (v0 v1 x0 x1 : Value) (L0 L1 : List Nat) : Prop where
  w0 : IsWriter wr w.heap.size R0 v0 L0
  w1 : IsWriter wr w.heap.size R1 v1 L1
  c3 : wr.heap[A3]? = some (.cells #[.pointer (some ⟨R0, 0, none⟩), .pointer (some ⟨R1, 0, none⟩)] 25 (0, 0))
  c4 : wr.heap[A4]? = some (.cells #[x0, x1] 27 (0, 0))
  o0 : OwnB wr w.heap.size x0 L0
  o1 : OwnB wr w.heap.size x1 L1
  below : Below w.heap.size w wr
theorem Pair.kept {w : World} {R0 R1 A3 A4 : Nat} {wr wn : World} {v0 v1 x0 x1 : Value} {L0 L1 : List Nat} (h : Pair w R0 R1 A3 A4 wr v0 v1 x0 x1 L0 L1) (hb : Below wr.heap.size wr wn) : Pair w R0 R1 A3 A4 wn v0 v1 x0 x1 L0 L1 :=
  ⟨h.w0.kept hb, h.w1.kept hb, (hb.block A3 (heap_lt h.c3)).trans h.c3, (hb.block A4 (heap_lt h.c4)).trans h.c4, h.o0.kept hb, h.o1.kept hb, h.below.trans (hb.mono h.below.size)⟩
theorem bytes_of_row {w : World} {g : Nat} {L : List Nat} (h : RowAt w g L) (hz : ∀ z ∈ L, z < 256) : BytesAt w (some ⟨g, 0, none⟩) L := by
  rw [← List.append_nil L] at h
  exact RowAt.bytes0 h hz
theorem wLen_el (w : World) (base r : Nat) (v : Value) (L : List Nat) (el : Nat) (hel : el = L.length) (h : IsWriter w base r v L) :
    Calls Try.prog 11 #[.pointer (some ⟨r, 0, none⟩)] w fun e w' => e = .returned (.int .i64 (el : Int)) ∧ w' = w := by
  rw [hel]; exact wLen_any w base r v L h

set_option maxRecDepth 100000 in
set_option maxHeartbeats 4000000 in
theorem writes_walk (w : World) (so : Option Addr) (sc : Nat) (ops : List OpV) (sn : Nat) (hsn : sn = ops.length) (hs : ScriptAt w so ops) (hm : bulkOps ops ≤ 1048576) :
    Calls Try.prog 3 #[.slice so sn sc] w fun e w' => e = .returned (.bool true) ∧ Below w.heap.size w w' := by
  have HS0 : Hid (ScriptAt w so ops) := hs
  have HSN : Hid (sn = ops.length) := hsn
  have hsm : sn ≤ 1048576 := by have := ops_length ops; omega
  have HBL : Hid (∀ k, (encs (ops.take k)).length ≤ 11534336) := by
    intro k
    have h1 := posOp_le ops k
    have h2 := encs_length ops
    unfold posOp at h1
    omega
  have HOL : Hid (∀ k, k < ops.length → (ops.getD k default).bs.length ≤ 1048576) := by
    intro k hk
    have h1 : ∀ (l : List OpV) (j : Nat), j < l.length → (l.getD j default).bs.length ≤ bulkOps l := by
      intro l
      induction l with
      | nil => intro j hj; simp at hj
      | cons o r ih =>
        intro j hj
        simp only [bulkOps, List.map_cons, List.sum_cons]
        cases j with
        | zero => simp; omega
        | succ j => have := ih j (by simpa using hj); simp only [bulkOps] at this; simp only [List.getD_cons_succ]; omega
    exact Nat.le_trans (h1 ops k hk) hm
  clear hs hsn hm
  go_enter Try.func3, Try.ntmps3
  go_wp2_with fail
  refine (new_any w).mono ?_
  rintro e w1 ⟨rfl, hw1, hb1, hs1⟩
  have HW1 : Hid (IsWriter w1 w.heap.size w.heap.size (.slice none 0 0) []) := hw1
  have HB1 : Hid (Below w.heap.size w w1) := hb1
  have HS1 : Hid (w1.heap.size = w.heap.size + 1) := hs1
  clear hw1 hb1 hs1
  go_wp2_with fail
  refine (new_any w1).mono ?_
  rintro e w2 ⟨rfl, hw2, hb2, hs2⟩
  have HW2 : Hid (IsWriter w2 w.heap.size (w.heap.size + 1) (.slice none 0 0) []) := by
    rw [HS1.out] at hw2
    exact ⟨hw2.1, hw2.2.1.mono (by omega), by omega⟩
  have HW1' : Hid (IsWriter w2 w.heap.size w.heap.size (.slice none 0 0) []) := HW1.out.kept hb2
  have HB2 : Hid (Below w.heap.size w w2) := HB1.out.trans (hb2.mono (by rw [HS1.out]; omega))
  have HS2 : Hid (w2.heap.size = w.heap.size + 2) := by rw [Hid, hs2, HS1.out]
  rw [HS1.out]
  clear hw2 hb2 hs2 HW1 HB1 HS1
  have HD0 : Hid (∃ lab, Duo w w.heap.size (w.heap.size + 1) w2.heap.size (w2.heap.size + 1) (w2.heap.size + 1 + 1) lab (((w2.alloc (.cells #[.pointer (some ⟨w.heap.size, 0, none⟩), .pointer (some ⟨w.heap.size + 1, 0, none⟩)] 25)).alloc (.cells #[.slice none 0 0, .slice none 0 0] 27)).alloc (.cells #[.slice none 0 0, .slice none 0 0] 31)) (.slice none 0 0) (.slice none 0 0) (.slice none 0 0) (.slice none 0 0) [] [] [] [] (.slice none 0 0) (.slice none 0 0) [] [] []) := by
    have hs2 := HS2.out
    have hb3 : Below w2.heap.size w2 (((w2.alloc (.cells #[.pointer (some ⟨w.heap.size, 0, none⟩), .pointer (some ⟨w.heap.size + 1, 0, none⟩)] 25)).alloc (.cells #[.slice none 0 0, .slice none 0 0] 27)).alloc (.cells #[.slice none 0 0, .slice none 0 0] 31)) :=
      (((Below.refl _ _).alloc (Nat.le_refl _) _).alloc (by simp) _).alloc (by simp; omega) _
    refine ⟨fun k => if k < w.heap.size then 9 else if k = w2.heap.size + 1 + 1 then 6 else k - w.heap.size, Held.writer (HW1'.out.kept hb3) ?_, Held.writer (HW2.out.kept hb3) ?_, Held.block ?_ ?_, Held.block ?_ ?_, Held.bytes (OwnB.nil _ _) ?_, Held.bytes (OwnB.nil _ _) ?_, Held.book (duo_book _ _ ?_) ?_, HB2.out.trans (hb3.mono HB2.out.size), fun k hk => if_pos hk⟩
    · rintro k (rfl | hk)
      · rw [if_neg (by omega), if_neg (by omega)]; omega
      · simp [Value.ownBlock] at hk
    · rintro k (rfl | hk)
      · rw [if_neg (by omega), if_neg (by omega)]; omega
      · simp [Value.ownBlock] at hk
    · rw [Below.heap_alloc _ _ _ (by simp; omega), Below.heap_alloc _ _ _ (by simp)]
      show (w2.heap.push _)[w2.heap.size]? = _
      simp
    · rw [if_neg (by omega), if_neg (by omega)]; omega
    · rw [Below.heap_alloc _ _ _ (by simp)]
      exact alloc_top _ _ _ (by simp)
    · rw [if_neg (by omega), if_neg (by omega)]; omega
    · intro k hk; simp [Value.ownBlock] at hk
    · intro k hk; simp [Value.ownBlock] at hk
    · exact alloc_top _ _ _ (by simp)
    · rintro k (rfl | (hk | ⟨i, hi, _⟩) | (hk | ⟨i, hi, _⟩))
      · rw [if_neg (by omega), if_pos rfl]
      · simp [Value.ownBlock] at hk
      · simp at hi
      · simp [Value.ownBlock] at hk
      · simp at hi
  go_upto_region 6 with fail
  generalize (((w2.alloc (.cells #[.pointer (some ⟨w.heap.size, 0, none⟩), .pointer (some ⟨w.heap.size + 1, 0, none⟩)] 25)).alloc (.cells #[.slice none 0 0, .slice none 0 0] 27)).alloc (.cells #[.slice none 0 0, .slice none 0 0] 31)) = W0 at *
  generalize w2.heap.size + 1 + 1 = kb at *
  generalize w2.heap.size + 1 = A4 at *
  generalize w2.heap.size = A3 at *
  generalize w.heap.size + 1 = R1 at *
  obtain ⟨lab0, hD0⟩ := HD0.out
  have HDD : Hid (Duo w w.heap.size R1 A3 A4 kb lab0 W0 (.slice none 0 0) (.slice none 0 0) (.slice none 0 0) (.slice none 0 0) [] [] [] [] (.slice none 0 0) (.slice none 0 0) [] [] []) := hD0
  clear hD0 HD0 HS2 HB2 HW1' HW2
  go_wp2_with fail
  go_loopw [6] (fun x wr => ∃ (k : Nat) (lab : Nat → Nat) (v0 v1 x0 x1 : Value) (L0 L1 : List Nat) (vl vw : Value) (ls ws : List Value) (Ls : List (List Nat)), k ≤ sn ∧ x = .int .i64 (k : Int) ∧ Hid (Duo w w.heap.size R1 A3 A4 kb lab wr v0 v1 x0 x1 L0 L1 L0 L1 vl vw ls ws Ls) ∧
      Hid (L0.length ≤ (encs (ops.take k)).length ∧ L1.length ≤ (encs (ops.take k)).length) ∧ Hid (ls.length ≤ 2 * k ∧ ws.length = ls.length ∧ ∀ i, (Ls.getD i []).length ≤ 11534336)) (fun x _ => sn - (intOf x).toNat)
  case atStart => exact ⟨0, lab0, _, _, _, _, [], [], _, _, [], [], [], Nat.zero_le _, rfl, HDD, ⟨by simp, by simp⟩, ⟨by simp, rfl, fun i => by simp⟩⟩
  case round =>
    clear HDD
    obtain ⟨k, lab, v0, v1, x0, x1, L0, L1, vl, vw, ls, ws, Ls, hk, rfl, HD, HL, HK⟩ := hrel
    by_cases hlt : k < sn
    · obtain ⟨sb, soff, a, c, hso, o0, o1, o2, o3, o4, hba, hnil, hal, hn⟩ := op_kept HS0.out (by rw [← HSN.out]; exact hlt) HD.out.below
      subst hso
      have HBA : Hid (BytesAt wr a (ops.getD k default).bs) := hba
      have HL1 := HBL.out k
      have HL2 := HOL.out k (by rw [← HSN.out]; exact hlt)
      have HT : Hid ((encs (ops.take (k + 1))).length = (encs (ops.take k)).length + (encOp (ops.getD k default)).length) := by rw [Hid, encs_take ops k (by rw [← HSN.out]; exact hlt), List.length_append]
      have HALT : Hid (∀ ad, (ops.getD k default).bs ≠ [] → a = some ad → ad.block < w.heap.size) := hal
      clear hba hal
      generalize ops.getD k default = o at *
      cases htwo : o.two with
      | false =>
        rw [htwo] at o4
        go_upto_region 13 with fail
        clear o0 o1 o2 o3 o4
        have HAL : Hid (Below wr.heap.size wr (wr.alloc (.cells #[.int .i64 o.kind, .int .u64 (o.n : Int), .slice a o.bs.length c, .int .i64 o.most, .bool false] 34))) := (Below.refl _ _).alloc (Nat.le_refl _) _
        have HDA : Hid (Duo w w.heap.size R1 A3 A4 kb lab (wr.alloc (.cells #[.int .i64 o.kind, .int .u64 (o.n : Int), .slice a o.bs.length c, .int .i64 o.most, .bool false] 34)) v0 v1 x0 x1 L0 L1 L0 L1 vl vw ls ws Ls) := HD.out.kept HAL.out (fun _ _ => rfl)
        have HBW : Hid (BytesAt (wr.alloc (.cells #[.int .i64 o.kind, .int .u64 (o.n : Int), .slice a o.bs.length c, .int .i64 o.most, .bool false] 34)) a o.bs) := HBA.out.kept HAL.out
        have HOB : Hid ((wr.alloc (.cells #[.int .i64 o.kind, .int .u64 (o.n : Int), .slice a o.bs.length c, .int .i64 o.most, .bool false] 34)).heap[wr.heap.size]? = some (.cells #[.int .i64 o.kind, .int .u64 (o.n : Int), .slice a o.bs.length c, .int .i64 o.most, .bool false] 34 (0, 0))) := alloc_top _ _ _ rfl
        generalize (wr.alloc (.cells #[.int .i64 o.kind, .int .u64 (o.n : Int), .slice a o.bs.length c, .int .i64 o.most, .bool false] 34)) = wa at *
        have HOL3 : Hid (wr.heap.size ≠ w.heap.size ∧ v0.ownBlock ≠ some wr.heap.size) := ⟨fun e => by have := HD.out.w0.lts _ (.inl e); omega, fun e => by have := HD.out.w0.lts _ (.inr e); omega⟩
        have HOX0 : Hid (x0.ownBlock ≠ some wr.heap.size ∧ wr.heap.size ≠ A4) := ⟨fun e => by have := HD.out.o0.lts _ e; omega, fun e => by have := HD.out.c4.lts _ e; omega⟩
        generalize wr.heap.size = ob at *
        have HAP : Hid (∀ ad, o.bs ≠ [] → a = some ad → ad.block ≠ w.heap.size ∧ v0.ownBlock ≠ some ad.block) := by
          intro ad h1 h2
          have h3 := HD.out.old _ (HALT.out ad h1 h2)
          exact ⟨fun e => by have h4 := HD.out.w0.labs _ (.inl e); omega, fun e => by have h4 := HD.out.w0.labs _ (.inr e); omega⟩
        have hLt : L0.length ≤ 11534336 := by have := HL.out; omega
        have p3 : wa.cell? ⟨A3, 0, none⟩ = some (.pointer (some ⟨w.heap.size, 0, none⟩)) := by simp [World.cell?, HDA.out.c3.holds]
        have q0 : wa.cell? ⟨ob, 0, none⟩ = some (.int .i64 o.kind) := (by simp [World.cell?, HOB.out])
        have q1 : wa.cell? ⟨ob, 1, none⟩ = some (.int .u64 (o.n : Int)) := (by simp [World.cell?, HOB.out])
        have q2 : wa.cell? ⟨ob, 2, none⟩ = some (.slice a o.bs.length c) := (by simp [World.cell?, HOB.out])
        have q3 : wa.cell? ⟨ob, 3, none⟩ = some (.int .i64 o.most) := (by simp [World.cell?, HOB.out])
        have q4 : wa.cell? ⟨ob, 4, none⟩ = some (.bool false) := (by simp [World.cell?, HOB.out])
        have HC : Hid (Calls Try.prog 7 #[.pointer (some ⟨w.heap.size, 0, none⟩), .agg #[.int .i64 o.kind, .int .u64 (o.n : Int), .slice a o.bs.length c, .int .i64 o.most, .bool false]] wa.drew fun e w' => e = .returned (.bool true) ∧ ∃ v', IsWriter w' w.heap.size w.heap.size v' (L0 ++ encOp o) ∧ Wrote wa.drew w' w.heap.size v0 v') := by
          have h := written_any wa.drew w.heap.size w.heap.size v0 L0 o a c (HDA.out.w0.holds.drewN 1) (HBW.out.drewN 1) hnil hn (by omega) HAP.out
          rw [htwo] at h
          exact h
        have HDW : Hid (Duo w w.heap.size R1 A3 A4 kb lab wa.drew v0 v1 x0 x1 L0 L1 L0 L1 vl vw ls ws Ls) := HDA.out.kept ⟨rfl, rfl, rfl, Nat.le_refl _, fun _ _ => rfl⟩ (fun _ _ => rfl)
        have HOW : Hid (wa.drew.heap[ob]? = some (.cells #[.int .i64 o.kind, .int .u64 (o.n : Int), .slice a o.bs.length c, .int .i64 o.most, .bool false] 34 (0, 0))) := HOB.out
        have HBD : Hid (BytesAt wa.drew a o.bs) := HBW.out.drewN 1
        clear HD HAL HDA HBA HBW HOB
        go_region_held (fun w' => w'.cell? ⟨A3, 0, none⟩ = some (.pointer (some ⟨w.heap.size, 0, none⟩)) ∧ w'.cell? ⟨ob, 0, none⟩ = some (.int .i64 o.kind) ∧ w'.cell? ⟨ob, 1, none⟩ = some (.int .u64 (o.n : Int)) ∧ w'.cell? ⟨ob, 2, none⟩ = some (.slice a o.bs.length c) ∧ w'.cell? ⟨ob, 3, none⟩ = some (.int .i64 o.most) ∧ w'.cell? ⟨ob, 4, none⟩ = some (.bool false)) (first | exact ⟨‹_›, ‹_›, ‹_›, ‹_›, ‹_›, ‹_›⟩ | go_keep)
          ((go_at_call 7; go_loud (refine HC.out.mono ?_; rintro e5 w5 ⟨rfl, v5, hw5, hf5⟩; have HB5 : Hid (BytesAt w5 a o.bs) := hf5.bytes HBD.out HAP.out; have HO5 : Hid (w5.heap[ob]? = some (.cells #[.int .i64 o.kind, .int .u64 (o.n : Int), .slice a o.bs.length c, .int .i64 o.most, .bool false] 34 (0, 0))) := (hf5.block ob (heap_lt HOW.out) HOL3.out.1 HOL3.out.2).trans HOW.out; obtain ⟨lab5, hd5⟩ := HDW.out.wrote0 hw5 hf5; have HD5 : Hid (Duo w w.heap.size R1 A3 A4 kb lab5 w5 v5 v1 x0 x1 (L0 ++ encOp o) L1 L0 L1 vl vw ls ws Ls) := hd5; have r3 : w5.cell? ⟨A3, 0, none⟩ = some (.pointer (some ⟨w.heap.size, 0, none⟩)) := (by simp [World.cell?, hd5.c3.holds]); have r0 : w5.cell? ⟨ob, 0, none⟩ = some (.int .i64 o.kind) := (by simp [World.cell?, HO5.out]); have r1 : w5.cell? ⟨ob, 1, none⟩ = some (.int .u64 (o.n : Int)) := (by simp [World.cell?, HO5.out]); have r2 : w5.cell? ⟨ob, 2, none⟩ = some (.slice a o.bs.length c) := (by simp [World.cell?, HO5.out]); have r3b : w5.cell? ⟨ob, 3, none⟩ = some (.int .i64 o.most) := (by simp [World.cell?, HO5.out]); have r4 : w5.cell? ⟨ob, 4, none⟩ = some (.bool false) := (by simp [World.cell?, HO5.out]); clear hw5 hf5 hd5)))
        go_upto_region 16 with fail
        have HD5w : Hid (Duo w w.heap.size R1 A3 A4 kb lab5 w5.drew v5 v1 x0 x1 (L0 ++ encOp o) L1 L0 L1 vl vw ls ws Ls) := HD5.out.kept ⟨rfl, rfl, rfl, Nat.le_refl _, fun _ _ => rfl⟩ (fun _ _ => rfl)
        have HF : Hid (Calls Try.prog 8 #[.agg #[.int .i64 o.kind, .int .u64 (o.n : Int), .slice a o.bs.length c, .int .i64 o.most, .bool false]] w5.drew fun e w' => ∃ v, e = .returned v ∧ OwnB w' w5.drew.heap.size v (encOp o) ∧ Below w5.drew.heap.size w5.drew w') := by
          have h := form_any w5.drew o a c (HB5.out.drewN 1) hnil hn (by omega)
          rw [htwo] at h
          exact h
        have hel := encOp_length o
        have c45 : w5.cell? ⟨A4, 0, none⟩ = some x0 := by simp [World.cell?, HD5.out.c4.holds]
        have HO5w : Hid (w5.drew.heap[ob]? = some (.cells #[.int .i64 o.kind, .int .u64 (o.n : Int), .slice a o.bs.length c, .int .i64 o.most, .bool false] 34 (0, 0))) := HO5.out
        clear HDW HOW HBD HC p3 q0 q1 q2 q3 q4 HD5 HO5 HB5
        go_cut [] (fun wx => ∃ (lab7 : Nat → Nat) (x7 : Value), Hid (Duo w w.heap.size R1 A3 A4 kb lab7 wx v5 v1 x7 x1 (L0 ++ encOp o) L1 (L0 ++ encOp o) L1 vl vw ls ws Ls) ∧ wx.cell? ⟨ob, 0, none⟩ = some (.int .i64 o.kind))
        case first =>
          go_region_law (first
            | (refine step_append_bytes rfl _ _ rfl w.heap.size x0 L0 rfl HD6.out.o0.holds af _ cf (encOp o) rfl rfl HBf.out hnf (by omega) HD6.out.below.size ?_; intro v7 w7 hown7 hgrow7 hat7; obtain ⟨a7, c7, hv7, _, _, _⟩ := hown7.slice; rw [List.length_append] at hv7; subst hv7; have HQ := HD6.out.want0 hown7 hgrow7 hat7; have hc7 := HQ.1; have hf7 := HQ.2.1; have HQ7 : Hid (∃ lab', Duo w w.heap.size R1 A3 A4 kb lab' (w7.setCell ⟨A4, 0, none⟩ (.slice a7 (L0.length + (encOp o).length) c7)) v5 v1 (.slice a7 (L0.length + (encOp o).length) c7) x1 (L0 ++ encOp o) L1 (L0 ++ encOp o) L1 vl vw ls ws Ls) := HQ.2.2; have HK7 : Hid (w7.heap[ob]? = some (.cells #[.int .i64 o.kind, .int .u64 (o.n : Int), .slice a o.bs.length c, .int .i64 o.most, .bool false] 34 (0, 0))) := (hgrow7.block ob (heap_lt HO6.out) (fun e => HOX0.out.1 e.symm)).trans HO6.out; clear HQ hown7 hgrow7 hat7)
            | (go_simp; go_at_call 8; go_loud (refine HF.out.mono ?_; rintro e6 w6 ⟨v6, rfl, hown6, hbel6⟩; obtain ⟨af, cf, hv6, hbf, hnf, _⟩ := hown6.slice; subst hv6; have HBf : Hid (BytesAt w6 af (encOp o)) := hbf; have HD6 : Hid (Duo w w.heap.size R1 A3 A4 kb lab5 w6 v5 v1 x0 x1 (L0 ++ encOp o) L1 L0 L1 vl vw ls ws Ls) := HD5w.out.kept hbel6 (fun _ _ => rfl); have c46 : w6.cell? ⟨A4, 0, none⟩ = some x0 := (by simp [World.cell?, HD6.out.c4.holds]); have HO6 : Hid (w6.heap[ob]? = some (.cells #[.int .i64 o.kind, .int .u64 (o.n : Int), .slice a o.bs.length c, .int .i64 o.most, .bool false] 34 (0, 0))) := (hbel6.block ob (heap_lt HO5w.out)).trans HO5w.out; clear hown6 hbel6 hbf)))
          all_goals go_wp2_with fail
          all_goals go_meet
          all_goals
            obtain ⟨lab7, hd7⟩ := HQ7.out
            exact ⟨lab7, _, hd7, by simp [World.cell?, heap_setCell_other w7 ⟨A4, 0, none⟩ ob _ HOX0.out.2, HK7.out]⟩
        case rest =>
          obtain ⟨lab7, x7, HD7, hk7⟩ := hcut
          clear HF HD5w HO5w HOX0 HOL3 HAP hel c45 r0 r1 r2 r3 r3b r4
          by_cases hkd : o.kind = 8
          · have hkb : (o.kind == 8) = true := by rw [hkd]; rfl
            have HL7 : Hid ((L0 ++ encOp o).length ≤ (encs (ops.take (k + 1))).length ∧ L1.length ≤ (encs (ops.take (k + 1))).length) := by
              rw [Hid, List.length_append, HT.out]
              have := HL.out
              omega
            have HEB : Hid ((L0 ++ encOp o).length ≤ 11534336) := Nat.le_trans HL7.out.1 (HBL.out (k + 1))
            generalize L0 ++ encOp o = E at *
            obtain ⟨el, hel⟩ : ∃ el, E.length = el := ⟨_, rfl⟩
            have HEL : Hid (el = E.length) := hel.symm
            have helb : el ≤ 11534336 := by rw [← hel]; exact HEB.out
            clear hel HL HL1 hLt HEB
            have p7 : wc.cell? ⟨A3, 0, none⟩ = some (.pointer (some ⟨w.heap.size, 0, none⟩)) := by simp [World.cell?, HD7.out.c3.holds]
            go_wp2_with fail
            refine (wOut_any wc w.heap.size w.heap.size v5 E HD7.out.w0.holds (by rw [← HEL.out]; omega)).mono ?_
            rintro e8 w8 ⟨rfl, hr8, hb8, hs8⟩
            rw [← HEL.out]
            have HD8 : Hid (Duo w w.heap.size R1 A3 A4 kb (relab lab7 wc.heap.size 7) w8 v5 v1 x7 x1 E L1 E L1 vl vw ls ws Ls) := HD7.out.kept hb8 (fun k hk => relab_old _ _ _ _ hk)
            have HA8 : Hid (Held (relab lab7 wc.heap.size 7) 7 w8 (BytesSet (.slice (some ⟨wc.heap.size, 0, none⟩) el el)) (fun w' => OwnB w' 0 (.slice (some ⟨wc.heap.size, 0, none⟩) el el) E)) := by
              rw [HEL.out]
              refine Held.bytes (OwnB.ofRow hr8 HD7.out.w0.holds.2.1.1 (by rw [← HEL.out]; unfold maxLen; omega) (Nat.zero_le _)) fun k hk => ?_
              simp only [Value.ownBlock, Option.some.injEq] at hk
              exact relab_mine (.inr (by omega))
            have p8 : w8.cell? ⟨A3, 0, none⟩ = some (.pointer (some ⟨w.heap.size, 0, none⟩)) := by simp [World.cell?, HD8.out.c3.holds]
            clear hr8 hb8 hs8 p7 hk7 HD7
            generalize relab lab7 wc.heap.size 7 = lab8 at *
            generalize wc.heap.size = g8 at *
            go_wp2_with fail
            refine (wOut_any w8 w.heap.size w.heap.size v5 E HD8.out.w0.holds (by rw [← HEL.out]; omega)).mono ?_
            rintro e9 w9 ⟨rfl, hr9, hb9, hs9⟩
            rw [← HEL.out]
            have HD9 : Hid (Duo w w.heap.size R1 A3 A4 kb (relab lab8 w8.heap.size 8) w9 v5 v1 x7 x1 E L1 E L1 vl vw ls ws Ls) := HD8.out.kept hb9 (fun k hk => relab_old _ _ _ _ hk)
            have HA9 : Hid (Held (relab lab8 w8.heap.size 8) 7 w9 (BytesSet (.slice (some ⟨g8, 0, none⟩) el el)) (fun w' => OwnB w' 0 (.slice (some ⟨g8, 0, none⟩) el el) E)) :=
              HA8.out.keep (fun k hk _ => hb9.block k hk) hb9.size (fun k hk e => (relab_old _ _ _ _ hk).trans e)
            have HC9 : Hid (Held (relab lab8 w8.heap.size 8) 8 w9 (BytesSet (.slice (some ⟨w8.heap.size, 0, none⟩) el el)) (fun w' => OwnB w' 0 (.slice (some ⟨w8.heap.size, 0, none⟩) el el) E)) := by
              rw [HEL.out]
              refine Held.bytes (OwnB.ofRow hr9 HD8.out.w0.holds.2.1.1 (by rw [← HEL.out]; unfold maxLen; omega) (Nat.zero_le _)) fun k hk => ?_
              simp only [Value.ownBlock, Option.some.injEq] at hk
              exact relab_mine (.inr (by omega))
            have p9 : w9.cell? ⟨A3, 0, none⟩ = some (.pointer (some ⟨w.heap.size, 0, none⟩)) := by simp [World.cell?, HD9.out.c3.holds]
            clear hr9 hb9 hs9 p8 HD8 HA8
            generalize relab lab8 w8.heap.size 8 = lab9 at *
            generalize w8.heap.size = g9 at *
            obtain ⟨ax, cx, hx7, hbx, _, _⟩ := HD9.out.o0.holds.slice
            rw [← HEL.out] at hx7
            subst hx7
            have c9 : w9.cell? ⟨A4, 0, none⟩ = some (.slice ax el cx) := by simp [World.cell?, HD9.out.c4.holds]
            have HBX : Hid (BytesAt w9 ax E) := hbx
            have HBY : Hid (BytesAt w9 (some ⟨g8, 0, none⟩) E) := (OwnB.bytes HA9.out.holds).1
            have HBZ : Hid (BytesAt w9 (some ⟨g9, 0, none⟩) E) := (OwnB.bytes HC9.out.holds).1
            have HWW : Hid (IsWriter w9 w.heap.size w.heap.size v5 E) := HD9.out.w0.holds
            have HMX : Hid (E.length ≤ maxLen) := by rw [Hid, ← HEL.out]; unfold maxLen; omega
            have HLN : Hid (((E.length : Nat) : Int) = (el : Int)) := by rw [Hid, HEL.out]
            clear hbx
            go_wp2_with fail
            go_quiet (first
              | (go_at_call 10; exact Calls.quiet_of (same_any _ _ _ _ _ _ _ E E HEL.out HEL.out (HBY.out.drewN _) (HBX.out.drewN _) HMX.out))
              | (go_at_call 10; exact Calls.quiet_of (same_any _ _ _ _ _ _ _ E E HEL.out HEL.out (HBZ.out.drewN _) (HBX.out.drewN _) HMX.out))
              | (go_at_call 11; exact Calls.quiet_of_same (wLen_el _ w.heap.size w.heap.size v5 E el HEL.out (HWW.out.drewN _))))
            have HDq : Hid (Duo w w.heap.size R1 A3 A4 kb lab9 (w9.drewN nq) v5 v1 (.slice ax el cx) x1 E L1 E L1 vl vw ls ws Ls) := HD9.out.kept ⟨rfl, rfl, rfl, Nat.le_refl _, fun _ _ => rfl⟩ (fun _ _ => rfl)
            have HAq : Hid (Held lab9 7 (w9.drewN nq) (BytesSet (.slice (some ⟨g8, 0, none⟩) el el)) (fun w' => OwnB w' 0 (.slice (some ⟨g8, 0, none⟩) el el) E)) := HA9.out.keep (fun _ _ _ => rfl) (Nat.le_refl _) (fun _ _ e => e)
            have HCq : Hid (Held lab9 8 (w9.drewN nq) (BytesSet (.slice (some ⟨g9, 0, none⟩) el el)) (fun w' => OwnB w' 0 (.slice (some ⟨g9, 0, none⟩) el el) E)) := HC9.out.keep (fun _ _ _ => rfl) (Nat.le_refl _) (fun _ _ e => e)
            generalize w9.drewN nq = wq at *
            clear HD9 HA9 HC9 HBX HBY HBZ HWW p9 c9 HLN
            go_wp2_with fail
            refine (put_any wq kb vl vw ls ws Ls Ls (some ⟨g8, 0, none⟩) el el E HDq.out.bk.holds HAq.out.holds (fun k hk hS => by have h1 := HAq.out.labs k hk; have h2 := HDq.out.bk.labs k hS; omega) (by have := HK.out.1; omega) HK.out.2.1 (by rw [← HEL.out]; omega)).mono ?_
            rintro e10 w10 ⟨rfl, vl1, vw1, y1, hb10, hT10, hs10⟩
            obtain ⟨lab10, hd10, hc10⟩ := HDq.out.put (.inl rfl) HAq.out (fun _ => HCq.out) hb10 hT10 hs10
            have HD10 : Hid (Duo w w.heap.size R1 A3 A4 kb lab10 w10 v5 v1 (.slice ax el cx) x1 E L1 E L1 vl1 vw1 (ls ++ [.slice (some ⟨g8, 0, none⟩) el el]) (ws ++ [y1]) (Ls ++ [E])) := hd10
            have HC10 : Hid (Held lab10 8 w10 (BytesSet (.slice (some ⟨g9, 0, none⟩) el el)) (fun w' => OwnB w' 0 (.slice (some ⟨g9, 0, none⟩) el el) E)) := hc10 rfl
            clear hb10 hT10 hs10 hd10 hc10 HDq HAq HCq
            go_wp2_with fail
            refine (put_any w10 kb vl1 vw1 _ _ _ _ (some ⟨g9, 0, none⟩) el el E HD10.out.bk.holds HC10.out.holds (fun k hk hS => by have h1 := HC10.out.labs k hk; have h2 := HD10.out.bk.labs k hS; omega) (by have := HK.out.1; simp; omega) (by have := HK.out.2.1; simp; omega) (by rw [← HEL.out]; omega)).mono ?_
            rintro e11 w11 ⟨rfl, vl2, vw2, y2, hb11, hT11, hs11⟩
            obtain ⟨lab11, hd11, _⟩ := HD10.out.put (S := fun _ => False) (P := fun _ => True) (.inr rfl) HC10.out (fun h => absurd h (by decide)) hb11 hT11 hs11
            have HD11 : Hid (Duo w w.heap.size R1 A3 A4 kb lab11 w11 v5 v1 (.slice ax el cx) x1 E L1 E L1 vl2 vw2 (ls ++ [.slice (some ⟨g8, 0, none⟩) el el] ++ [.slice (some ⟨g9, 0, none⟩) el el]) (ws ++ [y1] ++ [y2]) (Ls ++ [E] ++ [E])) := hd11
            have HK11 : Hid ((ls ++ [Value.slice (some ⟨g8, 0, none⟩) el el] ++ [Value.slice (some ⟨g9, 0, none⟩) el el]).length ≤ 2 * (k + 1) ∧ (ws ++ [y1] ++ [y2]).length = (ls ++ [Value.slice (some ⟨g8, 0, none⟩) el el] ++ [Value.slice (some ⟨g9, 0, none⟩) el el]).length ∧ ∀ i, ((Ls ++ [E] ++ [E]).getD i []).length ≤ 11534336) := by
              have h1 := HK.out.1
              have h2 := HK.out.2.1
              have h3 : E.length ≤ 11534336 := by rw [← HEL.out]; exact helb
              refine ⟨by simp; omega, by simp [h2], fun i => ?_⟩
              rw [getD_snoc]
              split
              · rw [getD_snoc]
                split
                · exact HK.out.2.2 i
                · split
                  · exact h3
                  · simp
              · split
                · exact h3
                · simp
            clear hb11 hT11 hs11 hd11 HD10 HC10
            go_wp2_with fail
            go_roundw
            case rel => exact ⟨k + 1, lab11, _, _, _, _, _, _, vl2, vw2, _, _, _, by omega, by go_num, HD11, HL7, HK11⟩
            case measure => simp [intOf]; omega
          · have hkb : (o.kind == 8) = false := by rw [beq_eq_false_iff_ne]; exact hkd
            have HL7 : Hid ((L0 ++ encOp o).length ≤ (encs (ops.take (k + 1))).length ∧ L1.length ≤ (encs (ops.take (k + 1))).length) := by
              rw [Hid, List.length_append, HT.out]
              have := HL.out
              omega
            go_wp2_with fail
            go_roundw
            case rel =>
              exact ⟨k + 1, lab7, _, _, _, _, _, _, vl, vw, ls, ws, Ls, by omega, by go_num, HD7, HL7, ⟨by have := HK.out.1; omega, HK.out.2⟩⟩
            case measure => simp [intOf]; omega
      | true =>
        rw [htwo] at o4
        go_upto_region 13 with fail
        clear o0 o1 o2 o3 o4
        have HAL : Hid (Below wr.heap.size wr (wr.alloc (.cells #[.int .i64 o.kind, .int .u64 (o.n : Int), .slice a o.bs.length c, .int .i64 o.most, .bool true] 34))) := (Below.refl _ _).alloc (Nat.le_refl _) _
        have HDA : Hid (Duo w w.heap.size R1 A3 A4 kb lab (wr.alloc (.cells #[.int .i64 o.kind, .int .u64 (o.n : Int), .slice a o.bs.length c, .int .i64 o.most, .bool true] 34)) v0 v1 x0 x1 L0 L1 L0 L1 vl vw ls ws Ls) := HD.out.kept HAL.out (fun _ _ => rfl)
        have HBW : Hid (BytesAt (wr.alloc (.cells #[.int .i64 o.kind, .int .u64 (o.n : Int), .slice a o.bs.length c, .int .i64 o.most, .bool true] 34)) a o.bs) := HBA.out.kept HAL.out
        have HOB : Hid ((wr.alloc (.cells #[.int .i64 o.kind, .int .u64 (o.n : Int), .slice a o.bs.length c, .int .i64 o.most, .bool true] 34)).heap[wr.heap.size]? = some (.cells #[.int .i64 o.kind, .int .u64 (o.n : Int), .slice a o.bs.length c, .int .i64 o.most, .bool true] 34 (0, 0))) := alloc_top _ _ _ rfl
        generalize (wr.alloc (.cells #[.int .i64 o.kind, .int .u64 (o.n : Int), .slice a o.bs.length c, .int .i64 o.most, .bool true] 34)) = wa at *
        have HOL3 : Hid (wr.heap.size ≠ R1 ∧ v1.ownBlock ≠ some wr.heap.size) := ⟨fun e => by have := HD.out.w1.lts _ (.inl e); omega, fun e => by have := HD.out.w1.lts _ (.inr e); omega⟩
        have HOX0 : Hid (x1.ownBlock ≠ some wr.heap.size ∧ wr.heap.size ≠ A4) := ⟨fun e => by have := HD.out.o1.lts _ e; omega, fun e => by have := HD.out.c4.lts _ e; omega⟩
        generalize wr.heap.size = ob at *
        have HAP : Hid (∀ ad, o.bs ≠ [] → a = some ad → ad.block ≠ R1 ∧ v1.ownBlock ≠ some ad.block) := by
          intro ad h1 h2
          have h3 := HD.out.old _ (HALT.out ad h1 h2)
          exact ⟨fun e => by have h4 := HD.out.w1.labs _ (.inl e); omega, fun e => by have h4 := HD.out.w1.labs _ (.inr e); omega⟩
        have hLt : L1.length ≤ 11534336 := by have := HL.out; omega
        have p3 : wa.cell? ⟨A3, 1, none⟩ = some (.pointer (some ⟨R1, 0, none⟩)) := by simp [World.cell?, HDA.out.c3.holds]
        have q0 : wa.cell? ⟨ob, 0, none⟩ = some (.int .i64 o.kind) := (by simp [World.cell?, HOB.out])
        have q1 : wa.cell? ⟨ob, 1, none⟩ = some (.int .u64 (o.n : Int)) := (by simp [World.cell?, HOB.out])
        have q2 : wa.cell? ⟨ob, 2, none⟩ = some (.slice a o.bs.length c) := (by simp [World.cell?, HOB.out])
        have q3 : wa.cell? ⟨ob, 3, none⟩ = some (.int .i64 o.most) := (by simp [World.cell?, HOB.out])
        have q4 : wa.cell? ⟨ob, 4, none⟩ = some (.bool true) := (by simp [World.cell?, HOB.out])
        have HC : Hid (Calls Try.prog 7 #[.pointer (some ⟨R1, 0, none⟩), .agg #[.int .i64 o.kind, .int .u64 (o.n : Int), .slice a o.bs.length c, .int .i64 o.most, .bool true]] wa.drew fun e w' => e = .returned (.bool true) ∧ ∃ v', IsWriter w' w.heap.size R1 v' (L1 ++ encOp o) ∧ Wrote wa.drew w' R1 v1 v') := by
          have h := written_any wa.drew w.heap.size R1 v1 L1 o a c (HDA.out.w1.holds.drewN 1) (HBW.out.drewN 1) hnil hn (by omega) HAP.out
          rw [htwo] at h
          exact h
        have HDW : Hid (Duo w w.heap.size R1 A3 A4 kb lab wa.drew v0 v1 x0 x1 L0 L1 L0 L1 vl vw ls ws Ls) := HDA.out.kept ⟨rfl, rfl, rfl, Nat.le_refl _, fun _ _ => rfl⟩ (fun _ _ => rfl)
        have HOW : Hid (wa.drew.heap[ob]? = some (.cells #[.int .i64 o.kind, .int .u64 (o.n : Int), .slice a o.bs.length c, .int .i64 o.most, .bool true] 34 (0, 0))) := HOB.out
        have HBD : Hid (BytesAt wa.drew a o.bs) := HBW.out.drewN 1
        clear HD HAL HDA HBA HBW HOB
        go_region_held (fun w' => w'.cell? ⟨A3, 1, none⟩ = some (.pointer (some ⟨R1, 0, none⟩)) ∧ w'.cell? ⟨ob, 0, none⟩ = some (.int .i64 o.kind) ∧ w'.cell? ⟨ob, 1, none⟩ = some (.int .u64 (o.n : Int)) ∧ w'.cell? ⟨ob, 2, none⟩ = some (.slice a o.bs.length c) ∧ w'.cell? ⟨ob, 3, none⟩ = some (.int .i64 o.most) ∧ w'.cell? ⟨ob, 4, none⟩ = some (.bool true)) (first | exact ⟨‹_›, ‹_›, ‹_›, ‹_›, ‹_›, ‹_›⟩ | go_keep)
          ((go_at_call 7; go_loud (refine HC.out.mono ?_; rintro e5 w5 ⟨rfl, v5, hw5, hf5⟩; have HB5 : Hid (BytesAt w5 a o.bs) := hf5.bytes HBD.out HAP.out; have HO5 : Hid (w5.heap[ob]? = some (.cells #[.int .i64 o.kind, .int .u64 (o.n : Int), .slice a o.bs.length c, .int .i64 o.most, .bool true] 34 (0, 0))) := (hf5.block ob (heap_lt HOW.out) HOL3.out.1 HOL3.out.2).trans HOW.out; obtain ⟨lab5, hd5⟩ := HDW.out.wrote1 hw5 hf5; have HD5 : Hid (Duo w w.heap.size R1 A3 A4 kb lab5 w5 v0 v5 x0 x1 L0 (L1 ++ encOp o) L0 L1 vl vw ls ws Ls) := hd5; have r3 : w5.cell? ⟨A3, 1, none⟩ = some (.pointer (some ⟨R1, 0, none⟩)) := (by simp [World.cell?, hd5.c3.holds]); have r0 : w5.cell? ⟨ob, 0, none⟩ = some (.int .i64 o.kind) := (by simp [World.cell?, HO5.out]); have r1 : w5.cell? ⟨ob, 1, none⟩ = some (.int .u64 (o.n : Int)) := (by simp [World.cell?, HO5.out]); have r2 : w5.cell? ⟨ob, 2, none⟩ = some (.slice a o.bs.length c) := (by simp [World.cell?, HO5.out]); have r3b : w5.cell? ⟨ob, 3, none⟩ = some (.int .i64 o.most) := (by simp [World.cell?, HO5.out]); have r4 : w5.cell? ⟨ob, 4, none⟩ = some (.bool true) := (by simp [World.cell?, HO5.out]); clear hw5 hf5 hd5)))
        go_upto_region 16 with fail
        have HD5w : Hid (Duo w w.heap.size R1 A3 A4 kb lab5 w5.drew v0 v5 x0 x1 L0 (L1 ++ encOp o) L0 L1 vl vw ls ws Ls) := HD5.out.kept ⟨rfl, rfl, rfl, Nat.le_refl _, fun _ _ => rfl⟩ (fun _ _ => rfl)
        have HF : Hid (Calls Try.prog 8 #[.agg #[.int .i64 o.kind, .int .u64 (o.n : Int), .slice a o.bs.length c, .int .i64 o.most, .bool true]] w5.drew fun e w' => ∃ v, e = .returned v ∧ OwnB w' w5.drew.heap.size v (encOp o) ∧ Below w5.drew.heap.size w5.drew w') := by
          have h := form_any w5.drew o a c (HB5.out.drewN 1) hnil hn (by omega)
          rw [htwo] at h
          exact h
        have hel := encOp_length o
        have c45 : w5.cell? ⟨A4, 1, none⟩ = some x1 := by simp [World.cell?, HD5.out.c4.holds]
        have HO5w : Hid (w5.drew.heap[ob]? = some (.cells #[.int .i64 o.kind, .int .u64 (o.n : Int), .slice a o.bs.length c, .int .i64 o.most, .bool true] 34 (0, 0))) := HO5.out
        clear HDW HOW HBD HC p3 q0 q1 q2 q3 q4 HD5 HO5 HB5
        go_cut [] (fun wx => ∃ (lab7 : Nat → Nat) (x7 : Value), Hid (Duo w w.heap.size R1 A3 A4 kb lab7 wx v0 v5 x0 x7 L0 (L1 ++ encOp o) L0 (L1 ++ encOp o) vl vw ls ws Ls) ∧ wx.cell? ⟨ob, 0, none⟩ = some (.int .i64 o.kind))
        case first =>
          go_region_law (first
            | (refine step_append_bytes rfl _ _ rfl w.heap.size x1 L1 rfl HD6.out.o1.holds af _ cf (encOp o) rfl rfl HBf.out hnf (by omega) HD6.out.below.size ?_; intro v7 w7 hown7 hgrow7 hat7; obtain ⟨a7, c7, hv7, _, _, _⟩ := hown7.slice; rw [List.length_append] at hv7; subst hv7; have HQ := HD6.out.want1 hown7 hgrow7 hat7; have hc7 := HQ.1; have hf7 := HQ.2.1; have HQ7 : Hid (∃ lab', Duo w w.heap.size R1 A3 A4 kb lab' (w7.setCell ⟨A4, 1, none⟩ (.slice a7 (L1.length + (encOp o).length) c7)) v0 v5 x0 (.slice a7 (L1.length + (encOp o).length) c7) L0 (L1 ++ encOp o) L0 (L1 ++ encOp o) vl vw ls ws Ls) := HQ.2.2; have HK7 : Hid (w7.heap[ob]? = some (.cells #[.int .i64 o.kind, .int .u64 (o.n : Int), .slice a o.bs.length c, .int .i64 o.most, .bool true] 34 (0, 0))) := (hgrow7.block ob (heap_lt HO6.out) (fun e => HOX0.out.1 e.symm)).trans HO6.out; clear HQ hown7 hgrow7 hat7)
            | (go_simp; go_at_call 8; go_loud (refine HF.out.mono ?_; rintro e6 w6 ⟨v6, rfl, hown6, hbel6⟩; obtain ⟨af, cf, hv6, hbf, hnf, _⟩ := hown6.slice; subst hv6; have HBf : Hid (BytesAt w6 af (encOp o)) := hbf; have HD6 : Hid (Duo w w.heap.size R1 A3 A4 kb lab5 w6 v0 v5 x0 x1 L0 (L1 ++ encOp o) L0 L1 vl vw ls ws Ls) := HD5w.out.kept hbel6 (fun _ _ => rfl); have c46 : w6.cell? ⟨A4, 1, none⟩ = some x1 := (by simp [World.cell?, HD6.out.c4.holds]); have HO6 : Hid (w6.heap[ob]? = some (.cells #[.int .i64 o.kind, .int .u64 (o.n : Int), .slice a o.bs.length c, .int .i64 o.most, .bool true] 34 (0, 0))) := (hbel6.block ob (heap_lt HO5w.out)).trans HO5w.out; clear hown6 hbel6 hbf)))
          all_goals go_wp2_with fail
          all_goals go_meet
          all_goals
            obtain ⟨lab7, hd7⟩ := HQ7.out
            exact ⟨lab7, _, hd7, by simp [World.cell?, heap_setCell_other w7 ⟨A4, 1, none⟩ ob _ HOX0.out.2, HK7.out]⟩
        case rest =>
          obtain ⟨lab7, x7, HD7, hk7⟩ := hcut
          clear HF HD5w HO5w HOX0 HOL3 HAP hel c45 r0 r1 r2 r3 r3b r4
          by_cases hkd : o.kind = 8
          · have hkb : (o.kind == 8) = true := by rw [hkd]; rfl
            have HL7 : Hid ((L1 ++ encOp o).length ≤ (encs (ops.take (k + 1))).length ∧ L0.length ≤ (encs (ops.take (k + 1))).length) := by
              rw [Hid, List.length_append, HT.out]
              have := HL.out
              omega
            have HEB : Hid ((L1 ++ encOp o).length ≤ 11534336) := Nat.le_trans HL7.out.1 (HBL.out (k + 1))
            generalize L1 ++ encOp o = E at *
            obtain ⟨el, hel⟩ : ∃ el, E.length = el := ⟨_, rfl⟩
            have HEL : Hid (el = E.length) := hel.symm
            have helb : el ≤ 11534336 := by rw [← hel]; exact HEB.out
            clear hel HL HL1 hLt HEB
            have p7 : wc.cell? ⟨A3, 1, none⟩ = some (.pointer (some ⟨R1, 0, none⟩)) := by simp [World.cell?, HD7.out.c3.holds]
            go_wp2_with fail
            refine (wOut_any wc w.heap.size R1 v5 E HD7.out.w1.holds (by rw [← HEL.out]; omega)).mono ?_
            rintro e8 w8 ⟨rfl, hr8, hb8, hs8⟩
            rw [← HEL.out]
            have HD8 : Hid (Duo w w.heap.size R1 A3 A4 kb (relab lab7 wc.heap.size 7) w8 v0 v5 x0 x7 L0 E L0 E vl vw ls ws Ls) := HD7.out.kept hb8 (fun k hk => relab_old _ _ _ _ hk)
            have HA8 : Hid (Held (relab lab7 wc.heap.size 7) 7 w8 (BytesSet (.slice (some ⟨wc.heap.size, 0, none⟩) el el)) (fun w' => OwnB w' 0 (.slice (some ⟨wc.heap.size, 0, none⟩) el el) E)) := by
              rw [HEL.out]
              refine Held.bytes (OwnB.ofRow hr8 HD7.out.w1.holds.2.1.1 (by rw [← HEL.out]; unfold maxLen; omega) (Nat.zero_le _)) fun k hk => ?_
              simp only [Value.ownBlock, Option.some.injEq] at hk
              exact relab_mine (.inr (by omega))
            have p8 : w8.cell? ⟨A3, 1, none⟩ = some (.pointer (some ⟨R1, 0, none⟩)) := by simp [World.cell?, HD8.out.c3.holds]
            clear hr8 hb8 hs8 p7 hk7 HD7
            generalize relab lab7 wc.heap.size 7 = lab8 at *
            generalize wc.heap.size = g8 at *
            go_wp2_with fail
            refine (wOut_any w8 w.heap.size R1 v5 E HD8.out.w1.holds (by rw [← HEL.out]; omega)).mono ?_
            rintro e9 w9 ⟨rfl, hr9, hb9, hs9⟩
            rw [← HEL.out]
            have HD9 : Hid (Duo w w.heap.size R1 A3 A4 kb (relab lab8 w8.heap.size 8) w9 v0 v5 x0 x7 L0 E L0 E vl vw ls ws Ls) := HD8.out.kept hb9 (fun k hk => relab_old _ _ _ _ hk)
            have HA9 : Hid (Held (relab lab8 w8.heap.size 8) 7 w9 (BytesSet (.slice (some ⟨g8, 0, none⟩) el el)) (fun w' => OwnB w' 0 (.slice (some ⟨g8, 0, none⟩) el el) E)) :=
              HA8.out.keep (fun k hk _ => hb9.block k hk) hb9.size (fun k hk e => (relab_old _ _ _ _ hk).trans e)
            have HC9 : Hid (Held (relab lab8 w8.heap.size 8) 8 w9 (BytesSet (.slice (some ⟨w8.heap.size, 0, none⟩) el el)) (fun w' => OwnB w' 0 (.slice (some ⟨w8.heap.size, 0, none⟩) el el) E)) := by
              rw [HEL.out]
              refine Held.bytes (OwnB.ofRow hr9 HD8.out.w1.holds.2.1.1 (by rw [← HEL.out]; unfold maxLen; omega) (Nat.zero_le _)) fun k hk => ?_
              simp only [Value.ownBlock, Option.some.injEq] at hk
              exact relab_mine (.inr (by omega))
            have p9 : w9.cell? ⟨A3, 1, none⟩ = some (.pointer (some ⟨R1, 0, none⟩)) := by simp [World.cell?, HD9.out.c3.holds]
            clear hr9 hb9 hs9 p8 HD8 HA8
            generalize relab lab8 w8.heap.size 8 = lab9 at *
            generalize w8.heap.size = g9 at *
            obtain ⟨ax, cx, hx7, hbx, _, _⟩ := HD9.out.o1.holds.slice
            rw [← HEL.out] at hx7
            subst hx7
            have c9 : w9.cell? ⟨A4, 1, none⟩ = some (.slice ax el cx) := by simp [World.cell?, HD9.out.c4.holds]
            have HBX : Hid (BytesAt w9 ax E) := hbx
            have HBY : Hid (BytesAt w9 (some ⟨g8, 0, none⟩) E) := (OwnB.bytes HA9.out.holds).1
            have HBZ : Hid (BytesAt w9 (some ⟨g9, 0, none⟩) E) := (OwnB.bytes HC9.out.holds).1
            have HWW : Hid (IsWriter w9 w.heap.size R1 v5 E) := HD9.out.w1.holds
            have HMX : Hid (E.length ≤ maxLen) := by rw [Hid, ← HEL.out]; unfold maxLen; omega
            have HLN : Hid (((E.length : Nat) : Int) = (el : Int)) := by rw [Hid, HEL.out]
            clear hbx
            go_wp2_with fail
            go_quiet (first
              | (go_at_call 10; exact Calls.quiet_of (same_any _ _ _ _ _ _ _ E E HEL.out HEL.out (HBY.out.drewN _) (HBX.out.drewN _) HMX.out))
              | (go_at_call 10; exact Calls.quiet_of (same_any _ _ _ _ _ _ _ E E HEL.out HEL.out (HBZ.out.drewN _) (HBX.out.drewN _) HMX.out))
              | (go_at_call 11; exact Calls.quiet_of_same (wLen_el _ w.heap.size R1 v5 E el HEL.out (HWW.out.drewN _))))
            have HDq : Hid (Duo w w.heap.size R1 A3 A4 kb lab9 (w9.drewN nq) v0 v5 x0 (.slice ax el cx) L0 E L0 E vl vw ls ws Ls) := HD9.out.kept ⟨rfl, rfl, rfl, Nat.le_refl _, fun _ _ => rfl⟩ (fun _ _ => rfl)
            have HAq : Hid (Held lab9 7 (w9.drewN nq) (BytesSet (.slice (some ⟨g8, 0, none⟩) el el)) (fun w' => OwnB w' 0 (.slice (some ⟨g8, 0, none⟩) el el) E)) := HA9.out.keep (fun _ _ _ => rfl) (Nat.le_refl _) (fun _ _ e => e)
            have HCq : Hid (Held lab9 8 (w9.drewN nq) (BytesSet (.slice (some ⟨g9, 0, none⟩) el el)) (fun w' => OwnB w' 0 (.slice (some ⟨g9, 0, none⟩) el el) E)) := HC9.out.keep (fun _ _ _ => rfl) (Nat.le_refl _) (fun _ _ e => e)
            generalize w9.drewN nq = wq at *
            clear HD9 HA9 HC9 HBX HBY HBZ HWW p9 c9 HLN
            go_wp2_with fail
            refine (put_any wq kb vl vw ls ws Ls Ls (some ⟨g8, 0, none⟩) el el E HDq.out.bk.holds HAq.out.holds (fun k hk hS => by have h1 := HAq.out.labs k hk; have h2 := HDq.out.bk.labs k hS; omega) (by have := HK.out.1; omega) HK.out.2.1 (by rw [← HEL.out]; omega)).mono ?_
            rintro e10 w10 ⟨rfl, vl1, vw1, y1, hb10, hT10, hs10⟩
            obtain ⟨lab10, hd10, hc10⟩ := HDq.out.put (.inl rfl) HAq.out (fun _ => HCq.out) hb10 hT10 hs10
            have HD10 : Hid (Duo w w.heap.size R1 A3 A4 kb lab10 w10 v0 v5 x0 (.slice ax el cx) L0 E L0 E vl1 vw1 (ls ++ [.slice (some ⟨g8, 0, none⟩) el el]) (ws ++ [y1]) (Ls ++ [E])) := hd10
            have HC10 : Hid (Held lab10 8 w10 (BytesSet (.slice (some ⟨g9, 0, none⟩) el el)) (fun w' => OwnB w' 0 (.slice (some ⟨g9, 0, none⟩) el el) E)) := hc10 rfl
            clear hb10 hT10 hs10 hd10 hc10 HDq HAq HCq
            go_wp2_with fail
            refine (put_any w10 kb vl1 vw1 _ _ _ _ (some ⟨g9, 0, none⟩) el el E HD10.out.bk.holds HC10.out.holds (fun k hk hS => by have h1 := HC10.out.labs k hk; have h2 := HD10.out.bk.labs k hS; omega) (by have := HK.out.1; simp; omega) (by have := HK.out.2.1; simp; omega) (by rw [← HEL.out]; omega)).mono ?_
            rintro e11 w11 ⟨rfl, vl2, vw2, y2, hb11, hT11, hs11⟩
            obtain ⟨lab11, hd11, _⟩ := HD10.out.put (S := fun _ => False) (P := fun _ => True) (.inr rfl) HC10.out (fun h => absurd h (by decide)) hb11 hT11 hs11
            have HD11 : Hid (Duo w w.heap.size R1 A3 A4 kb lab11 w11 v0 v5 x0 (.slice ax el cx) L0 E L0 E vl2 vw2 (ls ++ [.slice (some ⟨g8, 0, none⟩) el el] ++ [.slice (some ⟨g9, 0, none⟩) el el]) (ws ++ [y1] ++ [y2]) (Ls ++ [E] ++ [E])) := hd11
            have HK11 : Hid ((ls ++ [Value.slice (some ⟨g8, 0, none⟩) el el] ++ [Value.slice (some ⟨g9, 0, none⟩) el el]).length ≤ 2 * (k + 1) ∧ (ws ++ [y1] ++ [y2]).length = (ls ++ [Value.slice (some ⟨g8, 0, none⟩) el el] ++ [Value.slice (some ⟨g9, 0, none⟩) el el]).length ∧ ∀ i, ((Ls ++ [E] ++ [E]).getD i []).length ≤ 11534336) := by
              have h1 := HK.out.1
              have h2 := HK.out.2.1
              have h3 : E.length ≤ 11534336 := by rw [← HEL.out]; exact helb
              refine ⟨by simp; omega, by simp [h2], fun i => ?_⟩
              rw [getD_snoc]
              split
              · rw [getD_snoc]
                split
                · exact HK.out.2.2 i
                · split
                  · exact h3
                  · simp
              · split
                · exact h3
                · simp
            clear hb11 hT11 hs11 hd11 HD10 HC10
            go_wp2_with fail
            go_roundw
            case rel => exact ⟨k + 1, lab11, _, _, _, _, _, _, vl2, vw2, _, _, _, by omega, by go_num, HD11, ⟨HL7.out.2, HL7.out.1⟩, HK11⟩
            case measure => simp [intOf]; omega
          · have hkb : (o.kind == 8) = false := by rw [beq_eq_false_iff_ne]; exact hkd
            have HL7 : Hid ((L1 ++ encOp o).length ≤ (encs (ops.take (k + 1))).length ∧ L0.length ≤ (encs (ops.take (k + 1))).length) := by
              rw [Hid, List.length_append, HT.out]
              have := HL.out
              omega
            go_wp2_with fail
            go_roundw
            case rel =>
              exact ⟨k + 1, lab7, _, _, _, _, _, _, vl, vw, ls, ws, Ls, by omega, by go_num, HD7, ⟨HL7.out.2, HL7.out.1⟩, ⟨by have := HK.out.1; omega, HK.out.2⟩⟩
            case measure => simp [intOf]; omega
    · obtain rfl : k = sn := by omega
      have hL0 : L0.length ≤ 11534336 := Nat.le_trans HL.out.1 (HBL.out k)
      have hL1 : L1.length ≤ 11534336 := Nat.le_trans HL.out.2 (HBL.out k)
      go_wp2_with fail
      refine (ends_any wr kb vl vw ls ws Ls HD.out.bk.holds HK.out.2.1 (by have := HK.out.1; omega) (fun i => Nat.le_trans (HK.out.2.2 i) (by omega))).mono ?_
      rintro e3 w3 ⟨rfl, hT⟩
      have hB3 : Tch lab (fun j => j = 6) wr w3 := ⟨hT.os, hT.tape, hT.output, hT.size, fun b hb hn => hT.block b hb (fun hS => hn (HD.out.bk.labs b hS))⟩
      have HD3 : Hid (Pair w w.heap.size R1 A3 A4 w3 v0 v1 x0 x1 L0 L1) :=
        ⟨(HD.out.w0.far (lab' := lab) hB3 (by decide) (fun _ _ e => e)).holds, (HD.out.w1.far (lab' := lab) hB3 (by decide) (fun _ _ e => e)).holds, (HD.out.c3.far (lab' := lab) hB3 (by decide) (fun _ _ e => e)).holds, (HD.out.c4.far (lab' := lab) hB3 (by decide) (fun _ _ e => e)).holds, (HD.out.o0.far (lab' := lab) hB3 (by decide) (fun _ _ e => e)).holds, (HD.out.o1.far (lab' := lab) hB3 (by decide) (fun _ _ e => e)).holds, HD.out.below.trans (hB3.below HD.out.old (by decide) HD.out.below.size)⟩
      clear hT hB3 HD HL HK
      go_wp2_with fail
      go_loopw [13] (fun x wr => ∃ (s : Nat), s ≤ 2 ∧ x = .int .i64 (s : Int) ∧ Hid (Pair w w.heap.size R1 A3 A4 wr v0 v1 x0 x1 L0 L1)) (fun x _ => 2 - (intOf x).toNat)
      case atStart => exact ⟨0, by omega, rfl, HD3⟩
      case round =>
        clear HD3
        obtain ⟨s, hs, rfl, HP⟩ := hrel
        obtain rfl | rfl | rfl : s = 0 ∨ s = 1 ∨ s = 2 := by omega
        · obtain ⟨el, hel⟩ : ∃ el, L0.length = el := ⟨_, rfl⟩
          have HEL : Hid (el = L0.length) := hel.symm
          have helb : el ≤ 11534336 := by rw [← hel]; exact hL0
          clear hel
          obtain ⟨ax, cx, hx, _, _, _⟩ := HP.out.o0.slice
          rw [← HEL.out] at hx
          subst hx
          have HPd : Hid (Pair w w.heap.size R1 A3 A4 wr.drew v0 v1 (.slice ax el cx) x1 L0 L1) := HP.out.kept ⟨rfl, rfl, rfl, Nat.le_refl _, fun _ _ => rfl⟩
          have p0 : wr.cell? ⟨A3, 0, none⟩ = some (.pointer (some ⟨w.heap.size, 0, none⟩)) := by simp [World.cell?, HP.out.c3]
          have c0 : wr.cell? ⟨A4, 0, none⟩ = some (.slice ax el cx) := by simp [World.cell?, HP.out.c4]
          have HC : Hid (Calls Try.prog 9 #[.pointer (some ⟨w.heap.size, 0, none⟩)] wr.drew fun e w' => e = .returned (.slice (some ⟨wr.drew.heap.size, 0, none⟩) el el) ∧ RowAt w' wr.drew.heap.size L0 ∧ Below wr.drew.heap.size wr.drew w' ∧ w'.heap.size = wr.drew.heap.size + 1) := by
            have h := wOut_any wr.drew w.heap.size w.heap.size v0 L0 HPd.out.w0 (by rw [← HEL.out]; omega)
            rw [← HEL.out] at h
            exact h
          have HMX : Hid (L0.length ≤ maxLen) := by rw [Hid, ← HEL.out]; unfold maxLen; omega
          go_wp2_with fail
          go_region_held (fun w' => w'.cell? ⟨A3, 0, none⟩ = some (.pointer (some ⟨w.heap.size, 0, none⟩)) ∧ w'.cell? ⟨A4, 0, none⟩ = some (.slice ax el cx)) (first | exact ⟨‹_›, ‹_›⟩ | go_keep)
            (first | (go_at_call 11; go_loud (refine (wLen_el w6 w.heap.size w.heap.size v0 L0 el HEL.out HP6.out.w0).mono ?_; rintro e7 w7 ⟨rfl, hw7⟩; subst hw7)) | (go_at_call 10; go_loud (refine (same_any w5 _ _ _ _ _ _ L0 L0 HEL.out HEL.out HB5.out (OwnB.bytes HP5.out.o0).1 HMX.out).mono ?_; rintro e6 w6 ⟨rfl, q6, hq6⟩; have HP6 : Hid (Pair w w.heap.size R1 A3 A4 w6 v0 v1 (.slice ax el cx) x1 L0 L1) := (by rw [hq6]; exact HP5.out.kept ⟨rfl, rfl, rfl, Nat.le_refl _, fun _ _ => rfl⟩); have p6 : w6.cell? ⟨A3, 0, none⟩ = some (.pointer (some ⟨w.heap.size, 0, none⟩)) := (by simp [World.cell?, HP6.out.c3]); have c6 : w6.cell? ⟨A4, 0, none⟩ = some (.slice ax el cx) := (by simp [World.cell?, HP6.out.c4]); clear hq6)) | (go_at_call 9; go_loud (refine HC.out.mono ?_; rintro e5 w5 ⟨rfl, hr5, hb5, hs5⟩; have HP5 : Hid (Pair w w.heap.size R1 A3 A4 w5 v0 v1 (.slice ax el cx) x1 L0 L1) := HPd.out.kept hb5; have HB5 : Hid (BytesAt w5 (some ⟨wr.heap.size, 0, none⟩) L0) := bytes_of_row hr5 HPd.out.w0.2.1.1; have p5 : w5.cell? ⟨A3, 0, none⟩ = some (.pointer (some ⟨w.heap.size, 0, none⟩)) := (by simp [World.cell?, HP5.out.c3]); have c5 : w5.cell? ⟨A4, 0, none⟩ = some (.slice ax el cx) := (by simp [World.cell?, HP5.out.c4]); clear hr5 hb5 hs5)))
          go_wp2_with fail
          go_roundw
          case rel => exact ⟨1, by omega, by go_num, HP6⟩
          case measure => simp [intOf]
        · obtain ⟨el, hel⟩ : ∃ el, L1.length = el := ⟨_, rfl⟩
          have HEL : Hid (el = L1.length) := hel.symm
          have helb : el ≤ 11534336 := by rw [← hel]; exact hL1
          clear hel
          obtain ⟨ax, cx, hx, _, _, _⟩ := HP.out.o1.slice
          rw [← HEL.out] at hx
          subst hx
          have HPd : Hid (Pair w w.heap.size R1 A3 A4 wr.drew v0 v1 x0 (.slice ax el cx) L0 L1) := HP.out.kept ⟨rfl, rfl, rfl, Nat.le_refl _, fun _ _ => rfl⟩
          have p0 : wr.cell? ⟨A3, 1, none⟩ = some (.pointer (some ⟨R1, 0, none⟩)) := by simp [World.cell?, HP.out.c3]
          have c0 : wr.cell? ⟨A4, 1, none⟩ = some (.slice ax el cx) := by simp [World.cell?, HP.out.c4]
          have HC : Hid (Calls Try.prog 9 #[.pointer (some ⟨R1, 0, none⟩)] wr.drew fun e w' => e = .returned (.slice (some ⟨wr.drew.heap.size, 0, none⟩) el el) ∧ RowAt w' wr.drew.heap.size L1 ∧ Below wr.drew.heap.size wr.drew w' ∧ w'.heap.size = wr.drew.heap.size + 1) := by
            have h := wOut_any wr.drew w.heap.size R1 v1 L1 HPd.out.w1 (by rw [← HEL.out]; omega)
            rw [← HEL.out] at h
            exact h
          have HMX : Hid (L1.length ≤ maxLen) := by rw [Hid, ← HEL.out]; unfold maxLen; omega
          go_wp2_with fail
          go_region_held (fun w' => w'.cell? ⟨A3, 1, none⟩ = some (.pointer (some ⟨R1, 0, none⟩)) ∧ w'.cell? ⟨A4, 1, none⟩ = some (.slice ax el cx)) (first | exact ⟨‹_›, ‹_›⟩ | go_keep)
            (first | (go_at_call 11; go_loud (refine (wLen_el w6 w.heap.size R1 v1 L1 el HEL.out HP6.out.w1).mono ?_; rintro e7 w7 ⟨rfl, hw7⟩; subst hw7)) | (go_at_call 10; go_loud (refine (same_any w5 _ _ _ _ _ _ L1 L1 HEL.out HEL.out HB5.out (OwnB.bytes HP5.out.o1).1 HMX.out).mono ?_; rintro e6 w6 ⟨rfl, q6, hq6⟩; have HP6 : Hid (Pair w w.heap.size R1 A3 A4 w6 v0 v1 x0 (.slice ax el cx) L0 L1) := (by rw [hq6]; exact HP5.out.kept ⟨rfl, rfl, rfl, Nat.le_refl _, fun _ _ => rfl⟩); have p6 : w6.cell? ⟨A3, 1, none⟩ = some (.pointer (some ⟨R1, 0, none⟩)) := (by simp [World.cell?, HP6.out.c3]); have c6 : w6.cell? ⟨A4, 1, none⟩ = some (.slice ax el cx) := (by simp [World.cell?, HP6.out.c4]); clear hq6)) | (go_at_call 9; go_loud (refine HC.out.mono ?_; rintro e5 w5 ⟨rfl, hr5, hb5, hs5⟩; have HP5 : Hid (Pair w w.heap.size R1 A3 A4 w5 v0 v1 x0 (.slice ax el cx) L0 L1) := HPd.out.kept hb5; have HB5 : Hid (BytesAt w5 (some ⟨wr.heap.size, 0, none⟩) L1) := bytes_of_row hr5 HPd.out.w1.2.1.1; have p5 : w5.cell? ⟨A3, 1, none⟩ = some (.pointer (some ⟨R1, 0, none⟩)) := (by simp [World.cell?, HP5.out.c3]); have c5 : w5.cell? ⟨A4, 1, none⟩ = some (.slice ax el cx) := (by simp [World.cell?, HP5.out.c4]); clear hr5 hb5 hs5)))
          go_wp2_with fail
          go_roundw
          case rel => exact ⟨2, by omega, by go_num, HP6⟩
          case measure => simp [intOf]
        · go_wp2_with fail
          go_ret
          exact ⟨rfl, HP.out.below⟩
end Go.Proofs.Ythdlilekilkogaa

