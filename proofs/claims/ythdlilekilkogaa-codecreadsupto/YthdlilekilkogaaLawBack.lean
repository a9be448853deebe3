/-
  THE WALK OF preludelaw01.CodecBack.
-/
import Derived.Test.YthdlilekilkogaaAwake
import Derived.Test.YthdlilekilkogaaWritten
import Derived.Test.YthdlilekilkogaaBackRead
import Derived.Test.YthdlilekilkogaaRAsk
namespace Go.Proofs.Ythdlilekilkogaa
open Go.RowKit

/-- a script's k-th call, in a world that keeps what lies below -/
theorem op_kept {w w1 : World} {so : Option Addr} {ops : List OpV} {k : Nat} (hs : ScriptAt w so ops) (hk : k < ops.length) (hb : Below w.heap.size w w1) :
    ∃ sb soff a c, so = some ⟨sb, soff, none⟩ ∧ w1.cell? ⟨sb, soff + k * 5, none⟩ = some (.int .i64 (ops.getD k default).kind) ∧ w1.cell? ⟨sb, soff + k * 5 + 1, none⟩ = some (.int .u64 ((ops.getD k default).n : Int)) ∧
      w1.cell? ⟨sb, soff + k * 5 + 2, none⟩ = some (.slice a (ops.getD k default).bs.length c) ∧ w1.cell? ⟨sb, soff + k * 5 + 3, none⟩ = some (.int .i64 (ops.getD k default).most) ∧ w1.cell? ⟨sb, soff + k * 5 + 4, none⟩ = some (.bool (ops.getD k default).two) ∧
      BytesAt w1 a (ops.getD k default).bs ∧ (a = none → c = 0) ∧ (∀ ad, (ops.getD k default).bs ≠ [] → a = some ad → ad.block < w.heap.size) ∧ (ops.getD k default).n < 18446744073709551616 := by
  rcases hs with h0 | ⟨sb, soff, h1, h2⟩
  · rw [h0] at hk; simp at hk
  · obtain ⟨o0, o1, ⟨a, c, o2, hba, hnil⟩, o3, o4, _, hn, _⟩ := h2 k hk
    have hsb : sb < w.heap.size := World.block_lt_of_cell? w ⟨sb, soff + k * 5, none⟩ o0
    have hcell : ∀ j, w1.cell? ⟨sb, j, none⟩ = w.cell? ⟨sb, j, none⟩ := fun j => hb.cell (p := ⟨sb, j, none⟩) hsb
    exact ⟨sb, soff, a, c, h1, by rw [hcell]; exact o0, by rw [hcell]; exact o1, by rw [hcell]; exact o2, by rw [hcell]; exact o3, by rw [hcell]; exact o4, hba.kept hb, hnil, hba.lt, hn⟩
theorem encs_lt {w : World} {so : Option Addr} {ops : List OpV} (hs : ScriptAt w so ops) : ∀ z ∈ encs ops, z < 256 := by
  have h : ∀ o ∈ ops, ∀ z ∈ o.bs, z < 256 := by
    intro o ho
    obtain ⟨i, hi, rfl⟩ := List.getElem_of_mem ho
    rcases hs with h0 | ⟨sb, soff, _, h2⟩
    · subst h0; simp at hi
    · obtain ⟨_, _, ⟨a, c, _, hba, _⟩, _⟩ := h2 i hi
      rw [List.getD_eq_getElem?_getD, List.getElem?_eq_getElem hi] at hba
      exact hba.1
  clear hs
  induction ops with
  | nil => intro z hz; simp [encs] at hz
  | cons o r ih =>
    intro z hz
    rcases List.mem_append.1 hz with h1 | h1
    · exact encOp_lt o (h o (by simp)) z h1
    · exact ih (fun o' ho' => h o' (by simp [ho'])) z h1

/-- the state in the second loop -/
structure Reading (w : World) (B R : Nat) (ra : Option Addr) (BW : Nat) (v : Value) (G : Nat) (b : List Nat) (wr : World) (p : Nat) (e : Int) : Prop where
  reader : IsReader wr R ra b.length b p e
  writer : IsWriter wr BW BW v b
  out : BytesAt wr (some ⟨G, 0, none⟩) b
  below : Below B w wr
  hB : B ≤ R
  hR : R < wr.heap.size
  h1 : BW ≠ R
  h2 : v.ownBlock ≠ some R
  h3 : G ≠ R
  hBB : B ≤ w.heap.size
theorem Reading.grown {w wr w1 : World} {B R : Nat} {ra : Option Addr} {BW : Nat} {v : Value} {G : Nat} {b : List Nat} {p p' : Nat} {e e' : Int} (h : Reading w B R ra BW v G b wr p e) (hr : Reads wr R ra b.length b p' e' w1) : Reading w B R ra BW v G b w1 p' e' := by
  have hs := h.below.size
  have hb : Below B wr w1 := reads_below hr h.hB (by have := h.hBB; omega)
  refine ⟨hr.1, h.writer.grown hr.2 (by simpa using h.h1) (.inr h.h2), ?_, h.below.trans hb, h.hB, Nat.lt_of_lt_of_le h.hR hr.2.size, h.h1, h.h2, h.h3, h.hBB⟩
  have hl := h.out.lt
  obtain ⟨hz, h0 | ⟨g, off, e, hc⟩⟩ := h.out
  · exact ⟨hz, .inl h0⟩
  · refine ⟨hz, .inr ⟨g, off, e, fun j hj => ?_⟩⟩
    simp only [Option.some.injEq, Addr.mk.injEq] at e
    obtain ⟨rfl, rfl, _⟩ := e
    have hne : b ≠ [] := by intro e; rw [e] at hj; simp at hj
    have h4 := hr.2.block G (hl _ hne rfl) (by simpa using h.h3)
    have h3 := hc j hj
    simp only [World.cell?] at h3 ⊢
    rw [h4]; exact h3
theorem Reading.kept {w wr w1 : World} {B R : Nat} {ra : Option Addr} {BW : Nat} {v : Value} {G : Nat} {b : List Nat} {p : Nat} {e : Int} (h : Reading w B R ra BW v G b wr p e) (hb : Below wr.heap.size wr w1) : Reading w B R ra BW v G b w1 p e :=
  ⟨h.reader.kept hb, h.writer.kept hb, h.out.kept hb, h.below.trans (hb.mono (Nat.le_trans h.hBB h.below.size)), h.hB, Nat.lt_of_lt_of_le h.hR hb.size, h.h1, h.h2, h.h3, h.hBB⟩

set_option maxRecDepth 100000 in
set_option maxHeartbeats 4000000 in
theorem back_walk (w : World) (so : Option Addr) (sc : Nat) (ops : List OpV) (sn : Nat) (hsn : sn = ops.length) (hs : ScriptAt w so ops) (hm : bulkOps ops ≤ 1048576) :
    Calls Try.prog 5 #[.slice so sn sc] w fun e w' => e = .returned (.bool true) ∧ Below w.heap.size w w' := by
  have HS0 : Hid (ScriptAt w so ops) := hs
  have HSN : Hid (sn = ops.length) := hsn
  have hsm : sn ≤ 1048576 := by have := ops_length ops; omega
  have HBL : Hid (∀ k, (encs (ops.take k)).length ≤ 11534336) := by
    intro k
    have h1 := posOp_le ops k
    have h2 := encs_length ops
    unfold posOp at h1
    omega
  have HOL : Hid (∀ k, k < ops.length → (ops.getD k default).bs.length ≤ 1048576) := by
    intro k hk
    have h1 : ∀ (l : List OpV) (j : Nat), j < l.length → (l.getD j default).bs.length ≤ bulkOps l := by
      intro l
      induction l with
      | nil => intro j hj; simp at hj
      | cons o r ih =>
        intro j hj
        simp only [bulkOps, List.map_cons, List.sum_cons]
        cases j with
        | zero => simp; omega
        | succ j => have := ih j (by simpa using hj); simp only [bulkOps] at this; simp only [List.getD_cons_succ]; omega
    exact Nat.le_trans (h1 ops k hk) hm
  clear hs hsn hm
  go_enter Try.func5, Try.ntmps5
  go_wp2_with fail
  refine (awake_any w).mono ?_
  rintro e w1 ⟨rfl, hb⟩
  have HB1 : Hid (Below w.heap.size w w1) := hb
  clear hb
  go_wp2_with fail
  refine (new_any w1).mono ?_
  rintro e w2 ⟨rfl, hw, hb, hsz⟩
  have hB1 := HB1.out.size
  have HB2 : Hid (Below w.heap.size w w2) := HB1.out.trans (hb.mono HB1.out.size)
  have HW2 : Hid (IsWriter w2 w1.heap.size w1.heap.size (.slice none 0 0) (encs (ops.take 0))) := hw
  generalize w1.heap.size = BW at *
  clear hw hb hsz HB1
  go_wp2
  go_loopw [4] (fun x wr => ∃ (k : Nat) (v : Value), k ≤ sn ∧ x = .int .i64 (k : Int) ∧ Hid (IsWriter wr BW BW v (encs (ops.take k))) ∧ Hid (Below w.heap.size w wr)) (fun x _ => sn - (intOf x).toNat)
  case atStart => exact ⟨0, _, Nat.zero_le _, rfl, HW2, HB2⟩
  case round =>
    obtain ⟨k, v, hk, rfl, HW, HB⟩ := hrel
    by_cases hlt : k < sn
    · obtain ⟨sb, soff, a, c, hso, o0, o1, o2, o3, o4, hba, hnil, hal, hn⟩ := op_kept HS0.out (by rw [← HSN.out]; exact hlt) HB.out
      subst hso
      have HBA : Hid (BytesAt wr a (ops.getD k default).bs) := hba
      have HL1 := HBL.out k
      have HL2 := HOL.out k (by rw [← HSN.out]; exact hlt)
      have HT : Hid (encs (ops.take (k + 1)) = encs (ops.take k) ++ encOp (ops.getD k default)) := encs_take ops k (by rw [← HSN.out]; exact hlt)
      have HAP : Hid (∀ ad, (ops.getD k default).bs ≠ [] → a = some ad → ad.block ≠ BW ∧ v.ownBlock ≠ some ad.block) := by
        intro ad h1 h2
        have h3 := hal ad h1 h2
        refine ⟨by omega, fun e => ?_⟩
        have := (HW.out.2.1.2.lt _ e).1
        omega
      clear hba hal
      generalize ops.getD k default = o at *
      go_wp2_with fail
      refine (written_any wr BW BW v (encs (ops.take k)) o a c HW.out HBA.out hnil hn (by omega) HAP.out).mono ?_
      rintro e3 w3 ⟨rfl, v3, hw3, hf3⟩
      have HW3 : Hid (IsWriter w3 BW BW v3 (encs (ops.take (k + 1)))) := by rw [HT.out]; exact hw3
      have HB3 : Hid (Below w.heap.size w w3) := HB.out.trans ((hf3.below HW.out).mono hB1)
      clear hw3 hf3
      go_wp2
      go_roundw
      case rel => exact ⟨k + 1, v3, by omega, by go_num, HW3, HB3⟩
      case measure => simp [intOf]; omega
    · obtain rfl : k = sn := by omega
      have HEN : Hid (encs (ops.take k) = encs ops) := by rw [Hid, HSN.out, List.take_length]
      have HWb : Hid (IsWriter wr BW BW v (encs ops)) := by rw [← HEN.out]; exact HW.out
      have HZb : Hid (∀ z ∈ encs ops, z < 256) := encs_lt HS0.out
      have hbl : (encs ops).length ≤ 11534336 := by rw [← HEN.out]; exact HBL.out k
      generalize hb : encs ops = b at *
      have HBQ : Hid (encs ops = b) := hb
      clear hb HW HEN
      go_wp2_with fail
      refine (wOut_any wr BW BW v b HWb.out (by omega)).mono ?_
      rintro e3 w3 ⟨rfl, hr3, hb3, hs3⟩
      have HW3 : Hid (IsWriter w3 BW BW v b) := HWb.out.kept hb3
      have HB3 : Hid (Below w.heap.size w w3) := HB.out.trans (hb3.mono HB.out.size)
      have HG3 : Hid (BytesAt w3 (some ⟨wr.heap.size, 0, none⟩) b) := by
        rw [← List.append_nil b] at hr3
        exact RowAt.bytes0 hr3 HZb.out
      have hG3 : wr.heap.size < w3.heap.size := by omega
      generalize wr.heap.size = G at *
      clear hr3 hb3 hs3 HWb HB
      go_wp2_with fail
      refine (read_any w3 _ _ b.length b rfl HG3.out (by omega)).mono ?_
      rintro e4 w4 ⟨rfl, hr4, hb4, hs4⟩
      have HD4 : Hid (Reading w w.heap.size (w3.heap.size + 1) (some ⟨w3.heap.size, 0, none⟩) BW v G b w4 (posOp ops 0) 0) :=
        ⟨hr4, HW3.out.kept hb4, HG3.out.kept hb4, HB3.out.trans (hb4.mono HB3.out.size), by have := HB3.out.size; omega, by omega, by have := HW3.out.lt; omega, fun e => by have := (HW3.out.2.1.2.lt _ e).2; omega, by omega, Nat.le_refl _⟩
      generalize w3.heap.size + 1 = R at *
      generalize (some (⟨w3.heap.size, 0, none⟩ : Addr)) = ra at *
      clear hr4 hb4 hs4 HW3 HB3 HG3 hG3
      go_wp2
      go_loopw [7] (fun x wr => ∃ (j : Nat), j ≤ k ∧ x = .int .i64 (j : Int) ∧ Hid (Reading w w.heap.size R ra BW v G b wr (posOp ops j) 0)) (fun x _ => k - (intOf x).toNat)
      case atStart => exact ⟨0, Nat.zero_le _, rfl, HD4⟩
      case round =>
        obtain ⟨j, hj, rfl, HD⟩ := hrel
        by_cases hlt : j < k
        · have HJ : Hid (j < ops.length) := by rw [Hid, ← HSN.out]; exact hlt
          obtain ⟨sb, soff, a, c, hso, o0, o1, o2, o3, o4, hba, hnil, hal, hn⟩ := op_kept HS0.out HJ.out HD.out.below
          subst hso
          have HL2 := HOL.out j HJ.out
          obtain ⟨kind, hkd⟩ : ∃ x, (ops.getD j default).kind = x := ⟨_, rfl⟩
          obtain ⟨n, hnn⟩ : ∃ x, (ops.getD j default).n = x := ⟨_, rfl⟩
          obtain ⟨bs, hbs⟩ : ∃ x, (ops.getD j default).bs = x := ⟨_, rfl⟩
          obtain ⟨l, hll⟩ : ∃ x, bs.length = x := ⟨_, rfl⟩
          rw [hkd] at o0
          rw [hnn] at o1 hn
          rw [hbs] at o2 hba HL2
          rw [hll] at o2 HL2
          have HKD : Hid ((ops.getD j default).kind = kind) := hkd
          have HNN : Hid ((ops.getD j default).n = n) := hnn
          have HBS : Hid ((ops.getD j default).bs = bs) := hbs
          have HLL : Hid (l = bs.length) := hll.symm
          rw [hbs] at hal
          have HALT : Hid (∀ ad, bs ≠ [] → a = some ad → ad.block < w.heap.size) := hal
          clear hkd hnn hbs hll hal
          generalize (ops.getD j default).most = most at *
          generalize (ops.getD j default).two = two at *
          have HAL : Hid (Below wr.heap.size wr (wr.alloc (.cells #[.int .i64 kind, .int .u64 (n : Int), .slice a l c, .int .i64 most, .bool two] 34))) := (Below.refl _ _).alloc (Nat.le_refl _) _
          have HDA : Hid (Reading w w.heap.size R ra BW v G b (wr.alloc (.cells #[.int .i64 kind, .int .u64 (n : Int), .slice a l c, .int .i64 most, .bool two] 34)) (posOp ops j) 0) := HD.out.kept HAL.out
          have HBA : Hid (BytesAt (wr.alloc (.cells #[.int .i64 kind, .int .u64 (n : Int), .slice a l c, .int .i64 most, .bool two] 34)) a bs) := hba.kept HAL.out
          have Hp1 : Hid ((wr.alloc (.cells #[.int .i64 kind, .int .u64 (n : Int), .slice a l c, .int .i64 most, .bool two] 34)).cell? ⟨wr.heap.size, 1, none⟩ = some (.int .u64 (n : Int))) := by rw [Hid]; simp
          have Hp2 : Hid ((wr.alloc (.cells #[.int .i64 kind, .int .u64 (n : Int), .slice a l c, .int .i64 most, .bool two] 34)).cell? ⟨wr.heap.size, 2, none⟩ = some (.slice a l c)) := by rw [Hid]; simp
          have hRO : R < wr.heap.size := HD.out.hR
          clear hba HAL HD
          go_wp2_with fail
          · generalize (wr.alloc (.cells #[.int .i64 kind, .int .u64 (n : Int), .slice a l c, .int .i64 most, .bool two] 34)) = wa at *
            have HDD : Hid (Reading w w.heap.size R ra BW v G b wa.drew (posOp ops j) 0) := HDA.out.kept ⟨rfl, rfl, rfl, Nat.le_refl _, fun _ _ => rfl⟩
            generalize wr.heap.size = ob at *
            have hcw : wa.cell? ⟨ob, 1, none⟩ = some (.int .u64 (n : Int)) := Hp1.out
            have HNE : Hid (some ob ≠ some R) := fun e => by cases e; omega
            have HC : Hid (Calls Try.prog 27 #[.pointer (some ⟨R, 0, none⟩)] wa.drew fun e' w' => e' = .returned (.int .u8 ((n % 256 : Nat) : Int)) ∧ Reads wa.drew R ra b.length b (posOp ops (j + 1)) 0 w') := by
              have h := rByte_any wa.drew R ra b.length b (posOp ops j) 0 HDD.out.reader
              rw [← HBQ.out, back_byte ops j HJ.out HKD.out HNN.out (kEq ‹(kind == 1) = true›)] at h
              rw [← HBQ.out]; exact h

            go_region_held (fun w' => w'.cell? ⟨ob, 1, none⟩ = some (.int .u64 (n : Int))) (first | exact ‹_› | go_keep)
              (first | (go_at_call 27; go_loud (refine HC.out.mono ?_; rintro e5 w5 ⟨rfl, hr5⟩; have hc5 : w5.cell? ⟨ob, 1, none⟩ = some (.int .u64 (n : Int)) := hr5.2.cell hcw HNE.out; have HD5 : Hid (Reading w w.heap.size R ra BW v G b w5 (posOp ops (j + 1)) 0) := HDD.out.grown hr5; clear hr5)))
            go_wp2_with fail
            refine (rErr_any _ R _ _ _ _ _ HD5.out.reader).mono ?_
            rintro e6 w6 ⟨rfl, rfl⟩
            go_wp2
            go_roundw
            case rel => exact ⟨j + 1, by omega, by go_num, HD5⟩
            case measure => simp [intOf]; omega
          · generalize (wr.alloc (.cells #[.int .i64 kind, .int .u64 (n : Int), .slice a l c, .int .i64 most, .bool two] 34)) = wa at *
            have HDD : Hid (Reading w w.heap.size R ra BW v G b wa.drew (posOp ops j) 0) := HDA.out.kept ⟨rfl, rfl, rfl, Nat.le_refl _, fun _ _ => rfl⟩
            generalize wr.heap.size = ob at *
            have hcw : wa.cell? ⟨ob, 1, none⟩ = some (.int .u64 (n : Int)) := Hp1.out
            have HNE : Hid (some ob ≠ some R) := fun e => by cases e; omega
            have HC : Hid (Calls Try.prog 28 #[.pointer (some ⟨R, 0, none⟩)] wa.drew fun e' w' => e' = .returned (.int .u64 (n : Int)) ∧ Reads wa.drew R ra b.length b (posOp ops (j + 1)) 0 w') := by
              have h := rUint_any wa.drew R ra b.length b (posOp ops j) 0 HDD.out.reader
              rw [← HBQ.out, back_uint ops j HJ.out HKD.out HNN.out (.inl (kEq ‹(kind == 2) = true›)) hn _ (by omega)] at h
              rw [← HBQ.out]; exact h

            go_region_held (fun w' => w'.cell? ⟨ob, 1, none⟩ = some (.int .u64 (n : Int))) (first | exact ‹_› | go_keep)
              (first | (go_at_call 28; go_loud (refine HC.out.mono ?_; rintro e5 w5 ⟨rfl, hr5⟩; have hc5 : w5.cell? ⟨ob, 1, none⟩ = some (.int .u64 (n : Int)) := hr5.2.cell hcw HNE.out; have HD5 : Hid (Reading w w.heap.size R ra BW v G b w5 (posOp ops (j + 1)) 0) := HDD.out.grown hr5; clear hr5)))
            go_wp2_with fail
            refine (rErr_any _ R _ _ _ _ _ HD5.out.reader).mono ?_
            rintro e6 w6 ⟨rfl, rfl⟩
            go_wp2
            go_roundw
            case rel => exact ⟨j + 1, by omega, by go_num, HD5⟩
            case measure => simp [intOf]; omega
          · generalize (wr.alloc (.cells #[.int .i64 kind, .int .u64 (n : Int), .slice a l c, .int .i64 most, .bool two] 34)) = wa at *
            have HDD : Hid (Reading w w.heap.size R ra BW v G b wa.drew (posOp ops j) 0) := HDA.out.kept ⟨rfl, rfl, rfl, Nat.le_refl _, fun _ _ => rfl⟩
            generalize wr.heap.size = ob at *
            have hcw : wa.cell? ⟨ob, 1, none⟩ = some (.int .u64 (n : Int)) := Hp1.out
            have HNE : Hid (some ob ≠ some R) := fun e => by cases e; omega
            have HC : Hid (Calls Try.prog 29 #[.pointer (some ⟨R, 0, none⟩), .int .u64 (n : Int)] wa.drew fun e' w' => e' = .returned (.int .u64 (n : Int)) ∧ Reads wa.drew R ra b.length b (posOp ops (j + 1)) 0 w') := by
              have h := rUpto_any wa.drew R ra b.length b (posOp ops j) 0 n HDD.out.reader
              rw [← HBQ.out, back_uint ops j HJ.out HKD.out HNN.out (.inr (kEq ‹(kind == 6) = true›)) hn _ (Nat.le_refl _)] at h
              rw [← HBQ.out]; exact h

            go_region_held (fun w' => w'.cell? ⟨ob, 1, none⟩ = some (.int .u64 (n : Int))) (first | exact ‹_› | go_keep)
              (first | (go_at_call 29; go_loud (refine HC.out.mono ?_; rintro e5 w5 ⟨rfl, hr5⟩; have hc5 : w5.cell? ⟨ob, 1, none⟩ = some (.int .u64 (n : Int)) := hr5.2.cell hcw HNE.out; have HD5 : Hid (Reading w w.heap.size R ra BW v G b w5 (posOp ops (j + 1)) 0) := HDD.out.grown hr5; clear hr5)))
            go_wp2_with fail
            refine (rErr_any _ R _ _ _ _ _ HD5.out.reader).mono ?_
            rintro e6 w6 ⟨rfl, rfl⟩
            go_wp2
            go_roundw
            case rel => exact ⟨j + 1, by omega, by go_num, HD5⟩
            case measure => simp [intOf]; omega
          · generalize (wr.alloc (.cells #[.int .i64 kind, .int .u64 (n : Int), .slice a l c, .int .i64 most, .bool two] 34)) = wa at *
            have HDD : Hid (Reading w w.heap.size R ra BW v G b wa.drew (posOp ops j) 0) := HDA.out.kept ⟨rfl, rfl, rfl, Nat.le_refl _, fun _ _ => rfl⟩
            generalize wr.heap.size = ob at *
            have hcw : wa.cell? ⟨ob, 1, none⟩ = some (.int .u64 (n : Int)) := Hp1.out
            have HNE : Hid (some ob ≠ some R) := fun e => by cases e; omega
            have HC : Hid (Calls Try.prog 30 #[.pointer (some ⟨R, 0, none⟩)] wa.drew fun e' w' => e' = .returned (.int .i64 (wrap64 (n : Int))) ∧ Reads wa.drew R ra b.length b (posOp ops (j + 1)) 0 w') := by
              have h := rInt_any wa.drew R ra b.length b (posOp ops j) 0 HDD.out.reader
              rw [← HBQ.out, back_int ops j HJ.out HKD.out HNN.out (kEq ‹(kind == 3) = true›)] at h
              simp only at h
              rw [unfold_fold (sgn n) (sgn_range n).1 (sgn_range n).2] at h
              rw [← HBQ.out]; exact h

            go_region_held (fun w' => w'.cell? ⟨ob, 1, none⟩ = some (.int .u64 (n : Int))) (first | exact ‹_› | go_keep)
              (first | (go_at_call 30; go_loud (refine HC.out.mono ?_; rintro e5 w5 ⟨rfl, hr5⟩; have hc5 : w5.cell? ⟨ob, 1, none⟩ = some (.int .u64 (n : Int)) := hr5.2.cell hcw HNE.out; have HD5 : Hid (Reading w w.heap.size R ra BW v G b w5 (posOp ops (j + 1)) 0) := HDD.out.grown hr5; clear hr5)))
            go_wp2_with fail
            refine (rErr_any _ R _ _ _ _ _ HD5.out.reader).mono ?_
            rintro e6 w6 ⟨rfl, rfl⟩
            go_wp2
            go_roundw
            case rel => exact ⟨j + 1, by omega, by go_num, HD5⟩
            case measure => simp [intOf]; omega
          · generalize (wr.alloc (.cells #[.int .i64 kind, .int .u64 (n : Int), .slice a l c, .int .i64 most, .bool two] 34)) = wa at *
            have HDD : Hid (Reading w w.heap.size R ra BW v G b wa.drew (posOp ops j) 0) := HDA.out.kept ⟨rfl, rfl, rfl, Nat.le_refl _, fun _ _ => rfl⟩
            generalize wr.heap.size = ob at *
            have hcw : wa.cell? ⟨ob, 2, none⟩ = some (.slice a l c) := Hp2.out
            have HNE : Hid (some ob ≠ some R) := fun e => by cases e; omega
            have HC : Hid (Calls Try.prog 31 #[.pointer (some ⟨R, 0, none⟩), .int .i64 (l : Int)] wa.drew fun e' w' => ∃ v5, e' = .returned v5 ∧ OwnB w' wa.drew.heap.size v5 bs ∧ Reads wa.drew R ra b.length b (posOp ops (j + 1)) 0 w') := by
              have h := rBytes_any wa.drew R ra b.length b (posOp ops j) 0 (l : Int) HDD.out.reader (by omega) (by omega)
              rw [← HBQ.out, HLL.out, back_bytes ops j HJ.out HKD.out HBS.out (kEq ‹(kind == 4) = true›) (by rw [← HLL.out]; omega)] at h
              rw [← HBQ.out, HLL.out]; exact h

            go_region_held (fun w' => w'.cell? ⟨ob, 2, none⟩ = some (.slice a l c)) (first | exact ‹_› | go_keep)
              (first | (go_at_call 10; go_loud (refine (same_any _ _ _ _ _ _ _ bs bs rfl HLL.out HB5.out HA5.out (by rw [← HLL.out]; unfold maxLen; omega)).mono ?_; rintro e6 w6 ⟨rfl, q6, hq6⟩; have hc6 : w6.cell? ⟨ob, 2, none⟩ = some (.slice a l c) := (by rw [hq6]; exact hc5); have HD6 : Hid (Reading w w.heap.size R ra BW v G b w6 (posOp ops (j + 1)) 0) := (by rw [hq6]; exact HD5.out.kept ⟨rfl, rfl, rfl, Nat.le_refl _, fun _ _ => rfl⟩); clear hq6)) | (go_at_call 31; go_loud (refine HC.out.mono ?_; rintro e5 w5 ⟨v5, rfl, ho5, hr5⟩; have hc5 : w5.cell? ⟨ob, 2, none⟩ = some (.slice a l c) := hr5.2.cell hcw HNE.out; have HD5 : Hid (Reading w w.heap.size R ra BW v G b w5 (posOp ops (j + 1)) 0) := HDD.out.grown hr5; obtain ⟨a5, c5, hv5, hb5, _, _⟩ := ho5.slice; subst hv5; have HB5 : Hid (BytesAt w5 a5 bs) := hb5; have HA5 : Hid (BytesAt w5 a bs) := BytesAt.below (w := wa.drew) HBA.out (reads_below hr5 HDD.out.hB (Nat.le_trans HDD.out.hBB HDD.out.below.size)) HALT.out; clear ho5 hb5; clear hr5)))
            go_wp2_with fail
            refine (rErr_any _ R _ _ _ _ _ HD6.out.reader).mono ?_
            rintro e6 w6 ⟨rfl, rfl⟩
            go_wp2
            go_roundw
            case rel => exact ⟨j + 1, by omega, by go_num, HD6⟩
            case measure => simp [intOf]; omega
          · generalize (wr.alloc (.cells #[.int .i64 kind, .int .u64 (n : Int), .slice a l c, .int .i64 most, .bool two] 34)) = wa at *
            have HDD : Hid (Reading w w.heap.size R ra BW v G b wa.drew (posOp ops j) 0) := HDA.out.kept ⟨rfl, rfl, rfl, Nat.le_refl _, fun _ _ => rfl⟩
            generalize wr.heap.size = ob at *
            have hcw : wa.cell? ⟨ob, 2, none⟩ = some (.slice a l c) := Hp2.out
            have HNE : Hid (some ob ≠ some R) := fun e => by cases e; omega
            have HC : Hid (Calls Try.prog 24 #[.pointer (some ⟨R, 0, none⟩), .int .i64 (l : Int)] wa.drew fun e' w' => ∃ v5, e' = .returned v5 ∧ OwnB w' wa.drew.heap.size v5 bs ∧ Reads wa.drew R ra b.length b (posOp ops (j + 1)) 0 w') := by
              have h := rRaw_any wa.drew R ra b.length b (posOp ops j) 0 (l : Int) HDD.out.reader
              rw [← HBQ.out, HLL.out, back_raw ops j HJ.out HKD.out HBS.out (kEq ‹(kind == 5) = true›)] at h
              rw [← HBQ.out, HLL.out]; exact h

            go_region_held (fun w' => w'.cell? ⟨ob, 2, none⟩ = some (.slice a l c)) (first | exact ‹_› | go_keep)
              (first | (go_at_call 10; go_loud (refine (same_any _ _ _ _ _ _ _ bs bs rfl HLL.out HB5.out HA5.out (by rw [← HLL.out]; unfold maxLen; omega)).mono ?_; rintro e6 w6 ⟨rfl, q6, hq6⟩; have hc6 : w6.cell? ⟨ob, 2, none⟩ = some (.slice a l c) := (by rw [hq6]; exact hc5); have HD6 : Hid (Reading w w.heap.size R ra BW v G b w6 (posOp ops (j + 1)) 0) := (by rw [hq6]; exact HD5.out.kept ⟨rfl, rfl, rfl, Nat.le_refl _, fun _ _ => rfl⟩); clear hq6)) | (go_at_call 24; go_loud (refine HC.out.mono ?_; rintro e5 w5 ⟨v5, rfl, ho5, hr5⟩; have hc5 : w5.cell? ⟨ob, 2, none⟩ = some (.slice a l c) := hr5.2.cell hcw HNE.out; have HD5 : Hid (Reading w w.heap.size R ra BW v G b w5 (posOp ops (j + 1)) 0) := HDD.out.grown hr5; obtain ⟨a5, c5, hv5, hb5, _, _⟩ := ho5.slice; subst hv5; have HB5 : Hid (BytesAt w5 a5 bs) := hb5; have HA5 : Hid (BytesAt w5 a bs) := BytesAt.below (w := wa.drew) HBA.out (reads_below hr5 HDD.out.hB (Nat.le_trans HDD.out.hBB HDD.out.below.size)) HALT.out; clear ho5 hb5; clear hr5)))
            go_wp2_with fail
            refine (rErr_any _ R _ _ _ _ _ HD6.out.reader).mono ?_
            rintro e6 w6 ⟨rfl, rfl⟩
            go_wp2
            go_roundw
            case rel => exact ⟨j + 1, by omega, by go_num, HD6⟩
            case measure => simp [intOf]; omega
          · have HPN : Hid (posOp ops (j + 1) = posOp ops j) := back_none ops j HJ.out HKD.out (kNe ‹(kind == 1) = false›) (kNe ‹(kind == 2) = false›) (kNe ‹(kind == 6) = false›) (kNe ‹(kind == 3) = false›) (kNe ‹(kind == 4) = false›) (kNe ‹(kind == 5) = false›)
            refine (rErr_any _ R _ _ _ _ _ HDA.out.reader).mono ?_
            rintro e6 w6 ⟨rfl, rfl⟩
            go_wp2
            go_roundw
            case rel => exact ⟨j + 1, by omega, by go_num, by rw [HPN.out]; exact HDA⟩
            case measure => simp [intOf]; omega
        · obtain rfl : j = k := by omega
          have HPA : Hid (posOp ops j = b.length) := by rw [Hid, HSN.out, posOp_all, HBQ.out]
          have HD1 : Hid (Reading w w.heap.size R ra BW v G b wr b.length 0) := by rw [← HPA.out]; exact HD
          have HRE : Hid (rdEnd b b.length 0 = 0) := by unfold rdEnd; rw [Hid, if_neg (by omega)]
          clear HD
          go_wp2_with fail
          refine (rEnd_any wr R _ _ _ _ _ HD1.out.reader).mono ?_
          rintro e5 w5 ⟨rfl, q5, hq5⟩
          rw [HRE.out]
          have HD5 : Hid (Reading w w.heap.size R ra BW v G b w5 b.length 0) := by rw [hq5]; exact HD1.out.kept ⟨rfl, rfl, rfl, Nat.le_refl _, fun _ _ => rfl⟩
          clear hq5 HD1
          go_wp2_with fail
          refine (rAt_any w5 R _ _ _ _ _ HD5.out.reader).mono ?_
          rintro e5 w5 ⟨rfl, rfl⟩
          go_wp2_with fail
          refine (left_any w5 R _ _ _ _ _ HD5.out.reader).mono ?_
          rintro e6 w6 ⟨rfl, q6, hq6⟩
          have HD6 : Hid (Reading w w.heap.size R ra BW v G b w6 b.length 0) := by rw [hq6]; exact HD5.out.kept ⟨rfl, rfl, rfl, Nat.le_refl _, fun _ _ => rfl⟩
          clear hq6 HD5
          go_wp2_with fail
          refine (wLen_any w6 BW BW v b HD6.out.writer).mono ?_
          rintro e6 w6 ⟨rfl, rfl⟩
          by_cases hb0 : b.length = 0
          · have hb0' : ((b.length : Int) == 0) = true := by rw [beq_iff_eq]; omega
            have HBF : Hid (Below w.heap.size w w6) := HD6.out.below
            clear hb0
            go_wp2
            go_ret
            exact ⟨rfl, HBF.out⟩
          · have hb0' : ((b.length : Int) == 0) = false := by rw [beq_eq_false_iff_ne]; omega
            obtain ⟨m, hmb⟩ : ∃ m, b.length = m + 1 := ⟨b.length - 1, by omega⟩
            have HMB : Hid (b.length = m + 1) := hmb
            have HTL : Hid ((b.take m).length = m) := by rw [Hid, List.length_take]; omega
            have HGT : Hid (BytesAt w6 (some ⟨G, 0, none⟩) (b.take m)) := by
              have h := HD6.out.out
              rw [← List.take_append_drop m b] at h
              obtain ⟨hz, h0 | ⟨g, off, e, hc⟩⟩ := h
              · have := congrArg List.length h0; rw [List.take_append_drop] at this; simp at this; exact absurd (by rw [this]; rfl) hb0
              · refine ⟨fun z hz' => hz z (List.mem_append_left _ hz'), .inr ⟨g, off, e, fun i hi => ?_⟩⟩
                rw [hc i (by rw [List.length_append]; omega), getD_left _ _ _ hi]
            have HZT : Hid (∀ z ∈ b.take m, z < 256) := fun z hz => HZb.out z (List.mem_of_mem_take hz)
            have HBT : Hid (encs ops = b.take m ++ b.drop m) := by rw [Hid, List.take_append_drop]; exact HBQ.out
            have HBF : Hid (Below w.heap.size w w6) := HD6.out.below
            have hml : m ≤ 11534336 := by omega
            rw [hmb] at hb0'
            generalize b.length = bl at *
            subst hmb
            clear hb0 HD6 hb0'
            go_wp2_with fail
            refine (read_any w6 _ _ m (b.take m) HTL.out.symm HGT.out (by omega)).mono ?_
            rintro e7 w7 ⟨rfl, hr7, hb7, hs7⟩
            have HB7 : Hid (Below w.heap.size w w7) := HBF.out.trans (hb7.mono HBF.out.size)
            have HR7 : Hid (IsReader w7 (w6.heap.size + 1) (some ⟨w6.heap.size, 0, none⟩) m (b.take m) 0 0) := hr7
            have hR7 : w.heap.size ≤ w6.heap.size + 1 := by have := HBF.out.size; omega
            generalize w6.heap.size + 1 = R2 at *
            generalize (some (⟨w6.heap.size, 0, none⟩ : Addr)) = ra2 at *
            clear hr7 hb7 hs7 HGT HBF
            go_wp2
            go_loopw [11] (fun x wr => ∃ (i p : Nat) (e : Int), i ≤ j ∧ x = .int .i64 (i : Int) ∧ Hid (IsReader wr R2 ra2 m (b.take m) p e) ∧ Hid (Below w.heap.size w wr) ∧ Hid (e = 0 → p = posOp ops i)) (fun x _ => j - (intOf x).toNat)
            case atStart => exact ⟨0, 0, 0, Nat.zero_le _, rfl, HR7, HB7, fun _ => rfl⟩
            case round =>
              obtain ⟨i, p, e, hi, rfl, HR, HB, HE⟩ := hrel
              by_cases hlt : i < j
              · have HJ : Hid (i < ops.length) := by rw [Hid, ← HSN.out]; exact hlt
                obtain ⟨sb, soff, a, c, hso, o0, o1, o2, o3, o4, _, _, _, hn⟩ := op_kept HS0.out HJ.out HB.out
                subst hso
                have HL2 := HOL.out i HJ.out
                obtain ⟨kind, hkd⟩ : ∃ x, (ops.getD i default).kind = x := ⟨_, rfl⟩
                obtain ⟨n, hnn⟩ : ∃ x, (ops.getD i default).n = x := ⟨_, rfl⟩
                obtain ⟨bs, hbs⟩ : ∃ x, (ops.getD i default).bs = x := ⟨_, rfl⟩
                obtain ⟨l, hll⟩ : ∃ x, bs.length = x := ⟨_, rfl⟩
                rw [hkd] at o0
                rw [hnn] at o1 hn
                rw [hbs] at o2 HL2
                rw [hll] at o2 HL2
                have HKD : Hid ((ops.getD i default).kind = kind) := hkd
                have HNN : Hid ((ops.getD i default).n = n) := hnn
                have HBS : Hid ((ops.getD i default).bs = bs) := hbs
                have HLL : Hid (l = bs.length) := hll.symm
                clear hkd hnn hbs hll
                generalize (ops.getD i default).most = most at *
                generalize (ops.getD i default).two = two at *
                have HAL : Hid (Below wr.heap.size wr (wr.alloc (.cells #[.int .i64 kind, .int .u64 (n : Int), .slice a l c, .int .i64 most, .bool two] 34))) := (Below.refl _ _).alloc (Nat.le_refl _) _
                have HRA : Hid (IsReader (wr.alloc (.cells #[.int .i64 kind, .int .u64 (n : Int), .slice a l c, .int .i64 most, .bool two] 34)) R2 ra2 m (b.take m) p e) := HR.out.kept HAL.out
                have HBA : Hid (Below w.heap.size w (wr.alloc (.cells #[.int .i64 kind, .int .u64 (n : Int), .slice a l c, .int .i64 most, .bool two] 34))) := HB.out.trans (HAL.out.mono HB.out.size)
                have HPL : Hid (p ≤ (b.take m).length) := HR.out.2.2.1
                clear HAL HR HB
                go_wp2_with fail
                · refine (rByte_any _ R2 _ _ _ _ _ HRA.out).mono ?_
                  rintro e5 w5 ⟨rfl, hr5⟩
                  have HR5 : Hid (IsReader w5 R2 ra2 m (b.take m) (rdByte (b.take m) p e).2.1 (rdByte (b.take m) p e).2.2) := hr5.1
                  have HB5 : Hid (Below w.heap.size w w5) := HBA.out.trans (reads_below hr5 hR7 (HBA.out.size))
                  have HE5 : Hid ((rdByte (b.take m) p e).2.2 = 0 → (rdByte (b.take m) p e).2.1 = posOp ops (i + 1)) := part_byte ops i HJ.out HKD.out HNN.out HBT.out HPL.out HE.out (kEq ‹(kind == 1) = true›)
                  clear hr5
                  go_wp2
                  go_roundw
                  case rel => exact ⟨i + 1, _, _, by omega, by go_num, HR5, HB5, HE5⟩
                  case measure => simp [intOf]; omega
                · refine (rUint_any _ R2 _ _ _ _ _ HRA.out).mono ?_
                  rintro e5 w5 ⟨rfl, hr5⟩
                  have HR5 : Hid (IsReader w5 R2 ra2 m (b.take m) (rdUpto (b.take m) p e 18446744073709551615).2.1 (rdUpto (b.take m) p e 18446744073709551615).2.2) := hr5.1
                  have HB5 : Hid (Below w.heap.size w w5) := HBA.out.trans (reads_below hr5 hR7 (HBA.out.size))
                  have HE5 : Hid ((rdUpto (b.take m) p e 18446744073709551615).2.2 = 0 → (rdUpto (b.take m) p e 18446744073709551615).2.1 = posOp ops (i + 1)) := part_uint ops i HJ.out HKD.out HNN.out HBT.out HPL.out HE.out (.inl (kEq ‹(kind == 2) = true›)) hn
                  clear hr5
                  go_wp2
                  go_roundw
                  case rel => exact ⟨i + 1, _, _, by omega, by go_num, HR5, HB5, HE5⟩
                  case measure => simp [intOf]; omega
                · refine (rUint_any _ R2 _ _ _ _ _ HRA.out).mono ?_
                  rintro e5 w5 ⟨rfl, hr5⟩
                  have HR5 : Hid (IsReader w5 R2 ra2 m (b.take m) (rdUpto (b.take m) p e 18446744073709551615).2.1 (rdUpto (b.take m) p e 18446744073709551615).2.2) := hr5.1
                  have HB5 : Hid (Below w.heap.size w w5) := HBA.out.trans (reads_below hr5 hR7 (HBA.out.size))
                  have HE5 : Hid ((rdUpto (b.take m) p e 18446744073709551615).2.2 = 0 → (rdUpto (b.take m) p e 18446744073709551615).2.1 = posOp ops (i + 1)) := part_uint ops i HJ.out HKD.out HNN.out HBT.out HPL.out HE.out (.inr (kEq ‹(kind == 6) = true›)) hn
                  clear hr5
                  go_wp2
                  go_roundw
                  case rel => exact ⟨i + 1, _, _, by omega, by go_num, HR5, HB5, HE5⟩
                  case measure => simp [intOf]; omega
                · refine (rInt_any _ R2 _ _ _ _ _ HRA.out).mono ?_
                  rintro e5 w5 ⟨rfl, hr5⟩
                  have HR5 : Hid (IsReader w5 R2 ra2 m (b.take m) (rdUpto (b.take m) p e 18446744073709551615).2.1 (rdUpto (b.take m) p e 18446744073709551615).2.2) := hr5.1
                  have HB5 : Hid (Below w.heap.size w w5) := HBA.out.trans (reads_below hr5 hR7 (HBA.out.size))
                  have HE5 : Hid ((rdUpto (b.take m) p e 18446744073709551615).2.2 = 0 → (rdUpto (b.take m) p e 18446744073709551615).2.1 = posOp ops (i + 1)) := part_int ops i HJ.out HKD.out HNN.out HBT.out HPL.out HE.out (kEq ‹(kind == 3) = true›)
                  clear hr5
                  go_wp2
                  go_roundw
                  case rel => exact ⟨i + 1, _, _, by omega, by go_num, HR5, HB5, HE5⟩
                  case measure => simp [intOf]; omega
                · refine (rBytes_any _ R2 _ _ _ _ _ (l : Int) HRA.out (by omega) (by omega)).mono ?_
                  rintro e5 w5 ⟨v5, rfl, _, hr5⟩
                  have HR5 : Hid (IsReader w5 R2 ra2 m (b.take m) (rdBytes (b.take m) p e (l : Int)).2.1 (rdBytes (b.take m) p e (l : Int)).2.2) := hr5.1
                  have HB5 : Hid (Below w.heap.size w w5) := HBA.out.trans (reads_below hr5 hR7 (HBA.out.size))
                  have HE5 : Hid ((rdBytes (b.take m) p e (l : Int)).2.2 = 0 → (rdBytes (b.take m) p e (l : Int)).2.1 = posOp ops (i + 1)) := by rw [HLL.out]; exact part_bytes ops i HJ.out HKD.out HBS.out HBT.out HPL.out HE.out HZT.out (kEq ‹(kind == 4) = true›) (by rw [← HLL.out]; omega)
                  clear hr5
                  go_wp2
                  go_roundw
                  case rel => exact ⟨i + 1, _, _, by omega, by go_num, HR5, HB5, HE5⟩
                  case measure => simp [intOf]; omega
                · refine (rRaw_any _ R2 _ _ _ _ _ (l : Int) HRA.out).mono ?_
                  rintro e5 w5 ⟨v5, rfl, _, hr5⟩
                  have HR5 : Hid (IsReader w5 R2 ra2 m (b.take m) (rdRaw (b.take m) p e (l : Int)).2.1 (rdRaw (b.take m) p e (l : Int)).2.2) := hr5.1
                  have HB5 : Hid (Below w.heap.size w w5) := HBA.out.trans (reads_below hr5 hR7 (HBA.out.size))
                  have HE5 : Hid ((rdRaw (b.take m) p e (l : Int)).2.2 = 0 → (rdRaw (b.take m) p e (l : Int)).2.1 = posOp ops (i + 1)) := by rw [HLL.out]; exact part_raw ops i HJ.out HKD.out HBS.out HBT.out HPL.out HE.out (kEq ‹(kind == 5) = true›)
                  clear hr5
                  go_wp2
                  go_roundw
                  case rel => exact ⟨i + 1, _, _, by omega, by go_num, HR5, HB5, HE5⟩
                  case measure => simp [intOf]; omega
                · have HPN : Hid (posOp ops (i + 1) = posOp ops i) := back_none ops i HJ.out HKD.out (kNe ‹(kind == 1) = false›) (kNe ‹(kind == 2) = false›) (kNe ‹(kind == 6) = false›) (kNe ‹(kind == 3) = false›) (kNe ‹(kind == 4) = false›) (kNe ‹(kind == 5) = false›)
                  go_wp2
                  go_roundw
                  case rel => exact ⟨i + 1, _, _, by omega, by go_num, HRA, HBA, by rw [HPN.out]; exact HE⟩
                  case measure => simp [intOf]; omega
              · obtain rfl : i = j := by omega
                have HNE : Hid (rdEnd (b.take m) p e = e ∧ e ≠ 0) := by
                  have h1 : e ≠ 0 := by
                    intro e0
                    have h2 := HE.out e0
                    have h3 := HR.out.2.2.1
                    rw [HPA.out] at h2
                    have h4 := HTL.out
                    omega
                  exact ⟨by unfold rdEnd; rw [if_neg (fun h => h1 h.1)], h1⟩
                go_wp2_with fail
                refine (rEnd_any wr R2 _ _ _ _ _ HR.out).mono ?_
                rintro e5 w5 ⟨rfl, q5, hq5⟩
                rw [HNE.out.1]
                have hne : (e != 0) = true := by rw [bne_iff_ne]; exact HNE.out.2
                have HB5 : Hid (Below w.heap.size w w5) := by rw [hq5]; exact below_of_drewN HB.out q5
                clear hq5
                go_wp2
                go_ret
                exact ⟨rfl, HB5.out⟩

end Go.Proofs.Ythdlilekilkogaa
