/-
  THE WALK OF preludelaw01.written.
-/
import Derived.Test.YthdlilekilkogaaBackMath
import Derived.Test.YthdlilekilkogaaRoomy
import Derived.Test.YthdlilekilkogaaIntact
namespace Go.Proofs.Ythdlilekilkogaa
open Go.RowKit

theorem Wrote.new {w w1 : World} {r : Nat} {v v1 : Value} (h : Wrote w w1 r v v1) (x : Addr) (val : Value) (hx : w.heap.size ≤ x.block) : Wrote w (w1.setCell x val) r v v1 :=
  ⟨h.os, h.tape, h.output, by simpa using h.size, fun k hk hr hv => (heap_setCell_other w1 x k _ (by omega)).trans (h.block k hk hr hv), h.lies⟩
theorem Wrote.drewN {w w1 : World} {r : Nat} {v v1 : Value} (h : Wrote w w1 r v v1) (q : Nat) : Wrote w (w1.drewN q) r v v1 := ⟨h.os, h.tape, h.output, h.size, h.block, h.lies⟩
theorem Wrote.ofBelow {w w1 : World} {r : Nat} {v : Value} (h : Below w.heap.size w w1) : Wrote w w1 r v v := ⟨h.os, h.tape, h.output, h.size, fun k hk _ _ => h.block k hk, fun _ h => .inl h⟩
theorem IsWriter.setOther {w : World} {base r : Nat} {v : Value} {L : List Nat} (h : IsWriter w base r v L) (x : Addr) (val : Value) (h1 : x.block ≠ r) (h2 : v.ownBlock ≠ some x.block) : IsWriter (w.setCell x val) base r v L :=
  ⟨by rw [heap_setCell_other w x r val (fun e => h1 e.symm)]; exact h.1, ⟨h.2.1.1, ownsRow_setCell_other h.2.1.2 h2 _⟩, h.2.2⟩

/-- the state behind the switch -/
structure Told (w : World) (base r B1 : Nat) (v : Value) (a : Option Addr) (c : Nat) (o : OpV) (L : List Nat) (w2 : World) (v2 : Value) : Prop where
  writer : IsWriter w2 base r v2 (L ++ encOp o)
  wrote : Wrote w w2 r v v2
  row : RowAt w2 B1 (o.bs ++ [171, 171, 171])
  src : BytesAt w2 a o.bs
  cell : w2.cell? ⟨w.heap.size, 2, none⟩ = some (.slice a o.bs.length c)
  hr : r < w.heap.size
  hne : v2.ownBlock ≠ some B1
  hB1 : w.heap.size ≤ B1

set_option maxHeartbeats 1000000 in
theorem written_any (w : World) (base r : Nat) (v : Value) (L : List Nat) (o : OpV) (a : Option Addr) (c : Nat) (h : IsWriter w base r v L) (hb : BytesAt w a o.bs) (_hnil : a = none → c = 0) (hn : o.n < 18446744073709551616)
    (hl : L.length + o.bs.length + 11 ≤ 140737488355328) (hap : ∀ ad, o.bs ≠ [] → a = some ad → ad.block ≠ r ∧ v.ownBlock ≠ some ad.block) :
    Calls Try.prog 7 #[.pointer (some ⟨r, 0, none⟩), .agg #[.int .i64 o.kind, .int .u64 (o.n : Int), .slice a o.bs.length c, .int .i64 o.most, .bool o.two]] w fun e w' =>
      e = .returned (.bool true) ∧ ∃ v', IsWriter w' base r v' (L ++ encOp o) ∧ Wrote w w' r v v' := by
  have HW : Hid (IsWriter w base r v L) := h
  have HS : Hid (BytesAt w a o.bs) := hb
  have HAP : Hid (∀ ad, o.bs ≠ [] → a = some ad → ad.block ≠ r ∧ v.ownBlock ≠ some ad.block) := hap
  have hrl := h.lt
  clear h hb hap
  obtain ⟨bs, hbs⟩ : ∃ bs, o.bs = bs := ⟨_, rfl⟩
  obtain ⟨l, hll⟩ : ∃ l, bs.length = l := ⟨_, rfl⟩
  have HLL : Hid (l = bs.length) := hll.symm
  rw [hbs] at hl
  rw [hbs, hll]
  rw [hll] at hl
  have HBS : Hid (o.bs = bs) := hbs
  clear hbs hll
  go_enter Try.func7, Try.ntmps7
  go_wp2_with fail
  have HBA : Hid (Below w.heap.size w (w.alloc (.cells #[.int .i64 o.kind, .int .u64 (o.n : Int), .slice a l c, .int .i64 o.most, .bool o.two] 34))) := (Below.refl _ _).alloc (Nat.le_refl _) _
  have HCA : Hid ((w.alloc (.cells #[.int .i64 o.kind, .int .u64 (o.n : Int), .slice a l c, .int .i64 o.most, .bool o.two] 34)).heap[w.heap.size]? = some (.cells #[.int .i64 o.kind, .int .u64 (o.n : Int), .slice a l c, .int .i64 o.most, .bool o.two] 34 (0, 0))) := by
    show (w.heap.push _)[w.heap.size]? = _
    simp
  have HSA : Hid ((w.alloc (.cells #[.int .i64 o.kind, .int .u64 (o.n : Int), .slice a l c, .int .i64 o.most, .bool o.two] 34)).heap.size = w.heap.size + 1) := by rw [Hid]; simp
  generalize (w.alloc (.cells #[.int .i64 o.kind, .int .u64 (o.n : Int), .slice a l c, .int .i64 o.most, .bool o.two] 34)) = wA at *
  refine (roomy_any wA a c l bs HLL.out (by rw [← HBS.out]; exact HS.out.kept HBA.out) (by omega)).mono ?_
  rintro e1 w1 ⟨rfl, hrow, hb1, hs1⟩
  have HS1 : Hid (w1.heap.size = w.heap.size + 2) := by rw [Hid, hs1, HSA.out]
  have HB1 : Hid (Below w.heap.size w w1) := HBA.out.trans (hb1.mono (by rw [HSA.out]; omega))
  have HROW : Hid (RowAt w1 (w.heap.size + 1) (bs ++ [171, 171, 171])) := by rw [← HSA.out]; exact hrow
  have hblk : w1.heap[w.heap.size]? = some (.cells #[.int .i64 o.kind, .int .u64 (o.n : Int), .slice a l c, .int .i64 o.most, .bool o.two] 34 (0, 0)) := by
    rw [hb1.block w.heap.size (by rw [HSA.out]; omega)]; exact HCA.out
  have hz0 : w1.cell? ⟨w.heap.size, 0, none⟩ = some (.int .i64 o.kind) := by simp [World.cell?, hblk]
  have hz1 : w1.cell? ⟨w.heap.size, 1, none⟩ = some (.int .u64 (o.n : Int)) := by simp [World.cell?, hblk]
  have hz2 : w1.cell? ⟨w.heap.size, 2, none⟩ = some (.slice a l c) := by simp [World.cell?, hblk]
  have HZ2 : Hid (w1.heap[w.heap.size]? = some (.cells #[.int .i64 o.kind, .int .u64 (o.n : Int), .slice a l c, .int .i64 o.most, .bool o.two] 34 (0, 0))) := hblk
  have HSZ : Hid (wA.heap.size = w.heap.size + 1) := HSA.out
  rw [HSA.out]
  clear hrow hb1 hs1 HBA HCA HSA hblk
  have HW1 : Hid (IsWriter w1 base r v L) := HW.out.kept HB1.out
  have HS1B : Hid (BytesAt w1 (some ⟨w.heap.size + 1, 0, none⟩) bs) := RowAt.bytes0 HROW.out (by rw [← HBS.out]; exact HS.out.1)
  have HAPB : Hid (∀ ad, bs ≠ [] → some (⟨w.heap.size + 1, 0, none⟩ : Addr) = some ad → ad.block ≠ r ∧ v.ownBlock ≠ some ad.block) := by
    intro ad _ e
    cases e
    refine ⟨by simp; omega, fun e => ?_⟩
    have h1 : w.heap.size + 1 < w.heap.size := (HW.out.2.1.2.lt _ e).2
    omega
  /- whatever was written: the state behind it -/
  have HTOLD : Hid (∀ w2 v2, IsWriter w2 base r v2 (L ++ encOp o) → Wrote w1 w2 r v v2 → Told w base r (w.heap.size + 1) v a c o L w2 v2) := by
    intro w2 v2 hw hf
    have hne : v.ownBlock ≠ some (w.heap.size + 1) := fun e => by have := (HW.out.2.1.2.lt _ e).2; omega
    have hne0 : v.ownBlock ≠ some w.heap.size := fun e => by have := (HW.out.2.1.2.lt _ e).2; omega
    have hblk1 : w2.heap[w.heap.size + 1]? = w1.heap[w.heap.size + 1]? := hf.block _ (by rw [HS1.out]; omega) (by omega) hne
    have hblk0 : w2.heap[w.heap.size]? = w1.heap[w.heap.size]? := hf.block _ (by rw [HS1.out]; omega) (by omega) hne0
    refine ⟨hw, (Wrote.ofBelow HB1.out).trans hf, ?_, hf.bytes (HS.out.kept HB1.out) HAP.out, ?_, hrl, fun e => ?_, by omega⟩
    · unfold RowAt; rw [hblk1, HBS.out]; exact HROW.out
    · simp [World.cell?, hblk0, HZ2.out, HBS.out, ← HLL.out]
    · rcases hf.lies _ e with h1 | h1
      · exact hne h1
      · have := HS1.out; omega
  clear HS HW HB1 HAP
  have HENC : Hid (encOp o = if o.kind = 1 then [o.n % 256] else if o.kind = 2 ∨ o.kind = 6 then uint 10 o.n else if o.kind = 3 then uint 10 (fold (sgn o.n)) else if o.kind = 4 then uint 10 bs.length ++ bs else if o.kind = 5 then bs else []) := by
    rw [Hid, ← HBS.out]; rfl
  generalize hkk : o.kind = kind at *
  have HKK : Hid (o.kind = kind) := hkk
  clear hkk
  generalize hnn : o.n = n at *
  have HNN : Hid (o.n = n) := hnn
  clear hnn
  go_wp2_with fail
  · have HE : Hid (encOp o = [n % 256]) := by
      rw [Hid, HENC.out, if_pos (kEq ‹(kind == 1) = true›)]
    rw [show ((n : Int) % 256) = ((n % 256 : Nat) : Int) by omega]
    refine (wByte_any w1 base r (n % 256) v L HW1.out (by omega) (by omega)).mono ?_
    rintro e2 w2 ⟨rfl, v2, hw2, hf2⟩
    have HT := HTOLD.out w2 v2 (by rw [HE.out]; exact hw2) hf2
    have HTT : Hid (Told w base r (w.heap.size + 1) v a c o L w2 v2) := HT
    have hc2 : w2.cell? ⟨w.heap.size, 2, none⟩ = some (.slice a l c) := by rw [HLL.out, ← HBS.out]; exact HT.cell
    clear HT hw2 hf2 hz0 hz1 hz2
    go_wp2_with fail
    refine (intact_any w2 (w.heap.size + 1) a (l + 3) c l bs HLL.out (by rw [← HBS.out]; exact HTT.out.src) (by rw [← HLL.out]; unfold maxLen; omega) (fun j hj => by have := HTT.out.row.cell j (by rw [HBS.out]; simp; omega); rw [HBS.out] at this; exact this) (by rw [← HLL.out]; omega)).mono ?_
    rintro e3 w3 ⟨rfl, q, hq⟩
    have HW3 : Hid (IsWriter w3 base r v2 (L ++ encOp o)) := by rw [hq]; exact HTT.out.writer
    have HF3 : Hid (Wrote w w3 r v v2) := by rw [hq]; exact HTT.out.wrote.drewN q
    have HR3 : Hid (RowAt w3 (w.heap.size + 1) (bs ++ [171, 171, 171])) := by rw [hq, ← HBS.out]; exact HTT.out.row
    have HNE : Hid (v2.ownBlock ≠ some (w.heap.size + 1)) := HTT.out.hne
    clear hq HTT hc2 HTOLD
    go_wp2
    go_loopw [8] (fun x wr => ∃ (k : Nat) (M : List Nat), k ≤ l + 3 ∧ x = .int .i64 (k : Int) ∧ Hid (M.length = l + 3) ∧ Hid (RowAt wr (w.heap.size + 1) M) ∧ Hid (IsWriter wr base r v2 (L ++ encOp o)) ∧ Hid (Wrote w wr r v v2)) (fun x _ => l + 3 - (intOf x).toNat)
    case atStart => exact ⟨0, bs ++ [171, 171, 171], Nat.zero_le _, rfl, by rw [Hid, List.length_append, ← HLL.out]; rfl, HR3, HW3, HF3⟩
    case round =>
      obtain ⟨k, M, hk, rfl, HML, HRM, HWM, HFM⟩ := hrel
      by_cases hlt : k < l + 3
      · have hcm := HRM.out.cell k (by rw [HML.out]; exact hlt)
        have hfm := HRM.out.frozen k
        have HRM' : Hid (RowAt (wr.setCell ⟨w.heap.size + 1, k, none⟩ (.int .u8 5)) (w.heap.size + 1) (M.set k 5)) := HRM.out.set k 5
        have HWM' : Hid (IsWriter (wr.setCell ⟨w.heap.size + 1, k, none⟩ (.int .u8 5)) base r v2 (L ++ encOp o)) := HWM.out.setOther _ _ (by show w.heap.size + 1 ≠ r; omega) HNE.out
        have HFM' : Hid (Wrote w (wr.setCell ⟨w.heap.size + 1, k, none⟩ (.int .u8 5)) r v v2) := HFM.out.new _ _ (by show w.heap.size ≤ w.heap.size + 1; omega)
        go_wp2
        go_roundw
        case rel => exact ⟨k + 1, M.set k 5, by omega, by go_num, by rw [Hid, List.length_set]; exact HML.out, HRM', HWM', HFM'⟩
        case measure => simp [intOf]; omega
      · go_wp2
        go_ret
        exact ⟨rfl, v2, HWM.out, HFM.out⟩
  · have HE : Hid (encOp o = uint 10 n) := by
      rw [Hid, HENC.out, if_neg (kNe ‹(kind == 1) = false›), if_pos (.inl (kEq ‹(kind == 2) = true›))]
    refine (wUint_any w1 base r n v L HW1.out hn (by omega)).mono ?_
    rintro e2 w2 ⟨rfl, v2, hw2, hf2⟩
    have HT := HTOLD.out w2 v2 (by rw [HE.out]; exact hw2) hf2
    have HTT : Hid (Told w base r (w.heap.size + 1) v a c o L w2 v2) := HT
    have hc2 : w2.cell? ⟨w.heap.size, 2, none⟩ = some (.slice a l c) := by rw [HLL.out, ← HBS.out]; exact HT.cell
    clear HT hw2 hf2 hz0 hz1 hz2
    go_wp2_with fail
    refine (intact_any w2 (w.heap.size + 1) a (l + 3) c l bs HLL.out (by rw [← HBS.out]; exact HTT.out.src) (by rw [← HLL.out]; unfold maxLen; omega) (fun j hj => by have := HTT.out.row.cell j (by rw [HBS.out]; simp; omega); rw [HBS.out] at this; exact this) (by rw [← HLL.out]; omega)).mono ?_
    rintro e3 w3 ⟨rfl, q, hq⟩
    have HW3 : Hid (IsWriter w3 base r v2 (L ++ encOp o)) := by rw [hq]; exact HTT.out.writer
    have HF3 : Hid (Wrote w w3 r v v2) := by rw [hq]; exact HTT.out.wrote.drewN q
    have HR3 : Hid (RowAt w3 (w.heap.size + 1) (bs ++ [171, 171, 171])) := by rw [hq, ← HBS.out]; exact HTT.out.row
    have HNE : Hid (v2.ownBlock ≠ some (w.heap.size + 1)) := HTT.out.hne
    clear hq HTT hc2 HTOLD
    go_wp2
    go_loopw [8] (fun x wr => ∃ (k : Nat) (M : List Nat), k ≤ l + 3 ∧ x = .int .i64 (k : Int) ∧ Hid (M.length = l + 3) ∧ Hid (RowAt wr (w.heap.size + 1) M) ∧ Hid (IsWriter wr base r v2 (L ++ encOp o)) ∧ Hid (Wrote w wr r v v2)) (fun x _ => l + 3 - (intOf x).toNat)
    case atStart => exact ⟨0, bs ++ [171, 171, 171], Nat.zero_le _, rfl, by rw [Hid, List.length_append, ← HLL.out]; rfl, HR3, HW3, HF3⟩
    case round =>
      obtain ⟨k, M, hk, rfl, HML, HRM, HWM, HFM⟩ := hrel
      by_cases hlt : k < l + 3
      · have hcm := HRM.out.cell k (by rw [HML.out]; exact hlt)
        have hfm := HRM.out.frozen k
        have HRM' : Hid (RowAt (wr.setCell ⟨w.heap.size + 1, k, none⟩ (.int .u8 5)) (w.heap.size + 1) (M.set k 5)) := HRM.out.set k 5
        have HWM' : Hid (IsWriter (wr.setCell ⟨w.heap.size + 1, k, none⟩ (.int .u8 5)) base r v2 (L ++ encOp o)) := HWM.out.setOther _ _ (by show w.heap.size + 1 ≠ r; omega) HNE.out
        have HFM' : Hid (Wrote w (wr.setCell ⟨w.heap.size + 1, k, none⟩ (.int .u8 5)) r v v2) := HFM.out.new _ _ (by show w.heap.size ≤ w.heap.size + 1; omega)
        go_wp2
        go_roundw
        case rel => exact ⟨k + 1, M.set k 5, by omega, by go_num, by rw [Hid, List.length_set]; exact HML.out, HRM', HWM', HFM'⟩
        case measure => simp [intOf]; omega
      · go_wp2
        go_ret
        exact ⟨rfl, v2, HWM.out, HFM.out⟩
  · have HE : Hid (encOp o = uint 10 n) := by
      rw [Hid, HENC.out, if_neg (kNe ‹(kind == 1) = false›), if_pos (.inr (kEq ‹(kind == 6) = true›))]
    refine (wUint_any w1 base r n v L HW1.out hn (by omega)).mono ?_
    rintro e2 w2 ⟨rfl, v2, hw2, hf2⟩
    have HT := HTOLD.out w2 v2 (by rw [HE.out]; exact hw2) hf2
    have HTT : Hid (Told w base r (w.heap.size + 1) v a c o L w2 v2) := HT
    have hc2 : w2.cell? ⟨w.heap.size, 2, none⟩ = some (.slice a l c) := by rw [HLL.out, ← HBS.out]; exact HT.cell
    clear HT hw2 hf2 hz0 hz1 hz2
    go_wp2_with fail
    refine (intact_any w2 (w.heap.size + 1) a (l + 3) c l bs HLL.out (by rw [← HBS.out]; exact HTT.out.src) (by rw [← HLL.out]; unfold maxLen; omega) (fun j hj => by have := HTT.out.row.cell j (by rw [HBS.out]; simp; omega); rw [HBS.out] at this; exact this) (by rw [← HLL.out]; omega)).mono ?_
    rintro e3 w3 ⟨rfl, q, hq⟩
    have HW3 : Hid (IsWriter w3 base r v2 (L ++ encOp o)) := by rw [hq]; exact HTT.out.writer
    have HF3 : Hid (Wrote w w3 r v v2) := by rw [hq]; exact HTT.out.wrote.drewN q
    have HR3 : Hid (RowAt w3 (w.heap.size + 1) (bs ++ [171, 171, 171])) := by rw [hq, ← HBS.out]; exact HTT.out.row
    have HNE : Hid (v2.ownBlock ≠ some (w.heap.size + 1)) := HTT.out.hne
    clear hq HTT hc2 HTOLD
    go_wp2
    go_loopw [8] (fun x wr => ∃ (k : Nat) (M : List Nat), k ≤ l + 3 ∧ x = .int .i64 (k : Int) ∧ Hid (M.length = l + 3) ∧ Hid (RowAt wr (w.heap.size + 1) M) ∧ Hid (IsWriter wr base r v2 (L ++ encOp o)) ∧ Hid (Wrote w wr r v v2)) (fun x _ => l + 3 - (intOf x).toNat)
    case atStart => exact ⟨0, bs ++ [171, 171, 171], Nat.zero_le _, rfl, by rw [Hid, List.length_append, ← HLL.out]; rfl, HR3, HW3, HF3⟩
    case round =>
      obtain ⟨k, M, hk, rfl, HML, HRM, HWM, HFM⟩ := hrel
      by_cases hlt : k < l + 3
      · have hcm := HRM.out.cell k (by rw [HML.out]; exact hlt)
        have hfm := HRM.out.frozen k
        have HRM' : Hid (RowAt (wr.setCell ⟨w.heap.size + 1, k, none⟩ (.int .u8 5)) (w.heap.size + 1) (M.set k 5)) := HRM.out.set k 5
        have HWM' : Hid (IsWriter (wr.setCell ⟨w.heap.size + 1, k, none⟩ (.int .u8 5)) base r v2 (L ++ encOp o)) := HWM.out.setOther _ _ (by show w.heap.size + 1 ≠ r; omega) HNE.out
        have HFM' : Hid (Wrote w (wr.setCell ⟨w.heap.size + 1, k, none⟩ (.int .u8 5)) r v v2) := HFM.out.new _ _ (by show w.heap.size ≤ w.heap.size + 1; omega)
        go_wp2
        go_roundw
        case rel => exact ⟨k + 1, M.set k 5, by omega, by go_num, by rw [Hid, List.length_set]; exact HML.out, HRM', HWM', HFM'⟩
        case measure => simp [intOf]; omega
      · go_wp2
        go_ret
        exact ⟨rfl, v2, HWM.out, HFM.out⟩
  · have HE : Hid (encOp o = uint 10 (fold (sgn n))) := by
      rw [Hid, HENC.out, if_neg (kNe ‹(kind == 1) = false›), if_neg (fun h => h.elim (kNe ‹(kind == 2) = false›) (kNe ‹(kind == 6) = false›)), if_pos (kEq ‹(kind == 3) = true›)]
    refine (wInt_any w1 base r (sgn n) v L HW1.out (sgn_range n).1 (sgn_range n).2 (by omega)).mono ?_
    rintro e2 w2 ⟨rfl, v2, hw2, hf2⟩
    have HT := HTOLD.out w2 v2 (by rw [HE.out]; exact hw2) hf2
    have HTT : Hid (Told w base r (w.heap.size + 1) v a c o L w2 v2) := HT
    have hc2 : w2.cell? ⟨w.heap.size, 2, none⟩ = some (.slice a l c) := by rw [HLL.out, ← HBS.out]; exact HT.cell
    clear HT hw2 hf2 hz0 hz1 hz2
    go_wp2_with fail
    refine (intact_any w2 (w.heap.size + 1) a (l + 3) c l bs HLL.out (by rw [← HBS.out]; exact HTT.out.src) (by rw [← HLL.out]; unfold maxLen; omega) (fun j hj => by have := HTT.out.row.cell j (by rw [HBS.out]; simp; omega); rw [HBS.out] at this; exact this) (by rw [← HLL.out]; omega)).mono ?_
    rintro e3 w3 ⟨rfl, q, hq⟩
    have HW3 : Hid (IsWriter w3 base r v2 (L ++ encOp o)) := by rw [hq]; exact HTT.out.writer
    have HF3 : Hid (Wrote w w3 r v v2) := by rw [hq]; exact HTT.out.wrote.drewN q
    have HR3 : Hid (RowAt w3 (w.heap.size + 1) (bs ++ [171, 171, 171])) := by rw [hq, ← HBS.out]; exact HTT.out.row
    have HNE : Hid (v2.ownBlock ≠ some (w.heap.size + 1)) := HTT.out.hne
    clear hq HTT hc2 HTOLD
    go_wp2
    go_loopw [8] (fun x wr => ∃ (k : Nat) (M : List Nat), k ≤ l + 3 ∧ x = .int .i64 (k : Int) ∧ Hid (M.length = l + 3) ∧ Hid (RowAt wr (w.heap.size + 1) M) ∧ Hid (IsWriter wr base r v2 (L ++ encOp o)) ∧ Hid (Wrote w wr r v v2)) (fun x _ => l + 3 - (intOf x).toNat)
    case atStart => exact ⟨0, bs ++ [171, 171, 171], Nat.zero_le _, rfl, by rw [Hid, List.length_append, ← HLL.out]; rfl, HR3, HW3, HF3⟩
    case round =>
      obtain ⟨k, M, hk, rfl, HML, HRM, HWM, HFM⟩ := hrel
      by_cases hlt : k < l + 3
      · have hcm := HRM.out.cell k (by rw [HML.out]; exact hlt)
        have hfm := HRM.out.frozen k
        have HRM' : Hid (RowAt (wr.setCell ⟨w.heap.size + 1, k, none⟩ (.int .u8 5)) (w.heap.size + 1) (M.set k 5)) := HRM.out.set k 5
        have HWM' : Hid (IsWriter (wr.setCell ⟨w.heap.size + 1, k, none⟩ (.int .u8 5)) base r v2 (L ++ encOp o)) := HWM.out.setOther _ _ (by show w.heap.size + 1 ≠ r; omega) HNE.out
        have HFM' : Hid (Wrote w (wr.setCell ⟨w.heap.size + 1, k, none⟩ (.int .u8 5)) r v v2) := HFM.out.new _ _ (by show w.heap.size ≤ w.heap.size + 1; omega)
        go_wp2
        go_roundw
        case rel => exact ⟨k + 1, M.set k 5, by omega, by go_num, by rw [Hid, List.length_set]; exact HML.out, HRM', HWM', HFM'⟩
        case measure => simp [intOf]; omega
      · go_wp2
        go_ret
        exact ⟨rfl, v2, HWM.out, HFM.out⟩
  · have HE : Hid (encOp o = uint 10 l ++ bs) := by
      rw [Hid, HENC.out, if_neg (kNe ‹(kind == 1) = false›), if_neg (fun h => h.elim (kNe ‹(kind == 2) = false›) (kNe ‹(kind == 6) = false›)), if_neg (kNe ‹(kind == 3) = false›), if_pos (kEq ‹(kind == 4) = true›), ← HLL.out]
    refine (wBytes_any w1 base r v L bs _ l (l + 3) HW1.out HLL.out HS1B.out (by simp) (by rw [← HLL.out]; omega) HAPB.out).mono ?_
    rintro e2 w2 ⟨rfl, v2, hw2, hf2⟩
    have HT := HTOLD.out w2 v2 (by rw [HE.out]; exact hw2) hf2
    have HTT : Hid (Told w base r (w.heap.size + 1) v a c o L w2 v2) := HT
    have hc2 : w2.cell? ⟨w.heap.size, 2, none⟩ = some (.slice a l c) := by rw [HLL.out, ← HBS.out]; exact HT.cell
    clear HT hw2 hf2 hz0 hz1 hz2
    go_wp2_with fail
    refine (intact_any w2 (w.heap.size + 1) a (l + 3) c l bs HLL.out (by rw [← HBS.out]; exact HTT.out.src) (by rw [← HLL.out]; unfold maxLen; omega) (fun j hj => by have := HTT.out.row.cell j (by rw [HBS.out]; simp; omega); rw [HBS.out] at this; exact this) (by rw [← HLL.out]; omega)).mono ?_
    rintro e3 w3 ⟨rfl, q, hq⟩
    have HW3 : Hid (IsWriter w3 base r v2 (L ++ encOp o)) := by rw [hq]; exact HTT.out.writer
    have HF3 : Hid (Wrote w w3 r v v2) := by rw [hq]; exact HTT.out.wrote.drewN q
    have HR3 : Hid (RowAt w3 (w.heap.size + 1) (bs ++ [171, 171, 171])) := by rw [hq, ← HBS.out]; exact HTT.out.row
    have HNE : Hid (v2.ownBlock ≠ some (w.heap.size + 1)) := HTT.out.hne
    clear hq HTT hc2 HTOLD
    go_wp2
    go_loopw [8] (fun x wr => ∃ (k : Nat) (M : List Nat), k ≤ l + 3 ∧ x = .int .i64 (k : Int) ∧ Hid (M.length = l + 3) ∧ Hid (RowAt wr (w.heap.size + 1) M) ∧ Hid (IsWriter wr base r v2 (L ++ encOp o)) ∧ Hid (Wrote w wr r v v2)) (fun x _ => l + 3 - (intOf x).toNat)
    case atStart => exact ⟨0, bs ++ [171, 171, 171], Nat.zero_le _, rfl, by rw [Hid, List.length_append, ← HLL.out]; rfl, HR3, HW3, HF3⟩
    case round =>
      obtain ⟨k, M, hk, rfl, HML, HRM, HWM, HFM⟩ := hrel
      by_cases hlt : k < l + 3
      · have hcm := HRM.out.cell k (by rw [HML.out]; exact hlt)
        have hfm := HRM.out.frozen k
        have HRM' : Hid (RowAt (wr.setCell ⟨w.heap.size + 1, k, none⟩ (.int .u8 5)) (w.heap.size + 1) (M.set k 5)) := HRM.out.set k 5
        have HWM' : Hid (IsWriter (wr.setCell ⟨w.heap.size + 1, k, none⟩ (.int .u8 5)) base r v2 (L ++ encOp o)) := HWM.out.setOther _ _ (by show w.heap.size + 1 ≠ r; omega) HNE.out
        have HFM' : Hid (Wrote w (wr.setCell ⟨w.heap.size + 1, k, none⟩ (.int .u8 5)) r v v2) := HFM.out.new _ _ (by show w.heap.size ≤ w.heap.size + 1; omega)
        go_wp2
        go_roundw
        case rel => exact ⟨k + 1, M.set k 5, by omega, by go_num, by rw [Hid, List.length_set]; exact HML.out, HRM', HWM', HFM'⟩
        case measure => simp [intOf]; omega
      · go_wp2
        go_ret
        exact ⟨rfl, v2, HWM.out, HFM.out⟩
  · have HE : Hid (encOp o = bs) := by
      rw [Hid, HENC.out, if_neg (kNe ‹(kind == 1) = false›), if_neg (fun h => h.elim (kNe ‹(kind == 2) = false›) (kNe ‹(kind == 6) = false›)), if_neg (kNe ‹(kind == 3) = false›), if_neg (kNe ‹(kind == 4) = false›), if_pos (kEq ‹(kind == 5) = true›)]
    refine (wRaw_any w1 base r v L bs _ l (l + 3) HW1.out HLL.out HS1B.out (by simp) (by rw [← HLL.out]; omega)).mono ?_
    rintro e2 w2 ⟨rfl, v2, hw2, hf2⟩
    have HT := HTOLD.out w2 v2 (by rw [HE.out]; exact hw2) hf2
    have HTT : Hid (Told w base r (w.heap.size + 1) v a c o L w2 v2) := HT
    have hc2 : w2.cell? ⟨w.heap.size, 2, none⟩ = some (.slice a l c) := by rw [HLL.out, ← HBS.out]; exact HT.cell
    clear HT hw2 hf2 hz0 hz1 hz2
    go_wp2_with fail
    refine (intact_any w2 (w.heap.size + 1) a (l + 3) c l bs HLL.out (by rw [← HBS.out]; exact HTT.out.src) (by rw [← HLL.out]; unfold maxLen; omega) (fun j hj => by have := HTT.out.row.cell j (by rw [HBS.out]; simp; omega); rw [HBS.out] at this; exact this) (by rw [← HLL.out]; omega)).mono ?_
    rintro e3 w3 ⟨rfl, q, hq⟩
    have HW3 : Hid (IsWriter w3 base r v2 (L ++ encOp o)) := by rw [hq]; exact HTT.out.writer
    have HF3 : Hid (Wrote w w3 r v v2) := by rw [hq]; exact HTT.out.wrote.drewN q
    have HR3 : Hid (RowAt w3 (w.heap.size + 1) (bs ++ [171, 171, 171])) := by rw [hq, ← HBS.out]; exact HTT.out.row
    have HNE : Hid (v2.ownBlock ≠ some (w.heap.size + 1)) := HTT.out.hne
    clear hq HTT hc2 HTOLD
    go_wp2
    go_loopw [8] (fun x wr => ∃ (k : Nat) (M : List Nat), k ≤ l + 3 ∧ x = .int .i64 (k : Int) ∧ Hid (M.length = l + 3) ∧ Hid (RowAt wr (w.heap.size + 1) M) ∧ Hid (IsWriter wr base r v2 (L ++ encOp o)) ∧ Hid (Wrote w wr r v v2)) (fun x _ => l + 3 - (intOf x).toNat)
    case atStart => exact ⟨0, bs ++ [171, 171, 171], Nat.zero_le _, rfl, by rw [Hid, List.length_append, ← HLL.out]; rfl, HR3, HW3, HF3⟩
    case round =>
      obtain ⟨k, M, hk, rfl, HML, HRM, HWM, HFM⟩ := hrel
      by_cases hlt : k < l + 3
      · have hcm := HRM.out.cell k (by rw [HML.out]; exact hlt)
        have hfm := HRM.out.frozen k
        have HRM' : Hid (RowAt (wr.setCell ⟨w.heap.size + 1, k, none⟩ (.int .u8 5)) (w.heap.size + 1) (M.set k 5)) := HRM.out.set k 5
        have HWM' : Hid (IsWriter (wr.setCell ⟨w.heap.size + 1, k, none⟩ (.int .u8 5)) base r v2 (L ++ encOp o)) := HWM.out.setOther _ _ (by show w.heap.size + 1 ≠ r; omega) HNE.out
        have HFM' : Hid (Wrote w (wr.setCell ⟨w.heap.size + 1, k, none⟩ (.int .u8 5)) r v v2) := HFM.out.new _ _ (by show w.heap.size ≤ w.heap.size + 1; omega)
        go_wp2
        go_roundw
        case rel => exact ⟨k + 1, M.set k 5, by omega, by go_num, by rw [Hid, List.length_set]; exact HML.out, HRM', HWM', HFM'⟩
        case measure => simp [intOf]; omega
      · go_wp2
        go_ret
        exact ⟨rfl, v2, HWM.out, HFM.out⟩
  · have HE : Hid (encOp o = []) := by
      rw [Hid, HENC.out, if_neg (kNe ‹(kind == 1) = false›), if_neg (fun h => h.elim (kNe ‹(kind == 2) = false›) (kNe ‹(kind == 6) = false›)), if_neg (kNe ‹(kind == 3) = false›), if_neg (kNe ‹(kind == 4) = false›), if_neg (kNe ‹(kind == 5) = false›)]
    obtain ⟨w2, hw22⟩ : ∃ w2, w2 = w1 := ⟨_, rfl⟩
    obtain ⟨v2, hv22⟩ : ∃ v2, v2 = v := ⟨_, rfl⟩
    have hw2 : IsWriter w2 base r v2 (L ++ []) := by rw [hw22, hv22, List.append_nil]; exact HW1.out
    have hf2 : Wrote w1 w2 r v v2 := by rw [hw22, hv22]; exact Wrote.refl _ _ _
    rw [← hw22]
    clear hw22 hv22
    have HT := HTOLD.out w2 v2 (by rw [HE.out]; exact hw2) hf2
    have HTT : Hid (Told w base r (w.heap.size + 1) v a c o L w2 v2) := HT
    have hc2 : w2.cell? ⟨w.heap.size, 2, none⟩ = some (.slice a l c) := by rw [HLL.out, ← HBS.out]; exact HT.cell
    clear HT hw2 hf2 hz0 hz1 hz2
    refine (intact_any w2 (w.heap.size + 1) a (l + 3) c l bs HLL.out (by rw [← HBS.out]; exact HTT.out.src) (by rw [← HLL.out]; unfold maxLen; omega) (fun j hj => by have := HTT.out.row.cell j (by rw [HBS.out]; simp; omega); rw [HBS.out] at this; exact this) (by rw [← HLL.out]; omega)).mono ?_
    rintro e3 w3 ⟨rfl, q, hq⟩
    have HW3 : Hid (IsWriter w3 base r v2 (L ++ encOp o)) := by rw [hq]; exact HTT.out.writer
    have HF3 : Hid (Wrote w w3 r v v2) := by rw [hq]; exact HTT.out.wrote.drewN q
    have HR3 : Hid (RowAt w3 (w.heap.size + 1) (bs ++ [171, 171, 171])) := by rw [hq, ← HBS.out]; exact HTT.out.row
    have HNE : Hid (v2.ownBlock ≠ some (w.heap.size + 1)) := HTT.out.hne
    clear hq HTT hc2 HTOLD
    go_wp2
    go_loopw [8] (fun x wr => ∃ (k : Nat) (M : List Nat), k ≤ l + 3 ∧ x = .int .i64 (k : Int) ∧ Hid (M.length = l + 3) ∧ Hid (RowAt wr (w.heap.size + 1) M) ∧ Hid (IsWriter wr base r v2 (L ++ encOp o)) ∧ Hid (Wrote w wr r v v2)) (fun x _ => l + 3 - (intOf x).toNat)
    case atStart => exact ⟨0, bs ++ [171, 171, 171], Nat.zero_le _, rfl, by rw [Hid, List.length_append, ← HLL.out]; rfl, HR3, HW3, HF3⟩
    case round =>
      obtain ⟨k, M, hk, rfl, HML, HRM, HWM, HFM⟩ := hrel
      by_cases hlt : k < l + 3
      · have hcm := HRM.out.cell k (by rw [HML.out]; exact hlt)
        have hfm := HRM.out.frozen k
        have HRM' : Hid (RowAt (wr.setCell ⟨w.heap.size + 1, k, none⟩ (.int .u8 5)) (w.heap.size + 1) (M.set k 5)) := HRM.out.set k 5
        have HWM' : Hid (IsWriter (wr.setCell ⟨w.heap.size + 1, k, none⟩ (.int .u8 5)) base r v2 (L ++ encOp o)) := HWM.out.setOther _ _ (by show w.heap.size + 1 ≠ r; omega) HNE.out
        have HFM' : Hid (Wrote w (wr.setCell ⟨w.heap.size + 1, k, none⟩ (.int .u8 5)) r v v2) := HFM.out.new _ _ (by show w.heap.size ≤ w.heap.size + 1; omega)
        go_wp2
        go_roundw
        case rel => exact ⟨k + 1, M.set k 5, by omega, by go_num, by rw [Hid, List.length_set]; exact HML.out, HRM', HWM', HFM'⟩
        case measure => simp [intOf]; omega
      · go_wp2
        go_ret
        exact ⟨rfl, v2, HWM.out, HFM.out⟩

end Go.Proofs.Ythdlilekilkogaa
