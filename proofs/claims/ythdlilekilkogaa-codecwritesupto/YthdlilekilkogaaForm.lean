/-
  THE WALK OF preludelaw01.form.
-/
import Derived.Test.YthdlilekilkogaaRefForm
import Derived.Deep.RegionLaw
namespace Go.Proofs.Ythdlilekilkogaa
open Go.RowKit

set_option maxHeartbeats 1000000 in
theorem form_any (w : World) (o : OpV) (a : Option Addr) (c : Nat) (hb : BytesAt w a o.bs) (hnil : a = none → c = 0) (hn : o.n < 18446744073709551616) (hl : o.bs.length + 11 ≤ 140737488355328) :
    Calls Try.prog 8 #[.agg #[.int .i64 o.kind, .int .u64 (o.n : Int), .slice a o.bs.length c, .int .i64 o.most, .bool o.two]] w fun e w' =>
      ∃ v, e = .returned v ∧ OwnB w' w.heap.size v (encOp o) ∧ Below w.heap.size w w' := by
  have HS : Hid (BytesAt w a o.bs) := hb
  clear hb
  obtain ⟨bs, hbs⟩ : ∃ bs, o.bs = bs := ⟨_, rfl⟩
  obtain ⟨l, hll⟩ : ∃ l, bs.length = l := ⟨_, rfl⟩
  have HLL : Hid (l = bs.length) := hll.symm
  rw [hbs] at hl
  rw [hbs, hll]
  rw [hll] at hl
  have HBS : Hid (o.bs = bs) := hbs
  clear hbs hll
  have HENC : Hid (encOp o = if o.kind = 1 then [o.n % 256] else if o.kind = 2 ∨ o.kind = 6 then uint 10 o.n else if o.kind = 3 then uint 10 (fold (sgn o.n)) else if o.kind = 4 then uint 10 bs.length ++ bs else if o.kind = 5 then bs else []) := by
    rw [Hid, ← HBS.out]; rfl
  generalize o.kind = kind at *
  generalize o.n = n at *
  generalize o.most = most at *
  generalize o.two = two at *
  go_enter Try.func8, Try.ntmps8
  have HBA : Hid (Below w.heap.size w (w.alloc (.cells #[.int .i64 kind, .int .u64 (n : Int), .slice a l c, .int .i64 most, .bool two] 34))) := (Below.refl _ _).alloc (Nat.le_refl _) _
  have HCA : Hid ((w.alloc (.cells #[.int .i64 kind, .int .u64 (n : Int), .slice a l c, .int .i64 most, .bool two] 34)).heap[w.heap.size]? = some (.cells #[.int .i64 kind, .int .u64 (n : Int), .slice a l c, .int .i64 most, .bool two] 34 (0, 0))) := by
    show (w.heap.push _)[w.heap.size]? = _
    simp
  have HSA : Hid ((w.alloc (.cells #[.int .i64 kind, .int .u64 (n : Int), .slice a l c, .int .i64 most, .bool two] 34)).heap.size = w.heap.size + 1) := by rw [Hid]; simp
  go_wp2_with fail
  · have HE : Hid (encOp o = [n % 256]) := by rw [Hid, HENC.out, if_pos (kEq ‹(kind == 1) = true›)]
    generalize (w.alloc (.cells #[.int .i64 kind, .int .u64 (n : Int), .slice a l c, .int .i64 most, .bool two] 34)) = wA at *
    have HM : Hid (OwnB (wA.alloc (.cells #[.int .u8 ((n : Int) % 256)] 5)) w.heap.size (.slice (some ⟨wA.heap.size, 0, none⟩) 1 1) [n % 256]) := by
      have h := OwnB.made (w := wA) (L := [n % 256]) (by simp; omega) (by unfold maxLen; simp) HBA.out.size
      rw [show ((n : Int) % 256) = ((n % 256 : Nat) : Int) by omega]
      exact h
    rw [HSA.out] at HM
    go_ret
    exact ⟨_, rfl, by rw [HE.out]; exact HM.out, HBA.out.alloc HBA.out.size _⟩
  · have HE : Hid (encOp o = uint 10 n) := by rw [Hid, HENC.out, if_neg (kNe ‹(kind == 1) = false›), if_pos (.inl (kEq ‹(kind == 2) = true›))]
    generalize (w.alloc (.cells #[.int .i64 kind, .int .u64 (n : Int), .slice a l c, .int .i64 most, .bool two] 34)) = wA at *
    refine (refUint_any wA n hn).mono ?_
    rintro e1 w1 ⟨v1, rfl, hown1, hbel1⟩
    have HB1 : Hid (Below w.heap.size w w1) := HBA.out.trans (hbel1.mono HBA.out.size)
    have HO1 : Hid (OwnB w1 w.heap.size v1 (encOp o)) := by rw [HE.out]; exact hown1.mono HBA.out.size
    clear hown1 hbel1
    go_wp2
    go_ret
    exact ⟨_, rfl, HO1.out, HB1.out⟩
  · have HE : Hid (encOp o = uint 10 n) := by rw [Hid, HENC.out, if_neg (kNe ‹(kind == 1) = false›), if_pos (.inr (kEq ‹(kind == 6) = true›))]
    generalize (w.alloc (.cells #[.int .i64 kind, .int .u64 (n : Int), .slice a l c, .int .i64 most, .bool two] 34)) = wA at *
    refine (refUint_any wA n hn).mono ?_
    rintro e1 w1 ⟨v1, rfl, hown1, hbel1⟩
    have HB1 : Hid (Below w.heap.size w w1) := HBA.out.trans (hbel1.mono HBA.out.size)
    have HO1 : Hid (OwnB w1 w.heap.size v1 (encOp o)) := by rw [HE.out]; exact hown1.mono HBA.out.size
    clear hown1 hbel1
    go_wp2
    go_ret
    exact ⟨_, rfl, HO1.out, HB1.out⟩
  · have HE : Hid (encOp o = uint 10 (fold (sgn n))) := by rw [Hid, HENC.out, if_neg (kNe ‹(kind == 1) = false›), if_neg (fun h => h.elim (kNe ‹(kind == 2) = false›) (kNe ‹(kind == 6) = false›)), if_pos (kEq ‹(kind == 3) = true›)]
    generalize (w.alloc (.cells #[.int .i64 kind, .int .u64 (n : Int), .slice a l c, .int .i64 most, .bool two] 34)) = wA at *
    refine (refInt_any wA (sgn n) (sgn_range n).1 (sgn_range n).2).mono ?_
    rintro e1 w1 ⟨v1, rfl, hown1, hbel1⟩
    have HB1 : Hid (Below w.heap.size w w1) := HBA.out.trans (hbel1.mono HBA.out.size)
    have HO1 : Hid (OwnB w1 w.heap.size v1 (encOp o)) := by rw [HE.out]; exact hown1.mono HBA.out.size
    clear hown1 hbel1
    go_wp2
    go_ret
    exact ⟨_, rfl, HO1.out, HB1.out⟩
  · have HE : Hid (encOp o = uint 10 l ++ bs) := by rw [Hid, HENC.out, if_neg (kNe ‹(kind == 1) = false›), if_neg (fun h => h.elim (kNe ‹(kind == 2) = false›) (kNe ‹(kind == 6) = false›)), if_neg (kNe ‹(kind == 3) = false›), if_pos (kEq ‹(kind == 4) = true›), HLL.out]
    have HSW : Hid (BytesAt (w.alloc (.cells #[.int .i64 kind, .int .u64 (n : Int), .slice a l c, .int .i64 most, .bool two] 34)) a bs) := by rw [← HBS.out]; exact HS.out.kept HBA.out
    have hz2 : (w.alloc (.cells #[.int .i64 kind, .int .u64 (n : Int), .slice a l c, .int .i64 most, .bool two] 34)).cell? ⟨w.heap.size, 2, none⟩ = some (.slice a l c) := by simp
    generalize (w.alloc (.cells #[.int .i64 kind, .int .u64 (n : Int), .slice a l c, .int .i64 most, .bool two] 34)) = wA at *
    have hwl : w.heap.size < wA.heap.size := by rw [HSA.out]; omega
    have hull := uint_length 10 l
    have hwr : IntKind.u64.wrap (l : Int) = (l : Int) := IntWalk.u64_in _ ⟨by omega, by omega⟩
    clear HSA HCA HENC
    go_region_law (first
      | (refine step_append_bytes rfl _ _ rfl w.heap.size v1 (uint 10 l) rfl HO1.out a l c bs rfl HLL.out HS1.out hnil (by rw [← HLL.out]; omega) HB1.out.size ?_; intro v2 w2 hown2 hgrow2 _; have HO2 : Hid (OwnB w2 w.heap.size v2 (encOp o)) := (by rw [HE.out]; exact hown2); have HB2 : Hid (Below w.heap.size w w2) := HB1.out.trans (below_grown hgrow2 (fun k hk => (HO1.out.2.lt k hk).1) HB1.out.size); clear hown2 hgrow2)
      | (go_simp; go_at_call 37; go_loud (refine (refUint_any wA.drew l (by omega)).mono ?_; rintro e1 w1 ⟨v1, rfl, hown1, hbel1⟩; have HO1 : Hid (OwnB w1 w.heap.size v1 (uint 10 l)) := OwnB.mono (base := wA.heap.size) hown1 (Nat.le_of_lt hwl); have hbA : Below wA.heap.size wA w1 := ⟨hbel1.os, hbel1.tape, hbel1.output, hbel1.size, hbel1.block⟩; have HB1 : Hid (Below w.heap.size w w1) := HBA.out.trans (hbA.mono (Nat.le_of_lt hwl)); have HS1 : Hid (BytesAt w1 a bs) := HSW.out.kept hbA; have hc1 : w1.cell? ⟨w.heap.size, 2, none⟩ = some (.slice a l c) := (hbA.cell (p := ⟨w.heap.size, 2, none⟩) hwl).trans hz2; clear hown1 hbel1 hbA)))
    all_goals go_wp2
    all_goals go_ret
    all_goals exact ⟨_, rfl, HO2.out, HB2.out⟩
  · have HE : Hid (encOp o = bs) := by rw [Hid, HENC.out, if_neg (kNe ‹(kind == 1) = false›), if_neg (fun h => h.elim (kNe ‹(kind == 2) = false›) (kNe ‹(kind == 6) = false›)), if_neg (kNe ‹(kind == 3) = false›), if_neg (kNe ‹(kind == 4) = false›), if_pos (kEq ‹(kind == 5) = true›)]
    generalize (w.alloc (.cells #[.int .i64 kind, .int .u64 (n : Int), .slice a l c, .int .i64 most, .bool two] 34)) = wA at *
    refine (copied_any wA a c l bs HLL.out (by rw [← HBS.out]; exact HS.out.kept HBA.out) (by omega)).mono ?_
    rintro e1 w1 ⟨rfl, hrow1, hbel1, _⟩
    have HB1 : Hid (Below w.heap.size w w1) := HBA.out.trans (hbel1.mono HBA.out.size)
    have HO1 : Hid (OwnB w1 w.heap.size (.slice (some ⟨wA.heap.size, 0, none⟩) l l) (encOp o)) := by
      rw [HE.out, HLL.out]
      exact OwnB.ofRow hrow1 (by rw [← HBS.out]; exact HS.out.1) (by rw [← HLL.out]; unfold maxLen; omega) HBA.out.size
    clear hrow1 hbel1
    go_wp2
    go_ret
    exact ⟨_, rfl, HO1.out, HB1.out⟩
  · have HE : Hid (encOp o = []) := by rw [Hid, HENC.out, if_neg (kNe ‹(kind == 1) = false›), if_neg (fun h => h.elim (kNe ‹(kind == 2) = false›) (kNe ‹(kind == 6) = false›)), if_neg (kNe ‹(kind == 3) = false›), if_neg (kNe ‹(kind == 4) = false›), if_neg (kNe ‹(kind == 5) = false›)]
    go_ret
    exact ⟨_, rfl, by rw [HE.out]; exact OwnB.nil _ _, HBA.out⟩

end Go.Proofs.Ythdlilekilkogaa
