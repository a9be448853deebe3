/-
  THE WALK OF LangPuts.
-/
import Derived.Test.YtjmlogljfboleaaLSame
import Derived.Test.YtjmlogljfboleaaLSameB
import Derived.Test.YtjmlogljfboleaaLPut
import Derived.Test.YtjmlogljfboleaaLWritten
namespace Go.Proofs.Ytjmlogljfboleaa
open Go.RowKit Go.Sort

/-- what stands while the Writer works: all of it lies below C -/
structure QS (w W : World) (C : Nat) (p : Nums) (ao : Option Addr) (n cap G B3 : Nat) (L : List K) : Prop where
  b0 : PBox W w.heap.size p ao n cap
  b3 : PBox W B3 p (some ⟨G, 0, none⟩) n (n + 2)
  row : RowK W G (L ++ marks)
  bel : Below w.heap.size w W
  l0 : w.heap.size < C
  l3 : B3 < C
  lg : G < C
theorem QS.below {w W W' : World} {C : Nat} {p : Nums} {ao : Option Addr} {n cap G B3 : Nat} {L : List K} (h : QS w W C p ao n cap G B3 L) (hb : Below C W W') : QS w W' C p ao n cap G B3 L :=
  ⟨h.b0.below hb h.l0, h.b3.below hb h.l3, h.row.below hb h.lg, h.bel.trans (hb.mono (Nat.le_of_lt h.l0)), h.l0, h.l3, h.lg⟩
theorem QS.kept {w W W' : World} {C : Nat} {p : Nums} {ao : Option Addr} {n cap G B3 : Nat} {L : List K} (h : QS w W C p ao n cap G B3 L) (hb : Below W.heap.size W W') : QS w W' C p ao n cap G B3 L :=
  ⟨h.b0.kept hb, h.b3.kept hb, h.row.kept hb, h.bel.trans (hb.mono h.bel.size), h.l0, h.l3, h.lg⟩

set_option maxRecDepth 100000 in
set_option maxHeartbeats 2000000 in
theorem puts_walk (w : World) (p : Nums) (ao : Option Addr) (n cap : Nat) (L : List K) (h : KeysAt w ao L) (hn : n = L.length) (hm : n * 16 ≤ 140737488351232) (hK : ∀ k ∈ L, KIn k)
    (ao2 : Option Addr) (n2 cap2 : Nat) (zs : List Nat) (h2 : BytesAt w ao2 zs) (hn2 : n2 = zs.length) (hm2 : n2 ≤ 140737488351232) (hnil : ao2 = none → cap2 = 0) :
    Calls Try.prog 4 #[pv p ao n cap, .slice ao2 n2 cap2] w fun e w' => e = .returned (.bool true) ∧ Below w.heap.size w w' := by
  have HL : Hid (KeysAt w ao L) := h
  have HN : Hid (n = L.length) := hn
  have HK : Hid (∀ k ∈ L, KIn k) := hK
  have HB : Hid (BytesAt w ao2 zs) := h2
  have HN2 : Hid (n2 = zs.length) := hn2
  have HZ : Hid (ao2 = none → cap2 = 0) := hnil
  clear h hn hK h2 hn2 hnil
  go_enter Try.func4, Try.ntmps4
  go_wp2_with fail
  have hB0 : Below w.heap.size w (w.alloc (.cells #[.int .i64 p.args, .int .i64 p.reads, .int .i64 p.writes, .int .i64 p.locals, .slice ao n cap] 24)) := (Below.refl _ _).alloc (Nat.le_refl _) _
  refine (roomy_any _ p ao n cap L (HL.out.kept hB0) HN.out hm).mono ?_
  rintro e w1 ⟨G, rfl, hrow, hb1, hG⟩
  have HP1 : Hid (PBox w1 w.heap.size p ao n cap) := (PBox.new w p ao n cap).kept hb1
  have HW1 : Hid (Below w.heap.size w w1) := hB0.trans (hb1.mono hB0.size)
  have HQ1 : Hid (QS w (w1.alloc (.cells #[.int .i64 p.args, .int .i64 p.reads, .int .i64 p.writes, .int .i64 p.locals, .slice (some ⟨G, 0, none⟩) n (n + 2)] 24)) (w1.heap.size + 1) p ao n cap G w1.heap.size L) := by
    have hA : Below w1.heap.size w1 (w1.alloc (.cells #[.int .i64 p.args, .int .i64 p.reads, .int .i64 p.writes, .int .i64 p.locals, .slice (some ⟨G, 0, none⟩) n (n + 2)] 24)) := (Below.refl _ _).alloc (Nat.le_refl _) _
    exact ⟨HP1.out.kept hA, PBox.new w1 p _ _ _, hrow.kept hA, HW1.out.trans (hA.mono HW1.out.size), by have := HP1.out.lt; omega, by omega, by have := hrow.lt; omega⟩
  have HC : Hid ((w1.alloc (.cells #[.int .i64 p.args, .int .i64 p.reads, .int .i64 p.writes, .int .i64 p.locals, .slice (some ⟨G, 0, none⟩) n (n + 2)] 24)).heap.size = w1.heap.size + 1) := by simp [Hid]
  clear hrow hb1 hB0 HP1 HW1 hG
  go_wp2_with fail
  generalize w1.alloc (.cells #[.int .i64 p.args, .int .i64 p.reads, .int .i64 p.writes, .int .i64 p.locals, .slice (some ⟨G, 0, none⟩) n (n + 2)] 24) = W1 at *
  generalize w1.heap.size = B3 at *
  refine (new_any W1).mono ?_
  rintro e W2 ⟨rfl, hw2, hb2, _⟩
  have HQ2 : Hid (QS w W2 (B3 + 1) p ao n cap G B3 L) := HQ1.out.kept hb2
  have HW2 : Hid (IsWriter W2 (B3 + 1) (B3 + 1) (.slice none 0 0) []) := by rw [HC.out] at hw2; exact hw2
  rw [HC.out]
  clear hw2 hb2 HQ1 HC
  go_wp2_with fail
  refine (wRaw_any W2 (B3 + 1) (B3 + 1) _ [] zs ao2 n2 cap2 HW2.out HN2.out (HB.out.kept HQ2.out.bel) HZ.out (by have := HN2.out; simp; omega)).mono ?_
  rintro e W3 ⟨rfl, v3, hw3, ht3⟩
  have HQ3 : Hid (QS w W3 (B3 + 1) p ao n cap G B3 L) := HQ2.out.below (ht3.below HW2.out)
  have HW3 : Hid (IsWriter W3 (B3 + 1) (B3 + 1) v3 zs) := hw3
  clear hw3 ht3 HQ2 HW2
  obtain ⟨x0, x1, x2, x3, x4⟩ := HQ3.out.b3.cells
  go_wp2_with fail
  refine (put_any W3 (B3 + 1) (B3 + 1) v3 zs p (some ⟨G, 0, none⟩) n (n + 2) L HW3.out HQ3.out.row.keys HN.out HK.out (fun a _ e => by cases e; exact HQ3.out.lg) (by have := HN2.out; omega)).mono ?_
  rintro e W4 ⟨rfl, v4, hw4, ht4⟩
  have HQ4 : Hid (QS w W4 (B3 + 1) p ao n cap G B3 L) := HQ3.out.below (ht4.below HW3.out)
  have HW4 : Hid (IsWriter W4 (B3 + 1) (B3 + 1) v4 (zs ++ (writtenN p L).1)) := hw4
  clear hw4 ht4 HQ3 HW3 x0 x1 x2 x3 x4
  obtain ⟨x0, x1, x2, x3, x4⟩ := HQ4.out.b0.cells
  go_wp2_with fail
  refine (written_any W4 p ao n cap L (HL.out.kept HQ4.out.bel) HN.out HK.out).mono ?_
  rintro e W5 ⟨vb, rfl, ho5, hb5⟩
  obtain ⟨a5, c5, rfl, h51, h52, _⟩ := ho5.slice
  have HQ5 : Hid (QS w W5 (B3 + 1) p ao n cap G B3 L) := HQ4.out.kept hb5
  have HW5 : Hid (IsWriter W5 (B3 + 1) (B3 + 1) v4 (zs ++ (writtenN p L).1)) := HW4.out.kept hb5
  have HY5 : Hid (BytesAt W5 a5 (writtenN p L).1 ∧ (a5 = none → c5 = 0)) := ⟨h51, h52⟩
  have HLn : Hid ((writtenN p L).1.length ≤ 3127) := written_length p L
  clear ho5 hb5 h51 h52 HQ4 HW4 x0 x1 x2 x3 x4
  generalize (writtenN p L).1 = wb at *
  generalize (writtenN p L).2 = we at *
  have HBS : Hid (BytesAt W5 ao2 zs) := HB.out.kept HQ5.out.bel
  have HB1 : Hid (∀ w', (W5.alloc (.cells #[] 5)).grownBy w' (some W5.heap.size) → Below W5.heap.size W5 w') := fun w' hg =>
    ((Below.refl _ _).alloc (Nat.le_refl _) _).trans (below_grown hg (fun k hk => by cases hk; exact Nat.le_refl _) (by simp))
  have HB2 : Hid (Below W5.heap.size W5 (W5.alloc (.cells #[] 5))) := (Below.refl _ _).alloc (Nat.le_refl _) _
  have HM2 : Hid (zs.length ≤ 140737488351232) := by have := HN2.out; show _ ≤ _; omega
  clear hm2
  go_wp2_with (first
    | (at_builtin; refine wpList_append_bytes rfl _ _ rfl W5.heap.size _ zs rfl HO6.out _ _ _ wb rfl rfl HY6.out.1 HY6.out.2 (by have := HM2.out; have := HLn.out; omega) HZ6.out.size ?_; intro v7 w7 ho7 hg7; have HB7 : Hid (Below W5.heap.size W5 w7) := HZ6.out.trans (below_grown hg7 (fun k hk => (HO6.out.2.lt k hk).1) HZ6.out.size); have HO7 : Hid (OwnB w7 W5.heap.size v7 (zs ++ wb)) := ho7; clear ho7 hg7 HO6 HY6 HZ6)
    | (at_builtin; refine wpList_append_bytes rfl _ _ rfl W5.heap.size _ [] rfl (OwnB.made (w := W5) (L := []) (by simp) (by simp) (Nat.le_refl _)) _ _ _ zs rfl HN2.out (HBS.out.kept HB2.out) HZ.out (by have := HM2.out; simp; omega) (by simp) ?_; intro v6 w6 ho6 hg6; have HZ6 : Hid (Below W5.heap.size W5 w6) := HB1.out w6 hg6; have HO6 : Hid (OwnB w6 W5.heap.size v6 zs) := ho6; have HY6 : Hid (BytesAt w6 a5 wb ∧ (a5 = none → c5 = 0)) := ⟨HY5.out.1.kept HZ6.out, HY5.out.2⟩; clear ho6 hg6))
  have HQ7 : Hid (QS w w7 (B3 + 1) p ao n cap G B3 L) := HQ5.out.kept HB7.out
  have HW7 : Hid (IsWriter w7 (B3 + 1) (B3 + 1) v4 (zs ++ wb)) := HW5.out.kept HB7.out
  have HLL : Hid ((zs ++ wb).length ≤ 140737488355328) := by have := HM2.out; have := HLn.out; rw [List.length_append]; show _ ≤ _; omega
  obtain ⟨a7, c7, rfl, h71, _, _⟩ := HO7.out.slice
  have HY7 : Hid (BytesAt w7 a7 (zs ++ wb)) := h71
  have HZ7 : Hid (∀ z ∈ zs ++ wb, z < 256) := HO7.out.1
  clear h71 HO7 HB7 HQ5 HW5 HY5 HBS HB1 HB2
  refine (wOut_any w7 (B3 + 1) (B3 + 1) v4 (zs ++ wb) HW7.out HLL.out).mono ?_
  rintro e W8 ⟨rfl, hr8, hb8, _⟩
  have HQ8 : Hid (QS w W8 (B3 + 1) p ao n cap G B3 L) := HQ7.out.kept hb8
  have HY8 : Hid (BytesAt W8 a7 (zs ++ wb)) := HY7.out.kept hb8
  have HX8 : Hid (BytesAt W8 (some ⟨w7.heap.size, 0, none⟩) (zs ++ wb)) := RowAt.bytes0 (R := []) (by rw [List.append_nil]; exact hr8) HZ7.out
  clear hr8 hb8 HY7 HW7 HQ7
  generalize w7.heap.size = g8 at *
  go_wp2_with fail
  refine (same_any W8 _ _ _ _ _ _ (zs ++ wb) (zs ++ wb) (by simp) (by simp) HX8.out HY8.out (by have := HLL.out; unfold maxLen; omega)).mono ?_
  rintro e W9 ⟨rfl, q9, rfl⟩
  have HQ9 : Hid (QS w (W8.drewN q9) (B3 + 1) p ao n cap G B3 L) := HQ8.out.kept ⟨rfl, rfl, rfl, Nat.le_refl _, fun _ _ => rfl⟩
  clear HQ8 HY8 HX8
  rw [decide_eq_true (rfl : zs ++ wb = zs ++ wb)]
  generalize W8.drewN q9 = W9 at *
  obtain ⟨x0, x1, x2, x3, x4⟩ := HQ9.out.b3.cells
  obtain ⟨y0, y1, y2, y3, y4⟩ := HQ9.out.b0.cells
  go_wp2_with fail
  refine (intact_eq W9 p ao G n cap L HQ9.out.row (HL.out.kept HQ9.out.bel) HN.out hm).mono ?_
  rintro e WA ⟨rfl, gA⟩
  have HBB : Hid (Below w.heap.size w WA) := HQ9.out.bel.trans ((Grew.below gA).mono HQ9.out.bel.size)
  clear gA
  go_wp2
  go_ret
  exact ⟨rfl, HBB.out⟩
end Go.Proofs.Ytjmlogljfboleaa
