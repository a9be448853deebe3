/-
  THE WALKS OF transfer, awake.
-/
import Derived.Test.YtkjmeknaedapjaaLEnc
import Derived.Test.YtkjmeknaedapjaaLLongest
namespace Go.Proofs.Ytkjmeknaedapjaa
open Go.RowKit Go.Sort

def trX : Pr := ⟨⟨#[110, 111, 116, 104, 105, 110, 103]⟩, ⟨0, 0, 0, 0⟩, none, 0, 0, []⟩
def trY (G : Nat) : Pr := ⟨⟨#[112, 117, 116]⟩, ⟨1, 0, 1, 0⟩, some ⟨G, 0, none⟩, 2, 2, [(6, 0), (32, 0)]⟩
def trP (G : Nat) : List Pr := [trX, trY G]
theorem tr_check (G : Nat) : checkN (trP G) = (0, 0) := by
  refine checkN_zero (by simp [trP]) fun i hi => ?_
  have hi' : i < 2 := hi
  obtain rfl | rfl : i = 0 ∨ i = 1 := by omega
  · rw [chkOne_good (Ps := trP G) (i := 0) (show nameB trX.name = true by decide +kernel) rfl]
    show verifyN ⟨0, 0, 0, 0⟩ [] = 0
    decide +kernel
  · rw [chkOne_good (Ps := trP G) (i := 1) (show nameB (trY 0).name = true by decide +kernel) (show hasB [trX] (trY 0).name = false by decide +kernel)]
    show verifyN ⟨1, 0, 1, 0⟩ [(6, 0), (32, 0)] = 0
    decide +kernel
def trB : List Nat := [80, 82, 76, 49, 2, 7, 110, 111, 116, 104, 105, 110, 103, 0, 0, 0, 0, 0, 3, 112, 117, 116, 1, 0, 1, 0, 2, 6, 32]
theorem tr_enc (G : Nat) : encN (trP G) = trB := by
  show encN (trP 0) = trB
  decide +kernel
theorem tr_long : longestN ⟨1, 0, 1, 0⟩ [(6, 0), (32, 0)] = (2, 0) := by decide +kernel
theorem LibAt.tr {W : World} {G g : Nat} (hG : W.heap[G]? = some (.cells #[.int .i64 6, .int .i64 0, .int .i64 32, .int .i64 0] 61 (0, 0)))
    (hg : W.heap[g]? = some (.cells #[.string ⟨#[110, 111, 116, 104, 105, 110, 103]⟩, .int .i64 0, .int .i64 0, .int .i64 0, .int .i64 0, .slice none 0 0, .string ⟨#[112, 117, 116]⟩, .int .i64 1, .int .i64 0, .int .i64 1, .int .i64 0, .slice (some ⟨G, 0, none⟩) 2 2] 41 (0, 0))) :
    LibAt W (some ⟨g, 0, none⟩) (trP G) := by
  refine ⟨.inr ⟨g, 0, rfl, fun j u hu => ?_⟩, fun x hx => ?_⟩
  · have e : W.cell? ⟨g, 0 + j, none⟩ = (prcs (trP G)).toArray[j]? := by
      simp only [World.cell?, hg, Nat.zero_add]; rfl
    rw [e]
    simpa using hu
  · simp only [trP, List.mem_cons, List.not_mem_nil, or_false] at hx
    rcases hx with rfl | rfl
    · exact ⟨rfl, .inl rfl, by show NIn ⟨0, 0, 0, 0⟩; unfold NIn In64; decide, (fun k hk => by cases hk), (fun _ => rfl), by show (ByteArray.size ⟨#[110, 111, 116, 104, 105, 110, 103]⟩) ≤ _; decide +kernel, by show 0 * 16 ≤ _; omega⟩
    · refine ⟨rfl, .inr ⟨G, 0, rfl, fun j u hu => ?_⟩, by show NIn ⟨1, 0, 1, 0⟩; unfold NIn In64; decide, fun k hk => ?_, (fun e => by cases e), by show (ByteArray.size ⟨#[112, 117, 116]⟩) ≤ _; decide +kernel, by show 2 * 16 ≤ _; omega⟩
      · have hu' : (cks [(6, 0), (32, 0)])[j]? = some u := hu
        have e : W.cell? ⟨G, 0 + j, none⟩ = (cks [(6, 0), (32, 0)]).toArray[j]? := by
          simp only [World.cell?, hG, Nat.zero_add]; rfl
        rw [e]
        simpa using hu'
      · have hk' : k ∈ [((6 : Int), (0 : Int)), (32, 0)] := hk
        simp only [List.mem_cons, List.not_mem_nil, or_false] at hk'
        rcases hk' with rfl | rfl <;> (unfold KIn In64; decide)

set_option maxHeartbeats 1000000 in
theorem transfer_any (w : World) : Calls Try.prog 10 #[] w fun e w' => e = .returned (.slice (some ⟨w.heap.size + 1, 0, none⟩) 2 2) ∧ LibAt w' (some ⟨w.heap.size + 1, 0, none⟩) (trP w.heap.size) ∧ Below w.heap.size w w' := by
  go_enter Try.func10, Try.ntmps10
  go_wp2
  go_ret
  refine ⟨rfl, LibAt.tr ?_ ?_, (((Below.refl _ _).alloc (Nat.le_refl _) _)).alloc (by simp) _⟩
  · rw [heap_alloc_old _ _ (by simp)]
    exact heap_alloc_new _ _ rfl
  · exact heap_alloc_new _ _ (by simp)

theorem head_string (W : World) (g : Nat) (h : RowAt W g trB) : (convert 23 9 (.slice (some ⟨g, 0, none⟩) 4 29)).run Try.prog W = .ok (.string ⟨#[80, 82, 76, 49]⟩) W := by
  refine run_convert_bytes_back (P := Try.prog) W 23 9 5 ⟨g, 0, none⟩ 29 [80, 82, 76, 49] Try.underlying23 Try.underlying5 Try.underlying9 fun j hj => ?_
  have hj' : j < 4 := by simpa using hj
  rw [Go.WideShapes.add_plain, Nat.zero_add, h.cell j (by show j < 29; omega)]
  obtain rfl | rfl | rfl | rfl : j = 0 ∨ j = 1 ∨ j = 2 ∨ j = 3 := by omega
  all_goals rfl
set_option maxHeartbeats 1000000 in
theorem awake_any (w : World) : Calls Try.prog 4 #[] w fun e w' => e = .returned (.bool true) ∧ Below w.heap.size w w' := by
  go_enter Try.func4, Try.ntmps4
  go_wp2_with fail
  refine (transfer_any w).mono ?_
  rintro e w1 ⟨rfl, hl1, hb1⟩
  have HL1 : Hid (LibAt w1 (some ⟨w.heap.size + 1, 0, none⟩) (trP w.heap.size)) := hl1
  have HB1 : Hid (Below w.heap.size w w1) := hb1
  clear hl1 hb1
  go_wp2_with fail
  refine (check_any w1 _ 2 2 (trP w.heap.size) HL1.out rfl (by omega) (by omega)).mono ?_
  rintro e w2 ⟨rfl, hb2⟩
  have HB2 : Hid (Below w.heap.size w w2) := HB1.out.trans (hb2.mono HB1.out.size)
  rw [tr_check]
  clear hb2 HB1 HL1
  go_wp2_with fail
  refine (transfer_any w2).mono ?_
  rintro e w3 ⟨rfl, hl3, hb3⟩
  have HL3 : Hid (LibAt w3 (some ⟨w2.heap.size + 1, 0, none⟩) (trP w2.heap.size)) := hl3
  have HB3 : Hid (Below w.heap.size w w3) := HB2.out.trans (hb3.mono HB2.out.size)
  clear hl3 hb3 HB2
  go_wp2_with fail
  refine (encode_any w3 _ 2 2 (trP w2.heap.size) HL3.out rfl (by omega) (by omega)).mono ?_
  rintro e w4 ⟨hp4, hb4⟩
  obtain ⟨g, rfl, hr4, hg4⟩ : ∃ g, e = .returned (.tuple #[.slice (some ⟨g, 0, none⟩) trB.length trB.length, .int .i64 0]) ∧ RowAt w4 g trB ∧ w3.heap.size ≤ g := by
    rcases hp4 with ⟨h1, _⟩ | ⟨_, g, h2, h3, h4⟩
    · rw [tr_check] at h1; exact absurd rfl h1
    · rw [tr_enc] at h2 h3; exact ⟨g, h2, h3, h4⟩
  rw [show trB.length = 29 from rfl]
  have HR4 : Hid (RowAt w4 g trB) := hr4
  have HB4 : Hid (Below w.heap.size w w4) := HB3.out.trans (hb4.mono HB3.out.size)
  clear hp4 hb4 hr4 hg4 HB3 HL3
  go_wp2_with fail
  refine (transfer_any w4).mono ?_
  rintro e w5 ⟨rfl, hl5, hb5⟩
  have HR5 : Hid (RowAt w5 g trB) := HR4.out.below hb5 HR4.out.lt
  have HB5 : Hid (Below w.heap.size w w5) := HB4.out.trans (hb5.mono HB4.out.size)
  obtain ⟨b, off, e, _, c1, c2, c3, c4, c5⟩ := hl5.at_.get 1 (by show 1 < 2; omega)
  cases e
  simp only [Nat.zero_add, Nat.one_mul] at c1 c2 c3 c4 c5
  have HO : Hid (PrOK w5 (trY w4.heap.size)) := hl5.ok _ (by simp [trP])
  have e1 : pd (trP w4.heap.size) 1 = trY w4.heap.size := rfl
  rw [e1] at c1 c2 c3 c4 c5
  simp only [trY] at c1 c2 c3 c4 c5
  clear hl5 hb5 HR4 HB4 e1
  go_wp2_with fail
  refine (longest_any w5 ⟨1, 0, 1, 0⟩ (some ⟨w4.heap.size, 0, none⟩) 2 2 [(6, 0), (32, 0)] HO.out.nin HO.out.ks rfl).mono ?_
  rintro e w6 ⟨rfl, hb6⟩
  have HR6 : Hid (RowAt w6 g trB) := HR5.out.below hb6 HR5.out.lt
  have HB6 : Hid (Below w.heap.size w w6) := HB5.out.trans (hb6.mono HB5.out.size)
  rw [tr_long]
  have hcv := head_string w6 g HR6.out
  have d4 := HR6.out.cell 4 (by decide)
  rw [show ((trB.getD 4 0 : Nat) : Int) = 2 from rfl] at d4
  clear hb6 HR5 HB5 c1 c2 c3 c4 c5 HO
  go_wp2
  go_ret
  exact ⟨rfl, HB6.out⟩
end Go.Proofs.Ytkjmeknaedapjaa
