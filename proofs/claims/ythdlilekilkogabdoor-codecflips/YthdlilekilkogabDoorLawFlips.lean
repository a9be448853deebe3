/-
  THE WALK OF CodecFlips.
-/
import Derived.Test.YthdlilekilkogabDoorSeal
import Derived.Test.YthdlilekilkogabDoorUnsealAny
import Derived.Test.YthdlilekilkogabDoorSame
import Derived.Test.YthdlilekilkogabDoorRecFlip
namespace Go.Proofs.YthdlilekilkogabDoor
open Go.RowKit

theorem place_of (a : Int) (n : Nat) (h0 : 0 < n) (hn : n ≤ 281474976710656) : ∃ p : Nat, p < n ∧ wrap64 ((IntKind.u64.wrap a).tmod (n : Int)) = (p : Int) := by
  have h1 := wrap_u64_nonneg a
  generalize IntKind.u64.wrap a = x at *
  have h2 : x.tmod (n : Int) = x % (n : Int) := Int.tmod_eq_emod_of_nonneg h1
  have h3 := Int.emod_nonneg x (show (n : Int) ≠ 0 by omega)
  have h4 := Int.emod_lt_of_pos x (show (0 : Int) < (n : Int) by omega)
  rw [h2]
  generalize x % (n : Int) = y at *
  refine ⟨y.toNat, by omega, ?_⟩
  rw [IntWalk.wrap64_in y ⟨by omega, by omega⟩]
  omega

set_option maxHeartbeats 1000000 in
theorem flips_walk (w : World) (ao : Option Addr) (cap n kind by_ : Nat) (at_ : Int) (zs : List Nat) (hn : n = zs.length) (h : BytesAt w ao zs) (hnil : ao = none → cap = 0) (hk : kind < 256) (hby : by_ < 256) (ht : TabAt w) :
    Calls Tryd.prog 5 #[.agg #[.int .u8 (kind : Int), .slice ao n cap, .int .i64 at_, .int .u8 (by_ : Int)]] w fun e w' => e = .returned (.bool true) ∧ Below w.heap.size w w' := by
  have HN : Hid (n = zs.length) := hn
  have HA : Hid (BytesAt w ao zs) := h
  have HT : Hid (TabAt w) := ht
  clear hn h ht
  go_enter Tryd.func5, Tryd.ntmps5
  go_wp2
  go_quiet (fail)
  by_cases hg : 16777216 < n
  · have hg' : (16777216 : Int) < (n : Int) := by omega
    go_wp2
    go_ret
    exact ⟨rfl, below_drewN ((Below.refl _ _).alloc (Nat.le_refl _) _) _⟩
  · have hg' : ¬ (16777216 : Int) < (n : Int) := by omega
    go_wp2_with fail
    obtain ⟨w1, hw1⟩ : ∃ w1, w1 = (w.alloc (.cells #[.int .u8 (kind : Int), .slice ao n cap, .int .i64 at_, .int .u8 (by_ : Int)] 37)).drewN nq := ⟨_, rfl⟩
    rw [← hw1]
    have HB1 : Hid (Below w.heap.size w w1) := by rw [hw1]; exact below_drewN ((Below.refl _ _).alloc (Nat.le_refl _) _) _
    have HA1 : Hid (BytesAt w1 ao zs) := HA.out.kept HB1.out
    have HT1 : Hid (TabAt w1) := HT.out.kept HB1.out
    have hgn : n ≤ 16777216 := by omega
    clear hw1 hg hg'
    refine (seal_any w1 ao cap n kind zs HN.out HA1.out hnil hk hgn HT1.out).mono ?_
    rintro e w2 ⟨v2, rfl, hown2, hbel2⟩
    have HB2 : Hid (Below w.heap.size w w2) := HB1.out.trans (hbel2.mono HB1.out.size)
    have hlen : (Rec.sealed kind zs).length = n + 13 := by rw [Rec.sealed_length, HN.out]
    rcases hown2.shape with ⟨_, h0⟩ | ⟨g, cap2, rfl, hg1, hg2, hc2, hm2, hb2⟩
    · rw [h0] at hlen; simp at hlen
    rw [hlen] at hc2 hown2 ⊢
    have HO2 : Hid (OwnB w2 w1.heap.size (.slice (some ⟨g, 0, none⟩) (n + 13) cap2) (Rec.sealed kind zs)) := hown2
    have HS2 : Hid (BytesAt w2 (some ⟨g, 0, none⟩) (Rec.sealed kind zs)) := hb2
    have HL : Hid ((Rec.sealed kind zs).length = n + 13) := hlen
    have HA2 : Hid (BytesAt w2 ao zs) := HA.out.kept HB2.out
    have HT2 : Hid (TabAt w2) := HT1.out.kept hbel2
    have HG : Hid (w.heap.size ≤ g) := Nat.le_trans HB1.out.size hg1
    have hgl : g < w2.heap.size := hg2
    clear hown2 hbel2 hlen hb2 hg1 hg2 HA1 HT1 HB1
    have hne : (((n : Int) + 13) != ((n : Int) + 13)) = false := by simp
    go_wp2_with fail
    refine (unseal_any w2 _ cap2 (n + 13) 0 (Rec.sealed kind zs) HL.out.symm HS2.out (by omega) (by omega) hm2 (by simp) HT2.out).mono ?_
    rw [← List.append_nil (Rec.sealed kind zs), Rec.opened_sealed kind zs (by rw [← HN.out]; exact hgn) [] rfl]
    rintro e w3 ⟨v3, rfl, hown3, hbel3⟩
    have HB3 : Hid (Below w.heap.size w w3) := HB2.out.trans (hbel3.mono HB2.out.size)
    have HA3 : Hid (BytesAt w3 ao zs) := HA2.out.kept hbel3
    have HT3 : Hid (TabAt w3) := HT2.out.kept hbel3
    have HO3 : Hid (OwnB w3 w1.heap.size (.slice (some ⟨g, 0, none⟩) (n + 13) cap2) (Rec.sealed kind zs)) := HO2.out.kept hbel3
    have hgl3 : g < w3.heap.size := Nat.lt_of_lt_of_le hgl hbel3.size
    obtain ⟨a3, c3, hv3, hb3, hn3, hl3⟩ := hown3.slice
    have HL3 : Hid (BytesAt w3 a3 zs) := hb3
    simp only at hv3
    rw [← HN.out] at hv3
    subst hv3
    clear hown3 hbel3 hb3 hn3 hl3 HA2 HT2 HB2 HO2 HS2
    rw [← HN.out]
    have hk0 : ((kind : Int) != (kind : Int)) = false := by simp
    go_wp2_with fail
    refine (same_any w3 a3 ao c3 cap n n zs zs HN.out HN.out HL3.out HA3.out (by rw [← HN.out]; unfold maxLen; omega)).mono ?_
    rintro e w4 ⟨rfl, q, hq⟩
    have HB4 : Hid (Below w.heap.size w w4) := by rw [hq]; exact below_drewN HB3.out q
    have HT4 : Hid (TabAt w4) := by rw [hq]; exact HT3.out
    have HO4 : Hid (OwnB w4 w1.heap.size (.slice (some ⟨g, 0, none⟩) (n + 13) cap2) (Rec.sealed kind zs)) := by rw [hq]; exact HO3.out
    have hgl4 : g < w4.heap.size := by rw [hq]; exact hgl3
    clear hq HB3 HA3 HT3 HO3 HL3 hgl3
    rw [show decide (zs = zs) = true from by simp]
    by_cases h0 : by_ = 0
    · subst h0
      go_wp2
      go_ret
      exact ⟨rfl, HB4.out⟩
    · have h0' : ((by_ : Int) == 0) = false := by rw [beq_eq_false_iff_ne]; omega
      obtain ⟨p, hp, hpe⟩ := place_of at_ (n + 13) (by omega) (by omega)
      have hpe' : wrap64 ((IntKind.u64.wrap at_).tmod ((n : Int) + 13)) = (p : Int) := by rw [← hpe]; congr 2
      have hc : w4.cell? ⟨g, p, none⟩ = some (.int .u8 (((Rec.sealed kind zs).getD p 0 : Nat) : Int)) := HO4.out.cell p (by rw [HL.out]; exact hp)
      have hf := HO4.out.frozen p
      have HZ : Hid (∀ z ∈ Rec.sealed kind zs, z < 256) := HO4.out.1
      have hold : (Rec.sealed kind zs).getD p 0 < 256 := Rec.getD_lt HO4.out.1 p
      have hx := u8_xor_nat ((Rec.sealed kind zs).getD p 0) by_ hold hby
      have hxl : (Rec.sealed kind zs).getD p 0 ^^^ by_ < 256 := Nat.xor_lt_two_pow (n := 8) hold hby
      have HO5 : Hid (OwnB (w4.setCell ⟨g, p, none⟩ (.int .u8 (((Rec.sealed kind zs).getD p 0 ^^^ by_ : Nat) : Int))) w1.heap.size (.slice (some ⟨g, 0, none⟩) (n + 13) cap2) (Rec.flip (Rec.sealed kind zs) p by_)) := HO4.out.set p _ hxl
      have HB5 : Hid (Below w.heap.size w (w4.setCell ⟨g, p, none⟩ (.int .u8 (((Rec.sealed kind zs).getD p 0 ^^^ by_ : Nat) : Int)))) := HB4.out.setCell HG.out _
      have HT5 : Hid (TabAt (w4.setCell ⟨g, p, none⟩ (.int .u8 (((Rec.sealed kind zs).getD p 0 ^^^ by_ : Nat) : Int)))) := HT.out.kept HB5.out
      have HE : Hid ((Rec.opened (Rec.flip (Rec.sealed kind zs) p by_) 0).2.2.2 ≠ 0) := Rec.opened_flip kind zs p by_ hk HA.out.1 (by rw [← HN.out]; exact hgn) (by rw [← HN.out]; exact hp) hby h0
      have HL5 : Hid (n + 13 = (Rec.flip (Rec.sealed kind zs) p by_).length) := by rw [Hid, Rec.flip_length, HL.out]
      clear hpe h0 hold hxl HO4 HB4 HT4
      generalize (Rec.sealed kind zs).getD p 0 ^^^ by_ = nw at *
      generalize (Rec.sealed kind zs).getD p 0 = old at *
      go_wp2_with fail
      refine (unseal_any _ _ cap2 (n + 13) 0 (Rec.flip (Rec.sealed kind zs) p by_) HL5.out HO5.out.bytes.1 (by omega) (by omega) hm2 (by simp) HT5.out).mono ?_
      rintro e w6 ⟨v6, rfl, hown6, hbel6⟩
      have HB6 : Hid (Below w.heap.size w w6) := HB5.out.trans (hbel6.mono HB5.out.size)
      clear hown6 hbel6
      generalize Rec.opened (Rec.flip (Rec.sealed kind zs) p by_) 0 = r at *
      have hr : (r.2.2.2 != 0) = true := by rw [bne_iff_ne]; exact HE.out
      go_wp2
      go_ret
      exact ⟨rfl, HB6.out⟩

end Go.Proofs.YthdlilekilkogabDoor
