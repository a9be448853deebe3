/-
  THE WALKS OF THE DOCUMENT's all, Rises, Has.
-/
import Derived.Test.YtibdogniiglcjabKWalk
import Derived.Test.YtibdogniiglcjabKFind
import Derived.Test.YtibdogniiglcjabKLst
namespace Go.Proofs.Ytibdogniiglcjab
open Go.RowKit Go.Sort

set_option maxHeartbeats 2000000 in
set_option maxRecDepth 100000 in
theorem refAll_any (w : World) (ao : Option Addr) (cap n : Nat) (L : List K) (hn : n = L.length) (h : KeysAt w ao L) (hm : n ≤ 8796093022208) :
    Calls Try.prog 78 #[.slice ao n cap] w fun e w' => e = .returned (.bool (L.all isKey)) ∧ ∃ q os, w' = grow (w.drewN q) os := by
  have HN : Hid (n = L.length) := hn
  have HK : Hid (KeysAt w ao L) := h
  clear hn h
  go_enter Try.func78, Try.ntmps78
  go_wp2_with fail
  go_loopw [3] (fun x wr => ∃ k : Nat, k ≤ n ∧ x = .int .i64 (k : Int) ∧ Hid ((L.take k).all isKey = true) ∧ Hid (Grew w wr)) (fun x _ => n - (intOf x).toNat)
  case atStart => exact ⟨0, Nat.zero_le _, rfl, by simp [Hid], Grew.refl _⟩
  case round =>
    obtain ⟨k, hk, rfl, HA, HG⟩ := hrel
    by_cases hlt : k < n
    · have hl : k < L.length := by have := HN.out; omega
      rcases HK.out.grew HG.out with h0 | ⟨b, off, rfl, hc⟩
      · rw [h0] at hl; simp at hl
      · obtain ⟨c1, c2⟩ := KeysAt.at hc k hl
        have HT : Hid (isKey (kd L k) = true → (L.take (k + 1)).all isKey = true) := all_take L k HA.out hl
        have HF : Hid (isKey (kd L k) = false → L.all isKey = false) := all_false hl
        generalize kd L k = kk at *
        obtain ⟨t, r⟩ := kk
        simp only at c1 c2
        clear hc hl
        have HC : Hid (∀ b, isKey (t, r) = b → ∀ w, Calls Try.prog 99 #[.agg #[.int .i64 t, .int .i64 r]] w fun e w' => e = .returned (.int .i64 (errOf b 20)) ∧ ∃ q os, w' = grow (w.drewN q) os) := fun b hb w => hb ▸ refCheck_any w t r
        cases hik : isKey (t, r) with
        | false =>
          have HE : Hid (L.all isKey = false) := HF.out hik
          have HC1 := HC.out _ hik
          simp only [errOf] at HC1
          have HC2 : Hid _ := HC1
          clear HT HF HC hik HC1
          go_wp2_with fail
          refine (HC2.out _).mono ?_
          rintro e w1 ⟨rfl, hg⟩
          go_wp2
          go_ret
          exact ⟨by rw [HE.out]; rfl, HG.out.trans hg⟩
        | true =>
          have HE : Hid ((L.take (k + 1)).all isKey = true) := HT.out hik
          have HC1 := HC.out _ hik
          simp only [errOf] at HC1
          have HC2 : Hid _ := HC1
          clear HT HF HC hik HC1
          go_wp2_with fail
          refine (HC2.out _).mono ?_
          rintro e w1 ⟨rfl, hg⟩
          have HG1 : Hid (Grew w w1) := HG.out.trans hg
          clear hg
          go_wp2_with fail
          go_roundw
          case rel => exact ⟨k + 1, by omega, by go_num, HE, HG1⟩
          case measure => simp [intOf]; omega
    · obtain rfl : k = n := by omega
      have HE : Hid (L.all isKey = true) := by have := HA.out; rwa [HN.out, List.take_length] at this
      go_wp2
      go_ret
      exact ⟨by rw [HE.out]; rfl, HG.out⟩

end Go.Proofs.Ytibdogniiglcjab
