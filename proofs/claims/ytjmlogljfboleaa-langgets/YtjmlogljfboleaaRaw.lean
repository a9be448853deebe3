/-
  THE WALKS OF codec.Reader's METHODS: Uint, Int, Raw.
-/
import Derived.Test.YtjmlogljfboleaaReader
import Derived.Test.YtjmlogljfboleaaFresh
import Derived.Deep.RegionHeld
namespace Go.Proofs.Ytjmlogljfboleaa
open Go.RowKit

theorem rUint_any (w : World) (r : Nat) (a : Option Addr) (c : Nat) (b : List Nat) (p : Nat) (e : Int) (h : IsReader w r a c b p e) :
    Calls Try.prog 78 #[.pointer (some ⟨r, 0, none⟩)] w fun e' w' => e' = .returned (.int .u64 (((rdUpto b p e 18446744073709551615).1 : Nat) : Int)) ∧ Reads w r a c b (rdUpto b p e 18446744073709551615).2.1 (rdUpto b p e 18446744073709551615).2.2 w' := by
  go_enter Try.func78, Try.ntmps78
  go_wp2_with fail
  refine (rUpto_any w r a c b p e 18446744073709551615 h).mono ?_
  rintro e1 w1 ⟨rfl, hr⟩
  go_wp2
  go_ret
  exact ⟨rfl, hr⟩

/-- a number without sign as one with -/
def unfold (n : Nat) : Int := if n % 2 = 1 then -1 - ((n / 2 : Nat) : Int) else ((n / 2 : Nat) : Int)

theorem rdUpto_lt (b : List Nat) (hz : ∀ z ∈ b, z < 256) (p : Nat) (e : Int) (most : Nat) : (rdUpto b p e most).1 < 18446744073709551616 := by
  unfold rdUpto
  split
  · simp
  · split
    · simp
    · split
      · simp
      · rename_i _ h _
        have h3 := scan_one (b.drop p) (scan (b.drop p)).1 (scan (b.drop p)).2.1 (fun z hz' => hz z (List.mem_of_mem_drop hz')) (by rw [← Decidable.not_not.1 h])
        exact h3.1

theorem rInt_any (w : World) (r : Nat) (a : Option Addr) (c : Nat) (b : List Nat) (p : Nat) (e : Int) (h : IsReader w r a c b p e) :
    Calls Try.prog 70 #[.pointer (some ⟨r, 0, none⟩)] w fun e' w' => e' = .returned (.int .i64 (unfold (rdUpto b p e 18446744073709551615).1)) ∧ Reads w r a c b (rdUpto b p e 18446744073709551615).2.1 (rdUpto b p e 18446744073709551615).2.2 w' := by
  have hlt := rdUpto_lt b h.2.1.1 p e 18446744073709551615
  go_enter Try.func70, Try.ntmps70
  go_wp2_with fail
  refine (rUint_any w r a c b p e h).mono ?_
  rintro e1 w1 ⟨rfl, hr⟩
  clear h
  have HR : Hid (Reads w r a c b (rdUpto b p e 18446744073709551615).2.1 (rdUpto b p e 18446744073709551615).2.2 w1) := hr
  clear hr
  obtain ⟨n, hnn⟩ : ∃ n, (rdUpto b p e 18446744073709551615).1 = n := ⟨_, rfl⟩
  rw [hnn] at hlt
  rw [hnn]
  have HNN : Hid ((rdUpto b p e 18446744073709551615).1 = n) := hnn
  clear hnn
  by_cases h2 : n % 2 = 1
  · have h2' : ((n : Int) % 2 == 1) = true := by rw [beq_iff_eq]; omega
    have HU : Hid (unfold n = -1 - ((n / 2 : Nat) : Int)) := by unfold unfold; rw [Hid, if_pos h2]
    clear h2
    go_wp2
    go_ret
    exact ⟨by rw [HNN.out, HU.out]; rfl, HR.out⟩
  · have h2' : ((n : Int) % 2 == 1) = false := by rw [beq_eq_false_iff_ne]; omega
    have HU : Hid (unfold n = ((n / 2 : Nat) : Int)) := by unfold unfold; rw [Hid, if_neg h2]
    clear h2
    go_wp2
    go_ret
    exact ⟨by rw [HNN.out, HU.out]; rfl, HR.out⟩

def rdRaw (b : List Nat) (p : Nat) (e : Int) (n : Int) : List Nat × Nat × Int :=
  if e ≠ 0 then ([], p, e) else if n < 0 then ([], p, 11) else if ((b.length - p : Nat) : Int) < n then ([], p, 10) else ((b.drop p).take n.toNat, p + n.toNat, 0)


end Go.Proofs.Ytjmlogljfboleaa
