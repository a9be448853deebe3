/-
  THE WALKS OF Fail, Err.
-/
import Derived.Test.YtkjmeknaedapjaaRaw
namespace Go.Proofs.Ytkjmeknaedapjaa
open Go.RowKit

theorem rFail_any (w : World) (r : Nat) (a : Option Addr) (c : Nat) (b : List Nat) (p : Nat) (e x : Int) (h : IsReader w r a c b p e) :
    Calls Try.prog 23 #[.pointer (some ⟨r, 0, none⟩), .int .i64 x] w fun e' w' => e' = .returned (.tuple #[]) ∧ Reads w r a c b p (if e = 0 then x else e) w' := by
  have HR : Hid (IsReader w r a c b p e) := h
  have h2 := h.c2
  have f2 := h.frozen 2
  clear h
  go_enter Try.func23, Try.ntmps23
  by_cases he : e = 0
  · subst he
    have HW' : Hid (Reads w r a c b p x (w.setCell ⟨r, 2, none⟩ (.int .i64 x))) := ⟨HR.out.setErr x, grown_setCell w ⟨r, 2, none⟩ _⟩
    go_wp2
    go_end0
    exact ⟨rfl, HW'.out⟩
  · have he' : (e == 0) = false := by rw [beq_eq_false_iff_ne]; exact he
    go_wp2
    go_end0
    exact ⟨rfl, HR.out, World.grownBy.refl _ _⟩
theorem rErr_any (w : World) (r : Nat) (a : Option Addr) (c : Nat) (b : List Nat) (p : Nat) (e : Int) (h : IsReader w r a c b p e) :
    Calls Try.prog 42 #[.pointer (some ⟨r, 0, none⟩)] w fun e' w' => e' = .returned (.int .i64 e) ∧ w' = w := by
  have h2 := h.c2
  clear h
  go_enter Try.func42, Try.ntmps42
  go_wp2
  go_ret
  exact ⟨rfl, rfl⟩
end Go.Proofs.Ytkjmeknaedapjaa
