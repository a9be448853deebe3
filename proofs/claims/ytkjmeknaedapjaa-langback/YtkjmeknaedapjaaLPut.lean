/-
  THE WALKS OF putInstr, Put.
-/
import Derived.Test.YtkjmeknaedapjaaLDepths
import Derived.Test.YtkjmeknaedapjaaLPMath
namespace Go.Proofs.Ytkjmeknaedapjaa
open Go.RowKit Go.Sort

set_option maxRecDepth 100000 in
set_option maxHeartbeats 1000000 in
theorem putInstr_any (w : World) (base r : Nat) (v : Value) (M : List Nat) (op a : Int) (h : IsWriter w base r v M) (ho : isOpB op = true) (ha : In64 a) (hl : M.length + 12 ≤ 140737488355328) :
    Calls Try.prog 37 #[.pointer (some ⟨r, 0, none⟩), kv (op, a)] w fun e w' => e = .returned (.tuple #[]) ∧ ∃ v', IsWriter w' base r v' (M ++ instrB (op, a)) ∧ Wrote w w' r v v' := by
  simp only [isOpB, Bool.and_eq_true, decide_eq_true_eq] at ho
  obtain ⟨o, rfl⟩ := Int.eq_ofNat_of_zero_le ho.1
  have ho1 : o < 37 := by omega
  have HI : Hid (In64 a) := ha
  have HW : Hid (IsWriter w base r v M) := h
  have h64 := or64 o ho1
  clear h ha ho
  have HW1 : Hid (IsWriter (w.alloc (.cells #[.int .i64 (o : Int), .int .i64 a] 61)) base r v M) := HW.out.alloc _
  have HT1 : Hid (Wrote w (w.alloc (.cells #[.int .i64 (o : Int), .int .i64 a] 61)) r v v) := wrote_alloc _ _ _ _
  obtain ⟨c0, c1⟩ : Box (w.alloc (.cells #[.int .i64 (o : Int), .int .i64 a] 61)) w.heap.size (o : Int) a := Box.new rfl
  have HX : Hid (Box (w.alloc (.cells #[.int .i64 (o : Int), .int .i64 a] 61)) w.heap.size (o : Int) a) := ⟨c0, c1⟩
  have HR : Hid (w.heap.size ≠ r ∧ v.ownBlock ≠ some w.heap.size) := ⟨by have := HW.out.lt; omega, fun e => by have := (HW.out.2.1.2.lt _ e).2; omega⟩
  by_cases h0 : a = 0
  · subst h0
    go_enter Try.func37, Try.ntmps37
    go_wp2_with fail
    refine (wByte_any _ base r o v M HW1.out (by omega) (by omega)).mono ?_
    rintro e w2 ⟨rfl, v2, hw2, hb2⟩
    go_wp2
    exact bodyPost_ret (v := .tuple #[]) (by simp [results, Try.results37, go_sem]) rfl ⟨rfl, v2, by simpa [instrB] using hw2, HT1.out.trans hb2⟩
  · have h0' : (a == 0) = false := by simpa using h0
    go_enter Try.func37, Try.ntmps37
    go_wp2_with fail
    refine (wByte_any _ base r (o + 64) v M HW1.out (by omega) (by omega)).mono ?_
    rintro e w2 ⟨rfl, v2, hw2, hb2⟩
    have HW2 : Hid (IsWriter w2 base r v2 (M ++ [o + 64])) := hw2
    have HT2 : Hid (Wrote w w2 r v v2) := HT1.out.trans hb2
    have d1 : w2.cell? ⟨w.heap.size, 1, none⟩ = some (.int .i64 a) := by
      have := HX.out.2
      simp only [World.cell?] at this ⊢
      rw [hb2.block w.heap.size (by simp) HR.out.1 HR.out.2]; exact this
    clear hw2 hb2
    go_wp2_with fail
    refine (wInt_any w2 base r a v2 (M ++ [o + 64]) HW2.out HI.out.1 HI.out.2 (by simp; omega)).mono ?_
    rintro e w3 ⟨rfl, v3, hw3, hb3⟩
    go_wp2
    go_end0
    exact ⟨rfl, v3, by simpa [instrB, h0] using hw3, HT2.out.trans hb3⟩

/-- what stands while a program is written -/
structure PS (w W : World) (base r : Nat) (v v' : Value) (M' : List Nat) (p : Nums) (ao : Option Addr) (n cap : Nat) (L : List K) : Prop where
  wr : IsWriter W base r v' M'
  wt : Wrote w W r v v'
  bx : PBox W w.heap.size p ao n cap
  ks : KeysAt W ao L
  fr : v'.ownBlock ≠ some w.heap.size
  rl : r < w.heap.size
  lt : ∀ a, L ≠ [] → ao = some a → a.block < base
theorem PS.step {w W W2 : World} {base r : Nat} {v v1 v2 : Value} {M1 M2 : List Nat} {p : Nums} {ao : Option Addr} {n cap : Nat} {L : List K} (h : PS w W base r v v1 M1 p ao n cap L) (hw : IsWriter W2 base r v2 M2) (ht : Wrote W W2 r v1 v2) : PS w W2 base r v v2 M2 p ao n cap L := by
  refine ⟨hw, h.wt.trans ht, ?_, h.ks.below (ht.below h.wr) h.lt, fun e => ?_, h.rl, h.lt⟩
  · exact (ht.block _ h.bx.lt (by have := h.rl; omega) h.fr).trans h.bx
  · rcases ht.lies _ e with e1 | e1
    · exact h.fr e1
    · have := h.bx.lt; omega
theorem PS.kept {w W W2 : World} {base r : Nat} {v v1 : Value} {M1 : List Nat} {p : Nums} {ao : Option Addr} {n cap : Nat} {L : List K} (h : PS w W base r v v1 M1 p ao n cap L) (hb : Below W.heap.size W W2) : PS w W2 base r v v1 M1 p ao n cap L :=
  ⟨h.wr.kept hb, h.wt.kept hb, h.bx.kept hb, h.ks.kept hb, h.fr, h.rl, h.lt⟩
theorem PS.start {w : World} {base r : Nat} {v : Value} {M : List Nat} {p : Nums} {ao : Option Addr} {n cap : Nat} {L : List K} (h : IsWriter w base r v M) (hL : KeysAt w ao L) (hlt : ∀ a, L ≠ [] → ao = some a → a.block < base) :
    PS w (w.alloc (.cells #[.int .i64 p.args, .int .i64 p.reads, .int .i64 p.writes, .int .i64 p.locals, .slice ao n cap] 39)) base r v v M p ao n cap L :=
  ⟨h.alloc _, wrote_alloc _ _ _ _, PBox.new w p ao n cap, hL.kept ((Below.refl _ _).alloc (Nat.le_refl _) _), fun e => by have := (h.2.1.2.lt _ e).2; omega, h.lt, hlt⟩

set_option maxRecDepth 100000 in
set_option maxHeartbeats 2000000 in
theorem put_any (w : World) (base r : Nat) (v : Value) (M : List Nat) (p : Nums) (ao : Option Addr) (n cap : Nat) (L : List K) (h : IsWriter w base r v M) (hL : KeysAt w ao L) (hn : n = L.length) (hK : ∀ k ∈ L, KIn k)
    (hlt : ∀ a, L ≠ [] → ao = some a → a.block < base) (hl : M.length + 3127 ≤ 140737488355328) :
    Calls Try.prog 19 #[.pointer (some ⟨r, 0, none⟩), pv p ao n cap] w fun e w' => e = .returned (.int .i64 (writtenN p L).2) ∧ ∃ v', IsWriter w' base r v' (M ++ (writtenN p L).1) ∧ Wrote w w' r v v' := by
  have HN : Hid (n = L.length) := hn
  have HK : Hid (∀ k ∈ L, KIn k) := hK
  have HS0 : Hid (PS w (w.alloc (.cells #[.int .i64 p.args, .int .i64 p.reads, .int .i64 p.writes, .int .i64 p.locals, .slice ao n cap] 39)) base r v v M p ao n cap L) := PS.start h hL hlt
  clear hn hK h hL hlt
  go_enter Try.func19, Try.ntmps19
  go_wp2_with fail
  refine (withinLimits_any _ p ao n cap).mono ?_
  rintro e w1 ⟨rfl, g1⟩
  have HS1 : Hid (PS w w1 base r v v M p ao n cap L) := HS0.out.kept (Grew.below g1)
  clear g1 HS0
  obtain ⟨x0, x1, x2, x3, x4⟩ := HS1.out.bx.cells
  cases hlm : limB p n with
  | false =>
    have HV : Hid (writtenN p L = ([], 30)) := written_lim (by rw [← HN.out]; exact hlm)
    go_wp2
    go_ret
    rw [HV.out]
    exact ⟨rfl, v, by rw [List.append_nil]; exact HS1.out.wr, HS1.out.wt⟩
  | true =>
    obtain ⟨p0, p1, p2, p3, hm⟩ := (limB_iff p n).1 hlm
    have HLim : Hid (limB p L.length = true) := by rw [← HN.out]; exact hlm
    clear hlm
    go_wp2_with fail
    clear x0 x1 x2 x3 x4
    go_loopw [17] (fun x wr => ∃ k : Nat, k ≤ n ∧ x = .int .i64 (k : Int) ∧ Hid (opsB (L.take k) = true) ∧ Hid (PS w wr base r v v M p ao n cap L)) (fun x _ => n - (intOf x).toNat)
    case atStart => exact ⟨0, by omega, rfl, rfl, HS1⟩
    case round =>
      clear HS1
      obtain ⟨k, hk, rfl, HA, HS⟩ := hrel
      obtain ⟨x0, x1, x2, x3, x4⟩ := HS.out.bx.cells
      by_cases hlt : k < n
      · obtain ⟨kb, koff, rfl, c0, c1⟩ := HS.out.ks.get k (by have := HN.out; omega)
        have HT := opsB_take k (show k < L.length by have := HN.out; omega)
        have HOF : Hid (isOpB (cd L k).1 = false → opsB L = false) := opsB_false (by have := HN.out; omega)
        have HT2 : Hid (opsB (L.take (k + 1)) = (opsB (L.take k) && isOpB (cd L k).1)) := HT
        clear HT
        generalize hcd : cd L k = ck0 at *
        obtain ⟨op, a⟩ := ck0
        have HB2 : Hid (PS w (wr.alloc (.cells #[.int .i64 op, .int .i64 a] 61)) base r v v M p (some ⟨kb, koff, none⟩) n cap L) := HS.out.kept ((Below.refl _ _).alloc (Nat.le_refl _) _)
        go_wp2_with fail
        refine (isOp_any _ op).mono ?_
        rintro e w2 ⟨rfl, rfl⟩
        cases hop : isOpB op with
        | false =>
          have HV : Hid (writtenN p L = ([], 31)) := written_op HLim.out (HOF.out hop)
          go_wp2
          go_ret
          rw [HV.out]
          exact ⟨rfl, v, by rw [List.append_nil]; exact HB2.out.wr, HB2.out.wt⟩
        | true =>
          have HA2 : Hid (opsB (L.take (k + 1)) = true) := by rw [HT2.out, HA.out, hop]; rfl
          go_wp2
          go_roundw
          case rel => exact ⟨k + 1, by omega, by go_num, HA2, HB2⟩
          case measure => simp [intOf]; omega
      · obtain rfl : k = n := by omega
        have HO : Hid (opsB L = true) := by have := HA.out; rw [HN.out, List.take_length] at this; exact this
        have HV : Hid (writtenN p L = (progB p L, 0)) := written_ok HLim.out HO.out
        have HM0 : Hid (PS w wr base r v v (M ++ headB p k 0) p ao k cap L) := by
          have : headB p k 0 = [] := rfl
          rw [this, List.append_nil]; exact HS.out
        clear HA
        go_wp2_with fail
        generalize wr = wz at *
        clear x0 x1 x2 x3 x4 HS
        go_loopw [38] (fun x wr => ∃ j : Nat, j ≤ 5 ∧ x = .int .i64 (j : Int) ∧ ∃ v', Hid (PS w wr base r v v' (M ++ headB p k j) p ao k cap L)) (fun x _ => 5 - (intOf x).toNat)
        case atStart => exact ⟨0, by omega, rfl, v, HM0⟩
        case round =>
          clear HM0
          obtain ⟨j, hj, rfl, v1, HS⟩ := hrel
          by_cases hj5 : j < 5
          · have HH : Hid (headB p k (j + 1) = headB p k j ++ uint 10 ((headN p k).getD j 0)) := headB_succ p k j hj5
            have HLn : Hid ((M ++ headB p k j).length + 11 ≤ 140737488355328) := by have := headB_length p k j; rw [List.length_append]; show _ ≤ _; omega
            have HX : Hid (∀ x : Int, 0 ≤ x → x ≤ 256 → (headN p k).getD j 0 = x.toNat → Calls Try.prog 17 #[.pointer (some ⟨r, 0, none⟩), .int .u64 x] wr fun e w' => e = .returned (.tuple #[]) ∧ ∃ v', Hid (PS w w' base r v v' (M ++ headB p k (j + 1)) p ao k cap L)) := fun x hx0 hx1 e => by
              obtain ⟨z, rfl⟩ := Int.eq_ofNat_of_zero_le hx0
              refine (wUint_any wr base r z v1 _ HS.out.wr (by omega) HLn.out).mono ?_
              rintro e' w3 ⟨rfl, v3, hw3, hb3⟩
              refine ⟨rfl, v3, ?_⟩
              rw [HH.out, e, ← List.append_assoc]
              exact HS.out.step hw3 hb3
            clear HH HLn HS
            obtain rfl | rfl | rfl | rfl | rfl : j = 0 ∨ j = 1 ∨ j = 2 ∨ j = 3 ∨ j = 4 := by omega
            · have i0 : ∀ w, (Go.Instr.index 78 (.agg #[.int .i64 p.args, .int .i64 p.reads, .int .i64 p.writes, .int .i64 p.locals, .int .i64 (k : Int)]) (.int .i64 0)).run Try.prog w = .ok (.int .i64 p.args) w := fun _ => by kernel_rfl
              go_wp2_with fail
              refine (HX.out p.args p0.1 (by omega) rfl).mono ?_
              rintro e w3 ⟨rfl, v3, HS3⟩
              go_wp2
              go_roundw
              case rel => exact ⟨1, by omega, by go_num, v3, HS3⟩
              case measure => simp [intOf]
            · have i0 : ∀ w, (Go.Instr.index 78 (.agg #[.int .i64 p.args, .int .i64 p.reads, .int .i64 p.writes, .int .i64 p.locals, .int .i64 (k : Int)]) (.int .i64 1)).run Try.prog w = .ok (.int .i64 p.reads) w := fun _ => by kernel_rfl
              go_wp2_with fail
              refine (HX.out p.reads p1.1 (by omega) rfl).mono ?_
              rintro e w3 ⟨rfl, v3, HS3⟩
              go_wp2
              go_roundw
              case rel => exact ⟨2, by omega, by go_num, v3, HS3⟩
              case measure => simp [intOf]
            · have i0 : ∀ w, (Go.Instr.index 78 (.agg #[.int .i64 p.args, .int .i64 p.reads, .int .i64 p.writes, .int .i64 p.locals, .int .i64 (k : Int)]) (.int .i64 2)).run Try.prog w = .ok (.int .i64 p.writes) w := fun _ => by kernel_rfl
              go_wp2_with fail
              refine (HX.out p.writes p2.1 (by omega) rfl).mono ?_
              rintro e w3 ⟨rfl, v3, HS3⟩
              go_wp2
              go_roundw
              case rel => exact ⟨3, by omega, by go_num, v3, HS3⟩
              case measure => simp [intOf]
            · have i0 : ∀ w, (Go.Instr.index 78 (.agg #[.int .i64 p.args, .int .i64 p.reads, .int .i64 p.writes, .int .i64 p.locals, .int .i64 (k : Int)]) (.int .i64 3)).run Try.prog w = .ok (.int .i64 p.locals) w := fun _ => by kernel_rfl
              go_wp2_with fail
              refine (HX.out p.locals p3.1 (by omega) rfl).mono ?_
              rintro e w3 ⟨rfl, v3, HS3⟩
              go_wp2
              go_roundw
              case rel => exact ⟨4, by omega, by go_num, v3, HS3⟩
              case measure => simp [intOf]
            · have i0 : ∀ w, (Go.Instr.index 78 (.agg #[.int .i64 p.args, .int .i64 p.reads, .int .i64 p.writes, .int .i64 p.locals, .int .i64 (k : Int)]) (.int .i64 4)).run Try.prog w = .ok (.int .i64 (k : Int)) w := fun _ => by kernel_rfl
              go_wp2_with fail
              refine (HX.out (k : Int) (by omega) (by omega) rfl).mono ?_
              rintro e w3 ⟨rfl, v3, HS3⟩
              go_wp2
              go_roundw
              case rel => exact ⟨5, by omega, by go_num, v3, HS3⟩
              case measure => simp [intOf]
          · obtain rfl : j = 5 := by omega
            rw [show ((5 : Nat) : Int) = 5 from rfl]
            have HM0 : Hid (PS w wr base r v v1 (M ++ headB p k 5 ++ codeB (L.take 0)) p ao k cap L) := by
              rw [List.take_zero, codeB, List.append_nil]; exact HS.out
            obtain ⟨x0, x1, x2, x3, x4⟩ := HS.out.bx.cells
            go_wp2_with fail
            generalize wr = wy at *
            clear x0 x1 x2 x3 x4 HS
            go_loopw [49] (fun x wr => ∃ i : Nat, i ≤ k ∧ x = .int .i64 (i : Int) ∧ ∃ v', Hid (PS w wr base r v v' (M ++ headB p k 5 ++ codeB (L.take i)) p ao k cap L)) (fun x _ => k - (intOf x).toNat)
            case atStart => exact ⟨0, by omega, rfl, v1, HM0⟩
            case round =>
              clear HM0
              obtain ⟨i, hi, rfl, v2, HS⟩ := hrel
              by_cases hik : i < k
              · obtain ⟨kb, koff, rfl, c0, c1⟩ := HS.out.ks.get i (by have := HN.out; omega)
                have HIn : Hid (KIn (cd L i)) := HK.out _ (cd_mem (by have := HN.out; omega))
                have HOp : Hid (isOpB (cd L i).1 = true) := opsB_cd HO.out (by have := HN.out; omega)
                have HCt : Hid (codeB (L.take (i + 1)) = codeB (L.take i) ++ instrB (cd L i)) := codeB_take L i (by have := HN.out; omega)
                have HLn : Hid ((M ++ headB p k 5 ++ codeB (L.take i)).length + 12 ≤ 140737488355328) := by
                  have h1 := headB_length p k 5
                  have h2 := codeB_length (L.take i)
                  have h3 : (L.take i).length ≤ i := by simp; omega
                  rw [List.length_append, List.length_append]; show _ ≤ _; omega
                generalize hcd : cd L i = ck0 at *
                obtain ⟨op, a⟩ := ck0
                have HB2 : Hid (PS w (wr.alloc (.cells #[.int .i64 op, .int .i64 a] 61)) base r v v2 (M ++ headB p k 5 ++ codeB (L.take i)) p (some ⟨kb, koff, none⟩) k cap L) := HS.out.kept ((Below.refl _ _).alloc (Nat.le_refl _) _)
                go_wp2_with fail
                refine (putInstr_any _ base r v2 _ op a HB2.out.wr HOp.out HIn.out.2 HLn.out).mono ?_
                rintro e w4 ⟨rfl, v4, hw4, hb4⟩
                have HS4 : Hid (PS w w4 base r v v4 (M ++ headB p k 5 ++ codeB (L.take (i + 1))) p (some ⟨kb, koff, none⟩) k cap L) := by
                  rw [HCt.out, ← List.append_assoc]; exact HB2.out.step hw4 hb4
                clear hw4 hb4
                go_wp2
                go_roundw
                case rel => exact ⟨i + 1, by omega, by go_num, v4, HS4⟩
                case measure => simp [intOf]; omega
              · obtain rfl : i = k := by omega
                have HE : Hid (M ++ (writtenN p L).1 = M ++ headB p i 5 ++ codeB (L.take i)) := by
                  rw [HV.out, HN.out, List.take_length, List.append_assoc]; rfl
                go_wp2
                go_ret
                refine ⟨by rw [HV.out]; rfl, v2, ?_, HS.out.wt⟩
                rw [HE.out]; exact HS.out.wr
end Go.Proofs.Ytkjmeknaedapjaa
