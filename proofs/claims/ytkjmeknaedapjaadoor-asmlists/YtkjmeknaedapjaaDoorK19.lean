import Derived.Test.YtkjmeknaedapjaaDoorK07
import Derived.Test.YtkjmeknaedapjaaDoorK18
import Derived.Laws.IdiomStrings
import Derived.Lib.SlBytesConst
/-
  THE WALKS OF putInstr, Put.
-/
namespace Go.Proofs.YtkjmeknaedapjaaDoor
open Go.RowKit Go.Sort

set_option maxRecDepth 100000 in
set_option maxHeartbeats 1000000 in
theorem putInstr_any (w : World) (base r : Nat) (v : Value) (M : List Nat) (op a : Int) (h : IsWriter w base r v M) (ho : isOpB op = true) (ha : In64 a) (hl : M.length + 12 ≤ 140737488355328) :
    Calls Tryd.prog 57 #[.pointer (some ⟨r, 0, none⟩), kv (op, a)] w fun e w' => e = .returned (.tuple #[]) ∧ ∃ v', IsWriter w' base r v' (M ++ instrB (op, a)) ∧ Wrote w w' r v v' := by
  simp only [isOpB, Bool.and_eq_true, decide_eq_true_eq] at ho
  obtain ⟨o, rfl⟩ := Int.eq_ofNat_of_zero_le ho.1
  have ho1 : o < 37 := by omega
  have HI : Hid (In64 a) := ha
  have HW : Hid (IsWriter w base r v M) := h
  have h64 := or64 o ho1
  clear h ha ho
  have HW1 : Hid (IsWriter (w.alloc (.cells #[.int .i64 (o : Int), .int .i64 a] 87)) base r v M) := HW.out.alloc _
  have HT1 : Hid (Wrote w (w.alloc (.cells #[.int .i64 (o : Int), .int .i64 a] 87)) r v v) := wrote_alloc _ _ _ _
  obtain ⟨c0, c1⟩ : Box (w.alloc (.cells #[.int .i64 (o : Int), .int .i64 a] 87)) w.heap.size (o : Int) a := Box.new rfl
  have HX : Hid (Box (w.alloc (.cells #[.int .i64 (o : Int), .int .i64 a] 87)) w.heap.size (o : Int) a) := ⟨c0, c1⟩
  have HR : Hid (w.heap.size ≠ r ∧ v.ownBlock ≠ some w.heap.size) := ⟨by have := HW.out.lt; omega, fun e => by have := (HW.out.2.1.2.lt _ e).2; omega⟩
  by_cases h0 : a = 0
  · subst h0
    go_enter Tryd.func57, Tryd.ntmps57
    go_wp2_with fail
    refine (wByte_any _ base r o v M HW1.out (by omega) (by omega)).mono ?_
    rintro e w2 ⟨rfl, v2, hw2, hb2⟩
    go_wp2
    exact bodyPost_ret (v := .tuple #[]) (by simp [results, Tryd.results57, go_sem]) rfl ⟨rfl, v2, by simpa [instrB] using hw2, HT1.out.trans hb2⟩
  · have h0' : (a == 0) = false := by simpa using h0
    go_enter Tryd.func57, Tryd.ntmps57
    go_wp2_with fail
    refine (wByte_any _ base r (o + 64) v M HW1.out (by omega) (by omega)).mono ?_
    rintro e w2 ⟨rfl, v2, hw2, hb2⟩
    have HW2 : Hid (IsWriter w2 base r v2 (M ++ [o + 64])) := hw2
    have HT2 : Hid (Wrote w w2 r v v2) := HT1.out.trans hb2
    have d1 : w2.cell? ⟨w.heap.size, 1, none⟩ = some (.int .i64 a) := by
      have := HX.out.2
      simp only [World.cell?] at this ⊢
      rw [hb2.block w.heap.size (by simp) HR.out.1 HR.out.2]; exact this
    clear hw2 hb2
    go_wp2_with fail
    refine (wInt_any w2 base r a v2 (M ++ [o + 64]) HW2.out HI.out.1 HI.out.2 (by simp; omega)).mono ?_
    rintro e w3 ⟨rfl, v3, hw3, hb3⟩
    go_wp2
    go_end0
    exact ⟨rfl, v3, by simpa [instrB, h0] using hw3, HT2.out.trans hb3⟩

/-- what stands while a program is written -/
structure PS (w W : World) (base r : Nat) (v v' : Value) (M' : List Nat) (p : Nums) (ao : Option Addr) (n cap : Nat) (L : List K) : Prop where
  wr : IsWriter W base r v' M'
  wt : Wrote w W r v v'
  bx : PBox W w.heap.size p ao n cap
  ks : KeysAt W ao L
  fr : v'.ownBlock ≠ some w.heap.size
  rl : r < w.heap.size
  lt : ∀ a, L ≠ [] → ao = some a → a.block < base
theorem PS.step {w W W2 : World} {base r : Nat} {v v1 v2 : Value} {M1 M2 : List Nat} {p : Nums} {ao : Option Addr} {n cap : Nat} {L : List K} (h : PS w W base r v v1 M1 p ao n cap L) (hw : IsWriter W2 base r v2 M2) (ht : Wrote W W2 r v1 v2) : PS w W2 base r v v2 M2 p ao n cap L := by
  refine ⟨hw, h.wt.trans ht, ?_, h.ks.below (ht.below h.wr) h.lt, fun e => ?_, h.rl, h.lt⟩
  · exact (ht.block _ h.bx.lt (by have := h.rl; omega) h.fr).trans h.bx
  · rcases ht.lies _ e with e1 | e1
    · exact h.fr e1
    · have := h.bx.lt; omega
theorem PS.kept {w W W2 : World} {base r : Nat} {v v1 : Value} {M1 : List Nat} {p : Nums} {ao : Option Addr} {n cap : Nat} {L : List K} (h : PS w W base r v v1 M1 p ao n cap L) (hb : Below W.heap.size W W2) : PS w W2 base r v v1 M1 p ao n cap L :=
  ⟨h.wr.kept hb, h.wt.kept hb, h.bx.kept hb, h.ks.kept hb, h.fr, h.rl, h.lt⟩
theorem PS.start {w : World} {base r : Nat} {v : Value} {M : List Nat} {p : Nums} {ao : Option Addr} {n cap : Nat} {L : List K} (h : IsWriter w base r v M) (hL : KeysAt w ao L) (hlt : ∀ a, L ≠ [] → ao = some a → a.block < base) :
    PS w (w.alloc (.cells #[.int .i64 p.args, .int .i64 p.reads, .int .i64 p.writes, .int .i64 p.locals, .slice ao n cap] 41)) base r v v M p ao n cap L :=
  ⟨h.alloc _, wrote_alloc _ _ _ _, PBox.new w p ao n cap, hL.kept ((Below.refl _ _).alloc (Nat.le_refl _) _), fun e => by have := (h.2.1.2.lt _ e).2; omega, h.lt, hlt⟩

set_option maxRecDepth 100000 in
set_option maxHeartbeats 2000000 in
theorem put_any (w : World) (base r : Nat) (v : Value) (M : List Nat) (p : Nums) (ao : Option Addr) (n cap : Nat) (L : List K) (h : IsWriter w base r v M) (hL : KeysAt w ao L) (hn : n = L.length) (hK : ∀ k ∈ L, KIn k)
    (hlt : ∀ a, L ≠ [] → ao = some a → a.block < base) (hl : M.length + 3127 ≤ 140737488355328) :
    Calls Tryd.prog 28 #[.pointer (some ⟨r, 0, none⟩), pv p ao n cap] w fun e w' => e = .returned (.int .i64 (writtenN p L).2) ∧ ∃ v', IsWriter w' base r v' (M ++ (writtenN p L).1) ∧ Wrote w w' r v v' := by
  have HN : Hid (n = L.length) := hn
  have HK : Hid (∀ k ∈ L, KIn k) := hK
  have HS0 : Hid (PS w (w.alloc (.cells #[.int .i64 p.args, .int .i64 p.reads, .int .i64 p.writes, .int .i64 p.locals, .slice ao n cap] 41)) base r v v M p ao n cap L) := PS.start h hL hlt
  clear hn hK h hL hlt
  go_enter Tryd.func28, Tryd.ntmps28
  go_wp2_with fail
  refine (withinLimits_any _ p ao n cap).mono ?_
  rintro e w1 ⟨rfl, g1⟩
  have HS1 : Hid (PS w w1 base r v v M p ao n cap L) := HS0.out.kept (Grew.below g1)
  clear g1 HS0
  obtain ⟨x0, x1, x2, x3, x4⟩ := HS1.out.bx.cells
  cases hlm : limB p n with
  | false =>
    have HV : Hid (writtenN p L = ([], 30)) := written_lim (by rw [← HN.out]; exact hlm)
    go_wp2
    go_ret
    rw [HV.out]
    exact ⟨rfl, v, by rw [List.append_nil]; exact HS1.out.wr, HS1.out.wt⟩
  | true =>
    obtain ⟨p0, p1, p2, p3, hm⟩ := (limB_iff p n).1 hlm
    have HLim : Hid (limB p L.length = true) := by rw [← HN.out]; exact hlm
    clear hlm
    go_wp2_with fail
    clear x0 x1 x2 x3 x4
    go_loopw [17] (fun x wr => ∃ k : Nat, k ≤ n ∧ x = .int .i64 (k : Int) ∧ Hid (opsB (L.take k) = true) ∧ Hid (PS w wr base r v v M p ao n cap L)) (fun x _ => n - (intOf x).toNat)
    case atStart => exact ⟨0, by omega, rfl, rfl, HS1⟩
    case round =>
      clear HS1
      obtain ⟨k, hk, rfl, HA, HS⟩ := hrel
      obtain ⟨x0, x1, x2, x3, x4⟩ := HS.out.bx.cells
      by_cases hlt : k < n
      · obtain ⟨kb, koff, rfl, c0, c1⟩ := HS.out.ks.get k (by have := HN.out; omega)
        have HT := opsB_take k (show k < L.length by have := HN.out; omega)
        have HOF : Hid (isOpB (cd L k).1 = false → opsB L = false) := opsB_false (by have := HN.out; omega)
        have HT2 : Hid (opsB (L.take (k + 1)) = (opsB (L.take k) && isOpB (cd L k).1)) := HT
        clear HT
        generalize hcd : cd L k = ck0 at *
        obtain ⟨op, a⟩ := ck0
        have HB2 : Hid (PS w (wr.alloc (.cells #[.int .i64 op, .int .i64 a] 87)) base r v v M p (some ⟨kb, koff, none⟩) n cap L) := HS.out.kept ((Below.refl _ _).alloc (Nat.le_refl _) _)
        go_wp2_with fail
        refine (isOp_any _ op).mono ?_
        rintro e w2 ⟨rfl, rfl⟩
        cases hop : isOpB op with
        | false =>
          have HV : Hid (writtenN p L = ([], 31)) := written_op HLim.out (HOF.out hop)
          go_wp2
          go_ret
          rw [HV.out]
          exact ⟨rfl, v, by rw [List.append_nil]; exact HB2.out.wr, HB2.out.wt⟩
        | true =>
          have HA2 : Hid (opsB (L.take (k + 1)) = true) := by rw [HT2.out, HA.out, hop]; rfl
          go_wp2
          go_roundw
          case rel => exact ⟨k + 1, by omega, by go_num, HA2, HB2⟩
          case measure => simp [intOf]; omega
      · obtain rfl : k = n := by omega
        have HO : Hid (opsB L = true) := by have := HA.out; rw [HN.out, List.take_length] at this; exact this
        have HV : Hid (writtenN p L = (progB p L, 0)) := written_ok HLim.out HO.out
        have HM0 : Hid (PS w wr base r v v (M ++ headB p k 0) p ao k cap L) := by
          have : headB p k 0 = [] := rfl
          rw [this, List.append_nil]; exact HS.out
        clear HA
        go_wp2_with fail
        generalize wr = wz at *
        clear x0 x1 x2 x3 x4 HS
        go_loopw [38] (fun x wr => ∃ j : Nat, j ≤ 5 ∧ x = .int .i64 (j : Int) ∧ ∃ v', Hid (PS w wr base r v v' (M ++ headB p k j) p ao k cap L)) (fun x _ => 5 - (intOf x).toNat)
        case atStart => exact ⟨0, by omega, rfl, v, HM0⟩
        case round =>
          clear HM0
          obtain ⟨j, hj, rfl, v1, HS⟩ := hrel
          by_cases hj5 : j < 5
          · have HH : Hid (headB p k (j + 1) = headB p k j ++ uint 10 ((headN p k).getD j 0)) := headB_succ p k j hj5
            have HLn : Hid ((M ++ headB p k j).length + 11 ≤ 140737488355328) := by have := headB_length p k j; rw [List.length_append]; show _ ≤ _; omega
            have HX : Hid (∀ x : Int, 0 ≤ x → x ≤ 256 → (headN p k).getD j 0 = x.toNat → Calls Tryd.prog 26 #[.pointer (some ⟨r, 0, none⟩), .int .u64 x] wr fun e w' => e = .returned (.tuple #[]) ∧ ∃ v', Hid (PS w w' base r v v' (M ++ headB p k (j + 1)) p ao k cap L)) := fun x hx0 hx1 e => by
              obtain ⟨z, rfl⟩ := Int.eq_ofNat_of_zero_le hx0
              refine (wUint_any wr base r z v1 _ HS.out.wr (by omega) HLn.out).mono ?_
              rintro e' w3 ⟨rfl, v3, hw3, hb3⟩
              refine ⟨rfl, v3, ?_⟩
              rw [HH.out, e, ← List.append_assoc]
              exact HS.out.step hw3 hb3
            clear HH HLn HS
            obtain rfl | rfl | rfl | rfl | rfl : j = 0 ∨ j = 1 ∨ j = 2 ∨ j = 3 ∨ j = 4 := by omega
            · have i0 : ∀ w, (Go.Instr.index 101 (.agg #[.int .i64 p.args, .int .i64 p.reads, .int .i64 p.writes, .int .i64 p.locals, .int .i64 (k : Int)]) (.int .i64 0)).run Tryd.prog w = .ok (.int .i64 p.args) w := fun _ => by kernel_rfl
              go_wp2_with fail
              refine (HX.out p.args p0.1 (by omega) rfl).mono ?_
              rintro e w3 ⟨rfl, v3, HS3⟩
              go_wp2
              go_roundw
              case rel => exact ⟨1, by omega, by go_num, v3, HS3⟩
              case measure => simp [intOf]
            · have i0 : ∀ w, (Go.Instr.index 101 (.agg #[.int .i64 p.args, .int .i64 p.reads, .int .i64 p.writes, .int .i64 p.locals, .int .i64 (k : Int)]) (.int .i64 1)).run Tryd.prog w = .ok (.int .i64 p.reads) w := fun _ => by kernel_rfl
              go_wp2_with fail
              refine (HX.out p.reads p1.1 (by omega) rfl).mono ?_
              rintro e w3 ⟨rfl, v3, HS3⟩
              go_wp2
              go_roundw
              case rel => exact ⟨2, by omega, by go_num, v3, HS3⟩
              case measure => simp [intOf]
            · have i0 : ∀ w, (Go.Instr.index 101 (.agg #[.int .i64 p.args, .int .i64 p.reads, .int .i64 p.writes, .int .i64 p.locals, .int .i64 (k : Int)]) (.int .i64 2)).run Tryd.prog w = .ok (.int .i64 p.writes) w := fun _ => by kernel_rfl
              go_wp2_with fail
              refine (HX.out p.writes p2.1 (by omega) rfl).mono ?_
              rintro e w3 ⟨rfl, v3, HS3⟩
              go_wp2
              go_roundw
              case rel => exact ⟨3, by omega, by go_num, v3, HS3⟩
              case measure => simp [intOf]
            · have i0 : ∀ w, (Go.Instr.index 101 (.agg #[.int .i64 p.args, .int .i64 p.reads, .int .i64 p.writes, .int .i64 p.locals, .int .i64 (k : Int)]) (.int .i64 3)).run Tryd.prog w = .ok (.int .i64 p.locals) w := fun _ => by kernel_rfl
              go_wp2_with fail
              refine (HX.out p.locals p3.1 (by omega) rfl).mono ?_
              rintro e w3 ⟨rfl, v3, HS3⟩
              go_wp2
              go_roundw
              case rel => exact ⟨4, by omega, by go_num, v3, HS3⟩
              case measure => simp [intOf]
            · have i0 : ∀ w, (Go.Instr.index 101 (.agg #[.int .i64 p.args, .int .i64 p.reads, .int .i64 p.writes, .int .i64 p.locals, .int .i64 (k : Int)]) (.int .i64 4)).run Tryd.prog w = .ok (.int .i64 (k : Int)) w := fun _ => by kernel_rfl
              go_wp2_with fail
              refine (HX.out (k : Int) (by omega) (by omega) rfl).mono ?_
              rintro e w3 ⟨rfl, v3, HS3⟩
              go_wp2
              go_roundw
              case rel => exact ⟨5, by omega, by go_num, v3, HS3⟩
              case measure => simp [intOf]
          · obtain rfl : j = 5 := by omega
            rw [show ((5 : Nat) : Int) = 5 from rfl]
            have HM0 : Hid (PS w wr base r v v1 (M ++ headB p k 5 ++ codeB (L.take 0)) p ao k cap L) := by
              rw [List.take_zero, codeB, List.append_nil]; exact HS.out
            obtain ⟨x0, x1, x2, x3, x4⟩ := HS.out.bx.cells
            go_wp2_with fail
            generalize wr = wy at *
            clear x0 x1 x2 x3 x4 HS
            go_loopw [49] (fun x wr => ∃ i : Nat, i ≤ k ∧ x = .int .i64 (i : Int) ∧ ∃ v', Hid (PS w wr base r v v' (M ++ headB p k 5 ++ codeB (L.take i)) p ao k cap L)) (fun x _ => k - (intOf x).toNat)
            case atStart => exact ⟨0, by omega, rfl, v1, HM0⟩
            case round =>
              clear HM0
              obtain ⟨i, hi, rfl, v2, HS⟩ := hrel
              by_cases hik : i < k
              · obtain ⟨kb, koff, rfl, c0, c1⟩ := HS.out.ks.get i (by have := HN.out; omega)
                have HIn : Hid (KIn (cd L i)) := HK.out _ (cd_mem (by have := HN.out; omega))
                have HOp : Hid (isOpB (cd L i).1 = true) := opsB_cd HO.out (by have := HN.out; omega)
                have HCt : Hid (codeB (L.take (i + 1)) = codeB (L.take i) ++ instrB (cd L i)) := codeB_take L i (by have := HN.out; omega)
                have HLn : Hid ((M ++ headB p k 5 ++ codeB (L.take i)).length + 12 ≤ 140737488355328) := by
                  have h1 := headB_length p k 5
                  have h2 := codeB_length (L.take i)
                  have h3 : (L.take i).length ≤ i := by simp; omega
                  rw [List.length_append, List.length_append]; show _ ≤ _; omega
                generalize hcd : cd L i = ck0 at *
                obtain ⟨op, a⟩ := ck0
                have HB2 : Hid (PS w (wr.alloc (.cells #[.int .i64 op, .int .i64 a] 87)) base r v v2 (M ++ headB p k 5 ++ codeB (L.take i)) p (some ⟨kb, koff, none⟩) k cap L) := HS.out.kept ((Below.refl _ _).alloc (Nat.le_refl _) _)
                go_wp2_with fail
                refine (putInstr_any _ base r v2 _ op a HB2.out.wr HOp.out HIn.out.2 HLn.out).mono ?_
                rintro e w4 ⟨rfl, v4, hw4, hb4⟩
                have HS4 : Hid (PS w w4 base r v v4 (M ++ headB p k 5 ++ codeB (L.take (i + 1))) p (some ⟨kb, koff, none⟩) k cap L) := by
                  rw [HCt.out, ← List.append_assoc]; exact HB2.out.step hw4 hb4
                clear hw4 hb4
                go_wp2
                go_roundw
                case rel => exact ⟨i + 1, by omega, by go_num, v4, HS4⟩
                case measure => simp [intOf]; omega
              · obtain rfl : i = k := by omega
                have HE : Hid (M ++ (writtenN p L).1 = M ++ headB p i 5 ++ codeB (L.take i)) := by
                  rw [HV.out, HN.out, List.take_length, List.append_assoc]; rfl
                go_wp2
                go_ret
                refine ⟨by rw [HV.out]; rfl, v2, ?_, HS.out.wt⟩
                rw [HE.out]; exact HS.out.wr
end Go.Proofs.YtkjmeknaedapjaaDoor
/-
  THE WALK OF Encode.
-/
namespace Go.Proofs.YtkjmeknaedapjaaDoor
open Go.RowKit Go.Sort

/-- a text's bytes -/
def nmB (s : ByteArray) : List Nat := s.data.toList.map (·.toNat)
theorem nmB_length (s : ByteArray) : (nmB s).length = s.size := by simp [nmB]
theorem nmB_lt (s : ByteArray) : ∀ z ∈ nmB s, z < 256 := by
  intro z hz
  obtain ⟨b, _, rfl⟩ := List.mem_map.1 hz
  exact b.toNat_lt
/-- '[]byte(s)' -/
theorem conv_bytes (w : World) (s : ByteArray) : ∃ cap W', (convert 9 23 (.string s)).run Tryd.prog w = .ok (.slice (some ⟨w.heap.size, 0, none⟩) s.size cap) W' ∧
    BytesAt W' (some ⟨w.heap.size, 0, none⟩) (nmB s) ∧ Below w.heap.size w W' ∧ W'.heap.size = w.heap.size + 1 := by
  refine ⟨_, _, run_bytes_of_string w 9 23 5 s Tryd.underlying9 Tryd.underlying23 Tryd.underlying5, ?_, ?_, ?_⟩
  · refine ⟨nmB_lt s, .inr ⟨_, 0, rfl, fun j hj => ?_⟩⟩
    have hj' : j < s.data.size := by rw [nmB_length] at hj; exact hj
    have e := bytesRow_at s (grownCap w s.size 0 5) j hj'
    have hg : (nmB s).getD j 0 = s.data[j].toNat := by
      rw [List.getD_eq_getElem?_getD]; simp [nmB, Array.getElem?_eq_getElem hj']
    rw [hg, Nat.zero_add]
    show (World.alloc w.drew _).cell? ⟨w.drew.heap.size, j, none⟩ = _
    rw [World.cell?_alloc_mark]
    exact e
  · exact ⟨rfl, rfl, rfl, by show w.heap.size ≤ (w.heap.push _).size; rw [Array.size_push]; omega, fun k hk => by show ((w.heap.push _)[k]?) = _; rw [Array.getElem?_push_lt hk]; exact (Array.getElem?_eq_getElem hk).symm⟩
  · show (w.heap.push _).size = _; rw [Array.size_push]
/-- '[]byte("PRL1")' -/
theorem conv_head (w : World) : ∃ W', (convert 23 23 (.slice (some ⟨w.heap.size, 0, none⟩) 4 4)).run Tryd.prog (w.alloc (.cells #[.int .u8 80, .int .u8 82, .int .u8 76, .int .u8 49] 5)) = .ok (.slice (some ⟨w.heap.size, 0, none⟩) 4 4) W' ∧
    BytesAt W' (some ⟨w.heap.size, 0, none⟩) [80, 82, 76, 49] ∧ Below w.heap.size w W' := by
  refine ⟨_, Lib.run_convert_bytes_const (P := Tryd.prog) w 23 5 _ 4 4 Tryd.underlying23 Tryd.underlying5, ⟨by decide, .inr ⟨_, 0, rfl, fun j hj => ?_⟩⟩, ?_⟩
  · rw [Nat.zero_add, World.cell?_alloc_mark]
    have hj' : j < 4 := by simpa using hj
    obtain rfl | rfl | rfl | rfl : j = 0 ∨ j = 1 ∨ j = 2 ∨ j = 3 := by omega
    all_goals rfl
  · exact (Below.refl _ _).alloc (Nat.le_refl _) _
/-- a procedure's bytes -/
def procB (x : Pr) : List Nat := uint 10 x.name.size ++ nmB x.name ++ (writtenN x.p x.L).1
def procsB : List Pr → List Nat
  | [] => []
  | x :: Ps => procB x ++ procsB Ps
theorem procsB_append (A B : List Pr) : procsB (A ++ B) = procsB A ++ procsB B := by
  induction A with
  | nil => rfl
  | cons k A ih => simp [procsB, ih]
theorem procsB_take (Ps : List Pr) (k : Nat) (h : k < Ps.length) : procsB (Ps.take (k + 1)) = procsB (Ps.take k) ++ procB (pd Ps k) := by
  rw [pd_take Ps k h, procsB_append]; simp [procsB]
theorem procB_length (x : Pr) (h : x.name.size ≤ 31) : (procB x).length ≤ 3200 := by
  have h1 := uint_length 10 x.name.size
  have h2 := nmB_length x.name
  have h3 := written_length x.p x.L
  simp only [procB, List.length_append]; omega
theorem procsB_length : ∀ Ps : List Pr, (∀ x ∈ Ps, x.name.size ≤ 31) → (procsB Ps).length ≤ 3200 * Ps.length
  | [], _ => by simp [procsB]
  | x :: Ps, h => by
    have h1 := procB_length x (h x (by simp))
    have h2 := procsB_length Ps (fun y hy => h y (by simp [hy]))
    simp only [procsB, List.length_append, List.length_cons]; omega
def headL (n : Nat) : List Nat := [80, 82, 76, 49] ++ uint 10 n
/-- a sound library's bytes -/
def encN (Ps : List Pr) : List Nat := headL Ps.length ++ procsB Ps
theorem check_name {Ps : List Pr} (h : (checkN Ps).2 = 0) : Ps.length ≤ 64 ∧ ∀ i, i < Ps.length → chkOne Ps i = 0 := by
  by_cases hl : 64 < Ps.length
  · unfold checkN at h; rw [if_pos hl] at h; cases h
  · refine ⟨by omega, fun i => ?_⟩
    induction i using Nat.strongRecOn with
    | ind i ih =>
      intro hi
      by_cases h0 : chkOne Ps i = 0
      · exact h0
      · have := checkN_stop (by omega) (fun j hj => ih j hj (by omega)) h0 hi
        rw [this] at h; exact absurd h h0
theorem chk_zero {Ps : List Pr} {i : Nat} (h : chkOne Ps i = 0) : nameB (pd Ps i).name = true ∧ hasB (Ps.take i) (pd Ps i).name = false ∧ verifyN (pd Ps i).p (pd Ps i).L = 0 := by
  unfold chkOne at h
  split at h
  · cases h
  · rename_i hn
    refine ⟨?_, ?_, h⟩
    · cases e : nameB (pd Ps i).name with
      | true => rfl
      | false => exact absurd (.inl e) hn
    · cases e : hasB (Ps.take i) (pd Ps i).name with
      | false => rfl
      | true => exact absurd (.inr e) hn
theorem name_size {s : ByteArray} (h : nameB s = true) : 0 < s.size ∧ s.size ≤ 31 := by
  simp only [nameB, Bool.and_eq_true, decide_eq_true_eq] at h; exact ⟨h.1.1, h.1.2⟩
theorem check_small {Ps : List Pr} (h : (checkN Ps).2 = 0) : ∀ x ∈ Ps, x.name.size ≤ 31 := by
  intro x hx
  obtain ⟨i, hi, rfl⟩ := List.mem_iff_getElem.1 hx
  have := (chk_zero ((check_name h).2 i hi)).1
  have e : pd Ps i = Ps[i] := by simp [pd, List.getD_eq_getElem?_getD, List.getElem?_eq_getElem hi]
  rw [e] at this
  exact (name_size this).2
def EPost (Ps : List Pr) (B : Nat) (e : Ending) (w' : World) : Prop :=
  ((checkN Ps).2 ≠ 0 ∧ e = .returned (.tuple #[.slice none 0 0, .int .i64 (checkN Ps).2])) ∨
  ((checkN Ps).2 = 0 ∧ ∃ g, e = .returned (.tuple #[.slice (some ⟨g, 0, none⟩) (encN Ps).length (encN Ps).length, .int .i64 0]) ∧ RowAt w' g (encN Ps) ∧ B ≤ g)
/-- what stands while a library is written -/
structure ES (w W : World) (base r : Nat) (v : Value) (M : List Nat) : Prop where
  wr : IsWriter W base r v M
  bel : Below w.heap.size w W
  bs : w.heap.size ≤ base
theorem ES.kept {w W W' : World} {base r : Nat} {v : Value} {M : List Nat} (h : ES w W base r v M) (hb : Below W.heap.size W W') : ES w W' base r v M := ⟨h.wr.kept hb, h.bel.trans (hb.mono h.bel.size), h.bs⟩
theorem ES.step {w W W' : World} {base r : Nat} {v v' : Value} {M M' : List Nat} (h : ES w W base r v M) (hw : IsWriter W' base r v' M') (ht : Wrote W W' r v v') : ES w W' base r v' M' := ⟨hw, h.bel.trans ((ht.below h.wr).mono h.bs), h.bs⟩
/-- a block that is none of the Writer's -/
theorem Wrote.rbox {W W' : World} {r B : Nat} {v v' : Value} {x : Pr} (ht : Wrote W W' r v v') (h : RBox W B x) (h1 : B ≠ r) (h2 : v.ownBlock ≠ some B) : RBox W' B x := (ht.block B h.lt h1 h2).trans h

set_option maxRecDepth 100000 in
set_option maxHeartbeats 2000000 in
theorem encode_any (w : World) (ao : Option Addr) (n cap : Nat) (Ps : List Pr) (h : LibAt w ao Ps) (hn : n = Ps.length) (hc : n ≤ cap) (hm : n ≤ 140737488351232) :
    Calls Tryd.prog 7 #[.slice ao n cap] w fun e w' => EPost Ps w.heap.size e w' ∧ Below w.heap.size w w' := by
  have H : Hid (LibAt w ao Ps) := h
  have HN : Hid (n = Ps.length) := hn
  clear h hn
  go_enter Tryd.func7, Tryd.ntmps7
  go_wp2_with fail
  refine (check_any w ao n cap Ps H.out HN.out hc hm).mono ?_
  rintro e w1 ⟨rfl, hb1⟩
  have HB1 : Hid (Below w.heap.size w w1) := hb1
  clear hb1
  by_cases h0 : (checkN Ps).2 = 0
  · have HCk : Hid ((checkN Ps).2 = 0) := h0
    have HP : Hid (∀ x ∈ Ps, x.name.size ≤ 31) := check_small h0
    have h64 : n ≤ 64 := by have := (check_name h0).1; have := HN.out; omega
    rw [h0]
    clear h0
    generalize (checkN Ps).1 = at1 at *
    go_wp2_with fail
    refine (new_any w1).mono ?_
    rintro e w2 ⟨rfl, hw2, hb2, hs2⟩
    have HS2 : Hid (ES w w2 w1.heap.size w1.heap.size (.slice none 0 0) []) := ⟨hw2, HB1.out.trans (hb2.mono HB1.out.size), HB1.out.size⟩
    clear hw2 hb2 hs2 HB1
    generalize w1.heap.size = r at *
    obtain ⟨w3, hcv, hx3, hb3⟩ := conv_head w2
    have HX : Hid (BytesAt w3 (some ⟨w2.heap.size, 0, none⟩) [80, 82, 76, 49]) := hx3
    have HS3 : Hid (ES w w3 r r (.slice none 0 0) []) := HS2.out.kept hb3
    clear hx3 hb3
    go_wp2_with fail
    refine (wRaw_any w3 r r _ [] [80, 82, 76, 49] _ _ _ HS3.out.wr rfl HX.out (by simp) (by simp)).mono ?_
    rintro e w4 ⟨rfl, v4, hw4, ht4⟩
    have HS4 : Hid (ES w w4 r r v4 [80, 82, 76, 49]) := HS3.out.step hw4 ht4
    clear hw4 ht4 HS3 HS2 HX hcv
    have hn64 : n < 18446744073709551616 := by omega
    go_wp2_with fail
    refine (wUint_any w4 r r n v4 [80, 82, 76, 49] HS4.out.wr hn64 (by simp)).mono ?_
    rintro e w5 ⟨rfl, v5, hw5, ht5⟩
    have HS5 : Hid (ES w w5 r r v5 (headL n ++ procsB (Ps.take 0))) := by rw [List.take_zero, procsB, List.append_nil]; exact HS4.out.step hw5 ht5
    clear hw5 ht5 HS4
    go_wp2_with fail
    go_loopw [29] (fun x wr => ∃ k : Nat, k ≤ n ∧ x = .int .i64 (k : Int) ∧ ∃ v, Hid (ES w wr r r v (headL n ++ procsB (Ps.take k)))) (fun x _ => n - (intOf x).toNat)
    case atStart => exact ⟨0, Nat.zero_le _, rfl, v5, HS5⟩
    case round =>
      clear HS5
      obtain ⟨k, hk, rfl, v6, HS⟩ := hrel
      have HLn : Hid ((headL n ++ procsB (Ps.take k)).length + 3300 ≤ 140737488355328) := by
        have h1 := uint_length 10 n
        have h2 := procsB_length (Ps.take k) (fun x hx => HP.out x (List.mem_of_mem_take hx))
        have h3 : (Ps.take k).length ≤ 64 := by rw [List.length_take]; omega
        rw [List.length_append]; unfold headL; rw [List.length_append]; show _ ≤ _; simp only [List.length_cons, List.length_nil]; omega
      by_cases hlt : k < n
      · have hlt' : k < Ps.length := by have := HN.out; omega
        obtain ⟨b, off, rfl, c0, c1, c2, c3, c4, c5⟩ := (H.out.at_.kept HS.out.bel).get k hlt'
        have HT : Hid (procsB (Ps.take (k + 1)) = procsB (Ps.take k) ++ procB (pd Ps k)) := procsB_take Ps k hlt'
        have HO0 : Hid (PrOK w (pd Ps k)) := H.out.ok _ (pd_mem hlt')
        have HSm : Hid ((pd Ps k).name.size ≤ 31) := HP.out _ (pd_mem hlt')
        generalize pd Ps k = x at *
        obtain ⟨M, HM⟩ : ∃ M, Hid (headL n ++ procsB (Ps.take k) = M) := ⟨_, rfl⟩
        rw [HM.out] at HLn HS
        obtain ⟨cap3, w3, hcv, hx3, hb3, hs3⟩ := conv_bytes (wr.alloc (.cells #[.string x.name, .int .i64 x.p.args, .int .i64 x.p.reads, .int .i64 x.p.writes, .int .i64 x.p.locals, .slice x.ao x.n x.cap] 43)) x.name
        rw [World.size_alloc] at hcv hx3 hb3 hs3
        have HA : Below wr.heap.size wr (wr.alloc (.cells #[.string x.name, .int .i64 x.p.args, .int .i64 x.p.reads, .int .i64 x.p.writes, .int .i64 x.p.locals, .slice x.ao x.n x.cap] 43)) := (Below.refl _ _).alloc (Nat.le_refl _) _
        have HR3 : Hid (RBox w3 wr.heap.size x) := (RBox.new wr x).below hb3 (by omega)
        have HS3 : Hid (ES w w3 r r v6 M) := HS.out.kept (HA.trans (hb3.mono (by omega)))
        have HX3 : Hid (BytesAt w3 (some ⟨wr.heap.size + 1, 0, none⟩) (nmB x.name)) := hx3
        have HRr : Hid (r < wr.heap.size) := HS.out.wr.lt
        have HOw : Hid (∀ j, v6.ownBlock = some j → j < wr.heap.size) := fun j hj => (HS.out.wr.2.1.2.lt j hj).2
        clear HA hx3 hb3
        go_wp2_with fail
        refine (wBytes_any w3 r r v6 M (nmB x.name) (some ⟨wr.heap.size + 1, 0, none⟩) x.name.size cap3 HS3.out.wr (nmB_length x.name).symm HX3.out (by simp) (by have := HLn.out; have := HSm.out; have := nmB_length x.name; omega) (fun a _ e => by
          cases e
          exact ⟨by have := HRr.out; simp; omega, fun e => by have := HOw.out _ e; simp at this; omega⟩)).mono ?_
        rintro e w4 ⟨rfl, v7, hw4, ht4⟩
        have HS4 : Hid (ES w w4 r r v7 (M ++ (uint 10 x.name.size ++ nmB x.name))) := HS3.out.step hw4 ht4
        have HR4 : Hid (RBox w4 wr.heap.size x) := Wrote.rbox ht4 HR3.out (by have := HRr.out; omega) (fun e => by have := HOw.out _ e; omega)
        clear hw4 ht4 HS3 HR3 HX3 hcv hs3 HOw HRr
        generalize wr.heap.size = B at *
        obtain ⟨x0, x1, x2, x3, x4, x5⟩ := HR4.out.cells
        go_wp2_with fail
        refine (put_any w4 r r v7 _ x.p x.ao x.n x.cap x.L HS4.out.wr (HO0.out.ks.kept HS4.out.bel) HO0.out.len HO0.out.kin (fun a h1 h2 => by have := HO0.out.ks.lt a h1 h2; have := HS4.out.bs; omega) (by
          have h1 := HLn.out
          have h2 := HSm.out
          have h3 := nmB_length x.name
          have h4 := uint_length 10 x.name.size
          simp only [List.length_append]; omega)).mono ?_
        rintro e w5 ⟨rfl, v8, hw5, ht5⟩
        have HS5 : Hid (∃ v, ES w w5 r r v (headL n ++ procsB (Ps.take (k + 1)))) := by
          refine ⟨v8, ?_⟩
          rw [HT.out, ← List.append_assoc, HM.out]
          have e : M ++ procB x = M ++ (uint 10 x.name.size ++ nmB x.name) ++ (writtenN x.p x.L).1 := by simp [procB]
          rw [e]
          exact HS4.out.step hw5 ht5
        clear hw5 ht5 HS4
        generalize (writtenN x.p x.L).2 = pe at *
        obtain ⟨v9, HS9⟩ := HS5.out
        have HS9' : Hid (ES w w5 r r v9 (headL n ++ procsB (Ps.take (k + 1)))) := HS9
        clear HS9 HS5
        go_wp2
        go_roundw
        case rel => exact ⟨k + 1, by omega, by go_num, v9, HS9'⟩
        case measure => simp [intOf]; omega
      · obtain rfl : k = n := by omega
        have HE : Hid (encN Ps = headL k ++ procsB (Ps.take k)) := by rw [HN.out, List.take_length]; rfl
        have HLe : Hid ((encN Ps).length ≤ 140737488355328) := by have := HLn.out; rw [HE.out]; show _ ≤ _; omega
        rw [← HE.out] at HS
        go_wp2_with fail
        refine (wOut_any wr r r v6 (encN Ps) HS.out.wr HLe.out).mono ?_
        rintro e w8 ⟨rfl, hr8, hb8, _⟩
        have HR8 : Hid (RowAt w8 wr.heap.size (encN Ps)) := hr8
        have HB8 : Hid (Below w.heap.size w w8) := HS.out.bel.trans (hb8.mono HS.out.bel.size)
        have HG : Hid (w.heap.size ≤ wr.heap.size) := HS.out.bel.size
        clear hr8 hb8
        go_wp2
        go_ret2
        exact ⟨.inr ⟨HCk.out, wr.heap.size, rfl, HR8.out, HG.out⟩, HB8.out⟩
  · have h0' : ((checkN Ps).2 != 0) = true := by simpa using h0
    have HV : Hid ((checkN Ps).2 ≠ 0) := h0
    generalize hc2 : (checkN Ps).2 = c2 at *
    generalize (checkN Ps).1 = at1 at *
    clear h0
    go_wp2
    go_ret2
    exact ⟨.inl ⟨by rw [hc2]; exact HV.out, by rw [hc2]; rfl⟩, HB1.out⟩
end Go.Proofs.YtkjmeknaedapjaaDoor
/-
  PLAIN MATHEMATICS OF NUMBERS OF SEVEN BITS A BYTE (promises 1.1 to 1.5).
-/
namespace Go.Proofs.YtkjmeknaedapjaaDoor

/-- the number at the front of bytes, how many bytes it has, what is wrong: behind i bytes, which were acc -/
def scanFrom : Nat → Nat → List Nat → Nat × Nat × Nat
  | _, _, [] => (0, 0, 10)
  | i, acc, c :: r => if (i = 9 ∧ 1 < c) ∨ (0 < i ∧ c = 0) then (0, 0, 11) else if c < 128 then (acc + c * 2 ^ (7 * i), i + 1, 0) else scanFrom (i + 1) (acc + (c - 128) * 2 ^ (7 * i)) r
def scan (C : List Nat) : Nat × Nat × Nat := scanFrom 0 0 C

theorem pow7 (i : Nat) : 2 ^ (7 * (i + 1)) = 128 * 2 ^ (7 * i) := by rw [show 7 * (i + 1) = 7 + 7 * i by omega, Nat.pow_add]
/-- what was written is read -/
theorem scan_uint (R : List Nat) : ∀ (f i acc n : Nat), i + f = 9 → n < 2 ^ (64 - 7 * i) → (0 < i → 0 < n) → scanFrom i acc (uint (f + 1) n ++ R) = (acc + n * 2 ^ (7 * i), i + (uint (f + 1) n).length, 0)
  | f, i, acc, n, hif, hn, h0 => by
    by_cases hge : 128 ≤ n
    · have hi9 : i ≠ 9 := by
        intro e; subst e
        simp at hn; omega
      cases f with
      | zero => omega
      | succ f =>
        rw [uint_more _ _ hge, List.cons_append, scanFrom, if_neg (by omega), if_neg (by omega), Nat.add_sub_cancel]
        rw [scan_uint R f (i + 1) _ (n / 128) (by omega) (by
          have e : 2 ^ (64 - 7 * i) = 128 * 2 ^ (64 - 7 * (i + 1)) := by rw [show 64 - 7 * i = 7 + (64 - 7 * (i + 1)) by omega, Nat.pow_add]
          omega) (by omega)]
        rw [pow7, List.length_cons]
        have e1 : n = n % 128 + 128 * (n / 128) := by omega
        refine Prod.ext ?_ (Prod.ext (by simp only; omega) rfl)
        simp only
        conv => rhs; rw [e1, Nat.add_mul]
        rw [Nat.add_assoc, Nat.mul_comm 128 (n / 128), Nat.mul_assoc]
    · rw [uint_last _ _ hge, List.singleton_append, scanFrom, if_neg ?_, if_pos (by omega)]
      · rfl
      · rintro (⟨e, h⟩ | ⟨h1, h2⟩)
        · subst e; simp at hn; omega
        · have := h0 h1; omega
/-- what is read is what is written -/
theorem scan_back : ∀ (L : List Nat) (i acc n k : Nat), (∀ z ∈ L, z < 256) → i ≤ 9 → scanFrom i acc L = (n, k, 0) →
    ∃ m, n = acc + m * 2 ^ (7 * i) ∧ m < 2 ^ (64 - 7 * i) ∧ i < k ∧ k - i ≤ L.length ∧ L.take (k - i) = uint (10 - i) m ∧ (0 < i → 0 < m)
  | [], i, acc, n, k, _, _, h => by simp [scanFrom] at h
  | c :: r, i, acc, n, k, hz, hi, h => by
    unfold scanFrom at h
    by_cases h1 : (i = 9 ∧ 1 < c) ∨ (0 < i ∧ c = 0)
    · rw [if_pos h1] at h; simp at h
    · rw [if_neg h1] at h
      by_cases h2 : c < 128
      · rw [if_pos h2] at h
        simp only [Prod.mk.injEq, and_true] at h
        obtain ⟨rfl, rfl⟩ := h
        refine ⟨c, rfl, ?_, by omega, by simp, ?_, by omega⟩
        · by_cases e : i = 9
          · subst e; simp; omega
          · have : 2 ^ 7 ≤ 2 ^ (64 - 7 * i) := Nat.pow_le_pow_right (by omega) (by omega)
            omega
        · rw [Nat.add_sub_cancel_left, show 10 - i = (9 - i) + 1 by omega, uint_last _ _ (by omega)]; rfl
      · rw [if_neg h2] at h
        have hi9 : i ≠ 9 := by omega
        obtain ⟨m, hn, hm, hk, hl, ht, hp⟩ := scan_back r (i + 1) _ n k (fun z hz' => hz z (by simp [hz'])) (by omega) h
        have hc := hz c (by simp)
        refine ⟨(c - 128) + 128 * m, ?_, ?_, by omega, by simp; omega, ?_, by omega⟩
        · rw [hn, pow7, Nat.add_mul, Nat.add_assoc, Nat.mul_comm 128 m, Nat.mul_assoc]
        · have e : 2 ^ (64 - 7 * i) = 128 * 2 ^ (64 - 7 * (i + 1)) := by rw [show 64 - 7 * i = 7 + (64 - 7 * (i + 1)) by omega, Nat.pow_add]
          omega
        · have hmp := hp (by omega)
          rw [show k - i = (k - (i + 1)) + 1 by omega, List.take_succ_cons, ht, show 10 - i = (9 - i) + 1 by omega, uint_more _ _ (by omega)]
          rw [show ((c - 128) + 128 * m) % 128 + 128 = c by omega, show ((c - 128) + 128 * m) / 128 = m by omega, show 10 - (i + 1) = 9 - i by omega]
theorem scan_one (C : List Nat) (n k : Nat) (hz : ∀ z ∈ C, z < 256) (h : scan C = (n, k, 0)) : n < 18446744073709551616 ∧ 0 < k ∧ k ≤ C.length ∧ C.take k = uint 10 n := by
  obtain ⟨m, hn, hm, hk, hl, ht, _⟩ := scan_back C 0 0 n k hz (by omega) h
  simp only [Nat.zero_add, Nat.mul_zero, Nat.pow_zero, Nat.mul_one, Nat.sub_zero] at *
  subst hn
  exact ⟨hm, hk, hl, ht⟩
theorem scan_err : ∀ (L : List Nat) (i acc : Nat), (scanFrom i acc L).2.2 ≠ 0 → (scanFrom i acc L).1 = 0 ∧ (scanFrom i acc L).2.1 = 0
  | [], i, acc, _ => by simp [scanFrom]
  | c :: r, i, acc, h => by
    unfold scanFrom at h ⊢
    split
    · simp
    · rename_i h1
      rw [if_neg h1] at h
      split
      · rename_i h2; rw [if_pos h2] at h; simp at h
      · rename_i h2; rw [if_neg h2] at h; exact scan_err r _ _ h

end Go.Proofs.YtkjmeknaedapjaaDoor
