import Derived.Test.YtkjmeknaedapjaaDoorJ13
import Derived.Test.YtkjmeknaedapjaaDoorJ10
import Derived.Test.YtkjmeknaedapjaaDoorJ16
import Derived.Test.YtkjmeknaedapjaaDoorJ11
/-
  THE WALK OF preluderef03.Written.
-/
namespace Go.Proofs.YtkjmeknaedapjaaDoor
open Go.RowKit Go.Sort

/-- the five numbers in a box -/
def ABox (W : World) (H : Nat) (p : Nums) (n : Nat) : Prop := W.heap[H]? = some (.cells #[.int .i64 p.args, .int .i64 p.reads, .int .i64 p.writes, .int .i64 p.locals, .int .i64 (n : Int)] 101 (0, 0))
theorem ABox.cells {W : World} {B : Nat} {p : Nums} {n : Nat} (h : ABox W B p n) :
    W.cell? ⟨B, 0, none⟩ = some (.int .i64 p.args) ∧ W.cell? ⟨B, 1, none⟩ = some (.int .i64 p.reads) ∧ W.cell? ⟨B, 2, none⟩ = some (.int .i64 p.writes) ∧ W.cell? ⟨B, 3, none⟩ = some (.int .i64 p.locals) ∧ W.cell? ⟨B, 4, none⟩ = some (.int .i64 (n : Int)) := by
  refine ⟨?_, ?_, ?_, ?_, ?_⟩ <;> simp [World.cell?, show W.heap[B]? = _ from h]
/-- what stands while the document writes a program -/
structure WS (w W : World) (base : Nat) (vb : Value) (b : List Nat) (p : Nums) (ao : Option Addr) (n cap H : Nat) (L : List K) : Prop where
  own : OwnB W base vb b
  bx : PBox W w.heap.size p ao n cap
  ax : ABox W H p n
  ks : KeysAt W ao L
  bel : Below w.heap.size w W
  ob : w.heap.size < base
  oh : H < base
  sz : base ≤ W.heap.size
  lt : ∀ a, L ≠ [] → ao = some a → a.block < w.heap.size
theorem WS.grown {w W W' : World} {base : Nat} {vb v' : Value} {b b' : List Nat} {p : Nums} {ao : Option Addr} {n cap H : Nat} {L : List K} (h : WS w W base vb b p ao n cap H L) (ho : OwnB W' base v' b') (hg : W.grownBy W' vb.ownBlock) : WS w W' base v' b' p ao n cap H L := by
  have hb : Below base W W' := below_grown hg (fun k hk => (h.own.2.lt k hk).1) h.sz
  exact ⟨ho, h.bx.below hb h.ob, (hb.block H h.oh).trans h.ax, h.ks.below hb (fun a h1 h2 => Nat.lt_trans (h.lt a h1 h2) h.ob), h.bel.trans (hb.mono (Nat.le_of_lt h.ob)), h.ob, h.oh, Nat.le_trans h.sz hb.size, h.lt⟩
theorem WS.kept {w W W' : World} {base : Nat} {vb : Value} {b : List Nat} {p : Nums} {ao : Option Addr} {n cap H : Nat} {L : List K} (h : WS w W base vb b p ao n cap H L) (hb : Below W.heap.size W W') : WS w W' base vb b p ao n cap H L :=
  ⟨h.own.kept hb, h.bx.kept hb, (hb.block H (Nat.lt_of_lt_of_le h.oh h.sz)).trans h.ax, h.ks.kept hb, h.bel.trans (hb.mono h.bel.size), h.ob, h.oh, Nat.le_trans h.sz hb.size, h.lt⟩
theorem WS.alloc {w W : World} {base : Nat} {vb : Value} {b : List Nat} {p : Nums} {ao : Option Addr} {n cap H : Nat} {L : List K} (h : WS w W base vb b p ao n cap H L) (o : Obj) : WS w (W.alloc o) base vb b p ao n cap H L := h.kept ((Below.refl _ _).alloc (Nat.le_refl _) _)

set_option maxRecDepth 100000 in
set_option maxHeartbeats 2000000 in
theorem written_any (w : World) (p : Nums) (ao : Option Addr) (n cap : Nat) (L : List K) (hL : KeysAt w ao L) (hn : n = L.length) (hK : ∀ k ∈ L, KIn k) :
    Calls Tryd.prog 33 #[pv p ao n cap] w fun e w' => ∃ vb, e = .returned (.tuple #[vb, .int .i64 (writtenN p L).2]) ∧ OwnB w' w.heap.size vb (writtenN p L).1 ∧ Below w.heap.size w w' := by
  have HN : Hid (n = L.length) := hn
  have HK : Hid (∀ k ∈ L, KIn k) := hK
  have HL : Hid (KeysAt w ao L) := hL
  clear hn hK hL
  go_enter Tryd.func33, Tryd.ntmps33
  go_wp2_with fail
  refine (refLimits_any _ p ao n cap).mono ?_
  rintro e w1 ⟨rfl, g1⟩
  have HB1 : Hid (PBox w1 w.heap.size p ao n cap) := (PBox.new w p ao n cap).kept (Grew.below g1)
  have HW1 : Hid (Below w.heap.size w w1) := ((Below.refl _ _).alloc (Nat.le_refl _) _).trans ((Grew.below g1).mono (by simp))
  clear g1
  obtain ⟨x0, x1, x2, x3, x4⟩ := HB1.out.cells
  cases hlm : limB p n with
  | false =>
    have HV : Hid (writtenN p L = ([], 30)) := written_lim (by rw [← HN.out]; exact hlm)
    go_wp2
    go_ret2
    refine ⟨.slice none 0 0, by rw [HV.out]; rfl, by rw [HV.out]; exact OwnB.nil _ _, HW1.out⟩
  | true =>
    obtain ⟨p0, p1, p2, p3, hm⟩ := (limB_iff p n).1 hlm
    have HLim : Hid (limB p L.length = true) := by rw [← HN.out]; exact hlm
    clear hlm
    have HS0 : Hid (WS w (w1.alloc (.cells #[.int .i64 p.args, .int .i64 p.reads, .int .i64 p.writes, .int .i64 p.locals, .int .i64 (n : Int)] 101)) (w1.heap.size + 1) (.slice none 0 0) (headB p n 0) p ao n cap w1.heap.size L) := by
      have hA : Below w1.heap.size w1 (w1.alloc (.cells #[.int .i64 p.args, .int .i64 p.reads, .int .i64 p.writes, .int .i64 p.locals, .int .i64 (n : Int)] 101)) := (Below.refl _ _).alloc (Nat.le_refl _) _
      exact ⟨OwnB.nil _ _, HB1.out.kept hA, heap_alloc_new _ _ rfl, (HL.out.kept HW1.out).kept hA, HW1.out.trans (hA.mono HW1.out.size), by have := HB1.out.lt; omega, by omega, by simp, HL.out.lt⟩
    go_wp2_with fail
    generalize w1.alloc (.cells #[.int .i64 p.args, .int .i64 p.reads, .int .i64 p.writes, .int .i64 p.locals, .int .i64 (n : Int)] 101) = W1 at *
    generalize w1.heap.size = H at *
    clear x0 x1 x2 x3 x4 HB1 HW1
    go_loopw [4, 6] (fun vb x wr => ∃ j : Nat, j ≤ 5 ∧ x = .int .i64 (j : Int) ∧ Hid (WS w wr (H + 1) vb (headB p n j) p ao n cap H L)) (fun _ x _ => 5 - (intOf x).toNat)
    case atStart => exact ⟨0, by omega, rfl, HS0⟩
    case round =>
      clear HS0
      obtain ⟨j, hj, rfl, HS⟩ := hrel
      by_cases hj5 : j < 5
      · have HH : Hid (headB p n (j + 1) = headB p n j ++ uint 10 ((headN p n).getD j 0)) := headB_succ p n j hj5
        have HLn : Hid ((headB p n j).length + (uint 10 ((headN p n).getD j 0)).length ≤ 140737488355328) := by have := headB_length p n j; have := uint_length 10 ((headN p n).getD j 0); show _ ≤ _; omega
        have HX : Hid (∀ x : Int, 0 ≤ x → x ≤ 256 → (headN p n).getD j 0 = x.toNat → Calls Tryd.prog 32 #[.int .u64 x] wr fun e w' => ∃ ao2 c2, e = .returned (.slice ao2 (uint 10 ((headN p n).getD j 0)).length c2) ∧ Hid (BytesAt w' ao2 (uint 10 ((headN p n).getD j 0)) ∧ (ao2 = none → c2 = 0) ∧ WS w w' (H + 1) u4 (headB p n j) p ao n cap H L)) := fun x hx0 hx1 e => by
          obtain ⟨z, rfl⟩ := Int.eq_ofNat_of_zero_le hx0
          refine (refUint_any wr z (by omega)).mono ?_
          rintro e' w3 ⟨v3, rfl, ho3, hb3⟩
          obtain ⟨ao2, c2, rfl, h1, h2, _⟩ := ho3.slice
          rw [e]
          exact ⟨ao2, c2, rfl, h1, h2, HS.out.kept hb3⟩
        obtain ⟨x0, x1, x2, x3, x4⟩ := HS.out.ax.cells
        obtain rfl | rfl | rfl | rfl | rfl : j = 0 ∨ j = 1 ∨ j = 2 ∨ j = 3 ∨ j = 4 := by omega
        · go_wp2_with (first
            | (go_at_call 32; refine (HX.out p.args p0.1 (by omega) rfl).mono ?_; rintro e w3 ⟨ao2, c2, rfl, HY⟩)
            | (at_builtin; refine wpList_append_bytes rfl _ _ rfl (H + 1) _ (headB p n 0) rfl HY.out.2.2.own _ _ _ _ rfl rfl HY.out.1 HY.out.2.1 HLn.out HY.out.2.2.sz ?_; intro v5 w5 ho5 hg5))
          have HS5 : Hid (WS w w5 (H + 1) v5 (headB p n 1) p ao n cap H L) := by rw [HH.out]; exact HY.out.2.2.grown ho5 hg5
          clear ho5 hg5
          go_roundw
          case rel => exact ⟨1, by omega, by go_num, HS5⟩
          case measure => simp [intOf]
        · go_wp2_with (first
            | (go_at_call 32; refine (HX.out p.reads p1.1 (by omega) rfl).mono ?_; rintro e w3 ⟨ao2, c2, rfl, HY⟩)
            | (at_builtin; refine wpList_append_bytes rfl _ _ rfl (H + 1) _ (headB p n 1) rfl HY.out.2.2.own _ _ _ _ rfl rfl HY.out.1 HY.out.2.1 HLn.out HY.out.2.2.sz ?_; intro v5 w5 ho5 hg5))
          have HS5 : Hid (WS w w5 (H + 1) v5 (headB p n 2) p ao n cap H L) := by rw [HH.out]; exact HY.out.2.2.grown ho5 hg5
          clear ho5 hg5
          go_roundw
          case rel => exact ⟨2, by omega, by go_num, HS5⟩
          case measure => simp [intOf]
        · go_wp2_with (first
            | (go_at_call 32; refine (HX.out p.writes p2.1 (by omega) rfl).mono ?_; rintro e w3 ⟨ao2, c2, rfl, HY⟩)
            | (at_builtin; refine wpList_append_bytes rfl _ _ rfl (H + 1) _ (headB p n 2) rfl HY.out.2.2.own _ _ _ _ rfl rfl HY.out.1 HY.out.2.1 HLn.out HY.out.2.2.sz ?_; intro v5 w5 ho5 hg5))
          have HS5 : Hid (WS w w5 (H + 1) v5 (headB p n 3) p ao n cap H L) := by rw [HH.out]; exact HY.out.2.2.grown ho5 hg5
          clear ho5 hg5
          go_roundw
          case rel => exact ⟨3, by omega, by go_num, HS5⟩
          case measure => simp [intOf]
        · go_wp2_with (first
            | (go_at_call 32; refine (HX.out p.locals p3.1 (by omega) rfl).mono ?_; rintro e w3 ⟨ao2, c2, rfl, HY⟩)
            | (at_builtin; refine wpList_append_bytes rfl _ _ rfl (H + 1) _ (headB p n 3) rfl HY.out.2.2.own _ _ _ _ rfl rfl HY.out.1 HY.out.2.1 HLn.out HY.out.2.2.sz ?_; intro v5 w5 ho5 hg5))
          have HS5 : Hid (WS w w5 (H + 1) v5 (headB p n 4) p ao n cap H L) := by rw [HH.out]; exact HY.out.2.2.grown ho5 hg5
          clear ho5 hg5
          go_roundw
          case rel => exact ⟨4, by omega, by go_num, HS5⟩
          case measure => simp [intOf]
        · go_wp2_with (first
            | (go_at_call 32; refine (HX.out (n : Int) (by omega) (by omega) rfl).mono ?_; rintro e w3 ⟨ao2, c2, rfl, HY⟩)
            | (at_builtin; refine wpList_append_bytes rfl _ _ rfl (H + 1) _ (headB p n 4) rfl HY.out.2.2.own _ _ _ _ rfl rfl HY.out.1 HY.out.2.1 HLn.out HY.out.2.2.sz ?_; intro v5 w5 ho5 hg5))
          have HS5 : Hid (WS w w5 (H + 1) v5 (headB p n 5) p ao n cap H L) := by rw [HH.out]; exact HY.out.2.2.grown ho5 hg5
          clear ho5 hg5
          go_roundw
          case rel => exact ⟨5, by omega, by go_num, HS5⟩
          case measure => simp [intOf]
      · obtain rfl : j = 5 := by omega
        rw [show ((5 : Nat) : Int) = 5 from rfl]
        have HM0 : Hid (WS w wr (H + 1) u4 (headB p n 5 ++ codeB (L.take 0)) p ao n cap H L) := by
          rw [List.take_zero, codeB, List.append_nil]; exact HS.out
        go_wp2_with fail
        generalize wr = wy at *
        clear HS
        go_loopw [4, 7] (fun vb x wr => ∃ i : Nat, i ≤ n ∧ x = .int .i64 (i : Int) ∧ Hid (opsB (L.take i) = true) ∧ Hid (WS w wr (H + 1) vb (headB p n 5 ++ codeB (L.take i)) p ao n cap H L)) (fun _ x _ => n - (intOf x).toNat)
        case atStart => exact ⟨0, by omega, rfl, rfl, HM0⟩
        case round =>
          clear HM0
          obtain ⟨i, hi, rfl, HA, HS⟩ := hrel
          obtain ⟨x0, x1, x2, x3, x4⟩ := HS.out.bx.cells
          by_cases hik : i < n
          · obtain ⟨kb, koff, rfl, c0, c1⟩ := HS.out.ks.get i (by have := HN.out; omega)
            have HIn : Hid (KIn (cd L i)) := HK.out _ (cd_mem (by have := HN.out; omega))
            have HOF : Hid (isOpB (cd L i).1 = false → opsB L = false) := opsB_false (by have := HN.out; omega)
            have HT2 : Hid (opsB (L.take (i + 1)) = (opsB (L.take i) && isOpB (cd L i).1)) := opsB_take i (show i < L.length by have := HN.out; omega)
            have HCt : Hid (codeB (L.take (i + 1)) = codeB (L.take i) ++ instrB (cd L i)) := codeB_take L i (by have := HN.out; omega)
            have HLn : Hid ((headB p n 5 ++ codeB (L.take i)).length + 12 ≤ 140737488355328) := by
              have h1 := headB_length p n 5
              have h2 := codeB_length (L.take i)
              have h3 : (L.take i).length ≤ i := by simp; omega
              rw [List.length_append]; show _ ≤ _; omega
            generalize hcd : cd L i = ck0 at *
            obtain ⟨op, a⟩ := ck0
            obtain ⟨M, HM⟩ : ∃ M, Hid (headB p n 5 ++ codeB (L.take i) = M) := ⟨_, rfl⟩
            rw [HM.out] at HLn HS
            cases hop : isOpB op with
            | false =>
              have HV : Hid (writtenN p L = ([], 31)) := written_op HLim.out (HOF.out hop)
              have hop' : op < 0 ∨ 37 ≤ op := by simp only [isOpB, Bool.and_eq_false_iff, decide_eq_false_iff_not] at hop; omega
              have HB2 : Hid (WS w (wr.alloc (.cells #[.int .i64 op, .int .i64 a] 87)) (H + 1) u4 M p (some ⟨kb, koff, none⟩) n cap H L) := HS.out.alloc _
              clear hop
              rcases hop' with h1 | h1
              · go_wp2
                go_ret2
                exact ⟨.slice none 0 0, by rw [HV.out]; rfl, by rw [HV.out]; exact OwnB.nil _ _, HB2.out.bel⟩
              · have h2 : ¬ op < 0 := by omega
                go_wp2
                go_ret2
                exact ⟨.slice none 0 0, by rw [HV.out]; rfl, by rw [HV.out]; exact OwnB.nil _ _, HB2.out.bel⟩
            | true =>
              have HA2 : Hid (opsB (L.take (i + 1)) = true) := by rw [HT2.out, HA.out, hop]; rfl
              simp only [isOpB, Bool.and_eq_true, decide_eq_true_eq] at hop
              obtain ⟨o, rfl⟩ := Int.eq_ofNat_of_zero_le hop.1
              have ho1 : o < 37 := by omega
              have ho2 : ¬ (o : Int) < 0 := by omega
              have ho3 : ¬ (37 : Int) ≤ (o : Int) := by omega
              clear hop
              have HB2 : Hid (WS w (wr.alloc (.cells #[.int .i64 (o : Int), .int .i64 a] 87)) (H + 1) u4 M p (some ⟨kb, koff, none⟩) n cap H L) := HS.out.alloc _
              by_cases h0 : a = 0
              · subst h0
                go_wp2_with (at_builtin; refine wpList_append_bytes rfl _ _ rfl (H + 1) _ M rfl (HB2.out.alloc _).own _ _ _ [o] rfl rfl (byte_src _ _ o (by simp) (by omega)) (by simp) (by have := HLn.out; simp; omega) (HB2.out.alloc _).sz ?_; intro v5 w5 ho5 hg5)
                have HS5 : Hid (WS w w5 (H + 1) v5 (headB p n 5 ++ codeB (L.take (i + 1))) p (some ⟨kb, koff, none⟩) n cap H L) := by
                  rw [HCt.out, ← List.append_assoc, HM.out]
                  exact (HB2.out.alloc _).grown ho5 hg5
                clear ho5 hg5
                go_roundw
                case rel => exact ⟨i + 1, by omega, by go_num, HA2, HS5⟩
                case measure => simp [intOf]; omega
              · have h0' : (a == 0) = false := by simpa using h0
                obtain ⟨z, hz⟩ : ∃ z : Nat, (o : Int) + 64 = (z : Int) := ⟨o + 64, by omega⟩
                have hz1 : z < 256 := by omega
                have HZ : Hid (z = o + 64) := by show z = o + 64; omega
                have HIB : Hid (instrB ((o : Int), a) = [z] ++ uint 10 (fold a)) := by
                  rw [HZ.out]; unfold instrB; rw [if_neg h0]; rfl
                have HBX : Hid (Box (wr.alloc (.cells #[.int .i64 (o : Int), .int .i64 a] 87)) wr.heap.size (o : Int) a) := Box.new rfl
                have HNe : Hid (u4.ownBlock ≠ some wr.heap.size) := fun e => by have := (HS.out.own.2.lt _ e).2; omega
                clear h0
                go_wp2_with (first
                  | (go_at_call 62; refine (refInt_any _ a HIn.out.2.1 HIn.out.2.2).mono ?_; rintro e w6 ⟨v6, rfl, ho6, hb6⟩; obtain ⟨a6, c6, rfl, h61, h62, _⟩ := ho6.slice; have HS6 : Hid (WS w w6 (H + 1) v5 (M ++ [z]) p (some ⟨kb, koff, none⟩) n cap H L) := HS5.out.kept hb6; have HY6 : Hid (BytesAt w6 a6 (uint 10 (fold a)) ∧ (a6 = none → c6 = 0)) := ⟨h61, h62⟩; clear ho6 hb6 h61 h62)
                  | (at_builtin; refine wpList_append_bytes rfl _ _ rfl (H + 1) _ (M ++ [z]) rfl HS6.out.own _ _ _ _ rfl rfl HY6.out.1 HY6.out.2 (by have := HLn.out; have := uint_length 10 (fold a); simp; omega) HS6.out.sz ?_; intro v7 w7 ho7 hg7)
                  | (at_builtin; refine wpList_append_bytes rfl _ _ rfl (H + 1) _ M rfl (HB2.out.alloc _).own _ _ _ [z] rfl rfl (byte_src _ _ z (by simp) hz1) (by simp) (by have := HLn.out; simp; omega) (HB2.out.alloc _).sz ?_; intro v5 w5 ho5 hg5; have HS5 : Hid (WS w w5 (H + 1) v5 (M ++ [z]) p (some ⟨kb, koff, none⟩) n cap H L) := (HB2.out.alloc _).grown ho5 hg5; have d1 : w5.cell? ⟨wr.heap.size, 1, none⟩ = some (.int .i64 a) := hg5.cell (HBX.out.alloc _).2 (fun e => HNe.out e.symm); clear ho5 hg5))
                have HS7 : Hid (WS w w7 (H + 1) v7 (headB p n 5 ++ codeB (L.take (i + 1))) p (some ⟨kb, koff, none⟩) n cap H L) := by
                  rw [HCt.out, HIB.out, ← List.append_assoc, ← List.append_assoc, HM.out]
                  exact HS6.out.grown ho7 hg7
                clear ho7 hg7
                go_roundw
                case rel => exact ⟨i + 1, by omega, by go_num, HA2, HS7⟩
                case measure => simp [intOf]; omega
          · obtain rfl : i = n := by omega
            have HO : Hid (opsB L = true) := by have := HA.out; rw [HN.out, List.take_length] at this; exact this
            have HV : Hid (writtenN p L = (progB p L, 0)) := written_ok HLim.out HO.out
            have HE : Hid ((writtenN p L).1 = headB p i 5 ++ codeB (L.take i)) := by
              rw [HV.out, HN.out, List.take_length]; rfl
            go_wp2
            go_ret2
            refine ⟨u4, by rw [HV.out]; rfl, ?_, HS.out.bel⟩
            rw [HE.out]; exact HS.out.own.mono (Nat.le_of_lt HS.out.ob)
end Go.Proofs.YtkjmeknaedapjaaDoor
/-
  THE WALK OF THE DOCUMENT'S Encode.
-/
namespace Go.Proofs.YtkjmeknaedapjaaDoor
open Go.RowKit Go.Sort

/-- what Encode answers -/
def encR (Ps : List Pr) : List Nat := if (checkN Ps).2 = 0 then encN Ps else []
theorem encR_ok {Ps : List Pr} (h : (checkN Ps).2 = 0) : encR Ps = encN Ps := if_pos h
theorem encR_bad {Ps : List Pr} (h : (checkN Ps).2 ≠ 0) : encR Ps = [] := if_neg h
/-- bytes of the call's own, and what lay before -/
structure RE (w W : World) (v : Value) (M : List Nat) : Prop where
  own : OwnB W w.heap.size v M
  bel : Below w.heap.size w W
theorem RE.kept {w W W' : World} {v : Value} {M : List Nat} (h : RE w W v M) (hb : Below W.heap.size W W') : RE w W' v M := ⟨h.own.kept hb, h.bel.trans (hb.mono h.bel.size)⟩
theorem RE.put {w W W' : World} {v v' : Value} {M M' : List Nat} (h : RE w W v M) (ho : OwnB W' w.heap.size v' M') (hg : W.grownBy W' v.ownBlock) : RE w W' v' M' :=
  ⟨ho, h.bel.trans (below_grown hg (fun k hk => (h.own.2.lt k hk).1) h.bel.size)⟩

set_option maxRecDepth 100000 in
set_option maxHeartbeats 2000000 in
theorem refEncode_any (w : World) (ao : Option Addr) (n cap : Nat) (Ps : List Pr) (h : LibAt w ao Ps) (hn : n = Ps.length) (hm : n ≤ 140737488351232) :
    Calls Tryd.prog 9 #[.slice ao n cap] w fun e w' => ∃ v, e = .returned (.tuple #[v, .int .i64 (checkN Ps).2]) ∧ RE w w' v (encR Ps) := by
  have H : Hid (LibAt w ao Ps) := h
  have HN : Hid (n = Ps.length) := hn
  clear h hn
  go_enter Tryd.func9, Tryd.ntmps9
  go_wp2_with fail
  refine (refCheck_any w ao n cap Ps H.out HN.out hm).mono ?_
  rintro e w1 ⟨rfl, hb1⟩
  have HB1 : Hid (Below w.heap.size w w1) := hb1
  clear hb1
  by_cases h0 : (checkN Ps).2 = 0
  · have HCk : Hid ((checkN Ps).2 = 0) := h0
    have HP : Hid (∀ x ∈ Ps, x.name.size ≤ 31) := check_small h0
    have h64 : n ≤ 64 := by have := (check_name h0).1; have := HN.out; omega
    rw [h0]
    clear h0
    generalize (checkN Ps).1 = at1 at *
    have HE1 : Hid (RE w (w1.alloc (.cells #[.int .u8 80, .int .u8 82, .int .u8 76, .int .u8 49] 5)) (.slice (some ⟨w1.heap.size, 0, none⟩) 4 4) [80, 82, 76, 49]) :=
      ⟨OwnB.made (w := w1) (L := [80, 82, 76, 49]) (by decide) (by decide) HB1.out.size, HB1.out.trans (((Below.refl _ _).alloc (Nat.le_refl _) _).mono HB1.out.size)⟩
    have hn64 : n < 18446744073709551616 := by omega
    go_wp2_with fail
    generalize w1.alloc (.cells #[.int .u8 80, .int .u8 82, .int .u8 76, .int .u8 49] 5) = W1 at *
    generalize w1.heap.size = B1 at *
    refine (refUint_any W1 n hn64).mono ?_
    rintro e w2 ⟨v2, rfl, ho2, hb2⟩
    have HE2 : Hid (RE w w2 (.slice (some ⟨B1, 0, none⟩) 4 4) [80, 82, 76, 49]) := HE1.out.kept hb2
    obtain ⟨a2, c2, rfl, hx2, hnil2, _⟩ := ho2.slice
    have HX2 : Hid (BytesAt w2 a2 (uint 10 n)) := hx2
    have HL2 : Hid ((uint 10 n).length ≤ 11) := uint_length 10 n
    clear ho2 hb2 hx2 HE1 HB1
    go_wp2_with (at_builtin; refine wpList_append_bytes rfl _ _ rfl w.heap.size _ [80, 82, 76, 49] rfl HE2.out.own a2 _ c2 (uint 10 n) rfl rfl HX2.out hnil2 (by have := HL2.out; simp only [List.length_cons, List.length_nil]; omega) HE2.out.bel.size ?_; intro v3 w3 ho3 hg3)
    have HE3 : Hid (RE w w3 v3 (headL n ++ procsB (Ps.take 0))) := by rw [List.take_zero, procsB, List.append_nil]; exact HE2.out.put ho3 hg3
    clear ho3 hg3 HE2 HX2
    go_loopw [6, 7] (fun x y wr => ∃ (k : Nat) (v : Value), k ≤ n ∧ v = x ∧ y = .int .i64 (k : Int) ∧ Hid (RE w wr v (headL n ++ procsB (Ps.take k)))) (fun _ y _ => n - (intOf y).toNat)
    case atStart => exact ⟨0, v3, Nat.zero_le _, rfl, rfl, HE3⟩
    case round =>
      clear HE3
      obtain ⟨k, x6, hk, rfl, rfl, HE⟩ := hrel
      have HLn : Hid ((headL n ++ procsB (Ps.take k)).length + 3300 ≤ 140737488355328) := by
        have h1 := uint_length 10 n
        have h2 := procsB_length (Ps.take k) (fun x hx => HP.out x (List.mem_of_mem_take hx))
        have h3 : (Ps.take k).length ≤ 64 := by rw [List.length_take]; omega
        rw [List.length_append]; unfold headL; rw [List.length_append]; show _ ≤ _; simp only [List.length_cons, List.length_nil]; omega
      by_cases hlt : k < n
      · have hlt' : k < Ps.length := by have := HN.out; omega
        obtain ⟨b, off, rfl, c0, c1, c2, c3, c4, c5⟩ := (H.out.at_.kept HE.out.bel).get k hlt'
        have HPA : Hid (ProcsAt w (some ⟨b, off, none⟩) Ps) := H.out.at_
        have HT : Hid (procsB (Ps.take (k + 1)) = procsB (Ps.take k) ++ procB (pd Ps k)) := procsB_take Ps k hlt'
        have HO0 : Hid (PrOK w (pd Ps k)) := H.out.ok _ (pd_mem hlt')
        have HSm : Hid ((pd Ps k).name.size ≤ 31) := HP.out _ (pd_mem hlt')
        have HCs : Hid (∀ W, Below w.heap.size w W → W.cell? ⟨b, off + k * 6, none⟩ = some (.string (pd Ps k).name) ∧
    W.cell? ⟨b, off + k * 6 + 1, none⟩ = some (.int .i64 (pd Ps k).p.args) ∧ W.cell? ⟨b, off + k * 6 + 2, none⟩ = some (.int .i64 (pd Ps k).p.reads) ∧ W.cell? ⟨b, off + k * 6 + 3, none⟩ = some (.int .i64 (pd Ps k).p.writes) ∧
    W.cell? ⟨b, off + k * 6 + 4, none⟩ = some (.int .i64 (pd Ps k).p.locals) ∧ W.cell? ⟨b, off + k * 6 + 5, none⟩ = some (.slice (pd Ps k).ao (pd Ps k).n (pd Ps k).cap)) := fun W hW => by
          obtain ⟨b', off', e, c⟩ := (HPA.out.kept hW).get k hlt'
          cases e; exact c
        generalize pd Ps k = x at *
        obtain ⟨M, HM⟩ : ∃ M, Hid (headL n ++ procsB (Ps.take k) = M) := ⟨_, rfl⟩
        rw [HM.out] at HLn HE
        have hns : x.name.size < 18446744073709551616 := by have := HSm.out; omega
        go_wp2_with fail
        refine (refUint_any wr x.name.size hns).mono ?_
        rintro e w4 ⟨v4, rfl, ho4, hb4⟩
        obtain ⟨a4, cc4, rfl, hx4, hnil4, _⟩ := ho4.slice
        have HE4 : Hid (RE w w4 x6 M) := HE.out.kept hb4
        have HX4 : Hid (BytesAt w4 a4 (uint 10 x.name.size)) := hx4
        have HL4 : Hid ((uint 10 x.name.size).length ≤ 11) := uint_length 10 _
        clear ho4 hb4 hx4 HE c0 c1 c2 c3 c4 c5
        go_wp2_with (first
          | (at_builtin; refine wpList_append_str rfl _ _ rfl w.heap.size _ (M ++ uint 10 x.name.size) rfl HE5.out.own x.name rfl (by have := HL5.out; have := HSm.out; omega) HE5.out.bel.size ?_; intro v6 w6 ho6 hg6; have HE6 : Hid (RE w w6 v6 (M ++ uint 10 x.name.size ++ nmB x.name)) := HE5.out.put ho6 hg6; have HL6 : Hid ((M ++ uint 10 x.name.size ++ nmB x.name).length + 3150 ≤ 140737488355328) := (by have := HL5.out; have := HSm.out; have := nmB_length x.name; rw [List.length_append]; show _ ≤ _; omega); obtain ⟨d0, d1, d2, d3, d4, d5⟩ := HCs.out w6 HE6.out.bel; clear ho6 hg6)
          | (at_builtin; refine wpList_append_bytes rfl _ _ rfl w.heap.size _ M rfl HE4.out.own a4 _ cc4 (uint 10 x.name.size) rfl rfl HX4.out hnil4 (by have := HL4.out; have := HLn.out; omega) HE4.out.bel.size ?_; intro v5 w5 ho5 hg5; have HE5 : Hid (RE w w5 v5 (M ++ uint 10 x.name.size)) := HE4.out.put ho5 hg5; have HL5 : Hid ((M ++ uint 10 x.name.size).length + 3250 ≤ 140737488355328) := (by have := HL4.out; have := HLn.out; rw [List.length_append]; show _ ≤ _; omega); obtain ⟨c0, c1, c2, c3, c4, c5⟩ := HCs.out w5 HE5.out.bel; clear ho5 hg5))
        clear HE4 HX4 HL4 hnil4 HE5 HL5 c0 c1 c2 c3 c4 c5
        refine (written_any w6 x.p x.ao x.n x.cap x.L (HO0.out.ks.kept HE6.out.bel) HO0.out.len HO0.out.kin).mono ?_
        rintro e w7 ⟨v7, rfl, ho7, hb7⟩
        obtain ⟨a7, cc7, rfl, hx7, hnil7, _⟩ := ho7.slice
        have HE7 : Hid (RE w w7 v6 (M ++ uint 10 x.name.size ++ nmB x.name)) := HE6.out.kept hb7
        have HX7 : Hid (BytesAt w7 a7 (writtenN x.p x.L).1) := hx7
        have HL7 : Hid ((writtenN x.p x.L).1.length ≤ 3127) := written_length x.p x.L
        clear ho7 hb7 hx7 HE6 d0 d1 d2 d3 d4 d5
        generalize (writtenN x.p x.L).2 = pe at *
        go_wp2_with (at_builtin; refine wpList_append_bytes rfl _ _ rfl w.heap.size _ (M ++ uint 10 x.name.size ++ nmB x.name) rfl HE7.out.own a7 _ cc7 (writtenN x.p x.L).1 rfl rfl HX7.out hnil7 (by have := HL6.out; have := HL7.out; omega) HE7.out.bel.size ?_; intro v8 w8 ho8 hg8)
        have HE8 : Hid (RE w w8 v8 (headL n ++ procsB (Ps.take (k + 1)))) := by
          rw [HT.out, ← List.append_assoc, HM.out]
          have e : M ++ procB x = M ++ uint 10 x.name.size ++ nmB x.name ++ (writtenN x.p x.L).1 := by simp [procB]
          rw [e]
          exact HE7.out.put ho8 hg8
        clear ho8 hg8 HE7
        go_wp2
        go_roundw
        case rel => exact ⟨k + 1, v8, by omega, rfl, by go_num, HE8⟩
        case measure => simp [intOf]; omega
      · obtain rfl : k = n := by omega
        have HF : Hid (RE w wr x6 (encR Ps)) := by
          rw [encR_ok HCk.out]
          have e : encN Ps = headL k ++ procsB (Ps.take k) := by rw [HN.out, List.take_length]; rfl
          rw [e]; exact HE.out
        go_wp2
        go_ret2
        exact ⟨x6, by rw [HCk.out]; rfl, HF.out⟩
  · have h0' : ((checkN Ps).2 != 0) = true := by simpa using h0
    have HF : Hid (RE w w1 (.slice none 0 0) (encR Ps)) := by rw [encR_bad h0]; exact ⟨OwnB.nil _ _, HB1.out⟩
    generalize hc2 : (checkN Ps).2 = c2 at *
    generalize (checkN Ps).1 = at1 at *
    clear h0
    go_wp2
    go_ret2
    exact ⟨.slice none 0 0, by rw [hc2]; rfl, HF.out⟩
end Go.Proofs.YtkjmeknaedapjaaDoor
/-
  PLAIN MATHEMATICS OF NUMBERS OF SEVEN BITS A BYTE (promises 1.1 to 1.5).
-/
namespace Go.Proofs.YtkjmeknaedapjaaDoor

/-- the number at the front of bytes, how many bytes it has, what is wrong: behind i bytes, which were acc -/
def scanFrom : Nat → Nat → List Nat → Nat × Nat × Nat
  | _, _, [] => (0, 0, 10)
  | i, acc, c :: r => if (i = 9 ∧ 1 < c) ∨ (0 < i ∧ c = 0) then (0, 0, 11) else if c < 128 then (acc + c * 2 ^ (7 * i), i + 1, 0) else scanFrom (i + 1) (acc + (c - 128) * 2 ^ (7 * i)) r
def scan (C : List Nat) : Nat × Nat × Nat := scanFrom 0 0 C

theorem pow7 (i : Nat) : 2 ^ (7 * (i + 1)) = 128 * 2 ^ (7 * i) := by rw [show 7 * (i + 1) = 7 + 7 * i by omega, Nat.pow_add]
/-- what was written is read -/
theorem scan_uint (R : List Nat) : ∀ (f i acc n : Nat), i + f = 9 → n < 2 ^ (64 - 7 * i) → (0 < i → 0 < n) → scanFrom i acc (uint (f + 1) n ++ R) = (acc + n * 2 ^ (7 * i), i + (uint (f + 1) n).length, 0)
  | f, i, acc, n, hif, hn, h0 => by
    by_cases hge : 128 ≤ n
    · have hi9 : i ≠ 9 := by
        intro e; subst e
        simp at hn; omega
      cases f with
      | zero => omega
      | succ f =>
        rw [uint_more _ _ hge, List.cons_append, scanFrom, if_neg (by omega), if_neg (by omega), Nat.add_sub_cancel]
        rw [scan_uint R f (i + 1) _ (n / 128) (by omega) (by
          have e : 2 ^ (64 - 7 * i) = 128 * 2 ^ (64 - 7 * (i + 1)) := by rw [show 64 - 7 * i = 7 + (64 - 7 * (i + 1)) by omega, Nat.pow_add]
          omega) (by omega)]
        rw [pow7, List.length_cons]
        have e1 : n = n % 128 + 128 * (n / 128) := by omega
        refine Prod.ext ?_ (Prod.ext (by simp only; omega) rfl)
        simp only
        conv => rhs; rw [e1, Nat.add_mul]
        rw [Nat.add_assoc, Nat.mul_comm 128 (n / 128), Nat.mul_assoc]
    · rw [uint_last _ _ hge, List.singleton_append, scanFrom, if_neg ?_, if_pos (by omega)]
      · rfl
      · rintro (⟨e, h⟩ | ⟨h1, h2⟩)
        · subst e; simp at hn; omega
        · have := h0 h1; omega
/-- what is read is what is written -/
theorem scan_back : ∀ (L : List Nat) (i acc n k : Nat), (∀ z ∈ L, z < 256) → i ≤ 9 → scanFrom i acc L = (n, k, 0) →
    ∃ m, n = acc + m * 2 ^ (7 * i) ∧ m < 2 ^ (64 - 7 * i) ∧ i < k ∧ k - i ≤ L.length ∧ L.take (k - i) = uint (10 - i) m ∧ (0 < i → 0 < m)
  | [], i, acc, n, k, _, _, h => by simp [scanFrom] at h
  | c :: r, i, acc, n, k, hz, hi, h => by
    unfold scanFrom at h
    by_cases h1 : (i = 9 ∧ 1 < c) ∨ (0 < i ∧ c = 0)
    · rw [if_pos h1] at h; simp at h
    · rw [if_neg h1] at h
      by_cases h2 : c < 128
      · rw [if_pos h2] at h
        simp only [Prod.mk.injEq, and_true] at h
        obtain ⟨rfl, rfl⟩ := h
        refine ⟨c, rfl, ?_, by omega, by simp, ?_, by omega⟩
        · by_cases e : i = 9
          · subst e; simp; omega
          · have : 2 ^ 7 ≤ 2 ^ (64 - 7 * i) := Nat.pow_le_pow_right (by omega) (by omega)
            omega
        · rw [Nat.add_sub_cancel_left, show 10 - i = (9 - i) + 1 by omega, uint_last _ _ (by omega)]; rfl
      · rw [if_neg h2] at h
        have hi9 : i ≠ 9 := by omega
        obtain ⟨m, hn, hm, hk, hl, ht, hp⟩ := scan_back r (i + 1) _ n k (fun z hz' => hz z (by simp [hz'])) (by omega) h
        have hc := hz c (by simp)
        refine ⟨(c - 128) + 128 * m, ?_, ?_, by omega, by simp; omega, ?_, by omega⟩
        · rw [hn, pow7, Nat.add_mul, Nat.add_assoc, Nat.mul_comm 128 m, Nat.mul_assoc]
        · have e : 2 ^ (64 - 7 * i) = 128 * 2 ^ (64 - 7 * (i + 1)) := by rw [show 64 - 7 * i = 7 + (64 - 7 * (i + 1)) by omega, Nat.pow_add]
          omega
        · have hmp := hp (by omega)
          rw [show k - i = (k - (i + 1)) + 1 by omega, List.take_succ_cons, ht, show 10 - i = (9 - i) + 1 by omega, uint_more _ _ (by omega)]
          rw [show ((c - 128) + 128 * m) % 128 + 128 = c by omega, show ((c - 128) + 128 * m) / 128 = m by omega, show 10 - (i + 1) = 9 - i by omega]
theorem scan_one (C : List Nat) (n k : Nat) (hz : ∀ z ∈ C, z < 256) (h : scan C = (n, k, 0)) : n < 18446744073709551616 ∧ 0 < k ∧ k ≤ C.length ∧ C.take k = uint 10 n := by
  obtain ⟨m, hn, hm, hk, hl, ht, _⟩ := scan_back C 0 0 n k hz (by omega) h
  simp only [Nat.zero_add, Nat.mul_zero, Nat.pow_zero, Nat.mul_one, Nat.sub_zero] at *
  subst hn
  exact ⟨hm, hk, hl, ht⟩
theorem scan_err : ∀ (L : List Nat) (i acc : Nat), (scanFrom i acc L).2.2 ≠ 0 → (scanFrom i acc L).1 = 0 ∧ (scanFrom i acc L).2.1 = 0
  | [], i, acc, _ => by simp [scanFrom]
  | c :: r, i, acc, h => by
    unfold scanFrom at h ⊢
    split
    · simp
    · rename_i h1
      rw [if_neg h1] at h
      split
      · rename_i h2; rw [if_pos h2] at h; simp at h
      · rename_i h2; rw [if_neg h2] at h; exact scan_err r _ _ h

end Go.Proofs.YtkjmeknaedapjaaDoor
