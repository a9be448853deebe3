/-
  THE WALK OF preluderef03.Written.
-/
import Derived.Test.YtjmlogljfboleaaLRef2
import Derived.Test.YtjmlogljfboleaaLPMath
import Derived.Test.YtjmlogljfboleaaRefNum
namespace Go.Proofs.Ytjmlogljfboleaa
open Go.RowKit Go.Sort

/-- the five numbers in a box -/
def ABox (W : World) (H : Nat) (p : Nums) (n : Nat) : Prop := W.heap[H]? = some (.cells #[.int .i64 p.args, .int .i64 p.reads, .int .i64 p.writes, .int .i64 p.locals, .int .i64 (n : Int)] 89 (0, 0))
theorem ABox.cells {W : World} {B : Nat} {p : Nums} {n : Nat} (h : ABox W B p n) :
    W.cell? ⟨B, 0, none⟩ = some (.int .i64 p.args) ∧ W.cell? ⟨B, 1, none⟩ = some (.int .i64 p.reads) ∧ W.cell? ⟨B, 2, none⟩ = some (.int .i64 p.writes) ∧ W.cell? ⟨B, 3, none⟩ = some (.int .i64 p.locals) ∧ W.cell? ⟨B, 4, none⟩ = some (.int .i64 (n : Int)) := by
  refine ⟨?_, ?_, ?_, ?_, ?_⟩ <;> simp [World.cell?, show W.heap[B]? = _ from h]
/-- what stands while the document writes a program -/
structure WS (w W : World) (base : Nat) (vb : Value) (b : List Nat) (p : Nums) (ao : Option Addr) (n cap H : Nat) (L : List K) : Prop where
  own : OwnB W base vb b
  bx : PBox W w.heap.size p ao n cap
  ax : ABox W H p n
  ks : KeysAt W ao L
  bel : Below w.heap.size w W
  ob : w.heap.size < base
  oh : H < base
  sz : base ≤ W.heap.size
  lt : ∀ a, L ≠ [] → ao = some a → a.block < w.heap.size
theorem WS.grown {w W W' : World} {base : Nat} {vb v' : Value} {b b' : List Nat} {p : Nums} {ao : Option Addr} {n cap H : Nat} {L : List K} (h : WS w W base vb b p ao n cap H L) (ho : OwnB W' base v' b') (hg : W.grownBy W' vb.ownBlock) : WS w W' base v' b' p ao n cap H L := by
  have hb : Below base W W' := below_grown hg (fun k hk => (h.own.2.lt k hk).1) h.sz
  exact ⟨ho, h.bx.below hb h.ob, (hb.block H h.oh).trans h.ax, h.ks.below hb (fun a h1 h2 => Nat.lt_trans (h.lt a h1 h2) h.ob), h.bel.trans (hb.mono (Nat.le_of_lt h.ob)), h.ob, h.oh, Nat.le_trans h.sz hb.size, h.lt⟩
theorem WS.kept {w W W' : World} {base : Nat} {vb : Value} {b : List Nat} {p : Nums} {ao : Option Addr} {n cap H : Nat} {L : List K} (h : WS w W base vb b p ao n cap H L) (hb : Below W.heap.size W W') : WS w W' base vb b p ao n cap H L :=
  ⟨h.own.kept hb, h.bx.kept hb, (hb.block H (Nat.lt_of_lt_of_le h.oh h.sz)).trans h.ax, h.ks.kept hb, h.bel.trans (hb.mono h.bel.size), h.ob, h.oh, Nat.le_trans h.sz hb.size, h.lt⟩
theorem WS.alloc {w W : World} {base : Nat} {vb : Value} {b : List Nat} {p : Nums} {ao : Option Addr} {n cap H : Nat} {L : List K} (h : WS w W base vb b p ao n cap H L) (o : Obj) : WS w (W.alloc o) base vb b p ao n cap H L := h.kept ((Below.refl _ _).alloc (Nat.le_refl _) _)

set_option maxRecDepth 100000 in
set_option maxHeartbeats 2000000 in
theorem written_any (w : World) (p : Nums) (ao : Option Addr) (n cap : Nat) (L : List K) (hL : KeysAt w ao L) (hn : n = L.length) (hK : ∀ k ∈ L, KIn k) :
    Calls Try.prog 18 #[pv p ao n cap] w fun e w' => ∃ vb, e = .returned (.tuple #[vb, .int .i64 (writtenN p L).2]) ∧ OwnB w' w.heap.size vb (writtenN p L).1 ∧ Below w.heap.size w w' := by
  have HN : Hid (n = L.length) := hn
  have HK : Hid (∀ k ∈ L, KIn k) := hK
  have HL : Hid (KeysAt w ao L) := hL
  clear hn hK hL
  go_enter Try.func18, Try.ntmps18
  go_wp2_with fail
  refine (refLimits_any _ p ao n cap).mono ?_
  rintro e w1 ⟨rfl, g1⟩
  have HB1 : Hid (PBox w1 w.heap.size p ao n cap) := (PBox.new w p ao n cap).kept (Grew.below g1)
  have HW1 : Hid (Below w.heap.size w w1) := ((Below.refl _ _).alloc (Nat.le_refl _) _).trans ((Grew.below g1).mono (by simp))
  clear g1
  obtain ⟨x0, x1, x2, x3, x4⟩ := HB1.out.cells
  cases hlm : limB p n with
  | false =>
    have HV : Hid (writtenN p L = ([], 30)) := written_lim (by rw [← HN.out]; exact hlm)
    go_wp2
    go_ret2
    refine ⟨.slice none 0 0, by rw [HV.out]; rfl, by rw [HV.out]; exact OwnB.nil _ _, HW1.out⟩
  | true =>
    obtain ⟨p0, p1, p2, p3, hm⟩ := (limB_iff p n).1 hlm
    have HLim : Hid (limB p L.length = true) := by rw [← HN.out]; exact hlm
    clear hlm
    have HS0 : Hid (WS w (w1.alloc (.cells #[.int .i64 p.args, .int .i64 p.reads, .int .i64 p.writes, .int .i64 p.locals, .int .i64 (n : Int)] 89)) (w1.heap.size + 1) (.slice none 0 0) (headB p n 0) p ao n cap w1.heap.size L) := by
      have hA : Below w1.heap.size w1 (w1.alloc (.cells #[.int .i64 p.args, .int .i64 p.reads, .int .i64 p.writes, .int .i64 p.locals, .int .i64 (n : Int)] 89)) := (Below.refl _ _).alloc (Nat.le_refl _) _
      exact ⟨OwnB.nil _ _, HB1.out.kept hA, heap_alloc_new _ _ rfl, (HL.out.kept HW1.out).kept hA, HW1.out.trans (hA.mono HW1.out.size), by have := HB1.out.lt; omega, by omega, by simp, HL.out.lt⟩
    go_wp2_with fail
    generalize w1.alloc (.cells #[.int .i64 p.args, .int .i64 p.reads, .int .i64 p.writes, .int .i64 p.locals, .int .i64 (n : Int)] 89) = W1 at *
    generalize w1.heap.size = H at *
    clear x0 x1 x2 x3 x4 HB1 HW1
    go_loopw [4, 6] (fun vb x wr => ∃ j : Nat, j ≤ 5 ∧ x = .int .i64 (j : Int) ∧ Hid (WS w wr (H + 1) vb (headB p n j) p ao n cap H L)) (fun _ x _ => 5 - (intOf x).toNat)
    case atStart => exact ⟨0, by omega, rfl, HS0⟩
    case round =>
      clear HS0
      obtain ⟨j, hj, rfl, HS⟩ := hrel
      by_cases hj5 : j < 5
      · have HH : Hid (headB p n (j + 1) = headB p n j ++ uint 10 ((headN p n).getD j 0)) := headB_succ p n j hj5
        have HLn : Hid ((headB p n j).length + (uint 10 ((headN p n).getD j 0)).length ≤ 140737488355328) := by have := headB_length p n j; have := uint_length 10 ((headN p n).getD j 0); show _ ≤ _; omega
        have HX : Hid (∀ x : Int, 0 ≤ x → x ≤ 256 → (headN p n).getD j 0 = x.toNat → Calls Try.prog 47 #[.int .u64 x] wr fun e w' => ∃ ao2 c2, e = .returned (.slice ao2 (uint 10 ((headN p n).getD j 0)).length c2) ∧ Hid (BytesAt w' ao2 (uint 10 ((headN p n).getD j 0)) ∧ (ao2 = none → c2 = 0) ∧ WS w w' (H + 1) u4 (headB p n j) p ao n cap H L)) := fun x hx0 hx1 e => by
          obtain ⟨z, rfl⟩ := Int.eq_ofNat_of_zero_le hx0
          refine (refUint_any wr z (by omega)).mono ?_
          rintro e' w3 ⟨v3, rfl, ho3, hb3⟩
          obtain ⟨ao2, c2, rfl, h1, h2, _⟩ := ho3.slice
          rw [e]
          exact ⟨ao2, c2, rfl, h1, h2, HS.out.kept hb3⟩
        obtain ⟨x0, x1, x2, x3, x4⟩ := HS.out.ax.cells
        obtain rfl | rfl | rfl | rfl | rfl : j = 0 ∨ j = 1 ∨ j = 2 ∨ j = 3 ∨ j = 4 := by omega
        · go_wp2_with (first
            | (go_at_call 47; refine (HX.out p.args p0.1 (by omega) rfl).mono ?_; rintro e w3 ⟨ao2, c2, rfl, HY⟩)
            | (at_builtin; refine wpList_append_bytes rfl _ _ rfl (H + 1) _ (headB p n 0) rfl HY.out.2.2.own _ _ _ _ rfl rfl HY.out.1 HY.out.2.1 HLn.out HY.out.2.2.sz ?_; intro v5 w5 ho5 hg5))
          have HS5 : Hid (WS w w5 (H + 1) v5 (headB p n 1) p ao n cap H L) := by rw [HH.out]; exact HY.out.2.2.grown ho5 hg5
          clear ho5 hg5
          go_roundw
          case rel => exact ⟨1, by omega, by go_num, HS5⟩
          case measure => simp [intOf]
        · go_wp2_with (first
            | (go_at_call 47; refine (HX.out p.reads p1.1 (by omega) rfl).mono ?_; rintro e w3 ⟨ao2, c2, rfl, HY⟩)
            | (at_builtin; refine wpList_append_bytes rfl _ _ rfl (H + 1) _ (headB p n 1) rfl HY.out.2.2.own _ _ _ _ rfl rfl HY.out.1 HY.out.2.1 HLn.out HY.out.2.2.sz ?_; intro v5 w5 ho5 hg5))
          have HS5 : Hid (WS w w5 (H + 1) v5 (headB p n 2) p ao n cap H L) := by rw [HH.out]; exact HY.out.2.2.grown ho5 hg5
          clear ho5 hg5
          go_roundw
          case rel => exact ⟨2, by omega, by go_num, HS5⟩
          case measure => simp [intOf]
        · go_wp2_with (first
            | (go_at_call 47; refine (HX.out p.writes p2.1 (by omega) rfl).mono ?_; rintro e w3 ⟨ao2, c2, rfl, HY⟩)
            | (at_builtin; refine wpList_append_bytes rfl _ _ rfl (H + 1) _ (headB p n 2) rfl HY.out.2.2.own _ _ _ _ rfl rfl HY.out.1 HY.out.2.1 HLn.out HY.out.2.2.sz ?_; intro v5 w5 ho5 hg5))
          have HS5 : Hid (WS w w5 (H + 1) v5 (headB p n 3) p ao n cap H L) := by rw [HH.out]; exact HY.out.2.2.grown ho5 hg5
          clear ho5 hg5
          go_roundw
          case rel => exact ⟨3, by omega, by go_num, HS5⟩
          case measure => simp [intOf]
        · go_wp2_with (first
            | (go_at_call 47; refine (HX.out p.locals p3.1 (by omega) rfl).mono ?_; rintro e w3 ⟨ao2, c2, rfl, HY⟩)
            | (at_builtin; refine wpList_append_bytes rfl _ _ rfl (H + 1) _ (headB p n 3) rfl HY.out.2.2.own _ _ _ _ rfl rfl HY.out.1 HY.out.2.1 HLn.out HY.out.2.2.sz ?_; intro v5 w5 ho5 hg5))
          have HS5 : Hid (WS w w5 (H + 1) v5 (headB p n 4) p ao n cap H L) := by rw [HH.out]; exact HY.out.2.2.grown ho5 hg5
          clear ho5 hg5
          go_roundw
          case rel => exact ⟨4, by omega, by go_num, HS5⟩
          case measure => simp [intOf]
        · go_wp2_with (first
            | (go_at_call 47; refine (HX.out (n : Int) (by omega) (by omega) rfl).mono ?_; rintro e w3 ⟨ao2, c2, rfl, HY⟩)
            | (at_builtin; refine wpList_append_bytes rfl _ _ rfl (H + 1) _ (headB p n 4) rfl HY.out.2.2.own _ _ _ _ rfl rfl HY.out.1 HY.out.2.1 HLn.out HY.out.2.2.sz ?_; intro v5 w5 ho5 hg5))
          have HS5 : Hid (WS w w5 (H + 1) v5 (headB p n 5) p ao n cap H L) := by rw [HH.out]; exact HY.out.2.2.grown ho5 hg5
          clear ho5 hg5
          go_roundw
          case rel => exact ⟨5, by omega, by go_num, HS5⟩
          case measure => simp [intOf]
      · obtain rfl : j = 5 := by omega
        rw [show ((5 : Nat) : Int) = 5 from rfl]
        have HM0 : Hid (WS w wr (H + 1) u4 (headB p n 5 ++ codeB (L.take 0)) p ao n cap H L) := by
          rw [List.take_zero, codeB, List.append_nil]; exact HS.out
        go_wp2_with fail
        generalize wr = wy at *
        clear HS
        go_loopw [4, 7] (fun vb x wr => ∃ i : Nat, i ≤ n ∧ x = .int .i64 (i : Int) ∧ Hid (opsB (L.take i) = true) ∧ Hid (WS w wr (H + 1) vb (headB p n 5 ++ codeB (L.take i)) p ao n cap H L)) (fun _ x _ => n - (intOf x).toNat)
        case atStart => exact ⟨0, by omega, rfl, rfl, HM0⟩
        case round =>
          clear HM0
          obtain ⟨i, hi, rfl, HA, HS⟩ := hrel
          obtain ⟨x0, x1, x2, x3, x4⟩ := HS.out.bx.cells
          by_cases hik : i < n
          · obtain ⟨kb, koff, rfl, c0, c1⟩ := HS.out.ks.get i (by have := HN.out; omega)
            have HIn : Hid (KIn (cd L i)) := HK.out _ (cd_mem (by have := HN.out; omega))
            have HOF : Hid (isOpB (cd L i).1 = false → opsB L = false) := opsB_false (by have := HN.out; omega)
            have HT2 : Hid (opsB (L.take (i + 1)) = (opsB (L.take i) && isOpB (cd L i).1)) := opsB_take i (show i < L.length by have := HN.out; omega)
            have HCt : Hid (codeB (L.take (i + 1)) = codeB (L.take i) ++ instrB (cd L i)) := codeB_take L i (by have := HN.out; omega)
            have HLn : Hid ((headB p n 5 ++ codeB (L.take i)).length + 12 ≤ 140737488355328) := by
              have h1 := headB_length p n 5
              have h2 := codeB_length (L.take i)
              have h3 : (L.take i).length ≤ i := by simp; omega
              rw [List.length_append]; show _ ≤ _; omega
            generalize hcd : cd L i = ck0 at *
            obtain ⟨op, a⟩ := ck0
            obtain ⟨M, HM⟩ : ∃ M, Hid (headB p n 5 ++ codeB (L.take i) = M) := ⟨_, rfl⟩
            rw [HM.out] at HLn HS
            cases hop : isOpB op with
            | false =>
              have HV : Hid (writtenN p L = ([], 31)) := written_op HLim.out (HOF.out hop)
              have hop' : op < 0 ∨ 37 ≤ op := by simp only [isOpB, Bool.and_eq_false_iff, decide_eq_false_iff_not] at hop; omega
              have HB2 : Hid (WS w (wr.alloc (.cells #[.int .i64 op, .int .i64 a] 72)) (H + 1) u4 M p (some ⟨kb, koff, none⟩) n cap H L) := HS.out.alloc _
              clear hop
              rcases hop' with h1 | h1
              · go_wp2
                go_ret2
                exact ⟨.slice none 0 0, by rw [HV.out]; rfl, by rw [HV.out]; exact OwnB.nil _ _, HB2.out.bel⟩
              · have h2 : ¬ op < 0 := by omega
                go_wp2
                go_ret2
                exact ⟨.slice none 0 0, by rw [HV.out]; rfl, by rw [HV.out]; exact OwnB.nil _ _, HB2.out.bel⟩
            | true =>
              have HA2 : Hid (opsB (L.take (i + 1)) = true) := by rw [HT2.out, HA.out, hop]; rfl
              simp only [isOpB, Bool.and_eq_true, decide_eq_true_eq] at hop
              obtain ⟨o, rfl⟩ := Int.eq_ofNat_of_zero_le hop.1
              have ho1 : o < 37 := by omega
              have ho2 : ¬ (o : Int) < 0 := by omega
              have ho3 : ¬ (37 : Int) ≤ (o : Int) := by omega
              clear hop
              have HB2 : Hid (WS w (wr.alloc (.cells #[.int .i64 (o : Int), .int .i64 a] 72)) (H + 1) u4 M p (some ⟨kb, koff, none⟩) n cap H L) := HS.out.alloc _
              by_cases h0 : a = 0
              · subst h0
                go_wp2_with (at_builtin; refine wpList_append_bytes rfl _ _ rfl (H + 1) _ M rfl (HB2.out.alloc _).own _ _ _ [o] rfl rfl (byte_src _ _ o (by simp) (by omega)) (by simp) (by have := HLn.out; simp; omega) (HB2.out.alloc _).sz ?_; intro v5 w5 ho5 hg5)
                have HS5 : Hid (WS w w5 (H + 1) v5 (headB p n 5 ++ codeB (L.take (i + 1))) p (some ⟨kb, koff, none⟩) n cap H L) := by
                  rw [HCt.out, ← List.append_assoc, HM.out]
                  exact (HB2.out.alloc _).grown ho5 hg5
                clear ho5 hg5
                go_roundw
                case rel => exact ⟨i + 1, by omega, by go_num, HA2, HS5⟩
                case measure => simp [intOf]; omega
              · have h0' : (a == 0) = false := by simpa using h0
                obtain ⟨z, hz⟩ : ∃ z : Nat, (o : Int) + 64 = (z : Int) := ⟨o + 64, by omega⟩
                have hz1 : z < 256 := by omega
                have HZ : Hid (z = o + 64) := by show z = o + 64; omega
                have HIB : Hid (instrB ((o : Int), a) = [z] ++ uint 10 (fold a)) := by
                  rw [HZ.out]; unfold instrB; rw [if_neg h0]; rfl
                have HBX : Hid (Box (wr.alloc (.cells #[.int .i64 (o : Int), .int .i64 a] 72)) wr.heap.size (o : Int) a) := Box.new rfl
                have HNe : Hid (u4.ownBlock ≠ some wr.heap.size) := fun e => by have := (HS.out.own.2.lt _ e).2; omega
                clear h0
                go_wp2_with (first
                  | (go_at_call 48; refine (refInt_any _ a HIn.out.2.1 HIn.out.2.2).mono ?_; rintro e w6 ⟨v6, rfl, ho6, hb6⟩; obtain ⟨a6, c6, rfl, h61, h62, _⟩ := ho6.slice; have HS6 : Hid (WS w w6 (H + 1) v5 (M ++ [z]) p (some ⟨kb, koff, none⟩) n cap H L) := HS5.out.kept hb6; have HY6 : Hid (BytesAt w6 a6 (uint 10 (fold a)) ∧ (a6 = none → c6 = 0)) := ⟨h61, h62⟩; clear ho6 hb6 h61 h62)
                  | (at_builtin; refine wpList_append_bytes rfl _ _ rfl (H + 1) _ (M ++ [z]) rfl HS6.out.own _ _ _ _ rfl rfl HY6.out.1 HY6.out.2 (by have := HLn.out; have := uint_length 10 (fold a); simp; omega) HS6.out.sz ?_; intro v7 w7 ho7 hg7)
                  | (at_builtin; refine wpList_append_bytes rfl _ _ rfl (H + 1) _ M rfl (HB2.out.alloc _).own _ _ _ [z] rfl rfl (byte_src _ _ z (by simp) hz1) (by simp) (by have := HLn.out; simp; omega) (HB2.out.alloc _).sz ?_; intro v5 w5 ho5 hg5; have HS5 : Hid (WS w w5 (H + 1) v5 (M ++ [z]) p (some ⟨kb, koff, none⟩) n cap H L) := (HB2.out.alloc _).grown ho5 hg5; have d1 : w5.cell? ⟨wr.heap.size, 1, none⟩ = some (.int .i64 a) := hg5.cell (HBX.out.alloc _).2 (fun e => HNe.out e.symm); clear ho5 hg5))
                have HS7 : Hid (WS w w7 (H + 1) v7 (headB p n 5 ++ codeB (L.take (i + 1))) p (some ⟨kb, koff, none⟩) n cap H L) := by
                  rw [HCt.out, HIB.out, ← List.append_assoc, ← List.append_assoc, HM.out]
                  exact HS6.out.grown ho7 hg7
                clear ho7 hg7
                go_roundw
                case rel => exact ⟨i + 1, by omega, by go_num, HA2, HS7⟩
                case measure => simp [intOf]; omega
          · obtain rfl : i = n := by omega
            have HO : Hid (opsB L = true) := by have := HA.out; rw [HN.out, List.take_length] at this; exact this
            have HV : Hid (writtenN p L = (progB p L, 0)) := written_ok HLim.out HO.out
            have HE : Hid ((writtenN p L).1 = headB p i 5 ++ codeB (L.take i)) := by
              rw [HV.out, HN.out, List.take_length]; rfl
            go_wp2
            go_ret2
            refine ⟨u4, by rw [HV.out]; rfl, ?_, HS.out.bel⟩
            rw [HE.out]; exact HS.out.own.mono (Nat.le_of_lt HS.out.ob)
end Go.Proofs.Ytjmlogljfboleaa
