/-
  SOURCE: strings.IndexRune, ContainsRune at texts of ASCII.
-/
import Derived.Test.YtlabofafmcbfmaaGreatDoorSrTk
import Derived.Test.YtlabofafmcbfmaaGreatDoorSrFr
import Derived.Test.YtlabofafmcbfmaaGreatDoorSrBeh
import Derived.Laws.Runes
import Derived.Shelf.Small.Utf8
import Derived.Deep.QuietTactic
import Derived.BigQuiet
import Derived.WalkMore
namespace Go.Proofs.YtlabofafmcbfmaaGreatDoor
open Go.RowKit Go.Sort Go.Shelf

theorem idxByte_any (w : World) (s : ByteArray) (c : Int) : Calls Tryz.prog 72 #[.string s, .int .u8 c] w fun e w' => e = .returned (.int .i64 (Lib.indexByte s.data.toList c.toNat.toUInt8)) ∧ w' = w := Any.strings_IndexByte { lays152 with } s c w
theorem validRune_any (w : World) (r : Int) : Calls Tryz.prog 73 #[.int .i32 r] w fun e w' => e = .returned (.bool (Lib.validRune r)) ∧ w' = w := Any.utf8_ValidRune { lays152 with } r w
theorem indexByte_hi : ∀ (l : List UInt8) (c : UInt8), (∀ b ∈ l, b ≠ c) → Lib.indexByte l c = -1
  | [], _, _ => rfl
  | b :: l, c, h => by
    have h1 : (b == c) = false := beq_eq_false_iff_ne.2 (h b (by simp))
    have h2 := indexByte_hi l c (fun d hd => h d (by simp [hd]))
    unfold Lib.indexByte
    rw [h1, h2]
    rfl
theorem indexRune_lo (w : World) (l : List UInt8) (r : Nat) (h : r < 128) : Calls Tryz.prog 61 #[.string (S l), .int .i32 (r : Int)] w fun e w' => e = .returned (.int .i64 (Lib.indexByte l (UInt8.ofNat r))) ∧ w' = w := by
  have h1 : Calls Tryz.prog 61 #[.string (S l), .int .i32 (r : Int)] w _ := Any.strings_IndexRune_ascii lays152 (S l) (r : Int) w (by omega) (by omega)
  rw [S_list] at h1
  exact h1
set_option maxRecDepth 100000 in
set_option maxHeartbeats 2000000 in
theorem indexRune_hi (w : World) (l : List UInt8) (hl : l.length ≤ 1000) (ha : ∀ b ∈ l, b.toNat < 128) (r : Nat) (h : 128 ≤ r) (h2 : r ≤ 2147483647) : Calls Tryz.prog 61 #[.string (S l), .int .i32 (r : Int)] w fun e w' => e = .returned (.int .i64 (-1)) ∧ Grew w w' := by
  have HG : Hid (Grew w w) := Grew.refl w
  have HA := hidS ha
  obtain ⟨n, hn⟩ : ∃ n, n = l.length := ⟨_, rfl⟩
  have HN := hidS hn
  have hsz : (S l).size = n := by rw [S_size, hn]
  have HSz := hidS hsz
  have hn9 : n ≤ 1000 := by omega
  have hrI : (128 : Int) ≤ (r : Int) := by omega
  have hrJ : (r : Int) ≤ 2147483647 := by omega
  have hrK : ¬ (r : Int) < 128 := by omega
  clear hn hl ha
  by_cases he : r = 65533
  · subst he
    have HG2 : Hid (∀ k, Grew w (w.iter (S l) k)) := fun k => (Grew.refl w).alloc _
    clear h h2 hrI hrJ hrK
    go_enter Tryz.func61, Tryz.ntmps61
    go_wp2_with fail
    go_loopw [] (fun wr => ∃ (k : Nat), k ≤ n ∧ wr = w.iter (S l) k) (fun wr => n - wr.iterPos w.heap.size)
    case atStart => exact ⟨0, Nat.zero_le _, rfl⟩
    case round =>
      obtain ⟨k, hk, rfl⟩ := hrel
      by_cases hlt : k < n
      · have hkl : k < l.length := by rw [← HN.out]; exact hlt
        have hnx := fun ty => run_next_any (P := Tryz.prog) w (S l) k ty (by rw [HSz.out]; exact hlt)
        have h128 : l[k].toNat < 128 := HA.out _ (List.getElem_mem hkl)
        have hd : Utf8.decode (S l) k = (l[k].toNat, 1) := by
          rcases sgn_at l k hkl with h1 | h1
          · exact h1.2
          · omega
        rw [hd] at hnx
        obtain ⟨c, hc⟩ : ∃ c, c = l[k].toNat := ⟨_, rfl⟩
        rw [← hc] at hnx h128
        simp only at hnx
        have hq : ((c : Int) == 65533) = false := by simp; omega
        clear hd hc
        go_wp2_with fail
        go_roundw
        case rel => exact ⟨k + 1, by omega, rfl⟩
        case measure => simp only [World.iterPos_iter]; omega
      · have hke : k = n := by omega
        subst hke
        have hnx := fun ty => run_next_end (P := Tryz.prog) w (S l) k ty (by rw [HSz.out]; omega)
        have HG3 := hidS (HG2.out k)
        go_wp2
        go_ret
        exact ⟨rfl, HG3.out⟩
  · have hq : ((r : Int) == 65533) = false := by simp; omega
    clear he
    obtain ⟨v, hv⟩ : ∃ v, v = Lib.validRune (r : Int) := ⟨_, rfl⟩
    have HV : Hid (∀ W, Calls Tryz.prog 73 #[.int .i32 (r : Int)] W fun e w' => e = .returned (.bool v) ∧ w' = W) := fun W => by rw [hv]; exact validRune_any W r
    have HVv : Hid (v = Utf8.valid (r : Int)) := by show _ = _; rw [hv, validRune_eq]; simp only [Lib.validRune, validRune]
    clear hv
    cases v with
    | false =>
      clear HVv h h2
      go_enter Tryz.func61, Tryz.ntmps61
      go_wp2_with (first | (go_at_call 73; refine (HV.out _).mono ?_; rintro e wE ⟨rfl, hwE⟩; have hwE' := hwE.symm; subst hwE'; clear hwE))
      go_ret
      exact ⟨rfl, HG.out⟩
    | true =>
      have hf := encode_facts (r : Int) HVv.out.symm hrI
      obtain ⟨e, he⟩ : ∃ e, e = Utf8.encode (r : Int) := ⟨_, rfl⟩
      rw [← he] at hf
      obtain ⟨hf1, hf2, hf3⟩ := hf
      obtain ⟨k, hsm⟩ : ∃ k, e.size = k + 1 := ⟨e.size - 1, by omega⟩
      have hke : k < e.size := by omega
      obtain ⟨d, hd⟩ : ∃ d, d = (e[k]'hke).toNat := ⟨_, rfl⟩
      have hd128 : 128 ≤ d := by
        have h5 := hf3 (by omega)
        have h6 : e[e.size - 1]'(by omega) = e[k]'hke := by congr 1; omega
        rw [hd, ← h6]; exact h5
      have hd256 : d < 256 := by have := UInt8.toNat_lt (e[k]'hke); omega
      have HIx : Hid (∀ W b, Calls Tryz.prog 72 #[.string ((S l).extract b n), .int .u8 (d : Int)] W fun e w' => e = .returned (.int .i64 (-1)) ∧ w' = W) := fun W b => by
        refine (idxByte_any W ((S l).extract b n) (d : Int)).mono fun e w' ⟨a1, a2⟩ => ⟨?_, a2⟩
        rw [a1, indexByte_hi _ _ (fun x hx => ?_)]
        rw [S_cut, S_list] at hx
        have := HA.out x (List.mem_of_mem_take (List.mem_of_mem_drop hx))
        intro e
        rw [e] at this
        simp at this
        omega
      have hek : (e[k]'hke).toNat = d := hd.symm
      have HS1 : Hid (∀ (i : Nat) (hi : i < (S l).size), ((S l)[i]'hi).toNat < 128) := fun i hi => by
        have hi' : i < l.length := by rw [S_size] at hi; exact hi
        rw [S_get l i hi]
        exact HA.out _ (List.getElem_mem hi')
      have HE : Hid (e = Utf8.encode (r : Int)) := he
      have hk3 : k ≤ 3 := by omega
      have hcv : ∀ W, (convert 21 9 (.int .i32 (r : Int))).run Tryz.prog W = .ok (.string e) W := fun W => by rw [he]; exact run_convert_int_string W 21 9 .i32 (r : Int) (by kernel_rfl) Tryz.underlying9
      obtain ⟨m, hm⟩ : ∃ m, m = k + 1 := ⟨_, rfl⟩
      rw [← hm] at hsm
      have hw2 : IntKind.i64.wrap ((m : Int) - 1) = (k : Int) := by rw [IntKind.wrap_i64]; omega
      have hkm : (k : Int) < (m : Int) := by omega
      clear hm he hf1 hf2 hf3 hd h h2 HVv
      go_enter Tryz.func61, Tryz.ntmps61
      go_wp2_with (first | (go_at_call 73; refine (HV.out _).mono ?_; rintro e wE ⟨rfl, hwE⟩; have hwE' := hwE.symm; subst hwE'; clear hwE))
      go_step3
      go_wp2_with fail
      go_loopw [9, 10] (fun x y wr => x = .int .i64 (k : Int) ∧ y = .int .i64 0 ∧ wr = w) (fun _ _ _ => 0)
      case atStart => exact ⟨rfl, rfl, rfl⟩
      case round =>
        obtain ⟨rfl, rfl, hwe⟩ := hrel
        subst hwe
        by_cases hlt : k < n
        · have hkS : k < (S l).size := by rw [HSz.out]; exact hlt
          obtain ⟨c, hc⟩ : ∃ c, c = ((S l)[k]'hkS).toNat := ⟨_, rfl⟩
          have hc128 : c < 128 := by rw [hc]; exact HS1.out k hkS
          have hck : ((S l)[k]'hkS).toNat = c := hc.symm
          have hne : ((c : Int) != (d : Int)) = true := by simp; omega
          have hkI : (k : Int) < (n : Int) := by omega
          have hw3 : IntKind.i64.wrap ((k : Int) + 1) = (k : Int) + 1 := by rw [IntKind.wrap_i64]; omega
          have hkn : (k : Int) + 1 ≤ (n : Int) := by omega
          have hk0 : (0 : Int) ≤ (k : Int) + 1 := by omega
          have hkt : ((k : Int) + 1).toNat = k + 1 := by omega
          clear hc
          go_wp2_with fail
          go_step3
          go_wp2_with fail
          go_quiet (fail)
          have HG7 : Hid (Grew wr (wr.drewN nq)) := HG.out.drewN _
          generalize wr.drewN nq = W7 at *
          go_wp2_with fail
          go_quiet ((go_at_call 72; exact Calls.quiet_of_same (HIx.out _ _)))
          go_wp2_with fail
          simp (config := { zetaDelta := true }) only [Exit.noGoto_ret, Exit.inBlock, Exit.then]
          go_ret
          exact ⟨rfl, HG7.out.drewN _⟩
        · have hkI : ¬ (k : Int) < (n : Int) := by omega
          go_wp2_with fail
          go_ret
          exact ⟨rfl, HG.out⟩
end Go.Proofs.YtlabofafmcbfmaaGreatDoor
