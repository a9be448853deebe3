import Derived.Test.YtkjmeknaedapjaaDoorK31
import Derived.Test.YtkjmeknaedapjaaDoorK13
/-
  THE WALKS OF THE DOCUMENT'S target, spelt.
-/
namespace Go.Proofs.YtkjmeknaedapjaaDoor
open Go.RowKit Go.Sort Go.Shelf

theorem lndB_stop {L : List K} {k a : Nat} (hk : k < L.length) (h : jumpB (cd L k).1 = true) (ha : (cd L k).2 = (a : Int)) : lndB L a = true := by
  unfold lndB
  rw [List.any_eq_true]
  exact ⟨cd L k, kd_mem hk, by simp [h, ha]⟩
theorem lndB_take {L : List K} {k a : Nat} (hk : k < L.length) : lndB (L.take (k + 1)) a = (lndB (L.take k) a || (jumpB (cd L k).1 && decide ((cd L k).2 = (a : Int)))) := by
  unfold lndB
  rw [show L.take (k + 1) = L.take k ++ [cd L k] from take_kd L k hk, List.any_append]; simp
set_option maxRecDepth 100000 in
set_option maxHeartbeats 1000000 in
theorem target_any (w : World) (p : Nums) (ao : Option Addr) (n cap : Nat) (L : List K) (i : Nat) (h : KeysAt w ao L) (hn : n = L.length) (hm : n ≤ 256) :
    Calls Tryd.prog 75 #[pv p ao n cap, .int .i64 (i : Int)] w fun e w' => e = .returned (.bool (lndB L i)) ∧ Grew w w' := by
  have H : Hid (KeysAt w ao L) := h
  have HN : Hid (n = L.length) := hn
  clear h hn
  obtain ⟨y1, y2, y3, y4⟩ := p
  have HG1 : Hid (Grew w (w.alloc (.cells #[.int .i64 y1, .int .i64 y2, .int .i64 y3, .int .i64 y4, .slice ao n cap] 41))) := (Grew.refl w).alloc _
  have HP1 : Hid (PBox (w.alloc (.cells #[.int .i64 y1, .int .i64 y2, .int .i64 y3, .int .i64 y4, .slice ao n cap] 41)) w.heap.size ⟨y1, y2, y3, y4⟩ ao n cap) := PBox.new w ⟨y1, y2, y3, y4⟩ ao n cap
  go_enter Tryd.func75, Tryd.ntmps75
  go_wp2_with fail
  generalize w.alloc (.cells #[.int .i64 y1, .int .i64 y2, .int .i64 y3, .int .i64 y4, .slice ao n cap] 41) = w1 at *
  go_loopw [5] (fun x wr => ∃ k : Nat, k ≤ n ∧ x = .int .i64 (k : Int) ∧ Hid (lndB (L.take k) i = false) ∧ Hid (Grew w wr) ∧ Hid (PBox wr w.heap.size ⟨y1, y2, y3, y4⟩ ao n cap)) (fun x _ => n - (intOf x).toNat)
  case atStart => exact ⟨0, Nat.zero_le _, rfl, rfl, HG1, HP1⟩
  case round =>
    clear HG1 HP1
    obtain ⟨k, hk, rfl, HF, HG, HP⟩ := hrel
    have x4 := HP.out.cells.2.2.2.2
    by_cases hlt : k < n
    · have hlt' : k < L.length := by have := HN.out; omega
      obtain ⟨b, off, rfl, c1, c2⟩ := (H.out.grew HG.out).get k hlt'
      have HS : Hid (jumpB (cd L k).1 = true → (cd L k).2 = (i : Int) → lndB L i = true) := fun h1 h2 => lndB_stop hlt' h1 h2
      have HT : Hid (lndB (L.take (k + 1)) i = (lndB (L.take k) i || (jumpB (cd L k).1 && decide ((cd L k).2 = (i : Int))))) := lndB_take hlt'
      generalize cd L k = kk at *
      obtain ⟨op, A⟩ := kk
      simp only at c1 c2
      have HG2 : Hid (Grew w (wr.alloc (.cells #[.int .i64 op, .int .i64 A] 87))) := HG.out.alloc _
      have HP2 : Hid (PBox (wr.alloc (.cells #[.int .i64 op, .int .i64 A] 87)) w.heap.size ⟨y1, y2, y3, y4⟩ (some ⟨b, off, none⟩) n cap) := HP.out.kept ((Below.refl _ _).alloc (Nat.le_refl _) _)
      by_cases hj : op = 30 ∨ op = 31
      · have HJ : Hid (jumpB op = true) := by rcases hj with rfl | rfl <;> rfl
        by_cases hA : A = (i : Int)
        · have HV : Hid (lndB L i = true) := HS.out HJ.out hA
          subst hA
          rcases hj with rfl | rfl
          · go_wp2
            go_ret
            exact ⟨by rw [HV.out]; rfl, HG2.out⟩
          · go_wp2
            go_ret
            exact ⟨by rw [HV.out]; rfl, HG2.out⟩
        · have hA' : (A == (i : Int)) = false := by simpa using hA
          have HF2 : Hid (lndB (L.take (k + 1)) i = false) := by rw [HT.out, HF.out]; show (false || (jumpB op && decide (A = (i : Int)))) = false; simp [hA]
          clear hA HS HT
          rcases hj with rfl | rfl
          · go_wp2
            go_roundw
            case rel => exact ⟨k + 1, by omega, by go_num, HF2, HG2, HP2⟩
            case measure => simp [intOf]; omega
          · go_wp2
            go_roundw
            case rel => exact ⟨k + 1, by omega, by go_num, HF2, HG2, HP2⟩
            case measure => simp [intOf]; omega
      · have h1 : (op == 30) = false := by simp; omega
        have h2 : (op == 31) = false := by simp; omega
        have HF2 : Hid (lndB (L.take (k + 1)) i = false) := by
          rw [HT.out, HF.out]; show (false || (jumpB op && decide (A = (i : Int)))) = false
          have : jumpB op = false := by simp [jumpB]; omega
          simp [this]
        clear hj HS HT
        go_wp2
        go_roundw
        case rel => exact ⟨k + 1, by omega, by go_num, HF2, HG2, HP2⟩
        case measure => simp [intOf]; omega
    · obtain rfl : k = n := by omega
      have HV : Hid (lndB L i = false) := by have := HF.out; rw [HN.out, List.take_length] at this; exact this
      go_wp2
      go_ret
      exact ⟨by rw [HV.out]; rfl, HG.out⟩
/-- an instruction's line -/
def speltL (k : K) : List UInt8 := [32, 32] ++ instrL k ++ [10]
theorem jump_wants {op : Int} (h : jumpB op = true) : wantsB op = true := by
  simp only [jumpB, Bool.or_eq_true, decide_eq_true_eq] at h
  rcases h with rfl | rfl <;> rfl
set_option maxRecDepth 100000 in
set_option maxHeartbeats 1000000 in
theorem spelt_any (w : World) (op A : Int) (hk : In64 A) :
    Calls Tryd.prog 76 #[.agg #[.int .i64 op, .int .i64 A]] w fun e w' => e = .returned (.string (S (speltL (op, A)))) ∧ Below w.heap.size w w' := by
  have HB1 : Hid (Below w.heap.size w (w.alloc (.cells #[.int .i64 op, .int .i64 A] 87))) := (Below.refl _ _).alloc (Nat.le_refl _) _
  have HX1 : Hid (KBx (w.alloc (.cells #[.int .i64 op, .int .i64 A] 87)) w.heap.size op A) := heap_alloc_new _ _ rfl
  have hsl := sp_len op
  have hdl := dg_len hk
  obtain ⟨u1, hu1⟩ : ∃ u1, u1 = [32, 32] ++ sp op := ⟨_, rfl⟩
  obtain ⟨u2, hu2⟩ : ∃ u2, u2 = u1 ++ [10] := ⟨_, rfl⟩
  obtain ⟨u3, hu3⟩ : ∃ u3, u3 = u1 ++ [32] := ⟨_, rfl⟩
  obtain ⟨v1, hv1⟩ : ∃ v1, v1 = [76] ++ dg A := ⟨_, rfl⟩
  obtain ⟨u4, hu4⟩ : ∃ u4, u4 = u3 ++ dg A := ⟨_, rfl⟩
  obtain ⟨u5, hu5⟩ : ∃ u5, u5 = u4 ++ [10] := ⟨_, rfl⟩
  obtain ⟨u6, hu6⟩ : ∃ u6, u6 = u3 ++ v1 := ⟨_, rfl⟩
  obtain ⟨u7, hu7⟩ : ∃ u7, u7 = u6 ++ [10] := ⟨_, rfl⟩
  have l1 : u1.length ≤ 10 := by rw [hu1]; simp; omega
  have l3 : u3.length ≤ 11 := by rw [hu3]; simp; omega
  have l4 : u4.length ≤ 31 := by rw [hu4]; simp; omega
  have lv : v1.length ≤ 21 := by rw [hv1]; simp; omega
  have l6 : u6.length ≤ 32 := by rw [hu6]; simp; omega
  have s1 : ¬ ((ByteArray.mk #[32, 32]).size + (S (sp op)).size > 9223372036854775807) := S_fit [32, 32] (sp op) (by simp; omega)
  have e1 : ByteArray.mk #[32, 32] ++ S (sp op) = S u1 := by rw [hu1]; exact S_app [32, 32] _
  have s2 : ¬ ((S u1).size + (ByteArray.mk #[10]).size > 9223372036854775807) := S_fit u1 [10] (by simp; omega)
  have e2 : S u1 ++ ByteArray.mk #[10] = S u2 := by rw [hu2]; exact S_app u1 [10]
  have s3 : ¬ ((S u1).size + (ByteArray.mk #[32]).size > 9223372036854775807) := S_fit u1 [32] (by simp; omega)
  have e3 : S u1 ++ ByteArray.mk #[32] = S u3 := by rw [hu3]; exact S_app u1 [32]
  have sv : ¬ ((ByteArray.mk #[76]).size + (S (dg A)).size > 9223372036854775807) := S_fit [76] (dg A) (by simp; omega)
  have ev : ByteArray.mk #[76] ++ S (dg A) = S v1 := by rw [hv1]; exact S_app [76] _
  have s4 : ¬ ((S u3).size + (S (dg A)).size > 9223372036854775807) := S_fit u3 (dg A) (by omega)
  have e4 : S u3 ++ S (dg A) = S u4 := by rw [hu4]; exact S_app u3 _
  have s5 : ¬ ((S u4).size + (ByteArray.mk #[10]).size > 9223372036854775807) := S_fit u4 [10] (by simp; omega)
  have e5 : S u4 ++ ByteArray.mk #[10] = S u5 := by rw [hu5]; exact S_app u4 [10]
  have s6 : ¬ ((S u3).size + (S v1).size > 9223372036854775807) := S_fit u3 v1 (by omega)
  have e6 : S u3 ++ S v1 = S u6 := by rw [hu6]; exact S_app u3 v1
  have s7 : ¬ ((S u6).size + (ByteArray.mk #[10]).size > 9223372036854775807) := S_fit u6 [10] (by simp; omega)
  have e7 : S u6 ++ ByteArray.mk #[10] = S u7 := by rw [hu7]; exact S_app u6 [10]
  have HA : Hid (wantsB op = false → speltL (op, A) = u2) := fun h => by
    have hj : jumpB op = false := by
      cases hj : jumpB op with
      | false => rfl
      | true => rw [jump_wants hj] at h; cases h
    unfold speltL instrL; rw [if_neg (by simp [hj]), if_neg (by simp [h]), hu2, hu1]
  have HBb : Hid (wantsB op = true → jumpB op = false → speltL (op, A) = u5) := fun h hj => by
    unfold speltL instrL; rw [if_neg (by simp [hj]), if_pos h, hu5, hu4, hu3, hu1]; simp
  have HC : Hid (jumpB op = true → speltL (op, A) = u7) := fun hj => by
    unfold speltL instrL; rw [if_pos hj, hu7, hu6, hu3, hu1, hv1]; simp [labelL]
  clear hu1 hu2 hu3 hv1 hu4 hu5 hu6 hu7 l1 l3 l4 lv l6 hsl hdl
  go_enter Tryd.func76, Tryd.ntmps76
  obtain ⟨q0, q1⟩ := HX1.out.cells
  go_wp2_with fail
  generalize w.alloc (.cells #[.int .i64 op, .int .i64 A] 87) = w1 at *
  refine (refSpell_any w1 op).mono ?_
  rintro e w2 ⟨rfl, hb2⟩
  rw [spell_S]
  have HB2 : Hid (Below w.heap.size w w2) := HB1.out.trans (hb2.mono HB1.out.size)
  have HX2 : Hid (KBx w2 w.heap.size op A) := (hb2.block _ HX1.out.lt).trans HX1.out
  clear hb2 HX1 HB1 q0 q1
  obtain ⟨q0, q1⟩ := HX2.out.cells
  go_wp2_with fail
  refine (refWants_any w2 op).mono ?_
  rintro e w3 ⟨rfl, hb3⟩
  have HB3 : Hid (Below w.heap.size w w3) := HB2.out.trans (hb3.mono HB2.out.size)
  have HX3 : Hid (KBx w3 w.heap.size op A) := (hb3.block _ HX2.out.lt).trans HX2.out
  clear hb3 HX2 HB2 q0 q1
  obtain ⟨q0, q1⟩ := HX3.out.cells
  cases hw : wantsB op with
  | false =>
    have HE := HA.out hw
    have HE' : Hid (speltL (op, A) = u2) := HE
    clear HE
    go_wp2
    go_ret
    exact ⟨by rw [HE'.out]; rfl, HB3.out⟩
  | true =>
    go_wp2_with fail
    refine (refDigits_any w3 A hk.1 hk.2).mono ?_
    rintro e w4 ⟨rfl, hg4⟩
    rw [show (⟨(Lib.itoa A).toArray⟩ : ByteArray) = S (dg A) from rfl]
    have HB4 : Hid (Below w.heap.size w w4) := HB3.out.trans (hg4.below.mono HB3.out.size)
    have HX4 : Hid (KBx w4 w.heap.size op A) := (hg4.below.block _ HX3.out.lt).trans HX3.out
    clear hg4 HX3 HB3 q0 q1
    obtain ⟨q0, q1⟩ := HX4.out.cells
    by_cases hj : op = 30 ∨ op = 31
    · have HE : Hid (speltL (op, A) = u7) := HC.out (by rcases hj with rfl | rfl <;> rfl)
      clear HA HBb HC hw
      rcases hj with rfl | rfl
      · go_wp2
        go_ret
        exact ⟨by rw [HE.out]; rfl, HB4.out⟩
      · go_wp2
        go_ret
        exact ⟨by rw [HE.out]; rfl, HB4.out⟩
    · have h1 : (op == 30) = false := by simp; omega
      have h2 : (op == 31) = false := by simp; omega
      have HE : Hid (speltL (op, A) = u5) := HBb.out hw (by simp [jumpB]; omega)
      clear HA HBb HC hw hj
      go_wp2
      go_ret
      exact ⟨by rw [HE.out]; rfl, HB4.out⟩
end Go.Proofs.YtkjmeknaedapjaaDoor
/-
  THE WALK OF THE DOCUMENT'S one.
-/
namespace Go.Proofs.YtkjmeknaedapjaaDoor
open Go.RowKit Go.Sort Go.Shelf

def labL (L : List K) (k : Nat) : List (List UInt8) := if lndB L k = true then [labelL (k : Int) ++ [58]] else []
/-- the text ahead of the i-th place -/
def oneT (F : List UInt8) (L : List K) (n k : Nat) : List UInt8 := if k ≤ n then F ++ joinL (bodyL L k) else F ++ joinL (bodyL L n) ++ joinL (labL L n)
theorem oneT_le {F : List UInt8} {L : List K} {n k : Nat} (h : k ≤ n) : oneT F L n k = F ++ joinL (bodyL L k) := if_pos h
theorem oneT_end (F : List UInt8) (L : List K) (n : Nat) : oneT F L n (n + 1) = F ++ joinL (bodyL L n) ++ joinL (labL L n) := if_neg (by omega)
theorem bodyL_succ (L : List K) (k : Nat) : joinL (bodyL L (k + 1)) = joinL (bodyL L k) ++ joinL (labL L k) ++ speltL (cd L k) := by
  simp only [bodyL]
  rw [joinL_append, joinL_append]
  unfold labL speltL
  simp [joinL]
theorem labL_yes {L : List K} {k : Nat} (h : lndB L k = true) : joinL (labL L k) = labelL (k : Int) ++ [58, 10] := by unfold labL; rw [if_pos h]; simp [joinL]
theorem labL_no {L : List K} {k : Nat} (h : lndB L k = false) : joinL (labL L k) = [] := by unfold labL; rw [if_neg (by simp [h])]; rfl
def oneF (nm : List UInt8) (p : Nums) : List UInt8 := flL nm p 4 ++ [10]
theorem oneX (nm : List UInt8) (p : Nums) (L : List K) : oneT (oneF nm p) L L.length (L.length + 1) ++ [101, 110, 100, 10] = joinL (linesP nm p L) := by
  rw [oneT_end]
  unfold linesP oneF
  rw [joinL_append, joinL_append, joinL_append]
  show _ = joinL [flL nm p 4] ++ joinL (bodyL L L.length) ++ joinL (labL L L.length) ++ joinL [endL]
  simp [joinL, endL]
theorem bodyL_bytes {L : List K} (hk : ∀ k ∈ L, KIn k) (hb : L.length ≤ 256) (k : Nat) (h : k ≤ L.length) : (joinL (bodyL L k)).length ≤ 78000 := by
  have h1 := joinL_len _ (bodyL_len hk hb k h)
  have h2 := bodyL_length L k
  omega

set_option maxRecDepth 100000 in
set_option maxHeartbeats 4000000 in
theorem one_any (w : World) (nm : List UInt8) (p : Nums) (ao : Option Addr) (n cap : Nat) (L : List K) (hp : NIn p) (hl : nm.length ≤ 31) (hq : PQ w ao L) (hn : n = L.length) :
    Calls Tryd.prog 49 #[.agg #[.string (S nm), .int .i64 p.args, .int .i64 p.reads, .int .i64 p.writes, .int .i64 p.locals, .slice ao n cap]] w fun e w' => e = .returned (.string (S (joinL (linesP nm p L)))) ∧ Below w.heap.size w w' := by
  have HP : Hid (NIn p) := hp
  have HQ : Hid (PQ w ao L) := hq
  have HN : Hid (n = L.length) := hn
  have hn256 : n ≤ 256 := by rw [hn]; exact hq.big
  clear hq hn
  obtain ⟨y1, y2, y3, y4⟩ := p
  have mx := mixed
  have hd1 := dg_len hp.1
  have hd2 := dg_len hp.2.1
  have hd3 := dg_len hp.2.2.1
  have hd4 := dg_len hp.2.2.2
  simp only at hd1 hd2 hd3 hd4
  have HF : Hid (oneF nm ⟨y1, y2, y3, y4⟩ = [112, 114, 111, 99, 32] ++ nm ++ [32, 97, 114, 103, 115, 32] ++ dg y1 ++ [32, 114, 101, 97, 100, 115, 32] ++ dg y2 ++ [32, 119, 114, 105, 116, 101, 115, 32] ++ dg y3 ++ [32, 108, 111, 99, 97, 108, 115, 32] ++ dg y4 ++ [10]) := by
    show _ = _
    simp [oneF, flL, nwL, numP]
  obtain ⟨r1, h1⟩ : ∃ r1, r1 = [112, 114, 111, 99, 32] ++ nm := ⟨_, rfl⟩
  obtain ⟨r2, h2⟩ : ∃ r2, r2 = r1 ++ [32, 97, 114, 103, 115, 32] := ⟨_, rfl⟩
  obtain ⟨r3, h3⟩ : ∃ r3, r3 = r2 ++ dg y1 := ⟨_, rfl⟩
  obtain ⟨r4, h4⟩ : ∃ r4, r4 = r3 ++ [32, 114, 101, 97, 100, 115, 32] := ⟨_, rfl⟩
  obtain ⟨r5, h5⟩ : ∃ r5, r5 = r4 ++ dg y2 := ⟨_, rfl⟩
  obtain ⟨r6, h6⟩ : ∃ r6, r6 = r5 ++ [32, 119, 114, 105, 116, 101, 115, 32] := ⟨_, rfl⟩
  obtain ⟨r7, h7⟩ : ∃ r7, r7 = r6 ++ dg y3 := ⟨_, rfl⟩
  obtain ⟨r8, h8⟩ : ∃ r8, r8 = r7 ++ [32, 108, 111, 99, 97, 108, 115, 32] := ⟨_, rfl⟩
  obtain ⟨r9, h9⟩ : ∃ r9, r9 = r8 ++ dg y4 := ⟨_, rfl⟩
  obtain ⟨F, hF⟩ : ∃ F, F = r9 ++ [10] := ⟨_, rfl⟩
  have HFe : Hid (oneF nm ⟨y1, y2, y3, y4⟩ = F) := by rw [HF.out, hF, h9, h8, h7, h6, h5, h4, h3, h2, h1]; rfl
  have l1 : r1.length ≤ 36 := by rw [h1]; simp; omega
  have l2 : r2.length ≤ 42 := by rw [h2]; simp; omega
  have l3 : r3.length ≤ 62 := by rw [h3]; simp; omega
  have l4 : r4.length ≤ 69 := by rw [h4]; simp; omega
  have l5 : r5.length ≤ 89 := by rw [h5]; simp; omega
  have l6 : r6.length ≤ 97 := by rw [h6]; simp; omega
  have l7 : r7.length ≤ 117 := by rw [h7]; simp; omega
  have l8 : r8.length ≤ 125 := by rw [h8]; simp; omega
  have l9 : r9.length ≤ 145 := by rw [h9]; simp; omega
  have lF : F.length ≤ 146 := by rw [hF]; simp; omega
  have s1 : ¬ ((ByteArray.mk #[112, 114, 111, 99, 32]).size + (S nm).size > 9223372036854775807) := S_fit [112, 114, 111, 99, 32] nm (by simp; omega)
  have e1 : ByteArray.mk #[112, 114, 111, 99, 32] ++ S nm = S r1 := by rw [h1]; exact S_app _ nm
  have s2 : ¬ ((S r1).size + (ByteArray.mk #[32, 97, 114, 103, 115, 32]).size > 9223372036854775807) := S_fit r1 [32, 97, 114, 103, 115, 32] (by simp; omega)
  have e2 : S r1 ++ ByteArray.mk #[32, 97, 114, 103, 115, 32] = S r2 := by rw [h2]; exact S_app r1 _
  have s3 : ¬ ((S r2).size + (S (dg y1)).size > 9223372036854775807) := S_fit r2 _ (by omega)
  have e3 : S r2 ++ S (dg y1) = S r3 := by rw [h3]; exact S_app r2 _
  have s4 : ¬ ((S r3).size + (ByteArray.mk #[32, 114, 101, 97, 100, 115, 32]).size > 9223372036854775807) := S_fit r3 [32, 114, 101, 97, 100, 115, 32] (by simp; omega)
  have e4 : S r3 ++ ByteArray.mk #[32, 114, 101, 97, 100, 115, 32] = S r4 := by rw [h4]; exact S_app r3 _
  have s5 : ¬ ((S r4).size + (S (dg y2)).size > 9223372036854775807) := S_fit r4 _ (by omega)
  have e5 : S r4 ++ S (dg y2) = S r5 := by rw [h5]; exact S_app r4 _
  have s6 : ¬ ((S r5).size + (ByteArray.mk #[32, 119, 114, 105, 116, 101, 115, 32]).size > 9223372036854775807) := S_fit r5 [32, 119, 114, 105, 116, 101, 115, 32] (by simp; omega)
  have e6 : S r5 ++ ByteArray.mk #[32, 119, 114, 105, 116, 101, 115, 32] = S r6 := by rw [h6]; exact S_app r5 _
  have s7 : ¬ ((S r6).size + (S (dg y3)).size > 9223372036854775807) := S_fit r6 _ (by omega)
  have e7 : S r6 ++ S (dg y3) = S r7 := by rw [h7]; exact S_app r6 _
  have s8 : ¬ ((S r7).size + (ByteArray.mk #[32, 108, 111, 99, 97, 108, 115, 32]).size > 9223372036854775807) := S_fit r7 [32, 108, 111, 99, 97, 108, 115, 32] (by simp; omega)
  have e8 : S r7 ++ ByteArray.mk #[32, 108, 111, 99, 97, 108, 115, 32] = S r8 := by rw [h8]; exact S_app r7 _
  have s9 : ¬ ((S r8).size + (S (dg y4)).size > 9223372036854775807) := S_fit r8 _ (by omega)
  have e9 : S r8 ++ S (dg y4) = S r9 := by rw [h9]; exact S_app r8 _
  have s10 : ¬ ((S r9).size + (ByteArray.mk #[10]).size > 9223372036854775807) := S_fit r9 [10] (by simp; omega)
  have e10 : S r9 ++ ByteArray.mk #[10] = S F := by rw [hF]; exact S_app r9 [10]
  have HC0 : Hid (∀ (W : World) m os z, In64 z → Calls Tryd.prog 74 #[.int .i64 z] (grow (W.drewN m) os) fun e w' => e = .returned (.string (S (dg z))) ∧ ∃ q os', w' = grow ((grow (W.drewN m) os).drewN q) os') := fun W m os z hz => refDigits_any _ z hz.1 hz.2
  clear h1 h2 h3 h4 h5 h6 h7 h8 h9 hF l1 l2 l3 l4 l5 l6 l7 l8 l9 hd1 hd2 hd3 hd4 HF hp
  have HG1 : Hid (Grew w ((w.alloc (.cells #[.string (S nm), .int .i64 y1, .int .i64 y2, .int .i64 y3, .int .i64 y4, .slice ao n cap] 43)).alloc (.cells #[.int .i64 y1, .int .i64 y2, .int .i64 y3, .int .i64 y4, .slice ao n cap] 41))) := ((Grew.refl w).alloc _).alloc _
  have HR1 : Hid (RBox ((w.alloc (.cells #[.string (S nm), .int .i64 y1, .int .i64 y2, .int .i64 y3, .int .i64 y4, .slice ao n cap] 43)).alloc (.cells #[.int .i64 y1, .int .i64 y2, .int .i64 y3, .int .i64 y4, .slice ao n cap] 41)) w.heap.size ⟨S nm, ⟨y1, y2, y3, y4⟩, ao, n, cap, L⟩) := (RBox.new w ⟨S nm, ⟨y1, y2, y3, y4⟩, ao, n, cap, L⟩).kept ((Below.refl _ _).alloc (Nat.le_refl _) _)
  have HP1 : Hid (PBox ((w.alloc (.cells #[.string (S nm), .int .i64 y1, .int .i64 y2, .int .i64 y3, .int .i64 y4, .slice ao n cap] 43)).alloc (.cells #[.int .i64 y1, .int .i64 y2, .int .i64 y3, .int .i64 y4, .slice ao n cap] 41)) (w.heap.size + 1) ⟨y1, y2, y3, y4⟩ ao n cap) := by
    have := PBox.new (w.alloc (.cells #[.string (S nm), .int .i64 y1, .int .i64 y2, .int .i64 y3, .int .i64 y4, .slice ao n cap] 43)) ⟨y1, y2, y3, y4⟩ ao n cap
    rw [World.size_alloc] at this
    exact this
  go_enter Tryd.func49, Tryd.ntmps49
  go_upto_region 2 with fail
  generalize (w.alloc (.cells #[.string (S nm), .int .i64 y1, .int .i64 y2, .int .i64 y3, .int .i64 y4, .slice ao n cap] 43)).alloc (.cells #[.int .i64 y1, .int .i64 y2, .int .i64 y3, .int .i64 y4, .slice ao n cap] 41) = w1 at *
  have gn : ∀ m os, (grow (w1.drewN m) os).cell? ⟨w.heap.size, 0, none⟩ = some (.string (S nm)) := fun m os => Grew.cell ⟨m, os, rfl⟩ HR1.out.cells.1
  have g0 : ∀ m os, (grow (w1.drewN m) os).cell? ⟨w.heap.size + 1, 0, none⟩ = some (.int .i64 y1) := fun m os => Grew.cell ⟨m, os, rfl⟩ HP1.out.cells.1
  have g1 : ∀ m os, (grow (w1.drewN m) os).cell? ⟨w.heap.size + 1, 1, none⟩ = some (.int .i64 y2) := fun m os => Grew.cell ⟨m, os, rfl⟩ HP1.out.cells.2.1
  have HC : Hid (∀ m os z, In64 z → Calls Tryd.prog 74 #[.int .i64 z] (grow (w1.drewN m) os) fun e w' => e = .returned (.string (S (dg z))) ∧ ∃ q os', w' = grow ((grow (w1.drewN m) os).drewN q) os') := HC0.out w1
  refine wp_region_quiet_grown mx (by kernel_rfl) ?_
  repeat (go_big_quiet_step ((go_at_call 74; exact Calls.grown_of (HC.out _ _ _ (by first | exact HP.out.1 | exact HP.out.2.1 | exact HP.out.2.2.1 | exact HP.out.2.2.2)))))
  refine wpQuiet_nil ?_
  intro _ hw'
  obtain ⟨⟨nq, osq⟩, hw''⟩ := hw'
  subst hw''
  have HG2 : Hid (Grew w (grow (w1.drewN nq) osq)) := HG1.out.trans ⟨nq, osq, rfl⟩
  have HP2 : Hid (PBox (grow (w1.drewN nq) osq) (w.heap.size + 1) ⟨y1, y2, y3, y4⟩ ao n cap) := HP1.out.kept (Grew.below ⟨nq, osq, rfl⟩)
  clear gn g0 g1 HP1 HG1 HR1
  generalize grow (w1.drewN nq) osq = w2 at *
  clear HC
  go_upto_region 3 with fail
  have g2 : ∀ m os, (grow (w2.drewN m) os).cell? ⟨w.heap.size + 1, 2, none⟩ = some (.int .i64 y3) := fun m os => Grew.cell ⟨m, os, rfl⟩ HP2.out.cells.2.2.1
  have g3 : ∀ m os, (grow (w2.drewN m) os).cell? ⟨w.heap.size + 1, 3, none⟩ = some (.int .i64 y4) := fun m os => Grew.cell ⟨m, os, rfl⟩ HP2.out.cells.2.2.2.1
  have HC : Hid (∀ m os z, In64 z → Calls Tryd.prog 74 #[.int .i64 z] (grow (w2.drewN m) os) fun e w' => e = .returned (.string (S (dg z))) ∧ ∃ q os', w' = grow ((grow (w2.drewN m) os).drewN q) os') := HC0.out w2
  refine wp_region_quiet_grown mx (by kernel_rfl) ?_
  repeat (go_big_quiet_step ((go_at_call 74; exact Calls.grown_of (HC.out _ _ _ (by first | exact HP.out.1 | exact HP.out.2.1 | exact HP.out.2.2.1 | exact HP.out.2.2.2)))))
  refine wpQuiet_nil ?_
  intro _ hw'
  obtain ⟨⟨nq, osq⟩, hw''⟩ := hw'
  subst hw''
  have HB3 : Hid (Below w.heap.size w (grow (w2.drewN nq) osq)) := (HG2.out.trans ⟨nq, osq, rfl⟩).below
  have HP3 : Hid (PBox (grow (w2.drewN nq) osq) (w.heap.size + 1) ⟨y1, y2, y3, y4⟩ ao n cap) := HP2.out.kept (Grew.below ⟨nq, osq, rfl⟩)
  clear g2 g3 HP2 HG2 HC HC0
  generalize grow (w2.drewN nq) osq = w3 at *
  clear s1 e1 s2 e2 s3 e3 s4 e4 s5 e5 s6 e6 s7 e7 s8 e8 s9 e9 s10 e10
  have HT0 : Hid (F = oneT F L n 0) := by show F = _; rw [oneT_le (Nat.zero_le _)]; simp [bodyL, joinL]
  go_wp2_with fail
  go_loopw [4, 5] (fun x y wr => ∃ k : Nat, k ≤ n + 1 ∧ x = .string (S (oneT F L n k)) ∧ y = .int .i64 (k : Int) ∧ Hid (Below w.heap.size w wr) ∧ Hid (PBox wr (w.heap.size + 1) ⟨y1, y2, y3, y4⟩ ao n cap)) (fun _ y _ => n + 1 - (intOf y).toNat)
  case atStart => exact ⟨0, Nat.zero_le _, by rw [← HT0.out], rfl, HB3, HP3⟩
  case round =>
    clear HB3 HP3 HT0
    obtain ⟨k, hk, rfl, rfl, HB, HPb⟩ := hrel
    obtain ⟨x0, x1, x2, x3, x4⟩ := HPb.out.cells
    simp only at x0 x1 x2 x3 x4
    by_cases hle : k ≤ n
    · have hkb := bodyL_bytes HQ.out.kin HQ.out.big k (by rw [← HN.out]; exact hle)
      have hTl : (oneT F L n k).length ≤ 79000 := by rw [oneT_le hle, List.length_append]; omega
      have HTe : Hid (oneT F L n k = F ++ joinL (bodyL L k)) := oneT_le hle
      have hlab : (labelL (k : Int)).length ≤ 21 := labelL_len (by unfold In64; omega)
      have HLab : Hid (labelL (k : Int) = 76 :: dg (k : Int)) := rfl
      have hdk : (dg (k : Int)).length ≤ 20 := dg_len (by unfold In64; omega)
      generalize oneT F L n k = T at *
      obtain ⟨t1, h1⟩ : ∃ t1, t1 = T ++ [76] := ⟨_, rfl⟩
      obtain ⟨t2, h2⟩ : ∃ t2, t2 = t1 ++ dg (k : Int) := ⟨_, rfl⟩
      obtain ⟨t3, h3⟩ : ∃ t3, t3 = t2 ++ [58, 10] := ⟨_, rfl⟩
      have l1 : t1.length ≤ 79001 := by rw [h1]; simp; omega
      have l2 : t2.length ≤ 79021 := by rw [h2]; simp; omega
      have l3 : t3.length ≤ 79023 := by rw [h3]; simp; omega
      have s1 : ¬ ((S T).size + (ByteArray.mk #[76]).size > 9223372036854775807) := S_fit T [76] (by simp; omega)
      have e1 : S T ++ ByteArray.mk #[76] = S t1 := by rw [h1]; exact S_app T [76]
      have s2 : ¬ ((S t1).size + (S (dg (k : Int))).size > 9223372036854775807) := S_fit t1 _ (by omega)
      have e2 : S t1 ++ S (dg (k : Int)) = S t2 := by rw [h2]; exact S_app t1 _
      have s3 : ¬ ((S t2).size + (ByteArray.mk #[58, 10]).size > 9223372036854775807) := S_fit t2 [58, 10] (by simp; omega)
      have e3 : S t2 ++ ByteArray.mk #[58, 10] = S t3 := by rw [h3]; exact S_app t2 [58, 10]
      have HT3 : Hid (lndB L k = true → t3 = T ++ joinL (labL L k)) := fun h => by rw [labL_yes h, HLab.out, h3, h2, h1]; simp
      have HT4 : Hid (lndB L k = false → T = T ++ joinL (labL L k)) := fun h => by rw [labL_no h, List.append_nil]
      clear h1 h2 h3
      go_wp2_with fail
      refine (target_any wr ⟨y1, y2, y3, y4⟩ ao n cap L k (HQ.out.ks.kept HB.out) HN.out hn256).mono ?_
      rintro e w4 ⟨rfl, hg4⟩
      have HB4 : Hid (Below w.heap.size w w4) := HB.out.trans (hg4.below.mono HB.out.size)
      have HP4 : Hid (PBox w4 (w.heap.size + 1) ⟨y1, y2, y3, y4⟩ ao n cap) := HPb.out.kept hg4.below
      clear hg4 x0 x1 x2 x3 x4 HB HPb
      go_upto_if 42 with fail
      go_cut [4] from 33 to 61 (fun v wx => ∃ X : List UInt8, v = .string (S X) ∧ Hid (X = T ++ joinL (labL L k)) ∧ X.length ≤ 79023 ∧ Hid (Below w.heap.size w wx) ∧ Hid (PBox wx (w.heap.size + 1) ⟨y1, y2, y3, y4⟩ ao n cap))
      case first =>
        cases hlb : lndB L k with
        | true =>
          have HX := HT3.out hlb
          have HX' : Hid (t3 = T ++ joinL (labL L k)) := HX
          clear HX
          go_wp2_with fail
          refine (refDigits_any w4 (k : Int) (by omega) (by omega)).mono ?_
          rintro e w5 ⟨rfl, hg5⟩
          rw [show (⟨(Lib.itoa (k : Int)).toArray⟩ : ByteArray) = S (dg (k : Int)) from rfl]
          have HB5 : Hid (Below w.heap.size w w5) := HB4.out.trans (hg5.below.mono HB4.out.size)
          have HP5 : Hid (PBox w5 (w.heap.size + 1) ⟨y1, y2, y3, y4⟩ ao n cap) := HP4.out.kept hg5.below
          clear hg5
          go_wp2_with fail
          go_meet
          case rel => exact ⟨t3, rfl, HX', l3, HB5, HP5⟩
        | false =>
          have HX' : Hid (T = T ++ joinL (labL L k)) := HT4.out hlb
          go_wp2_with fail
          go_meet
          case rel => exact ⟨T, rfl, HX', by omega, HB4, HP4⟩
      obtain ⟨X, rfl, HX, hXl, HB5, HP5⟩ := hcut
      clear HB4 HP4 HT3 HT4 s1 e1 s2 e2 s3 e3 l1 l2 l3
      generalize wc = w5 at *
      obtain ⟨x0, x1, x2, x3, x4⟩ := HP5.out.cells
      simp only at x0 x1 x2 x3 x4
      by_cases hlt : k < n
      · have hlt' : k < L.length := by have := HN.out; omega
        obtain ⟨b, off, rfl, c1, c2⟩ := (HQ.out.ks.kept HB5.out).get k hlt'
        have HKi : Hid (KIn (cd L k)) := HQ.out.kin _ (kd_mem hlt')
        have HNx : Hid (oneT F L n (k + 1) = X ++ speltL (cd L k)) := by
          show _ = _
          rw [oneT_le (by omega), bodyL_succ, HX.out, HTe.out]; simp
        have hspl : (speltL (cd L k)).length ≤ 43 := by
          have := instrL_len HKi.out
          unfold speltL; simp; omega
        generalize cd L k = kk at *
        obtain ⟨op, A⟩ := kk
        simp only at c1 c2
        go_wp2_with fail
        refine (spelt_any w5 op A HKi.out.2).mono ?_
        rintro e w6 ⟨rfl, hb6⟩
        have HB6 : Hid (Below w.heap.size w w6) := HB5.out.trans (hb6.mono HB5.out.size)
        have HP6 : Hid (PBox w6 (w.heap.size + 1) ⟨y1, y2, y3, y4⟩ (some ⟨b, off, none⟩) n cap) := HP5.out.kept hb6
        generalize speltL (op, A) = sl at *
        obtain ⟨X2, hX2⟩ : ∃ X2, X2 = X ++ sl := ⟨_, rfl⟩
        have s1 : ¬ ((S X).size + (S sl).size > 9223372036854775807) := S_fit X sl (by omega)
        have e1 : S X ++ S sl = S X2 := by rw [hX2]; exact S_app X sl
        have HNy : Hid (oneT F L n (k + 1) = X2) := by rw [HNx.out, hX2]; rfl
        clear hb6 hX2 HNx x0 x1 x2 x3 x4 HB5 HP5
        go_wp2_with fail
        go_roundw
        case rel => exact ⟨k + 1, by omega, by rw [HNy.out], by go_num, HB6, HP6⟩
        case measure => simp [intOf]; omega
      · obtain rfl : k = n := by omega
        have HNy : Hid (oneT F L k (k + 1) = X) := by rw [oneT_end, HX.out, HTe.out]; rfl
        go_wp2_with fail
        go_roundw
        case rel => exact ⟨k + 1, by omega, by rw [HNy.out], by go_num, HB5, HP5⟩
        case measure => simp [intOf]
    · obtain rfl : k = n + 1 := by omega
      have HEx : Hid (oneT F L n (n + 1) ++ [101, 110, 100, 10] = joinL (linesP nm ⟨y1, y2, y3, y4⟩ L)) := by
        have := oneX nm ⟨y1, y2, y3, y4⟩ L
        rw [HFe.out] at this
        rw [HN.out]; exact this
      have hbl := bodyL_bytes HQ.out.kin HQ.out.big n (by rw [← HN.out]; omega)
      have hTl : (oneT F L n (n + 1)).length ≤ 79100 := by
        rw [oneT_end, List.length_append, List.length_append]
        have : (joinL (labL L n)).length ≤ 23 := by
          cases hlb : lndB L n with
          | true => rw [labL_yes hlb]; have := labelL_len (n := (n : Int)) (by unfold In64; omega); simp; omega
          | false => rw [labL_no hlb]; simp
        omega
      generalize oneT F L n (n + 1) = T at *
      obtain ⟨T2, hT2⟩ : ∃ T2, T2 = T ++ [101, 110, 100, 10] := ⟨_, rfl⟩
      have s1 : ¬ ((S T).size + (ByteArray.mk #[101, 110, 100, 10]).size > 9223372036854775807) := S_fit T [101, 110, 100, 10] (by simp; omega)
      have e1 : S T ++ ByteArray.mk #[101, 110, 100, 10] = S T2 := by rw [hT2]; exact S_app T _
      have HEy : Hid (joinL (linesP nm ⟨y1, y2, y3, y4⟩ L) = T2) := by rw [hT2]; exact HEx.out.symm
      clear hT2 HEx
      go_wp2
      go_ret
      exact ⟨by rw [HEy.out]; rfl, HB.out⟩
end Go.Proofs.YtkjmeknaedapjaaDoor
/-
  THE WALKS OF THE DOCUMENT'S List, Parts.
-/
namespace Go.Proofs.YtkjmeknaedapjaaDoor
open Go.RowKit Go.Sort Go.Shelf

set_option maxRecDepth 100000 in
set_option maxHeartbeats 2000000 in
theorem refList_any (w : World) (ao : Option Addr) (n cap : Nat) (Ps : List Pr) (h : LibAt w ao Ps) (hn : n = Ps.length) (hm : n ≤ 140737488351232) :
    Calls Tryd.prog 19 #[.slice ao n cap] w fun e w' => e = .returned (.tuple #[.string (S (outT Ps)), .int .i64 (outE Ps)]) ∧ Below w.heap.size w w' := by
  have H : Hid (LibAt w ao Ps) := h
  have HN : Hid (n = Ps.length) := hn
  clear h hn
  go_enter Tryd.func19, Tryd.ntmps19
  go_wp2_with fail
  refine (refCheck_any w ao n cap Ps H.out HN.out hm).mono ?_
  rintro e w1 ⟨rfl, hb1⟩
  have HB1 : Hid (Below w.heap.size w w1) := hb1
  clear hb1
  by_cases h0 : (checkN Ps).2 = 0
  · have HSd : Hid (∀ x ∈ Ps, Snd x) := Snd.of h0 H.out
    have h64 : n ≤ 64 := by have := (check_name h0).1; have := HN.out; omega
    have HO : Hid (outT Ps = (if (listT Ps).length ≤ 65536 then listT Ps else []) ∧ outE Ps = (if (listT Ps).length ≤ 65536 then 0 else 44)) := by
      unfold outT outE
      refine ⟨?_, by rw [if_neg (by simpa using h0)]⟩
      by_cases h6 : (listT Ps).length ≤ 65536
      · rw [if_pos ⟨h0, h6⟩, if_pos h6]
      · rw [if_neg (fun hh => h6 hh.2), if_neg h6]
    rw [h0]
    clear h0
    generalize (checkN Ps).1 = at1 at *
    go_wp2_with fail
    go_loopw [6, 7] (fun v y wr => ∃ (k : Nat) (T : List UInt8), k ≤ n ∧ v = .string (S T) ∧ y = .int .i64 (k : Int) ∧ Hid (T = listT (Ps.take k)) ∧ Hid (Below w.heap.size w wr)) (fun _ y _ => n - (intOf y).toNat)
    case atStart => exact ⟨0, [], Nat.zero_le _, rfl, rfl, rfl, HB1⟩
    case round =>
      clear HB1
      obtain ⟨k, T, hk, rfl, rfl, HT, HB⟩ := hrel
      by_cases hlt : k < n
      · have hlt' : k < Ps.length := by have := HN.out; omega
        obtain ⟨b, off, rfl, c0, c1, c2, c3, c4, c5⟩ := (H.out.at_.kept HB.out).get k hlt'
        have HTk : Hid (listT (Ps.take (k + 1)) = listT (Ps.take k) ++ textX (pd Ps k)) := listT_take Ps k hlt'
        have HOk : Hid (PrOK w (pd Ps k)) := H.out.ok _ (pd_mem hlt')
        have HSn : Hid (Snd (pd Ps k)) := HSd.out _ (pd_mem hlt')
        have hbt : T.length ≤ 80000 * 64 := by
          have h1 := listT_len (Ps.take k) (fun x hx => HSd.out x (List.mem_of_mem_take hx))
          have h2 : (Ps.take k).length ≤ 64 := by rw [List.length_take]; omega
          rw [HT.out]; omega
        generalize pd Ps k = x at *
        have hx31 : (nmL' x).length ≤ 31 := by unfold nmL'; simpa using HSn.out.nm
        have HNmS : Hid (x.name = S (nmL' x)) := (S_of _).symm
        rw [HNmS.out] at c0
        go_wp2_with fail
        refine (one_any wr (nmL' x) x.p x.ao x.n x.cap x.L HSn.out.nin hx31 ⟨HOk.out.ks.kept HB.out, HSn.out.kin, HSn.out.jmp, HSn.out.big⟩ HOk.out.len).mono ?_
        rintro e w2 ⟨rfl, hb2⟩
        have HB2 : Hid (Below w.heap.size w w2) := HB.out.trans (hb2.mono HB.out.size)
        have htx : (textX x).length ≤ 80000 := textX_len HSn.out
        have HTx : Hid (joinL (linesP (nmL' x) x.p x.L) = textX x) := rfl
        rw [HTx.out]
        generalize textX x = tx at *
        obtain ⟨T2, hT2⟩ : ∃ T2, T2 = T ++ tx := ⟨_, rfl⟩
        have s1 : ¬ ((S T).size + (S tx).size > 9223372036854775807) := S_fit T tx (by omega)
        have e1 : S T ++ S tx = S T2 := by rw [hT2]; exact S_app T tx
        have HT2 : Hid (T2 = listT (Ps.take (k + 1))) := by rw [HTk.out, hT2, HT.out]; rfl
        clear hb2 hT2 HB HT HTk c0 c1 c2 c3 c4 c5
        go_wp2_with fail
        go_roundw
        case rel => exact ⟨k + 1, T2, by omega, rfl, by go_num, HT2, HB2⟩
        case measure => simp [intOf]; omega
      · obtain rfl : k = n := by omega
        have HTf : Hid (T = listT Ps) := by have := HT.out; rw [HN.out, List.take_length] at this; exact this
        rw [← HTf.out] at HO
        have hsz : (S T).size = T.length := S_size T
        clear HT
        by_cases h6 : T.length ≤ 65536
        · have h6' : ¬ ((65536 : Int) < (T.length : Int)) := by omega
          have HOT : Hid (outT Ps = T ∧ outE Ps = 0) := ⟨by rw [HO.out.1, if_pos h6], by rw [HO.out.2, if_pos h6]⟩
          clear h6
          go_wp2
          go_ret2
          exact ⟨by rw [HOT.out.1, HOT.out.2]; rfl, HB.out⟩
        · have h6' : (65536 : Int) < (T.length : Int) := by omega
          have HOT : Hid (outT Ps = [] ∧ outE Ps = 44) := ⟨by rw [HO.out.1, if_neg h6], by rw [HO.out.2, if_neg h6]⟩
          clear h6
          go_wp2
          go_ret2
          exact ⟨by rw [HOT.out.1, HOT.out.2]; rfl, HB.out⟩
  · have h0' : ((checkN Ps).2 != 0) = true := by simpa using h0
    have HO : Hid (outT Ps = [] ∧ outE Ps = (checkN Ps).2) := by unfold outT outE; exact ⟨if_neg (fun hh => h0 hh.1), if_pos h0⟩
    generalize hc2 : (checkN Ps).2 = c2 at *
    generalize (checkN Ps).1 = at1 at *
    clear h0
    go_wp2
    go_ret2
    exact ⟨by rw [HO.out.1, HO.out.2]; rfl, HB1.out⟩
/-- what the parts come to -/
def used : List Pr → Nat
  | [] => 0
  | x :: Ps => 1 + x.name.size + x.n + used Ps
theorem used_append (A B : List Pr) : used (A ++ B) = used A + used B := by
  induction A with
  | nil => simp [used]
  | cons x A ih => simp [used, ih]; omega
theorem used_take (Ps : List Pr) (k : Nat) (h : k < Ps.length) : used (Ps.take (k + 1)) = used (Ps.take k) + (1 + (pd Ps k).name.size + (pd Ps k).n) := by
  rw [pd_take Ps k h, used_append]; simp [used]
theorem used_all {Ps : List Pr} : Ps.length ≤ used Ps ∧ ∀ x ∈ Ps, x.name.size ≤ used Ps ∧ x.n ≤ used Ps := by
  induction Ps with
  | nil => simp [used]
  | cons y Ps ih =>
    refine ⟨by simp [used]; omega, fun x hx => ?_⟩
    rcases List.mem_cons.1 hx with rfl | hx
    · simp [used]; omega
    · have := ih.2 x hx
      simp [used]; omega
def PartsPost (n : Nat) (Ps : List Pr) (e : Ending) : Prop := ∃ r : Int, e = .returned (.int .i64 r) ∧ (0 ≤ r → n ≤ 100000 ∧ ∀ x ∈ Ps, x.name.size ≤ 100000 ∧ x.n ≤ 100000)
set_option maxRecDepth 100000 in
set_option maxHeartbeats 1000000 in
theorem parts_any (w : World) (ao : Option Addr) (n cap : Nat) (Ps : List Pr) (h : LibAt w ao Ps) (hn : n = Ps.length) (hm : n ≤ 140737488351232) :
    Calls Tryd.prog 16 #[.slice ao n cap, .int .i64 100000] w fun e w' => PartsPost n Ps e ∧ ∃ q, w' = w.drewN q := by
  have H : Hid (LibAt w ao Ps) := h
  have HN : Hid (n = Ps.length) := hn
  clear h hn
  go_enter Tryd.func16, Tryd.ntmps16
  go_wp2_with fail
  go_loopw [1, 5] (fun x y wr => ∃ (k q : Nat) (r : Int), k ≤ n ∧ x = .int .i64 r ∧ y = .int .i64 (k : Int) ∧ Hid (r = 100000 - (used (Ps.take k) : Int)) ∧ r ≤ 100000 ∧ -300000000000000 ≤ r ∧ wr = w.drewN q) (fun _ y _ => n - (intOf y).toNat)
  case atStart => exact ⟨0, 0, 100000, Nat.zero_le _, rfl, rfl, by simp [Hid, used], by omega, by omega, rfl⟩
  case round =>
    obtain ⟨k, q, r, hk, rfl, rfl, HRe, hr1, hr2, rfl⟩ := hrel
    by_cases hlt : k < n
    · by_cases hr0 : 0 ≤ r
      · have hlt' : k < Ps.length := by have := HN.out; omega
        obtain ⟨b, off, rfl, c0, c1, c2, c3, c4, c5⟩ := H.out.at_.get k hlt'
        have HU : Hid (used (Ps.take (k + 1)) = used (Ps.take k) + (1 + (pd Ps k).name.size + (pd Ps k).n)) := used_take Ps k hlt'
        have HOk := H.out.ok _ (pd_mem hlt')
        have hb1 := HOk.str
        have hb2 := HOk.big
        clear HOk
        generalize pd Ps k = x at *
        generalize hns : x.name.size = ns at *
        generalize x.n = xn at *
        have hns' : x.name.size = ns := hns
        clear hns c1 c2 c3 c4
        have d0 : (w.drewN q).cell? ⟨b, off + k * 6, none⟩ = some (.string x.name) := c0
        have d5 : (w.drewN q).cell? ⟨b, off + k * 6 + 5, none⟩ = some (.slice x.ao xn x.cap) := c5
        have HW1 : Hid (∀ m, (w.drewN q).drewN m = w.drewN (q + m)) := fun m => World.drewN_drewN _ _ _
        generalize w.drewN q = w1 at *
        have hw1 : IntKind.i64.wrap (r - 1) = r - 1 := by rw [IntKind.wrap_i64]; omega
        have hw2 : IntKind.i64.wrap (r - 1 - (ns : Int)) = r - 1 - (ns : Int) := by rw [IntKind.wrap_i64]; omega
        have hw3 : IntKind.i64.wrap (r - 1 - (ns : Int) - (xn : Int)) = r - 1 - (ns : Int) - (xn : Int) := by rw [IntKind.wrap_i64]; omega
        have HR2 : Hid (r - 1 - (ns : Int) - (xn : Int) = 100000 - (used (Ps.take (k + 1)) : Int)) := by rw [HU.out, HRe.out]; show _ = _; omega
        clear HU c0 c5
        go_wp2_with fail
        go_quiet (fail)
        go_wp2_with fail
        go_roundw
        case rel => exact ⟨k + 1, q + nq, r - 1 - (ns : Int) - (xn : Int), by omega, rfl, by go_num, HR2, by omega, by omega, HW1.out nq⟩
        case measure => simp [intOf]; omega
      · have hr0' : ¬ (r ≥ 0) := by omega
        have hrn : r < 0 := by omega
        have HPp : Hid (PartsPost n Ps (.returned (.int .i64 r))) := ⟨r, rfl, fun h => absurd h (by omega)⟩
        clear HRe
        go_wp2
        go_ret
        exact ⟨HPp.out, q, rfl⟩
    · obtain rfl : k = n := by omega
      have HPp : Hid (PartsPost k Ps (.returned (.int .i64 r))) := ⟨r, rfl, fun h => by
        have hu := HRe.out
        rw [HN.out, List.take_length] at hu
        obtain ⟨h1, h2⟩ := used_all (Ps := Ps)
        refine ⟨by rw [HN.out]; omega, fun x hx => ?_⟩
        have := h2 x hx
        omega⟩
      clear HRe
      go_wp2
      go_ret
      exact ⟨HPp.out, q, rfl⟩
end Go.Proofs.YtkjmeknaedapjaaDoor
