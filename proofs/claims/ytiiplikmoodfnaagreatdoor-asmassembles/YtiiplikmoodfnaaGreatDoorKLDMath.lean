import Derived.Test.YtiiplikmoodfnaaGreatDoorKLawAsmH
import Derived.Test.YtiiplikmoodfnaaGreatDoorKAFault
import Derived.Test.YtiiplikmoodfnaaGreatDoorKALand
import Derived.Test.YtiiplikmoodfnaaGreatDoorKLOwnP
import Derived.Test.YtiiplikmoodfnaaGreatDoorKAErr
/-
  A LIBRARY READ: what Decode reads; and that it is what Encode writes.
-/
namespace Go.Proofs.YtiiplikmoodfnaaGreatDoor
open Go.RowKit Go.Sort

/-- bytes as a text -/
def nmS (bs : List Nat) : ByteArray := ⟨(bs.map UInt8.ofNat).toArray⟩
theorem nmS_size (bs : List Nat) : (nmS bs).size = bs.length := by
  show ((bs.map UInt8.ofNat).toArray).size = bs.length
  simp
theorem u8_back : ∀ z : Nat, z < 256 → (UInt8.ofNat z).toNat = z := by decide +kernel
theorem nmB_nmS {bs : List Nat} (h : ∀ z ∈ bs, z < 256) : nmB (nmS bs) = bs := by
  show ((bs.map UInt8.ofNat).toArray.toList).map (·.toNat) = bs
  rw [List.toList_toArray, List.map_map]
  conv => rhs; rw [← List.map_id bs]
  exact List.map_congr_left fun z hz => u8_back z (h z hz)
theorem nmS_nmB (s : ByteArray) : nmS (nmB s) = s := by
  obtain ⟨⟨l⟩⟩ := s
  show (⟨((l.map (·.toNat)).map UInt8.ofNat).toArray⟩ : ByteArray) = ⟨⟨l⟩⟩
  rw [List.map_map]
  have e : l.map (UInt8.ofNat ∘ (·.toNat)) = l := by
    conv => rhs; rw [← List.map_id l]
    exact List.map_congr_left fun z _ => by simp
  rw [e]

/-- a procedure that was read -/
abbrev Rp := ByteArray × Nums × List K
def core (x : Pr) : Rp := (x.name, x.p, x.L)
/-- k procedures one behind the other -/
def decL (b : List Nat) (p : Nat) (e : Int) : Nat → List Rp × Nat × Int
  | 0 => ([], p, e)
  | k + 1 => ((decL b p e k).1 ++ [(nmS (rdBytes b (decL b p e k).2.1 (decL b p e k).2.2 31).1, (getP b (rdBytes b (decL b p e k).2.1 (decL b p e k).2.2 31).2.1 (rdBytes b (decL b p e k).2.1 (decL b p e k).2.2 31).2.2).1, (getP b (rdBytes b (decL b p e k).2.1 (decL b p e k).2.2 31).2.1 (rdBytes b (decL b p e k).2.1 (decL b p e k).2.2 31).2.2).2.1)],
      (getP b (rdBytes b (decL b p e k).2.1 (decL b p e k).2.2 31).2.1 (rdBytes b (decL b p e k).2.1 (decL b p e k).2.2 31).2.2).2.2)
theorem decL_length (b : List Nat) (p : Nat) (e : Int) : ∀ k, (decL b p e k).1.length = k
  | 0 => rfl
  | k + 1 => by simp [decL, decL_length b p e k]
/-- the error behind the head -/
def hdE (b : List Nat) : Int := if (rdRaw b 0 0 4).1 = [80, 82, 76, 49] then (rdRaw b 0 0 4).2.2 else failE (rdRaw b 0 0 4).2.2 11
def decU (b : List Nat) : Nat × Nat × Int := rdUpto b (rdRaw b 0 0 4).2.1 (hdE b) 64
def decA (b : List Nat) : List Rp × Nat × Int := decL b (decU b).2.1 (decU b).2.2 (decU b).1
def decE (b : List Nat) : Int := rdEnd b (decA b).2.1 (decA b).2.2

/-- what can be written -/
structure Sd (x : Pr) : Prop where
  nm : x.name.size ≤ 31
  lim : limB x.p x.L.length = true
  ops : opsB x.L = true
  kin : ∀ k ∈ x.L, KIn k
theorem ops_of {p : Nums} {L : List K} (h : lookAll p L L.length = 0) : opsB L = true := by
  unfold opsB
  rw [List.all_eq_true]
  intro k hk
  obtain ⟨i, hi, rfl⟩ := List.mem_iff_getElem.1 hk
  have h1 := firstE_zero h i hi
  have e : cd L i = L[i] := by simp [cd, List.getD_eq_getElem?_getD, List.getElem?_eq_getElem hi]
  simp only [lookN, e] at h1
  cases ho : isOpB (L[i]).1 with
  | true => rfl
  | false => rw [ho] at h1; simp at h1
theorem Sd.of {Ps : List Pr} (h : (checkN Ps).2 = 0) (hk : ∀ x ∈ Ps, ∀ k ∈ x.L, KIn k) : ∀ x ∈ Ps, Sd x := by
  intro x hx
  have h31 := check_small h x hx
  obtain ⟨i, hi, rfl⟩ := List.mem_iff_getElem.1 hx
  have e : pd Ps i = Ps[i] := by simp [pd, List.getD_eq_getElem?_getD, List.getElem?_eq_getElem hi]
  have hv := (chk_zero ((check_name h).2 i hi)).2.2
  rw [e] at hv
  obtain ⟨h1, h2, _⟩ := verify_ok hv
  exact ⟨h31, h1, ops_of h2, hk _ hx⟩
theorem rdBytes_le (b : List Nat) (p : Nat) (bs R : List Nat) (most : Nat) (hm : bs.length ≤ most) (hn : bs.length < 18446744073709551616) (h : b.drop p = uint 10 bs.length ++ bs ++ R) : rdBytes b p 0 (most : Int) = (bs, p + (uint 10 bs.length ++ bs).length, 0) := by
  have hl := congrArg List.length h
  rw [List.length_drop, List.length_append, List.length_append] at hl
  have h2 : b.drop (p + (uint 10 bs.length).length) = bs ++ R := by
    rw [← List.drop_drop, h, List.append_assoc, List.drop_left]
  unfold rdBytes
  rw [h, List.append_assoc, scan_at bs.length hn]
  simp only [ne_eq, not_true, if_false]
  rw [if_neg (by omega), if_neg (by omega), rdRaw_at b _ bs R h2, List.length_append]
  congr 2
  omega
theorem procB_sd {x : Pr} (h : Sd x) : procB x = uint 10 (nmB x.name).length ++ nmB x.name ++ progB x.p x.L := by
  unfold procB; rw [written_ok h.lim h.ops, nmB_length]
theorem decL_at (b : List Nat) (p : Nat) (Ps : List Pr) (R : List Nat) (hs : ∀ x ∈ Ps, Sd x) (h : b.drop p = procsB Ps ++ R) : ∀ k, k ≤ Ps.length → decL b p 0 k = ((Ps.take k).map core, p + (procsB (Ps.take k)).length, 0)
  | 0, _ => by simp [decL, procsB]
  | k + 1, hk => by
    have ih := decL_at b p Ps R hs h k (by omega)
    have hlt : k < Ps.length := by omega
    have hc := procsB_take Ps k hlt
    have hx := hs _ (pd_mem hlt)
    have hsp : procsB Ps = procsB (Ps.take (k + 1)) ++ procsB (Ps.drop (k + 1)) := by rw [← procsB_append, List.take_append_drop]
    have hd : b.drop (p + (procsB (Ps.take k)).length) = uint 10 (nmB (pd Ps k).name).length ++ nmB (pd Ps k).name ++ (progB (pd Ps k).p (pd Ps k).L ++ (procsB (Ps.drop (k + 1)) ++ R)) := by
      refine drop_at (X := procsB (Ps.take k)) ?_
      rw [h, hsp, hc, procB_sd hx]; simp
    have hb := rdBytes_le b _ (nmB (pd Ps k).name) _ 31 (by rw [nmB_length]; exact hx.nm) (by rw [nmB_length]; have := hx.nm; omega) hd
    have hg := getP_at b _ (pd Ps k).p (pd Ps k).L _ hx.lim hx.ops hx.kin (drop_at hd)
    simp only [decL, ih]
    rw [show ((31 : Int)) = ((31 : Nat) : Int) from rfl, hb]
    simp only [hg, nmS_nmB]
    rw [hc, pd_take Ps k hlt, List.map_append, List.length_append, procB_sd hx]
    simp only [List.length_append, List.map_cons, List.map_nil, core, Prod.mk.injEq, true_and, and_true]
    omega
/-- A SOUND LIBRARY'S BYTES ARE READ AS IT -/
theorem dec_at {Ps : List Pr} (h64 : Ps.length ≤ 64) (hs : ∀ x ∈ Ps, Sd x) : decA (encN Ps) = (Ps.map core, (encN Ps).length, 0) ∧ decE (encN Ps) = 0 := by
  have h0 : (encN Ps).drop 0 = [80, 82, 76, 49] ++ (uint 10 Ps.length ++ procsB Ps) := by simp [encN, headL]
  have hr := rdRaw_at (encN Ps) 0 [80, 82, 76, 49] _ h0
  rw [show ((([80, 82, 76, 49] : List Nat).length : Int)) = 4 from rfl] at hr
  have he : hdE (encN Ps) = 0 := by unfold hdE; rw [hr]; rfl
  have d1 := drop_at h0
  have hu : decU (encN Ps) = (Ps.length, 0 + ([80, 82, 76, 49] : List Nat).length + (uint 10 Ps.length).length, 0) := by
    unfold decU
    rw [he, hr]
    exact rdUpto_at _ _ Ps.length 64 (procsB Ps) (by omega) h64 d1
  have d2 := drop_at d1
  have hl := decL_at (encN Ps) _ Ps [] hs (by rw [List.append_nil]; exact d2) Ps.length (Nat.le_refl _)
  rw [List.take_length] at hl
  have hlen : (encN Ps).length = 0 + ([80, 82, 76, 49] : List Nat).length + (uint 10 Ps.length).length + (procsB Ps).length := by
    simp only [encN, headL, List.length_append]; omega
  have ha : decA (encN Ps) = (Ps.map core, (encN Ps).length, 0) := by
    unfold decA; rw [hu]; simp only; rw [hl, hlen]
  refine ⟨ha, ?_⟩
  unfold decE rdEnd
  rw [ha, if_neg (by simp)]

/- BACK: what is read without an error is what is written. -/
theorem upto_ate {b : List Nat} (hz : ∀ z ∈ b, z < 256) {p : Nat} {e : Int} {most : Nat} (h : (rdUpto b p e most).2.2 = 0) : e = 0 ∧ b.drop p = uint 10 (rdUpto b p e most).1 ++ b.drop (rdUpto b p e most).2.1 ∧ (rdUpto b p e most).1 ≤ most ∧ (rdUpto b p e most).1 < 18446744073709551616 := by
  unfold rdUpto at h ⊢
  split at h
  · rename_i h1; exact absurd h h1
  · split at h
    · rename_i h1; simp only at h; omega
    · split at h
      · simp at h
      · rename_i h1 h2 h3
        rw [if_neg h1, if_neg h2, if_neg h3]
        have h3' := scan_one (b.drop p) (scan (b.drop p)).1 (scan (b.drop p)).2.1 (fun z hz' => hz z (List.mem_of_mem_drop hz')) (by rw [← Decidable.not_not.1 h2])
        refine ⟨Decidable.not_not.1 h1, ?_, by simp only; omega, h3'.1⟩
        simp only
        rw [← h3'.2.2.2, ← List.drop_drop, List.take_append_drop]
theorem byte_ate {b : List Nat} {p : Nat} {e : Int} (hp : p ≤ b.length) (h : (rdByte b p e).2.2 = 0) : e = 0 ∧ b.drop p = (rdByte b p e).1 :: b.drop (rdByte b p e).2.1 := by
  unfold rdByte at h ⊢
  split at h
  · rename_i h1; exact absurd h h1
  · split at h
    · simp at h
    · rename_i h1 h2
      rw [if_neg h1, if_neg h2]
      refine ⟨Decidable.not_not.1 h1, ?_⟩
      have hl : p < b.length := by omega
      rw [List.drop_eq_getElem_cons hl]
      simp [List.getD_eq_getElem?_getD, List.getElem?_eq_getElem hl]
theorem raw_ate {b : List Nat} {p : Nat} {e n : Int} (h : (rdRaw b p e n).2.2 = 0) : e = 0 ∧ b.drop p = (rdRaw b p e n).1 ++ b.drop (rdRaw b p e n).2.1 ∧ ((rdRaw b p e n).1.length : Int) = n := by
  unfold rdRaw at h ⊢
  split at h
  · rename_i h1; exact absurd h h1
  · split at h
    · simp at h
    · split at h
      · simp at h
      · rename_i h1 h2 h3
        rw [if_neg h1, if_neg h2, if_neg h3]
        refine ⟨Decidable.not_not.1 h1, ?_, ?_⟩
        · simp only
          rw [← List.drop_drop, List.take_append_drop]
        · simp only [List.length_take, List.length_drop]; omega
theorem bytes_ate {b : List Nat} (hz : ∀ z ∈ b, z < 256) {p : Nat} {e most : Int} (h : (rdBytes b p e most).2.2 = 0) : e = 0 ∧ b.drop p = (uint 10 (rdBytes b p e most).1.length ++ (rdBytes b p e most).1) ++ b.drop (rdBytes b p e most).2.1 ∧ ((rdBytes b p e most).1.length : Int) ≤ most := by
  unfold rdBytes at h ⊢
  split at h
  · rename_i h1; exact absurd h h1
  · split at h
    · rename_i h1; simp only at h; omega
    · split at h
      · simp at h
      · split at h
        · simp at h
        · rename_i h1 h2 h3 h4
          rw [if_neg h1, if_neg h2, if_neg h3, if_neg h4]
          have h3' := scan_one (b.drop p) (scan (b.drop p)).1 (scan (b.drop p)).2.1 (fun z hz' => hz z (List.mem_of_mem_drop hz')) (by rw [← Decidable.not_not.1 h2])
          obtain ⟨_, hr, hl⟩ := raw_ate h
          have hl' : (rdRaw b (p + (scan (b.drop p)).2.1) 0 (((scan (b.drop p)).1 : Nat) : Int)).1.length = (scan (b.drop p)).1 := by omega
          refine ⟨Decidable.not_not.1 h1, ?_, by omega⟩
          rw [hl', List.append_assoc, ← hr, ← h3'.2.2.2, ← List.drop_drop, List.take_append_drop]
theorem bytes_in {b : List Nat} (hz : ∀ z ∈ b, z < 256) (p : Nat) (e : Int) : (rdBytes b p e 31).1.length ≤ 31 ∧ ∀ z ∈ (rdBytes b p e 31).1, z < 256 := by
  by_cases h : (rdBytes b p e 31).2.2 = 0
  · obtain ⟨_, h1, h2⟩ := bytes_ate hz h
    refine ⟨by omega, fun z hz' => hz z (List.mem_of_mem_drop (i := p) ?_)⟩
    rw [h1]; simp [hz']
  · have e0 : (rdBytes b p e 31).1 = [] := by
      unfold rdBytes at h ⊢
      split
      · rfl
      · split
        · rfl
        · split
          · rfl
          · split
            · rfl
            · rename_i h1 h2 h3 h4
              rw [if_neg h1, if_neg h2, if_neg h3, if_neg h4] at h
              unfold rdRaw at h ⊢
              split
              · rfl
              · split
                · rfl
                · split
                  · rfl
                  · rename_i g1 g2 g3
                    rw [if_neg g1, if_neg g2, if_neg g3] at h
                    exact absurd rfl h
    rw [e0]; simp
theorem fold_unfold (n : Nat) : fold (unfold n) = n := by
  unfold unfold fold
  split <;> split <;> omega
theorem unfold_in {n : Nat} (h : n < 18446744073709551616) : In64 (unfold n) := by
  unfold unfold In64
  split <;> omega
theorem failE_zero {e x : Int} (hx : x ≠ 0) : failE e x ≠ 0 := by unfold failE; split <;> assumption
theorem getI_ate {b : List Nat} (hz : ∀ z ∈ b, z < 256) {p : Nat} {e : Int} (hp : p ≤ b.length) (h : (getI b p e).2.2 = 0) : e = 0 ∧ b.drop p = instrB (getI b p e).1 ++ b.drop (getI b p e).2.1 ∧ isOpB (getI b p e).1.1 = true ∧ KIn (getI b p e).1 := by
  have hlt := rdByte_lt hz p e
  have hby := fun h => byte_ate (b := b) (p := p) (e := e) hp h
  unfold getI at h ⊢
  generalize rdByte b p e = B at *
  obtain ⟨z, q, f⟩ := B
  simp only at h hlt hby ⊢
  have e2 : getE2 z f = 0 → f = 0 ∧ isOpB ((z : Int) % 64) = true ∧ z < 128 := by
    intro h2
    unfold getE2 at h2
    split at h2
    · exact absurd h2 (failE_zero (by decide))
    · rename_i hn
      refine ⟨h2, ?_, by omega⟩
      cases ho : isOpB ((z : Int) % 64) with
      | true => rfl
      | false => exact absurd (.inl ho) hn
  have e3 : isOpB ((z : Int) % 64) = true → In64 ((z : Int) % 64) := fun _ => by unfold In64; omega
  have e4 : ((z : Int) % 64).toNat = z % 64 := by omega
  unfold getT at h ⊢
  split at h
  · rename_i h64
    rw [if_pos h64]
    simp only at h ⊢
    split at h
    · exact absurd h (failE_zero (by decide))
    · rename_i hA
      obtain ⟨g0, g1, _, g3⟩ := upto_ate hz h
      obtain ⟨f0, ho, hzz⟩ := e2 g0
      obtain ⟨he, hd⟩ := hby f0
      refine ⟨he, ?_, ho, e3 ho, unfold_in g3⟩
      rw [hd, g1]
      have : instrB ((z : Int) % 64, unfold (rdUpto b q (getE2 z f) 18446744073709551615).1) = z :: uint 10 (rdUpto b q (getE2 z f) 18446744073709551615).1 := by
        unfold instrB
        simp only
        rw [if_neg hA, fold_unfold, e4]
        congr 1
        omega
      rw [this]; rfl
  · rename_i h64
    rw [if_neg h64]
    simp only at h ⊢
    obtain ⟨f0, ho, hzz⟩ := e2 h
    obtain ⟨he, hd⟩ := hby f0
    refine ⟨he, ?_, ho, e3 ho, show In64 0 by unfold In64; decide⟩
    rw [hd]
    have : instrB ((z : Int) % 64, 0) = [z] := by
      unfold instrB
      simp only
      rw [if_pos trivial, e4]
      congr 1
      omega
    rw [this]; rfl
/-- the place stays within the bytes -/
theorem upto_place {b : List Nat} (hz : ∀ z ∈ b, z < 256) {p : Nat} (e : Int) (most : Nat) (hp : p ≤ b.length) : (rdUpto b p e most).2.1 ≤ b.length := by
  unfold rdUpto
  split
  · exact hp
  · split
    · exact hp
    · split
      · exact hp
      · rename_i h1 h2 h3
        have h3' := scan_one (b.drop p) (scan (b.drop p)).1 (scan (b.drop p)).2.1 (fun z hz' => hz z (List.mem_of_mem_drop hz')) (by rw [← Decidable.not_not.1 h2])
        have := h3'.2.2.1
        rw [List.length_drop] at this
        simp only; omega
theorem byte_place {b : List Nat} {p : Nat} (e : Int) (hp : p ≤ b.length) : (rdByte b p e).2.1 ≤ b.length := by
  unfold rdByte
  split
  · exact hp
  · split
    · exact hp
    · simp only; omega
theorem getI_place {b : List Nat} (hz : ∀ z ∈ b, z < 256) {p : Nat} (e : Int) (hp : p ≤ b.length) : (getI b p e).2.1 ≤ b.length := by
  have h1 := byte_place (b := b) e hp
  unfold getI getT
  split
  · exact upto_place hz _ _ h1
  · exact h1
theorem getL_place {b : List Nat} (hz : ∀ z ∈ b, z < 256) {p : Nat} (e : Int) (hp : p ≤ b.length) : ∀ k, (getL b p e k).2.1 ≤ b.length
  | 0 => hp
  | k + 1 => getI_place hz _ (getL_place hz e hp k)
theorem getL_ate {b : List Nat} (hz : ∀ z ∈ b, z < 256) {p : Nat} {e : Int} (hp : p ≤ b.length) : ∀ k, (getL b p e k).2.2 = 0 → e = 0 ∧ b.drop p = codeB (getL b p e k).1 ++ b.drop (getL b p e k).2.1 ∧ opsB (getL b p e k).1 = true ∧ ∀ x ∈ (getL b p e k).1, KIn x
  | 0, h => ⟨h, rfl, rfl, by intro x hx; cases hx⟩
  | k + 1, h => by
    obtain ⟨h0, h1, h2, h3⟩ := getI_ate hz (getL_place hz e hp k) (show (getI b (getL b p e k).2.1 (getL b p e k).2.2).2.2 = 0 from h)
    obtain ⟨i0, i1, i2, i3⟩ := getL_ate hz hp k h0
    refine ⟨i0, ?_, ?_, ?_⟩
    · show b.drop p = codeB ((getL b p e k).1 ++ [_]) ++ _
      rw [codeB_append, i1, h1]; simp [codeB]; rfl
    · show opsB ((getL b p e k).1 ++ [_]) = true
      unfold opsB at i2 ⊢
      rw [List.all_append, i2]; simp [h2]
    · intro x hx
      rcases List.mem_append.1 (show x ∈ (getL b p e k).1 ++ [_] from hx) with hx | hx
      · exact i3 x hx
      · simp at hx; rw [hx]; exact h3
theorem getP_ate {b : List Nat} (hz : ∀ z ∈ b, z < 256) {p : Nat} {e : Int} (hp : p ≤ b.length) (h : (getP b p e).2.2.2 = 0) : e = 0 ∧ b.drop p = progB (getP b p e).1 (getP b p e).2.1 ++ b.drop (getP b p e).2.2.1 ∧ limB (getP b p e).1 (getP b p e).2.1.length = true ∧ opsB (getP b p e).2.1 = true ∧ (∀ x ∈ (getP b p e).2.1, KIn x) := by
  have hl : (getL b (getH b p e).2.2.1 (getH b p e).2.2.2 (getH b p e).2.1).2.2 = 0 := by
    unfold getP at h
    simp only at h
    split at h
    · assumption
    · exact h
  have e1 : getP b p e = ((getH b p e).1, (getL b (getH b p e).2.2.1 (getH b p e).2.2.2 (getH b p e).2.1).1, (getL b (getH b p e).2.2.1 (getH b p e).2.2.2 (getH b p e).2.1).2.1, (getL b (getH b p e).2.2.1 (getH b p e).2.2.2 (getH b p e).2.1).2.2) := by
    unfold getP; simp only; rw [if_pos hl]
  have hn := getL_length b (getH b p e).2.2.1 (getH b p e).2.2.2 (getH b p e).2.1
  rw [e1]
  simp only
  have p0 := upto_place hz e 16 hp
  have p1 := upto_place hz (rdUpto b p e 16).2.2 16 p0
  have p2 := upto_place hz (rdUpto b (rdUpto b p e 16).2.1 (rdUpto b p e 16).2.2 16).2.2 16 p1
  simp only [getH] at hl hn ⊢
  generalize hx0 : rdUpto b p e 16 = x0 at *
  generalize hx1 : rdUpto b x0.2.1 x0.2.2 16 = x1 at *
  generalize hx2 : rdUpto b x1.2.1 x1.2.2 16 = x2 at *
  have p3 := upto_place hz x2.2.2 16 p2
  generalize hx3 : rdUpto b x2.2.1 x2.2.2 16 = x3 at *
  have p4 := upto_place hz x3.2.2 256 p3
  generalize hx4 : rdUpto b x3.2.1 x3.2.2 256 = x4 at *
  obtain ⟨i0, i1, i2, i3⟩ := getL_ate hz p4 x4.1 hl
  obtain ⟨a4, b4, c4, _⟩ := upto_ate (most := 256) hz (by rw [hx4]; exact i0)
  obtain ⟨a3, b3, c3, _⟩ := upto_ate (most := 16) hz (by rw [hx3]; exact a4)
  obtain ⟨a2, b2, c2, _⟩ := upto_ate (most := 16) hz (by rw [hx2]; exact a3)
  obtain ⟨a1, b1, c1, _⟩ := upto_ate (most := 16) hz (by rw [hx1]; exact a2)
  obtain ⟨a0, b0, c0, _⟩ := upto_ate (most := 16) hz (by rw [hx0]; exact a1)
  rw [hx4] at b4 c4
  rw [hx3] at b3 c3
  rw [hx2] at b2 c2
  rw [hx1] at b1 c1
  rw [hx0] at b0 c0
  refine ⟨a0, ?_, ?_, i2, i3⟩
  · have hH : headB ⟨(x0.1 : Int), (x1.1 : Int), (x2.1 : Int), (x3.1 : Int)⟩ (getL b x4.2.1 x4.2.2 x4.1).1.length 5 = uint 10 x0.1 ++ (uint 10 x1.1 ++ (uint 10 x2.1 ++ (uint 10 x3.1 ++ (uint 10 x4.1 ++ [])))) := by rw [hn]; rfl
    unfold progB
    rw [hH, b0, b1, b2, b3, b4, i1]
    simp
  · rw [limB_iff, hn]; simp only; omega
theorem getP_in {b : List Nat} (hz : ∀ z ∈ b, z < 256) {p : Nat} (e : Int) (hp : p ≤ b.length) : NIn (getP b p e).1 ∧ (∀ x ∈ (getP b p e).2.1, KIn x) ∧ (getP b p e).2.1.length ≤ 256 := by
  by_cases h : (getP b p e).2.2.2 = 0
  · obtain ⟨_, _, h1, _, h2⟩ := getP_ate hz hp h
    obtain ⟨⟨a0, a1⟩, ⟨r0, r1⟩, ⟨w0, w1⟩, ⟨l0, l1⟩, hn⟩ := (limB_iff _ _).1 h1
    refine ⟨?_, h2, hn⟩
    unfold NIn In64; omega
  · have e1 : (getP b p e).1 = ⟨0, 0, 0, 0⟩ ∧ (getP b p e).2.1 = [] := by
      unfold getP at h ⊢
      simp only at h ⊢
      split
      · rename_i h1
        rw [if_pos h1] at h
        exact absurd h1 h
      · exact ⟨rfl, rfl⟩
    rw [e1.1, e1.2]
    refine ⟨by unfold NIn In64; decide, (fun x hx => by simp at hx), by simp⟩
theorem raw_place {b : List Nat} {p : Nat} (e n : Int) (hp : p ≤ b.length) : (rdRaw b p e n).2.1 ≤ b.length := by
  unfold rdRaw
  split
  · exact hp
  · split
    · exact hp
    · split
      · exact hp
      · simp only; omega
theorem bytes_place {b : List Nat} (hz : ∀ z ∈ b, z < 256) {p : Nat} (e most : Int) (hp : p ≤ b.length) : (rdBytes b p e most).2.1 ≤ b.length := by
  unfold rdBytes
  split
  · exact hp
  · split
    · exact hp
    · split
      · exact hp
      · split
        · exact hp
        · rename_i h1 h2 h3 h4
          have h3' := scan_one (b.drop p) (scan (b.drop p)).1 (scan (b.drop p)).2.1 (fun z hz' => hz z (List.mem_of_mem_drop hz')) (by rw [← Decidable.not_not.1 h2])
          have := h3'.2.2.1
          rw [List.length_drop] at this
          exact raw_place _ _ (by omega)
theorem getP_place {b : List Nat} (hz : ∀ z ∈ b, z < 256) {p : Nat} (e : Int) (hp : p ≤ b.length) : (getP b p e).2.2.1 ≤ b.length := by
  have e1 : (getP b p e).2.2.1 = (getL b (getH b p e).2.2.1 (getH b p e).2.2.2 (getH b p e).2.1).2.1 := by
    unfold getP; simp only; split <;> rfl
  rw [e1]
  refine getL_place hz _ ?_ _
  simp only [getH]
  exact upto_place hz _ _ (upto_place hz _ _ (upto_place hz _ _ (upto_place hz _ _ (upto_place hz _ _ hp))))
theorem decL_place {b : List Nat} (hz : ∀ z ∈ b, z < 256) {p : Nat} (e : Int) (hp : p ≤ b.length) : ∀ k, (decL b p e k).2.1 ≤ b.length
  | 0 => hp
  | k + 1 => getP_place hz _ (bytes_place hz _ _ (decL_place hz e hp k))
/-- the bytes of what was read -/
def rpB (x : Rp) : List Nat := uint 10 x.1.size ++ nmB x.1 ++ progB x.2.1 x.2.2
def rpsB : List Rp → List Nat
  | [] => []
  | x :: r => rpB x ++ rpsB r
theorem rpsB_append (A B : List Rp) : rpsB (A ++ B) = rpsB A ++ rpsB B := by
  induction A with
  | nil => rfl
  | cons k A ih => simp [rpsB, ih]
theorem rpsB_core {Ps : List Pr} (hs : ∀ x ∈ Ps, Sd x) : rpsB (Ps.map core) = procsB Ps := by
  induction Ps with
  | nil => rfl
  | cons x Ps ih =>
    show rpB (core x) ++ rpsB (Ps.map core) = procB x ++ procsB Ps
    rw [ih (fun y hy => hs y (by simp [hy])), procB_sd (hs x (by simp)), nmB_length]; rfl
theorem decL_ate {b : List Nat} (hz : ∀ z ∈ b, z < 256) {p : Nat} {e : Int} (hp : p ≤ b.length) : ∀ k, (decL b p e k).2.2 = 0 → e = 0 ∧ b.drop p = rpsB (decL b p e k).1 ++ b.drop (decL b p e k).2.1
  | 0, h => ⟨h, rfl⟩
  | k + 1, h => by
    have hpk := decL_place hz e hp k
    have hpb := bytes_place hz (decL b p e k).2.2 31 hpk
    obtain ⟨h0, h1, _⟩ := getP_ate hz hpb h
    obtain ⟨g0, g1, _⟩ := bytes_ate hz h0
    obtain ⟨_, hb⟩ := bytes_in hz (decL b p e k).2.1 (decL b p e k).2.2
    obtain ⟨i0, i1⟩ := decL_ate hz hp k g0
    refine ⟨i0, ?_⟩
    simp only [decL]
    rw [rpsB_append, i1, g1, h1]
    simp [rpsB, rpB, nmB_nmS hb, nmS_size]
/-- BYTES THAT ARE READ TO THE END ARE THE LIBRARY'S -/
theorem dec_back {b : List Nat} (hz : ∀ z ∈ b, z < 256) (h : decE b = 0) {Ps : List Pr} (hc : Ps.map core = (decA b).1) (hs : ∀ x ∈ Ps, Sd x) : encN Ps = b := by
  have hr : (decA b).2.2 = 0 ∧ b.length ≤ (decA b).2.1 := by
    unfold decE rdEnd at h
    split at h
    · cases h
    · rename_i hn; exact ⟨h, by omega⟩
  have hpr : (rdRaw b 0 0 4).2.1 ≤ b.length := raw_place _ _ (Nat.zero_le _)
  obtain ⟨h0, h1⟩ := decL_ate hz (upto_place hz (hdE b) 64 hpr) (decU b).1 hr.1
  have hU : (decU b).2.2 = 0 := h0
  obtain ⟨u0, u1, _⟩ := upto_ate hz hU
  have hH : (rdRaw b 0 0 4).1 = [80, 82, 76, 49] ∧ (rdRaw b 0 0 4).2.2 = 0 := by
    unfold hdE at u0
    split at u0
    · exact ⟨by assumption, u0⟩
    · exact absurd u0 (failE_zero (by decide))
  obtain ⟨_, r1, _⟩ := raw_ate hH.2
  have hlen : (decU b).1 = Ps.length := by
    have := decL_length b (decU b).2.1 (decU b).2.2 (decU b).1
    have e : (decA b).1.length = (decU b).1 := this
    rw [← hc] at e
    simpa using e.symm
  have hdr : b.drop (decA b).2.1 = [] := List.drop_of_length_le hr.2
  rw [List.drop_zero, hH.1] at r1
  unfold encN headL
  rw [r1, u1, show b.drop (rdUpto b (rdRaw b 0 0 4).2.1 (hdE b) 64).2.1 = rpsB (decA b).1 ++ b.drop (decA b).2.1 from h1, hdr, ← hc, rpsB_core hs, ← hlen]
  simp [decU]
/-- Check hangs on what was read alone -/
theorem core_pd {Ps Qs : List Pr} (h : Ps.map core = Qs.map core) (i : Nat) : core (pd Ps i) = core (pd Qs i) := by
  have e : (Ps.map core)[i]? = (Qs.map core)[i]? := by rw [h]
  have hl : Ps.length = Qs.length := by simpa using congrArg List.length h
  by_cases hi : i < Ps.length
  · have hi' : i < Qs.length := by omega
    simp only [List.getElem?_map, List.getElem?_eq_getElem hi, List.getElem?_eq_getElem hi', Option.map_some, Option.some.injEq] at e
    simpa [pd, List.getD_eq_getElem?_getD, List.getElem?_eq_getElem hi, List.getElem?_eq_getElem hi'] using e
  · simp [pd, List.getD_eq_getElem?_getD, List.getElem?_eq_none (Nat.le_of_not_lt hi), List.getElem?_eq_none (show Qs.length ≤ i by omega)]
theorem hasB_core {Ps Qs : List Pr} (h : Ps.map core = Qs.map core) (nm : ByteArray) : hasB Ps nm = hasB Qs nm := by
  induction Ps generalizing Qs with
  | nil => cases Qs with
    | nil => rfl
    | cons _ _ => simp at h
  | cons x Ps ih => cases Qs with
    | nil => simp at h
    | cons y Qs =>
      simp only [List.map_cons, List.cons.injEq, core, Prod.mk.injEq] at h
      have := ih h.2
      simp only [hasB, List.any_cons] at this ⊢
      rw [this, h.1.1]
theorem check_core {Ps Qs : List Pr} (h : Ps.map core = Qs.map core) : checkN Ps = checkN Qs := by
  have hl : Ps.length = Qs.length := by simpa using congrArg List.length h
  have hf : chkOne Ps = chkOne Qs := by
    funext i
    have e := core_pd h i
    simp only [core, Prod.mk.injEq] at e
    have ht : (Ps.take i).map core = (Qs.take i).map core := by rw [List.map_take, List.map_take, h]
    unfold chkOne
    rw [e.1, e.2.1, e.2.2, hasB_core ht]
  unfold checkN
  rw [hl, hf]
end Go.Proofs.YtiiplikmoodfnaaGreatDoor
/-
  WHAT STANDS WHILE A LIBRARY IS READ.
-/
namespace Go.Proofs.YtiiplikmoodfnaaGreatDoor
open Go.RowKit Go.Sort

/-- the block of a procedure's code -/
def cb (x : Pr) : Option Nat := (Value.slice x.ao x.n x.cap).ownBlock
/-- a procedure whose code is the call's own -/
structure PrC (W : World) (base : Nat) (x : Pr) : Prop where
  len : x.n = x.L.length
  own : OwnK W base (.slice x.ao x.n x.cap) x.L
  nin : NIn x.p
  kin : ∀ k ∈ x.L, KIn k
  str : x.name.size ≤ 31
  big : x.n ≤ 256
theorem PrC.ok {W : World} {base : Nat} {x : Pr} (h : PrC W base x) : PrOK W x := by
  obtain ⟨ao, cap, e, hk, hn, _⟩ := h.own.slice
  simp only [Value.slice.injEq] at e
  obtain ⟨e1, _, e3⟩ := e
  exact ⟨h.len, by rw [e1]; exact hk, h.nin, h.kin, by rw [e1, e3]; exact hn, by have := h.str; omega, by have := h.big; omega⟩
theorem PrC.same {W W' : World} {base : Nat} {x : Pr} (h : PrC W base x) (hs : ∀ g, cb x = some g → W'.heap[g]? = W.heap[g]?) : PrC W' base x := ⟨h.len, h.own.same hs, h.nin, h.kin, h.str, h.big⟩
theorem PrC.lt {W : World} {base : Nat} {x : Pr} (h : PrC W base x) : ∀ g, cb x = some g → base ≤ g ∧ g < W.heap.size := h.own.lt

/-- 'string(b)' of bytes of the call's own -/
theorem string_own {W : World} {base : Nat} {v : Value} {bs : List Nat} (h : OwnB W base v bs) : (convert 168 9 v).run Tryz.prog W = .ok (.string (nmS bs)) W := by
  rcases h.shape with ⟨rfl, rfl⟩ | ⟨g, cap, rfl, _, _, _, _, hb⟩
  · rw [run_convert_bytes_string W 168 9 5 none 0 0 Tryz.underlying168 Tryz.underlying5 Tryz.underlying9]
    rfl
  · have e : bs.length = (bs.map UInt8.ofNat).length := by simp
    rw [e]
    refine run_convert_bytes_back (P := Tryz.prog) W 168 9 5 ⟨g, 0, none⟩ cap (bs.map UInt8.ofNat) Tryz.underlying168 Tryz.underlying5 Tryz.underlying9 fun j hj => ?_
    have hj' : j < bs.length := by simpa using hj
    rw [addr_add, Nat.zero_add]
    obtain ⟨hz, h1 | ⟨b', o', e', hc⟩⟩ := hb
    · rw [h1] at hj'; simp at hj'
    · cases e'
      have := hc j hj'
      rw [Nat.zero_add] at this
      rw [this]
      have e2 : bs.getD j 0 = bs[j] := by simp [List.getD_eq_getElem?_getD, List.getElem?_eq_getElem hj']
      rw [e2, List.getElem_map, u8_back _ (hz _ (List.getElem_mem hj'))]

end Go.Proofs.YtiiplikmoodfnaaGreatDoor
/-
  THE WALK OF List.
-/
namespace Go.Proofs.YtiiplikmoodfnaaGreatDoor
open Go.RowKit Go.Sort Go.Shelf

/-- lines, each ended by a line feed -/
def joinL (M : List (List UInt8)) : List UInt8 := M.flatMap fun l => l ++ [10]
theorem joinL_snoc (M : List (List UInt8)) (l : List UInt8) : joinL (M ++ [l]) = joinL M ++ (l ++ [10]) := by simp [joinL]
theorem joinL_append (M N : List (List UInt8)) : joinL (M ++ N) = joinL M ++ joinL N := by simp [joinL]
theorem joinL_len (M : List (List UInt8)) (h : ∀ l ∈ M, l.length ≤ 150) : (joinL M).length ≤ 151 * M.length := by
  induction M with
  | nil => simp [joinL]
  | cons l M ih =>
    have h1 := ih (fun x hx => h x (by simp [hx]))
    have h2 := h l (by simp)
    simp only [joinL, List.flatMap_cons, List.length_append, List.length_cons, List.length_nil] at h1 ⊢
    omega
def nmL' (x : Pr) : List UInt8 := x.name.data.toList
def linesX (x : Pr) : List (List UInt8) := linesP (nmL' x) x.p x.L
def textX (x : Pr) : List UInt8 := joinL (linesX x)
def listT : List Pr → List UInt8
  | [] => []
  | x :: Ps => textX x ++ listT Ps
theorem listT_append (A B : List Pr) : listT (A ++ B) = listT A ++ listT B := by
  induction A with
  | nil => rfl
  | cons k A ih => simp [listT, ih]
theorem listT_take (Ps : List Pr) (k : Nat) (h : k < Ps.length) : listT (Ps.take (k + 1)) = listT (Ps.take k) ++ textX (pd Ps k) := by
  rw [pd_take Ps k h, listT_append]; simp [listT]
/-- a procedure that is sound -/
structure Snd (x : Pr) : Prop where
  nm : x.name.size ≤ 31
  nin : NIn x.p
  kin : ∀ k ∈ x.L, KIn k
  big : x.L.length ≤ 256
  jmp : ∀ k ∈ x.L, jumpB k.1 = true → 0 ≤ k.2 ∧ k.2 ≤ (x.L.length : Int)
theorem Snd.of {W : World} {ao : Option Addr} {Ps : List Pr} (h : (checkN Ps).2 = 0) (hl : LibAt W ao Ps) : ∀ x ∈ Ps, Snd x := by
  intro x hx
  have h31 := check_small h x hx
  have hok := hl.ok x hx
  obtain ⟨i, hi, rfl⟩ := List.mem_iff_getElem.1 hx
  have e : pd Ps i = Ps[i] := by simp [pd, List.getD_eq_getElem?_getD, List.getElem?_eq_getElem hi]
  have hv := (chk_zero ((check_name h).2 i hi)).2.2
  rw [e] at hv
  obtain ⟨h1, h2, _⟩ := verify_ok hv
  refine ⟨h31, hok.nin, hok.kin, ((limB_iff _ _).1 h1).2.2.2.2, fun k hk hj => ?_⟩
  obtain ⟨j, hj', rfl⟩ := List.mem_iff_getElem.1 hk
  have h3 := firstE_zero h2 j hj'
  have e2 : cd Ps[i].L j = Ps[i].L[j] := by simp [cd, List.getD_eq_getElem?_getD, List.getElem?_eq_getElem hj']
  simp only [lookN, e2] at h3
  split at h3
  · cases h3
  · split at h3
    · cases h3
    · rename_i hn
      have hn' : ¬ (Ps[i].L[j].2 ≤ (j : Int) ∨ (Ps[i].L.length : Int) < Ps[i].L[j].2) := fun hh => hn ⟨hj, hh⟩
      omega
theorem bodyL_len {L : List K} (hk : ∀ k ∈ L, KIn k) (hb : L.length ≤ 256) : ∀ k, k ≤ L.length → ∀ l ∈ bodyL L k, l.length ≤ 150
  | 0, _, l, hl => by simp [bodyL] at hl
  | k + 1, hkl, l, hl => by
    have ih := bodyL_len hk hb k (by omega)
    simp only [bodyL, List.mem_append] at hl
    rcases hl with (hl | hl) | hl
    · exact ih l hl
    · split at hl
      · simp at hl; subst hl
        have := labelL_len (n := (k : Int)) (by unfold In64; omega)
        simp; omega
      · cases hl
    · simp at hl; subst hl
      have : (instrL (cd L k)).length ≤ 40 := instrL_len (hk _ (kd_mem (L := L) (j := k) (by omega)))
      simp; omega
theorem linesX_len {x : Pr} (h : Snd x) : (∀ l ∈ linesX x, l.length ≤ 150) ∧ (linesX x).length ≤ 515 := by
  have hb := h.big
  have hn : (nmL' x).length ≤ 31 := by unfold nmL'; simpa using h.nm
  have h1 := bodyL_length x.L x.L.length
  constructor
  · intro l hl
    simp only [linesX, linesP, List.mem_append] at hl
    rcases hl with ((hl | hl) | hl) | hl
    · simp at hl; subst hl
      have := flL_len h.nin hn 4
      omega
    · exact bodyL_len h.kin hb _ (Nat.le_refl _) l hl
    · split at hl
      · simp at hl; subst hl
        have := labelL_len (n := (x.L.length : Int)) (by unfold In64; omega)
        simp; omega
      · cases hl
    · simp at hl; subst hl; simp [endlL]
  · simp only [linesX, linesP, List.length_append, List.length_cons, List.length_nil]
    split <;> simp <;> omega
theorem textX_len {x : Pr} (h : Snd x) : (textX x).length ≤ 80000 := by
  have h1 := joinL_len _ (linesX_len h).1
  have h2 := (linesX_len h).2
  unfold textX; omega
theorem listT_len : ∀ Ps : List Pr, (∀ x ∈ Ps, Snd x) → (listT Ps).length ≤ 80000 * Ps.length
  | [], _ => by simp [listT]
  | x :: Ps, h => by
    have h1 := textX_len (h x (by simp))
    have h2 := listT_len Ps (fun y hy => h y (by simp [hy]))
    simp only [listT, List.length_append, List.length_cons]; omega
/-- what List answers -/
def outT (Ps : List Pr) : List UInt8 := if (checkN Ps).2 = 0 ∧ (listT Ps).length ≤ 65536 then listT Ps else []
def outE (Ps : List Pr) : Int := if (checkN Ps).2 ≠ 0 then (checkN Ps).2 else if (listT Ps).length ≤ 65536 then 0 else 44
/-- signs as numbers -/
def nb (l : List UInt8) : List Nat := l.map (·.toNat)
theorem nb_append (a b : List UInt8) : nb (a ++ b) = nb a ++ nb b := by simp [nb]
theorem nb_S (l : List UInt8) : nmB (S l) = nb l := by simp [nmB, S, nb]
theorem nmS_nb (l : List UInt8) : nmS (nb l) = S l := by
  simp only [nmS, nb, S, List.map_map]
  congr 2
  conv => rhs; rw [← List.map_id l]
  exact List.map_congr_left fun z _ => by simp
theorem nb_len (l : List UInt8) : (nb l).length = l.length := by simp [nb]

/-- bytes and texts never share a block -/
theorem bs_apart {W : World} {B B' : Nat} {v u : Value} {M : List Nat} {xs : List Value} (h : OwnB W B v M) (k : OwnS W B' u xs) : ∀ q, u.ownBlock = some q → v.ownBlock ≠ some q := by
  intro q hq e
  obtain ⟨_, _, h⟩ := h
  obtain ⟨_, k⟩ := k
  rcases h with ⟨rfl, _⟩ | ⟨g, cp, cur, rfl, _, hg, _⟩
  · cases e
  · rcases k with ⟨rfl, _⟩ | ⟨g', cp', cur', rfl, _, hg', _⟩
    · cases hq
    · cases e; cases hq
      rw [hg] at hg'
      injection hg' with e1
      injection e1 with _ e2
      revert e2
      decide
theorem joinL_take (M : List (List UInt8)) (j : Nat) (h : j < M.length) : joinL (M.take (j + 1)) = joinL (M.take j) ++ (M.getD j [] ++ [10]) := by
  rw [List.take_succ_eq_append_getElem h, joinL_snoc]
  simp [List.getD_eq_getElem?_getD, List.getElem?_eq_getElem h]
end Go.Proofs.YtiiplikmoodfnaaGreatDoor
/-
  works: the example is assembled, and listed as it stands.
-/
namespace Go.Proofs.YtiiplikmoodfnaaGreatDoor
open Go.RowKit Go.Sort

theorem ex_out (a1 a2 : Option Addr) (n1 c1 n2 c2 : Nat) : outT (exPs a1 a2 n1 c1 n2 c2) = exL ∧ outE (exPs a1 a2 n1 c1 n2 c2) = 0 := by
  have h1 : listT (exPs a1 a2 n1 c1 n2 c2) = exL := by kernel_rfl
  unfold outT outE
  rw [h1, ex_check, ex_size]
  exact ⟨by simp, by simp⟩
theorem ex_sz : AsSz exA 22 := ⟨by omega, by decide, by decide, by decide, by decide, rfl, by decide, by decide, by simp [exA], by simp [exA], by simp [exA]⟩
/-- what Assemble makes of the example -/
def ExPost (w : World) (e : Ending) (w' : World) : Prop := ∃ g cap cg cc a2 n1 n2 c2, e = .returned (.tuple #[.slice (some ⟨g, 0, none⟩) 2 cap, .nilIface]) ∧ w'.cell? ⟨g, 0, none⟩ = some (.string (S [109, 111, 118, 101])) ∧ w'.cell? ⟨g, 5, none⟩ = some (.slice (some ⟨cg, 0, none⟩) 14 cc) ∧ w'.cell? ⟨cg, 7, none⟩ = some (.int .i64 6) ∧ LibAt w' (some ⟨g, 0, none⟩) (exPs (some ⟨cg, 0, none⟩) a2 n1 cc n2 c2) ∧ 2 ≤ cap ∧ Go.RowKit.Below w.heap.size w w'
theorem ex_post {w w' : World} {e : Ending} (h : AsmPost w exL e w') : ExPost w e w' := by
  rcases h with ⟨v, E, _, h2, _⟩ | ⟨M, B, line, a, Ps, vl, vn, vm, vj, W3, h1, h2, h3, h4, h5⟩
  · rw [ex_lines] at h2; cases h2
  · rw [ex_lines] at h1
    simp only [Except.ok.injEq] at h1
    subst h1
    obtain ⟨a1, a2, n1, c1, n2, c2, rfl⟩ := ex_ps h2.eq
    rcases h5 with ⟨v, _, h6, _⟩ | ⟨v, _, _, h6, _⟩ | ⟨h6, _, _, h7⟩
    · cases h6
    · rw [ex_check] at h6; exact absurd rfl h6
    · have hA := h2.below h7
      obtain ⟨g, cap, e1, hcap⟩ := own_some hA.lib (by show 0 < 2; omega)
      have e1' : vl = .slice (some ⟨g, 0, none⟩) 2 cap := e1
      subst e1'
      have hx := hA.code ⟨S [109, 111, 118, 101], ⟨1, 2, 2, 0⟩, a1, n1, c1, exC1⟩ (by simp [exPs])
      have hn1 : n1 = 14 := hx.1
      subst hn1
      obtain ⟨cg, cc, e2, _⟩ := own_some hx.2 (by show 0 < 14; omega)
      unfold cdV at e2
      simp only [Value.slice.injEq, true_and] at e2
      obtain ⟨rfl, rfl⟩ := e2
      have hlr : w'.ownsRow M 72 6 (.slice (some ⟨g, 0, none⟩) 2 cap) 2 (prcs (exPs (some ⟨cg, 0, none⟩) a2 14 c1 n2 c2)) := hA.lib
      have hcr : w'.ownsRow M 76 2 (.slice (some ⟨cg, 0, none⟩) 14 c1) 14 (cks exC1) := hx.2
      refine ⟨g, cap, cg, c1, a2, 14, n2, c2, h6, ?_, ?_, ?_, hA.libAt ex_sz, hcap, h4⟩
      · rw [World.ownsRow.cellAt hlr 0 (by omega)]; rfl
      · rw [World.ownsRow.cellAt hlr 5 (by omega)]; rfl
      · rw [World.ownsRow.cellAt hcr 7 (by omega)]; rfl
theorem nw_kw {w : World} (h : NwAt w) : KwAt w := fun i hi => by
  obtain rfl | rfl | rfl | rfl : i = 0 ∨ i = 1 ∨ i = 2 ∨ i = 3 := by omega
  · exact h 0 (by omega)
  · exact h 1 (by omega)
  · exact h 2 (by omega)
  · exact h 3 (by omega)
end Go.Proofs.YtiiplikmoodfnaaGreatDoor
