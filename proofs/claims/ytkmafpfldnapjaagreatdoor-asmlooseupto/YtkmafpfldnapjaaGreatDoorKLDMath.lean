import Derived.Test.YtkmafpfldnapjaaGreatDoorKLEnc
import Derived.Test.YtkmafpfldnapjaaGreatDoorKALProc
import Derived.Test.YtkmafpfldnapjaaGreatDoorKLGet2
import Derived.Test.YtkmafpfldnapjaaGreatDoorKLOwnP
/-
  A LIBRARY READ: what Decode reads; and that it is what Encode writes.
-/
namespace Go.Proofs.YtkmafpfldnapjaaGreatDoor
open Go.RowKit Go.Sort

/-- bytes as a text -/
def nmS (bs : List Nat) : ByteArray := ⟨(bs.map UInt8.ofNat).toArray⟩
theorem nmS_size (bs : List Nat) : (nmS bs).size = bs.length := by
  show ((bs.map UInt8.ofNat).toArray).size = bs.length
  simp
theorem u8_back : ∀ z : Nat, z < 256 → (UInt8.ofNat z).toNat = z := by decide +kernel
theorem nmB_nmS {bs : List Nat} (h : ∀ z ∈ bs, z < 256) : nmB (nmS bs) = bs := by
  show ((bs.map UInt8.ofNat).toArray.toList).map (·.toNat) = bs
  rw [List.toList_toArray, List.map_map]
  conv => rhs; rw [← List.map_id bs]
  exact List.map_congr_left fun z hz => u8_back z (h z hz)
theorem nmS_nmB (s : ByteArray) : nmS (nmB s) = s := by
  obtain ⟨⟨l⟩⟩ := s
  show (⟨((l.map (·.toNat)).map UInt8.ofNat).toArray⟩ : ByteArray) = ⟨⟨l⟩⟩
  rw [List.map_map]
  have e : l.map (UInt8.ofNat ∘ (·.toNat)) = l := by
    conv => rhs; rw [← List.map_id l]
    exact List.map_congr_left fun z _ => by simp
  rw [e]

/-- a procedure that was read -/
abbrev Rp := ByteArray × Nums × List K
def core (x : Pr) : Rp := (x.name, x.p, x.L)
/-- k procedures one behind the other -/
def decL (b : List Nat) (p : Nat) (e : Int) : Nat → List Rp × Nat × Int
  | 0 => ([], p, e)
  | k + 1 => ((decL b p e k).1 ++ [(nmS (rdBytes b (decL b p e k).2.1 (decL b p e k).2.2 31).1, (getP b (rdBytes b (decL b p e k).2.1 (decL b p e k).2.2 31).2.1 (rdBytes b (decL b p e k).2.1 (decL b p e k).2.2 31).2.2).1, (getP b (rdBytes b (decL b p e k).2.1 (decL b p e k).2.2 31).2.1 (rdBytes b (decL b p e k).2.1 (decL b p e k).2.2 31).2.2).2.1)],
      (getP b (rdBytes b (decL b p e k).2.1 (decL b p e k).2.2 31).2.1 (rdBytes b (decL b p e k).2.1 (decL b p e k).2.2 31).2.2).2.2)
theorem decL_length (b : List Nat) (p : Nat) (e : Int) : ∀ k, (decL b p e k).1.length = k
  | 0 => rfl
  | k + 1 => by simp [decL, decL_length b p e k]
/-- the error behind the head -/
def hdE (b : List Nat) : Int := if (rdRaw b 0 0 4).1 = [80, 82, 76, 49] then (rdRaw b 0 0 4).2.2 else failE (rdRaw b 0 0 4).2.2 11
def decU (b : List Nat) : Nat × Nat × Int := rdUpto b (rdRaw b 0 0 4).2.1 (hdE b) 64
def decA (b : List Nat) : List Rp × Nat × Int := decL b (decU b).2.1 (decU b).2.2 (decU b).1
def decE (b : List Nat) : Int := rdEnd b (decA b).2.1 (decA b).2.2

/-- what can be written -/
structure Sd (x : Pr) : Prop where
  nm : x.name.size ≤ 31
  lim : limB x.p x.L.length = true
  ops : opsB x.L = true
  kin : ∀ k ∈ x.L, KIn k
theorem ops_of {p : Nums} {L : List K} (h : lookAll p L L.length = 0) : opsB L = true := by
  unfold opsB
  rw [List.all_eq_true]
  intro k hk
  obtain ⟨i, hi, rfl⟩ := List.mem_iff_getElem.1 hk
  have h1 := firstE_zero h i hi
  have e : cd L i = L[i] := by simp [cd, List.getD_eq_getElem?_getD, List.getElem?_eq_getElem hi]
  simp only [lookN, e] at h1
  cases ho : isOpB (L[i]).1 with
  | true => rfl
  | false => rw [ho] at h1; simp at h1
theorem Sd.of {Ps : List Pr} (h : (checkN Ps).2 = 0) (hk : ∀ x ∈ Ps, ∀ k ∈ x.L, KIn k) : ∀ x ∈ Ps, Sd x := by
  intro x hx
  have h31 := check_small h x hx
  obtain ⟨i, hi, rfl⟩ := List.mem_iff_getElem.1 hx
  have e : pd Ps i = Ps[i] := by simp [pd, List.getD_eq_getElem?_getD, List.getElem?_eq_getElem hi]
  have hv := (chk_zero ((check_name h).2 i hi)).2.2
  rw [e] at hv
  obtain ⟨h1, h2, _⟩ := verify_ok hv
  exact ⟨h31, h1, ops_of h2, hk _ hx⟩
theorem rdBytes_le (b : List Nat) (p : Nat) (bs R : List Nat) (most : Nat) (hm : bs.length ≤ most) (hn : bs.length < 18446744073709551616) (h : b.drop p = uint 10 bs.length ++ bs ++ R) : rdBytes b p 0 (most : Int) = (bs, p + (uint 10 bs.length ++ bs).length, 0) := by
  have hl := congrArg List.length h
  rw [List.length_drop, List.length_append, List.length_append] at hl
  have h2 : b.drop (p + (uint 10 bs.length).length) = bs ++ R := by
    rw [← List.drop_drop, h, List.append_assoc, List.drop_left]
  unfold rdBytes
  rw [h, List.append_assoc, scan_at bs.length hn]
  simp only [ne_eq, not_true, if_false]
  rw [if_neg (by omega), if_neg (by omega), rdRaw_at b _ bs R h2, List.length_append]
  congr 2
  omega
theorem procB_sd {x : Pr} (h : Sd x) : procB x = uint 10 (nmB x.name).length ++ nmB x.name ++ progB x.p x.L := by
  unfold procB; rw [written_ok h.lim h.ops, nmB_length]
theorem decL_at (b : List Nat) (p : Nat) (Ps : List Pr) (R : List Nat) (hs : ∀ x ∈ Ps, Sd x) (h : b.drop p = procsB Ps ++ R) : ∀ k, k ≤ Ps.length → decL b p 0 k = ((Ps.take k).map core, p + (procsB (Ps.take k)).length, 0)
  | 0, _ => by simp [decL, procsB]
  | k + 1, hk => by
    have ih := decL_at b p Ps R hs h k (by omega)
    have hlt : k < Ps.length := by omega
    have hc := procsB_take Ps k hlt
    have hx := hs _ (pd_mem hlt)
    have hsp : procsB Ps = procsB (Ps.take (k + 1)) ++ procsB (Ps.drop (k + 1)) := by rw [← procsB_append, List.take_append_drop]
    have hd : b.drop (p + (procsB (Ps.take k)).length) = uint 10 (nmB (pd Ps k).name).length ++ nmB (pd Ps k).name ++ (progB (pd Ps k).p (pd Ps k).L ++ (procsB (Ps.drop (k + 1)) ++ R)) := by
      refine drop_at (X := procsB (Ps.take k)) ?_
      rw [h, hsp, hc, procB_sd hx]; simp
    have hb := rdBytes_le b _ (nmB (pd Ps k).name) _ 31 (by rw [nmB_length]; exact hx.nm) (by rw [nmB_length]; have := hx.nm; omega) hd
    have hg := getP_at b _ (pd Ps k).p (pd Ps k).L _ hx.lim hx.ops hx.kin (drop_at hd)
    simp only [decL, ih]
    rw [show ((31 : Int)) = ((31 : Nat) : Int) from rfl, hb]
    simp only [hg, nmS_nmB]
    rw [hc, pd_take Ps k hlt, List.map_append, List.length_append, procB_sd hx]
    simp only [List.length_append, List.map_cons, List.map_nil, core, Prod.mk.injEq, true_and, and_true]
    omega
/-- A SOUND LIBRARY'S BYTES ARE READ AS IT -/
theorem dec_at {Ps : List Pr} (h64 : Ps.length ≤ 64) (hs : ∀ x ∈ Ps, Sd x) : decA (encN Ps) = (Ps.map core, (encN Ps).length, 0) ∧ decE (encN Ps) = 0 := by
  have h0 : (encN Ps).drop 0 = [80, 82, 76, 49] ++ (uint 10 Ps.length ++ procsB Ps) := by simp [encN, headL]
  have hr := rdRaw_at (encN Ps) 0 [80, 82, 76, 49] _ h0
  rw [show ((([80, 82, 76, 49] : List Nat).length : Int)) = 4 from rfl] at hr
  have he : hdE (encN Ps) = 0 := by unfold hdE; rw [hr]; rfl
  have d1 := drop_at h0
  have hu : decU (encN Ps) = (Ps.length, 0 + ([80, 82, 76, 49] : List Nat).length + (uint 10 Ps.length).length, 0) := by
    unfold decU
    rw [he, hr]
    exact rdUpto_at _ _ Ps.length 64 (procsB Ps) (by omega) h64 d1
  have d2 := drop_at d1
  have hl := decL_at (encN Ps) _ Ps [] hs (by rw [List.append_nil]; exact d2) Ps.length (Nat.le_refl _)
  rw [List.take_length] at hl
  have hlen : (encN Ps).length = 0 + ([80, 82, 76, 49] : List Nat).length + (uint 10 Ps.length).length + (procsB Ps).length := by
    simp only [encN, headL, List.length_append]; omega
  have ha : decA (encN Ps) = (Ps.map core, (encN Ps).length, 0) := by
    unfold decA; rw [hu]; simp only; rw [hl, hlen]
  refine ⟨ha, ?_⟩
  unfold decE rdEnd
  rw [ha, if_neg (by simp)]

/- BACK: what is read without an error is what is written. -/
theorem upto_ate {b : List Nat} (hz : ∀ z ∈ b, z < 256) {p : Nat} {e : Int} {most : Nat} (h : (rdUpto b p e most).2.2 = 0) : e = 0 ∧ b.drop p = uint 10 (rdUpto b p e most).1 ++ b.drop (rdUpto b p e most).2.1 ∧ (rdUpto b p e most).1 ≤ most ∧ (rdUpto b p e most).1 < 18446744073709551616 := by
  unfold rdUpto at h ⊢
  split at h
  · rename_i h1; exact absurd h h1
  · split at h
    · rename_i h1; simp only at h; omega
    · split at h
      · simp at h
      · rename_i h1 h2 h3
        rw [if_neg h1, if_neg h2, if_neg h3]
        have h3' := scan_one (b.drop p) (scan (b.drop p)).1 (scan (b.drop p)).2.1 (fun z hz' => hz z (List.mem_of_mem_drop hz')) (by rw [← Decidable.not_not.1 h2])
        refine ⟨Decidable.not_not.1 h1, ?_, by simp only; omega, h3'.1⟩
        simp only
        rw [← h3'.2.2.2, ← List.drop_drop, List.take_append_drop]
theorem byte_ate {b : List Nat} {p : Nat} {e : Int} (hp : p ≤ b.length) (h : (rdByte b p e).2.2 = 0) : e = 0 ∧ b.drop p = (rdByte b p e).1 :: b.drop (rdByte b p e).2.1 := by
  unfold rdByte at h ⊢
  split at h
  · rename_i h1; exact absurd h h1
  · split at h
    · simp at h
    · rename_i h1 h2
      rw [if_neg h1, if_neg h2]
      refine ⟨Decidable.not_not.1 h1, ?_⟩
      have hl : p < b.length := by omega
      rw [List.drop_eq_getElem_cons hl]
      simp [List.getD_eq_getElem?_getD, List.getElem?_eq_getElem hl]
theorem raw_ate {b : List Nat} {p : Nat} {e n : Int} (h : (rdRaw b p e n).2.2 = 0) : e = 0 ∧ b.drop p = (rdRaw b p e n).1 ++ b.drop (rdRaw b p e n).2.1 ∧ ((rdRaw b p e n).1.length : Int) = n := by
  unfold rdRaw at h ⊢
  split at h
  · rename_i h1; exact absurd h h1
  · split at h
    · simp at h
    · split at h
      · simp at h
      · rename_i h1 h2 h3
        rw [if_neg h1, if_neg h2, if_neg h3]
        refine ⟨Decidable.not_not.1 h1, ?_, ?_⟩
        · simp only
          rw [← List.drop_drop, List.take_append_drop]
        · simp only [List.length_take, List.length_drop]; omega
theorem bytes_ate {b : List Nat} (hz : ∀ z ∈ b, z < 256) {p : Nat} {e most : Int} (h : (rdBytes b p e most).2.2 = 0) : e = 0 ∧ b.drop p = (uint 10 (rdBytes b p e most).1.length ++ (rdBytes b p e most).1) ++ b.drop (rdBytes b p e most).2.1 ∧ ((rdBytes b p e most).1.length : Int) ≤ most := by
  unfold rdBytes at h ⊢
  split at h
  · rename_i h1; exact absurd h h1
  · split at h
    · rename_i h1; simp only at h; omega
    · split at h
      · simp at h
      · split at h
        · simp at h
        · rename_i h1 h2 h3 h4
          rw [if_neg h1, if_neg h2, if_neg h3, if_neg h4]
          have h3' := scan_one (b.drop p) (scan (b.drop p)).1 (scan (b.drop p)).2.1 (fun z hz' => hz z (List.mem_of_mem_drop hz')) (by rw [← Decidable.not_not.1 h2])
          obtain ⟨_, hr, hl⟩ := raw_ate h
          have hl' : (rdRaw b (p + (scan (b.drop p)).2.1) 0 (((scan (b.drop p)).1 : Nat) : Int)).1.length = (scan (b.drop p)).1 := by omega
          refine ⟨Decidable.not_not.1 h1, ?_, by omega⟩
          rw [hl', List.append_assoc, ← hr, ← h3'.2.2.2, ← List.drop_drop, List.take_append_drop]
theorem bytes_in {b : List Nat} (hz : ∀ z ∈ b, z < 256) (p : Nat) (e : Int) : (rdBytes b p e 31).1.length ≤ 31 ∧ ∀ z ∈ (rdBytes b p e 31).1, z < 256 := by
  by_cases h : (rdBytes b p e 31).2.2 = 0
  · obtain ⟨_, h1, h2⟩ := bytes_ate hz h
    refine ⟨by omega, fun z hz' => hz z (List.mem_of_mem_drop (i := p) ?_)⟩
    rw [h1]; simp [hz']
  · have e0 : (rdBytes b p e 31).1 = [] := by
      unfold rdBytes at h ⊢
      split
      · rfl
      · split
        · rfl
        · split
          · rfl
          · split
            · rfl
            · rename_i h1 h2 h3 h4
              rw [if_neg h1, if_neg h2, if_neg h3, if_neg h4] at h
              unfold rdRaw at h ⊢
              split
              · rfl
              · split
                · rfl
                · split
                  · rfl
                  · rename_i g1 g2 g3
                    rw [if_neg g1, if_neg g2, if_neg g3] at h
                    exact absurd rfl h
    rw [e0]; simp
theorem fold_unfold (n : Nat) : fold (unfold n) = n := by
  unfold unfold fold
  split <;> split <;> omega
theorem unfold_in {n : Nat} (h : n < 18446744073709551616) : In64 (unfold n) := by
  unfold unfold In64
  split <;> omega
theorem failE_zero {e x : Int} (hx : x ≠ 0) : failE e x ≠ 0 := by unfold failE; split <;> assumption
theorem getI_ate {b : List Nat} (hz : ∀ z ∈ b, z < 256) {p : Nat} {e : Int} (hp : p ≤ b.length) (h : (getI b p e).2.2 = 0) : e = 0 ∧ b.drop p = instrB (getI b p e).1 ++ b.drop (getI b p e).2.1 ∧ isOpB (getI b p e).1.1 = true ∧ KIn (getI b p e).1 := by
  have hlt := rdByte_lt hz p e
  have hby := fun h => byte_ate (b := b) (p := p) (e := e) hp h
  unfold getI at h ⊢
  generalize rdByte b p e = B at *
  obtain ⟨z, q, f⟩ := B
  simp only at h hlt hby ⊢
  have e2 : getE2 z f = 0 → f = 0 ∧ isOpB ((z : Int) % 64) = true ∧ z < 128 := by
    intro h2
    unfold getE2 at h2
    split at h2
    · exact absurd h2 (failE_zero (by decide))
    · rename_i hn
      refine ⟨h2, ?_, by omega⟩
      cases ho : isOpB ((z : Int) % 64) with
      | true => rfl
      | false => exact absurd (.inl ho) hn
  have e3 : isOpB ((z : Int) % 64) = true → In64 ((z : Int) % 64) := fun _ => by unfold In64; omega
  have e4 : ((z : Int) % 64).toNat = z % 64 := by omega
  unfold getT at h ⊢
  split at h
  · rename_i h64
    rw [if_pos h64]
    simp only at h ⊢
    split at h
    · exact absurd h (failE_zero (by decide))
    · rename_i hA
      obtain ⟨g0, g1, _, g3⟩ := upto_ate hz h
      obtain ⟨f0, ho, hzz⟩ := e2 g0
      obtain ⟨he, hd⟩ := hby f0
      refine ⟨he, ?_, ho, e3 ho, unfold_in g3⟩
      rw [hd, g1]
      have : instrB ((z : Int) % 64, unfold (rdUpto b q (getE2 z f) 18446744073709551615).1) = z :: uint 10 (rdUpto b q (getE2 z f) 18446744073709551615).1 := by
        unfold instrB
        simp only
        rw [if_neg hA, fold_unfold, e4]
        congr 1
        omega
      rw [this]; rfl
  · rename_i h64
    rw [if_neg h64]
    simp only at h ⊢
    obtain ⟨f0, ho, hzz⟩ := e2 h
    obtain ⟨he, hd⟩ := hby f0
    refine ⟨he, ?_, ho, e3 ho, show In64 0 by unfold In64; decide⟩
    rw [hd]
    have : instrB ((z : Int) % 64, 0) = [z] := by
      unfold instrB
      simp only
      rw [if_pos trivial, e4]
      congr 1
      omega
    rw [this]; rfl
/-- the place stays within the bytes -/
theorem upto_place {b : List Nat} (hz : ∀ z ∈ b, z < 256) {p : Nat} (e : Int) (most : Nat) (hp : p ≤ b.length) : (rdUpto b p e most).2.1 ≤ b.length := by
  unfold rdUpto
  split
  · exact hp
  · split
    · exact hp
    · split
      · exact hp
      · rename_i h1 h2 h3
        have h3' := scan_one (b.drop p) (scan (b.drop p)).1 (scan (b.drop p)).2.1 (fun z hz' => hz z (List.mem_of_mem_drop hz')) (by rw [← Decidable.not_not.1 h2])
        have := h3'.2.2.1
        rw [List.length_drop] at this
        simp only; omega
theorem byte_place {b : List Nat} {p : Nat} (e : Int) (hp : p ≤ b.length) : (rdByte b p e).2.1 ≤ b.length := by
  unfold rdByte
  split
  · exact hp
  · split
    · exact hp
    · simp only; omega
theorem getI_place {b : List Nat} (hz : ∀ z ∈ b, z < 256) {p : Nat} (e : Int) (hp : p ≤ b.length) : (getI b p e).2.1 ≤ b.length := by
  have h1 := byte_place (b := b) e hp
  unfold getI getT
  split
  · exact upto_place hz _ _ h1
  · exact h1
theorem getL_place {b : List Nat} (hz : ∀ z ∈ b, z < 256) {p : Nat} (e : Int) (hp : p ≤ b.length) : ∀ k, (getL b p e k).2.1 ≤ b.length
  | 0 => hp
  | k + 1 => getI_place hz _ (getL_place hz e hp k)
theorem getL_ate {b : List Nat} (hz : ∀ z ∈ b, z < 256) {p : Nat} {e : Int} (hp : p ≤ b.length) : ∀ k, (getL b p e k).2.2 = 0 → e = 0 ∧ b.drop p = codeB (getL b p e k).1 ++ b.drop (getL b p e k).2.1 ∧ opsB (getL b p e k).1 = true ∧ ∀ x ∈ (getL b p e k).1, KIn x
  | 0, h => ⟨h, rfl, rfl, by intro x hx; cases hx⟩
  | k + 1, h => by
    obtain ⟨h0, h1, h2, h3⟩ := getI_ate hz (getL_place hz e hp k) (show (getI b (getL b p e k).2.1 (getL b p e k).2.2).2.2 = 0 from h)
    obtain ⟨i0, i1, i2, i3⟩ := getL_ate hz hp k h0
    refine ⟨i0, ?_, ?_, ?_⟩
    · show b.drop p = codeB ((getL b p e k).1 ++ [_]) ++ _
      rw [codeB_append, i1, h1]; simp [codeB]; rfl
    · show opsB ((getL b p e k).1 ++ [_]) = true
      unfold opsB at i2 ⊢
      rw [List.all_append, i2]; simp [h2]
    · intro x hx
      rcases List.mem_append.1 (show x ∈ (getL b p e k).1 ++ [_] from hx) with hx | hx
      · exact i3 x hx
      · simp at hx; rw [hx]; exact h3
theorem getP_ate {b : List Nat} (hz : ∀ z ∈ b, z < 256) {p : Nat} {e : Int} (hp : p ≤ b.length) (h : (getP b p e).2.2.2 = 0) : e = 0 ∧ b.drop p = progB (getP b p e).1 (getP b p e).2.1 ++ b.drop (getP b p e).2.2.1 ∧ limB (getP b p e).1 (getP b p e).2.1.length = true ∧ opsB (getP b p e).2.1 = true ∧ (∀ x ∈ (getP b p e).2.1, KIn x) := by
  have hl : (getL b (getH b p e).2.2.1 (getH b p e).2.2.2 (getH b p e).2.1).2.2 = 0 := by
    unfold getP at h
    simp only at h
    split at h
    · assumption
    · exact h
  have e1 : getP b p e = ((getH b p e).1, (getL b (getH b p e).2.2.1 (getH b p e).2.2.2 (getH b p e).2.1).1, (getL b (getH b p e).2.2.1 (getH b p e).2.2.2 (getH b p e).2.1).2.1, (getL b (getH b p e).2.2.1 (getH b p e).2.2.2 (getH b p e).2.1).2.2) := by
    unfold getP; simp only; rw [if_pos hl]
  have hn := getL_length b (getH b p e).2.2.1 (getH b p e).2.2.2 (getH b p e).2.1
  rw [e1]
  simp only
  have p0 := upto_place hz e 16 hp
  have p1 := upto_place hz (rdUpto b p e 16).2.2 16 p0
  have p2 := upto_place hz (rdUpto b (rdUpto b p e 16).2.1 (rdUpto b p e 16).2.2 16).2.2 16 p1
  simp only [getH] at hl hn ⊢
  generalize hx0 : rdUpto b p e 16 = x0 at *
  generalize hx1 : rdUpto b x0.2.1 x0.2.2 16 = x1 at *
  generalize hx2 : rdUpto b x1.2.1 x1.2.2 16 = x2 at *
  have p3 := upto_place hz x2.2.2 16 p2
  generalize hx3 : rdUpto b x2.2.1 x2.2.2 16 = x3 at *
  have p4 := upto_place hz x3.2.2 256 p3
  generalize hx4 : rdUpto b x3.2.1 x3.2.2 256 = x4 at *
  obtain ⟨i0, i1, i2, i3⟩ := getL_ate hz p4 x4.1 hl
  obtain ⟨a4, b4, c4, _⟩ := upto_ate (most := 256) hz (by rw [hx4]; exact i0)
  obtain ⟨a3, b3, c3, _⟩ := upto_ate (most := 16) hz (by rw [hx3]; exact a4)
  obtain ⟨a2, b2, c2, _⟩ := upto_ate (most := 16) hz (by rw [hx2]; exact a3)
  obtain ⟨a1, b1, c1, _⟩ := upto_ate (most := 16) hz (by rw [hx1]; exact a2)
  obtain ⟨a0, b0, c0, _⟩ := upto_ate (most := 16) hz (by rw [hx0]; exact a1)
  rw [hx4] at b4 c4
  rw [hx3] at b3 c3
  rw [hx2] at b2 c2
  rw [hx1] at b1 c1
  rw [hx0] at b0 c0
  refine ⟨a0, ?_, ?_, i2, i3⟩
  · have hH : headB ⟨(x0.1 : Int), (x1.1 : Int), (x2.1 : Int), (x3.1 : Int)⟩ (getL b x4.2.1 x4.2.2 x4.1).1.length 5 = uint 10 x0.1 ++ (uint 10 x1.1 ++ (uint 10 x2.1 ++ (uint 10 x3.1 ++ (uint 10 x4.1 ++ [])))) := by rw [hn]; rfl
    unfold progB
    rw [hH, b0, b1, b2, b3, b4, i1]
    simp
  · rw [limB_iff, hn]; simp only; omega
theorem getP_in {b : List Nat} (hz : ∀ z ∈ b, z < 256) {p : Nat} (e : Int) (hp : p ≤ b.length) : NIn (getP b p e).1 ∧ (∀ x ∈ (getP b p e).2.1, KIn x) ∧ (getP b p e).2.1.length ≤ 256 := by
  by_cases h : (getP b p e).2.2.2 = 0
  · obtain ⟨_, _, h1, _, h2⟩ := getP_ate hz hp h
    obtain ⟨⟨a0, a1⟩, ⟨r0, r1⟩, ⟨w0, w1⟩, ⟨l0, l1⟩, hn⟩ := (limB_iff _ _).1 h1
    refine ⟨?_, h2, hn⟩
    unfold NIn In64; omega
  · have e1 : (getP b p e).1 = ⟨0, 0, 0, 0⟩ ∧ (getP b p e).2.1 = [] := by
      unfold getP at h ⊢
      simp only at h ⊢
      split
      · rename_i h1
        rw [if_pos h1] at h
        exact absurd h1 h
      · exact ⟨rfl, rfl⟩
    rw [e1.1, e1.2]
    refine ⟨by unfold NIn In64; decide, (fun x hx => by simp at hx), by simp⟩
theorem raw_place {b : List Nat} {p : Nat} (e n : Int) (hp : p ≤ b.length) : (rdRaw b p e n).2.1 ≤ b.length := by
  unfold rdRaw
  split
  · exact hp
  · split
    · exact hp
    · split
      · exact hp
      · simp only; omega
theorem bytes_place {b : List Nat} (hz : ∀ z ∈ b, z < 256) {p : Nat} (e most : Int) (hp : p ≤ b.length) : (rdBytes b p e most).2.1 ≤ b.length := by
  unfold rdBytes
  split
  · exact hp
  · split
    · exact hp
    · split
      · exact hp
      · split
        · exact hp
        · rename_i h1 h2 h3 h4
          have h3' := scan_one (b.drop p) (scan (b.drop p)).1 (scan (b.drop p)).2.1 (fun z hz' => hz z (List.mem_of_mem_drop hz')) (by rw [← Decidable.not_not.1 h2])
          have := h3'.2.2.1
          rw [List.length_drop] at this
          exact raw_place _ _ (by omega)
theorem getP_place {b : List Nat} (hz : ∀ z ∈ b, z < 256) {p : Nat} (e : Int) (hp : p ≤ b.length) : (getP b p e).2.2.1 ≤ b.length := by
  have e1 : (getP b p e).2.2.1 = (getL b (getH b p e).2.2.1 (getH b p e).2.2.2 (getH b p e).2.1).2.1 := by
    unfold getP; simp only; split <;> rfl
  rw [e1]
  refine getL_place hz _ ?_ _
  simp only [getH]
  exact upto_place hz _ _ (upto_place hz _ _ (upto_place hz _ _ (upto_place hz _ _ (upto_place hz _ _ hp))))
theorem decL_place {b : List Nat} (hz : ∀ z ∈ b, z < 256) {p : Nat} (e : Int) (hp : p ≤ b.length) : ∀ k, (decL b p e k).2.1 ≤ b.length
  | 0 => hp
  | k + 1 => getP_place hz _ (bytes_place hz _ _ (decL_place hz e hp k))
/-- the bytes of what was read -/
def rpB (x : Rp) : List Nat := uint 10 x.1.size ++ nmB x.1 ++ progB x.2.1 x.2.2
def rpsB : List Rp → List Nat
  | [] => []
  | x :: r => rpB x ++ rpsB r
theorem rpsB_append (A B : List Rp) : rpsB (A ++ B) = rpsB A ++ rpsB B := by
  induction A with
  | nil => rfl
  | cons k A ih => simp [rpsB, ih]
theorem rpsB_core {Ps : List Pr} (hs : ∀ x ∈ Ps, Sd x) : rpsB (Ps.map core) = procsB Ps := by
  induction Ps with
  | nil => rfl
  | cons x Ps ih =>
    show rpB (core x) ++ rpsB (Ps.map core) = procB x ++ procsB Ps
    rw [ih (fun y hy => hs y (by simp [hy])), procB_sd (hs x (by simp)), nmB_length]; rfl
theorem decL_ate {b : List Nat} (hz : ∀ z ∈ b, z < 256) {p : Nat} {e : Int} (hp : p ≤ b.length) : ∀ k, (decL b p e k).2.2 = 0 → e = 0 ∧ b.drop p = rpsB (decL b p e k).1 ++ b.drop (decL b p e k).2.1
  | 0, h => ⟨h, rfl⟩
  | k + 1, h => by
    have hpk := decL_place hz e hp k
    have hpb := bytes_place hz (decL b p e k).2.2 31 hpk
    obtain ⟨h0, h1, _⟩ := getP_ate hz hpb h
    obtain ⟨g0, g1, _⟩ := bytes_ate hz h0
    obtain ⟨_, hb⟩ := bytes_in hz (decL b p e k).2.1 (decL b p e k).2.2
    obtain ⟨i0, i1⟩ := decL_ate hz hp k g0
    refine ⟨i0, ?_⟩
    simp only [decL]
    rw [rpsB_append, i1, g1, h1]
    simp [rpsB, rpB, nmB_nmS hb, nmS_size]
/-- BYTES THAT ARE READ TO THE END ARE THE LIBRARY'S -/
theorem dec_back {b : List Nat} (hz : ∀ z ∈ b, z < 256) (h : decE b = 0) {Ps : List Pr} (hc : Ps.map core = (decA b).1) (hs : ∀ x ∈ Ps, Sd x) : encN Ps = b := by
  have hr : (decA b).2.2 = 0 ∧ b.length ≤ (decA b).2.1 := by
    unfold decE rdEnd at h
    split at h
    · cases h
    · rename_i hn; exact ⟨h, by omega⟩
  have hpr : (rdRaw b 0 0 4).2.1 ≤ b.length := raw_place _ _ (Nat.zero_le _)
  obtain ⟨h0, h1⟩ := decL_ate hz (upto_place hz (hdE b) 64 hpr) (decU b).1 hr.1
  have hU : (decU b).2.2 = 0 := h0
  obtain ⟨u0, u1, _⟩ := upto_ate hz hU
  have hH : (rdRaw b 0 0 4).1 = [80, 82, 76, 49] ∧ (rdRaw b 0 0 4).2.2 = 0 := by
    unfold hdE at u0
    split at u0
    · exact ⟨by assumption, u0⟩
    · exact absurd u0 (failE_zero (by decide))
  obtain ⟨_, r1, _⟩ := raw_ate hH.2
  have hlen : (decU b).1 = Ps.length := by
    have := decL_length b (decU b).2.1 (decU b).2.2 (decU b).1
    have e : (decA b).1.length = (decU b).1 := this
    rw [← hc] at e
    simpa using e.symm
  have hdr : b.drop (decA b).2.1 = [] := List.drop_of_length_le hr.2
  rw [List.drop_zero, hH.1] at r1
  unfold encN headL
  rw [r1, u1, show b.drop (rdUpto b (rdRaw b 0 0 4).2.1 (hdE b) 64).2.1 = rpsB (decA b).1 ++ b.drop (decA b).2.1 from h1, hdr, ← hc, rpsB_core hs, ← hlen]
  simp [decU]
/-- Check hangs on what was read alone -/
theorem core_pd {Ps Qs : List Pr} (h : Ps.map core = Qs.map core) (i : Nat) : core (pd Ps i) = core (pd Qs i) := by
  have e : (Ps.map core)[i]? = (Qs.map core)[i]? := by rw [h]
  have hl : Ps.length = Qs.length := by simpa using congrArg List.length h
  by_cases hi : i < Ps.length
  · have hi' : i < Qs.length := by omega
    simp only [List.getElem?_map, List.getElem?_eq_getElem hi, List.getElem?_eq_getElem hi', Option.map_some, Option.some.injEq] at e
    simpa [pd, List.getD_eq_getElem?_getD, List.getElem?_eq_getElem hi, List.getElem?_eq_getElem hi'] using e
  · simp [pd, List.getD_eq_getElem?_getD, List.getElem?_eq_none (Nat.le_of_not_lt hi), List.getElem?_eq_none (show Qs.length ≤ i by omega)]
theorem hasB_core {Ps Qs : List Pr} (h : Ps.map core = Qs.map core) (nm : ByteArray) : hasB Ps nm = hasB Qs nm := by
  induction Ps generalizing Qs with
  | nil => cases Qs with
    | nil => rfl
    | cons _ _ => simp at h
  | cons x Ps ih => cases Qs with
    | nil => simp at h
    | cons y Qs =>
      simp only [List.map_cons, List.cons.injEq, core, Prod.mk.injEq] at h
      have := ih h.2
      simp only [hasB, List.any_cons] at this ⊢
      rw [this, h.1.1]
theorem check_core {Ps Qs : List Pr} (h : Ps.map core = Qs.map core) : checkN Ps = checkN Qs := by
  have hl : Ps.length = Qs.length := by simpa using congrArg List.length h
  have hf : chkOne Ps = chkOne Qs := by
    funext i
    have e := core_pd h i
    simp only [core, Prod.mk.injEq] at e
    have ht : (Ps.take i).map core = (Qs.take i).map core := by rw [List.map_take, List.map_take, h]
    unfold chkOne
    rw [e.1, e.2.1, e.2.2, hasB_core ht]
  unfold checkN
  rw [hl, hf]
end Go.Proofs.YtkmafpfldnapjaaGreatDoor
/-
  WHAT STANDS WHILE A LIBRARY IS READ.
-/
namespace Go.Proofs.YtkmafpfldnapjaaGreatDoor
open Go.RowKit Go.Sort

/-- the block of a procedure's code -/
def cb (x : Pr) : Option Nat := (Value.slice x.ao x.n x.cap).ownBlock
/-- a procedure whose code is the call's own -/
structure PrC (W : World) (base : Nat) (x : Pr) : Prop where
  len : x.n = x.L.length
  own : OwnK W base (.slice x.ao x.n x.cap) x.L
  nin : NIn x.p
  kin : ∀ k ∈ x.L, KIn k
  str : x.name.size ≤ 31
  big : x.n ≤ 256
theorem PrC.ok {W : World} {base : Nat} {x : Pr} (h : PrC W base x) : PrOK W x := by
  obtain ⟨ao, cap, e, hk, hn, _⟩ := h.own.slice
  simp only [Value.slice.injEq] at e
  obtain ⟨e1, _, e3⟩ := e
  exact ⟨h.len, by rw [e1]; exact hk, h.nin, h.kin, by rw [e1, e3]; exact hn, by have := h.str; omega, by have := h.big; omega⟩
theorem PrC.same {W W' : World} {base : Nat} {x : Pr} (h : PrC W base x) (hs : ∀ g, cb x = some g → W'.heap[g]? = W.heap[g]?) : PrC W' base x := ⟨h.len, h.own.same hs, h.nin, h.kin, h.str, h.big⟩
theorem PrC.lt {W : World} {base : Nat} {x : Pr} (h : PrC W base x) : ∀ g, cb x = some g → base ≤ g ∧ g < W.heap.size := h.own.lt

/-- 'string(b)' of bytes of the call's own -/
theorem string_own {W : World} {base : Nat} {v : Value} {bs : List Nat} (h : OwnB W base v bs) : (convert 46 9 v).run Tryz.prog W = .ok (.string (nmS bs)) W := by
  rcases h.shape with ⟨rfl, rfl⟩ | ⟨g, cap, rfl, _, _, _, _, hb⟩
  · rw [run_convert_bytes_string W 46 9 5 none 0 0 Tryz.underlying46 Tryz.underlying5 Tryz.underlying9]
    rfl
  · have e : bs.length = (bs.map UInt8.ofNat).length := by simp
    rw [e]
    refine run_convert_bytes_back (P := Tryz.prog) W 46 9 5 ⟨g, 0, none⟩ cap (bs.map UInt8.ofNat) Tryz.underlying46 Tryz.underlying5 Tryz.underlying9 fun j hj => ?_
    have hj' : j < bs.length := by simpa using hj
    rw [addr_add, Nat.zero_add]
    obtain ⟨hz, h1 | ⟨b', o', e', hc⟩⟩ := hb
    · rw [h1] at hj'; simp at hj'
    · cases e'
      have := hc j hj'
      rw [Nat.zero_add] at this
      rw [this]
      have e2 : bs.getD j 0 = bs[j] := by simp [List.getD_eq_getElem?_getD, List.getElem?_eq_getElem hj']
      rw [e2, List.getElem_map, u8_back _ (hz _ (List.getElem_mem hj'))]

/-- the Reader of a library's bytes, and what was read of it -/
structure DT (w W : World) (b : List Nat) (p : Nat) (e : Int) (v : Value) (Ps : List Pr) : Prop where
  rd : IsReader W (w.heap.size + 1) (some ⟨w.heap.size, 0, none⟩) b.length b p e
  bel : Below w.heap.size w W
  own : OwnP W (w.heap.size + 2) v Ps
  ok : ∀ x ∈ Ps, PrC W (w.heap.size + 2) x
  ap : ∀ x ∈ Ps, ∀ g, cb x = some g → v.ownBlock ≠ some g
  pw : Ps.Pairwise fun x y => ∀ g, cb x = some g → cb y ≠ some g
theorem DT.step {w W W' : World} {b : List Nat} {p p2 : Nat} {e e2 : Int} {v : Value} {Ps : List Pr} (h : DT w W b p e v Ps) (hr : Reads W (w.heap.size + 1) (some ⟨w.heap.size, 0, none⟩) b.length b p2 e2 W') : DT w W' b p2 e2 v Ps := by
  have hne : ∀ g, w.heap.size + 2 ≤ g → some g ≠ some (w.heap.size + 1) := fun g hg e => by cases e; omega
  refine ⟨hr.1, ?_, h.own.same fun g hg => hr.2.block g (h.own.lt g hg).2 (hne g (h.own.lt g hg).1), fun x hx => (h.ok x hx).same fun g hg => hr.2.block g ((h.ok x hx).lt g hg).2 (hne g ((h.ok x hx).lt g hg).1), h.ap, h.pw⟩
  exact ⟨hr.2.os.trans h.bel.os, hr.2.tape.trans h.bel.tape, hr.2.output.trans h.bel.output, Nat.le_trans h.bel.size hr.2.size, fun k hk => by
    rw [hr.2.block k (Nat.lt_of_lt_of_le hk h.bel.size) (fun e => by cases e; omega)]; exact h.bel.block k hk⟩
theorem DT.kept {w W W' : World} {b : List Nat} {p : Nat} {e : Int} {v : Value} {Ps : List Pr} (h : DT w W b p e v Ps) (hb : Below W.heap.size W W') : DT w W' b p e v Ps :=
  ⟨h.rd.kept hb, h.bel.trans (hb.mono h.bel.size), h.own.kept hb, fun x hx => (h.ok x hx).same fun g hg => hb.block g ((h.ok x hx).lt g hg).2, h.ap, h.pw⟩
/-- what lies lies below -/
theorem DT.under {w W : World} {b : List Nat} {p : Nat} {e : Int} {v : Value} {Ps : List Pr} (h : DT w W b p e v Ps) : (∀ x ∈ Ps, ∀ g, cb x = some g → g < W.heap.size) ∧ (∀ g, v.ownBlock = some g → g < W.heap.size) ∧ w.heap.size + 2 ≤ W.heap.size :=
  ⟨fun x hx g hg => ((h.ok x hx).lt g hg).2, fun g hg => (h.own.lt g hg).2, by have := h.rd.lt; omega⟩
/-- behind the append -/
theorem DT.put {w W W' : World} {b : List Nat} {p S : Nat} {e : Int} {v v' : Value} {Ps : List Pr} {x : Pr} (h : DT w W b p e v Ps) (hx : PrC W S x) (h1 : ∀ y ∈ Ps, ∀ g, cb y = some g → g < S) (h2 : ∀ g, v.ownBlock = some g → g < S) (h3 : w.heap.size + 2 ≤ S)
    (ho : OwnP W' (w.heap.size + 2) v' (Ps ++ [x])) (hg : W.grownBy W' v.ownBlock) (hv : v'.ownBlock = v.ownBlock ∨ v'.ownBlock = some W.heap.size) : DT w W' b p e v' (Ps ++ [x]) := by
  have hvb : ∀ k, v.ownBlock = some k → w.heap.size + 2 ≤ k := fun k hk => (h.own.lt k hk).1
  have hs : ∀ g, g < W.heap.size → v.ownBlock ≠ some g → W'.heap[g]? = W.heap[g]? := fun g hl hn => hg.block g hl (fun e => hn e.symm)
  have hxc : PrC W' (w.heap.size + 2) x := by
    have := hx.same (W' := W') fun g hg' => hs g (hx.lt g hg').2 fun e => by have := h2 g e; have := (hx.lt g hg').1; omega
    exact ⟨this.len, this.own.mono h3, this.nin, this.kin, this.str, this.big⟩
  refine ⟨?_, ?_, ho, ?_, ?_, ?_⟩
  · refine h.rd.grown hg (fun e => ?_) (.inr fun e => ?_)
    · have := hvb _ e.symm; omega
    · have := hvb w.heap.size e.symm; omega
  · exact ⟨hg.os.trans h.bel.os, hg.tape.trans h.bel.tape, hg.output.trans h.bel.output, Nat.le_trans h.bel.size hg.size, fun k hk => by
      rw [hs k (Nat.lt_of_lt_of_le hk h.bel.size) (fun e => by have := hvb k e; omega)]; exact h.bel.block k hk⟩
  · intro y hy
    rcases List.mem_append.1 hy with hy | hy
    · exact (h.ok y hy).same fun g hg' => hs g ((h.ok y hy).lt g hg').2 (h.ap y hy g hg')
    · simp at hy; subst hy; exact hxc
  · intro y hy g hg' e
    have hgl : g < W.heap.size := by
      rcases List.mem_append.1 hy with hy | hy
      · exact ((h.ok y hy).lt g hg').2
      · simp at hy; subst hy; exact (hx.lt g hg').2
    rcases hv with hv | hv
    · rw [hv] at e
      rcases List.mem_append.1 hy with hy | hy
      · exact h.ap y hy g hg' e
      · simp at hy; subst hy
        have := h2 g e
        have := (hx.lt g hg').1
        omega
    · rw [hv] at e; cases e; omega
  · rw [List.pairwise_append]
    refine ⟨h.pw, List.pairwise_singleton _ _, fun y hy z hz g hg' e => ?_⟩
    simp at hz; subst hz
    have := h1 y hy g hg'
    have := (hx.lt g e).1
    omega
theorem DT.lib {w W : World} {b : List Nat} {p : Nat} {e : Int} {ao : Option Addr} {n cap : Nat} {Ps : List Pr} (h : DT w W b p e (.slice ao n cap) Ps) : LibAt W ao Ps ∧ n = Ps.length ∧ n ≤ cap := by
  obtain ⟨ao', cap', e', hk, _, hc⟩ := h.own.slice
  simp only [Value.slice.injEq] at e'
  obtain ⟨e1, e2, e3⟩ := e'
  exact ⟨⟨by rw [e1]; exact hk, fun x hx => (h.ok x hx).ok⟩, e2, by rw [e2, e3]; exact hc⟩
/-- what Decode answers -/
def RPost (w : World) (b : List Nat) (e' : Ending) (W : World) : Prop :=
  Below w.heap.size w W ∧
  ((decE b ≠ 0 ∧ e' = .returned (.tuple #[.slice none 0 0, .int .i64 0, .int .i64 (decE b)])) ∨
   (decE b = 0 ∧ ∃ Ps ao cap p, Ps.map core = (decA b).1 ∧ DT w W b p 0 (.slice ao Ps.length cap) Ps ∧
     (((checkN Ps).2 ≠ 0 ∧ e' = .returned (.tuple #[.slice none 0 0, .int .i64 ((checkN Ps).1 : Int), .int .i64 (checkN Ps).2])) ∨
      ((checkN Ps).2 = 0 ∧ e' = .returned (.tuple #[.slice ao Ps.length cap, .int .i64 0, .int .i64 0])))))
end Go.Proofs.YtkmafpfldnapjaaGreatDoor
