/-
  THE k-TH CALL, READ BACK: of what was written, and of a part of it.
-/
import Derived.Test.YthdlilekilkogaaBackMath
namespace Go.Proofs.Ythdlilekilkogaa
open Go.RowKit

section
variable (ops : List OpV) (k : Nat) (hk : k < ops.length) {kind : Int} {n : Nat} {bs : List Nat} (hkind : (ops.getD k default).kind = kind) (hn : (ops.getD k default).n = n) (hbs : (ops.getD k default).bs = bs)
theorem enc_of : encOp (ops.getD k default) = encOp ⟨(ops.getD k default).kind, (ops.getD k default).n, (ops.getD k default).bs, 0, false⟩ := rfl
include hk hkind hn in
theorem back_byte (h : kind = 1) : rdByte (encs ops) (posOp ops k) 0 = (n % 256, posOp ops (k + 1), 0) := by
  have e : encOp (ops.getD k default) = [n % 256] := by unfold encOp; rw [hkind, hn, if_pos h]
  rw [posOp_succ ops k hk, e]
  exact rdByte_at _ _ _ (encs (ops.drop (k + 1))) (by rw [encs_at ops k hk, e]; rfl)
include hk hkind hn in
theorem back_uint (h : kind = 2 ∨ kind = 6) (hn64 : n < 18446744073709551616) (most : Nat) (hm : n ≤ most) : rdUpto (encs ops) (posOp ops k) 0 most = (n, posOp ops (k + 1), 0) := by
  have e : encOp (ops.getD k default) = uint 10 n := by unfold encOp; rw [hkind, hn, if_neg (by omega), if_pos h]
  rw [posOp_succ ops k hk, e]
  exact rdUpto_at _ _ _ _ _ hn64 hm (by rw [encs_at ops k hk, e])
include hk hkind hn in
theorem back_int (h : kind = 3) : rdUpto (encs ops) (posOp ops k) 0 18446744073709551615 = (fold (sgn n), posOp ops (k + 1), 0) := by
  have e : encOp (ops.getD k default) = uint 10 (fold (sgn n)) := by unfold encOp; rw [hkind, hn, if_neg (by omega), if_neg (by omega), if_pos h]
  have hf := fold_lt (sgn n) (sgn_range n).1 (sgn_range n).2
  rw [posOp_succ ops k hk, e]
  exact rdUpto_at _ _ _ _ _ hf (by omega) (by rw [encs_at ops k hk, e])
include hk hkind hbs in
theorem back_bytes (h : kind = 4) (hl : bs.length < 18446744073709551616) : rdBytes (encs ops) (posOp ops k) 0 (bs.length : Int) = (bs, posOp ops (k + 1), 0) := by
  have e : encOp (ops.getD k default) = uint 10 bs.length ++ bs := by unfold encOp; rw [hkind, hbs, if_neg (by omega), if_neg (by omega), if_neg (by omega), if_pos h]
  rw [posOp_succ ops k hk, e]
  exact rdBytes_at _ _ _ _ hl (by rw [encs_at ops k hk, e])
include hk hkind hbs in
theorem back_raw (h : kind = 5) : rdRaw (encs ops) (posOp ops k) 0 (bs.length : Int) = (bs, posOp ops (k + 1), 0) := by
  have e : encOp (ops.getD k default) = bs := by unfold encOp; rw [hkind, hbs, if_neg (by omega), if_neg (by omega), if_neg (by omega), if_neg (by omega), if_pos h]
  rw [posOp_succ ops k hk, e]
  exact rdRaw_at _ _ _ _ (by rw [encs_at ops k hk, e])
include hk hkind in
theorem back_none (h1 : ¬ kind = 1) (h2 : ¬ kind = 2) (h6 : ¬ kind = 6) (h3 : ¬ kind = 3) (h4 : ¬ kind = 4) (h5 : ¬ kind = 5) : posOp ops (k + 1) = posOp ops k := by
  have e : encOp (ops.getD k default) = [] := by unfold encOp; rw [hkind, if_neg h1, if_neg (by omega), if_neg h3, if_neg h4, if_neg h5]
  rw [posOp_succ ops k hk, e]; rfl

/-! Of a part: b ++ T = encs ops; e: what was wrong so far. -/
variable {b T : List Nat} (hbT : encs ops = b ++ T) {p : Nat} {e : Int} (hp : p ≤ b.length) (he : e = 0 → p = posOp ops k)
include hk hkind hn hbT hp he in
theorem part_byte (h : kind = 1) : (rdByte b p e).2.2 = 0 → (rdByte b p e).2.1 = posOp ops (k + 1) := by
  intro h0
  have e0 : e = 0 := by
    apply Classical.byContradiction
    intro hne
    unfold rdByte at h0; rw [if_pos hne] at h0; exact hne h0
  subst e0
  have h1 := rdByte_more b T p hp h0
  rw [← h1, ← hbT, he rfl, back_byte ops k hk hkind hn h]
include hk hkind hn hbT hp he in
theorem part_uint (h : kind = 2 ∨ kind = 6) (hn64 : n < 18446744073709551616) : (rdUpto b p e 18446744073709551615).2.2 = 0 → (rdUpto b p e 18446744073709551615).2.1 = posOp ops (k + 1) := by
  intro h0
  have e0 : e = 0 := by
    apply Classical.byContradiction
    intro hne
    unfold rdUpto at h0; rw [if_pos hne] at h0; exact hne h0
  subst e0
  have h1 := rdUpto_more b T p _ hp h0
  rw [← h1, ← hbT, he rfl, back_uint ops k hk hkind hn h hn64 _ (by omega)]
include hk hkind hn hbT hp he in
theorem part_int (h : kind = 3) : (rdUpto b p e 18446744073709551615).2.2 = 0 → (rdUpto b p e 18446744073709551615).2.1 = posOp ops (k + 1) := by
  intro h0
  have e0 : e = 0 := by
    apply Classical.byContradiction
    intro hne
    unfold rdUpto at h0; rw [if_pos hne] at h0; exact hne h0
  subst e0
  have h1 := rdUpto_more b T p _ hp h0
  rw [← h1, ← hbT, he rfl, back_int ops k hk hkind hn h]
include hk hkind hbs hbT hp he in
theorem part_bytes (hz : ∀ z ∈ b, z < 256) (h : kind = 4) (hl : bs.length < 18446744073709551616) : (rdBytes b p e (bs.length : Int)).2.2 = 0 → (rdBytes b p e (bs.length : Int)).2.1 = posOp ops (k + 1) := by
  intro h0
  have e0 : e = 0 := by
    apply Classical.byContradiction
    intro hne
    unfold rdBytes at h0; rw [if_pos hne] at h0; exact hne h0
  subst e0
  have h1 := rdBytes_more b T hz p _ hp h0
  rw [← h1, ← hbT, he rfl, back_bytes ops k hk hkind hbs h hl]
include hk hkind hbs hbT hp he in
theorem part_raw (h : kind = 5) : (rdRaw b p e (bs.length : Int)).2.2 = 0 → (rdRaw b p e (bs.length : Int)).2.1 = posOp ops (k + 1) := by
  intro h0
  have e0 : e = 0 := by
    apply Classical.byContradiction
    intro hne
    unfold rdRaw at h0; rw [if_pos hne] at h0; exact hne h0
  subst e0
  have h1 := rdRaw_more b T p _ hp h0
  rw [← h1, ← hbT, he rfl, back_raw ops k hk hkind hbs h]
end

end Go.Proofs.Ythdlilekilkogaa
