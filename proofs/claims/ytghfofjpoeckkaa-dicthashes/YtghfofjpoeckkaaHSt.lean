/-
  DictHashes: what stands in the law's loop.
-/
import Derived.Test.YtghfofjpoeckkaaHCut
namespace Go.Proofs.Ytghfofjpoeckkaa
open Go.RowKit Go.Sort

theorem noStr : NoD 9 := by unfold NoD TL TE; decide
theorem noPr : NoD 28 := by unfold NoD TL TE; decide
theorem noWr : NoD 34 := by unfold NoD TL TE; decide
theorem okS : PartOK fS hShort := fun w D M L P es k hk h => part_short hShort hash_short (fun k hk => by have : k.size ≤ maxLen := hk; unfold maxLen at this; unfold hShort; omega) w D M L P es k hk h
theorem okL : PartOK fL hLong := fun w D M L P es k hk h => part_long hLong hash_long (fun k _ => longN_lt k _) w D M L P es k hk h
theorem okN : PartOK fN hash0 := fun w D M L P es k hk h => part_nil hash0 hash_nil (fun k _ => by simp [hash0]) w D M L P es k hk h
/-- a Write -/
structure Wr where
  t : K
  n : Int
  o : Bool
def WrsAt (w : World) (ao : Option Addr) (ws : List Wr) : Prop := ∀ i (hi : i < ws.length), ∃ b off, ao = some ⟨b, off, none⟩ ∧ w.cell? ⟨b, off + i * 3, none⟩ = some (.string ws[i].t) ∧ w.cell? ⟨b, off + i * 3 + 1, none⟩ = some (.int .i64 ws[i].n) ∧ w.cell? ⟨b, off + i * 3 + 2, none⟩ = some (.bool ws[i].o)
theorem WrsAt.kept {w w' : World} {ao : Option Addr} {ws : List Wr} (h : WrsAt w ao ws) (hb : Below w.heap.size w w') : WrsAt w' ao ws := fun i hi => by
  obtain ⟨b, off, e, c0, c1, c2⟩ := h i hi
  exact ⟨b, off, e, (hb.cell (p := ⟨b, off + i * 3, none⟩) (cell_lt c0)).trans c0, (hb.cell (p := ⟨b, off + i * 3 + 1, none⟩) (cell_lt c1)).trans c1, (hb.cell (p := ⟨b, off + i * 3 + 2, none⟩) (cell_lt c2)).trans c2⟩
theorem own_blk {w : World} {base T sz n g : Nat} {v : Value} {xs : List Value} (h : w.ownsRow base T sz v n xs) (hg : v.ownBlock = some g) : ∃ cur, w.heap[g]? = some (.cells cur T (0, 0)) := by
  obtain ⟨_, ⟨rfl, _⟩ | ⟨g', cap, cur, rfl, _, hh, _⟩⟩ := h
  · cases hg
  · cases hg; exact ⟨cur, hh⟩
theorem own_same {w w' : World} {base T sz n : Nat} {v : Value} {xs : List Value} (h : w.ownsRow base T sz v n xs) (hs : ∀ g, v.ownBlock = some g → w'.heap[g]? = w.heap[g]?) : w'.ownsRow base T sz v n xs := by
  obtain ⟨hl, h⟩ := h
  refine ⟨hl, ?_⟩
  rcases h with h | ⟨g, cap, cur, rfl, hg, hh, r⟩
  · exact .inl h
  · exact .inr ⟨g, cap, cur, rfl, hg, (hs g rfl).trans hh, r⟩
theorem own_base {w : World} {base base' T sz n : Nat} {v : Value} {xs : List Value} (h : w.ownsRow base T sz v n xs) (hb : base' ≤ base) : w.ownsRow base' T sz v n xs := by
  obtain ⟨hl, h⟩ := h
  refine ⟨hl, ?_⟩
  rcases h with h | ⟨g, cap, cur, rfl, hg, r⟩
  · exact .inl h
  · exact .inr ⟨g, cap, cur, rfl, by omega, r⟩
theorem own_frT {w w' : World} {base T sz n : Nat} {v : Value} {xs : List Value} (h : w.ownsRow base T sz v n xs) (hT : NoD T) (hf : FrT w w') : w'.ownsRow base T sz v n xs := own_same h fun g hg => by
  obtain ⟨cur, hc⟩ := own_blk h hg
  rw [hf.block g cur T hc hT, hc]
theorem own_kept {w w' : World} {base T sz n : Nat} {v : Value} {xs : List Value} (h : w.ownsRow base T sz v n xs) (hb : Below w.heap.size w w') : w'.ownsRow base T sz v n xs := own_same h fun g hg => hb.block g (World.ownsRow.lt h g hg).2
theorem own_form {w : World} {base T sz n : Nat} {v : Value} {xs : List Value} (h : w.ownsRow base T sz v n xs) : ∃ a c, v = .slice a n c := by
  obtain ⟨_, ⟨rfl, rfl⟩ | ⟨g, cap, cur, rfl, _⟩⟩ := h
  · exact ⟨_, _, rfl⟩
  · exact ⟨_, _, rfl⟩
theorem own_strAt {W : World} {base n : Nat} {oa : Option Addr} {oc : Nat} {ks : List K} (h : W.ownsRow base 9 1 (.slice oa n oc) n (sks ks)) (hn : n = ks.length) : StrAt W oa ks := by
  obtain ⟨hl, ⟨_, h0⟩ | ⟨g, cap, cur, e, r⟩⟩ := h
  · intro i hi; omega
  · simp only [Value.slice.injEq] at e
    obtain ⟨e1, _, e3⟩ := e
    subst e1 e3
    exact own_strs ⟨hl, .inr ⟨g, oc, cur, rfl, r⟩⟩ hn
theorem own_prsAt {W : World} {base n : Nat} {va : Option Addr} {vc : Nat} {vs : List (Int × Int)} (h : W.ownsRow base 28 2 (.slice va n vc) n (prs vs)) (hn : n = vs.length) : PrsAt W va vs := by
  obtain ⟨hl, ⟨_, h0⟩ | ⟨g, cap, cur, e, r⟩⟩ := h
  · intro i hi; omega
  · simp only [Value.slice.injEq] at e
    obtain ⟨e1, _, e3⟩ := e
    subst e1 e3
    have h' : W.ownsRow base 28 2 (.slice (some ⟨g, 0, none⟩) n vc) n (prs vs) := ⟨hl, .inr ⟨g, vc, cur, rfl, r⟩⟩
    intro i hi
    obtain ⟨p0, p1⟩ := prs_at vs i hi
    refine ⟨g, 0, rfl, ?_, ?_⟩
    · rw [Nat.zero_add, World.ownsRow.cellAt h' (i * 2) (by omega), p0]
    · rw [Nat.zero_add, World.ownsRow.cellAt h' (i * 2 + 1) (by omega), p1]
theorem wr_cells {W : World} {B : Nat} {t : K} {n : Int} {o : Bool} (h : W.heap[B]? = some (.cells #[.string t, .int .i64 n, .bool o] 34 (0, 0))) : W.cell? ⟨B, 0, none⟩ = some (.string t) ∧ W.cell? ⟨B, 1, none⟩ = some (.int .i64 n) ∧ W.cell? ⟨B, 2, none⟩ = some (.bool o) := ⟨by simp [World.cell?, h], by simp [World.cell?, h], by simp [World.cell?, h]⟩
/-- where a text stands among the first k -/
def AtI (ks : List K) (t : K) (k : Nat) (a : Int) : Prop := (a = -1 ∧ ∀ i (_ : i < k) (hi : i < ks.length), ks[i] ≠ t) ∨ ∃ j : Nat, j < k ∧ a = (j : Int) ∧ ∃ hj : j < ks.length, ks[j] = t
theorem AtI.start (ks : List K) (t : K) : AtI ks t 0 (-1) := .inl ⟨rfl, fun i hi => by omega⟩
theorem AtI.hit {ks : List K} {t : K} {k : Nat} (hk : k < ks.length) (h : ks[k] = t) : AtI ks t (k + 1) (k : Int) := .inr ⟨k, by omega, rfl, hk, h⟩
theorem AtI.miss {ks : List K} {t : K} {k : Nat} {a : Int} (h : AtI ks t k a) (hk : k < ks.length) (hne : ks[k] ≠ t) : AtI ks t (k + 1) a := by
  rcases h with ⟨e, h⟩ | ⟨j, h1, h2⟩
  · refine .inl ⟨e, fun i hi hl => ?_⟩
    by_cases hik : i = k
    · subst hik; exact hne
    · exact h i (by omega) hl
  · exact .inr ⟨j, by omega, h2⟩
/-- in the round: the three lists, the rows, the three boxes -/
structure Stg (n0 Pa Pb Da Db Dc : Nat) (w W : World) (l la lb lc : List (K × (Int × Int))) (ov vv : Value) (B16 B19 B20 : Nat) (x : Wr) (hd v : Int × Int) : Prop where
  t3 : T3 n0 Pa Pb Da Db Dc la lb lc W
  os : W.ownsRow n0 9 1 ov l.length (sks (l.map Prod.fst))
  vs : W.ownsRow n0 28 2 vv l.length (prs (l.map Prod.snd))
  bel : Below n0 w W
  le : n0 ≤ w.heap.size
  x16 : W.heap[B16]? = some (.cells #[.string x.t, .int .i64 x.n, .bool x.o] 34 (0, 0))
  x19 : W.heap[B19]? = some (.cells #[.int .i64 hd.1, .int .i64 hd.2] 28 (0, 0))
  x20 : W.heap[B20]? = some (.cells #[.int .i64 v.1, .int .i64 v.2] 28 (0, 0))
section
variable {n0 Pa Pb Da Db Dc : Nat} {w W W' : World} {l la lb lc la' lb' lc' : List (K × (Int × Int))} {ov vv : Value} {B16 B19 B20 : Nat} {x : Wr} {hd v : Int × Int}
theorem Stg.op (h : Stg n0 Pa Pb Da Db Dc w W l la lb lc ov vv B16 B19 B20 x hd v) (ht : T3 n0 Pa Pb Da Db Dc la' lb' lc' W') (hf : FrT W W') (hb : Below n0 W W') : Stg n0 Pa Pb Da Db Dc w W' l la' lb' lc' ov vv B16 B19 B20 x hd v :=
  ⟨ht, own_frT h.os noStr hf, own_frT h.vs noPr hf, h.bel.trans hb, h.le, hf.block _ _ _ h.x16 noWr, hf.block _ _ _ h.x19 noPr, hf.block _ _ _ h.x20 noPr⟩
theorem Stg.kept (h : Stg n0 Pa Pb Da Db Dc w W l la lb lc ov vv B16 B19 B20 x hd v) (hb : Below W.heap.size W W') : Stg n0 Pa Pb Da Db Dc w W' l la lb lc ov vv B16 B19 B20 x hd v :=
  ⟨h.t3.same hb, own_kept h.os hb, own_kept h.vs hb, h.bel.trans (hb.mono (Nat.le_trans h.le h.bel.size)), h.le, (hb.block _ (blk_lt h.x16)).trans h.x16, (hb.block _ (blk_lt h.x19)).trans h.x19, (hb.block _ (blk_lt h.x20)).trans h.x20⟩
theorem Stg.n0s (h : Stg n0 Pa Pb Da Db Dc w W l la lb lc ov vv B16 B19 B20 x hd v) : n0 ≤ W.heap.size := Nat.le_trans h.le h.bel.size
end
/-- between the rounds -/
structure HLs (n0 Pa Pb Da Db Dc : Nat) (w W : World) (l : List (K × (Int × Int))) (ov vv : Value) : Prop where
  t3 : T3 n0 Pa Pb Da Db Dc l l l W
  os : W.ownsRow n0 9 1 ov l.length (sks (l.map Prod.fst))
  vs : W.ownsRow n0 28 2 vv l.length (prs (l.map Prod.snd))
  bel : Below n0 w W
  le : n0 ≤ w.heap.size
theorem HLs.kept {n0 Pa Pb Da Db Dc : Nat} {w W W' : World} {l : List (K × (Int × Int))} {ov vv : Value} (h : HLs n0 Pa Pb Da Db Dc w W l ov vv) (hb : Below W.heap.size W W') : HLs n0 Pa Pb Da Db Dc w W' l ov vv :=
  ⟨h.t3.same hb, own_kept h.os hb, own_kept h.vs hb, h.bel.trans (hb.mono (Nat.le_trans h.le h.bel.size)), h.le⟩
theorem HLs.keys {n0 Pa Pb Da Db Dc : Nat} {w W : World} {l : List (K × (Int × Int))} {ov vv : Value} (h : HLs n0 Pa Pb Da Db Dc w W l ov vv) : (l.map Prod.fst).Nodup ∧ ∀ p ∈ l, KIn p.1 := by
  obtain ⟨Xa, Xb, Xc, ⟨ha, _⟩, _⟩ := h.t3
  exact ha.nodup
end Go.Proofs.Ytghfofjpoeckkaa
