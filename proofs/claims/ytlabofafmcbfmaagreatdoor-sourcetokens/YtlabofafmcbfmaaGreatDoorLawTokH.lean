/-
  SourceTokens: what both Tokens leave, long texts too; the rows at the law's end.
-/
import Derived.Test.YtlabofafmcbfmaaGreatDoorSrTks
import Derived.Test.YtlabofafmcbfmaaGreatDoorSrTD
import Derived.Test.YtlabofafmcbfmaaGreatDoorSrFlt
import Derived.Test.YtlabofafmcbfmaaGreatDoorSrSame
namespace Go.Proofs.YtlabofafmcbfmaaGreatDoor
open Go.RowKit Go.Sort

abbrev ftT (x y z : Int) : Value := .agg #[.int .i64 x, .int .i64 y, .int .i64 z]
/-- what is told of a text: the fault, the tokens -/
def tkOut (L : List UInt8) : (Int × Int × Int) × List Tok :=
  if L.length ≤ 65536 then match tksA L with
    | .ok ts => ((0, 0, 0), ts)
    | .er p e => (((p.1 : Int), (p.2 : Int), (e : Int)), [])
  else ((0, 0, 44), [])
theorem tkR_len (L : List UInt8) : ∀ (f k : Nat) (acc ts : List Tok), tkR L f k acc = .ok ts → k ≤ L.length → ts.length + k ≤ acc.length + L.length
  | 0, k, acc, ts, h, hk => by
    simp only [tkR, TR.ok.injEq] at h
    subst h
    omega
  | f + 1, k, acc, ts, h, hk => by
    rw [tkR_tkE] at h
    unfold tkE at h
    have h9 := KL_le (L.drop k)
    rw [List.length_drop] at h9
    by_cases h0 : L.drop (k + KL (L.drop k)) = []
    · rw [if_pos h0] at h
      simp only [TR.ok.injEq] at h
      subst h
      omega
    · rw [if_neg h0] at h
      cases ht : tokA (L.drop (k + KL (L.drop k))) with
      | er x => rw [ht] at h; cases h
      | ok kd t n =>
        rw [ht] at h
        have h1 := tokA_pos h0 ht
        have h2 := h1.2.1
        rw [List.length_drop] at h2
        have h3 := tkR_len L f _ _ ts h (by omega)
        rw [List.length_append, List.length_singleton] at h3
        have := h1.1
        omega
theorem tkOut_len (L : List UInt8) : (tkOut L).2.length ≤ 65536 := by
  unfold tkOut
  by_cases h : L.length ≤ 65536
  · rw [if_pos h]
    cases ht : tksA L with
    | er p e => simp
    | ok ts =>
      have := tkR_len L _ 0 [] ts ht (by omega)
      simp only [List.length_nil] at this
      simp only
      omega
  · rw [if_neg h]; simp
set_option maxRecDepth 100000 in
theorem rtokLong_any (w : World) (L : List UInt8) (h : 65536 < L.length) : Calls Tryz.prog 4 #[.string (S L)] w fun e w' => e = .returned (.tuple #[.slice none 0 0, ftT 0 0 44]) ∧ Below w.heap.size w w' := by
  have hs : (65536 : Int) < ((S L).size : Int) := by rw [S_size]; omega
  have HB : Hid (∀ o, Below w.heap.size w (w.alloc o)) := fun o => bel_al w o
  go_enter Tryz.func4, Tryz.ntmps4
  go_wp2_with fail
  exact bodyPost_ret (v := .tuple #[.slice none 0 0, ftT 0 0 44]) (by simp [results, Tryz.results4, go_sem]) rfl ⟨rfl, HB.out _⟩
set_option maxRecDepth 100000 in
theorem tokLong_any (w : World) (L : List UInt8) (h : 65536 < L.length) : Calls Tryz.prog 5 #[.string (S L)] w fun e w' => e = .returned (.tuple #[.slice none 0 0, .iface 45 (.int .i64 44)]) ∧ w' = w := by
  have hs : (65536 : Int) < ((S L).size : Int) := by rw [S_size]; omega
  go_enter Tryz.func5, Tryz.ntmps5
  go_wp2_with fail
  go_ret2
  exact ⟨rfl, rfl⟩
theorem docT_any (w : World) (L : List UInt8) : Calls Tryz.prog 4 #[.string (S L)] w fun e w' => ∃ go gc, e = .returned (.tuple #[.slice go (tkOut L).2.length gc, ftT (tkOut L).1.1 (tkOut L).1.2.1 (tkOut L).1.2.2]) ∧ OwnT w' w.heap.size (.slice go (tkOut L).2.length gc) (tkOut L).2 ∧ Below w.heap.size w w' := by
  by_cases h : L.length ≤ 65536
  · refine (rtokens_any w L h).mono fun e w' hp => ?_
    unfold tkOut
    rw [if_pos h]
    cases ht : tksA L with
    | ok ts =>
      rw [ht] at hp
      obtain ⟨a, c, h1, h2, h3⟩ := hp
      exact ⟨a, c, h1, h2, h3⟩
    | er p x =>
      rw [ht] at hp
      obtain ⟨h1, h2⟩ := hp
      exact ⟨none, 0, h1, OwnT.nil _ _, h2⟩
  · refine (rtokLong_any w L (by omega)).mono fun e w' ⟨h1, h2⟩ => ?_
    unfold tkOut
    rw [if_neg h]
    exact ⟨none, 0, h1, OwnT.nil _ _, h2⟩
/-- an error's value: what fault says of it -/
def FltT (W : World) (v : Value) (x y z : Int) : Prop := ∀ W', Below W.heap.size W W' → Calls Tryz.prog 6 #[v] W' fun e w' => e = .returned (ftT x y z) ∧ Below W'.heap.size W' w'
theorem codT_any (w : World) (L : List UInt8) (hT : TabsOK w) (hP : PairVar w) (hN : NumVars w) (hM : MLen w) (he : ErrVar w) (hB : 10 ≤ w.heap.size) : Calls Tryz.prog 5 #[.string (S L)] w fun e w' => ∃ ao ac v, e = .returned (.tuple #[.slice ao (tkOut L).2.length ac, v]) ∧ OwnT w' w.heap.size (.slice ao (tkOut L).2.length ac) (tkOut L).2 ∧ FltT w' v (tkOut L).1.1 (tkOut L).1.2.1 (tkOut L).1.2.2 ∧ (v = .nilIface ∨ ∃ t p, v = .iface t p) ∧ Below w.heap.size w w' := by
  by_cases h : L.length ≤ 65536
  · refine (tokens_any w L h hT hP hN hM).mono fun e w' hp => ?_
    unfold tkOut
    rw [if_pos h]
    cases ht : tksA L with
    | ok ts =>
      rw [ht] at hp
      obtain ⟨a, c, h1, h2, h3⟩ := hp
      exact ⟨a, c, .nilIface, h1, h2, fun W' _ => faultNil_any W', .inl rfl, h3⟩
    | er p x =>
      rw [ht] at hp
      obtain ⟨v, h1, h2, h3⟩ := hp
      refine ⟨none, 0, v, h1, OwnT.nil _ _, fun W' hb' => ?_, ?_, h3⟩
      · have hs := h3.size
        have hs2 := hb'.size
        exact fault_any W' v p.1 p.2 (x : Int) (h2.kept hb') ((he.bel h3 hB).bel hb' (by omega)) (by omega)
      · obtain ⟨b, rfl, _⟩ := h2
        exact .inr ⟨_, _, rfl⟩
  · refine (tokLong_any w L (by omega)).mono fun e w' ⟨h1, h2⟩ => ?_
    unfold tkOut
    rw [if_neg h]
    subst h2
    exact ⟨none, 0, _, h1, OwnT.nil _ _, fun W' hb' => faultLong_any W' (he.bel hb' hB) (by have := hb'.size; omega), .inr ⟨_, _, rfl⟩, Below.refl _ _⟩
/-- the rows at the law's end: one that is written over and grown, two that stay -/
structure TL (w U : World) (A0 : Nat) (va : Value) (m : Nat) (vb vq : Value) (b0 q0 : Nat) (ts : List Tok) : Prop where
  ra : ∃ xs, U.ownsRow A0 36 5 va m xs
  rb : OwnT U b0 vb ts
  rq : OwnT U q0 vq ts
  ab : ∀ g, va.ownBlock = some g → vb.ownBlock ≠ some g
  aq : ∀ g, va.ownBlock = some g → vq.ownBlock ≠ some g
  bel : Below w.heap.size w U
  lo : w.heap.size ≤ A0
  hi : A0 ≤ U.heap.size
section
variable {w U U' : World} {A0 : Nat} {va vb vq : Value} {m b0 q0 : Nat} {ts : List Tok}
theorem TL.below (h : TL w U A0 va m vb vq b0 q0 ts) (hb : Below U.heap.size U U') : TL w U' A0 va m vb vq b0 q0 ts := by
  obtain ⟨xs, hx⟩ := h.ra
  exact ⟨⟨xs, ownsRow_same hx (fun g hg => hb.block g (World.ownsRow.lt hx g hg).2)⟩, h.rb.kept hb, h.rq.kept hb, h.ab, h.aq, h.bel.trans (hb.mono h.bel.size), h.lo, Nat.le_trans h.hi hb.size⟩
theorem TL.set {g c : Nat} (h : TL w U A0 (.slice (some ⟨g, 0, none⟩) m c) m vb vq b0 q0 ts) (j : Nat) (x : Value) : TL w (U.setCell ⟨g, j, none⟩ x) A0 (.slice (some ⟨g, 0, none⟩) m c) m vb vq b0 q0 ts := by
  obtain ⟨xs, hx⟩ := h.ra
  have hlt := World.ownsRow.lt hx g rfl
  have oth : ∀ k, k ≠ g → (U.setCell ⟨g, j, none⟩ x).heap[k]? = U.heap[k]? := fun k hk => heap_setCell_other U ⟨g, j, none⟩ k x hk
  exact ⟨⟨_, own_set hx j x⟩, ownsRow_same h.rb (fun k hk => oth k (fun e => h.ab g rfl (by rw [← e]; exact hk))), ownsRow_same h.rq (fun k hk => oth k (fun e => h.aq g rfl (by rw [← e]; exact hk))), h.ab, h.aq, h.bel.setCell (p := ⟨g, j, none⟩) (by have := h.lo; show _ ≤ g; omega) x, h.lo, by have := h.hi; simpa using this⟩
theorem TL.app (h : TL w U A0 va m vb vq b0 q0 ts) (hm : m ≤ 1000000) (k : Value) (hk : k.oneCell' = true) (ty : TypeId) : ∃ v' w', (Builtin.append_ #[22, 22] ty #[va, .slice (some ⟨U.heap.size, 0, none⟩) 1 1]).run Tryz.prog (U.alloc (.cells #[k, .string ⟨#[]⟩, .int .i64 0, .int .i64 0, .int .i64 0] 36)) = .ok v' w' ∧ TL w w' A0 v' (m + 1) vb vq b0 q0 ts ∧ ∃ a' c', v' = .slice a' (m + 1) c' := by
  obtain ⟨xs, hx⟩ := h.ra
  have hb := bel_al U (.cells #[k, .string ⟨#[]⟩, .int .i64 0, .int .i64 0, .int .i64 0] 36)
  have hT := h.below hb
  have hx2 : (U.alloc (.cells #[k, .string ⟨#[]⟩, .int .i64 0, .int .i64 0, .int .i64 0] 36)).ownsRow A0 36 5 va m xs := ownsRow_same hx (fun g hg => hb.block g (World.ownsRow.lt hx g hg).2)
  obtain ⟨v', w', hr, ho, hc⟩ := appC tokE ty A0 va m xs hx2 ⟨U.heap.size, 0, none⟩ 1 1 [k, .string ⟨#[]⟩, .int .i64 0, .int .i64 0, .int .i64 0] rfl (src_at U _ _) (by intro u hu; simp at hu; rcases hu with rfl | rfl | rfl <;> first | rfl | exact hk) (by omega) (Nat.le_trans h.hi hb.size)
  refine ⟨v', w', hr, ?_, ?_⟩
  · rcases hc with ⟨g, cap, e1, e2, hg⟩ | ⟨ho2, hg⟩
    · subst e1 e2
      have hbl : Below w.heap.size w w' := hT.bel.trans ((below_grownS hg (B := A0) (fun g' e => by cases e; exact (World.ownsRow.lt hx g rfl).1) hT.hi).mono hT.lo)
      exact ⟨⟨_, ho⟩, ownsRow_same hT.rb (fun k9 hk9 => hg.block k9 (World.ownsRow.lt hT.rb k9 hk9).2 (fun e => by cases e; exact h.ab g rfl hk9)), ownsRow_same hT.rq (fun k9 hk9 => hg.block k9 (World.ownsRow.lt hT.rq k9 hk9).2 (fun e => by cases e; exact h.aq g rfl hk9)), h.ab, h.aq, hbl, h.lo, Nat.le_trans hT.hi hg.size⟩
    · have hbl : Below w.heap.size w w' := hT.bel.trans ((below_grownS hg (B := (U.alloc (.cells #[k, .string ⟨#[]⟩, .int .i64 0, .int .i64 0, .int .i64 0] 36)).heap.size) (fun g' e => by cases e) (Nat.le_refl _)).mono hT.bel.size)
      refine ⟨⟨_, ho⟩, ownsRow_same hT.rb (fun k9 hk9 => hg.block k9 (World.ownsRow.lt hT.rb k9 hk9).2 (fun e => by cases e)), ownsRow_same hT.rq (fun k9 hk9 => hg.block k9 (World.ownsRow.lt hT.rq k9 hk9).2 (fun e => by cases e)), fun g hg9 e => ?_, fun g hg9 e => ?_, hbl, h.lo, Nat.le_trans hT.hi hg.size⟩
      · have q1 := (World.ownsRow.lt ho2 g hg9).1
        have q2 := (World.ownsRow.lt hT.rb g e).2
        omega
      · have q1 := (World.ownsRow.lt ho2 g hg9).1
        have q2 := (World.ownsRow.lt hT.rq g e).2
        omega
  · obtain ⟨a', c', e, _⟩ := own_slice ho
    exact ⟨a', c', e⟩
end
end Go.Proofs.YtlabofafmcbfmaaGreatDoor
